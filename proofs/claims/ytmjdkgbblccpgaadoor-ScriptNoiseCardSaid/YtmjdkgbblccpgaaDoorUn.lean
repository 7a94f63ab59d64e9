/- script.lineText. -/
import Derived.Test.YtmjdkgbblccpgaaDoorUm
import Derived.Lib.ItoaLen
import Derived.Sort.Grow
namespace Go.Proofs.YtmjdkgbblccpgaaDoor
open Go.RowKit

def itoaB (n : Int) : ByteArray := toB (Lib.itoa n)
def quotedB (t : ByteArray) : ByteArray := toB (quotedL t.data.toList)
def keyK (k : Int) : ByteArray := keyW.getD k.toNat E0
/-- The words of a line, as they are written. -/
def lineW (l : Ln) : List ByteArray :=
  if l.kind = 0 ∨ l.kind = 5 then [keyK l.kind] ++ [l.a, l.b]
  else if l.kind = 1 ∨ l.kind = 2 ∨ l.kind = 6 then [keyK l.kind] ++ [l.a] ++ [quotedB l.text]
  else if l.kind = 11 then [keyK l.kind] ++ [quotedB l.text]
  else if l.kind = 7 then (if l.no then [keyK l.kind] ++ [wNot] ++ [wExists] ++ [l.a] else [keyK l.kind] ++ [wExists] ++ [l.a])
  else if l.kind = 3 ∨ l.kind = 4 then [keyK l.kind] ++ [l.a]
  else if l.kind = 8 then [keyK l.kind] ++ [itoaB l.n]
  else [keyK l.kind]
def lineT (l : Ln) : ByteArray := joinB ⟨#[32]⟩ (lineW l)
def TextTo (l : Ln) (w : World) (e : Ending) (w' : World) : Prop := e = .returned (.string (lineT l)) ∧ w.grownBy w' none
structure LT (w x : World) (R base : Nat) (l : Ln) (v : Value) (L : List ByteArray) : Prop where
  ln : x.heap[R]? = some (.cells (lnC l) 41 (0, 0))
  own : OwnsS x base v L
  g : w.grownBy x none
  wR : w.heap.size = R
  Rb : R < base
  bx : base ≤ x.heap.size
theorem LT.stays {w x x' : World} {R base : Nat} {l : Ln} {v : Value} {L : List ByteArray} (h : LT w x R base l v L) (hg : x.grownBy x' none) : LT w x' R base l v L :=
  ⟨block_kept h.ln hg, h.own.stays hg, World.grownBy.trans h.g hg, h.wR, h.Rb, Nat.le_trans h.bx hg.size⟩
theorem LT.app {w x x' : World} {R base : Nat} {l : Ln} {v v' : Value} {L L' : List ByteArray} {o : Obj} (h : LT w x R base l v L) (ho : OwnsS x' base v' L') (hg : (x.alloc o).grownBy x' v.ownBlock) : LT w x' R base l v' L' := by
  have g1 := World.grownBy_alloc x o none
  have hR := h.wR; have hRb := h.Rb; have hbx := h.bx
  have hlt : ∀ q, v.ownBlock = some q → base ≤ q := fun q e => (h.own.block_lt q e).1
  refine ⟨?_, ho, ?_, h.wR, h.Rb, ?_⟩
  · have h2 := block_kept h.ln g1
    rw [hg.block R (block_size h2) (fun e => by have := hlt R e.symm; omega)]
    exact h2
  · have g2 := World.grownBy.trans h.g g1
    cases e : v.ownBlock with
    | none => rw [e] at hg; exact World.grownBy.trans g2 hg
    | some q => rw [e] at hg; exact grown_new g2 hg (by have := hlt q e; omega)
  · have := hg.size
    rw [alloc_size] at this
    omega
theorem LT.start (w : World) (l : Ln) (key : ByteArray) : LT w ((w.alloc (.cells (lnC l) 41)).alloc (.cells #[.string key] 9)) w.heap.size (w.heap.size + 1) l (.slice (some ⟨w.heap.size + 1, 0, none⟩) 1 1) [key] := by
  have g1 := World.grownBy_alloc w (.cells (lnC l) 41) none
  have g2 := World.grownBy_alloc (w.alloc (.cells (lnC l) 41)) (.cells #[.string key] 9) none
  refine ⟨block_kept (alloc_block _ _) g2, ⟨rfl, .inr ⟨w.heap.size + 1, 1, #[.string key], rfl, Nat.le_refl _, ?_, Nat.le_refl _, by unfold maxLen; omega, rfl, rfl⟩⟩, World.grownBy.trans g1 g2, rfl, by omega, by rw [alloc_size, alloc_size]; omega⟩
  have := alloc_block (w.alloc (.cells (lnC l) 41)) (.cells #[.string key] 9)
  rw [alloc_size] at this
  exact this
theorem part_blockB (x : World) (P : List ByteArray) (t : TypeId) (n g : Nat) (hn : P.length = n) (h : x.heap.size = g) : PartS (x.alloc (.cells (P.map Value.string).toArray t)) (x.heap.size + 1) (.slice (some ⟨g, 0, none⟩) n n) P := by
  subst h; exact part_block x P t n hn
theorem part_strB (x : World) (s : ByteArray) (t : TypeId) (g : Nat) (h : x.heap.size = g) : PartS (x.alloc (.cells #[.string s] t)) (x.heap.size + 1) (.slice (some ⟨g, 0, none⟩) 1 1) [s] := by
  subst h; exact part_str x s t
theorem grown_grow (w : World) (k : Nat) (os : Array Obj) : w.grownBy (Go.Sort.grow (w.drewN k) os) none :=
  ⟨rfl, rfl, rfl, by show w.heap.size ≤ (w.heap ++ os).size; simp, fun j hj _ => by
    show (w.heap ++ os)[j]? = w.heap[j]?
    rw [Array.getElem?_append_left hj]⟩
theorem itoa_any (m n : Int) (h0 : -9223372036854775808 ≤ n) (h1 : n ≤ 9223372036854775807) (w : World) (hm : Wok m w) : Calls Tryd.prog 57 #[.int .i64 n] w fun e w' => e = .returned (.string (itoaB n)) ∧ w.grownBy w' none := by
  refine (Tryd.strconv_Itoa n h0 h1 w hm.tab).mono fun e w' ⟨q1, k, os, q2⟩ => ⟨q1, by rw [q2]; exact grown_grow _ _ _⟩
theorem sz3 : (⟨#[110, 111, 116]⟩ : ByteArray).size = 3 := rfl
theorem sz6 : (⟨#[101, 120, 105, 115, 116, 115]⟩ : ByteArray).size = 6 := rfl
theorem OwnsS.slice {w : World} {base : Nat} {v : Value} {L : List ByteArray} (h : OwnsS w base v L) : ∃ a n cap, v = .slice a n cap ∧ L.length = n := by
  obtain ⟨a, cap, h1, _⟩ := h.form
  exact ⟨a, _, cap, h1, rfl⟩
theorem join_any {w : World} {base n cap : Nat} {a : Option Addr} {L : List ByteArray} (h : OwnsS w base (.slice a n cap) L) (hn : L.length = n) (h0 : L ≠ []) (hs : sumS L ≤ 140737488355328) (h8 : n ≤ 8000000) :
    Calls Tryd.prog 58 #[.slice a n cap, .string ⟨#[32]⟩] w fun e w' => e = .returned (.string (joinB ⟨#[32]⟩ L)) ∧ w.grownBy w' none := by
  have hpos : 0 < n := by rw [← hn]; exact List.length_pos_iff.2 h0
  rcases h.2 with ⟨h1, h2⟩ | ⟨g, cp, cur, h1, h2, h3, h4, h5, h6, h7⟩
  · omega
  · have e := Value.slice.inj h1
    rw [e.1, e.2.1, e.2.2]
    refine (Tryd.strings_Join g 0 cp L ⟨#[32]⟩ w (fun j x hj => ?_) (block_size h3) (by omega) h4 ?_).mono fun e w' ⟨q1, q2⟩ => ⟨q1, grown_of_below q2⟩
    · have hjl := (List.getElem?_eq_some_iff.1 hj).1
      rw [Nat.zero_add, cell_in h3]
      have e : (L.map Value.string)[j]? = some (.string x) := by rw [List.getElem?_map, hj]; rfl
      rw [← h7, List.getElem?_take, if_pos (by omega)] at e
      simpa using e
    · have := joinB_le 32 L
      rw [← data_len] at this
      exact Nat.le_trans (by simpa [joinB] using this) hs
theorem keyK_size (k : Nat) : (keyK (k : Int)).size ≤ 6 := by
  unfold keyK
  rcases Nat.lt_or_ge k 12 with h | h
  · have : k = 0 ∨ k = 1 ∨ k = 2 ∨ k = 3 ∨ k = 4 ∨ k = 5 ∨ k = 6 ∨ k = 7 ∨ k = 8 ∨ k = 9 ∨ k = 10 ∨ k = 11 := by omega
    rcases this with rfl | rfl | rfl | rfl | rfl | rfl | rfl | rfl | rfl | rfl | rfl | rfl <;> decide
  · rw [List.getD_eq_getElem?_getD, List.getElem?_eq_none (by simpa [keyW] using h)]
    decide
theorem quotedB_size (t : ByteArray) : (quotedB t).size ≤ 2 * t.size + 2 := by
  have := escL_len t.data.toList
  unfold quotedB
  rw [← data_len, data_toB]
  unfold quotedL
  rw [data_len] at this
  simp
  omega

set_option maxRecDepth 1000000
set_option maxHeartbeats 2000000 in
theorem text_k3 (m : Int) (a b t : ByteArray) (n : Int) (no : Bool) (w : World) (hm : Wok m w) (ha : a.size ≤ 1000000) (hb : b.size ≤ 1000000) (ht : t.size ≤ 1000000) (hn0 : -9223372036854775808 ≤ n) (hn1 : n ≤ 9223372036854775807) :
    Calls Tryd.prog 30 #[lnV ⟨3, a, b, t, n, no⟩] w (TextTo ⟨3, a, b, t, n, no⟩ w) := by
  have hkey : w.cell? ⟨0, 3, none⟩ = some (.string (keyK 3)) := hm.keys 3 _ rfl
  have HM := Lib.hid hm
  dsimp only [lnV]
  obtain ⟨key, hk⟩ : ∃ key, keyK 3 = key := ⟨_, rfl⟩
  rw [hk] at hkey
  have hks := keyK_size 3
  have HK : Hid (key.size ≤ 6) := Lib.hid (by rw [← hk]; exact keyK_size 3)
  have HE : Hid (lineT ⟨3, a, b, t, n, no⟩ = joinB ⟨#[32]⟩ ([key] ++ [a])) := Lib.hid (by rw [← hk]; rfl)
  have HT := Lib.hid (LT.start w ⟨3, a, b, t, n, no⟩ key)
  dsimp only [lnC] at HT
  have HLN : Hid ([key].length = 1) := Lib.hid rfl
  have HL8 : Hid (1 ≤ 10) := Lib.hid (by omega)
  have hk2 := (World.grownBy_alloc w (.cells #[.int .i64 3, .string a, .string b, .string t, .int .i64 n, .bool no] 41) none).cell hkey (by simp)
  clear hk hks hm
  go_enter Tryd.func30, Tryd.ntmps30
  go_wp2_with (at_builtin; go_must (with_reducible refine app_str (o := ⟨_, _, _, _, _, _⟩) rfl _ _ rfl _ ?_ _ ?_ _ ?_ ?_ (HT.out.own.alloc _) ?_ ?_ ?_ ?_ ?_); rotate_left 3; go_must (exact rfl); go_must (exact rfl); go_must ((refine part_strB _ _ _ _ ?_; first | rfl | simp only [alloc_size])); go_must (simp); go_must ((have := HT.out.bx; have := HT.out.Rb; rw [alloc_size]; omega)); (intro v' w' ho' hg'); obtain ⟨a', n', c', rfl, hn'⟩ := ho'.slice; have HT := Lib.hid (HT.out.app ho' hg'); have HL8 : Hid (n' ≤ 10) := Lib.hid (by rw [← hn']; simp); have HLN := Lib.hid hn'; have cy := (lnC_block HT.out.ln).1; obtain ⟨y0, y1, y2, y3, y4, y5⟩ := cy; dsimp only at y0 y1 y2 y3 y4 y5; clear ho' hg' hn')
  (with_reducible refine (join_any HT.out.own HLN.out (by simp) (by have := HK.out; simp [sumS, sz3, sz6]; omega) (by have := HL8.out; omega)).mono ?_)
  rintro ee w9 ⟨rfl, g9⟩
  have HG := Lib.hid (World.grownBy.trans HT.out.g g9)
  dsimp only
  go_wp2
  go_ret
  exact ⟨by rw [HE.out]; rfl, HG.out⟩

set_option maxRecDepth 1000000
set_option maxHeartbeats 2000000 in
theorem text_k4 (m : Int) (a b t : ByteArray) (n : Int) (no : Bool) (w : World) (hm : Wok m w) (ha : a.size ≤ 1000000) (hb : b.size ≤ 1000000) (ht : t.size ≤ 1000000) (hn0 : -9223372036854775808 ≤ n) (hn1 : n ≤ 9223372036854775807) :
    Calls Tryd.prog 30 #[lnV ⟨4, a, b, t, n, no⟩] w (TextTo ⟨4, a, b, t, n, no⟩ w) := by
  have hkey : w.cell? ⟨0, 4, none⟩ = some (.string (keyK 4)) := hm.keys 4 _ rfl
  have HM := Lib.hid hm
  dsimp only [lnV]
  obtain ⟨key, hk⟩ : ∃ key, keyK 4 = key := ⟨_, rfl⟩
  rw [hk] at hkey
  have hks := keyK_size 4
  have HK : Hid (key.size ≤ 6) := Lib.hid (by rw [← hk]; exact keyK_size 4)
  have HE : Hid (lineT ⟨4, a, b, t, n, no⟩ = joinB ⟨#[32]⟩ ([key] ++ [a])) := Lib.hid (by rw [← hk]; rfl)
  have HT := Lib.hid (LT.start w ⟨4, a, b, t, n, no⟩ key)
  dsimp only [lnC] at HT
  have HLN : Hid ([key].length = 1) := Lib.hid rfl
  have HL8 : Hid (1 ≤ 10) := Lib.hid (by omega)
  have hk2 := (World.grownBy_alloc w (.cells #[.int .i64 4, .string a, .string b, .string t, .int .i64 n, .bool no] 41) none).cell hkey (by simp)
  clear hk hks hm
  go_enter Tryd.func30, Tryd.ntmps30
  go_wp2_with (at_builtin; go_must (with_reducible refine app_str (o := ⟨_, _, _, _, _, _⟩) rfl _ _ rfl _ ?_ _ ?_ _ ?_ ?_ (HT.out.own.alloc _) ?_ ?_ ?_ ?_ ?_); rotate_left 3; go_must (exact rfl); go_must (exact rfl); go_must ((refine part_strB _ _ _ _ ?_; first | rfl | simp only [alloc_size])); go_must (simp); go_must ((have := HT.out.bx; have := HT.out.Rb; rw [alloc_size]; omega)); (intro v' w' ho' hg'); obtain ⟨a', n', c', rfl, hn'⟩ := ho'.slice; have HT := Lib.hid (HT.out.app ho' hg'); have HL8 : Hid (n' ≤ 10) := Lib.hid (by rw [← hn']; simp); have HLN := Lib.hid hn'; have cy := (lnC_block HT.out.ln).1; obtain ⟨y0, y1, y2, y3, y4, y5⟩ := cy; dsimp only at y0 y1 y2 y3 y4 y5; clear ho' hg' hn')
  (with_reducible refine (join_any HT.out.own HLN.out (by simp) (by have := HK.out; simp [sumS, sz3, sz6]; omega) (by have := HL8.out; omega)).mono ?_)
  rintro ee w9 ⟨rfl, g9⟩
  have HG := Lib.hid (World.grownBy.trans HT.out.g g9)
  dsimp only
  go_wp2
  go_ret
  exact ⟨by rw [HE.out]; rfl, HG.out⟩

set_option maxRecDepth 1000000
set_option maxHeartbeats 2000000 in
theorem text_k9 (m : Int) (a b t : ByteArray) (n : Int) (no : Bool) (w : World) (hm : Wok m w) (ha : a.size ≤ 1000000) (hb : b.size ≤ 1000000) (ht : t.size ≤ 1000000) (hn0 : -9223372036854775808 ≤ n) (hn1 : n ≤ 9223372036854775807) :
    Calls Tryd.prog 30 #[lnV ⟨9, a, b, t, n, no⟩] w (TextTo ⟨9, a, b, t, n, no⟩ w) := by
  have hkey : w.cell? ⟨0, 9, none⟩ = some (.string (keyK 9)) := hm.keys 9 _ rfl
  have HM := Lib.hid hm
  dsimp only [lnV]
  obtain ⟨key, hk⟩ : ∃ key, keyK 9 = key := ⟨_, rfl⟩
  rw [hk] at hkey
  have hks := keyK_size 9
  have HK : Hid (key.size ≤ 6) := Lib.hid (by rw [← hk]; exact keyK_size 9)
  have HE : Hid (lineT ⟨9, a, b, t, n, no⟩ = joinB ⟨#[32]⟩ ([key])) := Lib.hid (by rw [← hk]; rfl)
  have HT := Lib.hid (LT.start w ⟨9, a, b, t, n, no⟩ key)
  dsimp only [lnC] at HT
  have HLN : Hid ([key].length = 1) := Lib.hid rfl
  have HL8 : Hid (1 ≤ 10) := Lib.hid (by omega)
  have hk2 := (World.grownBy_alloc w (.cells #[.int .i64 9, .string a, .string b, .string t, .int .i64 n, .bool no] 41) none).cell hkey (by simp)
  clear hk hks hm
  go_enter Tryd.func30, Tryd.ntmps30
  go_wp2_with fail
  (with_reducible refine (join_any HT.out.own HLN.out (by simp) (by have := HK.out; simp [sumS, sz3, sz6]; omega) (by have := HL8.out; omega)).mono ?_)
  rintro ee w9 ⟨rfl, g9⟩
  have HG := Lib.hid (World.grownBy.trans HT.out.g g9)
  dsimp only
  go_wp2
  go_ret
  exact ⟨by rw [HE.out]; rfl, HG.out⟩

set_option maxRecDepth 1000000
set_option maxHeartbeats 2000000 in
theorem text_k10 (m : Int) (a b t : ByteArray) (n : Int) (no : Bool) (w : World) (hm : Wok m w) (ha : a.size ≤ 1000000) (hb : b.size ≤ 1000000) (ht : t.size ≤ 1000000) (hn0 : -9223372036854775808 ≤ n) (hn1 : n ≤ 9223372036854775807) :
    Calls Tryd.prog 30 #[lnV ⟨10, a, b, t, n, no⟩] w (TextTo ⟨10, a, b, t, n, no⟩ w) := by
  have hkey : w.cell? ⟨0, 10, none⟩ = some (.string (keyK 10)) := hm.keys 10 _ rfl
  have HM := Lib.hid hm
  dsimp only [lnV]
  obtain ⟨key, hk⟩ : ∃ key, keyK 10 = key := ⟨_, rfl⟩
  rw [hk] at hkey
  have hks := keyK_size 10
  have HK : Hid (key.size ≤ 6) := Lib.hid (by rw [← hk]; exact keyK_size 10)
  have HE : Hid (lineT ⟨10, a, b, t, n, no⟩ = joinB ⟨#[32]⟩ ([key])) := Lib.hid (by rw [← hk]; rfl)
  have HT := Lib.hid (LT.start w ⟨10, a, b, t, n, no⟩ key)
  dsimp only [lnC] at HT
  have HLN : Hid ([key].length = 1) := Lib.hid rfl
  have HL8 : Hid (1 ≤ 10) := Lib.hid (by omega)
  have hk2 := (World.grownBy_alloc w (.cells #[.int .i64 10, .string a, .string b, .string t, .int .i64 n, .bool no] 41) none).cell hkey (by simp)
  clear hk hks hm
  go_enter Tryd.func30, Tryd.ntmps30
  go_wp2_with fail
  (with_reducible refine (join_any HT.out.own HLN.out (by simp) (by have := HK.out; simp [sumS, sz3, sz6]; omega) (by have := HL8.out; omega)).mono ?_)
  rintro ee w9 ⟨rfl, g9⟩
  have HG := Lib.hid (World.grownBy.trans HT.out.g g9)
  dsimp only
  go_wp2
  go_ret
  exact ⟨by rw [HE.out]; rfl, HG.out⟩

set_option maxRecDepth 1000000
set_option maxHeartbeats 2000000 in
theorem text_k0 (m : Int) (a b t : ByteArray) (n : Int) (no : Bool) (w : World) (hm : Wok m w) (ha : a.size ≤ 1000000) (hb : b.size ≤ 1000000) (ht : t.size ≤ 1000000) (hn0 : -9223372036854775808 ≤ n) (hn1 : n ≤ 9223372036854775807) :
    Calls Tryd.prog 30 #[lnV ⟨0, a, b, t, n, no⟩] w (TextTo ⟨0, a, b, t, n, no⟩ w) := by
  have hkey : w.cell? ⟨0, 0, none⟩ = some (.string (keyK 0)) := hm.keys 0 _ rfl
  have HM := Lib.hid hm
  dsimp only [lnV]
  obtain ⟨key, hk⟩ : ∃ key, keyK 0 = key := ⟨_, rfl⟩
  rw [hk] at hkey
  have hks := keyK_size 0
  have HK : Hid (key.size ≤ 6) := Lib.hid (by rw [← hk]; exact keyK_size 0)
  have HE : Hid (lineT ⟨0, a, b, t, n, no⟩ = joinB ⟨#[32]⟩ ([key] ++ [a, b])) := Lib.hid (by rw [← hk]; rfl)
  have HT := Lib.hid (LT.start w ⟨0, a, b, t, n, no⟩ key)
  dsimp only [lnC] at HT
  have HLN : Hid ([key].length = 1) := Lib.hid rfl
  have HL8 : Hid (1 ≤ 10) := Lib.hid (by omega)
  have hk2 := (World.grownBy_alloc w (.cells #[.int .i64 0, .string a, .string b, .string t, .int .i64 n, .bool no] 41) none).cell hkey (by simp)
  clear hk hks hm
  go_enter Tryd.func30, Tryd.ntmps30
  go_wp2_with (at_builtin; go_must (with_reducible refine app_str (o := ⟨_, _, _, _, _, _⟩) rfl _ _ rfl _ ?_ _ ?_ _ ?_ ?_ (HT.out.own.alloc _) ?_ ?_ ?_ ?_ ?_); rotate_left 3; go_must (exact rfl); go_must (exact rfl); go_must ((refine part_blockB _ [a, b] _ 2 _ rfl ?_; first | rfl | simp only [alloc_size])); go_must (simp); go_must ((have := HT.out.bx; have := HT.out.Rb; rw [alloc_size]; omega)); (intro v' w' ho' hg'); obtain ⟨a', n', c', rfl, hn'⟩ := ho'.slice; have HT := Lib.hid (HT.out.app ho' hg'); have HL8 : Hid (n' ≤ 10) := Lib.hid (by rw [← hn']; simp); have HLN := Lib.hid hn'; have cy := (lnC_block HT.out.ln).1; obtain ⟨y0, y1, y2, y3, y4, y5⟩ := cy; dsimp only at y0 y1 y2 y3 y4 y5; clear ho' hg' hn')
  (with_reducible refine (join_any HT.out.own HLN.out (by simp) (by have := HK.out; simp [sumS, sz3, sz6]; omega) (by have := HL8.out; omega)).mono ?_)
  rintro ee w9 ⟨rfl, g9⟩
  have HG := Lib.hid (World.grownBy.trans HT.out.g g9)
  dsimp only
  go_wp2
  go_ret
  exact ⟨by rw [HE.out]; rfl, HG.out⟩

set_option maxRecDepth 1000000
set_option maxHeartbeats 2000000 in
theorem text_k5 (m : Int) (a b t : ByteArray) (n : Int) (no : Bool) (w : World) (hm : Wok m w) (ha : a.size ≤ 1000000) (hb : b.size ≤ 1000000) (ht : t.size ≤ 1000000) (hn0 : -9223372036854775808 ≤ n) (hn1 : n ≤ 9223372036854775807) :
    Calls Tryd.prog 30 #[lnV ⟨5, a, b, t, n, no⟩] w (TextTo ⟨5, a, b, t, n, no⟩ w) := by
  have hkey : w.cell? ⟨0, 5, none⟩ = some (.string (keyK 5)) := hm.keys 5 _ rfl
  have HM := Lib.hid hm
  dsimp only [lnV]
  obtain ⟨key, hk⟩ : ∃ key, keyK 5 = key := ⟨_, rfl⟩
  rw [hk] at hkey
  have hks := keyK_size 5
  have HK : Hid (key.size ≤ 6) := Lib.hid (by rw [← hk]; exact keyK_size 5)
  have HE : Hid (lineT ⟨5, a, b, t, n, no⟩ = joinB ⟨#[32]⟩ ([key] ++ [a, b])) := Lib.hid (by rw [← hk]; rfl)
  have HT := Lib.hid (LT.start w ⟨5, a, b, t, n, no⟩ key)
  dsimp only [lnC] at HT
  have HLN : Hid ([key].length = 1) := Lib.hid rfl
  have HL8 : Hid (1 ≤ 10) := Lib.hid (by omega)
  have hk2 := (World.grownBy_alloc w (.cells #[.int .i64 5, .string a, .string b, .string t, .int .i64 n, .bool no] 41) none).cell hkey (by simp)
  clear hk hks hm
  go_enter Tryd.func30, Tryd.ntmps30
  go_wp2_with (at_builtin; go_must (with_reducible refine app_str (o := ⟨_, _, _, _, _, _⟩) rfl _ _ rfl _ ?_ _ ?_ _ ?_ ?_ (HT.out.own.alloc _) ?_ ?_ ?_ ?_ ?_); rotate_left 3; go_must (exact rfl); go_must (exact rfl); go_must ((refine part_blockB _ [a, b] _ 2 _ rfl ?_; first | rfl | simp only [alloc_size])); go_must (simp); go_must ((have := HT.out.bx; have := HT.out.Rb; rw [alloc_size]; omega)); (intro v' w' ho' hg'); obtain ⟨a', n', c', rfl, hn'⟩ := ho'.slice; have HT := Lib.hid (HT.out.app ho' hg'); have HL8 : Hid (n' ≤ 10) := Lib.hid (by rw [← hn']; simp); have HLN := Lib.hid hn'; have cy := (lnC_block HT.out.ln).1; obtain ⟨y0, y1, y2, y3, y4, y5⟩ := cy; dsimp only at y0 y1 y2 y3 y4 y5; clear ho' hg' hn')
  (with_reducible refine (join_any HT.out.own HLN.out (by simp) (by have := HK.out; simp [sumS, sz3, sz6]; omega) (by have := HL8.out; omega)).mono ?_)
  rintro ee w9 ⟨rfl, g9⟩
  have HG := Lib.hid (World.grownBy.trans HT.out.g g9)
  dsimp only
  go_wp2
  go_ret
  exact ⟨by rw [HE.out]; rfl, HG.out⟩

set_option maxRecDepth 1000000
set_option maxHeartbeats 2000000 in
theorem text_k1 (m : Int) (a b t : ByteArray) (n : Int) (no : Bool) (w : World) (hm : Wok m w) (ha : a.size ≤ 1000000) (hb : b.size ≤ 1000000) (ht : t.size ≤ 1000000) (hn0 : -9223372036854775808 ≤ n) (hn1 : n ≤ 9223372036854775807) :
    Calls Tryd.prog 30 #[lnV ⟨1, a, b, t, n, no⟩] w (TextTo ⟨1, a, b, t, n, no⟩ w) := by
  have hkey : w.cell? ⟨0, 1, none⟩ = some (.string (keyK 1)) := hm.keys 1 _ rfl
  have HM := Lib.hid hm
  dsimp only [lnV]
  obtain ⟨key, hk⟩ : ∃ key, keyK 1 = key := ⟨_, rfl⟩
  rw [hk] at hkey
  have hks := keyK_size 1
  have HK : Hid (key.size ≤ 6) := Lib.hid (by rw [← hk]; exact keyK_size 1)
  have HE : Hid (lineT ⟨1, a, b, t, n, no⟩ = joinB ⟨#[32]⟩ ([key] ++ [a] ++ [quotedB t])) := Lib.hid (by rw [← hk]; rfl)
  have HT := Lib.hid (LT.start w ⟨1, a, b, t, n, no⟩ key)
  dsimp only [lnC] at HT
  have HLN : Hid ([key].length = 1) := Lib.hid rfl
  have HL8 : Hid (1 ≤ 10) := Lib.hid (by omega)
  have hk2 := (World.grownBy_alloc w (.cells #[.int .i64 1, .string a, .string b, .string t, .int .i64 n, .bool no] 41) none).cell hkey (by simp)
  clear hk hks hm
  go_enter Tryd.func30, Tryd.ntmps30
  go_wp2_with (at_builtin; go_must (with_reducible refine app_str (o := ⟨_, _, _, _, _, _⟩) rfl _ _ rfl _ ?_ _ ?_ _ ?_ ?_ (HT.out.own.alloc _) ?_ ?_ ?_ ?_ ?_); rotate_left 3; go_must (exact rfl); go_must (exact rfl); go_must ((refine part_strB _ _ _ _ ?_; first | rfl | simp only [alloc_size])); go_must (simp); go_must ((have := HT.out.bx; have := HT.out.Rb; rw [alloc_size]; omega)); (intro v' w' ho' hg'); obtain ⟨a', n', c', rfl, hn'⟩ := ho'.slice; have HT := Lib.hid (HT.out.app ho' hg'); have HL8 : Hid (n' ≤ 10) := Lib.hid (by rw [← hn']; simp); have HLN := Lib.hid hn'; have cy := (lnC_block HT.out.ln).1; obtain ⟨y0, y1, y2, y3, y4, y5⟩ := cy; dsimp only at y0 y1 y2 y3 y4 y5; clear ho' hg' hn')
  (with_reducible refine (quoted_any t _ (by omega)).mono ?_)
  rintro ee w3 ⟨rfl, g3⟩
  have HT := Lib.hid (HT.out.stays g3)
  have HQ := Lib.hid (quotedB_size t)
  have hq : toB (quotedL t.data.toList) = quotedB t := rfl
  rw [hq]
  clear g3 hq
  dsimp only
  go_wp2_with (at_builtin; go_must (with_reducible refine app_str (o := ⟨_, _, _, _, _, _⟩) rfl _ _ rfl _ ?_ _ ?_ _ ?_ ?_ (HT.out.own.alloc _) ?_ ?_ ?_ ?_ ?_); rotate_left 3; go_must (exact rfl); go_must (exact rfl); go_must ((refine part_strB _ _ _ _ ?_; first | rfl | simp only [alloc_size])); go_must (simp); go_must ((have := HT.out.bx; have := HT.out.Rb; rw [alloc_size]; omega)); (intro v' w' ho' hg'); obtain ⟨a', n', c', rfl, hn'⟩ := ho'.slice; have HT := Lib.hid (HT.out.app ho' hg'); have HL8 : Hid (n' ≤ 10) := Lib.hid (by rw [← hn']; simp); have HLN := Lib.hid hn'; have cy := (lnC_block HT.out.ln).1; obtain ⟨y0, y1, y2, y3, y4, y5⟩ := cy; dsimp only at y0 y1 y2 y3 y4 y5; clear ho' hg' hn')
  (with_reducible refine (join_any HT.out.own HLN.out (by simp) (by have := HK.out; have := HQ.out; simp [sumS, sz3, sz6]; omega) (by have := HL8.out; omega)).mono ?_)
  rintro ee w9 ⟨rfl, g9⟩
  have HG := Lib.hid (World.grownBy.trans HT.out.g g9)
  dsimp only
  go_wp2
  go_ret
  exact ⟨by rw [HE.out]; rfl, HG.out⟩

set_option maxRecDepth 1000000
set_option maxHeartbeats 2000000 in
theorem text_k2 (m : Int) (a b t : ByteArray) (n : Int) (no : Bool) (w : World) (hm : Wok m w) (ha : a.size ≤ 1000000) (hb : b.size ≤ 1000000) (ht : t.size ≤ 1000000) (hn0 : -9223372036854775808 ≤ n) (hn1 : n ≤ 9223372036854775807) :
    Calls Tryd.prog 30 #[lnV ⟨2, a, b, t, n, no⟩] w (TextTo ⟨2, a, b, t, n, no⟩ w) := by
  have hkey : w.cell? ⟨0, 2, none⟩ = some (.string (keyK 2)) := hm.keys 2 _ rfl
  have HM := Lib.hid hm
  dsimp only [lnV]
  obtain ⟨key, hk⟩ : ∃ key, keyK 2 = key := ⟨_, rfl⟩
  rw [hk] at hkey
  have hks := keyK_size 2
  have HK : Hid (key.size ≤ 6) := Lib.hid (by rw [← hk]; exact keyK_size 2)
  have HE : Hid (lineT ⟨2, a, b, t, n, no⟩ = joinB ⟨#[32]⟩ ([key] ++ [a] ++ [quotedB t])) := Lib.hid (by rw [← hk]; rfl)
  have HT := Lib.hid (LT.start w ⟨2, a, b, t, n, no⟩ key)
  dsimp only [lnC] at HT
  have HLN : Hid ([key].length = 1) := Lib.hid rfl
  have HL8 : Hid (1 ≤ 10) := Lib.hid (by omega)
  have hk2 := (World.grownBy_alloc w (.cells #[.int .i64 2, .string a, .string b, .string t, .int .i64 n, .bool no] 41) none).cell hkey (by simp)
  clear hk hks hm
  go_enter Tryd.func30, Tryd.ntmps30
  go_wp2_with (at_builtin; go_must (with_reducible refine app_str (o := ⟨_, _, _, _, _, _⟩) rfl _ _ rfl _ ?_ _ ?_ _ ?_ ?_ (HT.out.own.alloc _) ?_ ?_ ?_ ?_ ?_); rotate_left 3; go_must (exact rfl); go_must (exact rfl); go_must ((refine part_strB _ _ _ _ ?_; first | rfl | simp only [alloc_size])); go_must (simp); go_must ((have := HT.out.bx; have := HT.out.Rb; rw [alloc_size]; omega)); (intro v' w' ho' hg'); obtain ⟨a', n', c', rfl, hn'⟩ := ho'.slice; have HT := Lib.hid (HT.out.app ho' hg'); have HL8 : Hid (n' ≤ 10) := Lib.hid (by rw [← hn']; simp); have HLN := Lib.hid hn'; have cy := (lnC_block HT.out.ln).1; obtain ⟨y0, y1, y2, y3, y4, y5⟩ := cy; dsimp only at y0 y1 y2 y3 y4 y5; clear ho' hg' hn')
  (with_reducible refine (quoted_any t _ (by omega)).mono ?_)
  rintro ee w3 ⟨rfl, g3⟩
  have HT := Lib.hid (HT.out.stays g3)
  have HQ := Lib.hid (quotedB_size t)
  have hq : toB (quotedL t.data.toList) = quotedB t := rfl
  rw [hq]
  clear g3 hq
  dsimp only
  go_wp2_with (at_builtin; go_must (with_reducible refine app_str (o := ⟨_, _, _, _, _, _⟩) rfl _ _ rfl _ ?_ _ ?_ _ ?_ ?_ (HT.out.own.alloc _) ?_ ?_ ?_ ?_ ?_); rotate_left 3; go_must (exact rfl); go_must (exact rfl); go_must ((refine part_strB _ _ _ _ ?_; first | rfl | simp only [alloc_size])); go_must (simp); go_must ((have := HT.out.bx; have := HT.out.Rb; rw [alloc_size]; omega)); (intro v' w' ho' hg'); obtain ⟨a', n', c', rfl, hn'⟩ := ho'.slice; have HT := Lib.hid (HT.out.app ho' hg'); have HL8 : Hid (n' ≤ 10) := Lib.hid (by rw [← hn']; simp); have HLN := Lib.hid hn'; have cy := (lnC_block HT.out.ln).1; obtain ⟨y0, y1, y2, y3, y4, y5⟩ := cy; dsimp only at y0 y1 y2 y3 y4 y5; clear ho' hg' hn')
  (with_reducible refine (join_any HT.out.own HLN.out (by simp) (by have := HK.out; have := HQ.out; simp [sumS, sz3, sz6]; omega) (by have := HL8.out; omega)).mono ?_)
  rintro ee w9 ⟨rfl, g9⟩
  have HG := Lib.hid (World.grownBy.trans HT.out.g g9)
  dsimp only
  go_wp2
  go_ret
  exact ⟨by rw [HE.out]; rfl, HG.out⟩

set_option maxRecDepth 1000000
set_option maxHeartbeats 2000000 in
theorem text_k6 (m : Int) (a b t : ByteArray) (n : Int) (no : Bool) (w : World) (hm : Wok m w) (ha : a.size ≤ 1000000) (hb : b.size ≤ 1000000) (ht : t.size ≤ 1000000) (hn0 : -9223372036854775808 ≤ n) (hn1 : n ≤ 9223372036854775807) :
    Calls Tryd.prog 30 #[lnV ⟨6, a, b, t, n, no⟩] w (TextTo ⟨6, a, b, t, n, no⟩ w) := by
  have hkey : w.cell? ⟨0, 6, none⟩ = some (.string (keyK 6)) := hm.keys 6 _ rfl
  have HM := Lib.hid hm
  dsimp only [lnV]
  obtain ⟨key, hk⟩ : ∃ key, keyK 6 = key := ⟨_, rfl⟩
  rw [hk] at hkey
  have hks := keyK_size 6
  have HK : Hid (key.size ≤ 6) := Lib.hid (by rw [← hk]; exact keyK_size 6)
  have HE : Hid (lineT ⟨6, a, b, t, n, no⟩ = joinB ⟨#[32]⟩ ([key] ++ [a] ++ [quotedB t])) := Lib.hid (by rw [← hk]; rfl)
  have HT := Lib.hid (LT.start w ⟨6, a, b, t, n, no⟩ key)
  dsimp only [lnC] at HT
  have HLN : Hid ([key].length = 1) := Lib.hid rfl
  have HL8 : Hid (1 ≤ 10) := Lib.hid (by omega)
  have hk2 := (World.grownBy_alloc w (.cells #[.int .i64 6, .string a, .string b, .string t, .int .i64 n, .bool no] 41) none).cell hkey (by simp)
  clear hk hks hm
  go_enter Tryd.func30, Tryd.ntmps30
  go_wp2_with (at_builtin; go_must (with_reducible refine app_str (o := ⟨_, _, _, _, _, _⟩) rfl _ _ rfl _ ?_ _ ?_ _ ?_ ?_ (HT.out.own.alloc _) ?_ ?_ ?_ ?_ ?_); rotate_left 3; go_must (exact rfl); go_must (exact rfl); go_must ((refine part_strB _ _ _ _ ?_; first | rfl | simp only [alloc_size])); go_must (simp); go_must ((have := HT.out.bx; have := HT.out.Rb; rw [alloc_size]; omega)); (intro v' w' ho' hg'); obtain ⟨a', n', c', rfl, hn'⟩ := ho'.slice; have HT := Lib.hid (HT.out.app ho' hg'); have HL8 : Hid (n' ≤ 10) := Lib.hid (by rw [← hn']; simp); have HLN := Lib.hid hn'; have cy := (lnC_block HT.out.ln).1; obtain ⟨y0, y1, y2, y3, y4, y5⟩ := cy; dsimp only at y0 y1 y2 y3 y4 y5; clear ho' hg' hn')
  (with_reducible refine (quoted_any t _ (by omega)).mono ?_)
  rintro ee w3 ⟨rfl, g3⟩
  have HT := Lib.hid (HT.out.stays g3)
  have HQ := Lib.hid (quotedB_size t)
  have hq : toB (quotedL t.data.toList) = quotedB t := rfl
  rw [hq]
  clear g3 hq
  dsimp only
  go_wp2_with (at_builtin; go_must (with_reducible refine app_str (o := ⟨_, _, _, _, _, _⟩) rfl _ _ rfl _ ?_ _ ?_ _ ?_ ?_ (HT.out.own.alloc _) ?_ ?_ ?_ ?_ ?_); rotate_left 3; go_must (exact rfl); go_must (exact rfl); go_must ((refine part_strB _ _ _ _ ?_; first | rfl | simp only [alloc_size])); go_must (simp); go_must ((have := HT.out.bx; have := HT.out.Rb; rw [alloc_size]; omega)); (intro v' w' ho' hg'); obtain ⟨a', n', c', rfl, hn'⟩ := ho'.slice; have HT := Lib.hid (HT.out.app ho' hg'); have HL8 : Hid (n' ≤ 10) := Lib.hid (by rw [← hn']; simp); have HLN := Lib.hid hn'; have cy := (lnC_block HT.out.ln).1; obtain ⟨y0, y1, y2, y3, y4, y5⟩ := cy; dsimp only at y0 y1 y2 y3 y4 y5; clear ho' hg' hn')
  (with_reducible refine (join_any HT.out.own HLN.out (by simp) (by have := HK.out; have := HQ.out; simp [sumS, sz3, sz6]; omega) (by have := HL8.out; omega)).mono ?_)
  rintro ee w9 ⟨rfl, g9⟩
  have HG := Lib.hid (World.grownBy.trans HT.out.g g9)
  dsimp only
  go_wp2
  go_ret
  exact ⟨by rw [HE.out]; rfl, HG.out⟩

set_option maxRecDepth 1000000
set_option maxHeartbeats 2000000 in
theorem text_k11 (m : Int) (a b t : ByteArray) (n : Int) (no : Bool) (w : World) (hm : Wok m w) (ha : a.size ≤ 1000000) (hb : b.size ≤ 1000000) (ht : t.size ≤ 1000000) (hn0 : -9223372036854775808 ≤ n) (hn1 : n ≤ 9223372036854775807) :
    Calls Tryd.prog 30 #[lnV ⟨11, a, b, t, n, no⟩] w (TextTo ⟨11, a, b, t, n, no⟩ w) := by
  have hkey : w.cell? ⟨0, 11, none⟩ = some (.string (keyK 11)) := hm.keys 11 _ rfl
  have HM := Lib.hid hm
  dsimp only [lnV]
  obtain ⟨key, hk⟩ : ∃ key, keyK 11 = key := ⟨_, rfl⟩
  rw [hk] at hkey
  have hks := keyK_size 11
  have HK : Hid (key.size ≤ 6) := Lib.hid (by rw [← hk]; exact keyK_size 11)
  have HE : Hid (lineT ⟨11, a, b, t, n, no⟩ = joinB ⟨#[32]⟩ ([key] ++ [quotedB t])) := Lib.hid (by rw [← hk]; rfl)
  have HT := Lib.hid (LT.start w ⟨11, a, b, t, n, no⟩ key)
  dsimp only [lnC] at HT
  have HLN : Hid ([key].length = 1) := Lib.hid rfl
  have HL8 : Hid (1 ≤ 10) := Lib.hid (by omega)
  have hk2 := (World.grownBy_alloc w (.cells #[.int .i64 11, .string a, .string b, .string t, .int .i64 n, .bool no] 41) none).cell hkey (by simp)
  clear hk hks hm
  go_enter Tryd.func30, Tryd.ntmps30
  go_wp2_with fail
  (with_reducible refine (quoted_any t _ (by omega)).mono ?_)
  rintro ee w3 ⟨rfl, g3⟩
  have HT := Lib.hid (HT.out.stays g3)
  have HQ := Lib.hid (quotedB_size t)
  have hq : toB (quotedL t.data.toList) = quotedB t := rfl
  rw [hq]
  clear g3 hq
  dsimp only
  go_wp2_with (at_builtin; go_must (with_reducible refine app_str (o := ⟨_, _, _, _, _, _⟩) rfl _ _ rfl _ ?_ _ ?_ _ ?_ ?_ (HT.out.own.alloc _) ?_ ?_ ?_ ?_ ?_); rotate_left 3; go_must (exact rfl); go_must (exact rfl); go_must ((refine part_strB _ _ _ _ ?_; first | rfl | simp only [alloc_size])); go_must (simp); go_must ((have := HT.out.bx; have := HT.out.Rb; rw [alloc_size]; omega)); (intro v' w' ho' hg'); obtain ⟨a', n', c', rfl, hn'⟩ := ho'.slice; have HT := Lib.hid (HT.out.app ho' hg'); have HL8 : Hid (n' ≤ 10) := Lib.hid (by rw [← hn']; simp); have HLN := Lib.hid hn'; have cy := (lnC_block HT.out.ln).1; obtain ⟨y0, y1, y2, y3, y4, y5⟩ := cy; dsimp only at y0 y1 y2 y3 y4 y5; clear ho' hg' hn')
  (with_reducible refine (join_any HT.out.own HLN.out (by simp) (by have := HK.out; have := HQ.out; simp [sumS, sz3, sz6]; omega) (by have := HL8.out; omega)).mono ?_)
  rintro ee w9 ⟨rfl, g9⟩
  have HG := Lib.hid (World.grownBy.trans HT.out.g g9)
  dsimp only
  go_wp2
  go_ret
  exact ⟨by rw [HE.out]; rfl, HG.out⟩

set_option maxRecDepth 1000000
set_option maxHeartbeats 2000000 in
theorem text_k8 (m : Int) (a b t : ByteArray) (n : Int) (no : Bool) (w : World) (hm : Wok m w) (ha : a.size ≤ 1000000) (hb : b.size ≤ 1000000) (ht : t.size ≤ 1000000) (hn0 : -9223372036854775808 ≤ n) (hn1 : n ≤ 9223372036854775807) :
    Calls Tryd.prog 30 #[lnV ⟨8, a, b, t, n, no⟩] w (TextTo ⟨8, a, b, t, n, no⟩ w) := by
  have hkey : w.cell? ⟨0, 8, none⟩ = some (.string (keyK 8)) := hm.keys 8 _ rfl
  have HM := Lib.hid hm
  dsimp only [lnV]
  obtain ⟨key, hk⟩ : ∃ key, keyK 8 = key := ⟨_, rfl⟩
  rw [hk] at hkey
  have hks := keyK_size 8
  have HK : Hid (key.size ≤ 6) := Lib.hid (by rw [← hk]; exact keyK_size 8)
  have HE : Hid (lineT ⟨8, a, b, t, n, no⟩ = joinB ⟨#[32]⟩ ([key] ++ [itoaB n])) := Lib.hid (by rw [← hk]; rfl)
  have HT := Lib.hid (LT.start w ⟨8, a, b, t, n, no⟩ key)
  dsimp only [lnC] at HT
  have HLN : Hid ([key].length = 1) := Lib.hid rfl
  have HL8 : Hid (1 ≤ 10) := Lib.hid (by omega)
  have hk2 := (World.grownBy_alloc w (.cells #[.int .i64 8, .string a, .string b, .string t, .int .i64 n, .bool no] 41) none).cell hkey (by simp)
  clear hk hks hm
  go_enter Tryd.func30, Tryd.ntmps30
  go_wp2_with fail
  (with_reducible refine (itoa_any m n hn0 hn1 _ (HM.out.stays HT.out.g)).mono ?_)
  rintro ee w3 ⟨rfl, g3⟩
  have HT := Lib.hid (HT.out.stays g3)
  have HQ : Hid ((itoaB n).size ≤ 21) := Lib.hid (by unfold itoaB; rw [← data_len, data_toB]; exact Lib.itoa_length_le n hn0 hn1)
  clear g3
  dsimp only
  go_wp2_with (at_builtin; go_must (with_reducible refine app_str (o := ⟨_, _, _, _, _, _⟩) rfl _ _ rfl _ ?_ _ ?_ _ ?_ ?_ (HT.out.own.alloc _) ?_ ?_ ?_ ?_ ?_); rotate_left 3; go_must (exact rfl); go_must (exact rfl); go_must ((refine part_strB _ _ _ _ ?_; first | rfl | simp only [alloc_size])); go_must (simp); go_must ((have := HT.out.bx; have := HT.out.Rb; rw [alloc_size]; omega)); (intro v' w' ho' hg'); obtain ⟨a', n', c', rfl, hn'⟩ := ho'.slice; have HT := Lib.hid (HT.out.app ho' hg'); have HL8 : Hid (n' ≤ 10) := Lib.hid (by rw [← hn']; simp); have HLN := Lib.hid hn'; have cy := (lnC_block HT.out.ln).1; obtain ⟨y0, y1, y2, y3, y4, y5⟩ := cy; dsimp only at y0 y1 y2 y3 y4 y5; clear ho' hg' hn')
  (with_reducible refine (join_any HT.out.own HLN.out (by simp) (by have := HK.out; have := HQ.out; simp [sumS, sz3, sz6]; omega) (by have := HL8.out; omega)).mono ?_)
  rintro ee w9 ⟨rfl, g9⟩
  have HG := Lib.hid (World.grownBy.trans HT.out.g g9)
  dsimp only
  go_wp2
  go_ret
  exact ⟨by rw [HE.out]; rfl, HG.out⟩

set_option maxRecDepth 1000000
set_option maxHeartbeats 2000000 in
theorem text_k7t (m : Int) (a b t : ByteArray) (n : Int) (w : World) (hm : Wok m w) (ha : a.size ≤ 1000000) (hb : b.size ≤ 1000000) (ht : t.size ≤ 1000000) (hn0 : -9223372036854775808 ≤ n) (hn1 : n ≤ 9223372036854775807) :
    Calls Tryd.prog 30 #[lnV ⟨7, a, b, t, n, true⟩] w (TextTo ⟨7, a, b, t, n, true⟩ w) := by
  have hkey : w.cell? ⟨0, 7, none⟩ = some (.string (keyK 7)) := hm.keys 7 _ rfl
  have HM := Lib.hid hm
  dsimp only [lnV]
  obtain ⟨key, hk⟩ : ∃ key, keyK 7 = key := ⟨_, rfl⟩
  rw [hk] at hkey
  have hks := keyK_size 7
  have HK : Hid (key.size ≤ 6) := Lib.hid (by rw [← hk]; exact keyK_size 7)
  have HE : Hid (lineT ⟨7, a, b, t, n, true⟩ = joinB ⟨#[32]⟩ ([key] ++ [wNot] ++ [wExists] ++ [a])) := Lib.hid (by rw [← hk]; rfl)
  have HT := Lib.hid (LT.start w ⟨7, a, b, t, n, true⟩ key)
  dsimp only [lnC] at HT
  have HLN : Hid ([key].length = 1) := Lib.hid rfl
  have HL8 : Hid (1 ≤ 10) := Lib.hid (by omega)
  have hk2 := (World.grownBy_alloc w (.cells #[.int .i64 7, .string a, .string b, .string t, .int .i64 n, .bool true] 41) none).cell hkey (by simp)
  clear hk hks hm
  go_enter Tryd.func30, Tryd.ntmps30
  go_wp2_with (at_builtin; go_must (with_reducible refine app_str (o := ⟨_, _, _, _, _, _⟩) rfl _ _ rfl _ ?_ _ ?_ _ ?_ ?_ (HT.out.own.alloc _) ?_ ?_ ?_ ?_ ?_); rotate_left 3; go_must (exact rfl); go_must (exact rfl); go_must ((refine part_strB _ _ _ _ ?_; first | rfl | simp only [alloc_size])); go_must (simp); go_must ((have := HT.out.bx; have := HT.out.Rb; rw [alloc_size]; omega)); (intro v' w' ho' hg'); obtain ⟨a', n', c', rfl, hn'⟩ := ho'.slice; have HT := Lib.hid (HT.out.app ho' hg'); have HL8 : Hid (n' ≤ 10) := Lib.hid (by rw [← hn']; simp); have HLN := Lib.hid hn'; have cy := (lnC_block HT.out.ln).1; obtain ⟨y0, y1, y2, y3, y4, y5⟩ := cy; dsimp only at y0 y1 y2 y3 y4 y5; clear ho' hg' hn')
  (with_reducible refine (join_any HT.out.own HLN.out (by simp) (by have := HK.out; have : wNot.size = 3 := rfl; have : wExists.size = 6 := rfl; simp [sumS, sz3, sz6]; omega) (by have := HL8.out; omega)).mono ?_)
  rintro ee w9 ⟨rfl, g9⟩
  have HG := Lib.hid (World.grownBy.trans HT.out.g g9)
  dsimp only
  go_wp2
  go_ret
  exact ⟨by rw [HE.out]; rfl, HG.out⟩

set_option maxRecDepth 1000000
set_option maxHeartbeats 2000000 in
theorem text_k7f (m : Int) (a b t : ByteArray) (n : Int) (w : World) (hm : Wok m w) (ha : a.size ≤ 1000000) (hb : b.size ≤ 1000000) (ht : t.size ≤ 1000000) (hn0 : -9223372036854775808 ≤ n) (hn1 : n ≤ 9223372036854775807) :
    Calls Tryd.prog 30 #[lnV ⟨7, a, b, t, n, false⟩] w (TextTo ⟨7, a, b, t, n, false⟩ w) := by
  have hkey : w.cell? ⟨0, 7, none⟩ = some (.string (keyK 7)) := hm.keys 7 _ rfl
  have HM := Lib.hid hm
  dsimp only [lnV]
  obtain ⟨key, hk⟩ : ∃ key, keyK 7 = key := ⟨_, rfl⟩
  rw [hk] at hkey
  have hks := keyK_size 7
  have HK : Hid (key.size ≤ 6) := Lib.hid (by rw [← hk]; exact keyK_size 7)
  have HE : Hid (lineT ⟨7, a, b, t, n, false⟩ = joinB ⟨#[32]⟩ ([key] ++ [wExists] ++ [a])) := Lib.hid (by rw [← hk]; rfl)
  have HT := Lib.hid (LT.start w ⟨7, a, b, t, n, false⟩ key)
  dsimp only [lnC] at HT
  have HLN : Hid ([key].length = 1) := Lib.hid rfl
  have HL8 : Hid (1 ≤ 10) := Lib.hid (by omega)
  have hk2 := (World.grownBy_alloc w (.cells #[.int .i64 7, .string a, .string b, .string t, .int .i64 n, .bool false] 41) none).cell hkey (by simp)
  clear hk hks hm
  go_enter Tryd.func30, Tryd.ntmps30
  go_wp2_with (at_builtin; go_must (with_reducible refine app_str (o := ⟨_, _, _, _, _, _⟩) rfl _ _ rfl _ ?_ _ ?_ _ ?_ ?_ (HT.out.own.alloc _) ?_ ?_ ?_ ?_ ?_); rotate_left 3; go_must (exact rfl); go_must (exact rfl); go_must ((refine part_strB _ _ _ _ ?_; first | rfl | simp only [alloc_size])); go_must (simp); go_must ((have := HT.out.bx; have := HT.out.Rb; rw [alloc_size]; omega)); (intro v' w' ho' hg'); obtain ⟨a', n', c', rfl, hn'⟩ := ho'.slice; have HT := Lib.hid (HT.out.app ho' hg'); have HL8 : Hid (n' ≤ 10) := Lib.hid (by rw [← hn']; simp); have HLN := Lib.hid hn'; have cy := (lnC_block HT.out.ln).1; obtain ⟨y0, y1, y2, y3, y4, y5⟩ := cy; dsimp only at y0 y1 y2 y3 y4 y5; clear ho' hg' hn')
  (with_reducible refine (join_any HT.out.own HLN.out (by simp) (by have := HK.out; have : wExists.size = 6 := rfl; simp [sumS, sz3, sz6]; omega) (by have := HL8.out; omega)).mono ?_)
  rintro ee w9 ⟨rfl, g9⟩
  have HG := Lib.hid (World.grownBy.trans HT.out.g g9)
  dsimp only
  go_wp2
  go_ret
  exact ⟨by rw [HE.out]; rfl, HG.out⟩

theorem lineText_any (m : Int) (l : Ln) (w : World) (hm : Wok m w) (h0 : 0 ≤ l.kind) (h1 : l.kind < 12) (ha : l.a.size ≤ 1000000) (hb : l.b.size ≤ 1000000) (ht : l.text.size ≤ 1000000) (hn0 : -9223372036854775808 ≤ l.n) (hn1 : l.n ≤ 9223372036854775807) :
    Calls Tryd.prog 30 #[lnV l] w (TextTo l w) := by
  obtain ⟨k, a, b, t, n, no⟩ := l
  simp only at h0 h1 ha hb ht hn0 hn1
  have : k = 0 ∨ k = 1 ∨ k = 2 ∨ k = 3 ∨ k = 4 ∨ k = 5 ∨ k = 6 ∨ k = 7 ∨ k = 8 ∨ k = 9 ∨ k = 10 ∨ k = 11 := by omega
  rcases this with rfl | rfl | rfl | rfl | rfl | rfl | rfl | rfl | rfl | rfl | rfl | rfl
  · exact text_k0 m a b t n no w hm ha hb ht hn0 hn1
  · exact text_k1 m a b t n no w hm ha hb ht hn0 hn1
  · exact text_k2 m a b t n no w hm ha hb ht hn0 hn1
  · exact text_k3 m a b t n no w hm ha hb ht hn0 hn1
  · exact text_k4 m a b t n no w hm ha hb ht hn0 hn1
  · exact text_k5 m a b t n no w hm ha hb ht hn0 hn1
  · exact text_k6 m a b t n no w hm ha hb ht hn0 hn1
  · cases no with
    | true => exact text_k7t m a b t n w hm ha hb ht hn0 hn1
    | false => exact text_k7f m a b t n w hm ha hb ht hn0 hn1
  · exact text_k8 m a b t n no w hm ha hb ht hn0 hn1
  · exact text_k9 m a b t n no w hm ha hb ht hn0 hn1
  · exact text_k10 m a b t n no w hm ha hb ht hn0 hn1
  · exact text_k11 m a b t n no w hm ha hb ht hn0 hn1
end Go.Proofs.YtmjdkgbblccpgaaDoor
