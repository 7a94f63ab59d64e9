/- A number's text; a script of numbers; haversacklaw17.ScriptBlocks. -/
import Derived.Test.YtmjdkgbblccpgaaDoorRj
namespace Go.Proofs.YtmjdkgbblccpgaaDoor
open Go.RowKit

def txtW : List ByteArray := [
  ⟨#[99, 111, 112, 121, 32, 97, 32, 98]⟩,
  ⟨#[119, 114, 105, 116, 101, 32, 97, 32, 34, 120, 34]⟩,
  ⟨#[97, 112, 112, 101, 110, 100, 32, 98, 47, 99, 32, 34, 36, 118, 92, 110, 34]⟩,
  ⟨#[109, 107, 100, 105, 114, 32, 100]⟩,
  ⟨#[114, 101, 109, 111, 118, 101, 32, 97]⟩,
  ⟨#[114, 101, 110, 97, 109, 101, 32, 97, 32, 101]⟩,
  ⟨#[115, 101, 116, 32, 118, 32, 34, 49, 34]⟩,
  ⟨#[105, 102, 32, 101, 120, 105, 115, 116, 115, 32, 97]⟩,
  ⟨#[105, 102, 32, 110, 111, 116, 32, 101, 120, 105, 115, 116, 115, 32, 97]⟩,
  ⟨#[114, 101, 112, 101, 97, 116, 32, 50]⟩,
  ⟨#[101, 108, 115, 101]⟩,
  ⟨#[101, 110, 100]⟩,
  ⟨#[102, 97, 105, 108, 32, 34, 110, 111, 34]⟩,
  ⟨#[]⟩,
  ⟨#[35, 32, 120]⟩,
  ⟨#[32, 32]⟩,
  ⟨#[114, 101, 112, 101, 97, 116, 32, 49, 48, 48, 49]⟩,
  ⟨#[99, 111, 112, 121, 32, 97]⟩,
  ⟨#[115, 101, 116, 32, 118, 32, 49]⟩,
  ⟨#[101, 110, 100, 32, 101, 110, 100]⟩]
def txtK (k : Nat) : ByteArray := txtW.getD (k % 20) E0
theorem txtK_size (k : Nat) : (txtK k).size ≤ 20 := by
  have h : ∀ q, q < 20 → (txtW.getD q E0).size ≤ 20 := by decide
  exact h _ (Nat.mod_lt _ (by omega))
set_option maxRecDepth 1000000
set_option maxHeartbeats 4000000 in
theorem text_num (k : Nat) (hk : k < 256) (w : World) : Calls Tryd.prog 17 #[.int .u8 (k : Int)] w fun e w' => e = .returned (.string (txtK k)) ∧ w.grownBy w' none := by
  obtain ⟨q, hq⟩ : ∃ q, k % 20 = q := ⟨_, rfl⟩
  have HK : Hid (txtK k = txtW.getD q E0) := Lib.hid (by unfold txtK; rw [hq])
  have hq20 : q < 20 := by omega
  have eq : (k : Int) % 20 = (q : Int) := by omega
  have hc : (w.alloc (.cells #[.string ⟨#[99, 111, 112, 121, 32, 97, 32, 98]⟩, .string ⟨#[119, 114, 105, 116, 101, 32, 97, 32, 34, 120, 34]⟩, .string ⟨#[97, 112, 112, 101, 110, 100, 32, 98, 47, 99, 32, 34, 36, 118, 92, 110, 34]⟩, .string ⟨#[109, 107, 100, 105, 114, 32, 100]⟩, .string ⟨#[114, 101, 109, 111, 118, 101, 32, 97]⟩, .string ⟨#[114, 101, 110, 97, 109, 101, 32, 97, 32, 101]⟩, .string ⟨#[115, 101, 116, 32, 118, 32, 34, 49, 34]⟩, .string ⟨#[105, 102, 32, 101, 120, 105, 115, 116, 115, 32, 97]⟩, .string ⟨#[105, 102, 32, 110, 111, 116, 32, 101, 120, 105, 115, 116, 115, 32, 97]⟩, .string ⟨#[114, 101, 112, 101, 97, 116, 32, 50]⟩, .string ⟨#[101, 108, 115, 101]⟩, .string ⟨#[101, 110, 100]⟩, .string ⟨#[102, 97, 105, 108, 32, 34, 110, 111, 34]⟩, .string ⟨#[]⟩, .string ⟨#[35, 32, 120]⟩, .string ⟨#[32, 32]⟩, .string ⟨#[114, 101, 112, 101, 97, 116, 32, 49, 48, 48, 49]⟩, .string ⟨#[99, 111, 112, 121, 32, 97]⟩, .string ⟨#[115, 101, 116, 32, 118, 32, 49]⟩, .string ⟨#[101, 110, 100, 32, 101, 110, 100]⟩] 9)).cell? ⟨w.heap.size, q, none⟩ = some (.string (txtW.getD q E0)) := by
    rw [alloc_cell]
    have h : ∀ q, q < 20 → (txtW.map Value.string)[q]? = some (.string (txtW.getD q E0)) := by
      intro q hq
      rw [List.getElem?_map, List.getD_eq_getElem?_getD]
      cases h : txtW[q]? with
      | none => rw [List.getElem?_eq_none_iff] at h; have : txtW.length = 20 := rfl; omega
      | some x => rfl
    have := h q hq20
    rw [← this, ← Array.getElem?_toList]
    rfl
  clear hq
  obtain ⟨X, hX⟩ : ∃ X, txtW.getD q E0 = X := ⟨_, rfl⟩
  rw [hX] at hc HK
  clear hX
  go_enter Tryd.func17, Tryd.ntmps17
  go_wp2
  go_ret
  exact ⟨by rw [HK.out]; rfl, World.grownBy_alloc _ _ _⟩
/-- An argument that is a slice of bytes. -/
def BytesN (w : World) (a : Option Addr) (l : List Nat) : Prop := ∀ (j x : Nat), l[j]? = some x → ∃ b o, a = some ⟨b, o, none⟩ ∧ w.cell? ⟨b, o + j, none⟩ = some (.int .u8 (x : Int))
theorem BytesN.stays {w w' : World} {a : Option Addr} {l : List Nat} (h : BytesN w a l) (hg : w.grownBy w' none) : BytesN w' a l := fun j x hj => by
  obtain ⟨b, o, e, c⟩ := h j x hj
  exact ⟨b, o, e, hg.cell c (by simp)⟩
def writN (l : List Nat) (k : Nat) : ByteArray := toB (writ ((l.take k).map fun x => (txtK x).data.toList))
theorem writN_succ (l : List Nat) (k x : Nat) (h : l[k]? = some x) : writN l (k + 1) = writN l k ++ txtK x ++ ⟨#[10]⟩ := by
  unfold writN
  rw [take_snocL l k x h, List.map_append, List.map_cons, List.map_nil, writ_snoc]
  apply bytes_ext
  simp [toB]
theorem writN_size (l : List Nat) (k : Nat) : (writN l k).size ≤ 21 * k := by
  unfold writN
  have h1 := writ_len ((l.take k).map fun x => (txtK x).data.toList) 20 (fun x hx => by
    obtain ⟨t, _, rfl⟩ := List.mem_map.1 hx
    rw [data_len]; exact txtK_size t)
  rw [List.length_map] at h1
  have h2 := List.length_take_le k l
  rw [← data_len, data_toB]
  omega
set_option maxHeartbeats 4000000 in
theorem written_any (l : List Nat) (n cp : Nat) (a : Option Addr) (w : World) (hn : l.length = n) (h60 : n ≤ 60) (hl : ∀ x ∈ l, x < 256) (hw : BytesN w a l) :
    Calls Tryd.prog 13 #[.slice a n cp] w fun e w' => e = .returned (.string (writN l n)) ∧ w.grownBy w' none := by
  have HN := Lib.hid hn
  have HL := Lib.hid hl
  have HW := Lib.hid hw
  clear hn hl hw
  go_enter Tryd.func13, Tryd.ntmps13
  go_wp2
  go_loopw [3, 4] (fun s i wr => ∃ k : Nat, k ≤ n ∧ i = .int .i64 k ∧ s = .string (writN l k) ∧ Hid (w.grownBy wr none)) (fun _ i _ => n - (intOf i).toNat)
  case atStart => exact ⟨0, by omega, rfl, rfl, World.grownBy.refl _ _⟩
  case round =>
    obtain ⟨k, hk, rfl, rfl, hG⟩ := hrel
    by_cases hlt : k < n
    · obtain ⟨x, hx⟩ : ∃ x, l[k]? = some x := ⟨_, List.getElem?_eq_getElem (by rw [HN.out]; exact hlt)⟩
      obtain ⟨b, o, rfl, c⟩ := HW.out.stays hG.out k x hx
      have hz := writN_size l k
      have hy := txtK_size x
      have HX := Lib.hid (writN_succ l k x hx)
      have hx8 := HL.out x (List.mem_of_getElem? hx)
      have HC := Lib.hid (text_num x hx8 wr)
      obtain ⟨S, hS⟩ : ∃ S, writN l k = S := ⟨_, rfl⟩
      obtain ⟨T, hT⟩ : ∃ T, txtK x = T := ⟨_, rfl⟩
      rw [hS] at hz
      rw [hT] at hy HC
      rw [hS, hT] at HX
      rw [hS]
      have z1 : S.size + T.size ≤ 9223372036854775807 := by omega
      have z2 : S.size + T.size + 1 ≤ 9223372036854775807 := by omega
      clear hx hS hT hz hy
      go_wp2_with fail
      (with_reducible refine HC.out.mono ?_)
      rintro ee w2 ⟨rfl, g2⟩
      have HG2 := Lib.hid (World.grownBy.trans hG.out g2)
      clear g2 HC
      dsimp only
      go_wp2
      go_roundw
      case rel => exact ⟨k + 1, by omega, by go_num, by rw [HX.out], HG2.out⟩
      case measure => simp [intOf]; omega
    · obtain rfl : k = n := by omega
      go_wp2
      go_ret
      exact ⟨rfl, hG.out⟩
/-- What Parse hands back of a text, by cases. -/
theorem ParseRet.cases {s : ByteArray} {w w' : World} {e : Ending} (h : ParseRet (scriptS s) w e w') : (∃ (L : List Ln) (a : Option Addr) (n c : Nat), scriptS s = .inr L ∧ L.length = n ∧ e = .returned (.tuple #[.slice a n c, .int .i64 0, .int .i64 0]) ∧ OwnsL w' w.heap.size (.slice a n c) L ∧ w.grownBy w' none) ∨ (∃ k : Nat, scriptS s = .inl k ∧ e = .returned (.tuple #[.slice none 0 0, .int .i64 (k : Int), .int .i64 66]) ∧ w.grownBy w' none) := by
  obtain ⟨g, ⟨L, v, h1, h2, h3⟩ | ⟨k, h1, h2⟩⟩ := h
  · obtain ⟨a, n, c, rfl, hn⟩ := h3.slice
    exact .inl ⟨L, a, n, c, h1, hn, h2, h3, g⟩
  · exact .inr ⟨k, h1, h2, g⟩
theorem parseS_len : ∀ (P : List ByteArray) (i : Nat) (out : List Ln) (op : List Int) (L : List Ln), out.length ≤ 200 → parseS P i out op = .inr L → L.length ≤ 200 := by
  intro P
  induction P with
  | nil =>
    intro i out op L ho h
    unfold parseS at h
    split at h
    · obtain rfl := Sum.inr.inj h; exact ho
    · cases h
  | cons x r ih =>
    intro i out op L ho h
    rw [parse_step] at h
    split at h
    · cases h
    · exact ih _ _ _ _ ho h
    · split at h
      · cases h
      · rename_i hc
        exact ih _ _ _ _ (by rw [List.length_append, List.length_cons, List.length_nil]; omega) h
theorem scriptS_len (s : ByteArray) (L : List Ln) (h : scriptS s = .inr L) : L.length ≤ 200 := by
  unfold scriptS at h
  split at h
  · cases h
  · exact parseS_len _ _ _ _ _ (by simp) h

set_option maxHeartbeats 8000000 in
theorem blocks_law (m : Int) (l : List Nat) (n cp : Nat) (a : Option Addr) (w : World) (hm : Wok m w) (hn : l.length = n) (hl : ∀ x ∈ l, x < 256) (hw : BytesN w a l) :
    Calls Tryd.prog 4 #[.slice a n cp] w fun e w' => e = .returned (.bool true) ∧ w.grownBy w' none := by
  have HM := Lib.hid hm
  have HN := Lib.hid hn
  have HL := Lib.hid hl
  have HW := Lib.hid hw
  clear hm hn hl hw
  by_cases h60 : 60 < n
  · have d60 : decide (60 < (n : Int)) = true := by simp; omega
    clear h60
    go_enter Tryd.func4, Tryd.ntmps4
    go_wp2_with fail
    (with_reducible refine (known_any m w HM.out).mono ?_)
    rintro ee w1 ⟨rfl, g1⟩
    have HG1 := Lib.hid g1
    clear g1
    dsimp only
    go_wp2
    go_ret
    exact ⟨rfl, HG1.out⟩
  have d60 : decide (60 < (n : Int)) = false := by simp; omega
  have hn60 : n ≤ 60 := by omega
  clear h60
  have hsz := writN_size l n
  go_enter Tryd.func4, Tryd.ntmps4
  go_wp2_with fail
  (with_reducible refine (known_any m w HM.out).mono ?_)
  rintro ee w1 ⟨rfl, g1⟩
  have HG1 := Lib.hid g1
  clear g1
  dsimp only
  go_wp2_with fail
  (with_reducible refine (written_any l n cp a w1 HN.out hn60 HL.out (HW.out.stays HG1.out)).mono ?_)
  rintro ee w2 ⟨rfl, g2⟩
  have HG2 := Lib.hid (World.grownBy.trans HG1.out g2)
  clear g2
  dsimp only
  go_wp2_with fail
  (with_reducible refine (parse_any m (writN l n) w2 (HM.out.stays HG2.out) (by omega)).mono ?_)
  rintro ee w3 h3
  rcases h3.cases with ⟨L, a3, n3, c3, hL, hn3, rfl, ho3, g3⟩ | ⟨k3, hk3, rfl, g3⟩
  · have h200 : n3 ≤ 200 := by rw [← hn3]; exact scriptS_len _ _ hL
    have HL3 := Lib.hid hL
    have HN3 := Lib.hid hn3
    have HO3 := Lib.hid ho3
    have HG3 := Lib.hid (World.grownBy.trans HG2.out g3)
    clear hL hn3 ho3 g3 h3
    dsimp only
    go_wp2_with fail
    (with_reducible refine (written_any l n cp a w3 HN.out hn60 HL.out (HW.out.stays HG3.out)).mono ?_)
    rintro ee w4 ⟨rfl, g4⟩
    have HG4 := Lib.hid (World.grownBy.trans HG3.out g4)
    have HO4 := Lib.hid (HO3.out.stays g4)
    clear g4
    dsimp only
    go_wp2_with fail
    (with_reducible refine (refParse_any m (writN l n) w4 (HM.out.stays HG4.out) (by omega)).mono ?_)
    rintro ee w5 h5
    rcases h5.cases with ⟨L5, a5, n5, c5, hL5, hn5, rfl, ho5, g5⟩ | ⟨k5, hk5, _, _⟩
    · rw [HL3.out] at hL5
      obtain rfl := Sum.inr.inj hL5
      rw [HN3.out] at hn5
      subst hn5
      have HO5 := Lib.hid ho5
      have HO54 := Lib.hid (HO4.out.stays g5)
      have HG5 := Lib.hid (World.grownBy.trans HG4.out g5)
      clear hL5 ho5 g5 h5
      dsimp only
      go_wp2_with fail
      (with_reducible refine (linesH_any _ _ n3 c3 c5 a3 a5 L w5 HN3.out (by omega) HO54.out HO5.out).mono ?_)
      rintro ee w6 ⟨rfl, g6⟩
      have HG6 := Lib.hid (World.grownBy.trans HG5.out g6)
      clear g6
      dsimp only
      go_wp2
      go_ret
      exact ⟨rfl, HG6.out⟩
    · rw [HL3.out] at hk5; cases hk5
  · have HK3 := Lib.hid hk3
    have HG3 := Lib.hid (World.grownBy.trans HG2.out g3)
    clear hk3 g3 h3
    dsimp only
    go_wp2_with fail
    (with_reducible refine (written_any l n cp a w3 HN.out hn60 HL.out (HW.out.stays HG3.out)).mono ?_)
    rintro ee w4 ⟨rfl, g4⟩
    have HG4 := Lib.hid (World.grownBy.trans HG3.out g4)
    clear g4
    dsimp only
    go_wp2_with fail
    (with_reducible refine (refParse_any m (writN l n) w4 (HM.out.stays HG4.out) (by omega)).mono ?_)
    rintro ee w5 h5
    rcases h5.cases with ⟨L5, a5, n5, c5, hL5, _, _, _, _⟩ | ⟨k5, hk5, rfl, g5⟩
    · rw [HK3.out] at hL5; cases hL5
    · rw [HK3.out] at hk5
      obtain rfl := Sum.inl.inj hk5
      have HG5 := Lib.hid (World.grownBy.trans HG4.out g5)
      clear hk5 g5 h5
      dsimp only
      go_wp2_with fail
      (with_reducible refine (linesH_any 0 0 0 0 0 none none [] w5 rfl (by omega) (OwnsL.nil _ _) (OwnsL.nil _ _)).mono ?_)
      rintro ee w6 ⟨rfl, g6⟩
      have HG6 := Lib.hid (World.grownBy.trans HG5.out g6)
      clear g6
      dsimp only
      go_wp2
      go_ret
      exact ⟨rfl, HG6.out⟩
end Go.Proofs.YtmjdkgbblccpgaaDoor
