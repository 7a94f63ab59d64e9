/-
  ScriptNoise, proved: for all lists of numbers the law returns true: blanks, empty lines and comments say nothing.
  CONDITIONS: the library's tables (math/bits.deBruijn32tab, deBruijn64tab, internal/strconv.uint64pow10, unicode/utf8.acceptRanges, first) and haversack/script.keywords start as the text lays them (the card ties them).
-/
import Derived.Test.YtmjdkgbblccpgaaDoorUs
import Derived.Test.YtmjdkgbblccpgaaDoorRk
import Derived.BigRegion
import Derived.SliceStrings
import Derived.Lib.SmallJoins
import Derived.Deep.Grids
import Derived.ChangeSlices
namespace Go.Proofs.YtmjdkgbblccpgaaDoor
open Go.RowKit

def nzPre : List ByteArray := [⟨#[]⟩, ⟨#[10]⟩, ⟨#[35, 32, 34, 10]⟩, ⟨#[32, 32, 9]⟩, ⟨#[9, 35, 32, 120, 10, 32, 32, 32]⟩]
def nzPost : List ByteArray := [⟨#[]⟩, ⟨#[32]⟩, ⟨#[9, 32]⟩]
def preX : Nat → List (List UInt8)
  | 1 => [[]]
  | 2 => [[35, 32, 34]]
  | 4 => [[9, 35, 32, 120]]
  | _ => []
def pfx : Nat → List UInt8
  | 3 => [32, 32, 9]
  | 4 => [32, 32, 32]
  | _ => []
def sfx : Nat → List UInt8
  | 1 => [32]
  | 2 => [9, 32]
  | _ => []
theorem pre_writ (q : Nat) (hq : q < 5) : (nzPre.getD q E0).data.toList = writ (preX q) ++ pfx q := by
  match q, hq with
  | 0, _ => rfl
  | 1, _ => rfl
  | 2, _ => rfl
  | 3, _ => rfl
  | 4, _ => rfl
theorem post_writ (q : Nat) (hq : q < 3) : (nzPost.getD q E0).data.toList = sfx q := by
  match q, hq with
  | 0, _ => rfl
  | 1, _ => rfl
  | 2, _ => rfl
def sameLn (a b : Ln) : Bool := decide (a.kind = b.kind) && (a.a.data.toList == b.a.data.toList) && (a.b.data.toList == b.b.data.toList) && (a.text.data.toList == b.text.data.toList) && decide (a.n = b.n) && (a.no == b.no)
def sameR : Option (Option Ln) → Option (Option Ln) → Bool
  | none, none => true
  | some none, some none => true
  | some (some a), some (some b) => sameLn a b
  | _, _ => false
theorem sameLn_eq (a b : Ln) (h : sameLn a b = true) : a = b := by
  obtain ⟨a0, a1, a2, a3, a4, a5⟩ := a
  obtain ⟨b0, b1, b2, b3, b4, b5⟩ := b
  simp only [sameLn, Bool.and_eq_true, decide_eq_true_eq, beq_iff_eq] at h
  obtain ⟨⟨⟨⟨⟨h0, h1⟩, h2⟩, h3⟩, h4⟩, h5⟩ := h
  rw [h0, bytes_ext h1, bytes_ext h2, bytes_ext h3, h4, h5]
theorem sameR_eq (a b : Option (Option Ln)) (h : sameR a b = true) : a = b := by
  unfold sameR at h
  split at h
  · rfl
  · rfl
  · rw [sameLn_eq _ _ h]
  · cases h
def nzAll : Bool := (List.range 13).all fun k => (List.range 5).all fun p => (List.range 3).all fun q => sameR (readS (toB (pfx p ++ (txtK k).data.toList ++ sfx q))) (readS (txtK k))
set_option maxRecDepth 1000000 in
theorem nz_all : nzAll = true := by kernel_rfl
theorem nz_read (k p q : Nat) (hk : k < 13) (hp : p < 5) (hq : q < 3) : readS (toB (pfx p ++ (txtK k).data.toList ++ sfx q)) = readS (txtK k) := by
  have h := nz_all
  unfold nzAll at h
  have h1 := List.all_eq_true.1 h k (List.mem_range.2 hk)
  have h2 := List.all_eq_true.1 h1 p (List.mem_range.2 hp)
  exact sameR_eq _ _ (List.all_eq_true.1 h2 q (List.mem_range.2 hq))
set_option maxRecDepth 100000 in
theorem nz_r1 : readS (toB []) = some none := by kernel_rfl
set_option maxRecDepth 100000 in
theorem nz_r2 : readS (toB [35, 32, 34]) = some none := by kernel_rfl
set_option maxRecDepth 100000 in
theorem nz_r4 : readS (toB [9, 35, 32, 120]) = some none := by kernel_rfl
theorem nz_extra (p : Nat) (hp : p < 5) : ∀ e ∈ preX p, readS (toB e) = some none := by
  match p, hp with
  | 0, _ => intro e he; simp [preX] at he
  | 1, _ => intro e he; simp [preX] at he; subst he; exact nz_r1
  | 2, _ => intro e he; simp [preX] at he; subst he; exact nz_r2
  | 3, _ => intro e he; simp [preX] at he
  | 4, _ => intro e he; simp [preX] at he; subst he; exact nz_r4
def Sim (a b : Nat ⊕ List Ln) : Prop := (∃ L, a = .inr L ∧ b = .inr L) ∨ (∃ i j, a = .inl i ∧ b = .inl j)
theorem skip_extra (E : List (List UInt8)) (h : ∀ e ∈ E, readS (toB e) = some none) : ∀ (R : List ByteArray) (i : Nat) (out : List Ln) (op : List Int), ∃ j, parseS (E.map toB ++ R) i out op = parseS R j out op := by
  induction E with
  | nil => intro R i out op; exact ⟨i, rfl⟩
  | cons e r ih =>
    intro R i out op
    obtain ⟨j, hj⟩ := ih (fun x hx => h x (by simp [hx])) R (i + 1) out op
    refine ⟨j, ?_⟩
    rw [List.map_cons, List.cons_append, parse_step, h e (by simp)]
    exact hj
def nzLines (k x : Nat) : List (List UInt8) := preX (x % 5) ++ [pfx (x % 5) ++ (txtK (k % 13)).data.toList ++ sfx (x % 3)]
theorem nz_sim (P : List (Nat × Nat)) : ∀ (i j : Nat) (out : List Ln) (op : List Int), Sim (parseS (P.map fun p => txtK (p.1 % 13)) i out op) (parseS ((P.flatMap fun p => nzLines p.1 p.2).map toB) j out op) := by
  induction P with
  | nil =>
    intro i j out op
    show Sim (parseS [] i out op) (parseS [] j out op)
    unfold parseS
    split
    · exact .inl ⟨_, rfl, rfl⟩
    · exact .inr ⟨_, _, rfl, rfl⟩
  | cons p r ih =>
    intro i j out op
    have e : ((p :: r).flatMap fun p => nzLines p.1 p.2).map toB = (preX (p.2 % 5)).map toB ++ (toB (pfx (p.2 % 5) ++ (txtK (p.1 % 13)).data.toList ++ sfx (p.2 % 3)) :: (r.flatMap fun p => nzLines p.1 p.2).map toB) := by
      rw [List.flatMap_cons, List.map_append]
      unfold nzLines
      rw [List.map_append, List.append_assoc]
      rfl
    obtain ⟨j2, hj⟩ := skip_extra (preX (p.2 % 5)) (nz_extra _ (Nat.mod_lt _ (by omega))) (toB (pfx (p.2 % 5) ++ (txtK (p.1 % 13)).data.toList ++ sfx (p.2 % 3)) :: (r.flatMap fun p => nzLines p.1 p.2).map toB) j out op
    rw [e, hj, List.map_cons, parse_step, parse_step, nz_read _ _ _ (Nat.mod_lt _ (by omega)) (Nat.mod_lt _ (by omega)) (Nat.mod_lt _ (by omega))]
    cases hr : readS (txtK (p.1 % 13)) with
    | none => exact .inr ⟨_, _, rfl, rfl⟩
    | some o =>
      cases o with
      | none => exact ih _ _ _ _
      | some l =>
        simp only
        split
        · exact .inr ⟨_, _, rfl, rfl⟩
        · exact ih _ _ _ _
theorem txt_no (k : Nat) (hk : k < 13) : ∀ c ∈ (txtK k).data.toList, c ≠ 10 := by
  have h : ∀ q, q < 13 → ∀ c ∈ (txtK q).data.toList, c ≠ 10 := by decide
  exact h k hk
theorem nz_no (k x : Nat) : ∀ y ∈ nzLines k x, ∀ c ∈ y, c ≠ 10 := by
  have h1 : ∀ q, q < 5 → ∀ y ∈ preX q, ∀ c ∈ y, c ≠ 10 := by decide
  have h2 : ∀ q, q < 5 → ∀ c ∈ pfx q, c ≠ 10 := by decide
  have h3 : ∀ q, q < 3 → ∀ c ∈ sfx q, c ≠ 10 := by decide
  intro y hy c hc
  unfold nzLines at hy
  rcases List.mem_append.1 hy with hy | hy
  · exact h1 _ (Nat.mod_lt _ (by omega)) y hy c hc
  · rw [List.mem_singleton.1 hy] at hc
    rcases List.mem_append.1 hc with hc | hc
    · rcases List.mem_append.1 hc with hc | hc
      · exact h2 _ (Nat.mod_lt _ (by omega)) c hc
      · exact txt_no _ (Nat.mod_lt _ (by omega)) c hc
    · exact h3 _ (Nat.mod_lt _ (by omega)) c hc
def plainN (P : List (Nat × Nat)) : ByteArray := toB (writ (P.map fun p => (txtK (p.1 % 13)).data.toList))
def noiseN (P : List (Nat × Nat)) : ByteArray := toB (writ (P.flatMap fun p => nzLines p.1 p.2))
theorem plainN_snoc (P : List (Nat × Nat)) (p : Nat × Nat) : plainN (P ++ [p]) = plainN P ++ txtK (p.1 % 13) ++ ⟨#[10]⟩ := by
  unfold plainN
  rw [List.map_append, List.map_cons, List.map_nil, writ_snoc]
  apply bytes_ext
  simp [toB]
theorem writ_app (A B : List (List UInt8)) : writ (A ++ B) = writ A ++ writ B := by simp [writ]
theorem noiseN_snoc (P : List (Nat × Nat)) (p : Nat × Nat) : noiseN (P ++ [p]) = noiseN P ++ nzPre.getD (p.2 % 5) E0 ++ txtK (p.1 % 13) ++ nzPost.getD (p.2 % 3) E0 ++ ⟨#[10]⟩ := by
  have h1 := pre_writ (p.2 % 5) (Nat.mod_lt _ (by omega))
  have h2 := post_writ (p.2 % 3) (Nat.mod_lt _ (by omega))
  unfold noiseN
  rw [List.flatMap_append, writ_app]
  have e : writ ([p].flatMap fun p => nzLines p.1 p.2) = writ (preX (p.2 % 5)) ++ pfx (p.2 % 5) ++ (txtK (p.1 % 13)).data.toList ++ sfx (p.2 % 3) ++ [10] := by
    rw [List.flatMap_cons, List.flatMap_nil, List.append_nil]
    unfold nzLines
    rw [writ_snoc]
    simp
  rw [e]
  apply bytes_ext
  simp only [ByteArray.data_append, Array.toList_append, h1, h2, data_toB]
  simp
theorem nz_size (p : Nat × Nat) : (nzPre.getD (p.2 % 5) E0).size ≤ 8 ∧ (nzPost.getD (p.2 % 3) E0).size ≤ 2 := by
  have h1 : ∀ q, q < 5 → (nzPre.getD q E0).size ≤ 8 := by decide
  have h2 : ∀ q, q < 3 → (nzPost.getD q E0).size ≤ 2 := by decide
  exact ⟨h1 _ (Nat.mod_lt _ (by omega)), h2 _ (Nat.mod_lt _ (by omega))⟩
theorem plainN_size (P : List (Nat × Nat)) : (plainN P).size ≤ 21 * P.length := by
  unfold plainN
  have h1 := writ_len (P.map fun p => (txtK (p.1 % 13)).data.toList) 20 (fun x hx => by
    obtain ⟨t, _, rfl⟩ := List.mem_map.1 hx
    rw [data_len]; exact txtK_size _)
  rw [List.length_map] at h1
  rw [← data_len, data_toB]
  omega
theorem noiseN_grow (P : List (Nat × Nat)) (p : Nat × Nat) (c : Nat) (h : (noiseN P).size ≤ c) : (noiseN (P ++ [p])).size ≤ c + 31 := by
  have h1 := nz_size p
  have h2 := txtK_size (p.1 % 13)
  rw [noiseN_snoc]
  simp only [ByteArray.size_append]
  have : (⟨#[10]⟩ : ByteArray).size = 1 := rfl
  omega
theorem nz_script (P : List (Nat × Nat)) (h1 : (plainN P).size ≤ 65536) (h2 : (noiseN P).size ≤ 65536) : Sim (scriptS (plainN P)) (scriptS (noiseN P)) := by
  unfold scriptS
  rw [if_neg (by omega), if_neg (by omega)]
  have e1 : linesS (plainN P) = P.map fun p => txtK (p.1 % 13) := by
    unfold plainN
    rw [lines_writ _ (fun x hx => by obtain ⟨t, _, rfl⟩ := List.mem_map.1 hx; exact txt_no _ (Nat.mod_lt _ (by omega))), List.map_map]
    apply List.map_congr_left
    intro p _
    exact bytes_ext (data_toB _)
  have e2 : linesS (noiseN P) = (P.flatMap fun p => nzLines p.1 p.2).map toB := by
    unfold noiseN
    exact lines_writ _ (fun x hx => by obtain ⟨t, _, ht⟩ := List.mem_flatMap.1 hx; exact nz_no _ _ x ht)
  rw [e1, e2]
  exact nz_sim P 0 0 [] []

def pairsN (l z : List Nat) (k : Nat) : List (Nat × Nat) := (List.range k).map fun i => (l.getD i 0, z.getD i 0)
theorem pairsN_succ (l z : List Nat) (k x y : Nat) (h1 : l[k]? = some x) (h2 : z[k]? = some y) : pairsN l z (k + 1) = pairsN l z k ++ [(x, y)] := by
  unfold pairsN
  rw [List.range_succ, List.map_append, List.map_cons, List.map_nil, List.getD_eq_getElem?_getD, List.getD_eq_getElem?_getD, h1, h2]
  rfl
theorem pairsN_len (l z : List Nat) (k : Nat) : (pairsN l z k).length = k := by simp [pairsN]

theorem pre_cells (q : Nat) (h : q < 5) : ([Value.string ⟨#[]⟩, Value.string ⟨#[10]⟩, Value.string ⟨#[35, 32, 34, 10]⟩, Value.string ⟨#[32, 32, 9]⟩, Value.string ⟨#[9, 35, 32, 120, 10, 32, 32, 32]⟩] : List Value)[q]'h = .string (nzPre.getD q E0) := by
  match q, h with
  | 0, _ => rfl
  | 1, _ => rfl
  | 2, _ => rfl
  | 3, _ => rfl
  | 4, _ => rfl
theorem post_cells (q : Nat) (h : q < 3) : ([Value.string ⟨#[]⟩, Value.string ⟨#[32]⟩, Value.string ⟨#[9, 32]⟩] : List Value)[q]'h = .string (nzPost.getD q E0) := by
  match q, h with
  | 0, _ => rfl
  | 1, _ => rfl
  | 2, _ => rfl
set_option maxRecDepth 1000000
set_option maxHeartbeats 8000000 in
theorem noise_law (m : Int) (l z : List Nat) (n n2 cp cp2 : Nat) (a a2 : Option Addr) (w : World) (hm : Wok m w) (hn : l.length = n) (hn2 : z.length = n2) (hl : ∀ x ∈ l, x < 256) (hz : ∀ x ∈ z, x < 256) (hw : BytesN w a l) (hw2 : BytesN w a2 z) :
    Calls Tryd.prog 7 #[.slice a n cp, .slice a2 n2 cp2] w fun e w' => e = .returned (.bool true) ∧ w.grownBy w' none := by
  have HM := Lib.hid hm
  have HN := Lib.hid hn
  have HN2 := Lib.hid hn2
  have HL := Lib.hid hl
  have HZ := Lib.hid hz
  have HW := Lib.hid hw
  have HW2 := Lib.hid hw2
  clear hm hn hn2 hl hz hw hw2
  by_cases h20 : 20 < n
  · have d20 : decide (20 < (n : Int)) = true := by simp; omega
    clear h20
    go_enter Tryd.func7, Tryd.ntmps7
    go_wp2_with fail
    (with_reducible refine (known_any m w HM.out).mono ?_)
    rintro ee w1 ⟨rfl, g1⟩
    have HG1 := Lib.hid g1
    clear g1
    dsimp only
    go_wp2
    go_ret
    exact ⟨rfl, HG1.out⟩
  have d20 : decide (20 < (n : Int)) = false := by simp; omega
  have hn20 : n ≤ 20 := by omega
  clear h20
  by_cases hlt : n2 < n
  · have dlt : decide ((n2 : Int) < (n : Int)) = true := by simp; omega
    go_enter Tryd.func7, Tryd.ntmps7
    go_wp2_with fail
    (with_reducible refine (known_any m w HM.out).mono ?_)
    rintro ee w1 ⟨rfl, g1⟩
    have HG1 := Lib.hid g1
    clear g1
    dsimp only
    go_wp2
    go_ret
    exact ⟨rfl, HG1.out⟩
  have hle : n ≤ n2 := by omega
  have dlt : decide (n2 < n) = false := decide_eq_false hlt
  have dlt2 : decide ((n2 : Int) < (n : Int)) = false := by simp; omega
  clear hlt
  go_enter Tryd.func7, Tryd.ntmps7
  go_wp2_with fail
  (with_reducible refine (known_any m w HM.out).mono ?_)
  rintro ee w1 ⟨rfl, g1⟩
  have HG1 := Lib.hid g1
  clear g1
  dsimp only
  go_wp2
  go_loopw [5, 6, 7] (fun p s i wr => ∃ k : Nat, k ≤ n ∧ i = .int .i64 k ∧ p = .string (plainN (pairsN l z k)) ∧ s = .string (noiseN (pairsN l z k)) ∧ Hid ((noiseN (pairsN l z k)).size ≤ 31 * k) ∧ Hid (w.grownBy wr none)) (fun _ _ i _ => n - (intOf i).toNat)
  case atStart => exact ⟨0, by omega, rfl, rfl, rfl, Lib.hid (by show (0 : Nat) ≤ 0; omega), HG1.out⟩
  case round =>
    obtain ⟨k, hk, rfl, rfl, rfl, hS, hG⟩ := hrel
    by_cases hlt : k < n
    · obtain ⟨x, hx⟩ : ∃ x, l[k]? = some x := ⟨_, List.getElem?_eq_getElem (by rw [HN.out]; exact hlt)⟩
      obtain ⟨y, hy⟩ : ∃ y, z[k]? = some y := ⟨_, List.getElem?_eq_getElem (by rw [HN2.out]; omega)⟩
      obtain ⟨b, o, rfl, c⟩ := HW.out.stays hG.out k x hx
      have hx8 := HL.out x (List.mem_of_getElem? hx)
      have hy8 := HZ.out y (List.mem_of_getElem? hy)
      have HY := Lib.hid hy
      have hps := plainN_size (pairsN l z k)
      rw [pairsN_len] at hps
      have hns := hS.out
      have hpp := pairsN_succ l z k x y hx hy
      have HPN := Lib.hid (plainN_snoc (pairsN l z k) (x, y))
      have HNN := Lib.hid (noiseN_snoc (pairsN l z k) (x, y))
      have HSZ := Lib.hid (noiseN_grow (pairsN l z k) (x, y) _ hS.out)
      have hzz := nz_size (x, y)
      obtain ⟨r, hr⟩ : ∃ r, x % 13 = r := ⟨_, rfl⟩
      have hr13 : r < 13 := by omega
      have e13 : (x : Int) % 13 = (r : Int) := by omega
      have HT := Lib.hid (text_num r (by omega) wr)
      have hts := txtK_size r
      obtain ⟨A, hA⟩ : ∃ A, plainN (pairsN l z k) = A := ⟨_, rfl⟩
      obtain ⟨S, hS0⟩ : ∃ S, noiseN (pairsN l z k) = S := ⟨_, rfl⟩
      obtain ⟨T, hT⟩ : ∃ T, txtK r = T := ⟨_, rfl⟩
      simp only [hr, hT, hA] at HPN
      simp only [hr, hT, hS0] at HNN
      rw [hT] at HT hts
      rw [hA] at hps
      rw [hS0] at hns
      rw [hA, hS0]
      have HPP := Lib.hid hpp
      have p1 : A.size + T.size ≤ 9223372036854775807 := by omega
      have p2 : A.size + T.size + 1 ≤ 9223372036854775807 := by omega
      clear hx hy hr hA hS0 hT hpp hS
      go_wp2_with fail
      (with_reducible refine HT.out.mono ?_)
      rintro ee w2 ⟨rfl, g2⟩
      have HG2 := Lib.hid (World.grownBy.trans hG.out g2)
      clear g2 HT c
      dsimp only
      go_wp2
      obtain ⟨b2, o2, rfl, c2⟩ := HW2.out.stays HG2.out k y HY.out
      have hb2 : b2 < w2.heap.size := World.block_lt_of_cell? _ _ c2
      have nb1 : ¬ b2 = w2.heap.size := by omega
      have nb2 : ¬ b2 = w2.heap.size + 1 := by omega
      have hkn2 : k < n2 := by omega
      obtain ⟨q, hq⟩ : ∃ q, y % 5 = q := ⟨_, rfl⟩
      obtain ⟨p, hp⟩ : ∃ p, y % 3 = p := ⟨_, rfl⟩
      have hq5 : q < 5 := by omega
      have hp3 : p < 3 := by omega
      have eq5 : (y : Int) % 5 = (q : Int) := by omega
      have ep3 : (y : Int) % 3 = (p : Int) := by omega
      simp only [hq, hp] at HNN hzz
      obtain ⟨X, hX⟩ : ∃ X, nzPre.getD q E0 = X := ⟨_, rfl⟩
      obtain ⟨Y, hY⟩ : ∃ Y, nzPost.getD p E0 = Y := ⟨_, rfl⟩
      have t1 := pre_cells q hq5
      have t2 := post_cells p hp3
      simp only [hX, hY] at HNN hzz t1 t2
      have q5i : (q : Int) < 5 := by omega
      have p3i : (p : Int) < 3 := by omega
      have u1 : S.size + X.size ≤ 9223372036854775807 := by omega
      have u2 : S.size + X.size + T.size ≤ 9223372036854775807 := by omega
      have u3 : S.size + X.size + T.size + Y.size ≤ 9223372036854775807 := by omega
      have u4 : S.size + X.size + T.size + Y.size + 1 ≤ 9223372036854775807 := by omega
      clear hq hp hX hY hzz hps hns hts
      go_region
      all_goals
        go_wp2
        go_roundw
        case rel => exact ⟨k + 1, by omega, by go_num, by rw [HPP.out, HPN.out], by rw [HPP.out, HNN.out], Lib.hid (by rw [HPP.out]; have := HSZ.out; omega), Lib.hid (grown_drew 1 (grown_alloc _ (grown_alloc _ HG2.out)))⟩
        case measure => simp [intOf]; omega
    · obtain rfl : k = n := by omega
      have hs1 := plainN_size (pairsN l z k)
      rw [pairsN_len] at hs1
      have hs2 := hS.out
      have HSIM := Lib.hid (nz_script (pairsN l z k) (by omega) (by omega))
      obtain ⟨A, hA⟩ : ∃ A, plainN (pairsN l z k) = A := ⟨_, rfl⟩
      obtain ⟨S, hS0⟩ : ∃ S, noiseN (pairsN l z k) = S := ⟨_, rfl⟩
      rw [hA] at hs1
      rw [hS0] at hs2
      rw [hA, hS0] at HSIM
      rw [hA, hS0]
      clear hA hS0 hS
      go_wp2_with fail
      (with_reducible refine (parse_any m A wr (HM.out.stays hG.out) (by omega)).mono ?_)
      rintro ee w3 h3
      rcases HSIM.out with ⟨L, e1, e2⟩ | ⟨i1, i2, e1, e2⟩
      · rcases h3.cases with ⟨L3, a3, n3, c3, hL, hn3, rfl, ho3, g3⟩ | ⟨k3, hk3, _, _⟩
        · rw [e1] at hL
          obtain rfl := Sum.inr.inj hL
          have h200 : n3 ≤ 200 := by rw [← hn3]; exact scriptS_len _ _ e1
          have HN3 := Lib.hid hn3
          have HO3 := Lib.hid ho3
          have HG3 := Lib.hid (World.grownBy.trans hG.out g3)
          have E1 := Lib.hid e1
          have E2 := Lib.hid e2
          clear hL hn3 ho3 g3 h3 e1 e2
          dsimp only
          go_wp2_with fail
          (with_reducible refine (parse_any m S w3 (HM.out.stays HG3.out) (by omega)).mono ?_)
          rintro ee w4 h4
          rcases h4.cases with ⟨L4, a4, n4, c4, hL4, hn4, rfl, ho4, g4⟩ | ⟨k4, hk4, _, _⟩
          · rw [E2.out] at hL4
            obtain rfl := Sum.inr.inj hL4
            rw [HN3.out] at hn4
            subst hn4
            have HO4 := Lib.hid ho4
            have HO34 := Lib.hid (HO3.out.stays g4)
            have HG4 := Lib.hid (World.grownBy.trans HG3.out g4)
            clear hL4 ho4 g4 h4
            dsimp only
            go_wp2_with fail
            (with_reducible refine (refParse_any m A w4 (HM.out.stays HG4.out) (by omega)).mono ?_)
            rintro ee w5 h5
            rcases h5.cases with ⟨L5, a5, n5, c5, hL5, hn5, rfl, ho5, g5⟩ | ⟨k5, hk5, _, _⟩
            · rw [E1.out] at hL5
              obtain rfl := Sum.inr.inj hL5
              rw [HN3.out] at hn5
              subst hn5
              have HO5 := Lib.hid ho5
              have HO35 := Lib.hid (HO34.out.stays g5)
              have HO45 := Lib.hid (HO4.out.stays g5)
              have HG5 := Lib.hid (World.grownBy.trans HG4.out g5)
              clear hL5 ho5 g5 h5
              dsimp only
              go_wp2_with fail
              (with_reducible refine (linesH_any _ _ n3 c3 c5 a3 a5 _ w5 HN3.out (by omega) HO35.out HO5.out).mono ?_)
              rintro ee w6 ⟨rfl, g6⟩
              have HG6 := Lib.hid (World.grownBy.trans HG5.out g6)
              have HO46 := Lib.hid (HO45.out.stays g6)
              have HO56 := Lib.hid (HO5.out.stays g6)
              clear g6
              dsimp only
              go_wp2_with fail
              (with_reducible refine (linesH_any _ _ n3 c4 c5 a4 a5 _ w6 HN3.out (by omega) HO46.out HO56.out).mono ?_)
              rintro ee w7 ⟨rfl, g7⟩
              have HG7 := Lib.hid (World.grownBy.trans HG6.out g7)
              clear g7
              dsimp only
              go_wp2
              go_ret
              exact ⟨rfl, HG7.out⟩
            · rw [E1.out] at hk5; cases hk5
          · rw [E2.out] at hk4; cases hk4
        · rw [e1] at hk3; cases hk3
      · rcases h3.cases with ⟨L3, a3, n3, c3, hL, _, _, _, _⟩ | ⟨k3, hk3, rfl, g3⟩
        · rw [e1] at hL; cases hL
        · have HG3 := Lib.hid (World.grownBy.trans hG.out g3)
          have E1 := Lib.hid e1
          have E2 := Lib.hid e2
          clear hk3 g3 h3 e1 e2
          dsimp only
          go_wp2_with fail
          (with_reducible refine (parse_any m S w3 (HM.out.stays HG3.out) (by omega)).mono ?_)
          rintro ee w4 h4
          rcases h4.cases with ⟨L4, a4, n4, c4, hL4, _, _, _, _⟩ | ⟨k4, _, rfl, g4⟩
          · rw [E2.out] at hL4; cases hL4
          · have HG4 := Lib.hid (World.grownBy.trans HG3.out g4)
            clear g4 h4
            dsimp only
            go_wp2_with fail
            (with_reducible refine (refParse_any m A w4 (HM.out.stays HG4.out) (by omega)).mono ?_)
            rintro ee w5 h5
            rcases h5.cases with ⟨L5, a5, n5, c5, hL5, _, _, _, _⟩ | ⟨k5, _, rfl, g5⟩
            · rw [E1.out] at hL5; cases hL5
            · have HG5 := Lib.hid (World.grownBy.trans HG4.out g5)
              clear g5 h5
              dsimp only
              go_wp2_with fail
              (with_reducible refine (linesH_any 0 0 0 0 0 none none [] w5 rfl (by omega) (OwnsL.nil _ _) (OwnsL.nil _ _)).mono ?_)
              rintro ee w6 ⟨rfl, g6⟩
              have HG6 := Lib.hid (World.grownBy.trans HG5.out g6)
              clear g6
              dsimp only
              go_wp2_with fail
              (with_reducible refine (linesH_any 0 0 0 0 0 none none [] w6 rfl (by omega) (OwnsL.nil _ _) (OwnsL.nil _ _)).mono ?_)
              rintro ee w7 ⟨rfl, g7⟩
              have HG7 := Lib.hid (World.grownBy.trans HG6.out g7)
              clear g7
              dsimp only
              go_wp2
              go_ret
              exact ⟨rfl, HG7.out⟩
open Go.ChangeShapes Go.WideShapes Go.ChangeAt Go.RowKit
theorem cells_u8 : Tryd.prog.cellsOf 5 = 1 := by kernel_rfl
theorem laidOut : laidOutB Tryd.prog = true := by kernel_rfl
theorem spot_none {W : World} {a : Addr} {v : Value} (h : W.cell? (a.add 0) = some v) : a.spot = none := by
  obtain ⟨b, o, s⟩ := a
  have e : (Addr.add ⟨b, o, s⟩ 0) = ⟨b, o, s⟩ := by simp [Addr.add]
  rw [e] at h
  exact cell_spot h
theorem wf_u8 {n : Int} (h : (Lit.int .u8 n).wf = true) : 0 ≤ n ∧ n < 256 := by
  simp [Lit.wf, IntKind.min, IntKind.max, IntKind.bits, IntKind.signed] at h
  omega
set_option maxRecDepth 100000 in
/-- An argument that is a slice of bytes. -/
theorem open_bytesN {H : Type} {enc : TypeId × Value → H} {W : World} {v : Value} {d : DataW H} {p : List MemPlace} {bb : Nat} (hv : Value.okWide Tryd.prog W .any bb 28 v)
    (h : DataW.Trod enc Tryd.prog W 0 (fun _ => true) true 28 v d p) : ∃ (a : Option Addr) (n cap : Nat) (L : List Nat), v = .slice a n cap ∧ L.length = n ∧ (∀ x ∈ L, x < 256) ∧ BytesN W a L := by
  obtain ⟨a0, n0, c0, rfl⟩ := okWide_slice Tryd.underlying28 hv
  obtain ⟨fuel, hf⟩ := h
  rcases open_ints Tryd.underlying28 Tryd.underlying5 cells_u8 hf with ⟨hcs0, hx⟩ | ⟨a, len, cap, zs, hcs0, _, hl, hm, hz, hx, hrows, hwf⟩
  · simp [Value.cells] at hcs0
    obtain ⟨rfl, rfl, rfl⟩ := hcs0
    exact ⟨none, 0, 0, [], rfl, rfl, (fun x hx => by simp at hx), fun j x hj => by simp at hj⟩
  · simp [Value.cells] at hcs0
    obtain ⟨rfl, rfl, rfl⟩ := hcs0
    have hzl : zs.length = c0 := by simpa using hz
    refine ⟨some a, n0, c0, (zs.take n0).map Int.toNat, rfl, by rw [List.length_map, List.length_take]; omega, fun x hx => ?_, fun j x hj => ?_⟩
    · obtain ⟨y, hy, rfl⟩ := List.mem_map.1 hx
      have := wf_u8 (hwf y (List.mem_of_mem_take hy))
      omega
    rw [List.getElem?_map] at hj
    obtain ⟨y, hy, rfl⟩ := Option.map_eq_some_iff.1 hj
    have hj2 : j < n0 := by have := (List.getElem?_eq_some_iff.1 hy).1; rw [List.length_take] at this; omega
    have h1 := hrows j (by omega)
    have h3 : zs.getD j 0 = y := by
      rw [List.getElem?_take_of_lt hj2] at hy
      rw [List.getD_eq_getElem?_getD, hy]; rfl
    rw [h3] at h1
    have h5 : ((y.toNat : Nat) : Int) = y := by
      have := wf_u8 (hwf y (List.mem_of_getElem? (by rw [List.getElem?_take_of_lt hj2] at hy; exact hy)))
      omega
    obtain ⟨b, o, s⟩ := a
    have hs : s = none := spot_none (hrows 0 (by omega))
    subst hs
    rw [Addr.add_mid] at h1
    rw [h5]
    exact ⟨b, o, rfl, h1⟩

set_option maxRecDepth 100000 in
theorem noise_lifted (os : Os) (started : os.Started) (H : Type) (enc : TypeId × Value → H) :
    ReturnsInHanded {} Tryd.checked os 7 .any (fun w args => (Rows.scriptNoiseSpec.pre enc Tryd.prog Tryd.f7 [] false w args ∧ laidMetH Tryd.prog laidList w) ∧ sizedMet enc Tryd.prog Tryd.f7 (OpenSpec.ofChange Rows.scriptNoiseSpec) false w args)
      (Rows.scriptNoiseSpec.post enc Tryd.prog Tryd.f7 false true false false) := by
  refine returns_all (C := Tryd.checked) (L := laidList) own started (by kernel_rfl) Tryd.func7
    (ChangeSpec.witness_shaped (enc := enc) (C := Tryd.checked) (os := os) (X := fun w _ => laidMetH Tryd.prog laidList w) false (World.laidAll Tryd.prog os laidList) #[.slice none 0 0, .slice none 0 0] 8 (World.laidAll_os _ _ _)
      (World.shaped_of_ZipB (by kernel_rfl) (by kernel_rfl)) (by kernel_rfl) (by kernel_rfl) (by kernel_rfl)
      (by rw [MakeChecks.laidMetH_plain _ _ _ (by kernel_rfl)]; exact laidMet_laidAll _ (by kernel_rfl) (by kernel_rfl))) ?_
  intro W base args ds gs before hval0 hW hsh hL
  have hval : ∀ (j : Nat) t v, Tryd.f7.params[j]? = some t → args[j]? = some v → Value.okWide Tryd.prog W .any base t v := hval0
  have hW' := hW
  obtain ⟨p, q, hA0, hV, rfl, _, _⟩ := hW
  have hA : DataW.TrodAll enc Tryd.prog W 0 (fun _ => true) true Tryd.f7.params.toList args.toList ds p := hA0
  rw [Tryd.params7] at hA hval
  obtain ⟨v0, v1, d0, d1, p0, p1, rfl, rfl, rfl, h0, h1⟩ := trodAll_two hA
  obtain ⟨rfl, rfl⟩ := trodVars_none hV
  obtain ⟨m, hm⟩ := wok_of hsh hL
  have h0k := h0
  have h1k := h1
  obtain ⟨a, n, cap, l, rfl, hn, hl, hP⟩ := open_bytesN (hval 0 28 v0 rfl rfl) h0
  obtain ⟨a2, n2, cap2, r, rfl, hn2, hr, hP2⟩ := open_bytesN (hval 1 28 v1 rfl rfl) h1
  have hlt0 : ∀ y ∈ p0, y.block < W.heap.size := fun y hy => hW'.lt y (by simp [hy])
  have hlt1 : ∀ y ∈ p1, y.block < W.heap.size := fun y hy => hW'.lt y (by simp [hy])
  simp only [List.append_nil] at hW'
  refine (noise_law m l r n n2 cap cap2 a a2 W hm hn hn2 hl hr hP hP2).mono fun e W' ⟨he, hg⟩ => ?_
  subst he
  have hb := below_of_grown hg
  exact ⟨_, rfl, _, _, _, [], _, [], hW', trodAll_mk1 (shut_bool Tryd.underlying4 _), trodAll_mk2 (Below.trod laidOut (by kernel_rfl) (of_decide_eq_true (by kernel_rfl)) h0k hb hlt0) (Below.trod laidOut (by kernel_rfl) (of_decide_eq_true (by kernel_rfl)) h1k hb hlt1), rfl, hb.frame _, fun h => by cases h⟩
theorem noise_holds : Rows.ScriptNoiseSaid :=
  OpenClaim.holds_of_wide 7 Tryd.f7 rfl rfl rfl rfl rfl rfl rfl ⟨rfl, rfl, rfl, rfl, rfl⟩ rfl rfl rfl rfl rfl (by kernel_rfl) Tryd.func7 (by kernel_rfl)
    (of_decide_eq_true (by kernel_rfl)) (by unfold Func.isWrapper; first | (rw [if_pos (by decide +kernel)]; kernel_rfl) | (rw [if_neg (by decide +kernel)]; exact ⟨rfl, rfl⟩))
    (fun os started H enc _ => noise_lifted os started H enc)
theorem noise_card : Rows.ScriptNoiseCardSaid :=
  Claim7.holds_tied_plain_at .later [] [.data, .data, .data, .data, .data, .pinned] true (true, "b564ecc3bda78392046bbe2d8a639e1848e20aaa785d817a202c0e025175ee52") false noise_holds (fun _ h => by cases h) (by kernel_rfl) (fun _ h => by cases h) scriptNoise_row_tie rfl ⟨rfl, rfl⟩ (by kernel_rfl) rfl
    (fun f fn hf hfn => by
      obtain rfl : f = 7 := Option.some.inj ((show Tryd.prog.funcNamed "haversack/haversacklaw17.ScriptNoise" = some 7 by kernel_rfl).symm.trans hf) |>.symm
      obtain rfl : fn = Tryd.f7 := (Option.some.inj (Tryd.func7.symm.trans hfn)).symm
      exact ⟨by kernel_rfl, fun j t ht => by
        rw [Tryd.params7] at ht
        have hm : t ∈ [28, 28] := by simpa using Array.mem_of_getElem? ht
        have hall : ([28, 28].all fun u => !Tryd.prog.wantsStandIn u) = true := by kernel_rfl
        exact (show Tryd.prog.wantsStandIn t = false by simpa using List.all_eq_true.1 hall t hm)⟩)
    (by kernel_rfl)
#print axioms noise_card
end Go.Proofs.YtmjdkgbblccpgaaDoor
