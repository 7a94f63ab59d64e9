/- Marks of a table: the text of a version with such marks parses, and its marks stand as the table does. -/
import Derived.Test.YtkngfkjnohbbiaaDoorXb
namespace Go.Proofs.YtkngfkjnohbbiaaDoor
open Go.RowKit

def tabM : List ByteArray := [⟨#[48]⟩, ⟨#[57]⟩, ⟨#[49, 48]⟩, ⟨#[49, 48, 48, 48, 48, 48, 48, 48, 48, 48, 48, 48, 48, 48, 48, 48]⟩, ⟨#[45]⟩, ⟨#[65]⟩, ⟨#[97]⟩, ⟨#[97, 49]⟩]
def markAt (x : Int) : ByteArray := strAt tabM (x.toNat % 8)
def coreB : ByteArray := ⟨#[49, 46, 50, 46, 51]⟩
def markedS (L : List ByteArray) : ByteArray := if L = [] then coreB else coreB ++ dashB ++ joinB dotB L
theorem tab_ok : ∀ k, k < 8 → okMark (strAt tabM k) = true := by decide +kernel
theorem tab_dot : ∀ k, k < 8 → ∀ c ∈ (strAt tabM k).data.toList, c ≠ 46 := by decide +kernel
theorem tab_cmp : ∀ j, j < 8 → ∀ k, k < 8 → cmpMk (strAt tabM j) (strAt tabM k) = signS ((j : Int) - (k : Int)) := by decide +kernel
theorem mark_ok (x : Int) : okMark (markAt x) = true := tab_ok _ (Nat.mod_lt _ (by omega))
theorem mark_dot (x : Int) : NoB 46 (markAt x) := tab_dot _ (Nat.mod_lt _ (by omega))
theorem mark_cmp (x y : Int) (hx : 0 ≤ x) (hy : 0 ≤ y) : cmpMk (markAt x) (markAt y) = signS (x % 8 - y % 8) := by
  unfold markAt
  rw [tab_cmp _ (Nat.mod_lt _ (by omega)) _ (Nat.mod_lt _ (by omega))]
  congr 1
  omega
theorem core_pieces : pieces 46 coreB = [⟨#[49]⟩, ⟨#[50]⟩, ⟨#[51]⟩] := by decide +kernel
theorem core_parse : parseS coreB = (⟨1, 2, 3, []⟩, 0) := by decide +kernel
theorem marked_parse (l : List Int) (hl : l.length ≤ 5) : parseS (markedS (l.map markAt)) = (⟨1, 2, 3, l.map markAt⟩, 0) := by
  unfold markedS
  by_cases h : l.map markAt = []
  · rw [if_pos h, h]; exact core_parse
  · rw [if_neg h]
    generalize hJ : joinB dotB (l.map markAt) = J
    have hs : (coreB ++ dashB ++ J).size = 6 + J.size := by
      rw [ByteArray.size_append, ByteArray.size_append]; rfl
    have hdata : (coreB ++ dashB ++ J).data.toList = [49, 46, 50, 46, 51, 45] ++ J.data.toList := by
      rw [ByteArray.data_append, ByteArray.data_append, Array.toList_append, Array.toList_append]; rfl
    have hb : ∀ j, j < 6 → byteAt (coreB ++ dashB ++ J) j = [49, 46, 50, 46, 51, 45].getD j 0 := by
      intro j hj
      unfold byteAt
      rw [hdata, List.getD_eq_getElem?_getD, List.getElem?_append_left (by simpa using hj), List.getD_eq_getElem?_getD]
    have e := dash_hit (coreB ++ dashB ++ J) 5 (by omega) (hb 5 (by omega)) (fun j hj => by
      rw [hb j (by omega)]
      have : ∀ j, j < 5 → ([49, 46, 50, 46, 51, 45] : List UInt8).getD j 0 ≠ 45 := by decide
      exact this j hj)
    have e1 : (coreB ++ dashB ++ J).extract 0 5 = coreB := bytes_ext (by rw [extract_head, hdata]; rfl)
    have e2 : (coreB ++ dashB ++ J).extract (5 + 1) (coreB ++ dashB ++ J).size = J := bytes_ext (by rw [extract_tail, hdata]; rfl)
    rw [e1, e2] at e
    unfold parseS
    rw [e]
    simp only
    have e3 : pieces 46 J = l.map markAt := by
      rw [← hJ]
      exact pieces_join 46 _ h (fun p hp => by
        obtain ⟨x, _, rfl⟩ := List.mem_map.1 hp
        exact mark_dot x)
    rw [core_pieces]
    unfold parseP okVer preOf
    rw [e3]
    have hm : okMarks (l.map markAt) = true := by
      unfold okMarks
      simp only [Bool.and_eq_true, decide_eq_true_eq, List.all_eq_true, List.length_map]
      first
        | exact ⟨fun p hp => by obtain ⟨x, _, rfl⟩ := List.mem_map.1 hp; exact mark_ok x, hl⟩
        | exact ⟨hl, fun p hp => by obtain ⟨x, _, rfl⟩ := List.mem_map.1 hp; exact mark_ok x⟩
    rw [hm]
    rfl
/-- The order of such marks, letter by letter. -/
theorem scan_marks (k : Nat) : ∀ l r : List Int, (∀ x ∈ l, 0 ≤ x) → (∀ x ∈ r, 0 ≤ x) → k ≤ l.length → k ≤ r.length → (∀ j, j < k → l.getD j 0 % 8 = r.getD j 0 % 8) → scanM (l.map markAt) (r.map markAt) = scanM ((l.drop k).map markAt) ((r.drop k).map markAt) := by
  induction k with
  | zero => intro l r _ _ _ _ _; rfl
  | succ k ih =>
    intro l r hl hr h1 h2 hj
    cases l with
    | nil => simp at h1
    | cons x l =>
      cases r with
      | nil => simp at h2
      | cons y r =>
        have h0 : x % 8 = y % 8 := hj 0 (by omega)
        have hc : cmpMk (markAt x) (markAt y) = 0 := by
          rw [mark_cmp x y (hl x (by simp)) (hr y (by simp)), h0, Int.sub_self]; rfl
        show (if cmpMk (markAt x) (markAt y) = 0 then scanM (l.map markAt) (r.map markAt) else cmpMk (markAt x) (markAt y)) = _
        rw [if_pos hc]
        exact ih l r (fun z hz => hl z (by simp [hz])) (fun z hz => hr z (by simp [hz])) (by simpa using h1) (by simpa using h2) (fun j hj' => hj (j + 1) (by omega))
/-- They part at k. -/
theorem scan_part (k : Nat) (l r : List Int) (hl : ∀ x ∈ l, 0 ≤ x) (hr : ∀ x ∈ r, 0 ≤ x) (h1 : k < l.length) (h2 : k < r.length) (hj : ∀ j, j < k → l.getD j 0 % 8 = r.getD j 0 % 8) (hne : ¬ l.getD k 0 % 8 = r.getD k 0 % 8) :
    scanM (l.map markAt) (r.map markAt) = signS (l.getD k 0 % 8 - r.getD k 0 % 8) := by
  rw [scan_marks k l r hl hr (by omega) (by omega) hj]
  have e1 : l.drop k = l.getD k 0 :: l.drop (k + 1) := by
    rw [List.getD_eq_getElem?_getD, List.getElem?_eq_getElem h1]; exact List.drop_eq_getElem_cons h1
  have e2 : r.drop k = r.getD k 0 :: r.drop (k + 1) := by
    rw [List.getD_eq_getElem?_getD, List.getElem?_eq_getElem h2]; exact List.drop_eq_getElem_cons h2
  have m1 : l.getD k 0 ∈ l := by rw [List.getD_eq_getElem?_getD, List.getElem?_eq_getElem h1]; exact List.getElem_mem h1
  have m2 : r.getD k 0 ∈ r := by rw [List.getD_eq_getElem?_getD, List.getElem?_eq_getElem h2]; exact List.getElem_mem h2
  rw [e1, e2]
  have hc := mark_cmp (l.getD k 0) (r.getD k 0) (hl _ m1) (hr _ m2)
  show (if cmpMk (markAt (l.getD k 0)) (markAt (r.getD k 0)) = 0 then _ else cmpMk (markAt (l.getD k 0)) (markAt (r.getD k 0))) = _
  rw [hc, if_neg]
  unfold signS
  repeat' split
  all_goals omega
/-- They never part. -/
theorem scan_end (l r : List Int) (hl : ∀ x ∈ l, 0 ≤ x) (hr : ∀ x ∈ r, 0 ≤ x) (hj : ∀ j, j < min l.length r.length → l.getD j 0 % 8 = r.getD j 0 % 8) :
    scanM (l.map markAt) (r.map markAt) = signS ((l.length : Int) - (r.length : Int)) := by
  rw [scan_marks (min l.length r.length) l r hl hr (by omega) (by omega) hj]
  have h0 : (l.drop (min l.length r.length)).map markAt = [] ∨ (r.drop (min l.length r.length)).map markAt = [] := by
    rcases Nat.le_total l.length r.length with h | h
    · left; rw [List.drop_eq_nil_of_le (by omega)]; rfl
    · right; rw [List.drop_eq_nil_of_le (by omega)]; rfl
  rw [scanM_nil _ _ h0, sign_cmp]
  unfold Lib.compareInt
  simp only [List.length_map, List.length_drop]
  repeat' split
  all_goals omega
end Go.Proofs.YtkngfkjnohbbiaaDoor
