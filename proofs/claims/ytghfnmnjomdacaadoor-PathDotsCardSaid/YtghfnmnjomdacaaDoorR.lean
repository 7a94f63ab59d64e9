/- What stands between the slashes, letter by letter; and the way of steps up and down: laws on lists, no program. -/
import Derived.Test.YtghfnmnjomdacaaDoorN
namespace Go.Proofs.YtghfnmnjomdacaaDoor
open Go.RowKit

/-- What stands between the slashes of a list of bytes. -/
def cutL : List UInt8 → List (List UInt8)
  | [] => [[]]
  | c :: r => if c = 47 then [] :: cutL r else match cutL r with
    | [] => [[c]]
    | h :: t => (c :: h) :: t
theorem cutL_ne (l : List UInt8) : cutL l ≠ [] := by
  cases l with
  | nil => simp [cutL]
  | cons c r =>
    unfold cutL
    split
    · simp
    · split <;> simp
theorem cutL_plain (l : List UInt8) (h : ∀ c ∈ l, c ≠ 47) : cutL l = [l] := by
  induction l with
  | nil => rfl
  | cons c r ih =>
    rw [cutL, if_neg (h c (by simp)), ih fun d hd => h d (by simp [hd])]
theorem cutL_at (a b : List UInt8) (h : ∀ c ∈ a, c ≠ 47) : cutL (a ++ 47 :: b) = a :: cutL b := by
  induction a with
  | nil => simp [cutL]
  | cons c r ih =>
    rw [List.cons_append, cutL, if_neg (h c (by simp)), ih fun d hd => h d (by simp [hd])]
theorem cutL_slash (l : List UInt8) : cutL (l ++ [47]) = cutL l ++ [[]] := by
  induction l with
  | nil => simp [cutL]
  | cons c r ih =>
    rw [List.cons_append, cutL, cutL, ih]
    split
    · rfl
    · cases h : cutL r with
      | nil => exact absurd h (cutL_ne r)
      | cons x t => rfl
theorem cutL_push (l : List UInt8) (c : UInt8) (hc : c ≠ 47) (A : List (List UInt8)) (t : List UInt8) (h : cutL l = A ++ [t]) : cutL (l ++ [c]) = A ++ [t ++ [c]] := by
  induction l generalizing A t with
  | nil =>
    have h1 : [[]] = A ++ [t] := h
    cases A with
    | nil =>
      have h2 : [] = t := by simpa using h1
      subst h2
      simp [cutL, hc]
    | cons x r => simp at h1
  | cons d r ih =>
    rw [List.cons_append]
    unfold cutL at h ⊢
    by_cases hd : d = 47
    · rw [if_pos hd] at h ⊢
      cases A with
      | nil =>
        have := cutL_ne r
        simp at h
        exact absurd h.2 this
      | cons x A' =>
        rw [List.cons_append, List.cons.injEq] at h
        rw [ih A' t h.2, ← h.1]; rfl
    · rw [if_neg hd] at h ⊢
      cases hr : cutL r with
      | nil => exact absurd hr (cutL_ne r)
      | cons x T =>
        rw [hr] at h
        simp only at h
        cases A with
        | nil =>
          have h2 : T = [] ∧ t = d :: x := by
            rw [List.nil_append, List.cons.injEq] at h
            exact ⟨h.2, h.1.symm⟩
          obtain ⟨rfl, rfl⟩ := h2
          rw [ih [] x (by rw [hr]; rfl)]; rfl
        | cons y A' =>
          rw [List.cons_append, List.cons.injEq] at h
          rw [ih (x :: A') t (by rw [hr, h.2]; rfl), ← h.1]; rfl

def toB (l : List UInt8) : ByteArray := ⟨l.toArray⟩
theorem toB_data (s : ByteArray) : toB s.data.toList = s := by
  apply ByteArray.ext; simp [toB]
theorem first_slash (s : ByteArray) : ∀ k, k ≤ s.size → (∀ j, j < k → byteAt s j ≠ 47) ∨ ∃ i, i < k ∧ byteAt s i = 47 ∧ ∀ j, j < i → byteAt s j ≠ 47 := by
  intro k
  induction k with
  | zero => intro _; exact .inl fun j h => by omega
  | succ k ih =>
    intro h
    rcases ih (by omega) with h1 | ⟨i, h1, h2, h3⟩
    · by_cases hb : byteAt s k = 47
      · exact .inr ⟨k, by omega, hb, h1⟩
      · refine .inl fun j hj => ?_
        by_cases e : j = k
        · rw [e]; exact hb
        · exact h1 j (by omega)
    · exact .inr ⟨i, by omega, h2, h3⟩
theorem byteAt_mem (s : ByteArray) (n : Nat) (hn : n ≤ s.size) (h : ∀ j, j < n → byteAt s j ≠ 47) : ∀ c ∈ s.data.toList.take n, c ≠ 47 := by
  intro c hc
  obtain ⟨j, hj, rfl⟩ := List.mem_iff_getElem.1 hc
  have hl : s.data.toList.length = s.size := by simp
  rw [List.length_take] at hj
  have h1 := h j (by omega)
  unfold byteAt at h1
  rw [List.getD_eq_getElem?_getD, List.getElem?_eq_getElem (by omega)] at h1
  rw [List.getElem_take]
  simpa using h1
theorem pieces_cut (n : Nat) : ∀ s : ByteArray, s.size ≤ n → pieces s = (cutL s.data.toList).map toB := by
  induction n with
  | zero =>
    intro s hs
    rw [pieces_none s (fun j hj => by omega)]
    have h : s.data.toList = [] := List.eq_nil_of_length_eq_zero (by have : s.data.toList.length = s.size := by simp
                                                                     omega)
    have h2 := toB_data s
    rw [h] at h2 ⊢
    simp [cutL, h2]
  | succ n ih =>
    intro s hs
    have hl : s.data.toList.length = s.size := by simp
    rcases first_slash s s.size (Nat.le_refl _) with h1 | ⟨i, h1, h2, h3⟩
    · rw [pieces_none s h1, cutL_plain _ (by have := byteAt_mem s s.size (Nat.le_refl _) h1; rwa [List.take_of_length_le (by omega)] at this)]
      simp [toB_data]
    · rw [pieces_hit s i h1 h2 h3, ih _ (by rw [ByteArray.size_extract]; omega)]
      have e : s.data.toList = s.data.toList.take i ++ 47 :: s.data.toList.drop (i + 1) := by
        have h4 : s.data.toList[i]'(by omega) = 47 := by
          unfold byteAt at h2
          rw [List.getD_eq_getElem?_getD, List.getElem?_eq_getElem (by omega)] at h2
          simpa using h2
        rw [← h4, ← List.drop_eq_getElem_cons, List.take_append_drop]
      have d1 : (s.extract 0 i).data.toList = s.data.toList.take i := Lib.extract_from_zero s i
      have d2 : (s.extract (i + 1) s.size).data.toList = s.data.toList.drop (i + 1) := by
        rw [ByteArray.data_extract, Array.toList_extract, List.extract_eq_take_drop]
        exact List.take_of_length_le (by rw [List.length_drop]; omega)
      rw [e, cutL_at _ _ (byteAt_mem s i (by omega) h3), List.map_cons, ← d1, ← d2, toB_data]

/-! Steps: down (a/) or up (../). -/
def aB : ByteArray := ⟨#[97]⟩
def stepB (b : Bool) : ByteArray := if b then aB else dots
/-- Whether the way leads out, from d deep on. -/
def outOf : Nat → List Bool → Bool
  | _, [] => false
  | d, true :: r => outOf (d + 1) r
  | 0, false :: _ => true
  | d + 1, false :: r => outOf d r
/-- How deep it ends, where it doesn't lead out. -/
def endOf : Nat → List Bool → Nat
  | d, [] => d
  | d, true :: r => endOf (d + 1) r
  | 0, false :: _ => 0
  | d + 1, false :: r => endOf d r
theorem endOf_le (d : Nat) (L : List Bool) : endOf d L ≤ d + L.length := by
  induction L generalizing d with
  | nil => simp [endOf]
  | cons b r ih =>
    cases b with
    | true => have := ih (d + 1); simp only [endOf, List.length_cons]; omega
    | false => cases d with
      | zero => simp [endOf]
      | succ d => have := ih d; simp only [endOf, List.length_cons]; omega
theorem outOf_snoc (d : Nat) (L : List Bool) (b : Bool) : outOf d (L ++ [b]) = (outOf d L || (decide (endOf d L = 0) && !b)) := by
  induction L generalizing d with
  | nil => cases b <;> cases d <;> simp [outOf, endOf]
  | cons x r ih =>
    cases x with
    | true => simp only [List.cons_append, outOf, endOf]; exact ih (d + 1)
    | false => cases d with
      | zero => simp [outOf]
      | succ d => simp only [List.cons_append, outOf, endOf]; exact ih d
theorem endOf_snoc (d : Nat) (L : List Bool) (b : Bool) (h : outOf d L = false) : endOf d (L ++ [b]) = if b then endOf d L + 1 else endOf d L - 1 := by
  induction L generalizing d with
  | nil => cases b <;> cases d <;> simp [endOf]
  | cons x r ih =>
    cases x with
    | true => simp only [List.cons_append, outOf, endOf] at h ⊢; exact ih (d + 1) h
    | false => cases d with
      | zero => simp [outOf] at h
      | succ d => simp only [List.cons_append, outOf, endOf] at h ⊢; exact ih d h
theorem walk_steps (d : Nat) (L : List Bool) : walkL 0 (List.replicate d aB) (L.map stepB ++ [⟨#[]⟩]) = if outOf d L then (51, []) else (0, List.replicate (endOf d L) aB) := by
  induction L generalizing d with
  | nil => simp [outOf, endOf, walkL]
  | cons b r ih =>
    cases b with
    | true =>
      have e : walkL 0 (List.replicate d aB) (aB :: (r.map stepB ++ [⟨#[]⟩])) = walkL 0 (List.replicate d aB ++ [aB]) (r.map stepB ++ [⟨#[]⟩]) :=
        walkL_good 0 _ aB _ (by decide) (by decide) (by decide) (by decide)
      show walkL 0 (List.replicate d aB) (aB :: (r.map stepB ++ [⟨#[]⟩])) = _
      rw [e, ← List.replicate_succ', ih]
      rfl
    | false =>
      show walkL 0 (List.replicate d aB) (dots :: (r.map stepB ++ [⟨#[]⟩])) = _
      cases d with
      | zero => rw [walkL_out 0 _ _ rfl]; rfl
      | succ d =>
        rw [walkL_up 0 _ _ (by simp), List.replicate_succ', List.dropLast_concat, ih]
        rfl
theorem steps_parts (d : Nat) (h : d ≤ 12) : (partsS (joinB (List.replicate d aB))).length = d := by
  have H : ∀ d : Fin 13, (partsS (joinB (List.replicate d.val aB))).length = d.val := by decide +kernel
  exact H ⟨d, by omega⟩
theorem cut_of_pieces (s : ByteArray) (P : List ByteArray) (h : pieces s = P ++ [⟨#[]⟩]) : cutL s.data.toList = P.map (·.data.toList) ++ [[]] := by
  have h1 := pieces_cut _ s (Nat.le_refl _)
  rw [h] at h1
  have h2 := congrArg (List.map fun x : ByteArray => x.data.toList) h1
  rw [List.map_map] at h2
  have h3 : ((fun x : ByteArray => x.data.toList) ∘ toB) = id := by
    funext l
    simp [toB]
  rw [h3, List.map_id, List.map_append] at h2
  exact h2.symm
theorem pieces_of_cut (s : ByteArray) (P : List ByteArray) (h : cutL s.data.toList = P.map (·.data.toList)) : pieces s = P := by
  rw [pieces_cut _ s (Nat.le_refl _), h, List.map_map]
  have h3 : (toB ∘ fun x : ByteArray => x.data.toList) = id := by
    funext x
    exact toB_data x
  rw [h3, List.map_id]
theorem pieces_down (s : ByteArray) (L : List Bool) (h : pieces s = L.map stepB ++ [⟨#[]⟩]) : pieces (s ++ ⟨#[97, 47]⟩) = (L ++ [true]).map stepB ++ [⟨#[]⟩] := by
  have h1 := cut_of_pieces s _ h
  have h2 := cutL_slash (s.data.toList ++ [97])
  rw [cutL_push _ 97 (by decide) _ _ h1] at h2
  refine pieces_of_cut _ _ ?_
  have e : (s ++ ⟨#[97, 47]⟩).data.toList = s.data.toList ++ [97] ++ [47] := by simp
  rw [e, h2]
  simp [stepB, aB]
theorem pieces_up (s : ByteArray) (L : List Bool) (h : pieces s = L.map stepB ++ [⟨#[]⟩]) : pieces (s ++ ⟨#[46, 46, 47]⟩) = (L ++ [false]).map stepB ++ [⟨#[]⟩] := by
  have h1 := cut_of_pieces s _ h
  have h2 := cutL_slash (s.data.toList ++ [46] ++ [46])
  rw [cutL_push _ 46 (by decide) _ _ (cutL_push _ 46 (by decide) _ _ h1)] at h2
  refine pieces_of_cut _ _ ?_
  have e : (s ++ ⟨#[46, 46, 47]⟩).data.toList = s.data.toList ++ [46] ++ [46] ++ [47] := by simp
  rw [e, h2]
  simp [stepB, dots]
/-- A text of steps is no text that begins with a slash, and its clean path is this. -/
theorem clean_steps (s : ByteArray) (L : List Bool) (h : pieces s = L.map stepB ++ [⟨#[]⟩]) (hs : s.size ≤ 200) (h0 : s.size = 0 ∨ byteAt s 0 ≠ 47) :
    cleanS s = if outOf 0 L then (⟨#[]⟩, 51) else if 12 < endOf 0 L then (⟨#[]⟩, 50) else (joinB (List.replicate (endOf 0 L) aB), 0) := by
  have hp : ¬ Lib.hasPrefix s.data.toList slash.data.toList = true := by
    rw [prefix_byte]
    rcases h0 with h0 | h0
    · simp [h0]
    · simp [h0]
  unfold cleanS walkS
  have hw := walk_steps 0 L
  rw [← h] at hw
  simp only [List.replicate_zero] at hw
  rw [if_neg (by omega), if_neg hp, show ([] : List ByteArray).length = 0 from rfl, hw]
  cases outOf 0 L with
  | true => rfl
  | false =>
    simp
end Go.Proofs.YtghfnmnjomdacaaDoor
