/- Words of a line: laws on lists of bytes, no program. -/
import Derived.Test.YtmjdkgbblccpgaaDoorBy
namespace Go.Proofs.YtmjdkgbblccpgaaDoor
open Go.RowKit

def blk (c : UInt8) : Bool := c == 32 || c == 9
def escB (c : UInt8) : Option UInt8 := if c = 34 ∨ c = 92 then some c else if c = 110 then some 10 else none
/-- Behind an opening quote: the text, and what stands behind the closing one. -/
def quoteL : List UInt8 → Option (List UInt8 × List UInt8)
  | [] => none
  | c :: r =>
    if c = 34 then some ([], r)
    else if c = 92 then
      match r with
      | [] => none
      | e :: r' => match escB e with
        | none => none
        | some d => (quoteL r').map fun p => (d :: p.1, p.2)
    else (quoteL r).map fun p => (c :: p.1, p.2)
def endOk (l : List UInt8) : Bool := match l with
  | [] => true
  | c :: _ => blk c
def trimB (l : List UInt8) : List UInt8 := l.dropWhile blk
def plainW (l : List UInt8) : List UInt8 := l.takeWhile fun c => !blk c
def plainR (l : List UInt8) : List UInt8 := l.dropWhile fun c => !blk c
def wordsF : Nat → List UInt8 → Option (List (List UInt8))
  | 0, _ => some []
  | f + 1, l => match trimB l with
    | [] => some []
    | c :: r =>
      if c = 34 then
        match quoteL r with
        | none => none
        | some p => if endOk p.2 = true then (wordsF f p.2).map fun x => (34 :: p.1) :: x else none
      else (wordsF f (plainR (c :: r))).map fun x => plainW (c :: r) :: x
def wordsL (l : List UInt8) : Option (List (List UInt8)) := wordsF (l.length + 1) l

theorem quoteL_len (n : Nat) : ∀ (l t r : List UInt8), l.length ≤ n → quoteL l = some (t, r) → r.length < l.length ∧ t.length + r.length < l.length := by
  induction n with
  | zero =>
    intro l t r hl h
    obtain rfl : l = [] := List.eq_nil_of_length_eq_zero (by omega)
    simp [quoteL] at h
  | succ n ih =>
    intro l t r hl h
    cases l with
    | nil => simp [quoteL] at h
    | cons c q =>
      rw [quoteL.eq_def] at h
      simp only at h
      simp only [List.length_cons] at hl ⊢
      split at h
      · simp only [Option.some.injEq, Prod.mk.injEq] at h
        obtain ⟨rfl, rfl⟩ := h
        simp
      · split at h
        · cases q with
          | nil => simp at h
          | cons e q' =>
            simp only at h
            cases he : escB e with
            | none => rw [he] at h; simp at h
            | some d =>
              rw [he] at h
              simp only [Option.map_eq_some_iff] at h
              obtain ⟨⟨t2, r2⟩, h1, h2⟩ := h
              simp only [Prod.mk.injEq] at h2
              obtain ⟨rfl, rfl⟩ := h2
              simp only [List.length_cons] at hl ⊢
              have := ih q' t2 r2 (by omega) h1
              omega
        · simp only [Option.map_eq_some_iff] at h
          obtain ⟨⟨t2, r2⟩, h1, h2⟩ := h
          simp only [Prod.mk.injEq] at h2
          obtain ⟨rfl, rfl⟩ := h2
          simp only [List.length_cons]
          have := ih q t2 r2 (by omega) h1
          omega
theorem trimB_len (l : List UInt8) : (trimB l).length ≤ l.length := by
  unfold trimB
  exact (List.dropWhile_sublist _).length_le
theorem plainR_len (c : UInt8) (r : List UInt8) (h : blk c = false) : (plainR (c :: r)).length ≤ r.length := by
  unfold plainR
  rw [List.dropWhile_cons, h]
  simp only [Bool.not_false, if_true]
  exact (List.dropWhile_sublist _).length_le
theorem trimB_head (l : List UInt8) (c : UInt8) (r : List UInt8) (h : trimB l = c :: r) : blk c = false := by
  unfold trimB at h
  have := List.head?_dropWhile_not blk l
  rw [h] at this
  simpa using this
theorem wordsF_mono (f : Nat) : ∀ (g : Nat) (l : List UInt8), l.length < f → f ≤ g → wordsF g l = wordsF f l := by
  induction f with
  | zero => intro g l h; omega
  | succ f ih =>
    intro g l hl hg
    obtain ⟨g, rfl⟩ : ∃ k, g = k + 1 := ⟨g - 1, by omega⟩
    have ht := trimB_len l
    cases he : trimB l with
    | nil => simp only [wordsF, he]
    | cons c r =>
      have hb := trimB_head l c r he
      rw [he] at ht
      simp only [List.length_cons] at ht
      simp only [wordsF, he]
      by_cases h34 : c = 34
      · rw [if_pos h34, if_pos h34]
        cases hq : quoteL r with
        | none => rfl
        | some p =>
          have := (quoteL_len r.length r p.1 p.2 (Nat.le_refl _) hq).1
          simp only
          rw [ih g p.2 (by omega) (by omega)]
      · rw [if_neg h34, if_neg h34]
        have := plainR_len c r hb
        rw [ih g _ (by omega) (by omega)]
theorem wordsF_eq (f : Nat) (l : List UInt8) (h : l.length < f) : wordsF f l = wordsL l := wordsF_mono (l.length + 1) f l (by omega) (by omega)
theorem wordsL_trim (l : List UInt8) : wordsL l = wordsL (trimB l) := by
  have h1 : trimB (trimB l) = trimB l := by
    cases he : trimB l with
    | nil => rfl
    | cons c r =>
      have hb := trimB_head l c r he
      unfold trimB
      rw [List.dropWhile_cons, hb]; rfl
  have h2 : wordsF (l.length + 1) l = wordsF (l.length + 1) (trimB l) := by simp only [wordsF, h1]
  have h3 := trimB_len l
  show wordsF (l.length + 1) l = _
  rw [h2, wordsF_eq _ _ (by omega)]
theorem wordsF_succ (f : Nat) (l : List UInt8) : wordsF (f + 1) l = match trimB l with
    | [] => some []
    | c :: r =>
      if c = 34 then
        match quoteL r with
        | none => none
        | some p => if endOk p.2 = true then (wordsF f p.2).map fun x => (34 :: p.1) :: x else none
      else (wordsF f (plainR (c :: r))).map fun x => plainW (c :: r) :: x := rfl
theorem wordsL_nil : wordsL [] = some [] := rfl
theorem wordsL_quote (r : List UInt8) : wordsL (34 :: r) = match quoteL r with
    | none => none
    | some p => if endOk p.2 = true then (wordsL p.2).map fun x => (34 :: p.1) :: x else none := by
  have ht : trimB (34 :: r) = 34 :: r := by unfold trimB; rw [List.dropWhile_cons]; rfl
  show wordsF (r.length + 1 + 1) (34 :: r) = _
  rw [wordsF_succ, ht]
  simp only [if_true]
  cases hq : quoteL r with
  | none => rfl
  | some p =>
    have := (quoteL_len r.length r p.1 p.2 (Nat.le_refl _) hq).1
    simp only
    rw [show wordsF (r.length + 1) p.2 = wordsL p.2 from wordsF_eq _ _ (by omega)]
theorem wordsL_plain (c : UInt8) (r : List UInt8) (hb : blk c = false) (h34 : c ≠ 34) : wordsL (c :: r) = (wordsL (plainR (c :: r))).map fun x => plainW (c :: r) :: x := by
  have ht : trimB (c :: r) = c :: r := by unfold trimB; rw [List.dropWhile_cons, hb]; rfl
  have := plainR_len c r hb
  show wordsF (r.length + 1 + 1) (c :: r) = _
  rw [wordsF_succ, ht]
  simp only
  rw [if_neg h34, show wordsF (r.length + 1) (plainR (c :: r)) = wordsL (plainR (c :: r)) from wordsF_eq _ _ (by omega)]
end Go.Proofs.YtmjdkgbblccpgaaDoor
