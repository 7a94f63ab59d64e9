/- What a line of each kind is told: on lists of words, no program. -/
import Derived.Test.YtmjdkgbblccpgaaDoorSq
namespace Go.Proofs.YtmjdkgbblccpgaaDoor
open Go.RowKit

def Fin (k : Int) (W : List ByteArray) (bad : Bool) (V : List ByteArray) (l : Ln) : Prop := (goodB bad V = true → lineK k W = some l) ∧ (goodB bad V = false → lineK k W = none)
theorem fin_bad (k : Int) (W V : List ByteArray) (l : Ln) (h : lineK k W = none) : Fin k W true V l := ⟨fun h => by simp [goodB] at h, fun _ => h⟩
theorem fin_end (k : Int) (hk : k = 9 ∨ k = 10) (W : List ByteArray) : Fin k W false W ⟨k, E0, E0, E0, 0, false⟩ := by
  rcases hk with rfl | rfl
  all_goals
    cases W with
    | nil => exact ⟨fun _ => rfl, fun h => by simp [goodB] at h⟩
    | cons a t => exact ⟨fun h => by simp [goodB] at h, fun _ => rfl⟩
theorem fin_one (k : Int) (hk : k = 3 ∨ k = 4) (W : List ByteArray) : Fin k W (false || W.isEmpty || isQ (headS W)) W.tail ⟨k, headS W, E0, E0, 0, false⟩ := by
  rcases hk with rfl | rfl
  all_goals
    match W with
    | [] => exact ⟨fun h => by simp [goodB] at h, fun _ => rfl⟩
    | [a] =>
      show (goodB (isQ a) [] = true → _) ∧ (goodB (isQ a) [] = false → _)
      unfold lineK
      cases ha : isQ a <;> simp [goodB, headS, ha]
    | a :: b :: t => exact ⟨fun h => by simp [goodB] at h, fun _ => rfl⟩
theorem fin_two (k : Int) (hk : k = 0 ∨ k = 5) (W : List ByteArray) : Fin k W ((false || W.isEmpty || isQ (headS W)) || W.tail.isEmpty || isQ (headS W.tail)) W.tail.tail ⟨k, headS W, headS W.tail, E0, 0, false⟩ := by
  rcases hk with rfl | rfl
  all_goals
    match W with
    | [] => exact ⟨fun h => by simp [goodB] at h, fun _ => rfl⟩
    | [a] => exact ⟨fun h => by simp [goodB] at h, fun _ => rfl⟩
    | [a, b] =>
      show (goodB (isQ a || false || isQ b) [] = true → _) ∧ (goodB (isQ a || false || isQ b) [] = false → _)
      unfold lineK
      cases ha : isQ a <;> cases hb : isQ b <;> simp [goodB, headS, ha, hb]
    | a :: b :: c :: t => exact ⟨fun h => by simp [goodB] at h, fun _ => rfl⟩
theorem fin_text (k : Int) (hk : k = 1 ∨ k = 2 ∨ k = 6) (W : List ByteArray) : Fin k W ((false || W.isEmpty || isQ (headS W)) || W.tail.isEmpty || !isQ (headS W.tail)) W.tail.tail ⟨k, headS W, E0, unQ (headS W.tail), 0, false⟩ := by
  rcases hk with rfl | rfl | rfl
  all_goals
    match W with
    | [] => exact ⟨fun h => by simp [goodB] at h, fun _ => rfl⟩
    | [a] => exact ⟨fun h => by simp [goodB] at h, fun _ => rfl⟩
    | [a, b] =>
      show (goodB (isQ a || false || !isQ b) [] = true → _) ∧ (goodB (isQ a || false || !isQ b) [] = false → _)
      unfold lineK
      cases ha : isQ a <;> cases hb : isQ b <;> simp [goodB, headS, ha, hb]
    | a :: b :: c :: t => exact ⟨fun h => by simp [goodB] at h, fun _ => rfl⟩
theorem fin_fail (W : List ByteArray) : Fin 11 W (false || W.isEmpty || !isQ (headS W)) W.tail ⟨11, E0, E0, unQ (headS W), 0, false⟩ := by
  match W with
  | [] => exact ⟨fun h => by simp [goodB] at h, fun _ => rfl⟩
  | [a] =>
    show (goodB (!isQ a) [] = true → _) ∧ (goodB (!isQ a) [] = false → _)
    unfold lineK
    cases ha : isQ a <;> simp [goodB, headS, ha]
  | a :: b :: t => exact ⟨fun h => by simp [goodB] at h, fun _ => rfl⟩
theorem fin_rep (W : List ByteArray) (n : Nat) (h : repP (headS W) = some n) : Fin 8 W (false || W.isEmpty) W.tail ⟨8, E0, E0, E0, (n : Int), false⟩ := by
  match W with
  | [] => exact ⟨fun h => by simp [goodB] at h, fun _ => rfl⟩
  | [a] => exact ⟨fun _ => by show lineK 8 [a] = _; simp [lineK, show repP a = some n from h], fun h => by simp [goodB] at h⟩
  | a :: b :: t => exact ⟨fun h => by simp [goodB] at h, fun _ => rfl⟩
theorem none_rep (W : List ByteArray) (h : repP (headS W) = none) : lineK 8 W = none := by
  match W with
  | [] => rfl
  | [a] => show lineK 8 [a] = _; simp [lineK, show repP a = none from h]
  | a :: b :: t => rfl
theorem notExists : ¬ wNot = wExists := by decide
theorem fin_if1 (W V : List ByteArray) (h1 : W = wNot :: wExists :: V) : Fin 7 W (false || V.isEmpty || isQ (headS V)) V.tail ⟨7, headS V, E0, E0, 0, true⟩ := by
  subst h1
  match V with
  | [] => exact ⟨fun h => by simp [goodB] at h, fun _ => by simp [lineK, notExists]⟩
  | [a] =>
    show (goodB (isQ a) [] = true → _) ∧ (goodB (isQ a) [] = false → _)
    unfold lineK
    cases ha : isQ a <;> simp [goodB, headS, ha]
  | a :: b :: t => exact ⟨fun h => by simp [goodB] at h, fun _ => rfl⟩
theorem fin_if0 (W V : List ByteArray) (h1 : W = wExists :: V) : Fin 7 W (false || V.isEmpty || isQ (headS V)) V.tail ⟨7, headS V, E0, E0, 0, false⟩ := by
  subst h1
  match V with
  | [] => exact ⟨fun h => by simp [goodB] at h, fun _ => rfl⟩
  | [a] =>
    show (goodB (isQ a) [] = true → _) ∧ (goodB (isQ a) [] = false → _)
    unfold lineK
    cases ha : isQ a <;> simp [goodB, headS, ha]
  | [a, b] => exact ⟨fun h => by simp [goodB] at h, fun _ => by simp [lineK, show ¬ wExists = wNot from fun h => notExists h.symm]⟩
  | a :: b :: c :: t => exact ⟨fun h => by simp [goodB] at h, fun _ => rfl⟩
theorem none_if1 (W V : List ByteArray) (h1 : W = wNot :: V) (h2 : ∀ U, V ≠ wExists :: U) : lineK 7 W = none := by
  subst h1
  match V with
  | [] => rfl
  | [a] => simp [lineK, notExists]
  | [a, b] =>
    have : ¬ a = wExists := fun h => h2 [b] (by rw [h])
    simp [lineK, this]
  | a :: b :: c :: t => rfl
theorem none_if0 (W : List ByteArray) (h1 : ∀ U, W ≠ wNot :: U) (h2 : ∀ U, W ≠ wExists :: U) : lineK 7 W = none := by
  match W with
  | [] => rfl
  | [a] => rfl
  | [a, b] =>
    have : ¬ a = wExists := fun h => h2 [b] (by rw [h])
    simp [lineK, this]
  | [a, b, c] =>
    have : ¬ a = wNot := fun h => h1 [b, c] (by rw [h])
    simp [lineK, this]
  | a :: b :: c :: d :: t => rfl
theorem kindAt_cases (l : List ByteArray) (x : ByteArray) : ∀ i, kindAt l x i = -1 ∨ ((i : Int) ≤ kindAt l x i ∧ kindAt l x i < (i : Int) + l.length) := by
  induction l with
  | nil => intro i; exact .inl rfl
  | cons y r ih =>
    intro i
    unfold kindAt
    split
    · right
      simp only [List.length_cons]
      omega
    · rcases ih (i + 1) with h | h
      · exact .inl h
      · right
        simp only [List.length_cons]
        omega
theorem kindS_cases (x : ByteArray) : kindS x = -1 ∨ (0 ≤ kindS x ∧ kindS x < 12) := by
  rcases kindAt_cases keyW x 0 with h | h
  · exact .inl h
  · right
    have : (keyW.length : Int) = 12 := rfl
    unfold kindS
    omega
end Go.Proofs.YtmjdkgbblccpgaaDoor
