/- The reference's line, kind for kind. -/
import Derived.Test.YtmjdkgbblccpgaaDoorRa
namespace Go.Proofs.YtmjdkgbblccpgaaDoor
open Go.RowKit

def zB : Ln := ⟨0, E0, E0, E0, 0, false⟩
theorem PartS.cellP {w : World} {B b o n cp : Nat} {M : List ByteArray} (h : PartS w B (.slice (some ⟨b, o, none⟩) n cp) M) (k : Nat) (x : ByteArray) (hk : M[k]? = some x) : w.cell? ⟨b, o + k, none⟩ = some (.string x) := by
  obtain ⟨b', o', e, _, c⟩ := h.at k x hk
  have e1 := Option.some.inj e
  injection e1 with h1 h2 _
  subst h1 h2
  exact c
theorem end_bad {W : List ByteArray} {w w' : World} (h : lineOf W = none) (hg : w.grownBy w' none) : LineTo W w (.returned (.tuple #[lnV ⟨0, E0, E0, E0, 0, false⟩, .bool false])) w' := ⟨_, false, rfl, (fun h => by cases h), (fun _ => h), hg⟩
theorem end_good {W : List ByteArray} {w w' : World} (l : Ln) (h : lineOf W = some l) (hg : w.grownBy w' none) : LineTo W w (.returned (.tuple #[lnV l, .bool true])) w' := ⟨_, true, rfl, (fun _ => h), (fun h => by cases h), hg⟩
theorem lineOf_key (x : ByteArray) (k : Int) (V : List ByteArray) (h : kindS x = k) : lineOf (x :: V) = lineK k V := by show lineK (kindS x) V = _; rw [h]
theorem len0 {V : List ByteArray} (h : V.length = 0) : V = [] := List.eq_nil_of_length_eq_zero h
theorem len1 {V : List ByteArray} (h : V.length = 1) : ∃ a, V = [a] := by
  match V, h with
  | [a], _ => exact ⟨a, rfl⟩
theorem len2 {V : List ByteArray} (h : V.length = 2) : ∃ a b, V = [a, b] := by
  match V, h with
  | [a, b], _ => exact ⟨a, b, rfl⟩
theorem len3 {V : List ByteArray} (h : V.length = 3) : ∃ a b c, V = [a, b, c] := by
  match V, h with
  | [a, b, c], _ => exact ⟨a, b, c, rfl⟩
theorem plain_cons (x : ByteArray) (W : List ByteArray) (h : isQ x = false) : plainW8 (x :: W) = plainW8 W := by simp [plainW8, h]
theorem no_two (k : Int) (hk : k = 0 ∨ k = 5 ∨ k = 1 ∨ k = 2 ∨ k = 6) (V : List ByteArray) (h : V.length ≠ 2) : lineK k V = none := by
  match V, h with
  | [], _ => rcases hk with rfl | rfl | rfl | rfl | rfl <;> rfl
  | [a], _ => rcases hk with rfl | rfl | rfl | rfl | rfl <;> rfl
  | a :: b :: c :: t, _ => rcases hk with rfl | rfl | rfl | rfl | rfl <;> rfl
theorem no_one (k : Int) (hk : k = 3 ∨ k = 4 ∨ k = 8 ∨ k = 11) (V : List ByteArray) (h : V.length ≠ 1) : lineK k V = none := by
  match V, h with
  | [], _ => rcases hk with rfl | rfl | rfl | rfl <;> rfl
  | a :: b :: t, _ => rcases hk with rfl | rfl | rfl | rfl <;> rfl
theorem two_yes (k : Int) (hk : k = 0 ∨ k = 5) (a b : ByteArray) (h : plainW8 [a, b] = true) : lineK k [a, b] = some ⟨k, a, b, E0, 0, false⟩ := by
  simp [plainW8] at h
  rcases hk with rfl | rfl <;> simp [lineK, h.1, h.2]
theorem two_no (k : Int) (hk : k = 0 ∨ k = 5) (a b : ByteArray) (h : plainW8 [a, b] = false) : lineK k [a, b] = none := by
  have h2 : ¬ (isQ a = false ∧ isQ b = false) := by
    rintro ⟨h1, h2⟩
    simp [plainW8, h1, h2] at h
  rcases hk with rfl | rfl <;> simp [lineK, h2]
theorem one_yes (k : Int) (hk : k = 3 ∨ k = 4) (a : ByteArray) (h : plainW8 [a] = true) : lineK k [a] = some ⟨k, a, E0, E0, 0, false⟩ := by
  simp [plainW8] at h
  rcases hk with rfl | rfl <;> simp [lineK, h]
theorem one_no (k : Int) (hk : k = 3 ∨ k = 4) (a : ByteArray) (h : plainW8 [a] = false) : lineK k [a] = none := by
  simp [plainW8] at h
  rcases hk with rfl | rfl <;> simp [lineK, h]
theorem text_yes (k : Int) (hk : k = 1 ∨ k = 2 ∨ k = 6) (a t : ByteArray) (h : plainW8 [a] = true) (h2 : isQ t = true) : lineK k [a, t] = some ⟨k, a, E0, unQ t, 0, false⟩ := by
  simp [plainW8] at h
  rcases hk with rfl | rfl | rfl <;> simp [lineK, h, h2]
theorem text_no (k : Int) (hk : k = 1 ∨ k = 2 ∨ k = 6) (a t : ByteArray) (h : plainW8 [a] = false ∨ isQ t = false) : lineK k [a, t] = none := by
  have h2 : ¬ (isQ a = false ∧ isQ t = true) := by
    rintro ⟨h1, h2⟩
    rcases h with h | h
    · simp [plainW8, h1] at h
    · rw [h2] at h; cases h
  rcases hk with rfl | rfl | rfl <;> simp [lineK, h2]
theorem unQ_cut (t : ByteArray) (h : isQ t = true) : t.extract 1 t.size = unQ t ∧ 0 < t.size := by
  have hs : 0 < t.size := by
    by_cases h0 : 0 < t.size
    · exact h0
    · rw [size_zero t h0] at h; exact absurd h (by decide)
  refine ⟨?_, hs⟩
  apply bytes_ext
  have e := byteAt_list t 0 hs
  rw [List.take_zero, List.nil_append] at e
  rw [extract_tail]
  unfold isQ at h
  unfold unQ Lib.trimPrefix
  rw [if_pos h]
  rfl

theorem end_bad8 {W : List ByteArray} {w w' : World} (l : Ln) (h : lineOf W = none) (hg : w.grownBy w' none) : LineTo W w (.returned (.tuple #[lnV l, .bool false])) w' := ⟨l, false, rfl, (fun h => by cases h), (fun _ => h), hg⟩
theorem end_no (k : Int) (hk : k = 9 ∨ k = 10) (V : List ByteArray) (h : V ≠ []) : lineK k V = none := by
  cases V with
  | nil => exact absurd rfl h
  | cons a t => rcases hk with rfl | rfl <;> rfl
theorem fail_yes (t : ByteArray) (h : isQ t = true) : lineK 11 [t] = some ⟨11, E0, E0, unQ t, 0, false⟩ := by simp [lineK, h]
theorem fail_no (t : ByteArray) (h : isQ t = false) : lineK 11 [t] = none := by simp [lineK, h]
theorem if_yes2 (a : ByteArray) (h : plainW8 [⟨#[101, 120, 105, 115, 116, 115]⟩, a] = true) : lineK 7 [⟨#[101, 120, 105, 115, 116, 115]⟩, a] = some ⟨7, a, E0, E0, 0, false⟩ := by
  have h2 : isQ a = false := by simp [plainW8] at h; exact h.2
  simp [lineK, wExists, h2]
theorem if_no2 (a : ByteArray) (h : plainW8 [⟨#[101, 120, 105, 115, 116, 115]⟩, a] = false) : lineK 7 [⟨#[101, 120, 105, 115, 116, 115]⟩, a] = none := by
  have h1 : isQ ⟨#[101, 120, 105, 115, 116, 115]⟩ = false := by kernel_rfl
  have h2 : isQ a = true := by simpa [plainW8, h1] using h
  simp [lineK, h2]
theorem if_ne2 (e a : ByteArray) (h : ¬ e = wExists) : lineK 7 [e, a] = none := by simp [lineK, h]
theorem if_yes3 (a : ByteArray) (h : plainW8 [⟨#[110, 111, 116]⟩, ⟨#[101, 120, 105, 115, 116, 115]⟩, a] = true) : lineK 7 [⟨#[110, 111, 116]⟩, ⟨#[101, 120, 105, 115, 116, 115]⟩, a] = some ⟨7, a, E0, E0, 0, true⟩ := by
  have h2 : isQ a = false := by simp [plainW8] at h; exact h.2.2
  simp [lineK, wExists, wNot, h2]
theorem if_no3 (a : ByteArray) (h : plainW8 [⟨#[110, 111, 116]⟩, ⟨#[101, 120, 105, 115, 116, 115]⟩, a] = false) : lineK 7 [⟨#[110, 111, 116]⟩, ⟨#[101, 120, 105, 115, 116, 115]⟩, a] = none := by
  have h1 : isQ ⟨#[101, 120, 105, 115, 116, 115]⟩ = false := by kernel_rfl
  have h0 : isQ ⟨#[110, 111, 116]⟩ = false := by kernel_rfl
  have h2 : isQ a = true := by simpa [plainW8, h0, h1] using h
  simp [lineK, h2]
theorem if_ne3 (o e a : ByteArray) (h : ¬ (o = wNot ∧ e = wExists)) : lineK 7 [o, e, a] = none := by
  have h2 : ¬ (o = wNot ∧ e = wExists ∧ isQ a = false) := fun g => h ⟨g.1, g.2.1⟩
  simp [lineK, h2]
theorem if_nl (V : List ByteArray) (h2 : V.length ≠ 2) (h3 : V.length ≠ 3) : lineK 7 V = none := by
  match V, h2, h3 with
  | [], _, _ => rfl
  | [a], _, _ => rfl
  | a :: b :: c :: d :: t, _, _ => rfl
end Go.Proofs.YtmjdkgbblccpgaaDoor
