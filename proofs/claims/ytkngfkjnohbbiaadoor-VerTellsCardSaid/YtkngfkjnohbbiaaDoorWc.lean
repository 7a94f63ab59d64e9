/- The order of versions is one: laws on lists, no program. -/
import Derived.Test.YtkngfkjnohbbiaaDoorVt
namespace Go.Proofs.YtkngfkjnohbbiaaDoor
open Go.RowKit

/-- c holds two against one another, in an order. -/
structure IsCmp {α : Type} (c : α → α → Int) : Prop where
  anti : ∀ x y, c y x = - c x y
  le : ∀ x y z, c x y ≤ 0 → c y z ≤ 0 → c x z ≤ 0
  lt : ∀ x y z, c x y ≤ 0 → c y z < 0 → c x z < 0
theorem IsCmp.self {α : Type} {c : α → α → Int} (h : IsCmp c) (x : α) : c x x = 0 := by have := h.anti x x; omega
theorem IsCmp.lt2 {α : Type} {c : α → α → Int} (h : IsCmp c) (x y z : α) (h1 : c x y < 0) (h2 : c y z ≤ 0) : c x z < 0 := by
  by_cases h3 : c x z < 0
  · exact h3
  · have a1 := h.anti x z
    have a2 := h.anti y z
    have := h.lt z x y (by omega) h1
    omega
theorem IsCmp.zero {α : Type} {c : α → α → Int} (h : IsCmp c) (x y z : α) (h1 : c x y = 0) (h2 : c y z = 0) : c x z = 0 := by
  have a1 := h.anti x y
  have a2 := h.anti y z
  have a3 := h.anti x z
  have b1 := h.le x y z (by omega) (by omega)
  have b2 := h.le z y x (by omega) (by omega)
  omega
theorem IsCmp.lex {α : Type} {c d : α → α → Int} (h : IsCmp c) (k : IsCmp d) : IsCmp fun x y => if c x y = 0 then d x y else c x y := by
  refine ⟨fun x y => ?_, fun x y z h1 h2 => ?_, fun x y z h1 h2 => ?_⟩
  · have a1 := h.anti x y
    have a2 := k.anti x y
    try simp only
    split <;> split <;> omega
  · try simp only at h1 h2 ⊢
    by_cases e1 : c x y = 0
    · rw [if_pos e1] at h1
      by_cases e2 : c y z = 0
      · rw [if_pos e2] at h2
        rw [if_pos (h.zero x y z e1 e2)]
        exact k.le x y z h1 h2
      · rw [if_neg e2] at h2
        have := h.lt x y z (by omega) (by omega)
        rw [if_neg (by omega)]; omega
    · rw [if_neg e1] at h1
      have := h.lt2 x y z (by omega) (by
        by_cases e2 : c y z = 0
        · omega
        · rw [if_neg e2] at h2; exact h2)
      rw [if_neg (by omega)]; omega
  · try simp only at h1 h2 ⊢
    by_cases e1 : c x y = 0
    · rw [if_pos e1] at h1
      by_cases e2 : c y z = 0
      · rw [if_pos e2] at h2
        rw [if_pos (h.zero x y z e1 e2)]
        exact k.lt x y z h1 h2
      · rw [if_neg e2] at h2
        have := h.lt x y z (by omega) (by omega)
        rw [if_neg (by omega)]; omega
    · rw [if_neg e1] at h1
      have := h.lt2 x y z (by omega) (by
        by_cases e2 : c y z = 0
        · omega
        · rw [if_neg e2] at h2; omega)
      rw [if_neg (by omega)]; omega
theorem cmpInt_is {α : Type} (f : α → Int) : IsCmp fun x y => Lib.compareInt (f x) (f y) := by
  refine ⟨fun x y => ?_, fun x y z h1 h2 => ?_, fun x y z h1 h2 => ?_⟩
  · unfold Lib.compareInt; repeat' split
    all_goals omega
  · unfold Lib.compareInt at *; repeat' split at h1
    all_goals repeat' split at h2
    all_goals repeat' split
    all_goals omega
  · unfold Lib.compareInt at *; repeat' split at h1
    all_goals repeat' split at h2
    all_goals repeat' split
    all_goals omega
theorem cmpInt_zero (x y : Int) : Lib.compareInt x y = 0 ↔ x = y := by
  unfold Lib.compareInt; repeat' split
  all_goals omega

/-- Bytes, in order. -/
def cmpL : List UInt8 → List UInt8 → Int
  | [], [] => 0
  | [], _ :: _ => -1
  | _ :: _, [] => 1
  | a :: x, b :: y => if a.toNat < b.toNat then -1 else if b.toNat < a.toNat then 1 else cmpL x y
theorem cmpL_less (x y : List UInt8) : (Op.bytesLess x y = true ↔ cmpL x y = -1) ∧ (cmpL x y = 0 ↔ x = y) ∧ (cmpL x y = -1 ∨ cmpL x y = 0 ∨ cmpL x y = 1) := by
  induction x generalizing y with
  | nil =>
    cases y with
    | nil => simp [Op.bytesLess, cmpL]
    | cons b y => simp [Op.bytesLess, cmpL]
  | cons a x ih =>
    cases y with
    | nil => simp [Op.bytesLess, cmpL]
    | cons b y =>
      have h := ih y
      unfold cmpL Op.bytesLess
      by_cases h1 : a.toNat < b.toNat
      · have hl : a < b := UInt8.lt_iff_toNat_lt.2 h1
        have hne : ¬ a = b := fun e => by rw [e] at h1; omega
        rw [if_pos h1]
        simp [hl, hne]
      · rw [if_neg h1]
        have hl : ¬ a < b := fun e => h1 (UInt8.lt_iff_toNat_lt.1 e)
        by_cases h2 : b.toNat < a.toNat
        · have hne : ¬ a = b := fun e => by rw [e] at h2; omega
          rw [if_pos h2]
          simp [hl, hne]
        · have he : a = b := UInt8.toNat_inj.1 (by omega)
          rw [if_neg h2]
          subst he
          have h22 := h.2.2
          rw [h.2.1] at h22
          simp [hl, h, h22]
theorem cmpL_is : IsCmp cmpL := by
  have anti : ∀ x y, cmpL y x = - cmpL x y := by
    intro x
    induction x with
    | nil => intro y; cases y <;> simp [cmpL]
    | cons a x ih =>
      intro y
      cases y with
      | nil => simp [cmpL]
      | cons b y =>
        have := ih y
        unfold cmpL
        repeat' split
        all_goals omega
  have both : ∀ x y z, (cmpL x y ≤ 0 → cmpL y z ≤ 0 → cmpL x z ≤ 0) ∧ (cmpL x y ≤ 0 → cmpL y z < 0 → cmpL x z < 0) ∧ (cmpL x y < 0 → cmpL y z ≤ 0 → cmpL x z < 0) := by
    intro x
    induction x with
    | nil =>
      intro y z
      cases y <;> cases z <;> simp [cmpL]
    | cons a x ih =>
      intro y z
      cases y with
      | nil => cases z <;> simp [cmpL]
      | cons b y =>
        cases z with
        | nil => simp [cmpL]
        | cons d z =>
          have h := ih y z
          unfold cmpL
          refine ⟨fun h1 h2 => ?_, fun h1 h2 => ?_, fun h1 h2 => ?_⟩
          all_goals repeat' split at h1
          all_goals repeat' split at h2
          all_goals repeat' split
          all_goals first
            | omega
            | exact h.1 h1 h2
            | exact h.2.1 h1 h2
            | exact h.2.2 h1 h2
  exact ⟨anti, fun x y z => (both x y z).1, fun x y z => (both x y z).2.1⟩
theorem cmpB_L (x y : ByteArray) : cmpB x y = cmpL x.data.toList y.data.toList := by
  have h := cmpL_less x.data.toList y.data.toList
  unfold cmpB lessB
  rw [ByteArray.toList_eq, ByteArray.toList_eq]
  have he : x = y ↔ x.data.toList = y.data.toList := ⟨fun e => by rw [e], bytes_ext⟩
  by_cases h1 : Op.bytesLess x.data.toList y.data.toList = true
  · rw [if_pos h1, h.1.1 h1]
  · rw [if_neg h1]
    by_cases h2 : x = y
    · rw [if_pos h2, h.2.1.2 (he.1 h2)]
    · rw [if_neg h2]
      have h3 : ¬ cmpL x.data.toList y.data.toList = -1 := fun e => h1 (h.1.2 e)
      have h4 : ¬ cmpL x.data.toList y.data.toList = 0 := fun e => h2 (he.2 (h.2.1.1 e))
      rcases h.2.2 with e | e | e
      · exact absurd e h3
      · exact absurd e h4
      · exact e.symm
theorem cmpB_is : IsCmp cmpB := by
  have h := cmpL_is
  exact ⟨fun x y => by rw [cmpB_L, cmpB_L]; exact h.anti _ _, fun x y z => by rw [cmpB_L, cmpB_L, cmpB_L]; exact h.le _ _ _, fun x y z => by rw [cmpB_L, cmpB_L, cmpB_L]; exact h.lt _ _ _⟩
theorem cmpB_zero (x y : ByteArray) : cmpB x y = 0 ↔ x = y := by
  rw [cmpB_L, (cmpL_less _ _).2.1]
  exact ⟨bytes_ext, fun e => by rw [e]⟩

def clsM (x : ByteArray) : Int := if allDig x = true then 0 else 1
def wideM (x : ByteArray) : Int := if allDig x = true then x.size else 0
theorem cmpMk_lex (x y : ByteArray) : cmpMk x y = if Lib.compareInt (clsM x) (clsM y) = 0 then (if Lib.compareInt (wideM x) (wideM y) = 0 then cmpB x y else Lib.compareInt (wideM x) (wideM y)) else Lib.compareInt (clsM x) (clsM y) := by
  unfold cmpMk clsM wideM orI
  have e0 : Lib.compareInt 0 0 = 0 := by decide
  have e1 : Lib.compareInt 1 1 = 0 := by decide
  have e2 : Lib.compareInt 0 1 = -1 := by decide
  have e3 : Lib.compareInt 1 0 = 1 := by decide
  cases allDig x <;> cases allDig y
  · simp [e0, e1]
  · simp [e3]
  · simp [e2]
  · simp [e0]
theorem cmpMk_is : IsCmp cmpMk := by
  have h := (cmpInt_is clsM).lex ((cmpInt_is wideM).lex cmpB_is)
  have e : cmpMk = fun x y => if Lib.compareInt (clsM x) (clsM y) = 0 then (if Lib.compareInt (wideM x) (wideM y) = 0 then cmpB x y else Lib.compareInt (wideM x) (wideM y)) else Lib.compareInt (clsM x) (clsM y) := by
    funext x y; exact cmpMk_lex x y
  rw [e]; exact h
theorem cmpMk_zero (x y : ByteArray) (h : cmpMk x y = 0) : x = y := by
  rw [cmpMk_lex] at h
  split at h
  · split at h
    · exact (cmpB_zero x y).1 h
    · rename_i h1; exact absurd h h1
  · rename_i h1; exact absurd h h1
end Go.Proofs.YtkngfkjnohbbiaaDoor
