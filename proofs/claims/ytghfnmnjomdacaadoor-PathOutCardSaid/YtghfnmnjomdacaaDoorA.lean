/- Which bytes and which parts a path may have, as path and the reference tell it. -/
import Derived.Test.YtghfnmnjomdacaaDoorSh
import Derived.WalkKit
import Derived.WalkSpells
import Derived.Deep.QuietTactic
import Derived.BigQuiet
import Derived.IntWalk
import Derived.Lib.Hide
import Derived.Outline
namespace Go.Proofs.YtghfnmnjomdacaaDoor
open Go.RowKit

/-- A byte that a part may have. -/
def okB (c : UInt8) : Bool := decide (33 ≤ c.toNat ∧ c.toNat ≤ 126 ∧ c.toNat ≠ 34 ∧ c.toNat ≠ 92 ∧ c.toNat ≠ 42 ∧ c.toNat ≠ 63 ∧ c.toNat ≠ 58)

theorem beq_no (a : Nat) (k : Int) (h : (a : Int) ≠ k) : ((a : Int) == k) = false := by simp [h]

theorem plain_any (c : UInt8) (w : World) :
    Calls Tryd.prog 36 #[.int .u8 (c.toNat : Int)] w fun e w' => e = .returned (.bool (okB c)) ∧ w' = w := by
  have hc := c.toNat_lt
  by_cases h : okB c = true
  · have e := Lib.hid h
    simp only [okB, decide_eq_true_eq] at h
    obtain ⟨h1, h2, h3, h4, h5, h6, h7⟩ := h
    have b1 : decide ((c.toNat : Int) < 33) = false := by simp; omega
    have b2 : decide (126 < (c.toNat : Int)) = false := by simp; omega
    have b3 := beq_no c.toNat 34 (by omega)
    have b4 := beq_no c.toNat 92 (by omega)
    have b5 := beq_no c.toNat 42 (by omega)
    have b6 := beq_no c.toNat 63 (by omega)
    have b7 := beq_no c.toNat 58 (by omega)
    have d3 : ¬ (c.toNat : Int) = 34 := by omega
    have d4 : ¬ (c.toNat : Int) = 92 := by omega
    have d5 : ¬ (c.toNat : Int) = 42 := by omega
    have d6 : ¬ (c.toNat : Int) = 63 := by omega
    have d7 : ¬ (c.toNat : Int) = 58 := by omega
    clear h1 h2 h3 h4 h5 h6 h7
    go_enter Tryd.func36, Tryd.ntmps36
    go_wp2
    go_ret
    exact ⟨by rw [e.out]; rfl, rfl⟩
  · have e : Hid (okB c = false) := by show _ = _; simpa using h
    by_cases h1 : c.toNat < 33
    · have a1 : (c.toNat : Int) < 33 := by omega
      clear h1 h
      go_enter Tryd.func36, Tryd.ntmps36
      go_wp2
      go_ret
      exact ⟨by rw [e.out]; rfl, rfl⟩
    · have b1 : decide ((c.toNat : Int) < 33) = false := by simp; omega
      by_cases h2 : 126 < c.toNat
      · have a1 : 126 < (c.toNat : Int) := by omega
        clear h1 h h2
        go_enter Tryd.func36, Tryd.ntmps36
        go_wp2
        go_ret
        exact ⟨by rw [e.out]; rfl, rfl⟩
      · have h3 : (c.toNat : Int) = 34 ∨ (c.toNat : Int) = 92 ∨ (c.toNat : Int) = 42 ∨ (c.toNat : Int) = 63 ∨ (c.toNat : Int) = 58 := by
          simp only [okB, decide_eq_true_eq] at h; omega
        clear h h1 h2 b1
        rcases h3 with h3 | h3 | h3 | h3 | h3
        all_goals
          rw [h3]
          go_enter Tryd.func36, Tryd.ntmps36
          go_wp2
          go_ret
          exact ⟨by rw [e.out]; rfl, rfl⟩
end Go.Proofs.YtghfnmnjomdacaaDoor
