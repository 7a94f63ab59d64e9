/- Which digits, numbers, marks there are: as package ver tells it. -/
import Derived.Test.YtfpehdldgnfciaaGreatDoorBy
namespace Go.Proofs.YtfpehdldgnfciaaGreatDoor
open Go.RowKit

def isDig (c : UInt8) : Bool := decide (48 ≤ c.toNat ∧ c.toNat ≤ 57)
/-- The first k bytes are such. -/
def allTo (p : UInt8 → Bool) (s : ByteArray) : Nat → Bool
  | 0 => true
  | k + 1 => allTo p s k && p (byteAt s k)
theorem allTo_not (p : UInt8 → Bool) (s : ByteArray) (n m : Nat) (h : n < m) (hb : p (byteAt s n) = false) : allTo p s m = false := by
  induction m with
  | zero => omega
  | succ m ih =>
    unfold allTo
    by_cases e : n = m
    · rw [← e, hb, Bool.and_false]
    · rw [ih (by omega), Bool.false_and]
theorem allTo_at (p : UInt8 → Bool) (s : ByteArray) (m : Nat) (h : allTo p s m = true) (n : Nat) (hn : n < m) : p (byteAt s n) = true := by
  cases hb : p (byteAt s n) with
  | true => rfl
  | false => rw [allTo_not p s n m hn hb] at h; exact absurd h (by simp)
/-- Digits alone, one at least. -/
def allDig (s : ByteArray) : Bool := allTo isDig s s.size && !decide (s = ⟨#[]⟩)
/-- A number without noughts ahead. -/
def isNum (s : ByteArray) : Bool := allDig s && (decide (s = ⟨#[48]⟩) || !(byteAt s 0 == 48))
def markB (c : UInt8) : Bool := decide ((48 ≤ c.toNat ∧ c.toNat ≤ 57) ∨ (97 ≤ c.toNat ∧ c.toNat ≤ 122) ∨ (65 ≤ c.toNat ∧ c.toNat ≤ 90) ∨ c.toNat = 45)

theorem size_zero (s : ByteArray) (h : s.size = 0) : s = ⟨#[]⟩ := ByteArray.size_eq_zero_iff.1 h
theorem size_pos (s : ByteArray) (h : ¬ s = ⟨#[]⟩) : 0 < s.size := by
  rcases Nat.eq_zero_or_pos s.size with h0 | h0
  · exact absurd (size_zero s h0) h
  · exact h0

end Go.Proofs.YtfpehdldgnfciaaGreatDoor
