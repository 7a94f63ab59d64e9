/- Which digits, numbers, marks there are: as package ver tells it. -/
import Derived.Test.YtkngfkjnohbbiaaDoorBy
namespace Go.Proofs.YtkngfkjnohbbiaaDoor
open Go.RowKit

def isDig (c : UInt8) : Bool := decide (48 ≤ c.toNat ∧ c.toNat ≤ 57)
/-- The first k bytes are such. -/
def allTo (p : UInt8 → Bool) (s : ByteArray) : Nat → Bool
  | 0 => true
  | k + 1 => allTo p s k && p (byteAt s k)
theorem allTo_not (p : UInt8 → Bool) (s : ByteArray) (n m : Nat) (h : n < m) (hb : p (byteAt s n) = false) : allTo p s m = false := by
  induction m with
  | zero => omega
  | succ m ih =>
    unfold allTo
    by_cases e : n = m
    · rw [← e, hb, Bool.and_false]
    · rw [ih (by omega), Bool.false_and]
theorem allTo_at (p : UInt8 → Bool) (s : ByteArray) (m : Nat) (h : allTo p s m = true) (n : Nat) (hn : n < m) : p (byteAt s n) = true := by
  cases hb : p (byteAt s n) with
  | true => rfl
  | false => rw [allTo_not p s n m hn hb] at h; exact absurd h (by simp)
/-- Digits alone, one at least. -/
def allDig (s : ByteArray) : Bool := allTo isDig s s.size && !decide (s = ⟨#[]⟩)
/-- A number without noughts ahead. -/
def isNum (s : ByteArray) : Bool := allDig s && (decide (s = ⟨#[48]⟩) || !(byteAt s 0 == 48))
def markB (c : UInt8) : Bool := decide ((48 ≤ c.toNat ∧ c.toNat ≤ 57) ∨ (97 ≤ c.toNat ∧ c.toNat ≤ 122) ∨ (65 ≤ c.toNat ∧ c.toNat ≤ 90) ∨ c.toNat = 45)

theorem size_zero (s : ByteArray) (h : s.size = 0) : s = ⟨#[]⟩ := ByteArray.size_eq_zero_iff.1 h
theorem size_pos (s : ByteArray) (h : ¬ s = ⟨#[]⟩) : 0 < s.size := by
  rcases Nat.eq_zero_or_pos s.size with h0 | h0
  · exact absurd (size_zero s h0) h
  · exact h0

set_option maxRecDepth 1000000
set_option maxHeartbeats 1000000 in
theorem markB_any (c : UInt8) (w : World) :
    Calls Tryd.prog 45 #[.int .u8 (c.toNat : Int)] w fun e w' => e = .returned (.bool (markB c)) ∧ w' = w := by
  have hc := c.toNat_lt
  by_cases h1 : 48 ≤ c.toNat ∧ c.toNat ≤ 57
  · have e : Hid (markB c = true) := by show _ = _; simp [markB, h1]
    obtain ⟨a1, a2⟩ := h1
    have b1 : 48 ≤ (c.toNat : Int) := by omega
    have b2 : (c.toNat : Int) ≤ 57 := by omega
    clear a1 a2
    go_enter Tryd.func45, Tryd.ntmps45
    go_wp2
    go_ret
    exact ⟨by rw [e.out]; rfl, rfl⟩
  · have r1 : (c.toNat : Int) < 48 ∨ (48 ≤ (c.toNat : Int) ∧ 57 < (c.toNat : Int)) := by omega
    by_cases h2 : 97 ≤ c.toNat ∧ c.toNat ≤ 122
    · have e : Hid (markB c = true) := by show _ = _; simp [markB, h2]
      obtain ⟨a1, a2⟩ := h2
      have b1 : 97 ≤ (c.toNat : Int) := by omega
      have b2 : (c.toNat : Int) ≤ 122 := by omega
      have b3 : 48 ≤ (c.toNat : Int) := by omega
      have b4 : decide ((c.toNat : Int) ≤ 57) = false := by simp; omega
      clear a1 a2 r1 h1
      go_enter Tryd.func45, Tryd.ntmps45
      go_wp2
      go_ret
      exact ⟨by rw [e.out]; rfl, rfl⟩
    · by_cases h3 : 65 ≤ c.toNat ∧ c.toNat ≤ 90
      · have e : Hid (markB c = true) := by show _ = _; simp [markB, h3]
        obtain ⟨a1, a2⟩ := h3
        have b1 : 65 ≤ (c.toNat : Int) := by omega
        have b2 : (c.toNat : Int) ≤ 90 := by omega
        have b3 : 48 ≤ (c.toNat : Int) := by omega
        have b4 : decide ((c.toNat : Int) ≤ 57) = false := by simp; omega
        have b5 : decide (97 ≤ (c.toNat : Int)) = false := by simp; omega
        clear a1 a2 r1 h1 h2
        go_enter Tryd.func45, Tryd.ntmps45
        go_wp2
        go_ret
        exact ⟨by rw [e.out]; rfl, rfl⟩
      · by_cases h4 : c.toNat = 45
        · have e : Hid (markB c = true) := by show _ = _; simp [markB, h4]
          have b0 : (c.toNat : Int) = 45 := by omega
          rw [b0]
          clear r1 h1 h2 h3 h4 b0
          go_enter Tryd.func45, Tryd.ntmps45
          go_wp2
          go_ret
          exact ⟨by rw [e.out]; rfl, rfl⟩
        · have e : Hid (markB c = false) := by show _ = _; simp only [markB, decide_eq_false_iff_not]; omega
          have hn := beq_no c.toNat 45 (by omega)
          have hn2 : ¬ (c.toNat : Int) = 45 := by omega
          rcases r1 with r1 | ⟨r1, r2⟩
          · have b1 : decide (48 ≤ (c.toNat : Int)) = false := by simp; omega
            have b2 : decide (97 ≤ (c.toNat : Int)) = false := by simp; omega
            have b3 : decide (65 ≤ (c.toNat : Int)) = false := by simp; omega
            clear r1 h1 h2 h3 h4
            go_enter Tryd.func45, Tryd.ntmps45
            go_wp2
            go_ret
            exact ⟨by rw [e.out]; rfl, rfl⟩
          · have b1 : decide ((c.toNat : Int) ≤ 57) = false := by simp; omega
            have k1 : (c.toNat : Int) < 65 ∨ (65 ≤ (c.toNat : Int) ∧ 90 < (c.toNat : Int) ∧ (c.toNat : Int) < 97) ∨ (122 < (c.toNat : Int)) := by omega
            rcases k1 with k1 | ⟨k1, k2, k3⟩ | k1
            · have b2 : decide (97 ≤ (c.toNat : Int)) = false := by simp; omega
              have b3 : decide (65 ≤ (c.toNat : Int)) = false := by simp; omega
              clear r2 k1 h1 h2 h3 h4
              go_enter Tryd.func45, Tryd.ntmps45
              go_wp2
              go_ret
              exact ⟨by rw [e.out]; rfl, rfl⟩
            · have b2 : decide (97 ≤ (c.toNat : Int)) = false := by simp; omega
              have b3 : decide ((c.toNat : Int) ≤ 90) = false := by simp; omega
              clear r2 k2 k3 h1 h2 h3 h4
              go_enter Tryd.func45, Tryd.ntmps45
              go_wp2
              go_ret
              exact ⟨by rw [e.out]; rfl, rfl⟩
            · have b2 : 97 ≤ (c.toNat : Int) := by omega
              have b3 : decide ((c.toNat : Int) ≤ 122) = false := by simp; omega
              have b4 : 65 ≤ (c.toNat : Int) := by omega
              have b5 : decide ((c.toNat : Int) ≤ 90) = false := by simp; omega
              clear r2 k1 h1 h2 h3 h4
              go_enter Tryd.func45, Tryd.ntmps45
              go_wp2
              go_ret
              exact ⟨by rw [e.out]; rfl, rfl⟩

set_option maxRecDepth 1000000
set_option maxHeartbeats 1000000 in
theorem allDig_any (s : ByteArray) (hs : s.size ≤ 9223372036854775807) (w : World) :
    Calls Tryd.prog 44 #[.string s] w fun e w' => e = .returned (.bool (allDig s)) ∧ w.grownBy w' none := by
  go_enter Tryd.func44, Tryd.ntmps44
  go_wp2_with ((with_reducible refine conv_bytes (o := ⟨some 6, _, _, _, _, _⟩) rfl _ rfl s ?_ ?_); go_must (exact rfl); (intro cap w1 hl hg); have HL := Lib.hid hl; have HG := Lib.hid hg; clear hl hg)
  go_loopw [2, 4, 8] (fun r c i wr => ∃ k : Nat, k ≤ s.size ∧ i = .int .i64 k ∧ allTo isDig s k = true ∧ r = .bool false ∧ w1 = wr) (fun _ _ i _ => s.size - (intOf i).toNat)
  case atStart => exact ⟨0, Nat.zero_le _, rfl, rfl, rfl, rfl⟩
  case round =>
    obtain ⟨k, hk, rfl, ho, rfl, rfl⟩ := hrel
    by_cases hlt : k < s.size
    · have hcell := HL.out k hlt
      obtain ⟨c, hc⟩ : ∃ c, byteAt s k = c := ⟨_, rfl⟩
      rw [hc] at hcell
      have HO := Lib.hid ho
      have HC := Lib.hid hc
      have hc2 := c.toNat_lt
      clear ho hc
      by_cases hb : isDig c = true
      · have HB := Lib.hid hb
        simp only [isDig, decide_eq_true_eq] at hb
        have b1 : decide ((c.toNat : Int) < 48) = false := by simp; omega
        have b2 : decide (57 < (c.toNat : Int)) = false := by simp; omega
        clear hb
        go_wp2
        go_roundw
        case rel => exact ⟨k + 1, by omega, by go_num, by rw [allTo, HO.out, HC.out, HB.out]; rfl, rfl, trivial⟩
        case measure => simp [intOf]; omega
      · have hb' : isDig c = false := by simpa using hb
        have e : Hid (allDig s = false) := by
          show _ = _
          unfold allDig
          rw [allTo_not isDig s k s.size hlt (by rw [HC.out]; exact hb'), Bool.false_and]
        have h3 : (c.toNat : Int) < 48 ∨ (decide ((c.toNat : Int) < 48) = false ∧ 57 < (c.toNat : Int)) := by
          simp only [isDig, decide_eq_true_eq] at hb
          by_cases h : (c.toNat : Int) < 48
          · exact .inl h
          · exact .inr ⟨decide_eq_false h, by omega⟩
        clear hb hb'
        rcases h3 with h3 | ⟨h3, h4⟩
        all_goals
          go_wp2
          go_ret
          exact ⟨by rw [e.out]; rfl, HG.out⟩
    · have hkm : k = s.size := by omega
      subst hkm
      clear hlt hk
      by_cases h0 : s = ⟨#[]⟩
      · have e : Hid (allDig s = false) := by show _ = _; unfold allDig; simp [h0]
        subst h0
        clear ho
        go_wp2
        go_ret
        exact ⟨by rw [e.out]; rfl, HG.out⟩
      · have e : Hid (allDig s = true) := by show _ = _; unfold allDig; rw [ho]; simp [h0]
        have c1 := empty_no s h0
        have d1 := ne_list s [] h0
        clear ho h0
        go_wp2
        go_ret
        exact ⟨by rw [e.out]; rfl, HG.out⟩
end Go.Proofs.YtkngfkjnohbbiaaDoor
