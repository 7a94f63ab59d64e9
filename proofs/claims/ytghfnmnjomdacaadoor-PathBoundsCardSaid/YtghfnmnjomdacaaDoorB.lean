/- Which parts a path may have, as path and the reference tell it. -/
import Derived.Test.YtghfnmnjomdacaaDoorA
namespace Go.Proofs.YtghfnmnjomdacaaDoor
open Go.RowKit

def byteAt (s : ByteArray) (i : Nat) : UInt8 := s.data.toList.getD i 0
theorem byteAt_eq (s : ByteArray) (i : Nat) (h : i < s.size) : byteAt s i = s[i] := by
  unfold byteAt
  rw [List.getD_eq_getElem?_getD, Array.getElem?_toList, Array.getElem?_eq_getElem (by simpa using h)]; rfl
/-- The first k bytes are such as a part may have. -/
def okTo (s : ByteArray) : Nat → Bool
  | 0 => true
  | k + 1 => okTo s k && okB (byteAt s k)
theorem okTo_not (s : ByteArray) (n m : Nat) (h : n < m) (hb : okB (byteAt s n) = false) : okTo s m = false := by
  induction m with
  | zero => omega
  | succ m ih =>
    unfold okTo
    by_cases e : n = m
    · rw [← e, hb, Bool.and_false]
    · rw [ih (by omega), Bool.false_and]
/-- A part that a path may have. -/
def okPart (s : ByteArray) : Bool := okTo s s.size && decide (s.size ≤ 32)

theorem good_any (s : ByteArray) (hs : s.size ≤ 9223372036854775807) (w : World) :
    Calls Tryd.prog 30 #[.string s] w fun e w' => e = .returned (.bool (okPart s)) ∧ w' = w := by
  go_enter Tryd.func30, Tryd.ntmps30
  go_wp2
  go_loopw [6] (fun i wr => ∃ k : Nat, k ≤ s.size ∧ i = .int .i64 k ∧ okTo s k = true ∧ wr = w) (fun i _ => s.size - (intOf i).toNat)
  case atStart => exact ⟨0, Nat.zero_le _, rfl, rfl, rfl⟩
  case round =>
    obtain ⟨k, hk, rfl, ho, rfl⟩ := hrel
    by_cases hlt : k < s.size
    · obtain ⟨c, hc⟩ : ∃ c, byteAt s k = c := ⟨_, rfl⟩
      have hc2 : s[k]'hlt = c := by rw [← byteAt_eq]; exact hc
      have HO := Lib.hid ho
      have HC := Lib.hid hc
      clear ho hc
      go_wp2_with fail
      (with_reducible refine (plain_any c _).mono ?_)
      rintro ee w1 ⟨rfl, rfl⟩
      dsimp only
      by_cases hb : okB c = true
      · rw [hb]
        go_wp2
        go_roundw
        case rel => exact ⟨k + 1, by omega, by go_num, by rw [okTo, HO.out, HC.out, hb]; rfl, trivial⟩
        case measure => simp [intOf]; omega
      · have hb' : okB c = false := by simpa using hb
        rw [hb']
        have e : Hid (okPart s = false) := by
          show _ = _
          unfold okPart
          rw [okTo_not s k s.size hlt (by rw [HC.out]; exact hb'), Bool.false_and]
        clear hb hb'
        go_wp2
        go_ret
        exact ⟨by rw [e.out]; rfl, rfl⟩
    · have hkm : k = s.size := by omega
      subst hkm
      clear hlt hk
      have e : Hid (okPart s = decide ((s.size : Int) ≤ 32)) := by
        show _ = _
        unfold okPart
        rw [ho, Bool.true_and]
        exact decide_eq_decide.2 (by omega)
      clear ho
      go_wp2
      go_ret
      exact ⟨by rw [e.out]; rfl, rfl⟩

theorem bad_any (s : ByteArray) (hs : s.size ≤ 9223372036854775807) (w : World) :
    Calls Tryd.prog 32 #[.string s] w fun e w' => e = .returned (.bool (!okPart s)) ∧ w' = w := by
  by_cases h32 : s.size ≤ 32
  · go_enter Tryd.func32, Tryd.ntmps32
    go_wp2
    go_loopw [3] (fun i wr => ∃ k : Nat, k ≤ s.size ∧ i = .int .i64 k ∧ okTo s k = true ∧ wr = w) (fun i _ => s.size - (intOf i).toNat)
    case atStart => exact ⟨0, Nat.zero_le _, rfl, rfl, rfl⟩
    case round =>
      obtain ⟨k, hk, rfl, ho, rfl⟩ := hrel
      by_cases hlt : k < s.size
      · obtain ⟨c, hc⟩ : ∃ c, byteAt s k = c := ⟨_, rfl⟩
        have hc2 : s[k]'hlt = c := by rw [← byteAt_eq]; exact hc
        have HO := Lib.hid ho
        have HC := Lib.hid hc
        clear ho hc
        by_cases hb : okB c = true
        · have HB := Lib.hid hb
          simp only [okB, decide_eq_true_eq] at hb
          obtain ⟨h1, h2, h3, h4, h5, h6, h7⟩ := hb
          have b1 : decide ((c.toNat : Int) < 33) = false := by simp; omega
          have b2 : decide (126 < (c.toNat : Int)) = false := by simp; omega
          have b3 := beq_no c.toNat 34 (by omega)
          have b4 := beq_no c.toNat 92 (by omega)
          have b5 := beq_no c.toNat 42 (by omega)
          have b6 := beq_no c.toNat 63 (by omega)
          have b7 := beq_no c.toNat 58 (by omega)
          clear h1 h2 h3 h4 h5 h6 h7
          go_wp2
          go_roundw
          case rel => exact ⟨k + 1, by omega, by go_num, by rw [okTo, HO.out, HC.out, HB.out]; rfl, trivial⟩
          case measure => simp [intOf]; omega
        · have hb' : okB c = false := by simpa using hb
          have e : Hid (okPart s = false) := by
            show _ = _
            unfold okPart
            rw [okTo_not s k s.size hlt (by rw [HC.out]; exact hb'), Bool.false_and]
          have h3 : (c.toNat : Int) < 33 ∨ 126 < (c.toNat : Int) ∨ (c.toNat : Int) = 34 ∨ (c.toNat : Int) = 92 ∨ (c.toNat : Int) = 42 ∨ (c.toNat : Int) = 63 ∨ (c.toNat : Int) = 58 := by
            simp only [okB, decide_eq_true_eq] at hb; omega
          clear hb hb'
          rcases h3 with h3 | h3 | h3 | h3 | h3 | h3 | h3
          all_goals
            go_wp2
            all_goals first
              | (go_ret; exact ⟨by rw [e.out]; rfl, rfl⟩)
              | (exfalso; omega)
      · have hkm : k = s.size := by omega
        subst hkm
        clear hlt hk
        have e : Hid (okPart s = true) := by
          show _ = _
          unfold okPart
          rw [ho, Bool.true_and]
          exact decide_eq_true h32
        clear ho
        go_wp2
        go_ret
        exact ⟨by rw [e.out]; rfl, rfl⟩
  · have e : Hid (okPart s = false) := by
      show _ = _
      unfold okPart
      rw [decide_eq_false h32, Bool.and_false]
    have h33 : 32 < (s.size : Int) := by omega
    clear h32
    go_enter Tryd.func32, Tryd.ntmps32
    go_wp2
    go_ret
    exact ⟨by rw [e.out]; rfl, rfl⟩
end Go.Proofs.YtghfnmnjomdacaaDoor
