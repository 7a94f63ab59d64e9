/- Numbers and marks: as package ver tells them, as the reference does. -/
import Derived.Test.YtfpehdldgnfciaaGreatDoorVa
namespace Go.Proofs.YtfpehdldgnfciaaGreatDoor
open Go.RowKit

/-- What the first k digits come to. -/
def numTo (s : ByteArray) : Nat → Nat
  | 0 => 0
  | k + 1 => 10 * numTo s k + ((byteAt s k).toNat - 48)
def num (s : ByteArray) : Nat := numTo s s.size
theorem numTo_lt (s : ByteArray) (k : Nat) (h : allTo isDig s k = true) : numTo s k < 10 ^ k := by
  induction k with
  | zero => simp [numTo]
  | succ k ih =>
    rw [allTo, Bool.and_eq_true] at h
    have h1 := ih h.1
    have h2 := h.2
    simp only [isDig, decide_eq_true_eq] at h2
    rw [numTo, Nat.pow_succ]
    omega
/-- A mark that may stand there. -/
def okMark (m : ByteArray) : Bool := !decide (m = ⟨#[]⟩) && decide (m.size ≤ 16) && !(allDig m && !isNum m) && allTo markB m m.size
def okMarks (L : List ByteArray) : Bool := L.all okMark && decide (L.length ≤ 5)
theorem allDig_pos (s : ByteArray) (h : allDig s = true) : ¬ s = ⟨#[]⟩ := by
  unfold allDig at h
  rw [Bool.and_eq_true] at h
  simpa using h.2
theorem one_nought (s : ByteArray) (h1 : s.size = 1) (h : byteAt s 0 = 48) : s = ⟨#[48]⟩ := by
  refine bytes_ext ?_
  have hl := data_len s
  have e := byteAt_list s 0 (by omega)
  rw [List.take_zero, List.nil_append, List.drop_eq_nil_of_le (by omega), h] at e
  rw [e]

set_option maxRecDepth 1000000
set_option maxHeartbeats 1000000 in
theorem refDig_any (s : ByteArray) (hs : s.size ≤ 9223372036854775807) (w : World) :
    Calls Tryz.prog 49 #[.string s] w fun e w' => e = .returned (.bool (allDig s)) ∧ w' = w := by
  go_enter Tryz.func49, Tryz.ntmps49
  go_wp2
  go_loopw [3] (fun i wr => ∃ k : Nat, k ≤ s.size ∧ i = .int .i64 k ∧ allTo isDig s k = true ∧ wr = w) (fun i _ => s.size - (intOf i).toNat)
  case atStart => exact ⟨0, Nat.zero_le _, rfl, rfl, rfl⟩
  case round =>
    obtain ⟨k, hk, rfl, ho, rfl⟩ := hrel
    by_cases hlt : k < s.size
    · obtain ⟨c, hc⟩ : ∃ c, byteAt s k = c := ⟨_, rfl⟩
      have hc2 : s[k]'hlt = c := by rw [← byteAt_eq]; exact hc
      have HO := Lib.hid ho
      have HC := Lib.hid hc
      have hc3 := c.toNat_lt
      clear ho hc
      by_cases hb : isDig c = true
      · have HB := Lib.hid hb
        simp only [isDig, decide_eq_true_eq] at hb
        have b1 : decide ((c.toNat : Int) < 48) = false := by simp; omega
        have b2 : decide (57 < (c.toNat : Int)) = false := by simp; omega
        clear hb
        go_wp2
        go_roundw
        case rel => exact ⟨k + 1, by omega, by go_num, by rw [allTo, HO.out, HC.out, HB.out]; rfl, trivial⟩
        case measure => simp [intOf]; omega
      · have hb' : isDig c = false := by simpa using hb
        have e : Hid (allDig s = false) := by
          show _ = _
          unfold allDig
          rw [allTo_not isDig s k s.size hlt (by rw [HC.out]; exact hb'), Bool.false_and]
        have h3 : (c.toNat : Int) < 48 ∨ (decide ((c.toNat : Int) < 48) = false ∧ 57 < (c.toNat : Int)) := by
          simp only [isDig, decide_eq_true_eq] at hb
          by_cases h : (c.toNat : Int) < 48
          · exact .inl h
          · exact .inr ⟨decide_eq_false h, by omega⟩
        clear hb hb'
        rcases h3 with h3 | ⟨h3, h4⟩
        all_goals
          go_wp2
          go_ret
          exact ⟨by rw [e.out]; rfl, rfl⟩
    · have hkm : k = s.size := by omega
      subst hkm
      clear hlt hk
      by_cases h0 : s = ⟨#[]⟩
      · have e : Hid (allDig s = false) := by show _ = _; unfold allDig; simp [h0]
        subst h0
        clear ho
        go_wp2
        go_ret
        exact ⟨by rw [e.out]; rfl, rfl⟩
      · have e : Hid (allDig s = true) := by show _ = _; unfold allDig; rw [ho]; simp [h0]
        have c1 := empty_no s h0
        have d1 := ne_list s [] h0
        clear ho h0
        go_wp2
        go_ret
        exact ⟨by rw [e.out]; rfl, rfl⟩

theorem isNum_iff (s : ByteArray) (h : allDig s = true) : isNum s = !(decide (1 < s.size) && (byteAt s 0 == 48)) := by
  have hpos := size_pos s (allDig_pos s h)
  unfold isNum
  rw [h, Bool.true_and]
  by_cases hb : byteAt s 0 = 48
  · have hbb : (byteAt s 0 == 48) = true := by rw [hb]; rfl
    rw [hbb]
    by_cases h1 : 1 < s.size
    · have hne : ¬ s = ⟨#[48]⟩ := by
        intro e
        rw [e] at h1
        exact absurd h1 (by decide)
      simp [h1, hne]
    · have := one_nought s (by omega) hb
      simp [this]
      decide
  · have hbb : (byteAt s 0 == 48) = false := by simpa using hb
    rw [hbb]
    simp
/-- What the reference makes of a number. -/
def refNum (s : ByteArray) (most : Int) : Int × Bool := if isNum s = true ∧ s.size ≤ 10 then ((num s : Int), decide ((num s : Int) ≤ most)) else (0, false)
def NumRet (w : World) (R : Int × Bool) (e : Ending) (w' : World) : Prop := e = .returned (.tuple #[.int .i64 R.1, .bool R.2]) ∧ w' = w

set_option maxRecDepth 1000000
set_option maxHeartbeats 2000000 in
theorem refNum_any (s : ByteArray) (most : Int) (hs : s.size ≤ 9223372036854775807) (w : World) :
    Calls Tryz.prog 34 #[.string s, .int .i64 most] w (NumRet w (refNum s most)) := by
  cases hd : allDig s with
  | false =>
    have e : Hid (refNum s most = (0, false)) := by show _ = _; unfold refNum isNum; rw [hd, Bool.false_and, if_neg (by simp)]
    have HD := Lib.hid hd
    clear hd
    go_enter Tryz.func34, Tryz.ntmps34
    go_wp2_with fail
    (with_reducible refine (refDig_any s hs _).mono ?_)
    rintro ee w' ⟨rfl, hw'⟩
    rw [hw', HD.out]
    clear hw' w'
    dsimp only
    go_wp2
    go_ret2
    exact ⟨by rw [e.out]; rfl, rfl⟩
  | true =>
    have hpos := size_pos s (allDig_pos s hd)
    have hni := isNum_iff s hd
    have HD := Lib.hid hd
    obtain ⟨c, hc⟩ : ∃ c, byteAt s 0 = c := ⟨_, rfl⟩
    have hc2 : s[0]'hpos = c := by rw [← byteAt_eq]; exact hc
    have h3 : (1 < s.size ∧ c = 48) ∨ (1 < s.size ∧ ¬ c = 48) ∨ s.size = 1 := by
      by_cases h1 : 1 < s.size
      · by_cases h2 : c = 48
        · exact .inl ⟨h1, h2⟩
        · exact .inr (.inl ⟨h1, h2⟩)
      · exact .inr (.inr (by omega))
    have loop : allTo isDig s s.size = true ∧ (isNum s = true → s.size ≤ 10 → refNum s most = ((num s : Int), decide ((num s : Int) ≤ most))) := by
      unfold allDig at hd
      rw [Bool.and_eq_true] at hd
      exact ⟨hd.1, fun a b => by unfold refNum; rw [if_pos ⟨a, b⟩]⟩
    have HLP := Lib.hid loop
    rcases h3 with ⟨h1, h2⟩ | h3
    · have e : Hid (refNum s most = (0, false)) := by show _ = _; unfold refNum; rw [hni, hc, h2, decide_eq_true h1, if_neg (by simp)]
      subst h2
      have b1 : 1 < (s.size : Int) := by omega
      clear hd hni hc h1 loop
      go_enter Tryz.func34, Tryz.ntmps34
      go_wp2_with fail
      (with_reducible refine (refDig_any s hs _).mono ?_)
      rintro ee w' ⟨rfl, hw'⟩
      rw [hw', HD.out]
      clear hw' w'
      dsimp only
      go_wp2
      go_ret2
      exact ⟨by rw [e.out]; rfl, rfl⟩
    · have hnum : isNum s = true := by
        rw [hni, hc]
        rcases h3 with ⟨h1, h2⟩ | h1
        · simp [h2]
        · simp [h1]
      have HNU := Lib.hid hnum
      have h4 : (1 < (s.size : Int) ∧ ((c.toNat : Int) == 48) = false ∧ ¬ (c.toNat : Int) = 48) ∨ decide (1 < (s.size : Int)) = false := by
        rcases h3 with ⟨h1, h2⟩ | h1
        · have hb' : ¬ (c.toNat : Int) = 48 := by
            intro e; apply h2; apply UInt8.toNat_inj.1; show c.toNat = 48; omega
          exact .inl ⟨by omega, beq_no c.toNat 48 hb', hb'⟩
        · exact .inr (by simp; omega)
      clear hd hni hc h3 loop hnum
      by_cases h10 : 10 < s.size
      · have e : Hid (refNum s most = (0, false)) := by show _ = _; unfold refNum; rw [if_neg (by omega)]
        have b2 : 10 < (s.size : Int) := by omega
        clear h10
        rcases h4 with ⟨a1, a2, a3⟩ | a1
        all_goals
          go_enter Tryz.func34, Tryz.ntmps34
          go_wp2_with fail
          (with_reducible refine (refDig_any s hs _).mono ?_)
          rintro ee w' ⟨rfl, hw'⟩
          rw [hw', HD.out]
          clear hw' w'
          dsimp only
          go_wp2
          go_ret2
          exact ⟨by rw [e.out]; rfl, rfl⟩
      · have e := Lib.hid (HLP.out.2 HNU.out (by omega))
        have b2 : decide (10 < (s.size : Int)) = false := by simp; omega
        have hs10 : s.size ≤ 10 := by omega
        clear h10
        rcases h4 with ⟨a1, a2, a3⟩ | a1
        all_goals
          go_enter Tryz.func34, Tryz.ntmps34
          go_wp2_with fail
          (with_reducible refine (refDig_any s hs _).mono ?_)
          rintro ee w' ⟨rfl, hw'⟩
          rw [hw', HD.out]
          clear hw' w'
          dsimp only
          go_wp2
          go_loopw [6, 7] (fun n i wr => ∃ k : Nat, k ≤ s.size ∧ i = .int .i64 k ∧ n = .int .i64 (numTo s k : Int) ∧ wr = w) (fun _ i _ => s.size - (intOf i).toNat)
          case atStart => exact ⟨0, Nat.zero_le _, rfl, rfl, rfl⟩
          case round =>
            obtain ⟨k, hk, rfl, rfl, rfl⟩ := hrel
            by_cases hlt : k < s.size
            · obtain ⟨d, hd⟩ : ∃ d, byteAt s k = d := ⟨_, rfl⟩
              have hd2 : s[k]'hlt = d := by rw [← byteAt_eq]; exact hd
              have hat := allTo_at isDig s s.size HLP.out.1 k hlt
              rw [hd] at hat
              simp only [isDig, decide_eq_true_eq] at hat
              obtain ⟨t1, t2⟩ := hat
              have u1 : 0 ≤ (d.toNat : Int) - 48 := by omega
              have u2 : (d.toNat : Int) - 48 ≤ 9 := by omega
              have hpre : allTo isDig s k = true := by
                have h := HLP.out.1
                clear HLP HD HNU e
                cases hh : allTo isDig s k with
                | true => rfl
                | false =>
                  have : ∀ m, k ≤ m → allTo isDig s m = false := by
                    intro m hm
                    induction m with
                    | zero => have : k = 0 := by omega
                              subst this; exact hh
                    | succ m ih =>
                      by_cases e : k = m + 1
                      · rw [← e]; exact hh
                      · unfold allTo; rw [ih (by omega), Bool.false_and]
                  rw [this s.size (by omega)] at h
                  exact absurd h (by simp)
              have hlt2 := numTo_lt s k hpre
              have hp10 : (10 : Nat) ^ k ≤ 10 ^ 10 := Nat.pow_le_pow_right (by omega) (by omega)
              have hb : numTo s k ≤ 10000000000 := by omega
              have HN := Lib.hid (show numTo s (k + 1) = 10 * numTo s k + (d.toNat - 48) by rw [numTo, hd])
              obtain ⟨q, hq⟩ : ∃ q, numTo s k = q := ⟨_, rfl⟩
              rw [hq] at HN hb
              rw [hq]
              clear hd hpre hlt2 hp10 hq
              go_wp2
              go_roundw
              case rel => exact ⟨k + 1, by omega, by go_num, by rw [HN.out]; congr 1; omega, trivial⟩
              case measure => simp [intOf]; omega
            · have hkm : k = s.size := by omega
              subst hkm
              clear hlt hk
              go_wp2
              go_ret2
              exact ⟨by rw [e.out]; rfl, rfl⟩
end Go.Proofs.YtfpehdldgnfciaaGreatDoor
