/- The reference's quoted, plain, comment. -/
import Derived.Test.YtmjdkgbblccpgaaDoorTk
namespace Go.Proofs.YtmjdkgbblccpgaaDoor
open Go.RowKit

theorem isQ_cons (x : ByteArray) (h : 0 < x.size) : isQ x = (byteAt x 0 == 34) := by
  have e := byteAt_list x 0 h
  rw [List.take_zero, List.nil_append] at e
  unfold isQ
  rw [e]
  exact prefix_one _ 34 _
theorem size_zero (x : ByteArray) (h : ¬ 0 < x.size) : x = ⟨#[]⟩ := by
  apply bytes_ext
  exact List.eq_nil_of_length_eq_zero (by rw [data_len]; omega)
set_option maxRecDepth 100000 in
set_option maxHeartbeats 1000000 in
theorem quotedR_any (x : ByteArray) (w : World) (hs : x.size ≤ 1000000) : Calls Tryd.prog 51 #[.string x] w fun e w' => e = .returned (.bool (isQ x)) ∧ w = w' := by
  by_cases h : 0 < x.size
  · have hq := isQ_cons x h
    obtain ⟨c, hc⟩ : ∃ c, byteAt x 0 = c := ⟨_, rfl⟩
    have hc2 : x[0]'h = c := by rw [← byteAt_eq]; exact hc
    rw [hc] at hq
    have e1 := empty_no x (by intro e; rw [e] at h; exact absurd h (by decide))
    have e2 := ne_list x [] (by intro e; rw [e] at h; exact absurd h (by decide))
    have e3 := nb_list x [] (by intro e; rw [e] at h; exact absurd h (by decide))
    clear hc
    by_cases h34 : c = 34
    · subst h34
      have HQ : Hid (isQ x = true) := by show _ = _; rw [hq]; rfl
      clear hq
      go_enter Tryd.func51, Tryd.ntmps51
      go_wp2
      go_ret
      exact ⟨by rw [HQ.out]; rfl, rfl⟩
    · have HQ : Hid (isQ x = false) := by show _ = _; rw [hq]; simp [h34]
      have n34 : ((c.toNat : Int) == 34) = false := u8_ne c 34 h34
      clear hq h34
      go_enter Tryd.func51, Tryd.ntmps51
      go_wp2
      go_ret
      exact ⟨by rw [HQ.out]; rfl, rfl⟩
  · obtain rfl := size_zero x h
    have HQ : Hid (isQ ⟨#[]⟩ = false) := by show _ = _; rfl
    clear h hs
    go_enter Tryd.func51, Tryd.ntmps51
    go_wp2
    go_ret
    exact ⟨by rw [HQ.out]; rfl, rfl⟩
/-- No word is quoted. -/
def plainW8 (W : List ByteArray) : Bool := W.all fun x => !isQ x
theorem plain_no (W : List ByteArray) (k : Nat) (x : ByteArray) (h : W[k]? = some x) (hq : isQ x = true) : plainW8 W = false := by
  unfold plainW8
  rw [List.all_eq_false]
  exact ⟨x, List.mem_of_getElem? h, by simp [hq]⟩
theorem plain_yes (W : List ByteArray) (h : ∀ (k : Nat) (x : ByteArray), W[k]? = some x → isQ x = false) : plainW8 W = true := by
  unfold plainW8
  rw [List.all_eq_true]
  intro x hx
  obtain ⟨k, hk⟩ := List.getElem?_of_mem hx
  simp [h k x hk]
set_option maxRecDepth 100000 in
set_option maxHeartbeats 1000000 in
theorem plainR_any (W : List ByteArray) (B n cp : Nat) (a : Option Addr) (w : World) (hn : W.length = n) (hn8 : n ≤ 8000000) (hP : PartS w B (.slice a n cp) W) (hs : ∀ x ∈ W, x.size ≤ 1000000) :
    Calls Tryd.prog 50 #[.slice a n cp] w fun e w' => e = .returned (.bool (plainW8 W)) ∧ w = w' := by
  have HN := Lib.hid hn
  have HP := Lib.hid hP
  have HS := Lib.hid hs
  clear hn hP hs
  go_enter Tryd.func50, Tryd.ntmps50
  go_wp2
  go_loop [3] (fun i => ∃ k : Nat, k ≤ n ∧ i = .int .i64 k ∧ Hid (∀ (j : Nat) (x : ByteArray), j < k → W[j]? = some x → isQ x = false)) (fun i => n - (intOf i).toNat)
  case atStart => exact ⟨0, by omega, rfl, fun j x hj => by omega⟩
  case round =>
    obtain ⟨k, hk, rfl, hpre⟩ := hrel
    by_cases hlt : k < n
    · obtain ⟨x, hx⟩ : ∃ x, W[k]? = some x := ⟨_, List.getElem?_eq_getElem (by rw [HN.out]; exact hlt)⟩
      obtain ⟨b1, o1, e1, _, g1⟩ := HP.out.at k x hx
      subst e1
      have hxs := HS.out x (List.mem_of_getElem? hx)
      have HX := Lib.hid hx
      clear hx
      obtain ⟨q, hq⟩ : ∃ q, isQ x = q := ⟨_, rfl⟩
      have hc := quotedR_any x w hxs
      rw [hq] at hc
      have HC := Lib.hid hc
      have HQ := Lib.hid hq
      clear hc hq
      cases q with
      | true =>
        have HR := Lib.hid (plain_no W k x HX.out HQ.out)
        go_wp2_with fail
        (with_reducible refine HC.out.mono ?_)
        rintro ee w1 ⟨rfl, rfl⟩
        dsimp only
        go_wp2
        go_ret
        exact ⟨by rw [HR.out]; rfl, rfl⟩
      | false =>
        go_wp2_with fail
        (with_reducible refine HC.out.mono ?_)
        rintro ee w1 ⟨rfl, rfl⟩
        dsimp only
        go_wp2
        go_round
        case rel => exact ⟨k + 1, by omega, by go_num, fun j y hj hy => by
          by_cases hjk : j < k
          · exact hpre.out j y hjk hy
          · obtain rfl : j = k := by omega
            rw [HX.out] at hy
            obtain rfl := Option.some.inj hy
            exact HQ.out⟩
        case measure => simp [intOf]; omega
    · have HR := Lib.hid (plain_yes W (fun j x hx => hpre.out j x (by have := (List.getElem?_eq_some_iff.1 hx).1; have := HN.out; omega) hx))
      go_wp2
      go_ret
      exact ⟨by rw [HR.out]; rfl, rfl⟩
theorem trim_to (s : ByteArray) (k : Nat) (h : ∀ (j : Nat) (hj : j < s.size), j < k → blk s[j] = true) (hk : k ≤ s.size) : trimB s.data.toList = trimB (s.data.toList.drop k) := by
  induction k with
  | zero => rfl
  | succ k ih =>
    rw [ih (fun j hj hjk => h j hj (by omega)) (by omega), drop_at s k (by omega)]
    unfold trimB
    rw [List.dropWhile_cons, h k (by omega) (by omega)]; rfl
theorem cmt_at (s : ByteArray) (k : Nat) (hk : k < s.size) (h : ∀ (j : Nat) (hj : j < s.size), j < k → blk s[j] = true) (hb : blk s[k] = false) : cmtL s.data.toList = (s[k] == 35) := by
  unfold cmtL
  rw [trim_to s k h (by omega), drop_at s k hk]
  unfold trimB
  rw [List.dropWhile_cons, hb]; rfl
theorem cmt_none (s : ByteArray) (h : ∀ (j : Nat) (hj : j < s.size), j < s.size → blk s[j] = true) : cmtL s.data.toList = false := by
  unfold cmtL
  rw [trim_to s s.size h (Nat.le_refl _), drop_end]; rfl
set_option maxRecDepth 100000 in
set_option maxHeartbeats 2000000 in
theorem commentR_any (s : ByteArray) (w : World) (hs : s.size ≤ 1000000) : Calls Tryd.prog 26 #[.string s] w fun e w' => e = .returned (.bool (cmtL s.data.toList)) ∧ w = w' := by
  go_enter Tryd.func26, Tryd.ntmps26
  go_wp2
  go_loop [3] (fun i => ∃ k : Nat, k ≤ s.size ∧ i = .int .i64 k ∧ Hid (∀ (j : Nat) (hj : j < s.size), j < k → blk s[j] = true)) (fun i => s.size - (intOf i).toNat)
  case atStart => exact ⟨0, by omega, rfl, fun j hj h => by omega⟩
  case round =>
    obtain ⟨k, hk, rfl, hpre⟩ := hrel
    by_cases hlt : k < s.size
    · obtain ⟨c, hc⟩ : ∃ c, s[k] = c := ⟨_, rfl⟩
      rcases blk_cases c with ⟨hb, rfl⟩ | ⟨hb, rfl⟩ | ⟨hb, h32, h9⟩
      · have HB : Hid (blk s[k] = true) := Lib.hid (by rw [hc]; exact hb)
        clear hb
        go_wp2
        go_round
        case rel => exact ⟨k + 1, by omega, by go_num, fun j hj hjk => by
          by_cases h : j < k
          · exact hpre.out j hj h
          · obtain rfl : j = k := by omega
            exact HB.out⟩
        case measure => simp [intOf]; omega
      · have HB : Hid (blk s[k] = true) := Lib.hid (by rw [hc]; exact hb)
        clear hb
        go_wp2
        go_round
        case rel => exact ⟨k + 1, by omega, by go_num, fun j hj hjk => by
          by_cases h : j < k
          · exact hpre.out j hj h
          · obtain rfl : j = k := by omega
            exact HB.out⟩
        case measure => simp [intOf]; omega
      · have hcm := cmt_at s k hlt hpre.out (by rw [hc]; exact hb)
        rw [hc] at hcm
        have n32 : ((c.toNat : Int) == 32) = false := u8_ne c 32 h32
        have n9 : ((c.toNat : Int) == 9) = false := u8_ne c 9 h9
        have b32 : ((c.toNat : Int) != 32) = true := u8_bne c 32 h32
        have b9 : ((c.toNat : Int) != 9) = true := u8_bne c 9 h9
        clear hb h32 h9
        by_cases h35 : c = 35
        · have HC : Hid (cmtL s.data.toList = true) := by show _ = _; rw [hcm, h35]; rfl
          have e35 : ((c.toNat : Int) == 35) = true := by rw [h35]; rfl
          clear hcm h35
          go_wp2
          go_ret
          exact ⟨by rw [HC.out]; rfl, rfl⟩
        · have HC : Hid (cmtL s.data.toList = false) := by show _ = _; rw [hcm]; simp [h35]
          have e35 : ((c.toNat : Int) == 35) = false := u8_ne c 35 h35
          clear hcm h35
          go_wp2
          go_ret
          exact ⟨by rw [HC.out]; rfl, rfl⟩
    · obtain rfl : k = s.size := by omega
      have HC := Lib.hid (cmt_none s hpre.out)
      go_wp2
      go_ret
      exact ⟨by rw [HC.out]; rfl, rfl⟩
end Go.Proofs.YtmjdkgbblccpgaaDoor
