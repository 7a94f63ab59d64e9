/- What a line begins with; a number; how the words of a line are read, one by one. -/
import Derived.Test.YtmjdkgbblccpgaaDoorSk
namespace Go.Proofs.YtmjdkgbblccpgaaDoor
open Go.RowKit

def kindAt : List ByteArray → ByteArray → Nat → Int
  | [], _, _ => -1
  | y :: r, x, i => if y = x then (i : Int) else kindAt r x (i + 1)
/-- The kind of lines that begin with x; -1: of none. -/
def kindS (x : ByteArray) : Int := kindAt keyW x 0
theorem kindAt_drop (x y : ByteArray) (k : Nat) (h : keyW[k]? = some y) : kindAt (keyW.drop k) x k = if y = x then (k : Int) else kindAt (keyW.drop (k + 1)) x (k + 1) := by
  have hk := (List.getElem?_eq_some_iff.1 h)
  obtain ⟨h1, h2⟩ := hk
  rw [List.drop_eq_getElem_cons h1, h2]
  rfl

set_option maxRecDepth 1000000
set_option maxHeartbeats 1000000 in
theorem kindOf_any (m : Int) (x : ByteArray) (w : World) (hm : Wok m w) :
    Calls Tryd.prog 44 #[.string x] w fun e w' => e = .returned (.int .i64 (kindS x)) ∧ w.grownBy w' none := by
  have HM := Lib.hid hm
  clear hm
  go_enter Tryd.func44, Tryd.ntmps44
  go_wp2
  go_loopw [3, 4] (fun _ i wr => ∃ k : Nat, k ≤ 12 ∧ i = .int .i64 k ∧ Hid (kindS x = kindAt (keyW.drop k) x k) ∧ w.grownBy wr none) (fun _ i _ => 12 - (intOf i).toNat)
  case atStart => exact ⟨0, by omega, rfl, rfl, World.grownBy.refl _ _⟩
  case round =>
    obtain ⟨k, hk, rfl, hK, hg⟩ := hrel
    have HG := Lib.hid hg
    by_cases hlt : k < 12
    · obtain ⟨y, hy⟩ : ∃ y, keyW[k]? = some y := ⟨_, List.getElem?_eq_getElem (show k < 12 from hlt)⟩
      have hcell := (HM.out.stays hg).keys k y hy
      have hkd := kindAt_drop x y k hy
      clear hg
      by_cases he : y = x
      · have HE : Hid (kindS x = (k : Int)) := by show _ = _; rw [hK.out, hkd, if_pos he]
        subst he
        clear hkd hy
        go_wp2
        go_ret
        exact ⟨by rw [HE.out]; rfl, HG.out⟩
      · have HE : Hid (kindS x = kindAt (keyW.drop (k + 1)) x (k + 1)) := by show _ = _; rw [hK.out, hkd, if_neg he]
        have f1 := ne_lists y x he
        have f2 := nb_lists y x he
        clear hkd hy he
        go_wp2
        go_roundw
        case rel => exact ⟨k + 1, by omega, by go_num, HE.out, HG.out⟩
        case measure => simp [intOf]; omega
    · have hk12 : k = 12 := by omega
      subst hk12
      clear hlt hk hg
      have HE : Hid (kindS x = -1) := hK.out
      go_wp2
      go_ret
      exact ⟨by rw [HE.out]; rfl, HG.out⟩

def digU (c : UInt8) : Bool := decide (48 ≤ c.toNat ∧ c.toNat ≤ 57)
def natOf (l : List UInt8) : Nat := l.foldl (fun n c => 10 * n + (c.toNat - 48)) 0
theorem natOf_snoc (l : List UInt8) (c : UInt8) : natOf (l ++ [c]) = 10 * natOf l + (c.toNat - 48) := by simp [natOf]
/-- One to nine digits: their number. -/
def numP (x : ByteArray) : Option Nat := if x.size = 0 ∨ 9 < x.size then none else if x.data.toList.all digU then some (natOf x.data.toList) else none
def NumRet (x : ByteArray) (w : World) (e : Ending) (w' : World) : Prop :=
  w.grownBy w' none ∧ ((∃ n, numP x = some n ∧ n < 1000000000 ∧ e = .returned (.tuple #[.int .i64 (n : Int), .bool true])) ∨ (numP x = none ∧ e = .returned (.tuple #[.int .i64 0, .bool false])))
theorem take_snocB (s : ByteArray) (k : Nat) (h : k < s.size) : s.data.toList.take (k + 1) = s.data.toList.take k ++ [byteAt s k] := by
  rw [List.take_succ_eq_append_getElem (by rw [data_len]; exact h), byteAt_eq s k h]; rfl
theorem all_byte (s : ByteArray) (k : Nat) (h : k < s.size) (hd : digU (byteAt s k) = false) : s.data.toList.all digU = false := by
  rw [List.all_eq_false]
  exact ⟨_, byteAt_mem s k h, by rw [hd]; simp⟩
theorem all_take (s : ByteArray) (k : Nat) (h : k < s.size) (ha : (s.data.toList.take k).all digU = true) (hd : digU (byteAt s k) = true) : (s.data.toList.take (k + 1)).all digU = true := by
  rw [take_snocB s k h, List.all_append, ha]
  simp [hd]
theorem natOf_lt (k : Nat) : ∀ l : List UInt8, l.length = k → l.all digU = true → natOf l < 10 ^ k := by
  induction k with
  | zero => intro l hl _; obtain rfl := List.eq_nil_of_length_eq_zero hl; decide
  | succ k ih =>
    intro l hl ha
    have hne : l ≠ [] := by intro h; rw [h] at hl; simp at hl
    obtain ⟨l', c, rfl⟩ : ∃ l' c, l = l' ++ [c] := ⟨_, _, (List.dropLast_concat_getLast hne).symm⟩
    rw [natOf_snoc]
    rw [List.all_append] at ha
    simp only [Bool.and_eq_true, List.all_cons, List.all_nil, Bool.and_true] at ha
    have h1 := ih l' (by simpa using hl) ha.1
    have h2 : c.toNat ≤ 57 := by
      have := ha.2
      unfold digU at this
      simp only [decide_eq_true_eq] at this
      exact this.2
    rw [Nat.pow_succ]
    omega

set_option maxRecDepth 1000000
set_option maxHeartbeats 1000000 in
theorem number_any (x : ByteArray) (w : World) (hx : x.size ≤ 1000000) : Calls Tryd.prog 68 #[.string x] w (NumRet x w) := by
  by_cases h0 : x = ⟨#[]⟩
  · subst h0
    go_enter Tryd.func68, Tryd.ntmps68
    go_wp2
    go_ret2
    exact ⟨World.grownBy.refl _ _, .inr ⟨rfl, rfl⟩⟩
  · have hp : 0 < x.size := by
      rcases Nat.eq_zero_or_pos x.size with h | h
      · exact absurd (ByteArray.size_eq_zero_iff.1 h) h0
      · exact h
    have f1 := empty_no x h0
    have f2 := ne_list x [] h0
    clear h0
    by_cases h9 : 9 < x.size
    · have HE : Hid (numP x = none) := by show _ = _; unfold numP; rw [if_pos (.inr h9)]
      have d9 : 9 < (x.size : Int) := by omega
      clear h9
      go_enter Tryd.func68, Tryd.ntmps68
      go_wp2
      go_ret2
      exact ⟨World.grownBy.refl _ _, .inr ⟨HE.out, rfl⟩⟩
    · have d9 : decide (9 < (x.size : Int)) = false := by simp; omega
      have HE : Hid (numP x = if x.data.toList.all digU then some (natOf x.data.toList) else none) := by show _ = _; unfold numP; rw [if_neg (by omega)]
      go_enter Tryd.func68, Tryd.ntmps68
      go_wp2_with ((with_reducible refine conv_bytes (o := ⟨some 15, _, _, _, _, _⟩) rfl _ rfl x ?_ ?_); go_must (exact rfl); (intro cap w1 hl hg); have HL := Lib.hid hl; have HG := Lib.hid hg; clear hl hg)
      go_loopw [4, 6, 17] (fun n _ i wr => ∃ k : Nat, k ≤ x.size ∧ i = .int .i64 k ∧ n = .int .i64 (natOf (x.data.toList.take k) : Int) ∧ Hid ((x.data.toList.take k).all digU = true) ∧ w1 = wr) (fun _ _ i _ => x.size - (intOf i).toNat)
      case atStart => exact ⟨0, Nat.zero_le _, rfl, rfl, rfl, rfl⟩
      case round =>
        obtain ⟨k, hk, rfl, rfl, hA, rfl⟩ := hrel
        have hlt9 : natOf (x.data.toList.take k) < 1000000000 := by
          have h1 := natOf_lt k (x.data.toList.take k) (by rw [List.length_take, data_len]; omega) hA.out
          have h2 : 10 ^ k ≤ 10 ^ 9 := Nat.pow_le_pow_right (by omega) (by omega)
          omega
        by_cases hlt : k < x.size
        · have hcell := HL.out k hlt
          obtain ⟨c, hc⟩ : ∃ c, byteAt x k = c := ⟨_, rfl⟩
          rw [hc] at hcell
          have hc2 := c.toNat_lt
          by_cases hd : digU c = true
          · have HA2 := Lib.hid (all_take x k hlt hA.out (by rw [hc]; exact hd))
            have HN2 : Hid (natOf (x.data.toList.take (k + 1)) = 10 * natOf (x.data.toList.take k) + (c.toNat - 48)) := by
              show _ = _
              rw [take_snocB x k hlt, natOf_snoc, hc]
            simp only [digU, decide_eq_true_eq] at hd
            have b1 : decide ((c.toNat : Int) < 48) = false := by simp; omega
            have b2 : decide (57 < (c.toNat : Int)) = false := by simp; omega
            have b3 : 48 ≤ (c.toNat : Int) := by omega
            have b4 : (c.toNat : Int) ≤ 57 := by omega
            obtain ⟨N, hN⟩ : ∃ N, natOf (x.data.toList.take k) = N := ⟨_, rfl⟩
            rw [hN] at hlt9 HN2 ⊢
            clear hd hc hN
            go_wp2
            go_roundw
            case rel =>
              refine ⟨k + 1, by omega, by go_num, ?_, HA2.out, trivial⟩
              rw [HN2.out]
              congr 1
              omega
            case measure => simp [intOf]; omega
          · have hd' : digU c = false := by simpa using hd
            have HE2 : Hid (numP x = none) := by show _ = _; rw [HE.out, all_byte x k hlt (by rw [hc]; exact hd')]; rfl
            have h3 : (c.toNat : Int) < 48 ∨ (decide ((c.toNat : Int) < 48) = false ∧ 57 < (c.toNat : Int)) := by
              simp only [digU, decide_eq_true_eq] at hd
              by_cases h : (c.toNat : Int) < 48
              · exact .inl h
              · exact .inr ⟨decide_eq_false h, by omega⟩
            clear hd hd' hc
            rcases h3 with h3 | ⟨h3, h4⟩
            all_goals
              go_wp2
              go_ret2
              exact ⟨HG.out, .inr ⟨HE2.out, rfl⟩⟩
        · have hkx : k = x.size := by omega
          subst hkx
          have hall := hA.out
          have ht : x.data.toList.take x.size = x.data.toList := List.take_of_length_le (by rw [data_len]; exact Nat.le_refl _)
          rw [ht] at hall hlt9 ⊢
          have HE2 : Hid (numP x = some (natOf x.data.toList)) := by show _ = _; rw [HE.out, if_pos hall]
          clear hlt hk ht hall
          go_wp2
          go_ret2
          exact ⟨HG.out, .inl ⟨_, HE2.out, hlt9, rfl⟩⟩
end Go.Proofs.YtmjdkgbblccpgaaDoor
