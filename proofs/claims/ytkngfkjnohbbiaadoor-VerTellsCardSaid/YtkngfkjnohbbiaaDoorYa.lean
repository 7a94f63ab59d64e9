/- LightV: what it answers yes to has few marks, short ones. -/
import Derived.Test.YtkngfkjnohbbiaaDoorWe
namespace Go.Proofs.YtkngfkjnohbbiaaDoor
open Go.RowKit

def LightRet (w : World) (n : Nat) (pre : List ByteArray) (e : Ending) (w' : World) : Prop :=
  (∃ b : Bool, e = .returned (.bool b) ∧ (b = true → n ≤ 6 ∧ ∀ p ∈ pre, p.size ≤ 30)) ∧ w.grownBy w' none
set_option maxRecDepth 1000000
set_option maxHeartbeats 4000000 in
theorem light_any (B n cap : Nat) (a : Option Addr) (x y z : Int) (pre : List ByteArray) (w : World) (hn : pre.length = n) (hP : PartS w B (.slice a n cap) pre) :
    Calls Tryd.prog 14 #[.agg #[.int .i64 x, .int .i64 y, .int .i64 z, .slice a n cap]] w (LightRet w n pre) := by
  have HN := Lib.hid hn
  have HP := Lib.hid hP
  clear hn hP
  by_cases h6 : n ≤ 6
  · have d6 : decide (6 < (n : Int)) = false := by simp; omega
    have BB := Lib.hid (alloc_block w (.cells #[.int .i64 x, .int .i64 y, .int .i64 z, .slice a n cap] 25))
    have GA := Lib.hid (World.grownBy_alloc w (.cells #[.int .i64 x, .int .i64 y, .int .i64 z, .slice a n cap] 25) none)
    go_enter Tryd.func14, Tryd.ntmps14
    go_wp2
    go_loopw [3] (fun i wr => ∃ k : Nat, k ≤ n ∧ i = .int .i64 k ∧ Hid (∀ j, j < k → ∀ p, pre[j]? = some p → p.size ≤ 30) ∧ (w.alloc (.cells #[.int .i64 x, .int .i64 y, .int .i64 z, .slice a n cap] 25)).grownBy wr none) (fun i _ => n - (intOf i).toNat)
    case atStart => exact ⟨0, Nat.zero_le _, rfl, fun j hj => by omega, World.grownBy.refl _ _⟩
    case round =>
      obtain ⟨k, hk, rfl, hj, hg⟩ := hrel
      obtain ⟨b0, b1, b2, b3⟩ := ver_block BB.out hg
      have HG := Lib.hid (World.grownBy.trans GA.out hg)
      have HGA := Lib.hid hg
      clear hg b0 b1 b2
      by_cases hlt : k < n
      · obtain ⟨p, hp⟩ : ∃ p, pre[k]? = some p := ⟨_, List.getElem?_eq_getElem (by rw [HN.out]; exact hlt)⟩
        obtain ⟨b, o, e1, _, q1⟩ := (HP.out.stays HG.out).at k p hp
        subst e1
        have HX := Lib.hid hp
        clear hp
        by_cases hs : p.size ≤ 30
        · have ds : decide (30 < (p.size : Int)) = false := by simp; omega
          have HSZ := Lib.hid hs
          clear hs
          go_wp2_with fail
          refine ⟨⟨k + 1, by omega, by go_num, fun j hj' q hq => ?_, HGA.out⟩, by simp [intOf]; omega⟩
          rcases Nat.lt_or_ge j k with h | h
          · exact hj.out j h q hq
          · obtain rfl : j = k := by omega
            rw [HX.out] at hq
            obtain rfl := Option.some.inj hq
            exact HSZ.out
        · have ds : decide (30 < (p.size : Int)) = true := by simp; omega
          clear hs
          go_wp2
          go_ret
          exact ⟨⟨false, rfl, fun h => by cases h⟩, HG.out⟩
      · have hkn : k = n := by omega
        subst hkn
        clear hlt hk
        go_wp2
        go_ret
        refine ⟨⟨true, rfl, fun _ => ⟨h6, fun p hp => ?_⟩⟩, HG.out⟩
        obtain ⟨j, hj1, hj2⟩ := List.getElem_of_mem hp
        exact hj.out j (by rw [← HN.out]; exact hj1) p (by rw [List.getElem?_eq_getElem hj1, hj2])
  · have d6 : decide (6 < (n : Int)) = true := by simp; omega
    clear h6
    go_enter Tryd.func14, Tryd.ntmps14
    go_wp2
    go_ret
    exact ⟨⟨false, rfl, fun h => by cases h⟩, World.grownBy_alloc _ _ _⟩
end Go.Proofs.YtkngfkjnohbbiaaDoor
