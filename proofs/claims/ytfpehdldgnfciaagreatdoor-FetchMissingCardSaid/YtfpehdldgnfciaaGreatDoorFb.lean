/- What a fetch tells of itself without a sum: whether it is over, what it wants next. -/
import Derived.Test.YtfpehdldgnfciaaGreatDoorFa
import Derived.RegionTactic
import Derived.Deep.QuietTactic
import Derived.BigQuiet
namespace Go.Proofs.YtfpehdldgnfciaaGreatDoor
open Go.RowKit

set_option maxRecDepth 1000000
theorem ret_q {a b : Int} (h : a = b) : Ending.returned (.int .i64 a) = .returned (.int .i64 b) := by rw [h]
set_option maxHeartbeats 1000000 in
theorem over_any (F : Nat) (K : Array Value) (n : Int) (bv : Value) (fa sp : Int) (dn fl : Bool) (w : World) (h : Fet w F K n bv fa sp dn fl) :
    Calls Tryz.prog 17 #[.pointer (some ⟨F, 0, none⟩)] w fun e w' => e = .returned (.bool (dn || fl)) ∧ w' = w := by
  obtain ⟨c37, c39, c40, c41, c42, c43⟩ := h.cells
  clear h c37 c39 c40 c41
  cases dn <;> cases fl
  all_goals
    go_enter Tryz.func17, Tryz.ntmps17
    go_wp2
    go_ret
    exact ⟨rfl, rfl⟩
set_option maxHeartbeats 1000000 in
theorem wanted_any (F n m c q : Nat) (K : Array Value) (a : Option Addr) (fa sp : Int) (dn fl : Bool) (w : World) (h : Fet w F K n (.slice a m c) fa sp dn fl) (hm : m ≤ n) (hn : n ≤ 1000000) (hq : min 64 (n - m) = q) :
    Calls Tryz.prog 19 #[.pointer (some ⟨F, 0, none⟩)] w fun e w' => e = .returned (.int .i64 q) ∧ ∃ d, w' = w.drewN d := by
  obtain ⟨c37, c39, c40, c41, c42, c43⟩ := h.cells
  have HQ := Lib.hid hq
  clear h c40 c41 c42 c43 hq
  go_enter Tryz.func19, Tryz.ntmps19
  go_wp2
  go_region
  all_goals
    go_wp2
    all_goals
      go_ret
      exact ⟨ret_q (by have := HQ.out; omega), 1, rfl⟩

theorem clone_none (w : World) : Calls Tryz.prog 23 #[.slice none 0 0] w fun e w' => e = .returned (.slice none 0 0) ∧ w' = w := by
  have he : ∀ W : World, (binOp .eql 24 (.slice none 0 0) (.slice none 0 0)).run Tryz.prog W = .ok (.bool true) W := fun _ => by kernel_rfl
  go_enter Tryz.func23, Tryz.ntmps23
  go_wp2
  go_ret
  exact ⟨rfl, rfl⟩
theorem cloneS_none (w : World) : Calls Tryz.prog 36 #[.slice none 0 0] w fun e w' => e = .returned (.slice none 0 0) ∧ w' = w := by
  have he : ∀ W : World, (binOp .eql 28 (.slice none 0 0) (.slice none 0 0)).run Tryz.prog W = .ok (.bool true) W := fun _ => by kernel_rfl
  go_enter Tryz.func36, Tryz.ntmps36
  go_wp2
  go_ret
  exact ⟨rfl, rfl⟩
theorem owns_none (w : World) : Owns (w.alloc (.cells #[] 5)) w.heap.size (.slice (some ⟨w.heap.size, 0, none⟩) 0 0) [] :=
  ⟨by simp, .inr ⟨w.heap.size, 0, #[], rfl, Nat.le_refl _, bk_alloc _ _, Nat.le_refl _, by unfold maxLen; omega, rfl, rfl⟩⟩
/-- A slice of bytes in new memory. -/
def CloneRet (w : World) (L : List UInt8) (e : Ending) (w' : World) : Prop := ∃ v, e = .returned v ∧ Owns w' w.heap.size v L ∧ w.grownBy w' none
set_option maxHeartbeats 1000000 in
theorem clone_any (B m c : Nat) (a : Option Addr) (L : List UInt8) (w : World) (hL : L.length = m) (hm : m ≤ 1000000) (hP : Part w B (.slice a m c) L) :
    Calls Tryz.prog 23 #[.slice a m c] w (CloneRet w L) := by
  have HL := Lib.hid hL
  have HP := Lib.hid hP
  cases a with
  | none =>
    have h0 : m = 0 := by
      obtain ⟨a, cap, b, o, h1, h2, h6, h3, h4, h5⟩ := hP
      by_cases h : 0 < L.length
      · have := h4 h; subst this; simp at h1
      · omega
    subst h0
    have hc : c = 0 := by
      obtain ⟨a, cap, b, o, h1, h2, h6, h3, h4, h5⟩ := hP
      injection h1 with k1 k2 k3
      rw [k3]; exact h6 k1.symm
    subst hc
    have hl : L = [] := List.eq_nil_of_length_eq_zero hL
    subst hl
    exact (clone_none w).mono fun e w' h => ⟨_, h.1, by rw [h.2]; exact Owns.nil _ _, by rw [h.2]; exact World.grownBy.refl _ _⟩
  | some ad =>
    clear hL hP
    have he : ∀ W : World, (binOp .eql 24 (.slice (some ad) m c) (.slice none 0 0)).run Tryz.prog W = .ok (.bool false) W := fun _ => by kernel_rfl
    have hown0 : Hid (Owns (w.alloc (.cells #[] 5)) w.heap.size (.slice (some ⟨w.heap.size, 0, none⟩) 0 0) []) := owns_none w
    have hp1 : Hid (Part (w.alloc (.cells #[] 5)) B (.slice (some ad) m c) L) := HP.out.stays (World.grownBy_alloc _ _ _)
    go_enter Tryz.func23, Tryz.ntmps23
    go_wp2_with ((with_reducible refine app_part (o := ⟨some 7, _, _, _, _, _⟩) rfl _ _ rfl w.heap.size B (.slice (some ⟨w.heap.size, 0, none⟩) 0 0) (.slice (some ad) m c) [] L ?_ hown0.out ?_ hp1.out ?_ ?_ ?_); (exact rfl); (exact rfl); (have := HL.out; simp; omega); (rw [alloc_size]; omega); (intro v2 w2 ho2 hg2); have HO2 := Lib.hid ho2; have HG2 := Lib.hid (hown0.out.grown (World.grownBy_alloc _ _ _) hg2); clear ho2 hg2)
    go_ret
    exact ⟨_, rfl, HO2.out, HG2.out⟩

theorem done_no (F : Nat) (K : Array Value) (n : Int) (bv : Value) (fa sp : Int) (fl : Bool) (w : World) (h : Fet w F K n bv fa sp false fl) :
    Calls Tryz.prog 10 #[.pointer (some ⟨F, 0, none⟩)] w fun e w' => e = .returned (.tuple #[.slice none 0 0, .bool false]) ∧ w' = w := by
  obtain ⟨c37, c39, c40, c41, c42, c43⟩ := h.cells
  clear h c37 c39 c40 c41 c43
  go_enter Tryz.func10, Tryz.ntmps10
  go_wp2
  go_ret2
  exact ⟨rfl, rfl⟩
def DoneRet (w : World) (L : List UInt8) (e : Ending) (w' : World) : Prop := ∃ v, e = .returned (.tuple #[v, .bool true]) ∧ Owns w' w.heap.size v L ∧ w.grownBy w' none
theorem done_yes (F m c : Nat) (a : Option Addr) (base : Nat) (L : List UInt8) (K : Array Value) (n : Int) (fa sp : Int) (fl : Bool) (w : World) (h : Fet w F K n (.slice a m c) fa sp true fl) (ho : Owns w base (.slice a m c) L) (hL : L.length = m) (hm : m ≤ 1000000) :
    Calls Tryz.prog 10 #[.pointer (some ⟨F, 0, none⟩)] w (DoneRet w L) := by
  obtain ⟨c37, c39, c40, c41, c42, c43⟩ := h.cells
  have HC := Lib.hid (clone_any w.heap.size m c a L w hL hm (ho.part (by have := h.size; omega)))
  clear h c37 c40 c41 c43 ho hL
  go_enter Tryz.func10, Tryz.ntmps10
  go_wp2_with ((with_reducible refine HC.out.mono ?_); rintro ee w1 ⟨v, rfl, ho1, hg1⟩; dsimp only; have HO1 := Lib.hid ho1; have HG1 := Lib.hid hg1; clear ho1 hg1)
  go_ret2
  exact ⟨_, rfl, HO1.out, HG1.out⟩
end Go.Proofs.YtfpehdldgnfciaaGreatDoor
