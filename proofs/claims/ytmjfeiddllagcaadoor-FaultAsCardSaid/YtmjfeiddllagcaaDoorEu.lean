/- The law's own found; Join of none; the operations on the way to a number. -/
import Derived.Test.YtmjfeiddllagcaaDoorEt
import Derived.RegionTactic
namespace Go.Proofs.YtmjfeiddllagcaaDoor
open Go.RowKit

set_option maxRecDepth 1000000
set_option maxHeartbeats 4000000 in
theorem found_fault (b : Addr) (w : World) (hg : ErrVar w) :
    Calls Tryd.prog 16 #[.iface 39 (.pointer (some b))] w fun e w' => e = .returned (.tuple #[.pointer (some b), .bool true]) ∧ w.grownBy w' none := by
  have hne : ∀ (b : Addr) (W : World), (binOp .neq 39 (.pointer (some b)) (.pointer none)).run Tryd.prog W = .ok (.bool true) W := fun b W => by kernel_rfl
  have g1 : w.grownBy (w.alloc (.cells #[.pointer none] 39)) none := World.grownBy_alloc _ _ _
  have HA := Lib.hid (af_any w.heap.size (.pointer none) b (w.alloc (.cells #[.pointer none] 39)) (bk_alloc _ _) (hg.grown g1))
  have G1 := Lib.hid g1
  clear hg g1
  go_enter Tryd.func16, Tryd.ntmps16
  go_wp2_with fail
  (with_reducible refine HA.out.mono ?_)
  rintro ee w3 ⟨rfl, w1, hw1, rfl⟩
  dsimp only
  have b3 := bk_set (bk_kept (bk_alloc w (.cells #[.pointer none] 39)) hw1) 0 (.pointer (some b))
  obtain ⟨c3, _⟩ := bk_cell b3 0 (.pointer (some b)) rfl
  have G3 := Lib.hid (bk_grown_set (World.grownBy.trans G1.out hw1) (Nat.le_refl w.heap.size) 0 (.pointer (some b)))
  obtain ⟨W3, hW3⟩ : ∃ W3, w1.setCell ⟨w.heap.size, 0, none⟩ (.pointer (some b)) = W3 := ⟨_, rfl⟩
  rw [hW3] at c3 G3 ⊢
  clear hW3 b3 hw1
  go_wp2
  go_region
  all_goals
    go_wp2
    go_ret2
    exact ⟨rfl, grown_drew 1 G3.out⟩
set_option maxHeartbeats 4000000 in
theorem found_num (k : Int) (w : World) (hg : ErrVar w) :
    Calls Tryd.prog 16 #[.iface 25 (.int .i64 k)] w fun e w' => e = .returned (.tuple #[.pointer none, .bool false]) ∧ w.grownBy w' none := by
  have g1 : w.grownBy (w.alloc (.cells #[.pointer none] 39)) none := World.grownBy_alloc _ _ _
  have HA := Lib.hid (an_any w.heap.size k (w.alloc (.cells #[.pointer none] 39)) (hg.grown g1))
  have G1 := Lib.hid g1
  clear hg g1
  go_enter Tryd.func16, Tryd.ntmps16
  go_wp2_with fail
  (with_reducible refine HA.out.mono ?_)
  rintro ee w3 ⟨rfl, hw3⟩
  dsimp only
  obtain ⟨c3, _⟩ := bk_cell (bk_kept (bk_alloc w (.cells #[.pointer none] 39)) hw3) 0 (.pointer none) rfl
  have G3 := Lib.hid (World.grownBy.trans G1.out hw3)
  clear hw3
  go_wp2
  go_region
  all_goals
    go_wp2
    go_ret2
    exact ⟨rfl, grown_drew 1 G3.out⟩
theorem eclone_none (w : World) : Calls Tryd.prog 32 #[.slice none 0 0] w fun e w' => e = .returned (.slice none 0 0) ∧ w' = w := by
  have he : ∀ W : World, (binOp .eql 48 (.slice none 0 0) (.slice none 0 0)).run Tryd.prog W = .ok (.bool true) W := fun _ => by kernel_rfl
  go_enter Tryd.func32, Tryd.ntmps32
  go_wp2
  go_ret
  exact ⟨rfl, rfl⟩
theorem eindex_none (f : Value) (w : World) : Calls Tryd.prog 41 #[.slice none 0 0, f] w fun e w' => e = .returned (.int .i64 (-1)) ∧ w' = w := by
  go_enter Tryd.func41, Tryd.ntmps41
  go_wp2
  refine wp_loop_rounds 1 ?_
  rw [rounds_succ]
  go_wp2
  go_ret
  exact ⟨rfl, rfl⟩
theorem edelete_none (f : Value) (w : World) : Calls Tryd.prog 31 #[.slice none 0 0, f] w fun e w' => e = .returned (.slice none 0 0) ∧ w' = w := by
  have HI := Lib.hid (eindex_none f w)
  go_enter Tryd.func31, Tryd.ntmps31
  go_wp2_with fail
  (with_reducible refine HI.out.mono ?_)
  rintro ee w3 ⟨rfl, rfl⟩
  dsimp only
  go_wp2
  go_ret
  exact ⟨rfl, rfl⟩
theorem join_none (w : World) : Calls Tryd.prog 19 #[.slice none 0 0] w fun e w' => e = .returned .nilIface ∧ w' = w := by
  have HC := Lib.hid (eclone_none w)
  have HD := Lib.hid (fun f => edelete_none f w)
  go_enter Tryd.func19, Tryd.ntmps19
  go_wp2_with fail
  (with_reducible refine HC.out.mono ?_)
  rintro ee w3 ⟨rfl, rfl⟩
  dsimp only
  go_wp2_with fail
  (with_reducible refine (HD.out _).mono ?_)
  rintro ee w4 ⟨rfl, rfl⟩
  dsimp only
  go_wp2
  go_ret
  exact ⟨rfl, rfl⟩
end Go.Proofs.YtmjfeiddllagcaaDoor
