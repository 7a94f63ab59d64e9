/- What a sum begins as. -/
import Derived.Test.YtfpehdldgnfciaaGreatDoorH
import Derived.Deep.WholeRow
namespace Go.Proofs.YtfpehdldgnfciaaGreatDoor.Sha
open Go.RowKit Go.Sort
def zeros : Array Value := obj ⟨0, 0, 0, 0, 0, 0, 0, 0⟩ (Array.replicate 64 0) 0 0
/-- A sum's cells at its start. -/
def fresh : Array Value := obj init (Array.replicate 64 0) 0 0
theorem zeros_size : zeros.size = 74 := by kernel_rfl
theorem fresh_size : fresh.size = 74 := by kernel_rfl
theorem fresh_one : fresh.all (·.oneCell') = true := by kernel_rfl
theorem fresh_of : ((((((((zeros.setIfInBounds 0 (Value.int IntKind.u32 1779033703)).setIfInBounds 1 (Value.int IntKind.u32 3144134277)).setIfInBounds 2 (Value.int IntKind.u32 1013904242)).setIfInBounds 3 (Value.int IntKind.u32 2773480762)).setIfInBounds 4 (Value.int IntKind.u32 1359893119)).setIfInBounds 5 (Value.int IntKind.u32 2600822924)).setIfInBounds 6 (Value.int IntKind.u32 528734635)).setIfInBounds 7 (Value.int IntKind.u32 1541459225)) = fresh := by kernel_rfl
theorem info43 : (Tryz.prog.info? 120).map (·.size) = some 74 := by kernel_rfl

set_option maxRecDepth 1000000
set_option maxHeartbeats 1000000 in
theorem start_any (w : World) :
    Calls Tryz.prog 46 #[] w fun e w' => e = .returned (.agg fresh) ∧ w' = w.alloc (.cells fresh 120) := by
  have hz : ∀ W : World, (zeroValue 120).run Tryz.prog W = .ok (.agg zeros) W := by intro W; kernel_rfl
  have hzs := zeros_size
  have hst := run_storeCells_new (P := Tryz.prog) w 120 zeros ((((((((zeros.setIfInBounds 0 (Value.int IntKind.u32 1779033703)).setIfInBounds 1 (Value.int IntKind.u32 3144134277)).setIfInBounds 2 (Value.int IntKind.u32 1013904242)).setIfInBounds 3 (Value.int IntKind.u32 2773480762)).setIfInBounds 4 (Value.int IntKind.u32 1359893119)).setIfInBounds 5 (Value.int IntKind.u32 2600822924)).setIfInBounds 6 (Value.int IntKind.u32 528734635)).setIfInBounds 7 (Value.int IntKind.u32 1541459225)) (by rw [fresh_of, fresh_size]; exact info43) (by rw [fresh_of, fresh_size, zeros_size]) (by rw [fresh_of]; exact fresh_one)
  rw [fresh_of] at hst
  have e := congrArg Array.toList fresh_of
  simp only [Array.toList_setIfInBounds] at e
  rw [← e] at hst
  clear e
  go_enter Tryz.func46, Tryz.ntmps46
  go_wp2
  refine bodyPost_ret (v := .agg fresh) ?_ rfl ⟨rfl, rfl⟩
  exact results_cell_row rfl _ _ w.heap.size 120 fresh (0, 0) _ rfl (heap_alloc_new _ _) Tryz.underlying120 rfl (by rw [info43, fresh_size])
end Go.Proofs.YtfpehdldgnfciaaGreatDoor.Sha
