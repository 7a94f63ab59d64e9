/- The document's own example. -/
import Derived.Test.YtpiikgobdhgldaaDoorN
import Derived.Test.YtpiikgobdhgldaaDoorP
import Derived.Stop.BytesEq
import Derived.RegionTactic
import Derived.Deep.QuietTactic
import Derived.BigQuiet
namespace Go.Proofs.YtpiikgobdhgldaaDoor
open Go.RowKit Go.Sort

def S0 : ByteArray := ⟨#[101, 51, 98, 48, 99, 52, 52, 50, 57, 56, 102, 99, 49, 99, 49, 52, 57, 97, 102, 98, 102, 52, 99, 56, 57, 57, 54, 102, 98, 57, 50, 52, 50, 55, 97, 101, 52, 49, 101, 52, 54, 52, 57, 98, 57, 51, 52, 99, 97, 52, 57, 53, 57, 57, 49, 98, 55, 56, 53, 50, 98, 56, 53, 53]⟩
theorem empty_hex : hexL (digest []).toList = [101, 51, 98, 48, 99, 52, 52, 50, 57, 56, 102, 99, 49, 99, 49, 52, 57, 97, 102, 98, 102, 52, 99, 56, 57, 57, 54, 102, 98, 57, 50, 52, 50, 55, 97, 101, 52, 49, 101, 52, 54, 52, 57, 98, 57, 51, 52, 99, 97, 52, 57, 53, 57, 57, 49, 98, 55, 56, 53, 50, 98, 56, 53, 53] := by decide +kernel
theorem S0_eq : (⟨(hexL (digest []).toList).toArray⟩ : ByteArray) = S0 := by rw [empty_hex]; rfl
theorem S0_good : pb S0 = true := by decide +kernel
theorem S0_key : (pk S0).toList = (digest []).toList := by decide +kernel
theorem xyz_bad : pb ⟨#[120, 121, 122]⟩ = false := by decide +kernel
def D0 : Array Value := (digest []).map encB
theorem digest_size (L : List UInt8) : (digest L).size = 32 := keyA_size _ _
theorem D0_size : D0.size = 32 := by unfold D0; rw [Array.size_map, digest_size]
theorem D0_one : D0.all (·.oneCell') = true := by
  unfold D0
  rw [Array.all_map]
  exact Array.all_eq_true.2 fun i hi => rfl

theorem eql_key (K : Array UInt8) (hK : K.size = 32) (W : World) : (binOp .eql 26 (.agg (K.map encB)) (.agg (K.map encB))).run Tryd.prog W = .ok (.bool true) W := by
  have h := run_eql_bytes (P := Tryd.prog) W 26 5 32 Tryd.underlying26 Tryd.underlying5 (fun w => by kernel_rfl) K.toList K.toList (by simpa using hK) (by simpa using hK)
  have e : (K.toList.map Extern.Stop.cell).toArray = K.map encB := by
    apply Array.ext'
    simp [encB, Extern.Stop.cell]
  rw [e] at h
  rw [h]
  simp

theorem sum_zero (w : World) (h0 : 0 < w.heap.size) (hT : ∀ j, j < 64 → w.cell? ⟨0, j, none⟩ = some (encW table[j]!)) :
    Calls Tryd.prog 8 #[.slice none 0 0] w fun e w' => e = .returned (.agg D0) ∧ w.grownBy w' none :=
  sum_any w.heap.size 0 0 none [] w rfl (Nat.le_refl _) (Nat.le_refl _) (by unfold maxLen; omega) (by simp) hT ⟨0, 0, h0, fun h => by simp at h, fun i h => by simp at h⟩
theorem hex_zero (w : World) : Calls Tryd.prog 9 #[.agg D0] w fun e w' => e = .returned (.string S0) ∧ w.grownBy w' none :=
  (hex_any (digest []) w (digest_size _)).mono fun e w' h => ⟨by rw [h.1, S0_eq], h.2⟩
theorem parse_zero (w : World) : Calls Tryd.prog 11 #[.string S0] w fun e w' => e = .returned (.tuple #[.agg D0, .bool true]) ∧ w.grownBy w' none :=
  (parse_any S0 w).mono fun e w' h => ⟨by rw [h.1, S0_good, show pk S0 = digest [] from Array.ext' S0_key]; rfl, h.2⟩
theorem parse_xyz (w : World) : Calls Tryd.prog 11 #[.string ⟨#[120, 121, 122]⟩] w fun e w' => e = .returned (.tuple #[.agg zero32A, .bool false]) ∧ w.grownBy w' none :=
  (parse_any _ w).mono fun e w' h => ⟨by rw [h.1, pk_no _ xyz_bad, xyz_bad, zero32A_eq], h.2⟩

theorem store_new (W : World) (C : Array Value) (hC : C.size = 32) (h1 : C.all (·.oneCell') = true) :
    (storeCells ⟨W.heap.size, 0, none⟩ C.toList 0).run Tryd.prog (W.alloc (.cells zero32A 26)) = .ok () (W.alloc (.cells C 26)) :=
  run_storeCells_new (P := Tryd.prog) W 26 zero32A C (by rw [hC]; exact info26) (by rw [hC, zero32A_size]) h1

set_option maxRecDepth 1000000
set_option maxHeartbeats 1000000 in
theorem known_any (w : World) (h0 : 0 < w.heap.size) (hT : ∀ j, j < 64 → w.cell? ⟨0, j, none⟩ = some (encW table[j]!)) :
    Calls Tryd.prog 6 #[] w fun e w' => e = .returned (.bool true) ∧ w.grownBy w' none := by
  have hz : ∀ W : World, (zeroValue 26).run Tryd.prog W = .ok (.agg zero32A) W := by intro W; kernel_rfl
  have hst1 := fun W => store_new W D0 D0_size D0_one
  have hst2 := fun W => store_new W zero32A zero32A_size zero32A_one
  have hzs := zero32A_size
  have hds := D0_size
  have HT := Lib.hid hT
  clear hT
  go_enter Tryd.func6, Tryd.ntmps6
  go_wp2_with fail
  (with_reducible refine (sum_zero w h0 HT.out).mono ?_)
  rintro ee w1 ⟨rfl, g1⟩
  dsimp only
  go_wp2_with fail
  (with_reducible refine (hex_zero w1).mono ?_)
  rintro ee w2 ⟨rfl, g2⟩
  dsimp only
  go_wp2_with fail
  (with_reducible refine (parse_zero w2).mono ?_)
  rintro ee w3 ⟨rfl, g3⟩
  dsimp only
  go_wp2_with fail
  (with_reducible refine (parse_xyz _).mono ?_)
  rintro ee w4 ⟨rfl, g4⟩
  dsimp only
  go_wp2_with fail
  have g5 : w.grownBy (w4.alloc (.cells zero32A 26)) none := World.grownBy.trans (World.grownBy.trans (World.grownBy.trans (World.grownBy.trans (World.grownBy.trans g1 g2) g3) (World.grownBy_alloc _ _ _)) g4) (World.grownBy_alloc _ _ _)
  have hblk : (w4.alloc (.cells zero32A 26)).heap[w3.heap.size]? = some (.cells D0 26 (0, 0)) := by
    have hg := World.grownBy.trans g4 (World.grownBy_alloc w4 (.cells zero32A 26) none)
    rw [hg.block _ (by rw [alloc_size]; omega) (by simp), heap_alloc_new]
  have hlt : w3.heap.size < (w4.alloc (.cells zero32A 26)).heap.size := (Array.getElem?_eq_some_iff.1 hblk).1
  obtain ⟨W0, hW0⟩ : ∃ W0, w4.alloc (.cells zero32A 26) = W0 := ⟨_, rfl⟩
  rw [hW0] at hblk hlt g5 ⊢
  have hld : ∀ W, W0.grownBy W none → (Instr.loadAt 26 (.pointer (some ⟨w3.heap.size, 0, none⟩))).run Tryd.prog W = .ok (.agg D0) W := by
    intro W hW
    simp only [Instr.loadAt, Instr.sureAddr, Sem.run_bind, Sem.run_pure, Result.andThen]
    exact run_loadVar_row _ _ 26 26 D0 (0, 0) _ (by rw [hW.block _ hlt (by simp)]; exact hblk) Tryd.underlying26 rfl (by rw [info26, D0_size])
  have hsum : ∀ W, W0.grownBy W none → Calls Tryd.prog 8 #[.slice none 0 0] W fun e w' => e = .returned (.agg D0) ∧ W0.grownBy w' none := by
    intro W hW
    have hwW := World.grownBy.trans g5 hW
    exact (sum_zero W (Nat.lt_of_lt_of_le h0 hwW.size) (fun j hj => hwW.cell (HT.out j hj) (by simp))).mono fun e w' h => ⟨h.1, World.grownBy.trans hW h.2⟩
  have hhex : ∀ W, W0.grownBy W none → Calls Tryd.prog 9 #[.agg D0] W fun e w' => e = .returned (.string S0) ∧ W0.grownBy w' none := by
    intro W hW
    exact (hex_zero W).mono fun e w' h => ⟨h.1, World.grownBy.trans hW h.2⟩
  have heq : ∀ W : World, (binOp .eql 26 (.agg D0) (.agg D0)).run Tryd.prog W = .ok (.bool true) W := fun W => eql_key (digest []) (digest_size _) W
  have hC0 : W0.grownBy { W0 with drawn := W0.drawn + 1 } none := ⟨rfl, rfl, rfl, Nat.le_refl _, fun _ _ _ => rfl⟩
  clear hblk hlt hW0 hz hst1 hst2 hzs hds g1 g2 g3 g4
  refine wp_region_quiet (C := fun w' => W0.grownBy w' none) (by kernel_rfl) (by kernel_rfl) hC0 ?_
  refine wpQuiet_step (fun K hK => ?_)
  rw [if_pos (by rfl)]
  refine ⟨.agg D0, fun W hW => ?_, hK _ ?_⟩
  · refine ⟨rfl, ?_⟩
    have h := hsum W hW
    simpa [Act.eval] using h
  clear hK K
  simp only [Act.put, List.setIfInBounds_toArray, List.set_cons_zero, List.set_cons_succ]
  refine wpQuiet_step (fun K hK => ?_)
  rw [if_pos (by rfl)]
  refine ⟨.string S0, fun W hW => ?_, hK _ ?_⟩
  · refine ⟨rfl, ?_⟩
    have h := hhex W hW
    simpa [Act.eval] using h
  clear hK K
  simp only [Act.put, List.setIfInBounds_toArray, List.set_cons_zero, List.set_cons_succ]
  refine wpQuiet_step (fun K hK => ?_)
  rw [if_pos (by rfl)]
  refine ⟨.bool true, fun W hW => ?_, hK _ ?_⟩
  · exact ⟨rfl, congrArg Value.bool (beq_iff_eq.2 rfl)⟩
  clear hK K
  simp only [Act.put, List.setIfInBounds_toArray, List.set_cons_zero, List.set_cons_succ]
  refine wpQuiet_step (fun K hK => ?_)
  rw [if_pos (by rfl)]
  refine ⟨.bool true, fun W hW => ?_, hK _ ?_⟩
  · exact ⟨rfl, rfl⟩
  clear hK K
  simp only [Act.put, List.setIfInBounds_toArray, List.set_cons_zero, List.set_cons_succ]
  refine wpQuiet_step (fun K hK => ?_)
  rw [if_pos (by rfl)]
  refine ⟨.bool true, fun W hW => ?_, hK _ ?_⟩
  · exact ⟨rfl, rfl⟩
  clear hK K
  simp only [Act.put, List.setIfInBounds_toArray, List.set_cons_zero, List.set_cons_succ]
  refine wpQuiet_step (fun K hK => ?_)
  rw [if_pos (by rfl)]
  refine ⟨.bool true, fun W hW => ?_, hK _ ?_⟩
  · exact ⟨rfl, rfl⟩
  clear hK K
  simp only [Act.put, List.setIfInBounds_toArray, List.set_cons_zero, List.set_cons_succ]
  refine wpQuiet_step (fun K hK => ?_)
  rw [if_pos (by rfl)]
  refine ⟨.bool true, fun W hW => ?_, hK _ ?_⟩
  · exact ⟨rfl, rfl⟩
  clear hK K
  simp only [Act.put, List.setIfInBounds_toArray, List.set_cons_zero, List.set_cons_succ]
  refine wpQuiet_step (fun K hK => ?_)
  rw [if_pos (by rfl)]
  refine ⟨.bool false, fun W hW => ?_, hK _ ?_⟩
  · exact ⟨rfl, rfl⟩
  clear hK K
  simp only [Act.put, List.setIfInBounds_toArray, List.set_cons_zero, List.set_cons_succ]
  refine wpQuiet_step (fun K hK => ?_)
  rw [if_pos (by rfl)]
  refine ⟨.bool true, fun W hW => ?_, hK _ ?_⟩
  · exact ⟨rfl, rfl⟩
  clear hK K
  simp only [Act.put, List.setIfInBounds_toArray, List.set_cons_zero, List.set_cons_succ]
  refine wpQuiet_step (fun K hK => ?_)
  rw [if_pos (by rfl)]
  refine ⟨.bool true, fun W hW => ?_, hK _ ?_⟩
  · exact ⟨rfl, rfl⟩
  clear hK K
  simp only [Act.put, List.setIfInBounds_toArray, List.set_cons_zero, List.set_cons_succ]
  refine wpQuiet_step (fun K hK => ?_)
  rw [if_pos (by rfl)]
  refine ⟨.bool true, fun W hW => ?_, hK _ ?_⟩
  · exact ⟨rfl, rfl⟩
  clear hK K
  simp only [Act.put, List.setIfInBounds_toArray, List.set_cons_zero, List.set_cons_succ]
  refine wpQuiet_step (fun K hK => ?_)
  rw [if_pos (by rfl)]
  refine ⟨.agg D0, fun W hW => ?_, hK _ ?_⟩
  · have h := hld W hW
    unfold Oper.quietAt
    simp [execOp, Act.eval, h, Result.andThen, Oper.quietUpon]
  clear hK K
  simp only [Act.put, List.setIfInBounds_toArray, List.set_cons_zero, List.set_cons_succ]
  refine wpQuiet_step (fun K hK => ?_)
  rw [if_pos (by rfl)]
  refine ⟨.agg D0, fun W hW => ?_, hK _ ?_⟩
  · refine ⟨rfl, ?_⟩
    have h := hsum W hW
    simpa [Act.eval] using h
  clear hK K
  simp only [Act.put, List.setIfInBounds_toArray, List.set_cons_zero, List.set_cons_succ]
  refine wpQuiet_step (fun K hK => ?_)
  rw [if_pos (by rfl)]
  refine ⟨.bool true, fun W hW => ?_, hK _ ?_⟩
  · have h := heq W
    have hg := run_eqGuard_agg (P := Tryd.prog) W .eql 26 (.tmp 26) (.tmp 27) D0 D0 (by kernel_rfl)
    unfold Oper.quietAt
    simp [execOp, Act.eval, h, hg, Result.andThen, Oper.quietUpon]
  clear hK K
  simp only [Act.put, List.setIfInBounds_toArray, List.set_cons_zero, List.set_cons_succ]
  refine wpQuiet_step (fun K hK => ?_)
  rw [if_pos (by rfl)]
  refine ⟨.bool true, fun W hW => ?_, hK _ ?_⟩
  · exact ⟨rfl, rfl⟩
  clear hK K
  simp only [Act.put, List.setIfInBounds_toArray, List.set_cons_zero, List.set_cons_succ]
  refine wpQuiet_step (fun K hK => ?_)
  rw [if_pos (by rfl)]
  refine ⟨.bool true, fun W hW => ?_, hK _ ?_⟩
  · exact ⟨rfl, rfl⟩
  clear hK K
  simp only [Act.put, List.setIfInBounds_toArray, List.set_cons_zero]
  refine wpQuiet_nil ?_
  intro W hW
  go_wp2
  go_ret
  exact ⟨rfl, World.grownBy.trans g5 hW⟩
end Go.Proofs.YtpiikgobdhgldaaDoor
