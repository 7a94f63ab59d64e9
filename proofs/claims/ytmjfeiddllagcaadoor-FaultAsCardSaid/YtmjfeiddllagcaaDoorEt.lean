/- fault.Is at a chain; the law's own found, is. -/
import Derived.Test.YtmjfeiddllagcaaDoorEb
import Derived.Test.YtmjfeiddllagcaaDoorEs
import Derived.Test.YtmjfeiddllagcaaDoorEo
import Derived.Defers
import Derived.Recover
namespace Go.Proofs.YtmjfeiddllagcaaDoor
open Go.RowKit Go.Extern.Stop Go.Stop Go.Extern

set_option maxRecDepth 1000000
theorem is_idle (p : Addr) (w : World) : CallsD Tryd.prog 24 #[.pointer (some p)] .returning w fun e u' w' => e = .returned (.tuple #[]) ∧ u' = .returning ∧ w' = w := by
  refine callsD_of_wpS Tryd.func24 rfl fun c₀ cs hu => ?_
  apply wpS_seq
  apply wpS_region
  simp [wpOpsS, go_sem, recoverD, hu, Tryd.ntmps24, Exit.thenS]
  refine wpS_cond (t := false) (by simp [Act.eval, Array.replicate]) ?_
  simp only [Bool.false_eq_true, if_false]
  refine wpS_of_wp (wp_skip ?_)
  cases c₀
  simp_all [bodyPostS, results, Tryd.results24]
set_option maxHeartbeats 4000000 in
theorem faultIs_any {l : List (ByteArray × ByteArray)} {e : Value} (k c : Int) (w : World) (h : Fchain w l k e) (hl : l.length ≤ 1000) (hc : c ≠ 0) :
    Calls Tryd.prog 12 #[e, .int .i64 c] w fun ev w' => ev = .returned (.bool (k == c)) ∧ w.grownBy w' none := by
  have hmf : ∀ (fn : Fn) (first cap : Array Value) (w : World), (Instr.makeFunc fn first cap).run Tryd.prog w = .ok (.func fn first cap) w := fun _ _ _ _ => rfl
  have H := Lib.hid h
  have c0 : (c == 0) = false := by simp [hc]
  clear h
  go_enter_defers Tryd.func12, Tryd.ntmps12
  go_wp2_with fail
  obtain ⟨W1, hW1⟩ : ∃ W1, w.alloc (.cells #[.bool false] 4) = W1 := ⟨_, rfl⟩
  have g1 : w.grownBy W1 none := by rw [← hW1]; exact World.grownBy_alloc _ _ _
  have b0 : W1.heap[w.heap.size]? = some (.cells #[.bool false] 4 (0, 0)) := by rw [← hW1]; exact bk_alloc _ _
  rw [hW1]
  clear hW1
  have G1 := Lib.hid g1
  have B0 := Lib.hid b0
  have H1 := Lib.hid (H.out.grown g1)
  clear g1 b0 H
  (with_reducible refine (ends_any l.length W1 H1.out rfl hl).mono ?_)
  rintro ee w2 ⟨rfl, g2⟩
  dsimp only
  have G2 := Lib.hid (World.grownBy.trans G1.out g2)
  have C0 := Lib.hid (bk_kept B0.out g2)
  have HA := Lib.hid (is_chain k c l e w2 (H1.out.grown g2))
  clear g2
  go_wp2_with fail
  (with_reducible refine HA.out.mono ?_)
  rintro ee w3 ⟨rfl, rfl⟩
  dsimp only
  obtain ⟨x0, f0⟩ := bk_cell C0.out 0 (.bool false) rfl
  obtain ⟨c5, _⟩ := bk_cell (bk_set C0.out 0 (.bool (k == c))) 0 (.bool (k == c)) rfl
  have G5 := Lib.hid (bk_grown_set G2.out (Nat.le_refl w.heap.size) 0 (.bool (k == c)))
  go_wp2
  refine leaves_cons (f := 24) (args := #[.pointer (some ⟨w.heap.size, 0, none⟩)]) (by simp) (by simp [go_sem]) ?_
  refine (is_idle ⟨w.heap.size, 0, none⟩ _).mono ?_
  rintro e u' w'' ⟨rfl, rfl, rfl⟩
  have g5 := G5.out
  simp [Leaves, settle, results, Tryd.results12, go_sem, c5, g5]
theorem lawIs_any {l : List (ByteArray × ByteArray)} {e : Value} (k c : Int) (w : World) (h : Fchain w l k e) :
    Calls Tryd.prog 17 #[e, .int .i64 c] w fun ev w' => ev = .returned (.bool (k == c)) ∧ w' = w := by
  have HA := Lib.hid (is_chain k c l e w h)
  obtain ⟨t, v, rfl⟩ := h.shape
  clear h
  go_enter Tryd.func17, Tryd.ntmps17
  go_wp2_with fail
  (with_reducible refine HA.out.mono ?_)
  rintro ee w3 ⟨rfl, rfl⟩
  dsimp only
  go_wp2
  go_ret
  exact ⟨rfl, rfl⟩
end Go.Proofs.YtmjfeiddllagcaaDoor
