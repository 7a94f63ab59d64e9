/- fault.Code of a chain of faults. -/
import Derived.Test.YtmjfeiddllagcaaDoorEb
import Derived.Test.YtmjfeiddllagcaaDoorEf
import Derived.Defers
import Derived.Recover
namespace Go.Proofs.YtmjfeiddllagcaaDoor
open Go.RowKit Go.Extern.Stop Go.Stop Go.Extern

set_option maxRecDepth 1000000
/-- What is laid: the variable of package errors that errors.As looks at. -/
def ErrVar (w : World) : Prop := w.cell? ⟨0, 0, none⟩ = some (.iface 96 (.agg #[.pointer (some ⟨4, 27, none⟩)]))
theorem ErrVar.grown {w w' : World} (h : ErrVar w) (hg : w.grownBy w' none) : ErrVar w' := hg.cell h (by simp)
/-- The deferred closure of a Code that returns. -/
theorem code_idle (p : Addr) (w : World) : CallsD Tryd.prog 21 #[.pointer (some p)] .returning w fun e u' w' => e = .returned (.tuple #[]) ∧ u' = .returning ∧ w' = w := by
  refine callsD_of_wpS Tryd.func21 rfl fun c₀ cs hu => ?_
  apply wpS_seq
  apply wpS_region
  simp [wpOpsS, go_sem, recoverD, hu, Tryd.ntmps21, Exit.thenS]
  refine wpS_cond (t := false) (by simp [Act.eval, Array.replicate]) ?_
  simp only [Bool.false_eq_true, if_false]
  refine wpS_of_wp (wp_skip ?_)
  cases c₀
  simp_all [bodyPostS, results, Tryd.results21]
set_option maxHeartbeats 4000000 in
theorem code_any {l : List (ByteArray × ByteArray)} {e : Value} (k : Int) (w : World) (h : Fchain w l k e) (hl : l.length ≤ 1000) (hg : ErrVar w) :
    Calls Tryd.prog 11 #[e] w fun ev w' => ev = .returned (.int .i64 k) ∧ w.grownBy w' none := by
  have hmf : ∀ (fn : Fn) (first cap : Array Value) (w : World), (Instr.makeFunc fn first cap).run Tryd.prog w = .ok (.func fn first cap) w := fun _ _ _ _ => rfl
  have H := Lib.hid h
  have HG := Lib.hid hg
  clear h hg
  go_enter_defers Tryd.func11, Tryd.ntmps11
  go_wp2_with fail
  obtain ⟨W1, hW1⟩ : ∃ W1, (w.alloc (.cells #[.int .i64 0] 25)).alloc (.cells #[.int .i64 0] 25) = W1 := ⟨_, rfl⟩
  have ga : w.grownBy (w.alloc (.cells #[.int .i64 0] 25)) none := World.grownBy_alloc _ _ _
  have gb : (w.alloc (.cells #[.int .i64 0] 25)).grownBy W1 none := by rw [← hW1]; exact World.grownBy_alloc _ _ _
  have b0 : W1.heap[w.heap.size]? = some (.cells #[.int .i64 0] 25 (0, 0)) := bk_kept (bk_alloc _ _) gb
  have b1 : W1.heap[w.heap.size + 1]? = some (.cells #[.int .i64 0] 25 (0, 0)) := by
    rw [← hW1, ← alloc_size w (.cells #[.int .i64 0] 25)]
    exact bk_alloc _ _
  have g1 := World.grownBy.trans ga gb
  rw [hW1]
  clear hW1 ga gb
  have G1 := Lib.hid g1
  have B0 := Lib.hid b0
  have B1 := Lib.hid b1
  have H1 := Lib.hid (H.out.grown g1)
  clear g1 b0 b1 H
  (with_reducible refine (ends_any l.length W1 H1.out rfl hl).mono ?_)
  rintro ee w2 ⟨rfl, g2⟩
  dsimp only
  have G2 := Lib.hid (World.grownBy.trans G1.out g2)
  have C0 := Lib.hid (bk_kept B0.out g2)
  have HA := Lib.hid (as_chain (w.heap.size + 1) l.length (.int .i64 0) k l e w2 (H1.out.grown g2) rfl (bk_kept B1.out g2) (HG.out.grown G2.out))
  have C1 := Lib.hid (bk_kept B1.out g2)
  clear g2
  go_wp2_with fail
  (with_reducible refine HA.out.mono ?_)
  rintro ee w3 ⟨rfl, w4, g4, rfl⟩
  dsimp only
  have D1 := bk_set (bk_kept C1.out g4) 0 (.int .i64 k)
  have D0 := ((bk_set_grown w4 (w.heap.size + 1) 0 (.int .i64 k)).block w.heap.size (bk_size (bk_kept C0.out g4)) (by simp)).trans (bk_kept C0.out g4)
  have G4 := Lib.hid (bk_grown_set (World.grownBy.trans G2.out g4) (show w.heap.size ≤ w.heap.size + 1 by omega) 0 (.int .i64 k))
  obtain ⟨W4, hW4⟩ : ∃ W4, w4.setCell ⟨w.heap.size + 1, 0, none⟩ (.int .i64 k) = W4 := ⟨_, rfl⟩
  rw [hW4] at D1 D0 G4 ⊢
  obtain ⟨c1, _⟩ := bk_cell D1 0 (.int .i64 k) rfl
  obtain ⟨c0, f0⟩ := bk_cell D0 0 (.int .i64 0) rfl
  obtain ⟨c5, _⟩ := bk_cell (bk_set D0 0 (.int .i64 k)) 0 (.int .i64 k) rfl
  have g5 := bk_grown_set G4.out (Nat.le_refl w.heap.size) 0 (.int .i64 k)
  have G5 := Lib.hid g5
  clear hW4 D1 D0 g4 g5
  go_wp2
  refine leaves_cons (f := 21) (args := #[.pointer (some ⟨w.heap.size, 0, none⟩)]) (by simp) (by simp [go_sem]) ?_
  refine (code_idle ⟨w.heap.size, 0, none⟩ _).mono ?_
  rintro e u' w'' ⟨rfl, rfl, rfl⟩
  have g5 := G5.out
  simp [Leaves, settle, results, Tryd.results11, go_sem, c5, g5]
end Go.Proofs.YtmjfeiddllagcaaDoor
