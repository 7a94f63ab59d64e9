/- fault.Text of a chain of faults. -/
import Derived.Test.YtmjfeiddllagcaaDoorEc
import Derived.Defers
import Derived.Recover
namespace Go.Proofs.YtmjfeiddllagcaaDoor
open Go.RowKit Go.Extern.Stop Go.Stop Go.Extern

set_option maxRecDepth 1000000
/-- The deferred closure of a Text that returns: nothing is recovered, nothing turns. -/
theorem text_idle (p : Addr) (w : World) : CallsD Tryd.prog 28 #[.pointer (some p)] .returning w fun e u' w' => e = .returned (.tuple #[]) ∧ u' = .returning ∧ w' = w := by
  refine callsD_of_wpS Tryd.func28 rfl fun c₀ cs hu => ?_
  apply wpS_seq
  apply wpS_region
  simp [wpOpsS, go_sem, recoverD, hu, Tryd.ntmps28, Exit.thenS]
  refine wpS_cond (t := false) (by simp [Act.eval, Array.replicate]) ?_
  simp only [Bool.false_eq_true, if_false]
  refine wpS_of_wp (wp_skip ?_)
  cases c₀
  simp_all [bodyPostS, results, Tryd.results28]
set_option maxHeartbeats 4000000 in
theorem text_any {l : List (ByteArray × ByteArray)} {e : Value} (k : Nat) (w : World) (h : Fchain w l k e) (hl : l.length ≤ 1000) (hk : k < 100) (hs : ∀ p ∈ l, p.1.size ≤ 100 ∧ p.2.size ≤ 100) :
    Calls Tryd.prog 14 #[e] w fun ev w' => ev = .returned (.string (toB (toldL l (errT k)))) ∧ w.grownBy w' none := by
  have hmf : ∀ (fn : Fn) (first cap : Array Value) (w : World), (Instr.makeFunc fn first cap).run Tryd.prog w = .ok (.func fn first cap) w := fun _ _ _ _ => rfl
  have H := Lib.hid h
  have HS := Lib.hid hs
  clear h hs
  go_enter_defers Tryd.func14, Tryd.ntmps14
  go_wp2_with fail
  obtain ⟨W1, hW1⟩ : ∃ W1, w.alloc (.cells #[.string ⟨#[]⟩] 9) = W1 := ⟨_, rfl⟩
  have g1 : w.grownBy W1 none := by rw [← hW1]; exact World.grownBy_alloc _ _ _
  have b1 : W1.heap[w.heap.size]? = some (.cells #[.string ⟨#[]⟩] 9 (0, 0)) := by rw [← hW1]; exact bk_alloc _ _
  rw [hW1]
  clear hW1
  have G1 := Lib.hid g1
  have B1 := Lib.hid b1
  have H1 := Lib.hid (H.out.grown g1)
  clear g1 b1 H
  (with_reducible refine (ends_any l.length W1 H1.out rfl hl).mono ?_)
  rintro ee w2 ⟨rfl, g2⟩
  dsimp only
  have G2 := Lib.hid (World.grownBy.trans G1.out g2)
  have B2 := Lib.hid (bk_kept B1.out g2)
  have H2 := Lib.hid (H1.out.grown g2)
  clear g2
  go_wp2_with fail
  have HI : Hid (Lib.IsBuilder 61 5 w2.heap.size w2.heap.size (Lib.byteCells []) (w2.alloc (.cells #[.pointer none, .slice none 0 0] 61))) := Lib.fresh_isBuilder _ _ w2
  have ga : w2.grownBy (w2.alloc (.cells #[.pointer none, .slice none 0 0] 61)) none := World.grownBy_alloc _ _ _
  have HBS : Hid (w2.heap.size ≤ (w2.alloc (.cells #[.pointer none, .slice none 0 0] 61)).heap.size) := ga.size
  have HBW : Hid (Below w2.heap.size w2 (w2.alloc (.cells #[.pointer none, .slice none 0 0] 61))) := below_grown ga (fun k hk => by cases hk) (Nat.le_refl _)
  clear ga
  (with_reducible refine (tell_any w2.heap.size w2.heap.size k w2 (Nat.le_refl _) hk l e [] _ H2.out HS.out hl (by simp) HBW HI HBS).mono ?_)
  rintro ee w3 ⟨rfl, hI3, hb3⟩
  dsimp only
  have HB3 := Lib.hid (below_trans HBW.out hb3.out)
  have B3 := Lib.hid ((HB3.out.block w.heap.size (bk_size B2.out)).trans B2.out)
  have HS3 : Hid (w2.heap.size ≤ w3.heap.size) := HB3.out.size
  clear hb3 HBW HI HBS
  go_wp2_with fail
  have hI3' := hI3.out
  rw [List.nil_append] at hI3'
  (with_reducible refine (Tryd.Builder_String_any w2.heap.size w2.heap.size _ w3 hI3' HS3.out).mono ?_)
  rintro ee w4 ⟨rfl, hb4⟩
  dsimp only
  have HB4 := Lib.hid (below_trans HB3.out hb4)
  have B4 := Lib.hid ((HB4.out.block w.heap.size (bk_size B2.out)).trans B2.out)
  obtain ⟨c4, f4⟩ := bk_cell B4.out 0 (.string ⟨#[]⟩) rfl
  have B5 := Lib.hid (bk_set B4.out 0 (.string (toB (toldL l (errT k)))))
  have G5 : Hid (w.grownBy (w4.setCell ⟨w.heap.size, 0, none⟩ (.string (toB (toldL l (errT k))))) none) := bk_grown_set (World.grownBy.trans G2.out ⟨HB4.out.os, HB4.out.tape, HB4.out.output, HB4.out.size, fun j hj _ => HB4.out.block j hj⟩) (Nat.le_refl _) 0 _
  obtain ⟨c5, _⟩ := bk_cell B5.out 0 (.string (toB (toldL l (errT k)))) rfl
  clear hb4 hI3 hI3'
  obtain ⟨S, hS⟩ : ∃ S, toB (toldL l (errT k)) = S := ⟨_, rfl⟩
  have hS2 : (⟨(toldL l (errT k)).toArray⟩ : ByteArray) = S := hS
  rw [hS] at B5 G5 c5
  rw [hS2]
  have HSS := Lib.hid hS
  clear hS hS2
  go_wp2
  refine leaves_cons (f := 28) (args := #[.pointer (some ⟨w.heap.size, 0, none⟩)]) (by simp) (by simp [go_sem]) ?_
  refine (text_idle ⟨w.heap.size, 0, none⟩ _).mono ?_
  rintro e u' w'' ⟨rfl, rfl, rfl⟩
  have h5 := HSS.out
  have g5 := G5.out
  simp [Leaves, settle, results, Tryd.results14, go_sem, c5, h5, g5]
end Go.Proofs.YtmjfeiddllagcaaDoor
