/- fault.way, fault.Ops at a chain of faults: the operations, outermost first. -/
import Derived.Test.YtmjfeiddllagcaaDoorEu
namespace Go.Proofs.YtmjfeiddllagcaaDoor
open Go.RowKit Go.Extern.Stop Go.Stop Go.Extern

set_option maxRecDepth 1000000
/-- What way tells: the texts L, in memory of its own. -/
def WayRet (w0 : World) (L : List ByteArray) (e : Ending) (w' : World) : Prop := ∃ v, e = .returned (.tuple #[v, .bool true]) ∧ OwnsS w' w0.heap.size v L ∧ w0.grownBy w' none
set_option maxHeartbeats 8000000 in
theorem way_any (k : Int) (w0 : World) (l : List (ByteArray × ByteArray)) : ∀ (e v : Value) (L : List ByteArray) (w : World), Fchain w0 l k e → w0.grownBy w none → OwnsS w w0.heap.size v L → L.length + l.length ≤ 1000 →
    Calls Tryd.prog 27 #[v, e] w (WayRet w0 (L ++ l.map (·.1))) := by
  induction l with
  | nil =>
    intro e v L w hc hg ho hl
    cases hc
    have h1 : ∀ (v : Value) (xT : TypeId) (w : World), (Instr.typeAssert (.iface 25 v) xT 25 true).run Tryd.prog w = .ok (.tuple #[v, .bool true]) w := fun v xT w => by kernel_rfl
    have HO := Lib.hid ho
    have HG := Lib.hid hg
    clear ho hg
    go_enter Tryd.func27, Tryd.ntmps27
    go_wp2
    go_ret2
    exact ⟨v, rfl, by simpa using HO.out, HG.out⟩
  | cons p l ih =>
    obtain ⟨op, name⟩ := p
    intro e v L w hc hg ho hl
    cases hc with
    | fault bb _ _ _ _ e' hb r =>
    obtain ⟨t', v', rfl⟩ := r.shape
    have h0 : ∀ (v : Value) (xT : TypeId) (w : World), (Instr.typeAssert (.iface 39 v) xT 25 true).run Tryd.prog w = .ok (.tuple #[.int .i64 0, .bool false]) w := fun v xT w => by kernel_rfl
    have h1 : ∀ (v : Value) (xT : TypeId) (w : World), (Instr.typeAssert (.iface 39 v) xT 39 true).run Tryd.prog w = .ok (.tuple #[v, .bool true]) w := fun v xT w => by kernel_rfl
    obtain ⟨c0, _⟩ := bk_cell (bk_kept hb hg) 0 _ rfl
    have HO := Lib.hid ho
    have HG := Lib.hid hg
    have HB := Lib.hid hb
    have HR := Lib.hid r
    have hL : L.length ≤ 1000 := by omega
    have IH := Lib.hid ih
    clear ho hg hb r ih
    obtain ⟨a0, cp0, e0, _⟩ := HO.out.form
    subst e0
    go_enter Tryd.func27, Tryd.ntmps27
    go_wp2_with (at_builtin; go_must (with_reducible refine app_str (o := ⟨some 26, _, _, _, _, _⟩) rfl _ _ rfl w0.heap.size (w.heap.size + 1) (.slice a0 L.length cp0) _ L [op] ?_ (HO.out.alloc _) ?_ (part_str w _ 9) ?_ ?_ ?_); go_must (exact rfl); go_must (exact rfl); go_must ((simp; omega)); go_must ((have := HG.out.size; rw [alloc_size]; omega)); (intro v2 w2 ho2 hg2); have HO2 := Lib.hid ho2; have HG2 := Lib.hid (HO.out.alloc (.cells #[.string op] 9) |>.grown (World.grownBy.trans HG.out (World.grownBy_alloc _ _ _)) hg2); clear ho2 hg2)
    (with_reducible refine (below_fault bb op name t' v' w2 (bk_kept HB.out HG2.out)).mono ?_)
    rintro ee w3 ⟨rfl, rfl⟩
    dsimp only
    obtain ⟨W3, hW3⟩ : ∃ W3, w2.alloc (.cells #[.iface t' v'] 27) = W3 := ⟨_, rfl⟩
    have g3 : w2.grownBy W3 none := by rw [← hW3]; exact World.grownBy_alloc _ _ _
    obtain ⟨c3, _⟩ := bk_cell (show W3.heap[w2.heap.size]? = some (.cells #[.iface t' v'] 27 (0, 0)) by rw [← hW3]; exact bk_alloc _ _) 0 _ rfl
    have HIH := Lib.hid (IH.out (.iface t' v') v2 (L ++ [op]) W3 HR.out (World.grownBy.trans HG2.out g3) (HO2.out.stays g3) (by simp at hl ⊢; omega))
    rw [hW3]
    clear hW3 g3 c0
    go_wp2_with fail
    refine wp_loop_rounds 1 ?_
    rw [rounds_succ]
    go_wp2_with fail
    (with_reducible refine HIH.out.mono ?_)
    rintro ee w4 ⟨v4, rfl, ho4, hg4⟩
    dsimp only
    have HO4 := Lib.hid ho4
    have HG4 := Lib.hid hg4
    clear ho4 hg4 HIH
    go_wp2
    go_ret2
    refine ⟨v4, rfl, ?_, HG4.out⟩
    have := HO4.out
    rw [List.append_assoc] at this
    exact this
set_option maxHeartbeats 1000000 in
theorem ops_idle (p : Addr) (w : World) : CallsD Tryd.prog 26 #[.pointer (some p)] .returning w fun e u' w' => e = .returned (.tuple #[]) ∧ u' = .returning ∧ w' = w := by
  refine callsD_of_wpS Tryd.func26 rfl fun c₀ cs hu => ?_
  apply wpS_seq
  apply wpS_region
  simp [wpOpsS, go_sem, recoverD, hu, Tryd.ntmps26, Exit.thenS]
  refine wpS_cond (t := false) (by simp [Act.eval, Array.replicate]) ?_
  simp only [Bool.false_eq_true, if_false]
  refine wpS_of_wp (wp_skip ?_)
  cases c₀
  simp_all [bodyPostS, results, Tryd.results26]
/-- What Ops tells: the texts L, in memory of its own. -/
def OpsRet (w : World) (L : List ByteArray) (e : Ending) (w' : World) : Prop := ∃ v, e = .returned v ∧ OwnsS w' w.heap.size v L ∧ w.grownBy w' none
set_option maxHeartbeats 4000000 in
theorem ops_any {l : List (ByteArray × ByteArray)} {e : Value} (k : Int) (w : World) (h : Fchain w l k e) (hl : l.length ≤ 1000) :
    Calls Tryd.prog 13 #[e] w (OpsRet w (l.map (·.1))) := by
  have hmf : ∀ (fn : Fn) (first cap : Array Value) (w : World), (Instr.makeFunc fn first cap).run Tryd.prog w = .ok (.func fn first cap) w := fun _ _ _ _ => rfl
  have H := Lib.hid h
  clear h
  go_enter_defers Tryd.func13, Tryd.ntmps13
  go_wp2_with fail
  obtain ⟨W1, hW1⟩ : ∃ W1, w.alloc (.cells #[.slice none 0 0] 29) = W1 := ⟨_, rfl⟩
  have g1 : w.grownBy W1 none := by rw [← hW1]; exact World.grownBy_alloc _ _ _
  have b0 : W1.heap[w.heap.size]? = some (.cells #[.slice none 0 0] 29 (0, 0)) := by rw [← hW1]; exact bk_alloc _ _
  rw [hW1]
  clear hW1
  have G1 := Lib.hid g1
  have B0 := Lib.hid b0
  have H1 := Lib.hid (H.out.grown g1)
  clear g1 b0 H
  (with_reducible refine (ends_any l.length W1 H1.out rfl hl).mono ?_)
  rintro ee w2 ⟨rfl, g2⟩
  dsimp only
  have G2 := Lib.hid (World.grownBy.trans G1.out g2)
  have C0 := Lib.hid (bk_kept B0.out g2)
  have HA := Lib.hid (way_any k w2 l e (.slice none 0 0) [] w2 (H1.out.grown g2) (World.grownBy.refl _ _) (OwnsS.nil _ _) (by simpa using hl))
  clear g2
  go_wp2_with fail
  (with_reducible refine HA.out.mono ?_)
  rintro ee w3 ⟨v3, rfl, ho3, hg3⟩
  rw [List.nil_append] at ho3
  obtain ⟨a3, cp3, e3, _⟩ := ho3.form
  obtain ⟨m3, hm3⟩ : ∃ m3, (l.map (·.1)).length = m3 := ⟨_, rfl⟩
  rw [hm3] at e3
  subst e3
  clear hm3
  dsimp only
  obtain ⟨x0, f0⟩ := bk_cell (bk_kept C0.out hg3) 0 (.slice none 0 0) rfl
  have D0 := bk_set (bk_kept C0.out hg3) 0 (.slice a3 m3 cp3)
  obtain ⟨c5, f5⟩ := bk_cell D0 0 (.slice a3 m3 cp3) rfl
  obtain ⟨c6, f6⟩ := bk_cell (bk_set D0 0 (.slice a3 m3 cp3)) 0 (.slice a3 m3 cp3) rfl
  have G5 := Lib.hid (bk_grown_set (bk_grown_set (World.grownBy.trans G2.out hg3) (Nat.le_refl w.heap.size) 0 (.slice a3 m3 cp3)) (Nat.le_refl w.heap.size) 0 (.slice a3 m3 cp3))
  have hlt := bk_size C0.out
  have hne : (Value.slice a3 m3 cp3).ownBlock ≠ some w.heap.size := fun e => by have := (ho3.block_lt _ e).1; omega
  have O5 := Lib.hid (World.ownsRow.kept (World.ownsRow.kept ho3 (bk_set_grown w3 w.heap.size 0 (.slice a3 m3 cp3)) (.inr hne)) (bk_set_grown _ w.heap.size 0 (.slice a3 m3 cp3)) (.inr hne))
  have GS := Lib.hid G2.out.size
  clear ho3 hg3 D0 hne
  go_wp2
  refine leaves_cons (f := 26) (args := #[.pointer (some ⟨w.heap.size, 0, none⟩)]) (by simp) (by simp [go_sem]) ?_
  refine (ops_idle ⟨w.heap.size, 0, none⟩ _).mono ?_
  rintro e u' w'' ⟨rfl, rfl, rfl⟩
  have g5 := G5.out
  have o5 : OwnsS _ w.heap.size (.slice a3 m3 cp3) (l.map (·.1)) := OwnsS.mono O5.out GS.out
  simp [Leaves, settle, results, Tryd.results13, go_sem, c6]
  exact ⟨_, rfl, o5, g5⟩
end Go.Proofs.YtmjfeiddllagcaaDoor
