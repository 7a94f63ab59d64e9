/- errors.As at a target of the kind **fault.Fault: an error that is a fault itself is laid there; one that is a number isn't. -/
import Derived.Test.YtmjfeiddllagcaaDoorEn
import Derived.Test.YtmjfeiddllagcaaDoorEg
namespace Go.Proofs.YtmjfeiddllagcaaDoor
open Go.RowKit Go.Extern.Stop Go.Stop Go.Extern

set_option maxRecDepth 1000000
/-- What errors.As leaves behind that found a fault. -/
def AfRet (w : World) (t : Nat) (b : Addr) (e : Ending) (w' : World) : Prop := e = .returned (.bool true) ∧ ∃ w1 : World, w.grownBy w1 none ∧ w' = w1.setCell ⟨t, 0, none⟩ (.pointer (some b))
set_option maxHeartbeats 8000000 in
theorem af_in (t vb : Nat) (old : Value) (b : Addr) (w : World) (hv : w.heap[vb]? = some (.cells #[.pointer (some ⟨t, 0, none⟩)] 64 (0, 0))) (ht : w.heap[t]? = some (.cells #[old] 39 (0, 0))) :
    Calls Tryd.prog 37 #[.iface 39 (.pointer (some b)), .iface 64 (.pointer (some ⟨t, 0, none⟩)), .agg #[.pointer (some ⟨4, 64, none⟩), .pointer (some ⟨vb, 0, none⟩), .int .u64 150], .iface 96 (.agg #[.pointer (some ⟨4, 39, none⟩)])] w (AfRet w t b) := by
  have hVO := @run_callFunc_extern Tryd.prog 34 _ (fun args => ReflectliteValue.unpack (args.getD 0 (.tuple #[]))) Tryd.func34 (by kernel_rfl) (by kernel_rfl) (by kernel_rfl) (by kernel_rfl)
  have hTO := @run_callFunc_extern Tryd.prog 38 _ ReflectliteType.typeOf Tryd.func38 (by kernel_rfl) (by kernel_rfl) (by kernel_rfl) (by kernel_rfl)
  have hAT := @run_callFunc_extern Tryd.prog 86 _ (ReflectliteType.relation "AssignableTo" ReflectliteType.assignableTo) Tryd.func86 (by kernel_rfl) (by kernel_rfl) (by kernel_rfl) (by kernel_rfl)
  have hEL := @run_callFunc_extern Tryd.prog 42 _ (ReflectliteValue.method (ReflectliteValue.valueError "reflectlite.Value.Elem" 0) ReflectliteValue.elem) Tryd.func42 (by kernel_rfl) (by kernel_rfl) (by kernel_rfl) (by kernel_rfl)
  have hSE := @run_callFunc_extern Tryd.prog 43 _ ReflectliteValue.set Tryd.func43 (by kernel_rfl) (by kernel_rfl) (by kernel_rfl) (by kernel_rfl)
  have mA := ef_methodAssignableTo
  have tT := ef_typeOfT
  have tF := ef_typeOfF
  have aT := ef_assignableT
  have aF := ef_assignableF
  have vT := ef_valueOfT
  go_enter Tryd.func37, Tryd.ntmps37
  go_wp2_with fail
  obtain ⟨W0, hW0⟩ : ∃ W0, w.alloc (.cells #[.pointer (some ⟨4, 64, none⟩), .pointer (some ⟨vb, 0, none⟩), .int .u64 150] 77) = W0 := ⟨_, rfl⟩
  have g0 : w.grownBy W0 none := by rw [← hW0]; exact World.grownBy_alloc _ _ _
  have bX : W0.heap[w.heap.size]? = some (.cells #[.pointer (some ⟨4, 64, none⟩), .pointer (some ⟨vb, 0, none⟩), .int .u64 150] 77 (0, 0)) := by rw [← hW0]; exact bk_alloc _ _
  rw [hW0]
  clear hW0
  obtain ⟨x0, _⟩ := bk_cell bX 0 _ rfl
  obtain ⟨x1, _⟩ := bk_cell bX 1 _ rfl
  obtain ⟨x2, _⟩ := bk_cell bX 2 _ rfl
  have el := ef_elemVP ⟨vb, 0, none⟩ ⟨t, 0, none⟩ W0 (bk_cell (bk_kept hv g0) 0 _ rfl).1
  have ga : W0.grownBy (W0.alloc (.cells #[.pointer (some b)] 39)) none := World.grownBy_alloc _ _ _
  obtain ⟨ct, ft⟩ := bk_cell (bk_kept (bk_kept ht g0) ga) 0 old rfl
  have st := ef_setT ⟨t, 0, none⟩ ⟨W0.heap.size, 0, none⟩ b old (W0.alloc (.cells #[.pointer (some b)] 39)) (bk_cell (bk_alloc _ _) 0 _ rfl).1 ct ft
  have GA := Lib.hid (World.grownBy.trans g0 ga)
  clear ga ct ft g0 bX hv ht
  refine wp_loop_rounds 1 ?_
  rw [rounds_succ]
  go_wp2
  go_ret
  exact ⟨rfl, _, GA.out, rfl⟩
set_option maxHeartbeats 8000000 in
theorem an_in (t vb : Nat) (k : Int) (w : World) :
    Calls Tryd.prog 37 #[.iface 25 (.int .i64 k), .iface 64 (.pointer (some ⟨t, 0, none⟩)), .agg #[.pointer (some ⟨4, 64, none⟩), .pointer (some ⟨vb, 0, none⟩), .int .u64 150], .iface 96 (.agg #[.pointer (some ⟨4, 39, none⟩)])] w fun e w' => e = .returned (.bool false) ∧ w.grownBy w' none := by
  have hVO := @run_callFunc_extern Tryd.prog 34 _ (fun args => ReflectliteValue.unpack (args.getD 0 (.tuple #[]))) Tryd.func34 (by kernel_rfl) (by kernel_rfl) (by kernel_rfl) (by kernel_rfl)
  have hTO := @run_callFunc_extern Tryd.prog 38 _ ReflectliteType.typeOf Tryd.func38 (by kernel_rfl) (by kernel_rfl) (by kernel_rfl) (by kernel_rfl)
  have hAT := @run_callFunc_extern Tryd.prog 86 _ (ReflectliteType.relation "AssignableTo" ReflectliteType.assignableTo) Tryd.func86 (by kernel_rfl) (by kernel_rfl) (by kernel_rfl) (by kernel_rfl)
  have hEL := @run_callFunc_extern Tryd.prog 42 _ (ReflectliteValue.method (ReflectliteValue.valueError "reflectlite.Value.Elem" 0) ReflectliteValue.elem) Tryd.func42 (by kernel_rfl) (by kernel_rfl) (by kernel_rfl) (by kernel_rfl)
  have hSE := @run_callFunc_extern Tryd.prog 43 _ ReflectliteValue.set Tryd.func43 (by kernel_rfl) (by kernel_rfl) (by kernel_rfl) (by kernel_rfl)
  have mA := ef_methodAssignableTo
  have tT := ef_typeOfT
  have tF := ef_typeOfF
  have aT := ef_assignableT
  have aF := ef_assignableF
  have vT := ef_valueOfT
  have hA : ∀ (v : Value) (xT : TypeId) (w : World), (Instr.typeAssert (.iface 25 v) xT 100 true).run Tryd.prog w = .ok (.tuple #[.nilIface, .bool false]) w := fun v xT w => run_typeAssert_lacksB Tryd.underlying100 (by kernel_rfl) (by kernel_rfl) v xT w
  have h1 : ∀ (v : Value) (xT : TypeId) (w : World), (Instr.typeAssert (.iface 25 v) xT 92 true).run Tryd.prog w = .ok (.tuple #[.nilIface, .bool false]) w := fun v xT w => run_typeAssert_lacksB Tryd.underlying92 (by kernel_rfl) (by kernel_rfl) v xT w
  have h2 : ∀ (v : Value) (xT : TypeId) (w : World), (Instr.typeAssert (.iface 25 v) xT 93 true).run Tryd.prog w = .ok (.tuple #[.nilIface, .bool false]) w := fun v xT w => run_typeAssert_lacksB Tryd.underlying93 (by kernel_rfl) (by kernel_rfl) v xT w
  go_enter Tryd.func37, Tryd.ntmps37
  go_wp2_with fail
  obtain ⟨W0, hW0⟩ : ∃ W0, w.alloc (.cells #[.pointer (some ⟨4, 64, none⟩), .pointer (some ⟨vb, 0, none⟩), .int .u64 150] 77) = W0 := ⟨_, rfl⟩
  have g0 : w.grownBy W0 none := by rw [← hW0]; exact World.grownBy_alloc _ _ _
  have bX : W0.heap[w.heap.size]? = some (.cells #[.pointer (some ⟨4, 64, none⟩), .pointer (some ⟨vb, 0, none⟩), .int .u64 150] 77 (0, 0)) := by rw [← hW0]; exact bk_alloc _ _
  rw [hW0]
  clear hW0
  obtain ⟨x0, _⟩ := bk_cell bX 0 _ rfl
  obtain ⟨x1, _⟩ := bk_cell bX 1 _ rfl
  obtain ⟨x2, _⟩ := bk_cell bX 2 _ rfl
  have G0 := Lib.hid g0
  clear g0 bX
  refine wp_loop_rounds 1 ?_
  rw [rounds_succ]
  go_wp2
  go_ret
  exact ⟨rfl, G0.out⟩
set_option maxHeartbeats 8000000 in
theorem af_any (t : Nat) (old : Value) (b : Addr) (w : World) (ht : w.heap[t]? = some (.cells #[old] 39 (0, 0))) (hg : ErrVar w) :
    Calls Tryd.prog 23 #[.iface 39 (.pointer (some b)), .iface 64 (.pointer (some ⟨t, 0, none⟩))] w (AfRet w t b) := by
  have hg : w.cell? ⟨0, 0, none⟩ = some (.iface 96 (.agg #[.pointer (some ⟨4, 27, none⟩)])) := hg
  have hVO := @run_callFunc_extern Tryd.prog 34 _ (fun args => ReflectliteValue.unpack (args.getD 0 (.tuple #[]))) Tryd.func34 (by kernel_rfl) (by kernel_rfl) (by kernel_rfl) (by kernel_rfl)
  have hVT := @run_callFunc_extern Tryd.prog 35 _ (ReflectliteValue.methodAny (ReflectliteValue.valueError "reflectlite.Value.Type" 0) (fun t _ _ _ => ReflectliteType.toType t)) Tryd.func35 (by kernel_rfl) (by kernel_rfl) (by kernel_rfl) (by kernel_rfl)
  have hIN := @run_callFunc_extern Tryd.prog 36 _ (ReflectliteValue.method (ReflectliteValue.valueError "reflectlite.Value.IsNil" 0) ReflectliteValue.isNil) Tryd.func36 (by kernel_rfl) (by kernel_rfl) (by kernel_rfl) (by kernel_rfl)
  have hKI := @run_callFunc_extern Tryd.prog 60 _ (ReflectliteType.abiMethod fun t => do pure (.int .u8 (← Rtype.kind t))) Tryd.func60 (by kernel_rfl) (by kernel_rfl) (by kernel_rfl) (by kernel_rfl)
  have hRE := @run_callFunc_extern Tryd.prog 88 _ (ReflectliteType.method ReflectliteType.elem) Tryd.func88 (by kernel_rfl) (by kernel_rfl) (by kernel_rfl) (by kernel_rfl)
  have hIM := @run_callFunc_extern Tryd.prog 89 _ (ReflectliteType.relation "Implements" ReflectliteType.implements_) Tryd.func89 (by kernel_rfl) (by kernel_rfl) (by kernel_rfl) (by kernel_rfl)
  have vP := ef_valueOfP
  have tP := ef_typeP
  have mK := ef_methodKind
  have mE := ef_methodElem
  have mI := ef_methodImplements
  have kP := ef_kindP
  have kT := ef_kindT
  have eP := ef_elemP
  have iT := ef_implementsT
  obtain ⟨W1, hW1⟩ : ∃ W1, w.alloc (.cells #[.pointer (some ⟨t, 0, none⟩)] 64) = W1 := ⟨_, rfl⟩
  have g1 : w.grownBy W1 none := by rw [← hW1]; exact World.grownBy_alloc _ _ _
  have b1 : W1.heap[w.heap.size]? = some (.cells #[.pointer (some ⟨t, 0, none⟩)] 64 (0, 0)) := by rw [← hW1]; exact bk_alloc _ _
  obtain ⟨W2, hW2⟩ : ∃ W2, W1.alloc (.cells #[.pointer (some ⟨4, 64, none⟩), .pointer (some ⟨w.heap.size, 0, none⟩), .int .u64 150] 77) = W2 := ⟨_, rfl⟩
  have g2 : W1.grownBy W2 none := by rw [← hW2]; exact World.grownBy_alloc _ _ _
  have b2 : W2.heap[W1.heap.size]? = some (.cells #[.pointer (some ⟨4, 64, none⟩), .pointer (some ⟨w.heap.size, 0, none⟩), .int .u64 150] 77 (0, 0)) := by rw [← hW2]; exact bk_alloc _ _
  have nP := ef_isNilP ⟨w.heap.size, 0, none⟩ ⟨t, 0, none⟩ W2 (bk_cell (bk_kept b1 g2) 0 _ rfl).1
  have G2 := Lib.hid (World.grownBy.trans g1 g2)
  have hg2 := G2.out.cell hg (by simp)
  have HIN := Lib.hid (af_in t w.heap.size old b W2 (bk_kept b1 g2) (bk_kept ht G2.out))
  obtain ⟨x0, _⟩ := bk_cell b2 0 _ rfl
  obtain ⟨x1, _⟩ := bk_cell b2 1 _ rfl
  obtain ⟨x2, _⟩ := bk_cell b2 2 _ rfl
  clear hg b1 b2 g1 g2
  go_enter Tryd.func23, Tryd.ntmps23
  go_wp2_with fail
  (with_reducible refine HIN.out.mono ?_)
  rintro ee w3 ⟨rfl, w1, hw1, rfl⟩
  dsimp only
  go_wp2
  go_ret
  exact ⟨rfl, w1, World.grownBy.trans G2.out hw1, rfl⟩
set_option maxHeartbeats 8000000 in
theorem an_any (t : Nat) (k : Int) (w : World)  (hg : ErrVar w) :
    Calls Tryd.prog 23 #[.iface 25 (.int .i64 k), .iface 64 (.pointer (some ⟨t, 0, none⟩))] w fun e w' => e = .returned (.bool false) ∧ w.grownBy w' none := by
  have hg : w.cell? ⟨0, 0, none⟩ = some (.iface 96 (.agg #[.pointer (some ⟨4, 27, none⟩)])) := hg
  have hVO := @run_callFunc_extern Tryd.prog 34 _ (fun args => ReflectliteValue.unpack (args.getD 0 (.tuple #[]))) Tryd.func34 (by kernel_rfl) (by kernel_rfl) (by kernel_rfl) (by kernel_rfl)
  have hVT := @run_callFunc_extern Tryd.prog 35 _ (ReflectliteValue.methodAny (ReflectliteValue.valueError "reflectlite.Value.Type" 0) (fun t _ _ _ => ReflectliteType.toType t)) Tryd.func35 (by kernel_rfl) (by kernel_rfl) (by kernel_rfl) (by kernel_rfl)
  have hIN := @run_callFunc_extern Tryd.prog 36 _ (ReflectliteValue.method (ReflectliteValue.valueError "reflectlite.Value.IsNil" 0) ReflectliteValue.isNil) Tryd.func36 (by kernel_rfl) (by kernel_rfl) (by kernel_rfl) (by kernel_rfl)
  have hKI := @run_callFunc_extern Tryd.prog 60 _ (ReflectliteType.abiMethod fun t => do pure (.int .u8 (← Rtype.kind t))) Tryd.func60 (by kernel_rfl) (by kernel_rfl) (by kernel_rfl) (by kernel_rfl)
  have hRE := @run_callFunc_extern Tryd.prog 88 _ (ReflectliteType.method ReflectliteType.elem) Tryd.func88 (by kernel_rfl) (by kernel_rfl) (by kernel_rfl) (by kernel_rfl)
  have hIM := @run_callFunc_extern Tryd.prog 89 _ (ReflectliteType.relation "Implements" ReflectliteType.implements_) Tryd.func89 (by kernel_rfl) (by kernel_rfl) (by kernel_rfl) (by kernel_rfl)
  have vP := ef_valueOfP
  have tP := ef_typeP
  have mK := ef_methodKind
  have mE := ef_methodElem
  have mI := ef_methodImplements
  have kP := ef_kindP
  have kT := ef_kindT
  have eP := ef_elemP
  have iT := ef_implementsT
  obtain ⟨W1, hW1⟩ : ∃ W1, w.alloc (.cells #[.pointer (some ⟨t, 0, none⟩)] 64) = W1 := ⟨_, rfl⟩
  have g1 : w.grownBy W1 none := by rw [← hW1]; exact World.grownBy_alloc _ _ _
  have b1 : W1.heap[w.heap.size]? = some (.cells #[.pointer (some ⟨t, 0, none⟩)] 64 (0, 0)) := by rw [← hW1]; exact bk_alloc _ _
  obtain ⟨W2, hW2⟩ : ∃ W2, W1.alloc (.cells #[.pointer (some ⟨4, 64, none⟩), .pointer (some ⟨w.heap.size, 0, none⟩), .int .u64 150] 77) = W2 := ⟨_, rfl⟩
  have g2 : W1.grownBy W2 none := by rw [← hW2]; exact World.grownBy_alloc _ _ _
  have b2 : W2.heap[W1.heap.size]? = some (.cells #[.pointer (some ⟨4, 64, none⟩), .pointer (some ⟨w.heap.size, 0, none⟩), .int .u64 150] 77 (0, 0)) := by rw [← hW2]; exact bk_alloc _ _
  have nP := ef_isNilP ⟨w.heap.size, 0, none⟩ ⟨t, 0, none⟩ W2 (bk_cell (bk_kept b1 g2) 0 _ rfl).1
  have G2 := Lib.hid (World.grownBy.trans g1 g2)
  have hg2 := G2.out.cell hg (by simp)
  have HIN := Lib.hid (an_in t w.heap.size k W2)
  obtain ⟨x0, _⟩ := bk_cell b2 0 _ rfl
  obtain ⟨x1, _⟩ := bk_cell b2 1 _ rfl
  obtain ⟨x2, _⟩ := bk_cell b2 2 _ rfl
  clear hg b1 b2 g1 g2
  go_enter Tryd.func23, Tryd.ntmps23
  go_wp2_with fail
  (with_reducible refine HIN.out.mono ?_)
  rintro ee w3 ⟨rfl, hw3⟩
  dsimp only
  go_wp2
  go_ret
  exact ⟨rfl, World.grownBy.trans G2.out hw3⟩
end Go.Proofs.YtmjfeiddllagcaaDoor
