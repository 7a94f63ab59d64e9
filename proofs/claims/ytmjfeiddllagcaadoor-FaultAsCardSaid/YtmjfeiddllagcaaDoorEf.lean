/- errors.As at a target *api.Errno, walked: a chain of faults comes to its number. -/
import Derived.Test.YtmjfeiddllagcaaDoorEe
import Derived.Deep.LoopGhost
namespace Go.Proofs.YtmjfeiddllagcaaDoor
open Go.RowKit Go.Extern.Stop Go.Stop Go.Extern

set_option maxRecDepth 1000000
/-- What errors.As leaves behind: the number in the target's cell, new blocks. -/
def AsRet (w : World) (t : Nat) (k : Int) (e : Ending) (w' : World) : Prop := e = .returned (.bool true) ∧ ∃ w1 : World, w.grownBy w1 none ∧ w' = w1.setCell ⟨t, 0, none⟩ (.int .i64 k)
set_option maxHeartbeats 8000000 in
theorem as_in (t vb n : Nat) (old : Value) (k : Int) (l : List (ByteArray × ByteArray)) (e : Value) (w : World) (h : Fchain w l k e) (hl : l.length = n) (hv : w.heap[vb]? = some (.cells #[.pointer (some ⟨t, 0, none⟩)] 54 (0, 0)))
    (ht : w.heap[t]? = some (.cells #[old] 25 (0, 0))) :
    Calls Tryd.prog 37 #[e, .iface 54 (.pointer (some ⟨t, 0, none⟩)), .agg #[.pointer (some ⟨4, 54, none⟩), .pointer (some ⟨vb, 0, none⟩), .int .u64 150], .iface 96 (.agg #[.pointer (some ⟨4, 25, none⟩)])] w (AsRet w t k) := by
  have hVO := @run_callFunc_extern Tryd.prog 34 _ (fun args => ReflectliteValue.unpack (args.getD 0 (.tuple #[]))) Tryd.func34 (by kernel_rfl) (by kernel_rfl) (by kernel_rfl) (by kernel_rfl)
  have hTO := @run_callFunc_extern Tryd.prog 38 _ ReflectliteType.typeOf Tryd.func38 (by kernel_rfl) (by kernel_rfl) (by kernel_rfl) (by kernel_rfl)
  have hAT := @run_callFunc_extern Tryd.prog 86 _ (ReflectliteType.relation "AssignableTo" ReflectliteType.assignableTo) Tryd.func86 (by kernel_rfl) (by kernel_rfl) (by kernel_rfl) (by kernel_rfl)
  have hEL := @run_callFunc_extern Tryd.prog 42 _ (ReflectliteValue.method (ReflectliteValue.valueError "reflectlite.Value.Elem" 0) ReflectliteValue.elem) Tryd.func42 (by kernel_rfl) (by kernel_rfl) (by kernel_rfl) (by kernel_rfl)
  have hSE := @run_callFunc_extern Tryd.prog 43 _ ReflectliteValue.set Tryd.func43 (by kernel_rfl) (by kernel_rfl) (by kernel_rfl) (by kernel_rfl)
  have mA := er_methodAssignableTo
  have tT := er_typeOfT
  have tF := er_typeOfF
  have aT := er_assignableT
  have aF := er_assignableF
  have vT := er_valueOfT
  have H := Lib.hid h
  have HV := Lib.hid hv
  have HT := Lib.hid ht
  obtain ⟨tt, vv, rfl⟩ := h.shape
  clear h hv ht
  go_enter Tryd.func37, Tryd.ntmps37
  go_wp2_with fail
  obtain ⟨W0, hW0⟩ : ∃ W0, w.alloc (.cells #[.pointer (some ⟨4, 54, none⟩), .pointer (some ⟨vb, 0, none⟩), .int .u64 150] 77) = W0 := ⟨_, rfl⟩
  have g0 : w.grownBy W0 none := by rw [← hW0]; exact World.grownBy_alloc _ _ _
  have bX : W0.heap[w.heap.size]? = some (.cells #[.pointer (some ⟨4, 54, none⟩), .pointer (some ⟨vb, 0, none⟩), .int .u64 150] 77 (0, 0)) := by rw [← hW0]; exact bk_alloc _ _
  rw [hW0]
  clear hW0
  have G0 := Lib.hid g0
  have BX := Lib.hid bX
  have H0 := Lib.hid (H.out.grown g0)
  have V0 := Lib.hid (bk_kept HV.out g0)
  have T0 := Lib.hid (bk_kept HT.out g0)
  have HL := Lib.hid hl
  clear g0 bX H HV HT hl
  go_loopg [0] n (fun g err wr => ∃ l' : List (ByteArray × ByteArray), l'.length = g ∧ Fchain W0 l' k err ∧ wr = W0)
  case atStart => exact ⟨l, HL.out, H0.out, rfl⟩
  case round =>
    obtain ⟨l', hg, hc, rfl⟩ := hrel
    cases hc with
    | num =>
      obtain ⟨x0, _⟩ := bk_cell BX.out 0 _ rfl
      obtain ⟨x1, _⟩ := bk_cell BX.out 1 _ rfl
      obtain ⟨x2, _⟩ := bk_cell BX.out 2 _ rfl
      have el := er_elemVP ⟨vb, 0, none⟩ ⟨t, 0, none⟩ wr (bk_cell V0.out 0 _ rfl).1
      have ga : wr.grownBy (wr.alloc (.cells #[.int .i64 k] 25)) none := World.grownBy_alloc _ _ _
      obtain ⟨ct, ft⟩ := bk_cell (bk_kept T0.out ga) 0 old rfl
      have st := er_setT ⟨t, 0, none⟩ ⟨wr.heap.size, 0, none⟩ k old (wr.alloc (.cells #[.int .i64 k] 25)) (bk_cell (bk_alloc _ _) 0 _ rfl).1 ct ft
      have GA := Lib.hid ga
      clear ga ct ft
      go_wp2
      go_ret
      exact ⟨rfl, _, World.grownBy.trans G0.out GA.out, rfl⟩
    | fault b op name l'' _ e'' hb r =>
      obtain ⟨t2, v2, rfl⟩ := r.shape
      have HU := Lib.hid (unwrap_any b op name (.iface t2 v2) wr hb)
      have HR := Lib.hid r
      have hA : ∀ (v : Value) (xT : TypeId) (w : World), (Instr.typeAssert (.iface 39 v) xT 100 true).run Tryd.prog w = .ok (.tuple #[.nilIface, .bool false]) w := fun v xT w => run_typeAssert_lacksB Tryd.underlying100 (by kernel_rfl) (by kernel_rfl) v xT w
      have h1 : ∀ (v : Value) (xT : TypeId) (w : World), (Instr.typeAssert (.iface 39 v) xT 92 true).run Tryd.prog w = .ok (.tuple #[.iface 39 v, .bool true]) w := fun v xT w => run_typeAssert_hasB Tryd.underlying92 (by kernel_rfl) v xT w
      have hm : ∀ (v : Value) (w : World), (Go.method 251 39 v "Unwrap").run Tryd.prog w = .ok (18, v) w := fun v w => by kernel_rfl
      have he : ∀ (t : TypeId) (v : Value) (W : World), (binOp .eql 27 (.iface t v) .nilIface).run Tryd.prog W = .ok (.bool false) W := fun t v W => by kernel_rfl
      cases gk with
      | zero => simp at hg
      | succ g =>
        have HG : Hid (l''.length = g) := by show _ = _; simpa using hg
        clear hb r hg
        go_wp2_with ((with_reducible refine HU.out.mono ?_); rintro ee w1 ⟨rfl, rfl⟩; dsimp only)
        go_roundg g
        case measure => omega
        case rel => exact ⟨l'', HG.out, HR.out, rfl⟩
set_option maxHeartbeats 8000000 in
/-- errors.As at a chain of faults and the address of a number. -/
theorem as_chain (t n : Nat) (old : Value) (k : Int) (l : List (ByteArray × ByteArray)) (e : Value) (w : World) (h : Fchain w l k e) (hl : l.length = n) (ht : w.heap[t]? = some (.cells #[old] 25 (0, 0)))
    (hg : w.cell? ⟨0, 0, none⟩ = some (.iface 96 (.agg #[.pointer (some ⟨4, 27, none⟩)]))) :
    Calls Tryd.prog 23 #[e, .iface 54 (.pointer (some ⟨t, 0, none⟩))] w (AsRet w t k) := by
  have hVO := @run_callFunc_extern Tryd.prog 34 _ (fun args => ReflectliteValue.unpack (args.getD 0 (.tuple #[]))) Tryd.func34 (by kernel_rfl) (by kernel_rfl) (by kernel_rfl) (by kernel_rfl)
  have hVT := @run_callFunc_extern Tryd.prog 35 _ (ReflectliteValue.methodAny (ReflectliteValue.valueError "reflectlite.Value.Type" 0) (fun t _ _ _ => ReflectliteType.toType t)) Tryd.func35 (by kernel_rfl) (by kernel_rfl) (by kernel_rfl) (by kernel_rfl)
  have hIN := @run_callFunc_extern Tryd.prog 36 _ (ReflectliteValue.method (ReflectliteValue.valueError "reflectlite.Value.IsNil" 0) ReflectliteValue.isNil) Tryd.func36 (by kernel_rfl) (by kernel_rfl) (by kernel_rfl) (by kernel_rfl)
  have hKI := @run_callFunc_extern Tryd.prog 60 _ (ReflectliteType.abiMethod fun t => do pure (.int .u8 (← Rtype.kind t))) Tryd.func60 (by kernel_rfl) (by kernel_rfl) (by kernel_rfl) (by kernel_rfl)
  have hRE := @run_callFunc_extern Tryd.prog 88 _ (ReflectliteType.method ReflectliteType.elem) Tryd.func88 (by kernel_rfl) (by kernel_rfl) (by kernel_rfl) (by kernel_rfl)
  have hIM := @run_callFunc_extern Tryd.prog 89 _ (ReflectliteType.relation "Implements" ReflectliteType.implements_) Tryd.func89 (by kernel_rfl) (by kernel_rfl) (by kernel_rfl) (by kernel_rfl)
  have vP := er_valueOfP
  have tP := er_typeP
  have mK := er_methodKind
  have mE := er_methodElem
  have mI := er_methodImplements
  have kP := er_kindP
  have kT := er_kindT
  have eP := er_elemP
  have iT := er_implementsT
  obtain ⟨W1, hW1⟩ : ∃ W1, w.alloc (.cells #[.pointer (some ⟨t, 0, none⟩)] 54) = W1 := ⟨_, rfl⟩
  have g1 : w.grownBy W1 none := by rw [← hW1]; exact World.grownBy_alloc _ _ _
  have b1 : W1.heap[w.heap.size]? = some (.cells #[.pointer (some ⟨t, 0, none⟩)] 54 (0, 0)) := by rw [← hW1]; exact bk_alloc _ _
  obtain ⟨W2, hW2⟩ : ∃ W2, W1.alloc (.cells #[.pointer (some ⟨4, 54, none⟩), .pointer (some ⟨w.heap.size, 0, none⟩), .int .u64 150] 77) = W2 := ⟨_, rfl⟩
  have g2 : W1.grownBy W2 none := by rw [← hW2]; exact World.grownBy_alloc _ _ _
  have b2 : W2.heap[W1.heap.size]? = some (.cells #[.pointer (some ⟨4, 54, none⟩), .pointer (some ⟨w.heap.size, 0, none⟩), .int .u64 150] 77 (0, 0)) := by rw [← hW2]; exact bk_alloc _ _
  have nP := er_isNilP ⟨w.heap.size, 0, none⟩ ⟨t, 0, none⟩ W2 (bk_cell (bk_kept b1 g2) 0 _ rfl).1
  have G2 := Lib.hid (World.grownBy.trans g1 g2)
  have hg2 := G2.out.cell hg (by simp)
  have HIN := Lib.hid (as_in t w.heap.size n old k l e W2 (h.grown G2.out) hl (bk_kept b1 g2) (bk_kept ht G2.out))
  obtain ⟨x0, _⟩ := bk_cell b2 0 _ rfl
  obtain ⟨x1, _⟩ := bk_cell b2 1 _ rfl
  obtain ⟨x2, _⟩ := bk_cell b2 2 _ rfl
  obtain ⟨tt, vv, rfl⟩ := h.shape
  clear h hl ht hg b1 b2 g1 g2
  go_enter Tryd.func23, Tryd.ntmps23
  go_wp2_with fail
  (with_reducible refine HIN.out.mono ?_)
  rintro ee w3 ⟨rfl, w1, hw1, rfl⟩
  dsimp only
  go_wp2
  go_ret
  exact ⟨rfl, w1, World.grownBy.trans G2.out hw1, rfl⟩
end Go.Proofs.YtmjfeiddllagcaaDoor
