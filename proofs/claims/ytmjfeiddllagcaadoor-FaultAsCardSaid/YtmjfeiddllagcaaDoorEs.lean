/- errors.Is at a number: a chain of faults is its own number, no other. -/
import Derived.Test.YtmjfeiddllagcaaDoorEf
namespace Go.Proofs.YtmjfeiddllagcaaDoor
open Go.RowKit Go.Extern.Stop Go.Stop Go.Extern

set_option maxRecDepth 1000000
theorem er_comparable (w : World) : ((ReflectliteType.method fun t => do Rtype.noPackHeld "Comparable" t; (fun a => Value.bool a.comparable) <$> typeInfo t) #[.agg #[.pointer (some ⟨4, 25, none⟩)]]).run Tryd.prog w = .ok (.bool true) w := by kernel_rfl
theorem er_methodComparable (v : Value) (w : World) : (Go.method 251 96 v "Comparable").run Tryd.prog w = .ok (87, v) w := by kernel_rfl
set_option maxHeartbeats 8000000 in
theorem is_in (n : Nat) (k c : Int) (l : List (ByteArray × ByteArray)) (e : Value) (w : World) (h : Fchain w l k e) (hl : l.length = n) :
    Calls Tryd.prog 39 #[e, .iface 25 (.int .i64 c), .bool true] w fun ev w' => ev = .returned (.bool (k == c)) ∧ w' = w := by
  have H := Lib.hid h
  have HL := Lib.hid hl
  obtain ⟨tt, vv, rfl⟩ := h.shape
  clear h hl
  go_enter Tryd.func39, Tryd.ntmps39
  go_wp2_with fail
  go_loopg [0] n (fun g err wr => ∃ l' : List (ByteArray × ByteArray), l'.length = g ∧ Fchain w l' k err ∧ wr = w)
  case atStart => exact ⟨l, HL.out, H.out, rfl⟩
  case round =>
    obtain ⟨l', hg, hc, rfl⟩ := hrel
    cases hc with
    | num =>
      have he : ∀ W : World, (binOp .eql 27 (.iface 25 (.int .i64 k)) (.iface 25 (.int .i64 c))).run Tryd.prog W = .ok (.bool (k == c)) W := fun W => Lib.run_eql_iface_int W k c Tryd.underlying27 (by kernel_rfl) Tryd.underlying25
      have hI : ∀ (v : Value) (xT : TypeId) (w : World), (Instr.typeAssert (.iface 25 v) xT 103 true).run Tryd.prog w = .ok (.tuple #[.nilIface, .bool false]) w := fun v xT w => run_typeAssert_lacksB Tryd.underlying103 (by kernel_rfl) (by kernel_rfl) v xT w
      have h1 : ∀ (v : Value) (xT : TypeId) (w : World), (Instr.typeAssert (.iface 25 v) xT 92 true).run Tryd.prog w = .ok (.tuple #[.nilIface, .bool false]) w := fun v xT w => run_typeAssert_lacksB Tryd.underlying92 (by kernel_rfl) (by kernel_rfl) v xT w
      have h2 : ∀ (v : Value) (xT : TypeId) (w : World), (Instr.typeAssert (.iface 25 v) xT 93 true).run Tryd.prog w = .ok (.tuple #[.nilIface, .bool false]) w := fun v xT w => run_typeAssert_lacksB Tryd.underlying93 (by kernel_rfl) (by kernel_rfl) v xT w
      cases hkc : (k == c) with
      | true =>
        rw [hkc] at he
        have HK := Lib.hid hkc
        clear hkc
        go_wp2
        go_ret
        exact ⟨by rw [HK.out]; rfl, rfl⟩
      | false =>
        rw [hkc] at he
        have HK := Lib.hid hkc
        clear hkc
        go_wp2
        go_ret
        exact ⟨by rw [HK.out]; rfl, rfl⟩
    | fault b op name l'' _ e'' hb r =>
      obtain ⟨t2, v2, rfl⟩ := r.shape
      have HU := Lib.hid (unwrap_any b op name (.iface t2 v2) wr hb)
      have HR := Lib.hid r
      have hty : ∀ W : World, (binOp .eql 27 (.iface 39 (.pointer (some ⟨b, 0, none⟩))) (.iface 25 (.int .i64 c))).run Tryd.prog W = .ok (.bool false) W := fun W => run_eql_iface_types 39 25 _ (.int .i64 c) Tryd.underlying27 (by decide) W
      have hI : ∀ (v : Value) (xT : TypeId) (w : World), (Instr.typeAssert (.iface 39 v) xT 103 true).run Tryd.prog w = .ok (.tuple #[.nilIface, .bool false]) w := fun v xT w => run_typeAssert_lacksB Tryd.underlying103 (by kernel_rfl) (by kernel_rfl) v xT w
      have h1 : ∀ (v : Value) (xT : TypeId) (w : World), (Instr.typeAssert (.iface 39 v) xT 92 true).run Tryd.prog w = .ok (.tuple #[.iface 39 v, .bool true]) w := fun v xT w => run_typeAssert_hasB Tryd.underlying92 (by kernel_rfl) v xT w
      have hm : ∀ (v : Value) (w : World), (Go.method 251 39 v "Unwrap").run Tryd.prog w = .ok (18, v) w := fun v w => by kernel_rfl
      have he : ∀ (t : TypeId) (v : Value) (W : World), (binOp .eql 27 (.iface t v) .nilIface).run Tryd.prog W = .ok (.bool false) W := fun t v W => by kernel_rfl
      cases gk with
      | zero => simp at hg
      | succ g =>
        have HG : Hid (l''.length = g) := by show _ = _; simpa using hg
        clear hb r hg
        go_wp2_with ((with_reducible refine HU.out.mono ?_); rintro ee w1 ⟨rfl, rfl⟩; dsimp only)
        go_roundg g
        case measure => omega
        case rel => exact ⟨l'', HG.out, HR.out, rfl⟩
set_option maxHeartbeats 8000000 in
/-- errors.Is at a chain of faults and a number. -/
theorem is_chain (k c : Int) (l : List (ByteArray × ByteArray)) (e : Value) (w : World) (h : Fchain w l k e) :
    Calls Tryd.prog 25 #[e, .iface 25 (.int .i64 c)] w fun ev w' => ev = .returned (.bool (k == c)) ∧ w' = w := by
  have hTO := @run_callFunc_extern Tryd.prog 38 _ ReflectliteType.typeOf Tryd.func38 (by kernel_rfl) (by kernel_rfl) (by kernel_rfl) (by kernel_rfl)
  have hCO := @run_callFunc_extern Tryd.prog 87 _ (ReflectliteType.method fun t => do Rtype.noPackHeld "Comparable" t; pure (.bool (← typeInfo t).comparable)) Tryd.func87 (by kernel_rfl) (by kernel_rfl) (by kernel_rfl) (by kernel_rfl)
  have tT := er_typeOfT
  have cT := er_comparable
  have mR := er_methodComparable
  have HIN := Lib.hid (is_in l.length k c l e w h rfl)
  obtain ⟨tt, vv, rfl⟩ := h.shape
  have he : ∀ (t : TypeId) (v : Value) (W : World), (binOp .eql 27 (.iface t v) .nilIface).run Tryd.prog W = .ok (.bool false) W := fun t v W => by kernel_rfl
  clear h
  go_enter Tryd.func25, Tryd.ntmps25
  go_wp2_with fail
  (with_reducible refine HIN.out.mono ?_)
  rintro ee w3 ⟨rfl, rfl⟩
  dsimp only
  go_wp2
  go_ret
  exact ⟨rfl, rfl⟩
end Go.Proofs.YtmjfeiddllagcaaDoor
