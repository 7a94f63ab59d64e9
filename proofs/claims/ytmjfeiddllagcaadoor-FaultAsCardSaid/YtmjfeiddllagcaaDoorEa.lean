/- Errors that say where they came from: a chain of faults over a number; what fault.nothing, Wrap, Unwrap, below say of one. -/
import Derived.Test.YtmjfeiddllagcaaDoorBk
import Derived.Stop.Asserts
import Derived.LaidEql
import Derived.Lib.IfaceEq
namespace Go.Proofs.YtmjfeiddllagcaaDoor
open Go.RowKit

set_option maxRecDepth 1000000
/-- An error: faults with these operations and names, outermost first, over the number k. -/
inductive Fchain (w : World) : List (ByteArray × ByteArray) → Int → Value → Prop where
  | num (k : Int) : Fchain w [] k (.iface 25 (.int .i64 k))
  | fault (b : Nat) (op name : ByteArray) (l : List (ByteArray × ByteArray)) (k : Int) (e : Value) (h : w.heap[b]? = some (.cells #[.string op, .string name, e] 43 (0, 0))) (r : Fchain w l k e) : Fchain w ((op, name) :: l) k (.iface 39 (.pointer (some ⟨b, 0, none⟩)))
theorem Fchain.under {w w' : World} {base : Nat} {l : List (ByteArray × ByteArray)} {k : Int} {e : Value} (h : Fchain w l k e) (hg : Below base w w') (hb : w.heap.size ≤ base) : Fchain w' l k e := by
  induction h with
  | num k => exact .num k
  | fault b op name l k e h r ih => exact .fault b op name l k e ((hg.block b (Nat.lt_of_lt_of_le (bk_size h) hb)).trans h) ih
theorem Fchain.grown {w w' : World} {l : List (ByteArray × ByteArray)} {k : Int} {e : Value} (h : Fchain w l k e) (hg : w.grownBy w' none) : Fchain w' l k e := by
  induction h with
  | num k => exact .num k
  | fault b op name l k e h r ih => exact .fault b op name l k e (bk_kept h hg) ih
theorem Fchain.shape {w : World} {l : List (ByteArray × ByteArray)} {k : Int} {e : Value} (h : Fchain w l k e) : ∃ t v, e = .iface t v := by
  cases h with
  | num k => exact ⟨_, _, rfl⟩
  | fault b op name l k e h r => exact ⟨_, _, rfl⟩
theorem nothing_nil (w : World) : Calls Tryd.prog 20 #[.nilIface] w fun e w' => e = .returned (.bool true) ∧ w' = w := by
  go_enter Tryd.func20, Tryd.ntmps20
  go_wp2
  go_ret
  exact ⟨rfl, rfl⟩
theorem nothing_num (k : Int) (w : World) : Calls Tryd.prog 20 #[.iface 25 (.int .i64 k)] w fun e w' => e = .returned (.bool (k == 0)) ∧ w' = w := by
  have he : ∀ W : World, (binOp .eql 27 (.iface 25 (.int .i64 k)) (.iface 25 (.int .i64 0))).run Tryd.prog W = .ok (.bool (k == 0)) W := fun W => Lib.run_eql_iface_int W k 0 Tryd.underlying27 (by kernel_rfl) Tryd.underlying25
  go_enter Tryd.func20, Tryd.ntmps20
  go_wp2
  go_ret
  exact ⟨rfl, rfl⟩
theorem nothing_fault (v : Value) (w : World) : Calls Tryd.prog 20 #[.iface 39 v] w fun e w' => e = .returned (.bool false) ∧ w' = w := by
  have he : ∀ W : World, (binOp .eql 27 (.iface 39 v) (.iface 25 (.int .i64 0))).run Tryd.prog W = .ok (.bool false) W := fun W => run_eql_iface_types 39 25 v (.int .i64 0) Tryd.underlying27 (by decide) W
  go_enter Tryd.func20, Tryd.ntmps20
  go_wp2
  go_ret
  exact ⟨rfl, rfl⟩
/-- A chain over a number that isn't 0 is some error. -/
theorem nothing_chain {w : World} {l : List (ByteArray × ByteArray)} {k : Int} {e : Value} (h : Fchain w l k e) (hk : k ≠ 0) : Calls Tryd.prog 20 #[e] w fun ev w' => ev = .returned (.bool false) ∧ w' = w := by
  cases h with
  | num k => exact (nothing_num k w).mono fun ev w' ⟨h1, h2⟩ => ⟨by rw [h1]; simp [hk], h2⟩
  | fault b op name l k e h r => exact nothing_fault _ w
set_option maxHeartbeats 1000000 in
theorem wrap_some (op name : ByteArray) {w : World} {l : List (ByteArray × ByteArray)} {k : Int} {e : Value} (h : Fchain w l k e) (hk : k ≠ 0) :
    Calls Tryd.prog 10 #[.string op, .string name, e] w fun ev w' => ∃ v, ev = .returned v ∧ Fchain w' ((op, name) :: l) k v ∧ w.grownBy w' none := by
  have HN := Lib.hid (nothing_chain h hk)
  have H := Lib.hid h
  obtain ⟨t, v, rfl⟩ := h.shape
  clear h
  go_enter Tryd.func10, Tryd.ntmps10
  go_wp2_with ((with_reducible refine HN.out.mono ?_); rintro ee w1 ⟨rfl, rfl⟩; dsimp only)
  go_ret
  exact ⟨_, rfl, .fault _ op name l k _ (bk_alloc _ _) (H.out.grown (World.grownBy_alloc _ _ none)), World.grownBy_alloc _ _ none⟩
theorem wrap_nil (op name : ByteArray) (w : World) : Calls Tryd.prog 10 #[.string op, .string name, .nilIface] w fun ev w' => ev = .returned .nilIface ∧ w' = w := by
  have HN := Lib.hid (nothing_nil w)
  go_enter Tryd.func10, Tryd.ntmps10
  go_wp2_with ((with_reducible refine HN.out.mono ?_); rintro ee w1 ⟨rfl, rfl⟩; dsimp only)
  go_ret
  exact ⟨rfl, rfl⟩
theorem unwrap_any (b : Nat) (op name : ByteArray) (e : Value) (w : World) (h : w.heap[b]? = some (.cells #[.string op, .string name, e] 43 (0, 0))) :
    Calls Tryd.prog 18 #[.pointer (some ⟨b, 0, none⟩)] w fun ev w' => ev = .returned e ∧ w' = w := by
  obtain ⟨c2, _⟩ := bk_cell h 2 e rfl
  clear h
  go_enter Tryd.func18, Tryd.ntmps18
  go_wp2
  go_ret
  exact ⟨rfl, rfl⟩
theorem below_num (k : Int) (w : World) : Calls Tryd.prog 33 #[.iface 25 (.int .i64 k)] w fun ev w' => ev = .returned (.slice none 0 0) ∧ w' = w := by
  have h1 : ∀ (v : Value) (xT : TypeId) (w : World), (Instr.typeAssert (.iface 25 v) xT 92 true).run Tryd.prog w = .ok (.tuple #[.nilIface, .bool false]) w := fun v xT w => run_typeAssert_lacksB Tryd.underlying92 (by kernel_rfl) (by kernel_rfl) v xT w
  have h2 : ∀ (v : Value) (xT : TypeId) (w : World), (Instr.typeAssert (.iface 25 v) xT 93 true).run Tryd.prog w = .ok (.tuple #[.nilIface, .bool false]) w := fun v xT w => run_typeAssert_lacksB Tryd.underlying93 (by kernel_rfl) (by kernel_rfl) v xT w
  go_enter Tryd.func33, Tryd.ntmps33
  go_wp2
  go_ret
  exact ⟨rfl, rfl⟩
set_option maxHeartbeats 1000000 in
theorem below_fault (b : Nat) (op name : ByteArray) (t : TypeId) (v : Value) (w : World) (h : w.heap[b]? = some (.cells #[.string op, .string name, .iface t v] 43 (0, 0))) :
    Calls Tryd.prog 33 #[.iface 39 (.pointer (some ⟨b, 0, none⟩))] w fun ev w' => ev = .returned (.slice (some ⟨w.heap.size, 0, none⟩) 1 1) ∧ w' = w.alloc (.cells #[.iface t v] 27) := by
  have h1 : ∀ (v : Value) (xT : TypeId) (w : World), (Instr.typeAssert (.iface 39 v) xT 92 true).run Tryd.prog w = .ok (.tuple #[.iface 39 v, .bool true]) w := fun v xT w => run_typeAssert_hasB Tryd.underlying92 (by kernel_rfl) v xT w
  have hm : ∀ (v : Value) (w : World), (Go.method 251 39 v "Unwrap").run Tryd.prog w = .ok (18, v) w := fun v w => by kernel_rfl
  have HU := Lib.hid (unwrap_any b op name (.iface t v) w h)
  have he : ∀ W : World, (binOp .neq 27 (.iface t v) .nilIface).run Tryd.prog W = .ok (.bool true) W := fun W => by kernel_rfl
  clear h
  go_enter Tryd.func33, Tryd.ntmps33
  go_wp2_with ((with_reducible refine HU.out.mono ?_); rintro ee w1 ⟨rfl, rfl⟩; dsimp only)
  go_ret
  exact ⟨rfl, rfl⟩
end Go.Proofs.YtmjfeiddllagcaaDoor
