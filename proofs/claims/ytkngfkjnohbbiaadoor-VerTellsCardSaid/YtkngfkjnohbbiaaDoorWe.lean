/- VerOrder: the words of cmpV (-1, 0, 1), loads of versions. -/
import Derived.Test.YtkngfkjnohbbiaaDoorWd
namespace Go.Proofs.YtkngfkjnohbbiaaDoor
open Go.RowKit

theorem ci3 (x y : Int) : Lib.compareInt x y = -1 ∨ Lib.compareInt x y = 0 ∨ Lib.compareInt x y = 1 := by
  unfold Lib.compareInt; repeat' split
  all_goals simp
theorem cmpB3 (x y : ByteArray) : cmpB x y = -1 ∨ cmpB x y = 0 ∨ cmpB x y = 1 := by
  rw [cmpB_L]; exact (cmpL_less _ _).2.2
theorem if3 {a b : Int} (ha : a = -1 ∨ a = 0 ∨ a = 1) (hb : b = -1 ∨ b = 0 ∨ b = 1) : (if a = 0 then b else a) = -1 ∨ (if a = 0 then b else a) = 0 ∨ (if a = 0 then b else a) = 1 := by
  split
  · exact hb
  · exact ha
theorem cmpMk3 (x y : ByteArray) : cmpMk x y = -1 ∨ cmpMk x y = 0 ∨ cmpMk x y = 1 := by
  rw [cmpMk_lex]
  exact if3 (ci3 _ _) (if3 (ci3 _ _) (cmpB3 _ _))
theorem scanM3 (x y : List ByteArray) : scanM x y = -1 ∨ scanM x y = 0 ∨ scanM x y = 1 := by
  induction x generalizing y with
  | nil => rw [scanM_nil _ _ (.inl rfl)]; exact ci3 _ _
  | cons a x ih =>
    cases y with
    | nil => rw [scanM_nil _ _ (.inr rfl)]; exact ci3 _ _
    | cons b y => exact if3 (cmpMk3 a b) (ih y)
theorem cmpMs3 (x y : List ByteArray) : cmpMs x y = -1 ∨ cmpMs x y = 0 ∨ cmpMs x y = 1 := by
  rw [cmpMs_lex]; exact if3 (ci3 _ _) (scanM3 _ _)
theorem cmpV3 (u v : Vn) : cmpV u v = -1 ∨ cmpV u v = 0 ∨ cmpV u v = 1 := by
  rw [cmpV_lex]; exact if3 (ci3 _ _) (if3 (ci3 _ _) (if3 (ci3 _ _) (cmpMs3 _ _)))
theorem ver_load {w : World} {r : Nat} {cs : Array Value} (h : w.heap[r]? = some (.cells cs 25 (0, 0))) (hc : cs.size = 4) : (Instr.loadAt 25 (.pointer (some ⟨r, 0, none⟩))).run Tryd.prog w = .ok (.agg cs) w := by
  simp only [Instr.loadAt, Instr.sureAddr, Sem.run_bind, Sem.run_pure, Result.andThen]
  exact run_loadVar_row _ _ 25 25 cs (0, 0) _ h Tryd.underlying25 rfl (by rw [hc]; kernel_rfl)
/-- What is told of the order of three versions. -/
structure Told3 (p q r : Int) : Prop where
  a : p = -1 ∨ p = 0 ∨ p = 1
  b : q = -1 ∨ q = 0 ∨ q = 1
  c : r = -1 ∨ r = 0 ∨ r = 1
  le : p ≤ 0 → q ≤ 0 → r ≤ 0
  lt : p ≤ 0 → q < 0 → r < 0
  ge : 0 ≤ p → 0 ≤ q → 0 ≤ r
theorem told3 (u v w : Vn) : Told3 (cmpV u v) (cmpV v w) (cmpV u w) := by
  have h := cmpV_is
  have a1 := h.anti u v
  have a2 := h.anti v w
  have a3 := h.anti u w
  refine ⟨cmpV3 _ _, cmpV3 _ _, cmpV3 _ _, h.le u v w, h.lt u v w, fun h1 h2 => ?_⟩
  have := h.le w v u (by omega) (by omega)
  omega
end Go.Proofs.YtkngfkjnohbbiaaDoor
