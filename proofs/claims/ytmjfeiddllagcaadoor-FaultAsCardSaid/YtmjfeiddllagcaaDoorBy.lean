/- The bytes of a text, laid as a slice: for i, c := range []byte(s). -/
import Derived.Test.YtmjfeiddllagcaaDoorCu
import Derived.Laws.IdiomStrings
namespace Go.Proofs.YtmjfeiddllagcaaDoor
open Go.RowKit

/-- The bytes of s lie in block b. -/
def LieB (w : World) (b : Nat) (s : ByteArray) : Prop := ∀ j, j < s.size → w.cell? ⟨b, j, none⟩ = some (.int .u8 ((byteAt s j).toNat : Int))
theorem LieB.stays {w w' : World} {b : Nat} {s : ByteArray} (h : LieB w b s) (hg : w.grownBy w' none) : LieB w' b s := fun j hj => hg.cell (h j hj) (by simp)
theorem LieB.grown {w w' : World} {b : Nat} {s : ByteArray} {r : Option Nat} (h : LieB w b s) (hg : w.grownBy w' r) (hr : r ≠ some b) : LieB w' b s := fun j hj => hg.cell (h j hj) (fun e => hr e.symm)

theorem conv_bytes {w : World} {ops : Array Oper} {rest : List Oper} {o : Oper} {a : Act} {Q : Exit → Act → World → Prop} (hgd : o.guard = none) (x : Operand)
    (ho : o.op = .convert 9 59 x) (s : ByteArray) (hx : a.eval x = .string s)
    (h : ∀ cap w', LieB w' w.heap.size s → w.grownBy w' none → wpList Tryd.prog ops Q rest (a.put o.dst (.slice (some ⟨w.heap.size, 0, none⟩) s.size cap)) w') : wpList Tryd.prog ops Q (o :: rest) a w := by
  refine wpList_plain hgd fun K hK => ?_
  have hrun := run_bytes_of_string (P := Tryd.prog) w 9 59 5 s Tryd.underlying9 Tryd.underlying59 Tryd.underlying5
  unfold Oper.wp
  simp [execOp, ho, hx, hrun, Result.andThen]
  refine hK _ _ (h _ _ ?_ ?_)
  · intro j hj
    have e : (w.drew.alloc (.cells (bytesRow s (grownCap w s.size 0 5)) 5 ((bytesRow s (grownCap w s.size 0 5)).size, (bytesRow s (grownCap w s.size 0 5)).size + 1))).heap[w.heap.size]? = some (.cells (bytesRow s (grownCap w s.size 0 5)) 5 ((bytesRow s (grownCap w s.size 0 5)).size, (bytesRow s (grownCap w s.size 0 5)).size + 1)) := by
      show (w.heap.push _)[w.heap.size]? = _
      simp
    rw [← World.alloc_eq] at *
    simp only [World.cell?]
    have e2 : (bytesRow s (grownCap w s.size 0 5))[j]? = some (.int .u8 ((byteAt s j).toNat : Int)) := by
      unfold bytesRow
      rw [Array.getElem?_append_left (by simpa using hj), Array.getElem?_map, Array.getElem?_eq_getElem (by simpa using hj), byteAt_eq s j hj]
      rfl
    first
      | (rw [e]; exact e2)
      | (simp [e2])
  · exact ⟨rfl, rfl, rfl, by first | (show w.heap.size ≤ (w.heap.push _).size; simp) | simp, fun k hk _ => by
      first
        | (show (w.heap.push _)[k]? = _; rw [Array.getElem?_push, if_neg (by omega)])
        | simp [Array.getElem?_push, Nat.ne_of_lt hk]⟩
end Go.Proofs.YtmjfeiddllagcaaDoor
