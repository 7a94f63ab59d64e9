/- A sum under way, as it lies in memory; and one block mixed into it. -/
import Derived.Test.YtfpehdldgnfciaaGreatDoorC
import Derived.Laws.AppendOwn
import Derived.Maps.AppendAt
import Derived.OwnWalk
import Derived.Deep.AppendLies
namespace Go.Proofs.YtfpehdldgnfciaaGreatDoor.Sha
open Go.RowKit Go.Sort

/-- The cells of a sum under way. -/
def obj (s : St) (R : Array UInt8) (f n : Nat) : Array Value := (s.row.map encW ++ R.map encB) ++ #[.int .i64 (f : Int), .int .u64 (n : Int)]

theorem row_size (s : St) : s.row.size = 8 := rfl
theorem obj_size (s : St) (R : Array UInt8) (f n : Nat) (hR : R.size = 64) : (obj s R f n).size = 74 := by
  simp [obj, row_size, hR]
theorem obj_row (s : St) (R : Array UInt8) (f n j : Nat) (h : j < 8) : (obj s R f n)[j]? = some (encW s.row[j]!) := by
  unfold obj
  rw [Array.getElem?_append_left (by simp [row_size]; omega), Array.getElem?_append_left (by simp [row_size]; omega), map_at _ _ (by rw [row_size]; exact h)]
theorem obj_rest (s : St) (R : Array UInt8) (f n j : Nat) (hR : R.size = 64) (h : j < 64) : (obj s R f n)[8 + j]? = some (encB R[j]!) := by
  unfold obj
  rw [Array.getElem?_append_left (by simp [row_size, hR]; omega), Array.getElem?_append_right (by simp [row_size])]
  simp only [Array.size_map, row_size, Nat.add_sub_cancel_left, Array.getElem?_map]
  rw [Array.getElem?_eq_getElem (by omega), Option.map_some, getElem!_pos R j (by omega)]
theorem obj_filled (s : St) (R : Array UInt8) (f n : Nat) (hR : R.size = 64) : (obj s R f n)[72]? = some (.int .i64 (f : Int)) := by
  unfold obj
  rw [Array.getElem?_append_right (by simp [row_size, hR])]
  simp [row_size, hR]
theorem obj_length (s : St) (R : Array UInt8) (f n : Nat) (hR : R.size = 64) : (obj s R f n)[73]? = some (.int .u64 (n : Int)) := by
  unfold obj
  rw [Array.getElem?_append_right (by simp [row_size, hR])]
  simp [row_size, hR]
theorem obj_set_length (s : St) (R : Array UInt8) (f n m : Nat) (hR : R.size = 64) : (obj s R f n).setIfInBounds 73 (.int .u64 (m : Int)) = obj s R f m := by
  unfold obj
  rw [Array.setIfInBounds_append_right (by simp [row_size, hR])]
  simp [row_size, hR]
theorem obj_set_filled (s : St) (R : Array UInt8) (f n m : Nat) (hR : R.size = 64) : (obj s R f n).setIfInBounds 72 (.int .i64 (m : Int)) = obj s R m n := by
  unfold obj
  rw [Array.setIfInBounds_append_right (by simp [row_size, hR])]
  simp [row_size, hR]

/-- The sum lies in block b. -/
def Lies (w : World) (b : Nat) (s : St) (R : Array UInt8) (f n : Nat) : Prop := w.heap[b]? = some (.cells (obj s R f n) 120 (0, 0))

theorem cell_in {w : World} {b : Nat} {c : Array Value} {t : TypeId} (h : w.heap[b]? = some (.cells c t (0, 0))) (j : Nat) : w.cell? ⟨b, j, none⟩ = c[j]? := by
  simp [World.cell?, h]
theorem free_in {w : World} {b : Nat} {c : Array Value} {t : TypeId} (h : w.heap[b]? = some (.cells c t (0, 0))) (j : Nat) : w.frozen? ⟨b, j, none⟩ = false := by
  simp [World.frozen?, h]

theorem put_row (s t : St) (R : Array UInt8) (f n : Nat) : putCells encW 0 t.row (obj s R f n) = obj t R f n := by
  apply Array.ext_getElem?
  intro k
  simp only [putCells, Array.getElem?_mapIdx]
  by_cases hk : k < 8
  · rw [obj_row s R f n k hk, obj_row t R f n k hk, Option.map_some, if_pos (by rw [row_size]; omega)]; rfl
  · have g : ∀ v : St, (obj v R f n)[k]? = (R.map encB ++ #[Value.int .i64 (f : Int), Value.int .u64 (n : Int)])[k - 8]? := by
      intro v
      unfold obj
      rw [Array.append_assoc, Array.getElem?_append_right (by simp [row_size]; omega)]
      simp only [Array.size_map, row_size]
    have e : (obj s R f n)[k]? = (obj t R f n)[k]? := by rw [g, g]
    rw [e]
    cases (obj t R f n)[k]? with
    | none => rfl
    | some y => simp only [Option.map_some]; rw [if_neg (by rw [row_size]; omega)]

theorem mix_obj (bx bp op cap : Nat) (P : Nat → UInt8) (s : St) (R : Array UInt8) (f n : Nat) (w : World)
    (hp : ∀ j, j < 64 → w.cell? ⟨bp, op + j, none⟩ = some (.int .u8 ((P j).toNat : Int)))
    (hT : ∀ j, j < 64 → w.cell? ⟨1, j, none⟩ = some (encW table[j]!))
    (hL : Lies w bx s R f n) :
    Calls Tryz.prog 59 #[.pointer (some ⟨bx, 0, none⟩), .slice (some ⟨bp, op, none⟩) 64 cap] w fun e w' => e = .returned (.tuple #[]) ∧ w.grownBy w' (some bx) ∧ Lies w' bx (mixed s P) R f n := by
  have hlt : bx < w.heap.size := (Array.getElem?_eq_some_iff.1 hL).1
  have hH : Holds encW w bx 0 s.row := fun j hj => by
    rw [row_size] at hj
    rw [Nat.zero_add]
    exact ⟨by rw [cell_in hL, obj_row s R f n j hj], free_in hL j⟩
  refine (mix_any bx bp op cap P s w hp hT hH).mono fun e w' h => ?_
  obtain ⟨he, arr, q, rfl⟩ := h
  refine ⟨he, ⟨rfl, rfl, rfl, ?_, ?_⟩, ?_⟩
  · show w.heap.size ≤ ((w.heap.push _).modify _ _).size
    simp
  · intro k hk hne
    show ((w.heap.push _).modify bx _)[k]? = _
    rw [Array.getElem?_modify, if_neg (by intro e; exact hne (by rw [e])), Array.getElem?_push, if_neg (by omega)]
  · show ((w.heap.push _).modify bx _)[bx]? = _
    rw [Array.getElem?_modify, if_pos rfl, Array.getElem?_push, if_neg (by omega), hL, Option.map_some]
    simp only [onCells]
    rw [put_row]
end Go.Proofs.YtfpehdldgnfciaaGreatDoor.Sha
