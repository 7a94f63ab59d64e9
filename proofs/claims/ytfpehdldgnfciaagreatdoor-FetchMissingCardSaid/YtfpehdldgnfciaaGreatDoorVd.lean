/- Lists of marks: as package ver tells them. -/
import Derived.Test.YtfpehdldgnfciaaGreatDoorVc
namespace Go.Proofs.YtfpehdldgnfciaaGreatDoor
open Go.RowKit

theorem take_all (L : List ByteArray) (k : Nat) (x : ByteArray) (p : ByteArray → Bool) (h : L[k]? = some x) (ha : (L.take k).all p = true) (hx : p x = true) : (L.take (k + 1)).all p = true := by
  rw [take_snocL L k x h, List.all_append, ha]
  simp [hx]
theorem all_no (L : List ByteArray) (k : Nat) (x : ByteArray) (p : ByteArray → Bool) (h : L[k]? = some x) (hx : p x = false) : L.all p = false := by
  have hm := List.mem_of_getElem? h
  cases ha : L.all p with
  | false => rfl
  | true =>
    rw [List.all_eq_true] at ha
    rw [ha x hm] at hx
    exact absurd hx (by simp)
theorem okMarks_no (L : List ByteArray) (k : Nat) (x : ByteArray) (h : L[k]? = some x) (hx : okMark x = false) : okMarks L = false := by
  unfold okMarks
  rw [all_no L k x okMark h hx, Bool.false_and]

end Go.Proofs.YtfpehdldgnfciaaGreatDoor
