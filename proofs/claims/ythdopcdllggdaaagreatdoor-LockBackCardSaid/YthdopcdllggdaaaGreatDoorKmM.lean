/- The law LockReads returns true. -/
import Derived.Test.YthdopcdllggdaaaGreatDoorKlM
import Derived.Test.YthdopcdllggdaaaGreatDoorKeM
namespace Go.Proofs.YthdopcdllggdaaaGreatDoor
open Go.RowKit
attribute [local irreducible] wpQuiet

theorem pins_same (L M : List Pc) (h : L.map mp = M.map mp) : allB pinsB L M = true := by
  refine allB_yes pinsB L M (by have := congrArg List.length h; simpa using this) (fun i p q hp hq => ?_)
  have h2 : (L.map mp)[i]? = (M.map mp)[i]? := by rw [h]
  rw [List.getElem?_map, List.getElem?_map, hp, hq] at h2
  have h := Option.some.inj h2
  have h1 : p.name = q.name := congrArg (·.1) h
  have h2 : p.v = q.v := congrArg (·.2.1) h
  have h3 : p.key = q.key := congrArg (·.2.2) h
  unfold pinsB
  rw [h1, h2, h3]
  simp
/-- help.Pins of what lies somewhere. -/
theorem helpPins_at (B n1 n2 c1 c2 : Nat) (a1 a2 : Option Addr) (L M : List Pc) (w : World) (hB : B ≤ w.heap.size) (hn1 : L.length = n1) (hn2 : M.length = n2) (h81 : n1 ≤ 1000000) (h82 : n2 ≤ 1000000)
    (hP1 : PartP w B (.slice a1 n1 c1) L) (hP2 : PartP w B (.slice a2 n2 c2) M) (hA1 : AllAt w B L) (hA2 : AllAt w B M) (b : Bool) (hb : allB pinsB L M = b) :
    Calls Tryz.prog 10 #[.slice a1 n1 c1, .slice a2 n2 c2] w fun e w' => e = .returned (.bool b) ∧ w.grownBy w' none := by
  rw [← hb]
  exact helpPins_any B n1 n2 c1 c2 a1 a2 L M w hB hn1 hn2 h81 h82 hP1 hP2 hA1 hA2
set_option maxRecDepth 1000000
set_option maxHeartbeats 4000000 in
theorem lockOf_any (m : Int) (s : ByteArray) (w : World) (hs : s.size ≤ 9223372036854775807) (hm : MaxAt m w) : Calls Tryz.prog 13 #[.string s] w (PkRet (lockS s) w) := by
  cases ho : openB s with
  | false => exact lockOf_no s w hs ho
  | true => exact lockOf_yes m s w hs ho hm
end Go.Proofs.YthdopcdllggdaaaGreatDoor
