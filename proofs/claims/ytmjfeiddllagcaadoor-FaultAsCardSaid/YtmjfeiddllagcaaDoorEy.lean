/- The law of errors: layers as they lie, and whether they are light. -/
import Derived.Test.YtmjfeiddllagcaaDoorEx
namespace Go.Proofs.YtmjfeiddllagcaaDoor
open Go.RowKit

set_option maxRecDepth 1000000
/-- The layers L lie behind a. -/
def LayersAt (w : World) (a : Option Addr) (L : List (ByteArray × ByteArray)) : Prop := ∀ j p, L[j]? = some p → ∃ b o, a = some ⟨b, o, none⟩ ∧ w.cell? ⟨b, o + j * 2, none⟩ = some (.string p.1) ∧ w.cell? ⟨b, o + j * 2 + 1, none⟩ = some (.string p.2)
theorem LayersAt.stays {w w' : World} {a : Option Addr} {L : List (ByteArray × ByteArray)} (h : LayersAt w a L) (hg : w.grownBy w' none) : LayersAt w' a L := fun j p hj => by
  obtain ⟨b, o, e, c0, c1⟩ := h j p hj
  exact ⟨b, o, e, hg.cell c0 (by simp), hg.cell c1 (by simp)⟩
/-- Light layers. -/
def Light (L : List (ByteArray × ByteArray)) : Prop := L.length ≤ 12 ∧ ∀ p ∈ L, p.1.size ≤ 30 ∧ p.2.size ≤ 30
def LightRet (w : World) (L : List (ByteArray × ByteArray)) (e : Ending) (w' : World) : Prop := (∃ b, e = .returned (.bool b) ∧ (b = true → Light L)) ∧ w' = w
set_option maxHeartbeats 8000000 in
theorem lightL_any (n c : Nat) (a : Option Addr) (L : List (ByteArray × ByteArray)) (w : World) (hL : L.length = n) (hn : n ≤ 9223372036854775807) (hP : LayersAt w a L) :
    Calls Tryd.prog 8 #[.slice a n c] w (LightRet w L) := by
  have HL := Lib.hid hL
  have HP := Lib.hid hP
  clear hL hP
  by_cases h12 : n ≤ 12
  · have t1 : decide (12 < (n : Int)) = false := by simp; omega
    have t2 : decide (12 < n) = false := by simp; omega
    go_enter Tryd.func8, Tryd.ntmps8
    go_wp2_with fail
    go_loopw [3] (fun i wr => ∃ k : Nat, k ≤ n ∧ i = .int .i64 k ∧ Hid (∀ j p, j < k → L[j]? = some p → p.1.size ≤ 30 ∧ p.2.size ≤ 30) ∧ w = wr) (fun i _ => n - (intOf i).toNat)
    case atStart => exact ⟨0, by omega, rfl, fun j p h => by omega, rfl⟩
    case round =>
      obtain ⟨k, hk, rfl, hs, rfl⟩ := hrel
      by_cases hlt : k < n
      · obtain ⟨⟨op, name⟩, hp⟩ : ∃ p, L[k]? = some p := by
          have : k < L.length := by have := HL.out; omega
          exact ⟨L[k], List.getElem?_eq_getElem this⟩
        obtain ⟨b, o, rfl, c0, c1⟩ := HP.out k (op, name) hp
        dsimp only at c0 c1
        have HPK := Lib.hid hp
        have u1 : decide ((k : Int) < (n : Int)) = true := by simp; omega
        have u2 : decide (k < n) = true := by simp; omega
        have kI : (k : Int) < (n : Int) := by omega
        clear hp
        by_cases s1 : op.size ≤ 30
        · have v1 : decide (30 < (op.size : Int)) = false := by simp; omega
          have v2 : decide (30 < op.size) = false := by simp; omega
          by_cases s2 : name.size ≤ 30
          · have v3 : decide (30 < (name.size : Int)) = false := by simp; omega
            have v4 : decide (30 < name.size) = false := by simp; omega
            go_wp2
            go_roundw
            case rel =>
              refine ⟨k + 1, by omega, by go_num, fun j p hj hjp => ?_, by first | rfl | trivial⟩
              by_cases e : j = k
              · subst e
                rw [HPK.out] at hjp
                injection hjp with hjp
                subst hjp
                exact ⟨s1, s2⟩
              · exact hs.out j p (by omega) hjp
            case measure => simp [intOf]; omega
          · have v3 : decide (30 < (name.size : Int)) = true := by simp; omega
            have v4 : decide (30 < name.size) = true := by simp; omega
            go_wp2
            go_ret
            exact ⟨⟨false, rfl, fun h => by cases h⟩, rfl⟩
        · have v1 : decide (30 < (op.size : Int)) = true := by simp; omega
          have v2 : decide (30 < op.size) = true := by simp; omega
          go_wp2
          go_ret
          exact ⟨⟨false, rfl, fun h => by cases h⟩, rfl⟩
      · have u1 : decide ((k : Int) < (n : Int)) = false := by simp; omega
        have u2 : decide (k < n) = false := by simp; omega
        have kI : ¬ (k : Int) < (n : Int) := by omega
        go_wp2
        go_ret
        refine ⟨⟨true, rfl, fun _ => ⟨by rw [HL.out]; exact h12, fun p hp => ?_⟩⟩, rfl⟩
        obtain ⟨j, hj⟩ := List.mem_iff_getElem?.1 hp
        have hjl := (List.getElem?_eq_some_iff.1 hj).1
        exact hs.out j p (by have := HL.out; omega) hj
  · have t1 : decide (12 < (n : Int)) = true := by simp; omega
    have t2 : decide (12 < n) = true := by simp; omega
    go_enter Tryd.func8, Tryd.ntmps8
    go_wp2
    go_ret
    exact ⟨⟨false, rfl, fun h => by cases h⟩, rfl⟩
end Go.Proofs.YtmjfeiddllagcaaDoor
