/- The program's Clean, Parts, Parent, Base, Within, Join. -/
import Derived.Test.YtghfnmnjomdacaaDoorH
namespace Go.Proofs.YtghfnmnjomdacaaDoor
open Go.RowKit

/-- The document's clean path, or why there is none. -/
def cleanS (s : ByteArray) : ByteArray × Int := if 200 < s.size then (⟨#[]⟩, 50) else walkS [] s

theorem full_nil (w : World) (h : 0 < w.heap.size) : FullS w (.slice none 0 0) [] := ⟨⟨none, rfl, fun _ => rfl⟩, w.heap.size, Nat.le_refl _, (OwnsS.nil w 0).part h⟩
theorem walk_nil (m : Int) (s : ByteArray) (w : World) (hs : s.size ≤ 100000) (hm : w.cell? ⟨0, 0, none⟩ = some (.int .i64 m)) :
    Calls Tryd.prog 23 #[.slice none 0 0, .string s] w (WalkRet w (walkS [] s)) :=
  walk_any m 0 none [] s w rfl (by omega) (full_nil w (World.block_lt_of_cell? _ _ hm)) hs (Nat.zero_le _) hm

set_option maxRecDepth 1000000
set_option maxHeartbeats 1000000 in
theorem clean_any (m : Int) (s : ByteArray) (w : World) (hm : w.cell? ⟨0, 0, none⟩ = some (.int .i64 m)) :
    Calls Tryd.prog 10 #[.string s] w (WalkRet w (cleanS s)) := by
  by_cases hl : 200 < s.size
  · have e : Hid (cleanS s = (⟨#[]⟩, 50)) := by show _ = _; unfold cleanS; rw [if_pos hl]
    have h2 : 200 < (s.size : Int) := by omega
    clear hl
    go_enter Tryd.func10, Tryd.ntmps10
    go_wp2
    go_ret2
    exact ⟨by rw [e.out]; rfl, World.grownBy.refl _ _⟩
  · have e : Hid (cleanS s = walkS [] s) := by show _ = _; unfold cleanS; rw [if_neg hl]
    have h2 : decide (200 < (s.size : Int)) = false := by simp; omega
    have hs : s.size ≤ 100000 := by omega
    have HM := Lib.hid hm
    clear hl hm
    go_enter Tryd.func10, Tryd.ntmps10
    go_wp2_with fail
    (with_reducible refine (walk_nil m s _ hs HM.out).mono ?_)
    rintro ee w' ⟨rfl, hg⟩
    dsimp only
    have HG := Lib.hid hg
    clear hg
    go_wp2
    go_ret2
    exact ⟨by rw [e.out]; rfl, HG.out⟩

theorem empty_no (x : ByteArray) (h : ¬ x = ⟨#[]⟩) : x.toList.isEmpty = false := by
  cases hl : x.toList with
  | nil => exact absurd hl (ne_list x [] h)
  | cons _ _ => rfl
/-- A path's parts. -/
def partsS (s : ByteArray) : List ByteArray := if s = ⟨#[]⟩ then [] else pieces s
def PartsRet (w : World) (L : List ByteArray) (e : Ending) (w' : World) : Prop := ∃ a, e = .returned (.slice a L.length L.length) ∧ FullS w' (.slice a L.length L.length) L ∧ w.grownBy w' none

set_option maxRecDepth 1000000
set_option maxHeartbeats 1000000 in
theorem parts_any (m : Int) (s : ByteArray) (w : World) (hs : s.size ≤ 100000) (hm : w.cell? ⟨0, 0, none⟩ = some (.int .i64 m)) :
    Calls Tryd.prog 12 #[.string s] w (PartsRet w (partsS s)) := by
  by_cases h0 : s = ⟨#[]⟩
  · subst h0
    have HM := Lib.hid (World.block_lt_of_cell? _ _ hm)
    clear hm
    go_enter Tryd.func12, Tryd.ntmps12
    go_wp2
    go_ret
    exact ⟨none, rfl, full_nil _ HM.out, World.grownBy.refl _ _⟩
  · have e : Hid (partsS s = pieces s) := by show _ = _; unfold partsS; rw [if_neg h0]
    have d1 := ne_list s [] h0
    have c1 := empty_no s h0
    obtain ⟨P, hP⟩ : ∃ P, pieces s = P := ⟨_, rfl⟩
    obtain ⟨N, hPN⟩ : ∃ N, P.length = N := ⟨_, rfl⟩
    have HPP := Lib.hid hP
    have HPN := Lib.hid hPN
    have HM := Lib.hid hm
    clear h0 hP hPN hm
    go_enter Tryd.func12, Tryd.ntmps12
    go_wp2_with fail
    (with_reducible refine (split_any s m N P _ hs HM.out HPP.out HPN.out).mono ?_)
    rintro ee w' ⟨rfl, hw'⟩
    rw [hw']
    clear hw' w'
    dsimp only
    go_wp2
    go_ret
    refine ⟨some ⟨w.heap.size, 0, none⟩, by rw [e.out, HPP.out, HPN.out]; rfl, ?_, World.grownBy_alloc _ _ _⟩
    rw [e.out, HPP.out]
    refine ⟨⟨_, rfl, fun h => by simp at h⟩, w.heap.size + 1, by rw [alloc_size]; exact Nat.le_refl _, _, _, w.heap.size, 0, rfl, Nat.le_refl _, fun h => by simp at h, by omega, fun _ => rfl, fun j x hj => ?_⟩
    rw [Nat.zero_add, alloc_cell]; simp [hj]
end Go.Proofs.YtghfnmnjomdacaaDoor
