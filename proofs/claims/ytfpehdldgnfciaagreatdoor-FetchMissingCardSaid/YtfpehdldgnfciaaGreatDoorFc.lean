/- Whether what is there is the archive: fetch's right. -/
import Derived.Test.YtfpehdldgnfciaaGreatDoorFb
import Derived.Deep.RegionHeld3
import Derived.Stop.BytesEq
namespace Go.Proofs.YtfpehdldgnfciaaGreatDoor
open Go.RowKit

set_option maxRecDepth 1000000
/-- The table of sha lies where it lies. -/
def Tab (w : World) : Prop := ∀ j, j < 64 → w.cell? ⟨1, j, none⟩ = some (Sha.encW Sha.table[j]!)
theorem Tab.stays {w w' : World} (h : Tab w) (hg : w.grownBy w' none) : Tab w' := fun j hj => hg.cell (h j hj) (by simp)
theorem Tab.below {w w' : World} {base : Nat} (h : Tab w) (hg : Below base w w') (hb : 1 < base) : Tab w' := fun j hj => by rw [below_cell hg hb]; exact h j hj
/-- The sum of bytes, as cells. -/
def keyV (L : List UInt8) : Array Value := (Sha.digest L).map Sha.encB
theorem keyV_size (L : List UInt8) : (keyV L).size = 32 := by unfold keyV; rw [Array.size_map]; exact Sha.keyA_size _ _
theorem keyV_eql (L : List UInt8) (W : World) : (binOp .eql 32 (.agg (keyV L)) (.agg (keyV L))).run Tryz.prog W = .ok (.bool true) W := by
  have h := run_eql_bytes (P := Tryz.prog) W 32 5 32 Tryz.underlying32 Tryz.underlying5 (fun w => by kernel_rfl) (Sha.digest L).toList (Sha.digest L).toList (by rw [Array.length_toList]; exact Sha.keyA_size _ _) (by rw [Array.length_toList]; exact Sha.keyA_size _ _)
  have e : ((Sha.digest L).toList.map Extern.Stop.cell).toArray = keyV L := by
    apply Array.ext'
    simp [keyV, Sha.encB, Extern.Stop.cell]
  rw [e] at h
  rw [h]
  simp
theorem info_key : (Tryz.prog.info? 32).map (·.size) = some 32 := by kernel_rfl
theorem keyV_one (L : List UInt8) : (keyV L).all (·.oneCell') = true := by
  unfold keyV
  rw [Array.all_map]
  exact Array.all_eq_true.2 fun i hi => rfl
/-- The one part of a list of parts that was just made. -/
theorem parts_one {w : World} {B : Nat} {v : Value} {M : List UInt8} (h : Part w B v M) (hB : B ≤ w.heap.size) : Sha.Parts (w.alloc (.cells #[v] 24)) (w.heap.size + 1) (some ⟨w.heap.size, 0, none⟩) [M] := by
  refine ⟨w.heap.size, 0, by omega, fun _ => rfl, fun i hi => ?_⟩
  have h0 : i = 0 := by simpa using hi
  subst h0
  refine ⟨v, by rw [alloc_cell]; rfl, ?_⟩
  exact (h.stays (World.grownBy_alloc _ _ _)).le (by omega)
theorem sum_one (B : Nat) (v : Value) (M : List UInt8) (w W : World) (hW : w.grownBy W none) (hP : Part W B v M) (hB : B ≤ W.heap.size) (hM : M.length ≤ 10000) (hT : Tab w) :
    Calls Tryz.prog 31 #[.slice (some ⟨W.heap.size, 0, none⟩) 1 1] (W.alloc (.cells #[v] 24)) fun e w' => e = .returned (.agg (keyV M)) ∧ w.grownBy w' none := by
  have hg := World.grownBy.trans hW (World.grownBy_alloc W (.cells #[v] 24) none)
  refine (Sha.sum_any (W.heap.size + 1) 1 1 _ [M] _ rfl (by rw [alloc_size]; omega) (Nat.le_refl _) (by unfold maxLen; omega) (by simpa using hM) (hT.stays hg) (parts_one hP hB)).mono fun e w' h => ?_
  obtain ⟨h1, h2⟩ := h
  exact ⟨by rw [h1]; simp [keyV], World.grownBy.trans hg h2⟩
theorem right_no (F n m c : Nat) (K : Array Value) (a : Option Addr) (fa sp : Int) (dn fl : Bool) (w : World) (h : Fet w F K n (.slice a m c) fa sp dn fl) (hm : ¬ m = n) :
    Calls Tryz.prog 14 #[.pointer (some ⟨F, 0, none⟩)] w fun e w' => e = .returned (.bool false) ∧ ∃ d, w' = w.drewN d := by
  obtain ⟨c37, c39, c40, c41, c42, c43⟩ := h.cells
  have hmn : ((m : Int) == (n : Int)) = false := by simp; omega
  clear h c40 c41 c42 c43 hm
  go_enter Tryz.func14, Tryz.ntmps14
  go_wp2
  go_region
  all_goals
    go_wp2
    go_ret
    exact ⟨rfl, 1, rfl⟩
set_option maxHeartbeats 4000000 in
theorem right_yes (F m c B : Nat) (a : Option Addr) (M : List UInt8) (fa sp : Int) (dn fl : Bool) (w : World) (h : Fet w F (keyV M) m (.slice a m c) fa sp dn fl) (hP : Part w B (.slice a m c) M) (hB : B ≤ w.heap.size) (hM : M.length ≤ 10000) (hT : Tab w) :
    Calls Tryz.prog 14 #[.pointer (some ⟨F, 0, none⟩)] w fun e w' => e = .returned (.bool true) ∧ w.grownBy w' none := by
  obtain ⟨ks, hks⟩ : ∃ ks : List Value, keyV M = ks.toArray := ⟨(keyV M).toList, by simp⟩
  have HS : Hid (∀ W : World, w.grownBy W none → (W.cell? ⟨F, 37, none⟩ = some (.int .i64 m) ∧ W.cell? ⟨F, 39, none⟩ = some (.slice a m c) ∧ W.rangeAt F 5 ks)) := fun W hg => by
    have h' := h.stays hg
    obtain ⟨c37, c39, c40, c41, c42, c43⟩ := h'.cells
    refine ⟨c37, c39, fun j v hj => h'.sum j v ?_⟩
    rw [hks]; simpa using hj
  have G0 : Hid (w.grownBy w.drew none) := grown_drew 1 (World.grownBy.refl _ _)
  have G1 : Hid (w.grownBy (w.drew.alloc (.cells #[.slice a m c] 24)) none) := grown_alloc _ G0.out
  have K1 := Lib.hid (sum_one B (.slice a m c) M w w.drew G0.out (hP.stays G0.out) hB hM hT)
  have hE : ∀ W : World, (binOp .eql 32 (.agg ks.toArray) (.agg ks.toArray)).run Tryz.prog W = .ok (.bool true) W := by rw [← hks]; exact keyV_eql M
  have hU : Tryz.prog.underlying 32 = some (.array 32 5) := Tryz.underlying32
  have hI : (Tryz.prog.info? 32).map (·.size) = some ks.length := by
    have := keyV_size M
    rw [hks] at this
    rw [show ks.length = 32 by simpa using this]; exact info_key
  have HKS := Lib.hid hks
  have KK1 : Hid (Calls Tryz.prog 31 #[.slice (some ⟨w.drew.heap.size, 0, none⟩) 1 1] (w.drew.alloc (.cells #[.slice a m c] 24)) fun e w' => e = .returned (.agg ks.toArray) ∧ w.grownBy w' none) := by show Calls _ _ _ _ _; rw [← hks]; exact K1.out
  have hmm : ((m : Int) == (m : Int)) = true := by simp
  clear hks h hP hB hM hT K1
  go_enter Tryz.func14, Tryz.ntmps14
  go_wp2
  go_region_held3 (fun W => W.cell? ⟨F, 37, none⟩ = some (.int .i64 m) ∧ W.cell? ⟨F, 39, none⟩ = some (.slice a m c) ∧ W.rangeAt F 5 ks) (first | exact HS.out _ G0.out | exact HS.out _ G1.out | exact HS.out _ hg9) (first | (go_at_call 31; refine KK1.out.mono ?_; rintro ee w9 ⟨rfl, hg9⟩))
  all_goals
    go_wp2
    go_ret
    exact ⟨rfl, hg9⟩
end Go.Proofs.YtfpehdldgnfciaaGreatDoor
