/- The bytes that the law makes. -/
import Derived.Test.YtfpehdldgnfciaaGreatDoorFg
import Derived.Laws.MakeOwn
namespace Go.Proofs.YtfpehdldgnfciaaGreatDoor
open Go.RowKit

set_option maxRecDepth 1000000
def madeL (n : Nat) : List UInt8 := (List.range n).map fun j => UInt8.ofNat (j * 7)
theorem madeL_len (n : Nat) : (madeL n).length = n := by simp [madeL]
def madeC (n k : Nat) : Array Value := ((List.range n).map fun j => if j < k then Value.int .u8 ((j * 7 % 256 : Nat) : Int) else .int .u8 0).toArray
theorem madeC_size (n k : Nat) : (madeC n k).size = n := by simp [madeC]
theorem madeC_at (n k j : Nat) (h : j < n) : (madeC n k)[j]? = some (if j < k then Value.int .u8 ((j * 7 % 256 : Nat) : Int) else .int .u8 0) := by
  simp [madeC, h]
theorem madeC_zero (n : Nat) : Array.replicate n (Value.int .u8 0) = madeC n 0 := by
  apply Array.ext_getElem?
  intro j
  by_cases h : j < n
  · rw [madeC_at n 0 j h]; simp [h]
  · rw [Array.getElem?_eq_none (by simp; omega), Array.getElem?_eq_none (by rw [madeC_size]; omega)]
theorem madeC_succ (n k : Nat) (h : k < n) : (madeC n k).setIfInBounds k (.int .u8 ((k * 7 % 256 : Nat) : Int)) = madeC n (k + 1) := by
  apply Array.ext_getElem?
  intro j
  rw [Array.getElem?_setIfInBounds]
  by_cases e : k = j
  · subst e
    rw [if_pos rfl, if_pos (by rw [madeC_size]; exact h), madeC_at n (k + 1) k h, if_pos (by omega)]
  · rw [if_neg e]
    by_cases hj : j < n
    · rw [madeC_at n k j hj, madeC_at n (k + 1) j hj]
      by_cases h1 : j < k
      · rw [if_pos h1, if_pos (by omega)]
      · rw [if_neg h1, if_neg (by omega)]
    · rw [Array.getElem?_eq_none (by rw [madeC_size]; omega), Array.getElem?_eq_none (by rw [madeC_size]; omega)]
theorem made_part {w : World} {b n : Nat} (h : w.heap[b]? = some (.cells (madeC n n) 5 (0, 0))) : Part w w.heap.size (.slice (some ⟨b, 0, none⟩) n n) (madeL n) := by
  refine ⟨_, n, b, 0, by rw [madeL_len], by rw [madeL_len]; exact Nat.le_refl _, fun e => by simp at e, bk_size h, fun _ => rfl, fun j hj => ?_⟩
  rw [madeL_len] at hj
  rw [Nat.zero_add, (bk_cell h j _ (madeC_at n n j hj)).1, if_pos hj]
  simp [madeL, hj]
def MadeRet (w : World) (n : Nat) (e : Ending) (w' : World) : Prop := ∃ a c, e = .returned (.slice a n c) ∧ w.grownBy w' none ∧ Part w' w'.heap.size (.slice a n c) (madeL n)
theorem made_new (n : Nat) (hn : n ≤ 1000000) (W : World) : (Instr.makeSlice 24 (.int .i64 (n : Int)) (.int .i64 (n : Int))).run Tryz.prog W = .ok (.slice (some ⟨W.heap.size, 0, none⟩) n n) (W.alloc (.cells (madeC n 0) 5)) := by
  obtain ⟨i0, hi, hz0, hz1, hz2⟩ := info_parts infoB
  have h := run_makeSlice (P := Tryz.prog) W 24 5 i0 _ Tryz.underlying24 hi hz0 .i64 .i64 (n : Int) (n : Int) (by omega) (Int.le_refl _) (by rw [hz1]; omega) (by rw [hz2]; omega) (by omega)
  rw [h, hz1, Int.toNat_natCast, Nat.mul_one]
  congr 3
  rw [← madeC_zero]
  apply Array.ext_getElem?
  intro j
  by_cases hj : j < n
  · simp [madeCells, Value.cells, hj, Nat.mod_one]
  · rw [Array.getElem?_eq_none (by simp [madeCells]; omega), Array.getElem?_eq_none (by simp; omega)]
set_option maxHeartbeats 4000000 in
theorem made_any (n : Nat) (hn : n ≤ 1000) (w : World) : Calls Tryz.prog 5 #[.int .i64 n] w (MadeRet w n) := by
  have hm := made_new n (by omega)
  obtain ⟨R, hR⟩ : ∃ R, w.heap.size = R := ⟨_, rfl⟩
  have hb : (w.alloc (.cells (madeC n 0) 5)).heap[R]? = some (.cells (madeC n 0) 5 (0, 0)) := by rw [← hR]; exact bk_alloc _ _
  have HB := Lib.hid hb
  have HR := Lib.hid hR
  obtain ⟨W1, hW1⟩ : ∃ W1, w.alloc (.cells (madeC n 0) 5) = W1 := ⟨_, rfl⟩
  have G1 : Hid (w.grownBy W1 none) := by show World.grownBy _ _ _; rw [← hW1]; exact World.grownBy_alloc _ _ _
  rw [hW1] at HB
  have HW1 := Lib.hid hW1
  clear hb hR hW1
  go_enter Tryz.func5, Tryz.ntmps5
  go_wp2
  rw [HR.out, HW1.out]
  clear hm
  go_loopw [4] (fun i wr => ∃ k : Nat, k ≤ n ∧ i = .int .i64 k ∧ w.grownBy wr none ∧ wr.heap[R]? = some (.cells (madeC n k) 5 (0, 0))) (fun i _ => n - (intOf i).toNat)
  case atStart => exact ⟨0, Nat.zero_le _, rfl, G1.out, HB.out⟩
  case round =>
    obtain ⟨k, hk, rfl, hg, hc⟩ := hrel
    have HC := Lib.hid hc
    have HG := Lib.hid hg
    clear hc hg
    by_cases hlt : k < n
    · obtain ⟨c1, f1⟩ := bk_cell HC.out k _ (madeC_at n k k hlt)
      rw [if_neg (by omega)] at c1
      have hkn : (k : Int) < (n : Int) := by omega
      have hk7 : IntKind.i64.wrap ((k : Int) * 7) = (k : Int) * 7 := IntWalk.i64_in _ (by omega)
      go_wp2
      go_roundw
      case rel => exact ⟨k + 1, by omega, by go_num, bk_grown_set HG.out (by have := HR.out; omega) _ _, by rw [show ((k : Int) * 7 % 256) = ((k * 7 % 256 : Nat) : Int) by omega, bk_set HC.out k, madeC_succ n k hlt]⟩
      case measure => simp [intOf]; omega
    · obtain rfl : k = n := by omega
      go_wp2
      go_ret
      exact ⟨_, _, rfl, HG.out, made_part HC.out⟩
end Go.Proofs.YtfpehdldgnfciaaGreatDoor
