/- A text as a sum: what the reference reads. -/
import Derived.Test.YtpiikgobdhgldaaDoorO
import Derived.Outline
namespace Go.Proofs.YtpiikgobdhgldaaDoor
open Go.RowKit Go.Sort

def keyR (s : ByteArray) : Nat → Array UInt8
  | 0 => Array.replicate 32 0
  | i + 1 => (keyR s i).setIfInBounds (i / 2) (((keyR s i)[i / 2]! <<< 4) ||| hv (byteAt s i))
theorem keyR_size (s : ByteArray) (k : Nat) : (keyR s k).size = 32 := by
  induction k with
  | zero => simp [keyR]
  | succ k ih => simp [keyR, ih]
theorem keyP_later (s : ByteArray) (k j : Nat) (h : k ≤ j) (hj : j < 32) : (keyP s k)[j]! = 0 := by
  induction k with
  | zero => rw [getElem!_pos _ j (by rw [keyP_size]; exact hj)]; simp [keyP]
  | succ k ih =>
    have e := ih (by omega)
    rw [getElem!_pos _ j (by rw [keyP_size]; exact hj)] at e ⊢
    simp only [keyP]
    rw [Array.getElem_setIfInBounds_ne (by rw [keyP_size]; exact hj) (by omega)]
    exact e
theorem keyR_eq (s : ByteArray) (k : Nat) (h : k ≤ 32) : keyR s (2 * k) = keyP s k := by
  induction k with
  | zero => rfl
  | succ k ih =>
    have e := ih (by omega)
    have e0 := keyP_later s k k (Nat.le_refl _) (by omega)
    show (keyR s (2 * k + 1)).setIfInBounds ((2 * k + 1) / 2) (((keyR s (2 * k + 1))[(2 * k + 1) / 2]! <<< 4) ||| hv (byteAt s (2 * k + 1))) = (keyP s k).setIfInBounds k ((hv (byteAt s (2 * k)) <<< 4) ||| hv (byteAt s (2 * k + 1)))
    have e1 : keyR s (2 * k + 1) = (keyP s k).setIfInBounds k (hv (byteAt s (2 * k))) := by
      show (keyR s (2 * k)).setIfInBounds ((2 * k) / 2) _ = _
      rw [e, show 2 * k / 2 = k by omega, e0]
      simp
    rw [e1, show (2 * k + 1) / 2 = k by omega]
    have e2 : ((keyP s k).setIfInBounds k (hv (byteAt s (2 * k))))[k]! = hv (byteAt s (2 * k)) := by
      rw [getElem!_pos _ k (by simp [keyP_size]; omega)]
      simp
    rw [e2]
    simp
theorem join_eq' (a b : UInt8) : bits .or .u8 ((a.toNat : Int) * 16 % 256) (b.toNat : Int) = (((a <<< 4) ||| b).toNat : Int) := by
  have e : (a.toNat : Int) * (16 : Int) % (256 : Int) = Int.ofNat (a <<< 4).toNat := by
    rw [UInt8.toNat_shiftLeft]; simp [Nat.shiftLeft_eq]
  rw [e, Int.ofNat_eq_natCast, u8_or_nat _ _ (UInt8.toNat_lt _) (UInt8.toNat_lt _), UInt8.toNat_or]

set_option maxRecDepth 1000000
set_option maxHeartbeats 1000000 in
theorem refparse_no (s : ByteArray) (w : World) (hs : s.size ≠ 64) :
    Calls Tryd.prog 12 #[.string s] w (ParseRet w s) := by
  have hpb : Hid (pb s = false) := by show _ = _; unfold pb; rw [decide_eq_false hs]; rfl
  have hz : ∀ W : World, (zeroValue 26).run Tryd.prog W = .ok (.agg zero32A) W := by intro W; kernel_rfl
  have hne : ¬ (s.size : Int) = 64 := by omega
  have hzs := zero32A_size
  have hst := storeCells_row ((w.alloc (.cells zero32A 26)).alloc (.cells zero32A 26)) w.heap.size 26 26 zero32A zero32A (two_heap _ _ _ _ _) (by rw [info26, zero32A_size]) rfl zero32A_one
  have hld : Hid (((w.alloc (.cells zero32A 26)).alloc (.cells zero32A 26)).heap[w.heap.size + 1]? = some (.cells zero32A 26 (0, 0))) := by
    show _ = _
    rw [← alloc_size w (.cells zero32A 26), heap_alloc_new]
  clear hs
  go_enter Tryd.func12, Tryd.ntmps12
  go_wp2_with ((with_reducible refine wpList_load_row (o := ⟨some 11, _, _, _, _, _⟩) rfl 26 _ rfl (w.heap.size + 1) ?_ 26 zero32A (0, 0) (.array 32 5) hld.out Tryd.underlying26 rfl ?_ ?_); (exact rfl); (rw [info26, zero32A_size]))
  refine bodyPost_ret (v := .tuple #[.agg zero32A, .bool false]) ?_ rfl ⟨?_, two_grown _ _ _ _ _ _⟩
  · exact (results_row_tmp rfl _ _ w.heap.size 26 zero32A (0, 0) _ rfl (setRow_heap _ _ _ _ 26 _ (two_heap _ _ _ _ _)) Tryd.underlying26 rfl (by rw [info26, zero32A_size])).trans rfl
  · rw [pk_no s hpb.out, hpb.out, zero32A_eq]

set_option maxRecDepth 1000000
set_option maxHeartbeats 2000000 in
theorem refparse_yes (s : ByteArray) (w : World) (hs : s.size = 64) :
    Calls Tryd.prog 12 #[.string s] w (ParseRet w s) := by
  have hz : ∀ W : World, (zeroValue 26).run Tryd.prog W = .ok (.agg zero32A) W := by intro W; kernel_rfl
  have hne : (s.size : Int) = 64 := by omega
  have hsz1 : 64 ≤ s.size := by omega
  have hzs := zero32A_size
  have HS := Lib.hid hs
  clear hs
  go_enter Tryd.func12, Tryd.ntmps12
  go_wp2
  clear hne
  go_loopw [5] (fun i wr => ∃ k : Nat, k ≤ 64 ∧ i = .int .i64 k ∧ goodTo s k = true ∧ wr = (w.alloc (.cells zero32A 26)).alloc (.cells ((keyR s k).map encB) 26)) (fun i _ => 64 - (intOf i).toNat)
  case atStart => exact ⟨0, by omega, rfl, rfl, by rw [show (keyR s 0).map encB = zero32A from zero32A_eq]⟩
  case round =>
    obtain ⟨k, hk, rfl, hgood, hw⟩ := hrel
    have HG := Lib.hid hgood
    clear hgood
    by_cases hlt : k < 64
    · obtain ⟨c, hc⟩ : ∃ c, byteAt s k = c := ⟨_, rfl⟩
      have hc2 : s[k]'(by omega) = c := by rw [← byteAt_eq]; exact hc
      obtain ⟨x, hx⟩ : ∃ x, (keyR s k)[k / 2]! = x := ⟨_, rfl⟩
      have hcell : wr.cell? ⟨w.heap.size + 1, k / 2, none⟩ = some (.int .u8 (x.toNat : Int)) := by
        rw [hw, ← alloc_size w (.cells zero32A 26), alloc_cell, Array.getElem?_map, Array.getElem?_eq_getElem (by rw [keyR_size]; omega), ← hx, getElem!_pos _ _ (by rw [keyR_size]; omega)]
        rfl
      have hfr : wr.frozen? ⟨w.heap.size + 1, k / 2, none⟩ = false := by
        rw [hw, ← alloc_size w (.cells zero32A 26), alloc_frozen]
      have hh := Lib.hid (join_eq' x (hv c))
      have hxl := x.toNat_lt
      have hcl := c.toNat_lt
      have hjoin : (keyR s (k + 1)) = (keyR s k).setIfInBounds (k / 2) ((x <<< 4) ||| hv c) := by rw [← hc, ← hx]; rfl
      have HJ := Lib.hid hjoin
      have HW := Lib.hid hw
      have HC := Lib.hid hc
      have hst := storeCells_row wr w.heap.size 26 26 zero32A zero32A (by rw [hw]; exact two_heap _ _ _ _ _) (by rw [info26, zero32A_size]) rfl zero32A_one
      clear hjoin hw hc hx
      by_cases h1 : 48 ≤ c.toNat ∧ c.toNat ≤ 57
      · have e := Lib.hid (hv_num c h1.1 h1.2)
        have e2 : Hid (isHex c = true) := by show _ = _; simp [isHex]; omega
        have a1 : (48 : Int) ≤ (c.toNat : Int) := by omega
        have a2 : (c.toNat : Int) ≤ 57 := by omega
        clear h1 hst
        go_wp2
        go_roundw
        case rel =>
          refine ⟨k + 1, by omega, by go_num, ?_, ?_⟩
          · rw [goodTo_succ, HG.out, HC.out, e2.out]; rfl
          · rw [← e.out, hh.out, HW.out, alloc2_set, HJ.out, ← map_setB]
            rfl
        case measure => simp [intOf]; omega
      · by_cases h2 : 97 ≤ c.toNat ∧ c.toNat ≤ 102
        · have e := Lib.hid (hv_low c h2.1 h2.2)
          have e2 : Hid (isHex c = true) := by show _ = _; simp [isHex]; omega
          have a1 : (97 : Int) ≤ (c.toNat : Int) := by omega
          have a2 : (c.toNat : Int) ≤ 102 := by omega
          have a3 : decide ((c.toNat : Int) ≤ 57) = false := by simp; omega
          clear h1 h2 hst
          go_wp2
          go_roundw
          case rel =>
            refine ⟨k + 1, by omega, by go_num, ?_, ?_⟩
            · rw [goodTo_succ, HG.out, HC.out, e2.out]; rfl
            · rw [← e.out, hh.out, HW.out, alloc2_set, HJ.out, ← map_setB]
              rfl
          case measure => simp [intOf]; omega
        · have e2 : isHex c = false := by simp [isHex]; omega
          have hpb : Hid (pb s = false) := by
            show _ = _
            unfold pb
            rw [goodTo_not s k 64 hlt (by rw [HC.out]; exact e2)]; simp
          have htests : (c.toNat < 48) ∨ (48 ≤ c.toNat ∧ 57 < c.toNat ∧ c.toNat < 97) ∨ (102 < c.toNat) := by omega
          clear h1 h2 e2
          rcases htests with t | t | t
          · have b1 : decide (48 ≤ (c.toNat : Int)) = false := by simp; omega
            have b2 : decide (97 ≤ (c.toNat : Int)) = false := by simp; omega
            clear t
            go_wp2_with ((with_reducible refine wpList_built2 (o := ⟨some 19, _, _, _, _, _⟩) rfl 26 _ rfl zero32A ?_ ?_); (kernel_rfl))
            refine bodyPost_ret (v := .tuple #[.agg zero32A, .bool false]) ?_ rfl ⟨?_, ?_⟩
            · exact (results_row_tmp rfl _ _ w.heap.size 26 zero32A (0, 0) _ rfl (setRow_heap _ _ _ _ 26 _ (by rw [HW.out]; exact two_heap _ _ _ _ _)) Tryd.underlying26 rfl (by rw [info26, zero32A_size])).trans rfl
            · rw [pk_no s hpb.out, hpb.out, zero32A_eq]
            · rw [HW.out]; exact two_grown _ _ _ _ _ _
          · have b0 : (48 : Int) ≤ (c.toNat : Int) := by omega
            have b1 : decide ((c.toNat : Int) ≤ 57) = false := by simp; omega
            have b2 : decide (97 ≤ (c.toNat : Int)) = false := by simp; omega
            clear t
            go_wp2_with ((with_reducible refine wpList_built2 (o := ⟨some 19, _, _, _, _, _⟩) rfl 26 _ rfl zero32A ?_ ?_); (kernel_rfl))
            refine bodyPost_ret (v := .tuple #[.agg zero32A, .bool false]) ?_ rfl ⟨?_, ?_⟩
            · exact (results_row_tmp rfl _ _ w.heap.size 26 zero32A (0, 0) _ rfl (setRow_heap _ _ _ _ 26 _ (by rw [HW.out]; exact two_heap _ _ _ _ _)) Tryd.underlying26 rfl (by rw [info26, zero32A_size])).trans rfl
            · rw [pk_no s hpb.out, hpb.out, zero32A_eq]
            · rw [HW.out]; exact two_grown _ _ _ _ _ _
          · have b0 : (97 : Int) ≤ (c.toNat : Int) := by omega
            have b1 : decide ((c.toNat : Int) ≤ 57) = false := by simp; omega
            have b2 : decide ((c.toNat : Int) ≤ 102) = false := by simp; omega
            clear t
            go_wp2_with ((with_reducible refine wpList_built2 (o := ⟨some 19, _, _, _, _, _⟩) rfl 26 _ rfl zero32A ?_ ?_); (kernel_rfl))
            refine bodyPost_ret (v := .tuple #[.agg zero32A, .bool false]) ?_ rfl ⟨?_, ?_⟩
            · exact (results_row_tmp rfl _ _ w.heap.size 26 zero32A (0, 0) _ rfl (setRow_heap _ _ _ _ 26 _ (by rw [HW.out]; exact two_heap _ _ _ _ _)) Tryd.underlying26 rfl (by rw [info26, zero32A_size])).trans rfl
            · rw [pk_no s hpb.out, hpb.out, zero32A_eq]
            · rw [HW.out]; exact two_grown _ _ _ _ _ _
    · have hk64 : k = 64 := by omega
      subst hk64
      clear hlt hk
      have hpb : Hid (pb s = true) := by
        show _ = _
        unfold pb
        rw [HS.out, HG.out]; rfl
      have hks : ((keyP s 32).map encB).size = 32 := by rw [Array.size_map, keyP_size]
      have HKS := Lib.hid hks
      have hone : Hid (((keyP s 32).map encB).all (·.oneCell') = true) := by
        show _ = _
        rw [Array.all_map]
        exact Array.all_eq_true.2 fun i hi => rfl
      rw [keyR_eq s 32 (by omega)] at hw
      obtain ⟨KK, hKK⟩ : ∃ KK, (keyP s 32).map encB = KK := ⟨_, rfl⟩
      rw [hKK] at HKS hone hw
      have HK := Lib.hid hKK
      have hst := storeCells_row wr w.heap.size 26 26 zero32A KK (by rw [hw]; exact two_heap _ _ _ _ _) (by rw [info26, HKS.out]) (by rw [HKS.out, zero32A_size]) hone.out
      have hnew : Hid (wr.heap[w.heap.size + 1]? = some (.cells KK 26 (0, 0))) := by
        show _ = _
        rw [hw, ← alloc_size w (.cells zero32A 26), heap_alloc_new]
      have HW := Lib.hid hw
      have hks' := HKS.out
      clear hks hKK hw
      go_wp2_with ((with_reducible refine wpList_load_row (o := ⟨some 49, _, _, _, _, _⟩) rfl 26 _ rfl (w.heap.size + 1) ?_ 26 KK (0, 0) (.array 32 5) hnew.out Tryd.underlying26 rfl ?_ ?_); (exact rfl); (rw [info26, HKS.out]))
      refine bodyPost_ret (v := .tuple #[.agg KK, .bool true]) ?_ rfl ⟨?_, ?_⟩
      · exact (results_row_tmp rfl _ _ w.heap.size 26 KK (0, 0) _ rfl (setRow_heap _ _ _ _ 26 _ (by rw [HW.out]; exact two_heap _ _ _ _ _)) Tryd.underlying26 rfl (by rw [info26, HKS.out])).trans rfl
      · rw [pk_yes s hpb.out, hpb.out, HK.out]
      · rw [HW.out]; exact two_grown _ _ _ _ _ _
theorem refparse_any (s : ByteArray) (w : World) : Calls Tryd.prog 12 #[.string s] w (ParseRet w s) := by
  by_cases h : s.size = 64
  · exact refparse_yes s w h
  · exact refparse_no s w h
end Go.Proofs.YtpiikgobdhgldaaDoor
