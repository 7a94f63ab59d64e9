/- The law ShaLong returns true. -/
import Derived.Test.YtpiikgobdhgldaaDoorR
import Derived.Test.YtpiikgobdhgldaaDoorS
namespace Go.Proofs.YtpiikgobdhgldaaDoor
open Go.RowKit Go.Sort

theorem byte_int (v : Int) (h0 : 0 ≤ v) (h1 : v < 256) : v = ((UInt8.ofNat v.toNat).toNat : Int) := by
  simp; omega
/-- One slice, in a block of its own, is parts of one. -/
theorem parts_one (w : World) (v : Value) (M : List UInt8) (t : TypeId) (B : Nat) (hB : B ≤ w.heap.size) (h : Part w B v M) :
    Parts (w.alloc (.cells #[v] t)) (w.heap.size + 1) (some ⟨w.heap.size, 0, none⟩) [M] := by
  refine ⟨w.heap.size, 0, by omega, fun _ => rfl, fun i hi => ?_⟩
  have h0 : i = 0 := by simpa using hi
  subst h0
  refine ⟨v, by rw [Nat.add_zero, alloc_cell]; rfl, ?_⟩
  obtain ⟨a, cap, b, o, h1, h2, h3, h4, h5, h6⟩ := h
  exact ⟨a, cap, b, o, h1, h2, h3, by omega, h5, fun j hj => (World.grownBy_alloc w _ none).cell (h6 j hj) (by simp)⟩

set_option maxRecDepth 1000000
set_option maxHeartbeats 1000000 in
theorem long_law (n x : Int) (hn0 : 0 ≤ n) (hn1 : n ≤ 65535) (w : World) (h0 : 0 < w.heap.size) (hT : ∀ j, j < 64 → w.cell? ⟨0, j, none⟩ = some (encW table[j]!)) :
    Calls Tryd.prog 4 #[.int .u16 n, .int .u8 x] w fun e w' => e = .returned (.bool true) ∧ w.grownBy w' none := by
  obtain ⟨m, hm⟩ : ∃ m : Nat, n % 700 = (m : Int) := ⟨(n % 700).toNat, by omega⟩
  have hm7 : m < 700 := by omega
  have hmk : ∀ W : World, Sem.run Tryd.prog (Instr.makeSlice 24 (.int .i64 (m : Int)) (.int .i64 (m : Int))) W = Result.ok (.slice (some ⟨W.heap.size, 0, none⟩) m m) (W.alloc (.cells ((Array.replicate m (0 : UInt8)).map encB) 5)) := by
    intro W
    have h := run_make_row' (P := Tryd.prog) 24 5 (.int .u8 0) 1 Tryd.underlying24 (by kernel_rfl) rfl .i64 .i64 m (by omega) (by omega) W
    rw [made_zero] at h
    exact h
  have HT := Lib.hid hT
  clear hT
  go_enter Tryd.func4, Tryd.ntmps4
  go_wp2_with fail
  (with_reducible refine (known_any w h0 HT.out).mono ?_)
  rintro ee w1 ⟨rfl, g1⟩
  dsimp only
  go_wp2
  go_loopw [6] (fun i wr => ∃ (k : Nat) (A : Array UInt8), k ≤ m ∧ i = .int .i64 k ∧ A.size = m ∧ wr = w1.alloc (.cells (A.map encB) 5)) (fun i _ => m - (intOf i).toNat)
  case atStart => exact ⟨0, Array.replicate m 0, by omega, rfl, by simp, by simp⟩
  case round =>
    obtain ⟨k, A, hk, rfl, hA, hw⟩ := hrel
    by_cases hlt : k < m
    · obtain ⟨v, gs⟩ : ∃ v, wr.cell? ⟨w1.heap.size, k, none⟩ = some v := by
        rw [hw, alloc_cell, Array.getElem?_eq_getElem (by simp; omega)]; exact ⟨_, rfl⟩
      have gf : wr.frozen? ⟨w1.heap.size, k, none⟩ = false := by rw [hw, alloc_frozen]
      have HW := Lib.hid hw
      have HA := Lib.hid hA
      clear hw hA
      go_wp2
      go_roundw
      case rel =>
        obtain ⟨b, hb⟩ : ∃ b : UInt8, (x + wrap64 ((k : Int) * (k : Int))) % 256 = (b.toNat : Int) := ⟨_, byte_int _ (Int.emod_nonneg _ (by omega)) (Int.emod_lt_of_pos _ (by omega))⟩
        refine ⟨k + 1, A.setIfInBounds k b, by omega, by go_num, by rw [Array.size_setIfInBounds]; exact HA.out, ?_⟩
        rw [hb, HW.out, alloc_set, ← map_setB]
        rfl
      case measure => simp [intOf]; omega
    · have hkm : k = m := by omega
      subst hkm
      clear hlt hk
      have HW := Lib.hid hw
      have HA := Lib.hid hA
      clear hw hA
      have gw : w.grownBy wr none := by rw [HW.out]; exact World.grownBy.trans g1 (World.grownBy_alloc _ _ _)
      have hsz : wr.heap.size = w1.heap.size + 1 := by rw [HW.out, alloc_size]
      have HSZ := Lib.hid hsz
      have hpart : Hid (Part wr wr.heap.size (.slice (some ⟨w1.heap.size, 0, none⟩) k k) A.toList) := by
        refine ⟨_, k, w1.heap.size, 0, by rw [Array.length_toList, HA.out], by rw [Array.length_toList, HA.out]; exact Nat.le_refl _, fun h => by simp at h, by rw [hsz]; omega, fun _ => rfl, fun j hj => ?_⟩
        rw [HW.out, Nat.zero_add, alloc_cell]
        have e := encB_at A.toList j hj
        rw [← e]
        simp
      clear hsz
      have hflat : Hid ([A.toList].flatten = A.toList) := by show _ = _; simp
      have hK : Hid (∃ KK, (digest A.toList).map encB = KK ∧ ∀ W : World, (binOp .eql 26 (.agg KK) (.agg KK)).run Tryd.prog W = .ok (.bool true) W) := ⟨_, rfl, fun W => eql_key _ (digest_size _) W⟩
      obtain ⟨KK, hKK, heq⟩ := hK.out
      have HKK := Lib.hid hKK
      have hl : Hid (A.toList.length ≤ 10000) := by show _ ≤ _; rw [Array.length_toList, HA.out]; omega
      clear hKK hmk
      have ha1 := World.grownBy_alloc wr (.cells #[.slice (some ⟨w1.heap.size, 0, none⟩) k k] 24) none
      have ga1 : w.grownBy (wr.alloc (.cells #[.slice (some ⟨w1.heap.size, 0, none⟩) k k] 24)) none := World.grownBy.trans gw ha1
      go_wp2_with fail
      (with_reducible refine (sum_any (wr.heap.size + 1) 1 1 _ [A.toList] _ rfl (by rw [alloc_size]; exact Nat.le_refl _) (Nat.le_refl _) (by unfold maxLen; omega) (by rw [hflat.out]; exact hl.out) (fun j hj => ga1.cell (HT.out j hj) (by simp)) (parts_one wr _ A.toList 24 wr.heap.size (Nat.le_refl _) hpart.out)).mono ?_)
      rintro ee w2 ⟨he, g2⟩
      rw [hflat.out, HKK.out] at he
      subst he
      dsimp only
      have gw2 := World.grownBy.trans ha1 g2
      have hp2 : Hid (Part w2 w2.heap.size (.slice (some ⟨w1.heap.size, 0, none⟩) k k) A.toList) := by
        obtain ⟨a, cap, b, o, q1, q2, q3, q4, q5, q6⟩ := hpart.out.grown gw2 (by simp)
        exact ⟨a, cap, b, o, q1, q2, q3, Nat.lt_of_lt_of_le q4 gw2.size, q5, q6⟩
      go_wp2_with fail
      (with_reducible refine (of_any (w2.heap.size + 1) 1 1 _ [A.toList] _ rfl (Nat.le_refl _) (by unfold maxLen; omega) (by rw [hflat.out]; exact hl.out) (parts_one w2 _ A.toList 24 w2.heap.size (Nat.le_refl _) hp2.out)).mono ?_)
      rintro ee w3 ⟨he, g3⟩
      rw [hflat.out, HKK.out] at he
      subst he
      dsimp only
      go_wp2
      go_ret
      exact ⟨rfl, World.grownBy.trans (World.grownBy.trans gw gw2) (World.grownBy.trans (World.grownBy_alloc _ _ _) g3)⟩
end Go.Proofs.YtpiikgobdhgldaaDoor
