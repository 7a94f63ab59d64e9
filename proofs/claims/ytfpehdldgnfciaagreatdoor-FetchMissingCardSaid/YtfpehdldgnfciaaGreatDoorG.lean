/- What sha's add does to a sum under way where what comes doesn't fill its block. -/
import Derived.Test.YtfpehdldgnfciaaGreatDoorF
namespace Go.Proofs.YtfpehdldgnfciaaGreatDoor.Sha
open Go.RowKit Go.Sort

set_option maxRecDepth 1000000
set_option maxHeartbeats 1000000 in
theorem add_part (bx bp op cap len n f : Nat) (a : Option Addr) (P : Nat → UInt8) (s : St) (R : Array UInt8) (w : World) (hR : R.size = 64) (hbp : bp ≠ bx)
    (hlc : len ≤ cap) (hn : n + len ≤ 100000) (hf : 0 < f) (hfl : f + len < 64) (ha : 0 < len → a = some ⟨bp, op, none⟩)
    (hp : ∀ j, j < len → w.cell? ⟨bp, op + j, none⟩ = some (.int .u8 ((P j).toNat : Int)))
    (hL : Lies w bx s R f n) :
    Calls Tryz.prog 47 #[.pointer (some ⟨bx, 0, none⟩), .slice a len cap] w fun e w' => e = .returned (.tuple #[]) ∧ w.grownBy w' (some bx) ∧
      Lies w' bx s (lay R f (bytesOf P 0 len)) (f + len) (n + len) := by
  have g72 : w.cell? ⟨bx, 72, none⟩ = some (.int .i64 (f : Int)) := by rw [cell_in hL, obj_filled _ _ _ _ hR]
  have g73 : w.cell? ⟨bx, 73, none⟩ = some (.int .u64 (n : Int)) := by rw [cell_in hL, obj_length _ _ _ _ hR]
  have f73 : w.frozen? ⟨bx, 73, none⟩ = false := free_in hL _
  have f72 : w.frozen? ⟨bx, 72, none⟩ = false := free_in hL _
  have hlen1 : (bytesOf P 0 len).length = len := by simp [bytesOf]
  obtain ⟨R2, hR2⟩ : ∃ x, lay R f (bytesOf P 0 len) = x := ⟨_, rfl⟩
  rw [hR2]
  have HR2 : Hid (R2.size = 64) := by show _ = _; rw [← hR2]; exact lay_size _ _ _ hR (by rw [hlen1]; omega)
  have HL1 : Hid (Lies (w.setCell ⟨bx, 73, none⟩ (.int .u64 ((n : Int) + (len : Int)))) bx s R f (n + len)) := by
    have := lies_length hR (n + len) hL
    simp only [Int.natCast_add] at this
    exact this
  have hsrc : Hid (∀ j v, ((bytesOf P 0 len).map encB)[j]? = some v → (w.setCell ⟨bx, 73, none⟩ (.int .u64 ((n : Int) + (len : Int)))).cell? ((⟨bp, op, none⟩ : Addr).add j) = some v) := by
    intro j v hv
    have hj : j < len := by
      have := (List.getElem?_eq_some_iff.1 hv).1
      simpa [bytesOf] using this
    simp only [bytesOf, List.getElem?_map, List.getElem?_range hj, Option.map_some, Option.some.injEq, Nat.zero_add] at hv
    rw [← hv, Addr.add_mid]
    exact (grown_set w bx 73 _).cell (hp j hj) (by simpa using hbp)
  have hone : Hid (∀ v ∈ (bytesOf P 0 len).map encB, v.oneCell' = true) := by
    intro v hv
    obtain ⟨x, _, rfl⟩ := List.mem_map.1 hv
    rfl
  have hlen : Hid (((bytesOf P 0 len).map encB).length = len) := by show _ = _; simp [bytesOf]
  have HR := Lib.hid hR
  have HRD := Lib.hid hR2
  have hmin : Hid (len = Nat.min len (64 - f)) := by
    have h2 : Nat.min len (64 - f) = len := Nat.min_eq_left (by omega)
    show _ = _
    omega
  have HA := Lib.hid ha
  clear hp hL hR hR2 hlen1 ha
  have hf1 : (0 : Int) < (f : Int) := by omega
  have hf64 : (f : Int) ≤ 64 := by omega
  have hf65 : f ≤ 64 := by omega
  have hsl : ∀ W : World, Sem.run Tryz.prog (Instr.sliceAt 117 (.pointer (some ⟨bx, 8, none⟩)) (some (.int .i64 (f : Int))) none none) W = Result.ok (.slice (some ⟨bx, 8 + f, none⟩) (64 - f) (64 - f)) W := by
    intro W
    have h := run_sliceAt_array_l (P := Tryz.prog) W 117 ⟨bx, 8, none⟩ (by kernel_rfl) .i64 (f : Int) (by omega) (by rw [show Tryz.prog.arrayLen 117 = 64 by kernel_rfl]; omega)
    have hs : (sizeOf (Tryz.prog.elem 117)).run Tryz.prog W = .ok 1 W := by kernel_rfl
    rw [h, hs, show Tryz.prog.arrayLen 117 = 64 by kernel_rfl]
    simp only [Result.andThen, slicedAt]
    rw [if_neg (by omega), Addr.add_mid]
    simp
  by_cases h0 : len = 0
  · subst h0
    go_enter Tryz.func47, Tryz.ntmps47
    go_wp2
    go_region_law ((refine step_nothing rfl _ _ 24 24 rfl 5 Tryz.underlying24 info5 (some ⟨bx, 8 + f, none⟩) a (64 - f) (64 - f) 0 cap ?_ ?_ ?_ ?_); (exact rfl); (exact rfl); (exact hmin.out.symm))
    go_wp2
    all_goals
      refine bodyPost_ret (results_none rfl _ _ _) rfl ?_
      refine ⟨rfl, ?_, ?_⟩
      · have h := World.grownBy.trans (grown_set w bx 73 (.int .u64 (n : Int))) (grown_set _ bx 72 (.int .i64 (f : Int)))
        exact ⟨h.os, h.tape, h.output, h.size, h.block⟩
      · have h := lies_filled HR.out f HL1.out
        rw [show (n : Int) + ((0 : Nat) : Int) = (n : Int) by simp] at h
        have e : R2 = R := by rw [← HRD.out]; simp [bytesOf, lay]
        rw [e]
        exact h
  · have hpos : 0 < len := by omega
    obtain rfl := HA.out hpos
    by_cases hcl : cap = len
    · subst hcl
      go_enter Tryz.func47, Tryz.ntmps47
      go_wp2
      go_region_law ((refine step_row rfl _ _ 24 24 rfl 5 Tryz.underlying24 info5 bx (8 + f) (64 - f) (64 - f) _ cap cap ?_ ?_ _ 120 HL1.out ((bytesOf P 0 cap).map encB) ?_ hsrc.out ?_ hone.out ?_); (exact rfl); (exact rfl); (rw [hlen.out]; exact hmin.out); (rw [hlen.out, obj_size _ _ _ _ HR.out]; omega); (generalize hwz : World.setRow _ bx _ = wz); (rw [hlen.out]))
      have HW1 : Hid ((w.setCell ⟨bx, 73, none⟩ (.int .u64 ((n : Int) + (cap : Int)))).grownBy wz (some bx)) := by
        have h := grown_row (w.setCell ⟨bx, 73, none⟩ (.int .u64 ((n : Int) + (cap : Int)))).drew bx ((obj s R f (n + cap)).toList.take (8 + f) ++ ((bytesOf P 0 cap).map encB ++ (obj s R f (n + cap)).toList.drop (8 + f + ((bytesOf P 0 cap).map encB).length))).toArray
        rw [hwz] at h
        exact ⟨h.os, h.tape, h.output, h.size, h.block⟩
      have HL2 : Hid (Lies wz bx s R2 f (n + cap)) := by
        rw [← HRD.out, ← hwz]
        exact lies_row f (bytesOf P 0 cap) HR.out (by simp [bytesOf]; omega) HL1.out
      clear hwz
      have c72 := cell_in HL2.out 72
      rw [obj_filled _ _ _ _ HR2.out] at c72
      have z72 := free_in HL2.out 72
      go_wp2
      refine bodyPost_ret (results_none rfl _ _ _) rfl ?_
      refine ⟨rfl, World.grownBy.trans (grown_set w bx 73 _) (World.grownBy.trans HW1.out (grown_set wz bx 72 _)), ?_⟩
      have h := lies_filled HR2.out (f + cap) HL2.out
      simp only [Int.natCast_add] at h
      exact h
    · go_enter Tryz.func47, Tryz.ntmps47
      go_wp2
      go_region_law ((refine step_row rfl _ _ 24 24 rfl 5 Tryz.underlying24 info5 bx (8 + f) (64 - f) (64 - f) _ len cap ?_ ?_ _ 120 HL1.out ((bytesOf P 0 len).map encB) ?_ hsrc.out ?_ hone.out ?_); (exact rfl); (exact rfl); (rw [hlen.out]; exact hmin.out); (rw [hlen.out, obj_size _ _ _ _ HR.out]; omega); (generalize hwz : World.setRow _ bx _ = wz); (rw [hlen.out]))
      have HW1 : Hid ((w.setCell ⟨bx, 73, none⟩ (.int .u64 ((n : Int) + (len : Int)))).grownBy wz (some bx)) := by
        have h := grown_row (w.setCell ⟨bx, 73, none⟩ (.int .u64 ((n : Int) + (len : Int)))).drew bx ((obj s R f (n + len)).toList.take (8 + f) ++ ((bytesOf P 0 len).map encB ++ (obj s R f (n + len)).toList.drop (8 + f + ((bytesOf P 0 len).map encB).length))).toArray
        rw [hwz] at h
        exact ⟨h.os, h.tape, h.output, h.size, h.block⟩
      have HL2 : Hid (Lies wz bx s R2 f (n + len)) := by
        rw [← HRD.out, ← hwz]
        exact lies_row f (bytesOf P 0 len) HR.out (by simp [bytesOf]; omega) HL1.out
      clear hwz
      have c72 := cell_in HL2.out 72
      rw [obj_filled _ _ _ _ HR2.out] at c72
      have z72 := free_in HL2.out 72
      go_wp2
      refine bodyPost_ret (results_none rfl _ _ _) rfl ?_
      refine ⟨rfl, World.grownBy.trans (grown_set w bx 73 _) (World.grownBy.trans HW1.out (grown_set wz bx 72 _)), ?_⟩
      have h := lies_filled HR2.out (f + len) HL2.out
      simp only [Int.natCast_add] at h
      exact h
end Go.Proofs.YtfpehdldgnfciaaGreatDoor.Sha
