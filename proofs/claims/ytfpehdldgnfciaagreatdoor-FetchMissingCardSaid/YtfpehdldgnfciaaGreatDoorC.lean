/- One block mixed into the sum: what sha's mix does to the world. -/
import Derived.Test.YtfpehdldgnfciaaGreatDoorB
import Derived.IntWalk
namespace Go.Proofs.YtfpehdldgnfciaaGreatDoor.Sha
open Go.RowKit Go.Sort

set_option maxRecDepth 1000000
set_option maxHeartbeats 4000000 in
theorem mix_any (bx bp op cap : Nat) (P : Nat → UInt8) (s : St) (w : World)
    (hp : ∀ j, j < 64 → w.cell? ⟨bp, op + j, none⟩ = some (.int .u8 ((P j).toNat : Int)))
    (hT : ∀ j, j < 64 → w.cell? ⟨1, j, none⟩ = some (encW table[j]!))
    (hH : Holds encW w bx 0 s.row) :
    Calls Tryz.prog 59 #[.pointer (some ⟨bx, 0, none⟩), .slice (some ⟨bp, op, none⟩) 64 cap] w fun e w' => e = .returned (.tuple #[]) ∧
      ∃ (arr : Array Value) (q : Nat), w' = (putRow encW (w.alloc (.cells arr 124)) bx 0 (mixed s P).row).drewN q := by
  have hbp : bp < w.heap.size := World.block_lt_of_cell? _ _ (hp 0 (by omega))
  have hbt : 1 < w.heap.size := World.block_lt_of_cell? _ _ (hT 0 (by omega))
  have hbx : bx < w.heap.size := World.block_lt_of_cell? _ _ (hH 0 (by simp [St.row])).1
  have HP := Lib.hid hp
  have HT := Lib.hid hT
  have HH := Lib.hid hH
  clear hp hT hH
  go_enter Tryz.func59, Tryz.ntmps59
  go_wp2
  go_loopw [22] (fun i wr => ∃ k q : Nat, k ≤ 16 ∧ i = .int .i64 k ∧ wr = (w.alloc (.cells ((sch P k).map encW) 124)).drewN q) (fun i _ => 16 - (intOf i).toNat)
  case atStart => exact ⟨0, 0, Nat.zero_le _, rfl, congrArg (fun c => w.alloc (.cells c 124)) (by kernel_rfl)⟩
  case round =>
    obtain ⟨k, q, hk, rfl, hw⟩ := hrel
    by_cases hlt : k < 16
    · skip
      obtain ⟨c0, h0⟩ : ∃ x, P (4 * k) = x := ⟨_, rfl⟩
      obtain ⟨c1, h1⟩ : ∃ x, P (4 * k + 1) = x := ⟨_, rfl⟩
      obtain ⟨c2, h2⟩ : ∃ x, P (4 * k + 2) = x := ⟨_, rfl⟩
      obtain ⟨c3, h3⟩ : ∃ x, P (4 * k + 3) = x := ⟨_, rfl⟩
      have g : ∀ j, j < 64 → wr.cell? ⟨bp, op + j, none⟩ = some (.int .u8 ((P j).toNat : Int)) := by
        intro j hj
        rw [hw, World.cell?_drewN, World.cell?_alloc_old _ _ _ (Nat.ne_of_lt hbp)]
        exact HP.out j hj
      have g0 := g (4 * k) (by omega)
      have g1 := g (4 * k + 1) (by omega)
      have g2 := g (4 * k + 2) (by omega)
      have g3 := g (4 * k + 3) (by omega)
      rw [h0] at g0
      rw [h1] at g1
      rw [h2] at g2
      rw [h3] at g3
      clear g
      have gs : ∃ v, wr.cell? ⟨w.heap.size, k, none⟩ = some v := by
        rw [hw, World.cell?_drewN, alloc_cell, map_at _ _ (by rw [sch_size]; omega)]; exact ⟨_, rfl⟩
      obtain ⟨v, gs⟩ := gs
      have gf : wr.frozen? ⟨w.heap.size, k, none⟩ = false := by
        rw [hw, World.frozen?_drewN, alloc_frozen]
      have hW := Lib.hid hw
      have b0 := c0.toNat_lt
      have b1 := c1.toNat_lt
      have b2 := c2.toNat_lt
      have b3 := c3.toNat_lt
      have HWD := Lib.hid (word_eq P k h0 h1 h2 h3)
      clear hw h0 h1 h2 h3
      go_wp2
      go_region
      go_wp2
      go_roundw
      case rel =>
        refine ⟨k + 1, q + 1, by omega, by go_num, ?_⟩
        rw [HWD.out, hW.out, sch_word P k hlt, ← map_set, ← alloc_set]
        rfl
      case measure => simp [intOf]; omega
    · have hW := Lib.hid hw
      clear hw
      have hk16 : k = 16 := by omega
      subst hk16
      clear hlt hk
      go_wp2
      go_loopw [6] (fun i wr => ∃ k q : Nat, 16 ≤ k ∧ k ≤ 64 ∧ i = .int .i64 k ∧ wr = (w.alloc (.cells ((sch P k).map encW) 124)).drewN q) (fun i _ => 64 - (intOf i).toNat)
      case atStart => exact ⟨16, q, by omega, by omega, rfl, hW.out⟩
      case round =>
        clear hW
        obtain ⟨k, q, hk1, hk2, rfl, hw⟩ := hrel
        by_cases hlt : k < 64
        · skip
          have gc : ∀ j, j < 64 → wr.cell? ⟨w.heap.size, j, none⟩ = some (.int .u32 (((sch P k)[j]!).toNat : Int)) := by
            intro j hj
            rw [hw, World.cell?_drewN, alloc_cell, map_at _ _ (by rw [sch_size]; exact hj)]; rfl
          obtain ⟨x16, h16⟩ : ∃ x, (sch P k)[k - 16]! = x := ⟨_, rfl⟩
          obtain ⟨x15, h15⟩ : ∃ x, (sch P k)[k - 15]! = x := ⟨_, rfl⟩
          obtain ⟨x7, h7⟩ : ∃ x, (sch P k)[k - 7]! = x := ⟨_, rfl⟩
          obtain ⟨x2, h2⟩ : ∃ x, (sch P k)[k - 2]! = x := ⟨_, rfl⟩
          have g16 := gc (k - 16) (by omega)
          have g15 := gc (k - 15) (by omega)
          have g7 := gc (k - 7) (by omega)
          have g2 := gc (k - 2) (by omega)
          obtain ⟨v, gs⟩ : ∃ v, wr.cell? ⟨w.heap.size, k, none⟩ = some v := ⟨_, gc k hlt⟩
          rw [h16] at g16
          rw [h15] at g15
          rw [h7] at g7
          rw [h2] at g2
          clear gc
          have gf : wr.frozen? ⟨w.heap.size, k, none⟩ = false := by
            rw [hw, World.frozen?_drewN, alloc_frozen]
          have hL : later (sch P k) k = x16 + sig0 x15 + x7 + sig1 x2 := by unfold later; rw [h16, h15, h7, h2]
          have HL := Lib.hid hL
          have hW := Lib.hid hw
          clear hw h16 h15 h7 h2 hL
          have b16 := x16.toNat_lt
          have b15 := x15.toNat_lt
          have b7 := x7.toNat_lt
          have b2 := x2.toNat_lt
          have w15 : IntKind.i64.wrap ((k : Int) - 15) = (k : Int) - 15 := IntWalk.i64_in _ (by omega)
          have p15 : 0 ≤ (k : Int) - 15 := by omega
          have l15 : (k : Int) - 15 < 64 := by omega
          have t15 : ((k : Int) - 15).toNat = k - 15 := by omega
          have w2 : IntKind.i64.wrap ((k : Int) - 2) = (k : Int) - 2 := IntWalk.i64_in _ (by omega)
          have p2 : 0 ≤ (k : Int) - 2 := by omega
          have r2 : 2 ≤ (k : Int) := by omega
          have r15 : 15 ≤ (k : Int) := by omega
          have l2 : (k : Int) - 2 < 64 := by omega
          have t2 : ((k : Int) - 2).toNat = k - 2 := by omega
          go_wp2
          go_quiet ((go_at_call 65; exact Calls.quiet_of_same (rot_gen _ _ _ (by decide))))
          generalize hn1 : nq = n1
          clear hn1
          go_wp2
          go_quiet ((go_at_call 65; exact same_again (rot_gen _ _ _ (by decide))))
          clear w15 w2
          go_wp2
          go_region
          go_wp2
          go_roundw
          case rel =>
            refine ⟨k + 1, q + (n1 + nq + 1), by omega, by omega, by go_num, ?_⟩
            rw [later_eq, ← HL.out, hW.out, World.drewN_drewN, sch_later P k hk1, ← map_set, ← alloc_set]
            rfl
          case measure => simp [intOf]; omega
        · have hk64 : k = 64 := by omega
          subst hk64
          clear hlt hk1 hk2
          obtain ⟨a0, b0, c0, d0, e0, f0, g0, h0⟩ := s
          have go : ∀ j (x : UInt32), j < 8 → (St.row ⟨a0, b0, c0, d0, e0, f0, g0, h0⟩).toList[j]? = some x → wr.cell? ⟨bx, j, none⟩ = some (.int .u32 (x.toNat : Int)) := by
            intro j x hj hx
            have h1 := (HH.out j (by simp [St.row]; exact hj)).1
            rw [Nat.zero_add] at h1
            rw [hw, World.cell?_drewN, World.cell?_alloc_old _ _ _ (Nat.ne_of_lt hbx), h1]
            have h2 : (St.row ⟨a0, b0, c0, d0, e0, f0, g0, h0⟩)[j]! = x := by
              rw [getElem!_def]
              have h3 : (St.row ⟨a0, b0, c0, d0, e0, f0, g0, h0⟩)[j]? = some x := by rw [← hx]; simp
              rw [h3]
            rw [h2]; rfl
          have q0 := go 0 _ (by omega) rfl
          have q1 := go 1 _ (by omega) rfl
          have q2 := go 2 _ (by omega) rfl
          have q3 := go 3 _ (by omega) rfl
          have q4 := go 4 _ (by omega) rfl
          have q5 := go 5 _ (by omega) rfl
          have q6 := go 6 _ (by omega) rfl
          have q7 := go 7 _ (by omega) rfl
          clear go
          have hW := Lib.hid hw
          clear hw
          go_wp2
          go_quiet (fail)
          go_wp2
          go_quiet (fail)
          clear q0 q1 q2 q3 q4 q5 q6 q7
          go_wp2
          go_loopw [9, 10, 11, 12, 13, 14, 15, 16, 154] (fun va vb vc vd ve vf vg vh i wr => ∃ (k q : Nat) (t : St), k ≤ 64 ∧ i = .int .i64 k ∧ t = rounds table (sch P 64) ⟨a0, b0, c0, d0, e0, f0, g0, h0⟩ k ∧
              va = .int .u32 (t.a.toNat : Int) ∧ vb = .int .u32 (t.b.toNat : Int) ∧ vc = .int .u32 (t.c.toNat : Int) ∧ vd = .int .u32 (t.d.toNat : Int) ∧ ve = .int .u32 (t.e.toNat : Int) ∧ vf = .int .u32 (t.f.toNat : Int) ∧ vg = .int .u32 (t.g.toNat : Int) ∧ vh = .int .u32 (t.h.toNat : Int) ∧
              wr = (w.alloc (.cells ((sch P 64).map encW) 124)).drewN q) (fun _ _ _ _ _ _ _ _ i _ => 64 - (intOf i).toNat)
          case atStart => exact ⟨0, _, _, by omega, rfl, rfl, rfl, rfl, rfl, rfl, rfl, rfl, rfl, rfl, by rw [hW.out, World.drewN_drewN, World.drewN_drewN]⟩
          case round =>
            clear hW
            obtain ⟨k, q, t, hk, rfl, ht, rfl, rfl, rfl, rfl, rfl, rfl, rfl, rfl, hw⟩ := hrel
            by_cases hlt : k < 64
            · skip
              have gk := HT.out k hlt
              obtain ⟨kk, hkk⟩ : ∃ x, table[k]! = x := ⟨_, rfl⟩
              obtain ⟨vv, hvv⟩ : ∃ x, (sch P 64)[k]! = x := ⟨_, rfl⟩
              have gk : wr.cell? ⟨1, k, none⟩ = some (.int .u32 (kk.toNat : Int)) := by
                rw [hw, World.cell?_drewN, World.cell?_alloc_old _ _ _ (Nat.ne_of_lt hbt), HT.out k hlt, hkk]; rfl
              have gv : wr.cell? ⟨w.heap.size, k, none⟩ = some (.int .u32 (vv.toNat : Int)) := by
                rw [hw, World.cell?_drewN, alloc_cell, map_at _ _ (by rw [sch_size]; exact hlt), hvv]; rfl
              obtain ⟨a, b, c, d, e, f, g, h⟩ := t
              have HR : Hid (rounds table (sch P 64) ⟨a0, b0, c0, d0, e0, f0, g0, h0⟩ (k + 1) = turnOnce ⟨a, b, c, d, e, f, g, h⟩ kk vv) := by
                show rounds table (sch P 64) ⟨a0, b0, c0, d0, e0, f0, g0, h0⟩ (k + 1) = _
                rw [← hkk, ← hvv, ht]; rfl
              have hW := Lib.hid hw
              clear hw ht hkk hvv
              go_wp2_with ((go_at_call 65; refine (rot_gen _ _ _ (by decide)).mono ?_; rintro ee ww ⟨rfl, rfl⟩))
              go_quiet (fail)
              go_wp2_with ((go_at_call 65; refine (rot_gen _ _ _ (by decide)).mono ?_; rintro ee ww ⟨rfl, rfl⟩))
              go_roundw
              case rel =>
                have h1 := one_eq a b c d e f g h kk vv
                have h2 := two_eq a b c d e f g h
                exact ⟨k + 1, q + nq, turnOnce ⟨a, b, c, d, e, f, g, h⟩ kk vv, by omega, by go_num, HR.out.symm, congrArg (Value.int .u32) (by rw [h1, h2, add32]; rfl), rfl, rfl, rfl,
                  congrArg (Value.int .u32) (by rw [h1, add32]; rfl), rfl, rfl, rfl, by rw [hW.out, World.drewN_drewN]⟩
              case measure => simp [intOf]; omega
            · have hk64 : k = 64 := by omega
              subst hk64
              clear hlt hk
              have go : ∀ j (x : UInt32), j < 8 → (St.row ⟨a0, b0, c0, d0, e0, f0, g0, h0⟩).toList[j]? = some x → wr.cell? ⟨bx, j, none⟩ = some (.int .u32 (x.toNat : Int)) := by
                intro j x hj hx
                have h1 := (HH.out j (by simp [St.row]; exact hj)).1
                rw [Nat.zero_add] at h1
                rw [hw, World.cell?_drewN, World.cell?_alloc_old _ _ _ (Nat.ne_of_lt hbx), h1]
                have h2 : (St.row ⟨a0, b0, c0, d0, e0, f0, g0, h0⟩)[j]! = x := by
                  rw [getElem!_def]
                  have h3 : (St.row ⟨a0, b0, c0, d0, e0, f0, g0, h0⟩)[j]? = some x := by rw [← hx]; simp
                  rw [h3]
                rw [h2]; rfl
              have gf : ∀ j, j < 8 → wr.frozen? ⟨bx, j, none⟩ = false := by
                intro j hj
                have h1 := (HH.out j (by simp [St.row]; exact hj)).2
                rw [Nat.zero_add] at h1
                rw [hw, World.frozen?_drewN, World.frozen?_alloc_old _ _ _ (Nat.ne_of_lt hbx), h1]
              have q0 := go 0 _ (by omega) rfl
              have q1 := go 1 _ (by omega) rfl
              have q2 := go 2 _ (by omega) rfl
              have q3 := go 3 _ (by omega) rfl
              have q4 := go 4 _ (by omega) rfl
              have q5 := go 5 _ (by omega) rfl
              have q6 := go 6 _ (by omega) rfl
              have q7 := go 7 _ (by omega) rfl
              have f0' := gf 0 (by omega)
              have f1' := gf 1 (by omega)
              have f2' := gf 2 (by omega)
              have f3' := gf 3 (by omega)
              have f4' := gf 4 (by omega)
              have f5' := gf 5 (by omega)
              have f6' := gf 6 (by omega)
              have f7' := gf 7 (by omega)
              clear go gf
              obtain ⟨a, b, c, d, e, f, g, h⟩ := t
              have HTT := Lib.hid ht
              have hW := Lib.hid hw
              clear hw ht
              go_wp2
              go_region
              go_wp2
              go_region
              go_wp2
              go_region
              go_wp2
              go_region
              go_wp2
              go_region
              go_wp2
              go_region
              go_wp2
              go_region
              go_wp2
              go_region
              go_wp2
              go_end0
              have HM : mixed ⟨a0, b0, c0, d0, e0, f0, g0, h0⟩ P = ⟨a0 + a, b0 + b, c0 + c, d0 + d, e0 + e, f0 + f, g0 + g, h0 + h⟩ := by
                unfold mixed
                rw [← HTT.out]
              refine ⟨rfl, (sch P 64).map encW, q + 8, ?_⟩
              rw [HM, add32, add32, add32, add32, add32, add32, add32, add32, hW.out]
              exact eight_drawn _ bx q _ _ _ _ _ _ _ _ _ (holds_alloc _ _ HH.out hbx)
end Go.Proofs.YtfpehdldgnfciaaGreatDoor.Sha
