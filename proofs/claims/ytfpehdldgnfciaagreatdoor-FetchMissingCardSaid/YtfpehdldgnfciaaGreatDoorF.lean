/- What sha's add does to a sum under way that holds a part of a block. -/
import Derived.Test.YtfpehdldgnfciaaGreatDoorE
namespace Go.Proofs.YtfpehdldgnfciaaGreatDoor.Sha
open Go.RowKit Go.Sort

/-- copy into a row that is known whole, as one step of a region that draws its order. -/
theorem step_row {Q0 : Program} {ops : Array Oper} {o : Oper} {a : Act} {w : World} {K : Act → World → Prop} {Q : Exit → Act → World → Prop} {E : Prop} (hgd : o.guard = none) (d s : Operand) (dT sT : TypeId)
    (ho : o.op = .call { callee := .builtin .copy, args := #[d, s], argTypes := #[dT, sT] }) (elem : TypeId) (hu : Q0.underlying dT = some (.slice elem)) (hsz : (Q0.info? elem).map (·.size) = some 1)
    (g off dLen dCap : Nat) (ad : Addr) (sLen sCap : Nat) (hd : a.eval d = .slice (some ⟨g, off, none⟩) dLen dCap) (hs : a.eval s = .slice (some ad) sLen sCap)
    (cur : Array Value) (t : TypeId) (hg : w.heap[g]? = some (.cells cur t (0, 0))) (cs : List Value) (hn : cs.length = Nat.min sLen dLen)
    (hsrc : ∀ j v, cs[j]? = some v → w.cell? (ad.add j) = some v) (hfit : off + cs.length ≤ cur.size) (h1 : ∀ v ∈ cs, v.oneCell' = true)
    (h : K (a.put o.dst (goInt cs.length)) (w.setRow g (cur.toList.take off ++ (cs ++ cur.toList.drop (off + cs.length))).toArray)) :
    if Region.wanted o (yielded ops a.tmps) = true then Oper.wp Q0 o a w K Q else E := by
  rw [if_pos (by simp [Region.wanted, hgd])]
  have hrun := run_copy_row (P := Q0) w dT sT o.type elem g off dLen dCap ad sLen sCap cur t cs hu hsz hg hn hsrc hfit h1
  unfold Oper.wp
  simp [execOp, ho, resolve, invoke, builtin, hd, hs, hrun, Result.andThen]
  exact h

/-- .. where there is nothing to copy. -/
theorem step_nothing {Q0 : Program} {ops : Array Oper} {o : Oper} {a : Act} {w : World} {K : Act → World → Prop} {Q : Exit → Act → World → Prop} {E : Prop} (hgd : o.guard = none) (d s : Operand) (dT sT : TypeId)
    (ho : o.op = .call { callee := .builtin .copy, args := #[d, s], argTypes := #[dT, sT] }) (elem : TypeId) (hu : Q0.underlying dT = some (.slice elem)) (hsz : (Q0.info? elem).map (·.size) = some 1)
    (dp sp : Option Addr) (dLen dCap sLen sCap : Nat) (hd : a.eval d = .slice dp dLen dCap) (hs : a.eval s = .slice sp sLen sCap) (hn : Nat.min sLen dLen = 0)
    (h : K (a.put o.dst (goInt 0)) w) :
    if Region.wanted o (yielded ops a.tmps) = true then Oper.wp Q0 o a w K Q else E := by
  rw [if_pos (by simp [Region.wanted, hgd])]
  have hrun := run_copy_none (P := Q0) w dT sT o.type elem dp sp dLen dCap sLen sCap hu hsz hn
  unfold Oper.wp
  simp [execOp, ho, resolve, invoke, builtin, hd, hs, hrun, Result.andThen]
  exact h

set_option maxRecDepth 1000000
set_option maxHeartbeats 1000000 in
/-- A block is filled up, mixed in, and more comes behind it. -/
theorem add_full (bx bp op op2 cap len len2 n N f d : Nat) (a : Option Addr) (P P2 : Nat → UInt8) (s s2 : St) (R R2 : Array UInt8) (w : World) (hR : R.size = 64) (hbx : bx ≠ 1) (hbp : bp ≠ bx)
    (hlc : len ≤ cap) (hn : n + len ≤ 100000) (hN : n + len = N) (hf : 0 < f) (hd : 0 < d) (hfd : f + d = 64) (hld : d + len2 = len) (hop : op + d = op2) (ha : a = some ⟨bp, op, none⟩)
    (hR2 : R2 = lay R f (bytesOf P 0 d)) (hs2 : s2 = mixed s fun j => R2[j]!)
    (hp : ∀ j, j < d → w.cell? ⟨bp, op + j, none⟩ = some (.int .u8 ((P j).toNat : Int)))
    (hp2 : ∀ j, j < len2 → w.cell? ⟨bp, op2 + j, none⟩ = some (.int .u8 ((P2 j).toNat : Int)))
    (hT : ∀ j, j < 64 → w.cell? ⟨1, j, none⟩ = some (encW table[j]!))
    (hL : Lies w bx s R f n) :
    Calls Tryz.prog 47 #[.pointer (some ⟨bx, 0, none⟩), .slice a len cap] w fun e w' => e = .returned (.tuple #[]) ∧ w.grownBy w' (some bx) ∧
      Lies w' bx (blocks P2 s2 (len2 / 64)) (lay R2 0 (bytesOf P2 (64 * (len2 / 64)) (len2 % 64))) (len2 % 64) N := by
  have g72 : w.cell? ⟨bx, 72, none⟩ = some (.int .i64 (f : Int)) := by rw [cell_in hL, obj_filled _ _ _ _ hR]
  have g73 : w.cell? ⟨bx, 73, none⟩ = some (.int .u64 (n : Int)) := by rw [cell_in hL, obj_length _ _ _ _ hR]
  have f73 : w.frozen? ⟨bx, 73, none⟩ = false := free_in hL _
  have hlen1 : (bytesOf P 0 d).length = d := by simp [bytesOf]
  have HR2 : Hid (R2.size = 64) := by show _ = _; rw [hR2]; exact lay_size _ _ _ hR (by rw [hlen1]; omega)
  have HL1 : Hid (Lies (w.setCell ⟨bx, 73, none⟩ (.int .u64 ((n : Int) + (len : Int)))) bx s R f N) := by
    have := lies_length hR N hL
    rw [← hN] at this ⊢
    simp only [Int.natCast_add] at this
    exact this
  have hsrc : Hid (∀ j v, ((bytesOf P 0 d).map encB)[j]? = some v → (w.setCell ⟨bx, 73, none⟩ (.int .u64 ((n : Int) + (len : Int)))).cell? ((⟨bp, op, none⟩ : Addr).add j) = some v) := by
    intro j v hv
    have hj : j < d := by
      have := (List.getElem?_eq_some_iff.1 hv).1
      simpa [bytesOf] using this
    simp only [bytesOf, List.getElem?_map, List.getElem?_range hj, Option.map_some, Option.some.injEq, Nat.zero_add] at hv
    rw [← hv, Addr.add_mid]
    exact (grown_set w bx 73 _).cell (hp j hj) (by simpa using hbp)
  have hone : Hid (∀ v ∈ (bytesOf P 0 d).map encB, v.oneCell' = true) := by
    intro v hv
    obtain ⟨x, _, rfl⟩ := List.mem_map.1 hv
    rfl
  have hlen : Hid (((bytesOf P 0 d).map encB).length = d) := by show _ = _; simp [bytesOf]
  have HP2 := Lib.hid hp2
  have HT := Lib.hid hT
  have HR := Lib.hid hR
  have HRD := Lib.hid hR2
  have HSD := Lib.hid hs2
  have HNN := Lib.hid hN
  have HLD := Lib.hid hld
  have HOP := Lib.hid hop
  have HFD := Lib.hid hfd
  have hfl : f < 64 := by omega
  have hdl : d ≤ len := by omega
  subst ha
  clear hp hp2 hT hL hR hR2 hs2 hN hlen1 hld hop
  have hmin : Hid (d = Nat.min len (64 - f)) := by
    have h2 : Nat.min len (64 - f) = 64 - f := Nat.min_eq_right (by omega)
    show _ = _
    omega
  have hf1 : (0 : Int) < (f : Int) := by omega
  have hf64 : (f : Int) ≤ 64 := by omega
  have hf65 : f ≤ 64 := by omega
  have hsl : ∀ W : World, Sem.run Tryz.prog (Instr.sliceAt 117 (.pointer (some ⟨bx, 8, none⟩)) (some (.int .i64 (f : Int))) none none) W = Result.ok (.slice (some ⟨bx, 8 + f, none⟩) (64 - f) (64 - f)) W := by
    intro W
    have h := run_sliceAt_array_l (P := Tryz.prog) W 117 ⟨bx, 8, none⟩ (by kernel_rfl) .i64 (f : Int) (by omega) (by rw [show Tryz.prog.arrayLen 117 = 64 by kernel_rfl]; omega)
    have hs : (sizeOf (Tryz.prog.elem 117)).run Tryz.prog W = .ok 1 W := by kernel_rfl
    rw [h, hs, show Tryz.prog.arrayLen 117 = 64 by kernel_rfl]
    simp only [Result.andThen, slicedAt]
    rw [if_neg (by omega), Addr.add_mid]
    simp
  have hfd1 : f + d ≤ 64 := by omega
  have hfd2 : 64 ≤ f + d := by omega
  clear hfd
  by_cases hcd : cap = d
  · have hld : len = d := by omega
    have h2 : len2 = 0 := by have := HLD.out; omega
    subst hcd
    subst hld
    have H2 := Lib.hid h2
    clear h2
    go_enter Tryz.func47, Tryz.ntmps47
    go_wp2
    go_region_law ((refine step_row rfl _ _ 24 24 rfl 5 Tryz.underlying24 info5 bx (8 + f) (64 - f) (64 - f) _ len len ?_ ?_ _ 120 HL1.out ((bytesOf P 0 len).map encB) ?_ hsrc.out ?_ hone.out ?_); (exact rfl); (exact rfl); (rw [hlen.out]; exact hmin.out); (rw [hlen.out, obj_size _ _ _ _ HR.out]; have := HFD.out; omega); (generalize hwz : World.setRow _ bx _ = wz); (rw [hlen.out]))
    have HW1 : Hid ((w.setCell ⟨bx, 73, none⟩ (.int .u64 ((n : Int) + (len : Int)))).grownBy wz (some bx)) := by
      have h := grown_row (w.setCell ⟨bx, 73, none⟩ (.int .u64 ((n : Int) + (len : Int)))).drew bx ((obj s R f N).toList.take (8 + f) ++ ((bytesOf P 0 len).map encB ++ (obj s R f N).toList.drop (8 + f + ((bytesOf P 0 len).map encB).length))).toArray
      rw [hwz] at h
      exact ⟨h.os, h.tape, h.output, h.size, h.block⟩
    have HL2 : Hid (Lies wz bx s R2 f N) := by
      rw [HRD.out, ← hwz]
      exact lies_row f (bytesOf P 0 len) HR.out (by simp [bytesOf]; have := HFD.out; omega) HL1.out
    clear hwz
    have c72 := cell_in HL2.out 72
    rw [obj_filled _ _ _ _ HR2.out] at c72
    have z72 := free_in HL2.out 72
    have HF : Hid (Lies (wz.setCell ⟨bx, 72, none⟩ (.int .i64 ((f : Int) + (len : Int)))) bx s R2 (f + len) N) := by
      have h := lies_filled HR2.out (f + len) HL2.out
      simp only [Int.natCast_add] at h
      exact h
    have HG : Hid (w.grownBy (wz.setCell ⟨bx, 72, none⟩ (.int .i64 ((f : Int) + (len : Int)))) (some bx)) :=
      World.grownBy.trans (grown_set w bx 73 _) (World.grownBy.trans HW1.out (grown_set wz bx 72 _))
    have HPM : Hid (∀ j, j < 64 → (wz.setCell ⟨bx, 72, none⟩ (.int .i64 ((f : Int) + (len : Int)))).cell? ⟨bx, 8 + j, none⟩ = some (.int .u8 ((R2[j]!).toNat : Int))) := fun j hj => by
      rw [cell_in HF.out, obj_rest _ _ _ _ _ HR2.out hj]; rfl
    have HTM : Hid (∀ j, j < 64 → (wz.setCell ⟨bx, 72, none⟩ (.int .i64 ((f : Int) + (len : Int)))).cell? ⟨1, j, none⟩ = some (encW table[j]!)) := fun j hj => HG.out.cell (HT.out j hj) (by simpa using hbx.symm)
    go_wp2_with ((go_at_call 59; refine (mix_obj bx bx 8 64 (fun j => R2[j]!) s R2 (f + len) N _ HPM.out HTM.out HF.out).mono ?_; rintro ee ww ⟨rfl, hgw, hlw⟩; have d72 := cell_in hlw 72; rw [obj_filled _ _ _ _ HR2.out] at d72; have y72 := free_in hlw 72))
    go_loopw [1] (fun p wr => ∃ (k m c : Nat) (b : Option Addr), 64 * k + m = len2 ∧ p = .slice b m c ∧ m ≤ c ∧ (0 < m → b = some ⟨bp, op2 + 64 * k, none⟩) ∧ w.grownBy wr (some bx) ∧ Lies wr bx (blocks P2 s2 k) R2 0 N) (fun p _ => lenOf p)
    case atStart => exact ⟨0, 0, 0, _, by have := H2.out; omega, rfl, by omega, fun h => absurd h (by omega), World.grownBy.trans HG.out (World.grownBy.trans hgw (grown_set _ _ _ _)), by rw [show blocks P2 s2 0 = s2 from rfl, HSD.out]; exact lies_filled HR2.out 0 hlw⟩
    case round =>
      obtain ⟨k, m, c, b, hk, rfl, hmc, hb, hg, hl⟩ := hrel
      by_cases hlt : 64 ≤ m
      · obtain rfl := hb (by omega)
        clear hb
        have hpw : Hid (∀ j, j < 64 → wr.cell? ⟨bp, op2 + 64 * k + j, none⟩ = some (.int .u8 ((P2 (64 * k + j)).toNat : Int))) := by
          intro j hj
          rw [Nat.add_assoc]
          exact hg.cell (HP2.out (64 * k + j) (by omega)) (by simpa using hbp)
        have hTw : Hid (∀ j, j < 64 → wr.cell? ⟨1, j, none⟩ = some (encW table[j]!)) := fun j hj => hg.cell (HT.out j hj) (by simpa using hbx.symm)
        have HK := Lib.hid hk
        clear hk
        by_cases hc : c = 64
        · subst hc
          have hm : m = 64 := by omega
          subst hm
          clear hlt hmc
          go_wp2_with ((go_at_call 59; refine (mix_obj bx bp (op2 + 64 * k) _ (fun j => P2 (64 * k + j)) (blocks P2 s2 k) R2 0 N _ hpw.out hTw.out hl).mono ?_; rintro ee ww ⟨rfl, hgw, hlw⟩))
          go_roundw
          case rel => exact ⟨k + 1, 0, 0, _, by have := HK.out; omega, rfl, Nat.le_refl _, fun h => absurd h (by omega), World.grownBy.trans hg hgw, hlw⟩
          case measure => simp [lenOf]
        · go_wp2_with ((go_at_call 59; refine (mix_obj bx bp (op2 + 64 * k) _ (fun j => P2 (64 * k + j)) (blocks P2 s2 k) R2 0 N _ hpw.out hTw.out hl).mono ?_; rintro ee ww ⟨rfl, hgw, hlw⟩))
          go_roundw
          case rel => exact ⟨k + 1, m - 64, c - 64, _, by have := HK.out; omega, rfl, by omega, fun _ => by rw [Nat.mul_add, Nat.add_assoc], World.grownBy.trans hg hgw, hlw⟩
          case measure => simp [lenOf]; omega
      · have hd : len2 / 64 = k := by omega
        have hm : len2 % 64 = m := by omega
        have HD := Lib.hid hd
        have HM := Lib.hid hm
        have HB := Lib.hid hb
        have HK := Lib.hid hk
        clear hd hm hb hk
        have hsrc : Hid (∀ j v, ((bytesOf P2 (64 * k) m).map encB)[j]? = some v → wr.cell? ((⟨bp, op2 + 64 * k, none⟩ : Addr).add j) = some v) := by
          intro j v hv
          have hj : j < m := by
            have := (List.getElem?_eq_some_iff.1 hv).1
            simpa [bytesOf] using this
          simp only [bytesOf, List.getElem?_map, List.getElem?_range hj, Option.map_some, Option.some.injEq] at hv
          rw [← hv, Addr.add_mid, Nat.add_assoc]
          exact hg.cell (HP2.out (64 * k + j) (by have := HK.out; omega)) (by simpa using hbp)
        have hone : Hid (∀ v ∈ (bytesOf P2 (64 * k) m).map encB, v.oneCell' = true) := by
          intro v hv
          obtain ⟨x, _, rfl⟩ := List.mem_map.1 hv
          rfl
        have hlen : Hid (((bytesOf P2 (64 * k) m).map encB).length = m) := by show _ = _; simp [bytesOf]
        by_cases h0 : m = 0
        · subst h0
          have hl' : wr.heap[bx]? = some (.cells (obj (blocks P2 s2 k) R2 0 N) 120 (0, 0)) := hl
          have c72 := cell_in hl 72
          rw [obj_filled _ _ _ _ HR2.out] at c72
          have f72 := free_in hl 72
          clear hl'
          go_wp2_with ((with_reducible refine wpList_copy_nothing (o := ⟨some 70, _, _, _, _, _⟩) rfl _ _ 24 24 rfl 5 Tryz.underlying24 info5 (some ⟨bx, 8, none⟩) b 64 64 0 c ?_ ?_ ?_ ?_); (exact rfl); (exact rfl); (exact rfl))
          go_end0
          refine ⟨rfl, World.grownBy.trans hg (grown_set _ _ _ _), ?_⟩
          rw [HD.out, HM.out]
          exact lies_filled (lay_size _ _ _ HR2.out (by simp [bytesOf])) 0 (by rw [show bytesOf P2 (64 * k) 0 = [] from rfl, lay_nil]; exact hl)
        · have hb := HB.out (by omega)
          subst hb
          have hl' : wr.heap[bx]? = some (.cells (obj (blocks P2 s2 k) R2 0 N) 120 (0, 0)) := hl
          have HLW := Lib.hid hl'
          clear hl'
          go_wp2_with ((with_reducible refine wpList_copy_own (o := ⟨some 70, _, _, _, _, _⟩) rfl _ _ 24 24 rfl 5 Tryz.underlying24 info5 bx 8 64 64 _ m c ?_ ?_ _ 120 HLW.out ((bytesOf P2 (64 * k) m).map encB) ?_ hsrc.out ?_ hone.out ?_); (exact rfl); (exact rfl); (rw [hlen.out]; exact (Nat.min_eq_left (by omega)).symm); (rw [hlen.out, obj_size _ _ _ _ HR2.out]; omega); (generalize hwz : World.setRow wr bx _ = wz); (have hg2 : wr.grownBy wz (some bx) := hwz ▸ grown_row wr bx _); (have hl2 : Lies wz bx (blocks P2 s2 k) (lay R2 0 (bytesOf P2 (64 * k) m)) 0 N := hwz ▸ lies_row 0 (bytesOf P2 (64 * k) m) HR2.out (by simp [bytesOf]; omega) hl); (have c72 := cell_in hl2 72); (rw [obj_filled _ _ _ _ (lay_size _ _ _ HR2.out (by simp [bytesOf]; omega))] at c72); (have f72 := free_in hl2 72); (clear hwz); (rw [hlen.out]))
          go_end0
          refine ⟨rfl, World.grownBy.trans hg (World.grownBy.trans hg2 (grown_set _ _ _ _)), ?_⟩
          rw [HD.out, HM.out]
          exact lies_filled (lay_size _ _ _ HR2.out (by simp [bytesOf]; omega)) m hl2
  · go_enter Tryz.func47, Tryz.ntmps47
    go_wp2
    go_region_law ((refine step_row rfl _ _ 24 24 rfl 5 Tryz.underlying24 info5 bx (8 + f) (64 - f) (64 - f) _ len cap ?_ ?_ _ 120 HL1.out ((bytesOf P 0 d).map encB) ?_ hsrc.out ?_ hone.out ?_); (exact rfl); (exact rfl); (rw [hlen.out]; exact hmin.out); (rw [hlen.out, obj_size _ _ _ _ HR.out]; have := HFD.out; omega); (generalize hwz : World.setRow _ bx _ = wz); (rw [hlen.out]))
    have HW1 : Hid ((w.setCell ⟨bx, 73, none⟩ (.int .u64 ((n : Int) + (len : Int)))).grownBy wz (some bx)) := by
      have h := grown_row (w.setCell ⟨bx, 73, none⟩ (.int .u64 ((n : Int) + (len : Int)))).drew bx ((obj s R f N).toList.take (8 + f) ++ ((bytesOf P 0 d).map encB ++ (obj s R f N).toList.drop (8 + f + ((bytesOf P 0 d).map encB).length))).toArray
      rw [hwz] at h
      exact ⟨h.os, h.tape, h.output, h.size, h.block⟩
    have HL2 : Hid (Lies wz bx s R2 f N) := by
      rw [HRD.out, ← hwz]
      exact lies_row f (bytesOf P 0 d) HR.out (by simp [bytesOf]; have := HFD.out; omega) HL1.out
    clear hwz
    have c72 := cell_in HL2.out 72
    rw [obj_filled _ _ _ _ HR2.out] at c72
    have z72 := free_in HL2.out 72
    have HF : Hid (Lies (wz.setCell ⟨bx, 72, none⟩ (.int .i64 ((f : Int) + (d : Int)))) bx s R2 (f + d) N) := by
      have h := lies_filled HR2.out (f + d) HL2.out
      simp only [Int.natCast_add] at h
      exact h
    have HG : Hid (w.grownBy (wz.setCell ⟨bx, 72, none⟩ (.int .i64 ((f : Int) + (d : Int)))) (some bx)) :=
      World.grownBy.trans (grown_set w bx 73 _) (World.grownBy.trans HW1.out (grown_set wz bx 72 _))
    have HPM : Hid (∀ j, j < 64 → (wz.setCell ⟨bx, 72, none⟩ (.int .i64 ((f : Int) + (d : Int)))).cell? ⟨bx, 8 + j, none⟩ = some (.int .u8 ((R2[j]!).toNat : Int))) := fun j hj => by
      rw [cell_in HF.out, obj_rest _ _ _ _ _ HR2.out hj]; rfl
    have HTM : Hid (∀ j, j < 64 → (wz.setCell ⟨bx, 72, none⟩ (.int .i64 ((f : Int) + (d : Int)))).cell? ⟨1, j, none⟩ = some (encW table[j]!)) := fun j hj => HG.out.cell (HT.out j hj) (by simpa using hbx.symm)
    go_wp2_with ((go_at_call 59; refine (mix_obj bx bx 8 64 (fun j => R2[j]!) s R2 (f + d) N _ HPM.out HTM.out HF.out).mono ?_; rintro ee ww ⟨rfl, hgw, hlw⟩; have d72 := cell_in hlw 72; rw [obj_filled _ _ _ _ HR2.out] at d72; have y72 := free_in hlw 72))
    go_loopw [1] (fun p wr => ∃ (k m c : Nat) (b : Option Addr), 64 * k + m = len2 ∧ p = .slice b m c ∧ m ≤ c ∧ (0 < m → b = some ⟨bp, op2 + 64 * k, none⟩) ∧ w.grownBy wr (some bx) ∧ Lies wr bx (blocks P2 s2 k) R2 0 N) (fun p _ => lenOf p)
    case atStart => exact ⟨0, len - d, cap - d, _, by have := HLD.out; omega, rfl, by omega, fun _ => by rw [← HOP.out]; rfl, World.grownBy.trans HG.out (World.grownBy.trans hgw (grown_set _ _ _ _)), by rw [show blocks P2 s2 0 = s2 from rfl, HSD.out]; exact lies_filled HR2.out 0 hlw⟩
    case round =>
      obtain ⟨k, m, c, b, hk, rfl, hmc, hb, hg, hl⟩ := hrel
      by_cases hlt : 64 ≤ m
      · obtain rfl := hb (by omega)
        clear hb
        have hpw : Hid (∀ j, j < 64 → wr.cell? ⟨bp, op2 + 64 * k + j, none⟩ = some (.int .u8 ((P2 (64 * k + j)).toNat : Int))) := by
          intro j hj
          rw [Nat.add_assoc]
          exact hg.cell (HP2.out (64 * k + j) (by omega)) (by simpa using hbp)
        have hTw : Hid (∀ j, j < 64 → wr.cell? ⟨1, j, none⟩ = some (encW table[j]!)) := fun j hj => hg.cell (HT.out j hj) (by simpa using hbx.symm)
        have HK := Lib.hid hk
        clear hk
        by_cases hc : c = 64
        · subst hc
          have hm : m = 64 := by omega
          subst hm
          clear hlt hmc
          go_wp2_with ((go_at_call 59; refine (mix_obj bx bp (op2 + 64 * k) _ (fun j => P2 (64 * k + j)) (blocks P2 s2 k) R2 0 N _ hpw.out hTw.out hl).mono ?_; rintro ee ww ⟨rfl, hgw, hlw⟩))
          go_roundw
          case rel => exact ⟨k + 1, 0, 0, _, by have := HK.out; omega, rfl, Nat.le_refl _, fun h => absurd h (by omega), World.grownBy.trans hg hgw, hlw⟩
          case measure => simp [lenOf]
        · go_wp2_with ((go_at_call 59; refine (mix_obj bx bp (op2 + 64 * k) _ (fun j => P2 (64 * k + j)) (blocks P2 s2 k) R2 0 N _ hpw.out hTw.out hl).mono ?_; rintro ee ww ⟨rfl, hgw, hlw⟩))
          go_roundw
          case rel => exact ⟨k + 1, m - 64, c - 64, _, by have := HK.out; omega, rfl, by omega, fun _ => by rw [Nat.mul_add, Nat.add_assoc], World.grownBy.trans hg hgw, hlw⟩
          case measure => simp [lenOf]; omega
      · have hd : len2 / 64 = k := by omega
        have hm : len2 % 64 = m := by omega
        have HD := Lib.hid hd
        have HM := Lib.hid hm
        have HB := Lib.hid hb
        have HK := Lib.hid hk
        clear hd hm hb hk
        have hsrc : Hid (∀ j v, ((bytesOf P2 (64 * k) m).map encB)[j]? = some v → wr.cell? ((⟨bp, op2 + 64 * k, none⟩ : Addr).add j) = some v) := by
          intro j v hv
          have hj : j < m := by
            have := (List.getElem?_eq_some_iff.1 hv).1
            simpa [bytesOf] using this
          simp only [bytesOf, List.getElem?_map, List.getElem?_range hj, Option.map_some, Option.some.injEq] at hv
          rw [← hv, Addr.add_mid, Nat.add_assoc]
          exact hg.cell (HP2.out (64 * k + j) (by have := HK.out; omega)) (by simpa using hbp)
        have hone : Hid (∀ v ∈ (bytesOf P2 (64 * k) m).map encB, v.oneCell' = true) := by
          intro v hv
          obtain ⟨x, _, rfl⟩ := List.mem_map.1 hv
          rfl
        have hlen : Hid (((bytesOf P2 (64 * k) m).map encB).length = m) := by show _ = _; simp [bytesOf]
        by_cases h0 : m = 0
        · subst h0
          have hl' : wr.heap[bx]? = some (.cells (obj (blocks P2 s2 k) R2 0 N) 120 (0, 0)) := hl
          have c72 := cell_in hl 72
          rw [obj_filled _ _ _ _ HR2.out] at c72
          have f72 := free_in hl 72
          clear hl'
          go_wp2_with ((with_reducible refine wpList_copy_nothing (o := ⟨some 70, _, _, _, _, _⟩) rfl _ _ 24 24 rfl 5 Tryz.underlying24 info5 (some ⟨bx, 8, none⟩) b 64 64 0 c ?_ ?_ ?_ ?_); (exact rfl); (exact rfl); (exact rfl))
          go_end0
          refine ⟨rfl, World.grownBy.trans hg (grown_set _ _ _ _), ?_⟩
          rw [HD.out, HM.out]
          exact lies_filled (lay_size _ _ _ HR2.out (by simp [bytesOf])) 0 (by rw [show bytesOf P2 (64 * k) 0 = [] from rfl, lay_nil]; exact hl)
        · have hb := HB.out (by omega)
          subst hb
          have hl' : wr.heap[bx]? = some (.cells (obj (blocks P2 s2 k) R2 0 N) 120 (0, 0)) := hl
          have HLW := Lib.hid hl'
          clear hl'
          go_wp2_with ((with_reducible refine wpList_copy_own (o := ⟨some 70, _, _, _, _, _⟩) rfl _ _ 24 24 rfl 5 Tryz.underlying24 info5 bx 8 64 64 _ m c ?_ ?_ _ 120 HLW.out ((bytesOf P2 (64 * k) m).map encB) ?_ hsrc.out ?_ hone.out ?_); (exact rfl); (exact rfl); (rw [hlen.out]; exact (Nat.min_eq_left (by omega)).symm); (rw [hlen.out, obj_size _ _ _ _ HR2.out]; omega); (generalize hwz : World.setRow wr bx _ = wz); (have hg2 : wr.grownBy wz (some bx) := hwz ▸ grown_row wr bx _); (have hl2 : Lies wz bx (blocks P2 s2 k) (lay R2 0 (bytesOf P2 (64 * k) m)) 0 N := hwz ▸ lies_row 0 (bytesOf P2 (64 * k) m) HR2.out (by simp [bytesOf]; omega) hl); (have c72 := cell_in hl2 72); (rw [obj_filled _ _ _ _ (lay_size _ _ _ HR2.out (by simp [bytesOf]; omega))] at c72); (have f72 := free_in hl2 72); (clear hwz); (rw [hlen.out]))
          go_end0
          refine ⟨rfl, World.grownBy.trans hg (World.grownBy.trans hg2 (grown_set _ _ _ _)), ?_⟩
          rw [HD.out, HM.out]
          exact lies_filled (lay_size _ _ _ HR2.out (by simp [bytesOf]; omega)) m hl2
end Go.Proofs.YtfpehdldgnfciaaGreatDoor.Sha
