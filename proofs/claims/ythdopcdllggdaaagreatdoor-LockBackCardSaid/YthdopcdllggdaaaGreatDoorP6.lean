/- Texts of one ground, in one file: Lo Lp Lq. -/
import Derived.Test.YthdopcdllggdaaaGreatDoorP5
import Derived.Stop.BytesEq
namespace Go.Proofs.YthdopcdllggdaaaGreatDoor
open Go.RowKit

theorem quiet_midG {P : Program} {ops : Array Oper} {C : World → Prop} {Q : Act → Prop} {a : Act} {o : Oper} {rest : List Oper} (hw : Region.wanted o (yielded ops a.tmps) = true) (ty : TypeId) (x : Operand) (ho : o.op = .load ty x)
    (b k : Nat) (hx : a.eval x = .pointer (some ⟨b, k, none⟩)) (cs : List Value) (d : TypeDesc) (hc : ∀ W, C W → W.rangeAt b k cs)
    (hu : P.underlying ty = some d) (hd : d.isRow = true) (hi : (P.info? ty).map (·.size) = some cs.length)
    (h : wpQuiet P ops C Q rest (a.put o.dst (.agg cs.toArray))) : wpQuiet P ops C Q (o :: rest) a := by
  refine wpQuiet_step fun K hK => ?_
  rw [if_pos hw]
  refine ⟨_, fun W hW => ?_, hK _ h⟩
  unfold Oper.quietAt execOp
  simp only [ho, hx, Instr.loadAt, Instr.sureAddr, Sem.run_bind, Sem.run_pure, Result.andThen_ok, run_loadVar_mid W b k ty cs d (hc W hW) hu hd hi]
  exact ⟨rfl, rfl⟩
theorem keyC_cells (K : Array UInt8) : (keyC K).toArray = (K.toList.map Extern.Stop.cell).toArray := by
  congr 1
theorem key_eql (K M : Array UInt8) (hK : K.size = 32) (hM : M.size = 32) (W : World) : (binOp .eql 33 (.agg (keyC K).toArray) (.agg (keyC M).toArray)).run Tryz.prog W = .ok (.bool (decide (K = M))) W := by
  have h := run_eql_bytes (P := Tryz.prog) W 33 5 32 Tryz.underlying33 Tryz.underlying5 (fun w => by kernel_rfl) K.toList M.toList (by simpa using hK) (by simpa using hM)
  have e : (K.toList == M.toList) = decide (K = M) := by
    by_cases e : K = M
    · rw [decide_eq_true e, e]; simp
    · rw [decide_eq_false e, beq_eq_false_iff_ne]
      exact fun h => e (Array.ext' h)
  rw [keyC_cells, keyC_cells, h, e]
theorem key_neq (K M : Array UInt8) (hK : K.size = 32) (hM : M.size = 32) (W : World) : (binOp .neq 33 (.agg (keyC K).toArray) (.agg (keyC M).toArray)).run Tryz.prog W = .ok (.bool (!decide (K = M))) W := by
  have h := key_eql K M hK hM W
  rw [run_eql_struct] at h
  rw [run_neq_struct]
  cases hr : (Op.equalIn 10000 33 (.agg (keyC K).toArray) (.agg (keyC M).toArray)).run Tryz.prog W with
  | ok b w' =>
    rw [hr] at h
    simp only [Result.andThen] at h ⊢
    cases h
    rfl
  | halt x w' => rw [hr] at h; simp [Result.andThen] at h
/-- ARE TWO PINS ALIKE, letter by letter? -/
def sameB (p q : Pc) : Bool := decide (p.name = q.name) && decide (textS p.v = textS q.v) && decide (p.key = q.key)
theorem PcAt.tsize {w : World} {B : Nat} {p : Pc} (h : PcAt w B p) : (textS p.v).size ≤ 8000100 := textS_size p.v h.ver.maj.2 h.ver.min.2 h.ver.pat.2 h.ver.sum
set_option maxRecDepth 1000000
set_option maxHeartbeats 8000000 in
theorem same1_any (m0 : Int) (B : Nat) (p q : Pc) (w : World) (hm : Wok m0 w) (hB : B ≤ w.heap.size) (hp : PcAt w B p) (hq : PcAt w B q) :
    Calls Tryz.prog 36 #[.agg p.enc.toArray, .agg q.enc.toArray] w fun e w' => e = .returned (.bool (sameB p q)) ∧ w.grownBy w' none := by
  obtain ⟨q1, hq1⟩ : ∃ q1, w.heap.size = q1 := ⟨_, rfl⟩
  obtain ⟨W0, hW0⟩ : ∃ W0, (w.alloc (.cells p.enc.toArray 35)).alloc (.cells q.enc.toArray 35) = W0 := ⟨_, rfl⟩
  have b1 : W0.heap[q1]? = some (.cells p.enc.toArray 35 (0, 0)) := by rw [← hW0, ← hq1]; exact block_kept (alloc_block w _) (World.grownBy_alloc _ _ _)
  have b2 : W0.heap[q1 + 1]? = some (.cells q.enc.toArray 35 (0, 0)) := by rw [← hW0, ← hq1, ← alloc_size w (.cells p.enc.toArray 35)]; exact alloc_block _ _
  have g0 : w.grownBy W0 none := by rw [← hW0]; exact grown_alloc _ (World.grownBy_alloc _ _ _)
  have r1 : W0.rangeAt q1 0 p.enc := fun j v hv => by rw [Nat.zero_add, cell_in b1]; simpa using hv
  have r2 : W0.rangeAt (q1 + 1) 0 q.enc := fun j v hv => by rw [Nat.zero_add, cell_in b2]; simpa using hv
  have hn1 : W0.cell? ⟨q1, 0, none⟩ = some (.string p.name) := range_name r1
  have hn2 : W0.cell? ⟨q1 + 1, 0, none⟩ = some (.string q.name) := range_name r2
  have HV1 := Lib.hid (range_ver r1)
  have HV2 := Lib.hid (range_ver r2)
  have HK1 := Lib.hid (range_key r1)
  have HK2 := Lib.hid (range_key r2)
  have HG0 := Lib.hid g0
  have HW0 := Lib.hid hW0
  have HQ1 := Lib.hid hq1
  have hc1 : ∀ W, W0.grownBy W none → Calls Tryz.prog 24 #[.agg (verC p.v p.sl).toArray] W fun e w' => e = .returned (.string (textS p.v)) ∧ W0.grownBy w' none := fun W hW =>
    (text_any m0 B p.v p.sl W (hm.stays (World.grownBy.trans g0 hW)) (Nat.le_trans hB (World.grownBy.trans g0 hW).size) ((hp.stays (World.grownBy.trans g0 hW)).ver)).mono fun e w' h => ⟨h.1, World.grownBy.trans hW h.2⟩
  have hc2 : ∀ W, W0.grownBy W none → Calls Tryz.prog 24 #[.agg (verC q.v q.sl).toArray] W fun e w' => e = .returned (.string (textS q.v)) ∧ W0.grownBy w' none := fun W hW =>
    (text_any m0 B q.v q.sl W (hm.stays (World.grownBy.trans g0 hW)) (Nat.le_trans hB (World.grownBy.trans g0 hW).size) ((hq.stays (World.grownBy.trans g0 hW)).ver)).mono fun e w' h => ⟨h.1, World.grownBy.trans hW h.2⟩
  have HEQ := Lib.hid (key_eql p.key q.key p.hk q.hk)
  have HS : Hid (sameB p q = (decide (p.name = q.name) && decide (textS p.v = textS q.v) && decide (p.key = q.key))) := Lib.hid rfl
  have hC0 : W0.grownBy { W0 with drawn := W0.drawn + 1 } none := ⟨rfl, rfl, rfl, Nat.le_refl _, fun _ _ _ => rfl⟩
  clear g0 r1 r2 b1 b2 hW0 hm hB hp hq
  obtain ⟨x, hx⟩ : ∃ x, p.name = x := ⟨_, rfl⟩
  obtain ⟨y, hy⟩ : ∃ y, q.name = y := ⟨_, rfl⟩
  obtain ⟨T1, hT1⟩ : ∃ T1, textS p.v = T1 := ⟨_, rfl⟩
  obtain ⟨T2, hT2⟩ : ∃ T2, textS q.v = T2 := ⟨_, rfl⟩
  rw [hx, hy, hT1, hT2] at HS
  rw [hx] at hn1
  rw [hy] at hn2
  rw [hT1] at hc1
  rw [hT2] at hc2
  clear hx hy hT1 hT2
  by_cases hxy : x = y
  · subst hxy
    by_cases ht : T1 = T2
    · subst ht
      by_cases hk : p.key = q.key
      · have HE : Hid (sameB p q = true) := Lib.hid (by rw [HS.out, decide_eq_true rfl, decide_eq_true rfl, decide_eq_true hk]; rfl)
        rw [decide_eq_true hk] at HEQ
        clear hk HS
        go_enter Tryz.func36, Tryz.ntmps36
        go_wp2_with fail
        rw [HW0.out]
        refine wp_region_quiet (C := fun w' => W0.grownBy w' none) (by kernel_rfl) (by kernel_rfl) hC0 ?_
        refine wpQuiet_step (fun K hK => ?_)
        go_simp
        first | refine hK _ ?_ | refine ⟨_, fun W hW => rfl, hK _ ?_⟩ | refine ⟨_, fun W hW => ⟨rfl, rfl⟩, hK _ ?_⟩
        clear hK K
        refine wpQuiet_step (fun K hK => ?_)
        go_simp
        refine ⟨.string x, fun W hW => ?_, hK _ ?_⟩
        · rw [hW.cell hn1 (by simp)]; exact ⟨rfl, rfl⟩
        clear hK K
        refine wpQuiet_step (fun K hK => ?_)
        go_simp
        first | refine hK _ ?_ | refine ⟨_, fun W hW => rfl, hK _ ?_⟩ | refine ⟨_, fun W hW => ⟨rfl, rfl⟩, hK _ ?_⟩
        clear hK K
        refine wpQuiet_step (fun K hK => ?_)
        go_simp
        refine ⟨.string x, fun W hW => ?_, hK _ ?_⟩
        · rw [hW.cell hn2 (by simp)]; exact ⟨rfl, rfl⟩
        clear hK K
        refine wpQuiet_step (fun K hK => ?_)
        go_simp
        first | refine hK _ ?_ | refine ⟨_, fun W hW => rfl, hK _ ?_⟩ | refine ⟨_, fun W hW => ⟨rfl, rfl⟩, hK _ ?_⟩
        clear hK K
        refine wpQuiet_step (fun K hK => ?_)
        go_simp
        first | refine hK _ ?_ | refine ⟨_, fun W hW => rfl, hK _ ?_⟩ | refine ⟨_, fun W hW => ⟨rfl, rfl⟩, hK _ ?_⟩
        clear hK K
        refine wpQuiet_step (fun K hK => ?_)
        go_simp
        first | refine hK _ ?_ | refine ⟨_, fun W hW => rfl, hK _ ?_⟩ | refine ⟨_, fun W hW => ⟨rfl, rfl⟩, hK _ ?_⟩
        clear hK K
        refine quiet_midG (by rfl) 28 _ rfl q1 1 rfl (verC p.v p.sl) _ (fun W hW => range_stays HV1.out hW (by simp)) Tryz.underlying28 rfl infoV_size ?_
        refine wpQuiet_step (fun K hK => ?_)
        go_simp
        refine ⟨.string T1, fun W hW => hc1 W hW, hK _ ?_⟩
        clear hK K
        refine wpQuiet_step (fun K hK => ?_)
        go_simp
        first | refine hK _ ?_ | refine ⟨_, fun W hW => rfl, hK _ ?_⟩ | refine ⟨_, fun W hW => ⟨rfl, rfl⟩, hK _ ?_⟩
        clear hK K
        refine quiet_midG (by rfl) 28 _ rfl (q1 + 1) 1 rfl (verC q.v q.sl) _ (fun W hW => range_stays HV2.out hW (by simp)) Tryz.underlying28 rfl infoV_size ?_
        refine wpQuiet_step (fun K hK => ?_)
        go_simp
        refine ⟨.string T1, fun W hW => hc2 W hW, hK _ ?_⟩
        clear hK K
        refine wpQuiet_step (fun K hK => ?_)
        go_simp
        first | refine hK _ ?_ | refine ⟨_, fun W hW => rfl, hK _ ?_⟩ | refine ⟨_, fun W hW => ⟨rfl, rfl⟩, hK _ ?_⟩
        clear hK K
        refine wpQuiet_step (fun K hK => ?_)
        go_simp
        first | refine hK _ ?_ | refine ⟨_, fun W hW => rfl, hK _ ?_⟩ | refine ⟨_, fun W hW => ⟨rfl, rfl⟩, hK _ ?_⟩
        clear hK K
        refine wpQuiet_step (fun K hK => ?_)
        go_simp
        first | refine hK _ ?_ | refine ⟨_, fun W hW => rfl, hK _ ?_⟩ | refine ⟨_, fun W hW => ⟨rfl, rfl⟩, hK _ ?_⟩
        clear hK K
        refine wpQuiet_step (fun K hK => ?_)
        go_simp
        first | refine hK _ ?_ | refine ⟨_, fun W hW => rfl, hK _ ?_⟩ | refine ⟨_, fun W hW => ⟨rfl, rfl⟩, hK _ ?_⟩
        clear hK K
        refine quiet_midG (by rfl) 33 _ rfl q1 5 rfl (keyC p.key) _ (fun W hW => range_stays HK1.out hW (by simp)) Tryz.underlying33 rfl (by rw [keyC_len]; exact infoK_size) ?_
        refine wpQuiet_step (fun K hK => ?_)
        go_simp
        first | refine hK _ ?_ | refine ⟨_, fun W hW => rfl, hK _ ?_⟩ | refine ⟨_, fun W hW => ⟨rfl, rfl⟩, hK _ ?_⟩
        clear hK K
        refine quiet_midG (by rfl) 33 _ rfl (q1 + 1) 5 rfl (keyC q.key) _ (fun W hW => range_stays HK2.out hW (by simp)) Tryz.underlying33 rfl (by rw [keyC_len]; exact infoK_size) ?_
        try simp only [Act.put, List.setIfInBounds_toArray, List.set_cons_zero, List.set_cons_succ]
        refine wpQuiet_step (fun K hK => ?_)
        rw [if_pos (by rfl)]
        refine ⟨.bool true, fun W hW => ?_, hK _ ?_⟩
        · have h := HEQ.out W
          have hg := run_eqGuard_agg (P := Tryz.prog) (w := W) .eql 33
          unfold Oper.quietAt
          simp [execOp, Act.eval, h, eqGuard, Result.andThen, Oper.quietUpon]
        clear hK K
        try simp only [Act.put, List.setIfInBounds_toArray, List.set_cons_zero, List.set_cons_succ]
        refine wpQuiet_step (fun K hK => ?_)
        go_simp
        first | refine hK _ ?_ | refine ⟨_, fun W hW => rfl, hK _ ?_⟩ | refine ⟨_, fun W hW => ⟨rfl, rfl⟩, hK _ ?_⟩
        clear hK K
        refine wpQuiet_step (fun K hK => ?_)
        go_simp
        first | refine hK _ ?_ | refine ⟨_, fun W hW => rfl, hK _ ?_⟩ | refine ⟨_, fun W hW => ⟨rfl, rfl⟩, hK _ ?_⟩
        clear hK K
        refine wpQuiet_nil ?_
        intro W hW
        have HGE := Lib.hid (World.grownBy.trans HG0.out hW)
        clear hW hC0 hn1 hn2 hc1 hc2
        go_wp2
        go_ret
        exact ⟨by rw [HE.out]; rfl, HGE.out⟩
      · have HE : Hid (sameB p q = false) := Lib.hid (by rw [HS.out, decide_eq_false hk]; simp)
        rw [decide_eq_false hk] at HEQ
        clear hk HS
        go_enter Tryz.func36, Tryz.ntmps36
        go_wp2_with fail
        rw [HW0.out]
        refine wp_region_quiet (C := fun w' => W0.grownBy w' none) (by kernel_rfl) (by kernel_rfl) hC0 ?_
        refine wpQuiet_step (fun K hK => ?_)
        go_simp
        first | refine hK _ ?_ | refine ⟨_, fun W hW => rfl, hK _ ?_⟩ | refine ⟨_, fun W hW => ⟨rfl, rfl⟩, hK _ ?_⟩
        clear hK K
        refine wpQuiet_step (fun K hK => ?_)
        go_simp
        refine ⟨.string x, fun W hW => ?_, hK _ ?_⟩
        · rw [hW.cell hn1 (by simp)]; exact ⟨rfl, rfl⟩
        clear hK K
        refine wpQuiet_step (fun K hK => ?_)
        go_simp
        first | refine hK _ ?_ | refine ⟨_, fun W hW => rfl, hK _ ?_⟩ | refine ⟨_, fun W hW => ⟨rfl, rfl⟩, hK _ ?_⟩
        clear hK K
        refine wpQuiet_step (fun K hK => ?_)
        go_simp
        refine ⟨.string x, fun W hW => ?_, hK _ ?_⟩
        · rw [hW.cell hn2 (by simp)]; exact ⟨rfl, rfl⟩
        clear hK K
        refine wpQuiet_step (fun K hK => ?_)
        go_simp
        first | refine hK _ ?_ | refine ⟨_, fun W hW => rfl, hK _ ?_⟩ | refine ⟨_, fun W hW => ⟨rfl, rfl⟩, hK _ ?_⟩
        clear hK K
        refine wpQuiet_step (fun K hK => ?_)
        go_simp
        first | refine hK _ ?_ | refine ⟨_, fun W hW => rfl, hK _ ?_⟩ | refine ⟨_, fun W hW => ⟨rfl, rfl⟩, hK _ ?_⟩
        clear hK K
        refine wpQuiet_step (fun K hK => ?_)
        go_simp
        first | refine hK _ ?_ | refine ⟨_, fun W hW => rfl, hK _ ?_⟩ | refine ⟨_, fun W hW => ⟨rfl, rfl⟩, hK _ ?_⟩
        clear hK K
        refine quiet_midG (by rfl) 28 _ rfl q1 1 rfl (verC p.v p.sl) _ (fun W hW => range_stays HV1.out hW (by simp)) Tryz.underlying28 rfl infoV_size ?_
        refine wpQuiet_step (fun K hK => ?_)
        go_simp
        refine ⟨.string T1, fun W hW => hc1 W hW, hK _ ?_⟩
        clear hK K
        refine wpQuiet_step (fun K hK => ?_)
        go_simp
        first | refine hK _ ?_ | refine ⟨_, fun W hW => rfl, hK _ ?_⟩ | refine ⟨_, fun W hW => ⟨rfl, rfl⟩, hK _ ?_⟩
        clear hK K
        refine quiet_midG (by rfl) 28 _ rfl (q1 + 1) 1 rfl (verC q.v q.sl) _ (fun W hW => range_stays HV2.out hW (by simp)) Tryz.underlying28 rfl infoV_size ?_
        refine wpQuiet_step (fun K hK => ?_)
        go_simp
        refine ⟨.string T1, fun W hW => hc2 W hW, hK _ ?_⟩
        clear hK K
        refine wpQuiet_step (fun K hK => ?_)
        go_simp
        first | refine hK _ ?_ | refine ⟨_, fun W hW => rfl, hK _ ?_⟩ | refine ⟨_, fun W hW => ⟨rfl, rfl⟩, hK _ ?_⟩
        clear hK K
        refine wpQuiet_step (fun K hK => ?_)
        go_simp
        first | refine hK _ ?_ | refine ⟨_, fun W hW => rfl, hK _ ?_⟩ | refine ⟨_, fun W hW => ⟨rfl, rfl⟩, hK _ ?_⟩
        clear hK K
        refine wpQuiet_step (fun K hK => ?_)
        go_simp
        first | refine hK _ ?_ | refine ⟨_, fun W hW => rfl, hK _ ?_⟩ | refine ⟨_, fun W hW => ⟨rfl, rfl⟩, hK _ ?_⟩
        clear hK K
        refine wpQuiet_step (fun K hK => ?_)
        go_simp
        first | refine hK _ ?_ | refine ⟨_, fun W hW => rfl, hK _ ?_⟩ | refine ⟨_, fun W hW => ⟨rfl, rfl⟩, hK _ ?_⟩
        clear hK K
        refine quiet_midG (by rfl) 33 _ rfl q1 5 rfl (keyC p.key) _ (fun W hW => range_stays HK1.out hW (by simp)) Tryz.underlying33 rfl (by rw [keyC_len]; exact infoK_size) ?_
        refine wpQuiet_step (fun K hK => ?_)
        go_simp
        first | refine hK _ ?_ | refine ⟨_, fun W hW => rfl, hK _ ?_⟩ | refine ⟨_, fun W hW => ⟨rfl, rfl⟩, hK _ ?_⟩
        clear hK K
        refine quiet_midG (by rfl) 33 _ rfl (q1 + 1) 5 rfl (keyC q.key) _ (fun W hW => range_stays HK2.out hW (by simp)) Tryz.underlying33 rfl (by rw [keyC_len]; exact infoK_size) ?_
        try simp only [Act.put, List.setIfInBounds_toArray, List.set_cons_zero, List.set_cons_succ]
        refine wpQuiet_step (fun K hK => ?_)
        rw [if_pos (by rfl)]
        refine ⟨.bool false, fun W hW => ?_, hK _ ?_⟩
        · have h := HEQ.out W
          have hg := run_eqGuard_agg (P := Tryz.prog) (w := W) .eql 33
          unfold Oper.quietAt
          simp [execOp, Act.eval, h, eqGuard, Result.andThen, Oper.quietUpon]
        clear hK K
        try simp only [Act.put, List.setIfInBounds_toArray, List.set_cons_zero, List.set_cons_succ]
        refine wpQuiet_step (fun K hK => ?_)
        go_simp
        first | refine hK _ ?_ | refine ⟨_, fun W hW => rfl, hK _ ?_⟩ | refine ⟨_, fun W hW => ⟨rfl, rfl⟩, hK _ ?_⟩
        clear hK K
        refine wpQuiet_step (fun K hK => ?_)
        go_simp
        first | refine hK _ ?_ | refine ⟨_, fun W hW => rfl, hK _ ?_⟩ | refine ⟨_, fun W hW => ⟨rfl, rfl⟩, hK _ ?_⟩
        clear hK K
        refine wpQuiet_nil ?_
        intro W hW
        have HGE := Lib.hid (World.grownBy.trans HG0.out hW)
        clear hW hC0 hn1 hn2 hc1 hc2
        go_wp2
        go_ret
        exact ⟨by rw [HE.out]; rfl, HGE.out⟩
    · have HE : Hid (sameB p q = false) := Lib.hid (by rw [HS.out, decide_eq_false ht]; simp)
      have e1 := nb_lists T1 T2 ht
      have e2 := ne_lists T1 T2 ht
      clear ht HS HEQ
      go_enter Tryz.func36, Tryz.ntmps36
      go_wp2_with fail
      rw [HW0.out]
      refine wp_region_quiet (C := fun w' => W0.grownBy w' none) (by kernel_rfl) (by kernel_rfl) hC0 ?_
      refine wpQuiet_step (fun K hK => ?_)
      go_simp
      first | refine hK _ ?_ | refine ⟨_, fun W hW => rfl, hK _ ?_⟩ | refine ⟨_, fun W hW => ⟨rfl, rfl⟩, hK _ ?_⟩
      clear hK K
      refine wpQuiet_step (fun K hK => ?_)
      go_simp
      refine ⟨.string x, fun W hW => ?_, hK _ ?_⟩
      · rw [hW.cell hn1 (by simp)]; exact ⟨rfl, rfl⟩
      clear hK K
      refine wpQuiet_step (fun K hK => ?_)
      go_simp
      first | refine hK _ ?_ | refine ⟨_, fun W hW => rfl, hK _ ?_⟩ | refine ⟨_, fun W hW => ⟨rfl, rfl⟩, hK _ ?_⟩
      clear hK K
      refine wpQuiet_step (fun K hK => ?_)
      go_simp
      refine ⟨.string x, fun W hW => ?_, hK _ ?_⟩
      · rw [hW.cell hn2 (by simp)]; exact ⟨rfl, rfl⟩
      clear hK K
      refine wpQuiet_step (fun K hK => ?_)
      go_simp
      first | refine hK _ ?_ | refine ⟨_, fun W hW => rfl, hK _ ?_⟩ | refine ⟨_, fun W hW => ⟨rfl, rfl⟩, hK _ ?_⟩
      clear hK K
      refine wpQuiet_step (fun K hK => ?_)
      go_simp
      first | refine hK _ ?_ | refine ⟨_, fun W hW => rfl, hK _ ?_⟩ | refine ⟨_, fun W hW => ⟨rfl, rfl⟩, hK _ ?_⟩
      clear hK K
      refine wpQuiet_step (fun K hK => ?_)
      go_simp
      first | refine hK _ ?_ | refine ⟨_, fun W hW => rfl, hK _ ?_⟩ | refine ⟨_, fun W hW => ⟨rfl, rfl⟩, hK _ ?_⟩
      clear hK K
      refine quiet_midG (by rfl) 28 _ rfl q1 1 rfl (verC p.v p.sl) _ (fun W hW => range_stays HV1.out hW (by simp)) Tryz.underlying28 rfl infoV_size ?_
      refine wpQuiet_step (fun K hK => ?_)
      go_simp
      refine ⟨.string T1, fun W hW => hc1 W hW, hK _ ?_⟩
      clear hK K
      refine wpQuiet_step (fun K hK => ?_)
      go_simp
      first | refine hK _ ?_ | refine ⟨_, fun W hW => rfl, hK _ ?_⟩ | refine ⟨_, fun W hW => ⟨rfl, rfl⟩, hK _ ?_⟩
      clear hK K
      refine quiet_midG (by rfl) 28 _ rfl (q1 + 1) 1 rfl (verC q.v q.sl) _ (fun W hW => range_stays HV2.out hW (by simp)) Tryz.underlying28 rfl infoV_size ?_
      refine wpQuiet_step (fun K hK => ?_)
      go_simp
      refine ⟨.string T2, fun W hW => hc2 W hW, hK _ ?_⟩
      clear hK K
      refine wpQuiet_step (fun K hK => ?_)
      go_simp
      first | refine hK _ ?_ | refine ⟨_, fun W hW => rfl, hK _ ?_⟩ | refine ⟨_, fun W hW => ⟨rfl, rfl⟩, hK _ ?_⟩
      clear hK K
      refine wpQuiet_step (fun K hK => ?_)
      go_simp
      first | refine hK _ ?_ | refine ⟨_, fun W hW => rfl, hK _ ?_⟩ | refine ⟨_, fun W hW => ⟨rfl, rfl⟩, hK _ ?_⟩
      clear hK K
      refine wpQuiet_step (fun K hK => ?_)
      go_simp
      first | refine hK _ ?_ | refine ⟨_, fun W hW => rfl, hK _ ?_⟩ | refine ⟨_, fun W hW => ⟨rfl, rfl⟩, hK _ ?_⟩
      clear hK K
      refine wpQuiet_step (fun K hK => ?_)
      go_simp
      first | refine hK _ ?_ | refine ⟨_, fun W hW => rfl, hK _ ?_⟩ | refine ⟨_, fun W hW => ⟨rfl, rfl⟩, hK _ ?_⟩
      clear hK K
      refine wpQuiet_step (fun K hK => ?_)
      go_simp
      first | refine hK _ ?_ | refine ⟨_, fun W hW => rfl, hK _ ?_⟩ | refine ⟨_, fun W hW => ⟨rfl, rfl⟩, hK _ ?_⟩
      clear hK K
      refine wpQuiet_step (fun K hK => ?_)
      go_simp
      first | refine hK _ ?_ | refine ⟨_, fun W hW => rfl, hK _ ?_⟩ | refine ⟨_, fun W hW => ⟨rfl, rfl⟩, hK _ ?_⟩
      clear hK K
      refine wpQuiet_step (fun K hK => ?_)
      go_simp
      first | refine hK _ ?_ | refine ⟨_, fun W hW => rfl, hK _ ?_⟩ | refine ⟨_, fun W hW => ⟨rfl, rfl⟩, hK _ ?_⟩
      clear hK K
      refine wpQuiet_step (fun K hK => ?_)
      go_simp
      first | refine hK _ ?_ | refine ⟨_, fun W hW => rfl, hK _ ?_⟩ | refine ⟨_, fun W hW => ⟨rfl, rfl⟩, hK _ ?_⟩
      clear hK K
      refine wpQuiet_step (fun K hK => ?_)
      go_simp
      first | refine hK _ ?_ | refine ⟨_, fun W hW => rfl, hK _ ?_⟩ | refine ⟨_, fun W hW => ⟨rfl, rfl⟩, hK _ ?_⟩
      clear hK K
      refine wpQuiet_step (fun K hK => ?_)
      go_simp
      first | refine hK _ ?_ | refine ⟨_, fun W hW => rfl, hK _ ?_⟩ | refine ⟨_, fun W hW => ⟨rfl, rfl⟩, hK _ ?_⟩
      clear hK K
      refine wpQuiet_nil ?_
      intro W hW
      have HGE := Lib.hid (World.grownBy.trans HG0.out hW)
      clear hW hC0 hn1 hn2 hc1 hc2
      go_wp2
      go_ret
      exact ⟨by rw [HE.out]; rfl, HGE.out⟩
  · have HE : Hid (sameB p q = false) := Lib.hid (by rw [HS.out, decide_eq_false hxy]; simp)
    have e1 := nb_lists x y hxy
    have e2 := ne_lists x y hxy
    clear hxy HS HEQ
    go_enter Tryz.func36, Tryz.ntmps36
    go_wp2_with fail
    rw [HW0.out]
    refine wp_region_quiet (C := fun w' => W0.grownBy w' none) (by kernel_rfl) (by kernel_rfl) hC0 ?_
    refine wpQuiet_step (fun K hK => ?_)
    go_simp
    first | refine hK _ ?_ | refine ⟨_, fun W hW => rfl, hK _ ?_⟩ | refine ⟨_, fun W hW => ⟨rfl, rfl⟩, hK _ ?_⟩
    clear hK K
    refine wpQuiet_step (fun K hK => ?_)
    go_simp
    refine ⟨.string x, fun W hW => ?_, hK _ ?_⟩
    · rw [hW.cell hn1 (by simp)]; exact ⟨rfl, rfl⟩
    clear hK K
    refine wpQuiet_step (fun K hK => ?_)
    go_simp
    first | refine hK _ ?_ | refine ⟨_, fun W hW => rfl, hK _ ?_⟩ | refine ⟨_, fun W hW => ⟨rfl, rfl⟩, hK _ ?_⟩
    clear hK K
    refine wpQuiet_step (fun K hK => ?_)
    go_simp
    refine ⟨.string y, fun W hW => ?_, hK _ ?_⟩
    · rw [hW.cell hn2 (by simp)]; exact ⟨rfl, rfl⟩
    clear hK K
    refine wpQuiet_step (fun K hK => ?_)
    go_simp
    first | refine hK _ ?_ | refine ⟨_, fun W hW => rfl, hK _ ?_⟩ | refine ⟨_, fun W hW => ⟨rfl, rfl⟩, hK _ ?_⟩
    clear hK K
    refine wpQuiet_step (fun K hK => ?_)
    go_simp
    first | refine hK _ ?_ | refine ⟨_, fun W hW => rfl, hK _ ?_⟩ | refine ⟨_, fun W hW => ⟨rfl, rfl⟩, hK _ ?_⟩
    clear hK K
    refine wpQuiet_step (fun K hK => ?_)
    go_simp
    first | refine hK _ ?_ | refine ⟨_, fun W hW => rfl, hK _ ?_⟩ | refine ⟨_, fun W hW => ⟨rfl, rfl⟩, hK _ ?_⟩
    clear hK K
    refine wpQuiet_step (fun K hK => ?_)
    go_simp
    first | refine hK _ ?_ | refine ⟨_, fun W hW => rfl, hK _ ?_⟩ | refine ⟨_, fun W hW => ⟨rfl, rfl⟩, hK _ ?_⟩
    clear hK K
    refine wpQuiet_step (fun K hK => ?_)
    go_simp
    first | refine hK _ ?_ | refine ⟨_, fun W hW => rfl, hK _ ?_⟩ | refine ⟨_, fun W hW => ⟨rfl, rfl⟩, hK _ ?_⟩
    clear hK K
    refine wpQuiet_step (fun K hK => ?_)
    go_simp
    first | refine hK _ ?_ | refine ⟨_, fun W hW => rfl, hK _ ?_⟩ | refine ⟨_, fun W hW => ⟨rfl, rfl⟩, hK _ ?_⟩
    clear hK K
    refine wpQuiet_step (fun K hK => ?_)
    go_simp
    first | refine hK _ ?_ | refine ⟨_, fun W hW => rfl, hK _ ?_⟩ | refine ⟨_, fun W hW => ⟨rfl, rfl⟩, hK _ ?_⟩
    clear hK K
    refine wpQuiet_step (fun K hK => ?_)
    go_simp
    first | refine hK _ ?_ | refine ⟨_, fun W hW => rfl, hK _ ?_⟩ | refine ⟨_, fun W hW => ⟨rfl, rfl⟩, hK _ ?_⟩
    clear hK K
    refine wpQuiet_step (fun K hK => ?_)
    go_simp
    first | refine hK _ ?_ | refine ⟨_, fun W hW => rfl, hK _ ?_⟩ | refine ⟨_, fun W hW => ⟨rfl, rfl⟩, hK _ ?_⟩
    clear hK K
    refine wpQuiet_step (fun K hK => ?_)
    go_simp
    first | refine hK _ ?_ | refine ⟨_, fun W hW => rfl, hK _ ?_⟩ | refine ⟨_, fun W hW => ⟨rfl, rfl⟩, hK _ ?_⟩
    clear hK K
    refine wpQuiet_step (fun K hK => ?_)
    go_simp
    first | refine hK _ ?_ | refine ⟨_, fun W hW => rfl, hK _ ?_⟩ | refine ⟨_, fun W hW => ⟨rfl, rfl⟩, hK _ ?_⟩
    clear hK K
    refine wpQuiet_step (fun K hK => ?_)
    go_simp
    first | refine hK _ ?_ | refine ⟨_, fun W hW => rfl, hK _ ?_⟩ | refine ⟨_, fun W hW => ⟨rfl, rfl⟩, hK _ ?_⟩
    clear hK K
    refine wpQuiet_step (fun K hK => ?_)
    go_simp
    first | refine hK _ ?_ | refine ⟨_, fun W hW => rfl, hK _ ?_⟩ | refine ⟨_, fun W hW => ⟨rfl, rfl⟩, hK _ ?_⟩
    clear hK K
    refine wpQuiet_step (fun K hK => ?_)
    go_simp
    first | refine hK _ ?_ | refine ⟨_, fun W hW => rfl, hK _ ?_⟩ | refine ⟨_, fun W hW => ⟨rfl, rfl⟩, hK _ ?_⟩
    clear hK K
    refine wpQuiet_step (fun K hK => ?_)
    go_simp
    first | refine hK _ ?_ | refine ⟨_, fun W hW => rfl, hK _ ?_⟩ | refine ⟨_, fun W hW => ⟨rfl, rfl⟩, hK _ ?_⟩
    clear hK K
    refine wpQuiet_step (fun K hK => ?_)
    go_simp
    first | refine hK _ ?_ | refine ⟨_, fun W hW => rfl, hK _ ?_⟩ | refine ⟨_, fun W hW => ⟨rfl, rfl⟩, hK _ ?_⟩
    clear hK K
    refine wpQuiet_step (fun K hK => ?_)
    go_simp
    first | refine hK _ ?_ | refine ⟨_, fun W hW => rfl, hK _ ?_⟩ | refine ⟨_, fun W hW => ⟨rfl, rfl⟩, hK _ ?_⟩
    clear hK K
    refine wpQuiet_step (fun K hK => ?_)
    go_simp
    first | refine hK _ ?_ | refine ⟨_, fun W hW => rfl, hK _ ?_⟩ | refine ⟨_, fun W hW => ⟨rfl, rfl⟩, hK _ ?_⟩
    clear hK K
    refine wpQuiet_nil ?_
    intro W hW
    have HGE := Lib.hid (World.grownBy.trans HG0.out hW)
    clear hW hC0 hn1 hn2 hc1 hc2
    go_wp2
    go_ret
    exact ⟨by rw [HE.out]; rfl, HGE.out⟩
end Go.Proofs.YthdopcdllggdaaaGreatDoor
namespace Go.Proofs.YthdopcdllggdaaaGreatDoor
open Go.RowKit

/-- Two lists of pins, pin by pin alike by a test of two. -/
def allB (f : Pc → Pc → Bool) : List Pc → List Pc → Bool
  | [], [] => true
  | p :: a, q :: b => f p q && allB f a b
  | _, _ => false
theorem allB_len (f : Pc → Pc → Bool) : ∀ (L M : List Pc), L.length ≠ M.length → allB f L M = false := by
  intro L
  induction L with
  | nil => intro M h; cases M with
    | nil => exact absurd rfl h
    | cons _ _ => rfl
  | cons p L ih => intro M h; cases M with
    | nil => rfl
    | cons q M =>
      show (f p q && allB f L M) = false
      rw [ih M (fun e => h (by simp [e])), Bool.and_false]
theorem allB_no (f : Pc → Pc → Bool) : ∀ (L M : List Pc) (k : Nat) (p q : Pc), L[k]? = some p → M[k]? = some q → f p q = false → allB f L M = false := by
  intro L
  induction L with
  | nil => intro M k p q h; simp at h
  | cons a L ih =>
    intro M k p q h1 h2 h3
    cases M with
    | nil => simp at h2
    | cons b M =>
      show (f a b && allB f L M) = false
      cases k with
      | zero =>
        simp only [List.getElem?_cons_zero, Option.some.injEq] at h1 h2
        rw [h1, h2, h3, Bool.false_and]
      | succ k => rw [ih M k p q (by simpa using h1) (by simpa using h2) h3, Bool.and_false]
theorem allB_yes (f : Pc → Pc → Bool) : ∀ (L M : List Pc), L.length = M.length → (∀ (i : Nat) (p q : Pc), L[i]? = some p → M[i]? = some q → f p q = true) → allB f L M = true := by
  intro L
  induction L with
  | nil => intro M h _; cases M with
    | nil => rfl
    | cons _ _ => simp at h
  | cons a L ih =>
    intro M h h2
    cases M with
    | nil => simp at h
    | cons b M =>
      show (f a b && allB f L M) = true
      rw [h2 0 a b rfl rfl, ih M (by simpa using h) (fun i p q e1 e2 => h2 (i + 1) p q (by simpa using e1) (by simpa using e2))]
      rfl
/-- The first k are alike. -/
def UpToB (f : Pc → Pc → Bool) (L M : List Pc) (k : Nat) : Prop := ∀ (i : Nat) (p q : Pc), i < k → L[i]? = some p → M[i]? = some q → f p q = true
theorem UpToB.next {f : Pc → Pc → Bool} {L M : List Pc} {k : Nat} {p q : Pc} (h : UpToB f L M k) (h1 : L[k]? = some p) (h2 : M[k]? = some q) (h3 : f p q = true) : UpToB f L M (k + 1) := by
  intro i a b hi e1 e2
  rcases Nat.lt_or_ge i k with hk | hk
  · exact h i a b hk e1 e2
  · obtain rfl : i = k := by omega
    rw [h1] at e1; rw [h2] at e2
    cases e1; cases e2
    exact h3
theorem UpToB.all {f : Pc → Pc → Bool} {L M : List Pc} {n : Nat} (h : UpToB f L M n) (h1 : L.length = n) (h2 : M.length = n) : allB f L M = true :=
  allB_yes f L M (h1.trans h2.symm) (fun i p q e1 e2 => h i p q (by have := (List.getElem?_eq_some_iff.1 e1).1; omega) e1 e2)
set_option maxRecDepth 1000000
set_option maxHeartbeats 8000000 in
theorem equalFunc_any (m0 : Int) (B n1 n2 c1 c2 : Nat) (a1 a2 : Option Addr) (L M : List Pc) (w : World) (hm : Wok m0 w) (hB : B ≤ w.heap.size) (hn1 : L.length = n1) (hn2 : M.length = n2) (h81 : n1 ≤ 1000000) (h82 : n2 ≤ 1000000)
    (hP1 : PartP w B (.slice a1 n1 c1) L) (hP2 : PartP w B (.slice a2 n2 c2) M) (hA1 : AllAt w B L) (hA2 : AllAt w B M) :
    Calls Tryz.prog 35 #[.slice a1 n1 c1, .slice a2 n2 c2, .func (.func 36) #[] #[]] w fun e w' => e = .returned (.bool (allB sameB L M)) ∧ w.grownBy w' none := by
  by_cases hne : n1 = n2
  · subst hne
    have HM := Lib.hid hm
    have HB := Lib.hid hB
    have HN1 := Lib.hid hn1
    have HN2 := Lib.hid hn2
    have HP1 := Lib.hid hP1
    have HP2 := Lib.hid hP2
    have HA1 := Lib.hid hA1
    have HA2 := Lib.hid hA2
    clear hm hB hn1 hn2 hP1 hP2 hA1 hA2 h82
    have hz := zeroPin
    have hzs := zeroP_size
    obtain ⟨Z, hZ⟩ : ∃ Z, zeroP = Z := ⟨_, rfl⟩
    rw [hZ] at hz hzs
    have HZS := Lib.hid hzs
    clear hZ hzs
    go_enter Tryz.func35, Tryz.ntmps35
    go_wp2
    go_loopw [17] (fun i wr => ∃ k : Nat, k ≤ n1 ∧ i = .int .i64 k ∧ Hid (w.grownBy wr none) ∧ Hid (UpToB sameB L M k)) (fun i _ => n1 - (intOf i).toNat)
    case atStart => exact ⟨0, Nat.zero_le _, rfl, World.grownBy.refl _ _, fun i p q h => absurd h (Nat.not_lt_zero _)⟩
    case round =>
      obtain ⟨k, hk, rfl, HG, HU⟩ := hrel
      by_cases hlt : k < n1
      · obtain ⟨x, hx⟩ : ∃ x, L[k]? = some x := ⟨_, List.getElem?_eq_getElem (by rw [HN1.out]; exact hlt)⟩
        obtain ⟨y, hy⟩ : ∃ y, M[k]? = some y := ⟨_, List.getElem?_eq_getElem (by rw [HN2.out]; exact hlt)⟩
        obtain ⟨b1, o1, e1, _, r1⟩ := (HP1.out.stays HG.out).at k x hx
        obtain ⟨b2, o2, e2, _, r2⟩ := (HP2.out.stays HG.out).at k y hy
        subst e1 e2
        have HX := Lib.hid hx
        have HY := Lib.hid hy
        have HR1 := Lib.hid r1
        have HR2 := Lib.hid r2
        have HX1 := Lib.hid (HA1.out x (List.mem_of_getElem? hx))
        have HY1 := Lib.hid (HA2.out y (List.mem_of_getElem? hy))
        clear hx hy r1 r2
        have HALX := Lib.hid (enc_all x)
        have HALY := Lib.hid (enc_all y)
        have HSX : Hid (x.enc.toArray.size = 37) := Lib.hid (by rw [List.size_toArray, enc_len])
        have HSY : Hid (y.enc.toArray.size = 37) := Lib.hid (by rw [List.size_toArray, enc_len])
        have HIX : Hid ((Tryz.prog.info? 35).map (·.size) = some x.enc.length) := Lib.hid (by rw [enc_len]; exact infoP_size)
        have HIY : Hid ((Tryz.prog.info? 35).map (·.size) = some y.enc.length) := Lib.hid (by rw [enc_len]; exact infoP_size)
        obtain ⟨C, hC⟩ : ∃ C, x.enc.toArray = C := ⟨_, rfl⟩
        obtain ⟨D, hD⟩ : ∃ D, y.enc.toArray = D := ⟨_, rfl⟩
        have HC := Lib.hid hC
        have HD := Lib.hid hD
        rw [hC] at HALX HSX
        rw [hD] at HALY HSY
        have HIC : Hid ((Tryz.prog.info? 35).map (·.size) = some C.size) := Lib.hid (by rw [HSX.out]; exact infoP_size)
        have HID : Hid ((Tryz.prog.info? 35).map (·.size) = some D.size) := Lib.hid (by rw [HSY.out]; exact infoP_size)
        clear hC hD
        have hb0 := setRow_heap _ wr.heap.size _ C 35 _ (alloc_block wr (.cells Z 35))
        have hg0 : wr.grownBy ((wr.alloc (.cells Z 35)).setRow wr.heap.size C) none := grown_new (World.grownBy_alloc wr _ none) (setRow_grown _ _ _) (Nat.le_refl _)
        have HB0 := Lib.hid hb0
        have HG0 := Lib.hid (World.grownBy.trans HG.out hg0)
        have HR3 := Lib.hid (range_stays HR2.out hg0 (by simp))
        have hsz0 : ((wr.alloc (.cells Z 35)).setRow wr.heap.size C).heap.size = wr.heap.size + 1 := by simp [World.setRow]
        have hb9 := alloc_block ((wr.alloc (.cells Z 35)).setRow wr.heap.size C) (.cells Z 35)
        rw [hsz0] at hb9
        have HB9 := Lib.hid hb9
        clear hb0 hg0 hb9
        have hg1 : ((wr.alloc (.cells Z 35)).setRow wr.heap.size C).grownBy ((((wr.alloc (.cells Z 35)).setRow wr.heap.size C).alloc (.cells Z 35)).setRow (wr.heap.size + 1) D) none := grown_new (World.grownBy_alloc _ _ none) (setRow_grown _ _ _) (by rw [hsz0]; exact Nat.le_refl _)
        have HB1 := Lib.hid (setRow_heap _ (wr.heap.size + 1) _ D 35 _ HB9.out)
        have HB2 := Lib.hid (block_kept HB0.out hg1)
        have HG1 := Lib.hid (World.grownBy.trans HG0.out hg1)
        clear hg1 hsz0
        have HS := Lib.hid (same1_any m0 B x y ((((wr.alloc (.cells Z 35)).setRow wr.heap.size C).alloc (.cells Z 35)).setRow (wr.heap.size + 1) D) (HM.out.stays HG1.out) (Nat.le_trans HB.out HG1.out.size) (HX1.out.stays HG1.out) (HY1.out.stays HG1.out))
        rw [HC.out, HD.out] at HS
        obtain ⟨sb, hsb⟩ : ∃ sb, sameB x y = sb := ⟨_, rfl⟩
        have HSB := Lib.hid hsb
        rw [hsb] at HS
        clear hsb
        go_wp2_with (first
          | ((with_reducible refine wpList_load_mid (op := ⟨some 21, _, _, _, _, _⟩) rfl 35 _ rfl b1 (o1 + k * 37) ?_ x.enc _ HR1.out Tryz.underlying35 ?_ HIX.out ?_); (rfl); (rfl); (rw [HC.out]))
          | ((with_reducible refine wpList_store_row (o := ⟨none, .store 35 (.tmp 8) _, _, _, _, _⟩) rfl 35 _ _ rfl wr.heap.size C ?_ ?_ 35 Z (alloc_block _ _) HIC.out ?_ HALX.out ?_); (rfl); (rfl); (rw [HSX.out, HZS.out]))
          | ((with_reducible refine wpList_load_mid (op := ⟨some 25, _, _, _, _, _⟩) rfl 35 _ rfl b2 (o2 + k * 37) ?_ y.enc _ HR3.out Tryz.underlying35 ?_ HIY.out ?_); (rfl); (rfl); (rw [HD.out]))
          | ((with_reducible refine wpList_store_row (o := ⟨none, .store 35 (.tmp 9) _, _, _, _, _⟩) rfl 35 _ _ rfl (wr.heap.size + 1) D ?_ ?_ 35 Z HB9.out HID.out ?_ HALY.out ?_); (rfl); (rfl); (rw [HSY.out, HZS.out]))
          | ((with_reducible refine wpList_load_row (o := ⟨some 27, _, _, _, _, _⟩) rfl 35 _ rfl wr.heap.size ?_ 35 C (0, 0) _ HB2.out Tryz.underlying35 ?_ HIC.out ?_); (rfl); (rfl))
          | ((with_reducible refine wpList_load_row (o := ⟨some 28, _, _, _, _, _⟩) rfl 35 _ rfl (wr.heap.size + 1) ?_ 35 D (0, 0) _ HB1.out Tryz.underlying35 ?_ HID.out ?_); (rfl); (rfl)))
        (refine HS.out.mono ?_)
        rintro ee w5 ⟨rfl, g5⟩
        have HG5 := Lib.hid (World.grownBy.trans HG1.out g5)
        clear g5
        dsimp only
        cases sb with
        | true =>
          have HU2 := Lib.hid (HU.out.next HX.out HY.out HSB.out)
          go_wp2
          go_roundw
          case rel => exact ⟨k + 1, by omega, by go_num, HG5, HU2⟩
          case measure => simp [intOf]; omega
        | false =>
          have HE := Lib.hid (allB_no sameB L M k x y HX.out HY.out HSB.out)
          go_wp2
          go_ret
          exact ⟨by rw [HE.out]; rfl, HG5.out⟩
      · obtain rfl : k = n1 := by omega
        have HE := Lib.hid (HU.out.all HN1.out HN2.out)
        go_wp2
        go_ret
        exact ⟨by rw [HE.out]; rfl, HG.out⟩
  · have e : Hid (allB sameB L M = false) := Lib.hid (allB_len _ _ _ (by omega))
    have hne1 : ((n1 : Int) == (n2 : Int)) = false := by simp; omega
    have hne2 : ¬ (n1 : Int) = (n2 : Int) := by omega
    have hne3 : (n1 == n2) = false := by simp; omega
    clear hn1 hn2 hP1 hP2 hA1 hA2 hm
    go_enter Tryz.func35, Tryz.ntmps35
    go_wp2
    go_ret
    exact ⟨by rw [e.out]; rfl, World.grownBy.refl _ _⟩
set_option maxHeartbeats 1000000 in
theorem same_any (m0 : Int) (B n1 n2 c1 c2 : Nat) (a1 a2 : Option Addr) (L M : List Pc) (w : World) (hm : Wok m0 w) (hB : B ≤ w.heap.size) (hn1 : L.length = n1) (hn2 : M.length = n2) (h81 : n1 ≤ 1000000) (h82 : n2 ≤ 1000000)
    (hP1 : PartP w B (.slice a1 n1 c1) L) (hP2 : PartP w B (.slice a2 n2 c2) M) (hA1 : AllAt w B L) (hA2 : AllAt w B M) :
    Calls Tryz.prog 15 #[.slice a1 n1 c1, .slice a2 n2 c2] w fun e w' => e = .returned (.bool (allB sameB L M)) ∧ w.grownBy w' none := by
  have HC := Lib.hid (equalFunc_any m0 B n1 n2 c1 c2 a1 a2 L M w hm hB hn1 hn2 h81 h82 hP1 hP2 hA1 hA2)
  clear hm hB hn1 hn2 hP1 hP2 hA1 hA2
  obtain ⟨r, hr⟩ : ∃ r, allB sameB L M = r := ⟨_, rfl⟩
  rw [hr] at HC ⊢
  clear hr
  go_enter Tryz.func15, Tryz.ntmps15
  go_wp2_with fail
  (refine HC.out.mono ?_)
  rintro ee w5 ⟨rfl, g5⟩
  have HG5 := Lib.hid g5
  clear g5
  dsimp only
  go_wp2
  go_ret
  exact ⟨rfl, HG5.out⟩
end Go.Proofs.YthdopcdllggdaaaGreatDoor
namespace Go.Proofs.YthdopcdllggdaaaGreatDoor
open Go.RowKit

/-- An operation whose guard says no is passed over. -/
theorem quiet_skip {P : Program} {ops : Array Oper} {C : World → Prop} {Q : Act → Prop} {a : Act} {o : Oper} {rest : List Oper} (hw : Region.wanted o (yielded ops a.tmps) = false) (h : wpQuiet P ops C Q rest (a.put o.dst undef)) : wpQuiet P ops C Q (o :: rest) a := by
  unfold wpQuiet
  rw [if_neg (by rw [hw]; simp)]
  exact h

attribute [local irreducible] wpQuiet
end Go.Proofs.YthdopcdllggdaaaGreatDoor
