/- The last comparison of the law ShaSums. -/
import Derived.Test.YtpiikgobdhgldaaDoorU
import Derived.Test.YtpiikgobdhgldaaDoorM1
import Derived.Deep.RegionHeld3
import Derived.Deep.MidRow
namespace Go.Proofs.YtpiikgobdhgldaaDoor
open Go.RowKit Go.Sort

/-- The region of that number in a piece of code. -/
def regionNo (n : Nat) : Code → Option Code
  | .region id ops b => if id = n then some (.region id ops b) else none
  | .loop c => regionNo n c
  | .seq x y => (regionNo n x).orElse fun _ => regionNo n y
  | .block _ c => regionNo n c
  | .scope c => regionNo n c
  | .cond _ x y => (regionNo n x).orElse fun _ => regionNo n y
  | _ => none
noncomputable def region16 : Code := ((Tryd.f3.body.bind (regionNo 16)).getD .skip)
theorem range_kept (W V : World) (b : Nat) (C : Array Value) (hb : W.heap[b]? = some (.cells C 26 (0, 0))) (hg : W.grownBy V none) : V.rangeAt b 0 C.toList := by
  intro i v hv
  have hlt := (Array.getElem?_eq_some_iff.1 hb).1
  have h : V.heap[b]? = some (.cells C 26 (0, 0)) := by rw [hg.block _ hlt (by simp)]; exact hb
  rw [Nat.zero_add, cell_in h]
  simpa using hv
theorem grown_drew {W V : World} (h : W.grownBy V none) : W.grownBy V.drew none := ⟨h.os, h.tape, h.output, h.size, h.block⟩

set_option maxRecDepth 1000000
set_option maxHeartbeats 4000000 in
set_option linter.unusedSimpArgs false in
theorem last16 (al ad : Option Addr) (k cap m cp j b8 : Nat) (y1 y2 : Option Addr) (l1 l2 r1 r2 : Nat) (DK : Array Value) (W8 : World)
    (hs1 : ∀ V : World, (Instr.sliceAt 24 (.slice ad m cp) none (some (.int .i64 (j : Int))) none).run Tryd.prog V = .ok (.slice y1 l1 r1) V)
    (hs2 : ∀ V : World, (Instr.sliceAt 24 (.slice ad m cp) (some (.int .i64 (j : Int))) none none).run Tryd.prog V = .ok (.slice y2 l2 r2) V)
    (hD32 : DK.size = 32) (h8 : W8.heap[b8]? = some (.cells DK 26 (0, 0)))
    (hA : ∀ V, W8.grownBy V none → Calls Tryd.prog 8 #[.slice al k cap] V fun e w' => e = .returned (.agg DK) ∧ W8.grownBy w' none)
    (hB : ∀ V b, W8.grownBy V none → V.heap[b]? = some (.cells #[.slice ad m cp] 24 (0, 0)) → Calls Tryd.prog 8 #[.slice (some ⟨b, 0, none⟩) 1 1] V fun e w' => e = .returned (.agg DK) ∧ W8.grownBy w' none)
    (hC : ∀ V b, W8.grownBy V none → V.heap[b]? = some (.cells #[(.slice y1 l1 r1), (.slice y2 l2 r2)] 24 (0, 0)) → Calls Tryd.prog 8 #[.slice (some ⟨b, 0, none⟩) 2 2] V fun e w' => e = .returned (.agg DK) ∧ W8.grownBy w' none)
    (heq : ∀ W : World, (binOp .eql 26 (.agg DK) (.agg DK)).run Tryd.prog W = .ok (.bool true) W)
    (c1 c2 c3 c4 c6 c9 c10 c11 c12 c13 c14 c15 c16 c17 c18 c19 c20 c21 c22 c23 c24 c25 c26 c27 c28 c29 c30 c31 c32 c33 c34 c35 c36 c37 c38 c39 c40 c41 c42 : Value) (u43 u44 u45 u46 u47 u48 u49 u50 u51 u52 u53 u54 u55 u56 u57 u58 u59 u60 u61 u62 u63 u64 u65 : Value) (Q : Exit → Act → World → Prop)
    (hQ : ∀ (v43 v44 v45 v46 v47 v48 v49 v50 v51 v52 v53 v54 v55 v56 v57 v58 v59 v60 v61 v62 v63 v64 v65 : Value) (w' : World), W8.grownBy w' none → Q .normal ⟨#[.slice al k cap, c1, c2, c3, .bool true, .slice ad m cp, c6, .int .i64 (j : Int), .pointer (some ⟨b8, 0, none⟩), c9, c10, c11, c12, c13, c14, c15, c16, c17, c18, c19, c20, c21, c22, c23, c24, c25, c26, c27, c28, c29, c30, c31, c32, c33, c34, c35, c36, c37, c38, c39, c40, c41, c42, v43, v44, v45, v46, v47, v48, v49, v50, v51, v52, v53, v54, v55, v56, v57, v58, v59, v60, v61, v62, v63, v64, v65], []⟩ w') :
    Code.wp Tryd.prog region16 Q ⟨#[.slice al k cap, c1, c2, c3, c4, .slice ad m cp, c6, .int .i64 (j : Int), .pointer (some ⟨b8, 0, none⟩), c9, c10, c11, c12, c13, c14, c15, c16, c17, c18, c19, c20, c21, c22, c23, c24, c25, c26, c27, c28, c29, c30, c31, c32, c33, c34, c35, c36, c37, c38, c39, c40, c41, c42, u43, u44, u45, u46, u47, u48, u49, u50, u51, u52, u53, u54, u55, u56, u57, u58, u59, u60, u61, u62, u63, u64, u65], []⟩ W8 := by
  have hlt := (Array.getElem?_eq_some_iff.1 h8).1
  have hld : ∀ V, W8.grownBy V none → (Instr.loadAt 26 (.pointer (some ⟨b8, 0, none⟩))).run Tryd.prog V = .ok (.agg DK) V := by
    intro V hV
    simp only [Instr.loadAt, Instr.sureAddr, Sem.run_bind, Sem.run_pure, Result.andThen]
    exact run_loadVar_row _ _ 26 26 DK (0, 0) _ (by rw [hV.block _ hlt (by simp)]; exact h8) Tryd.underlying26 rfl (by rw [info26, hD32])
  have HQ := Lib.hid hQ
  have HA := Lib.hid hA
  have HB := Lib.hid hB
  have HC := Lib.hid hC
  have HLD := Lib.hid hld
  have HEQ := Lib.hid heq
  have HS1 := Lib.hid hs1
  have HS2 := Lib.hid hs2
  clear hQ hA hB hC h8 hld heq hs1 hs2 hlt hD32
  conv => arg 2; whnf
  refine wp_region_noPanic ?_
  refine wp_region_held_drew (S := fun V => W8.grownBy V none) (by kernel_rfl) (grown_drew (World.grownBy.refl _ _)) (fun g0 => ?_)
  refine wpAnyH_take (i := 0) (v := .slice al k cap) rfl (by kernel_rfl) (by kernel_rfl) (by kernel_rfl) (fun _ _ _ h => h) (Or.inl ⟨by rfl, fun V hV => ?_⟩) g0 ?_
  · rfl
  try simp only [Act.put, List.getElem_toArray, List.getElem_cons_zero, List.getElem_cons_succ, List.setIfInBounds_toArray, List.set_cons_zero, List.set_cons_succ]
  refine wpAnyH_take (i := 2) (v := .agg DK) rfl (by kernel_rfl) (by kernel_rfl) (by kernel_rfl) (fun _ _ _ h => h) (Or.inl ⟨by rfl, fun V hV => ?_⟩) g0 ?_
  · have h := HLD.out V hV
    simp [execOp, Act.eval, h, Result.andThen]
  try simp only [Act.put, List.getElem_toArray, List.getElem_cons_zero, List.getElem_cons_succ, List.setIfInBounds_toArray, List.set_cons_zero, List.set_cons_succ]
  refine wpAnyH_ready (rs := [1]) (by kernel_rfl) (by simp) ?_
  refine AllReadyH.cons rfl (fun K hK => ?_) AllReadyH.nil
  rw [if_pos (by rfl)]
  go_simp
  (refine (HA.out _ g0).mono ?_)
  rintro ee V1 ⟨rfl, q1⟩
  dsimp only
  refine hK.out _ _ q1 (fun g1 => ?_)
  clear hK K
  try simp only [Act.put, List.getElem_toArray, List.getElem_cons_zero, List.getElem_cons_succ, List.setIfInBounds_toArray, List.set_cons_zero, List.set_cons_succ]
  refine wpAnyH_take (i := 3) (v := .bool true) rfl (by kernel_rfl) (by kernel_rfl) (by kernel_rfl) (fun _ _ _ h => h) (Or.inl ⟨by rfl, fun V hV => ?_⟩) g1 ?_
  · have h := HEQ.out V
    have hg := run_eqGuard_agg (P := Tryd.prog) V .eql 26 (.tmp 0) (.tmp 0) DK DK (by kernel_rfl)
    simp [execOp, Act.eval, h, eqGuard, Result.andThen]
  try simp only [Act.put, List.getElem_toArray, List.getElem_cons_zero, List.getElem_cons_succ, List.setIfInBounds_toArray, List.set_cons_zero, List.set_cons_succ]
  refine wpAnyH_take (i := 4) (v := .bool true) rfl (by kernel_rfl) (by kernel_rfl) (by kernel_rfl) (fun _ _ _ h => h) (Or.inl ⟨by rfl, fun V hV => ?_⟩) g1 ?_
  · rfl
  try simp only [Act.put, List.getElem_toArray, List.getElem_cons_zero, List.getElem_cons_succ, List.setIfInBounds_toArray, List.set_cons_zero, List.set_cons_succ]
  refine wpAnyH_take (i := 5) (v := .slice ad m cp) rfl (by kernel_rfl) (by kernel_rfl) (by kernel_rfl) (fun _ _ _ h => h) (Or.inl ⟨by rfl, fun V hV => ?_⟩) g1 ?_
  · rfl
  try simp only [Act.put, List.getElem_toArray, List.getElem_cons_zero, List.getElem_cons_succ, List.setIfInBounds_toArray, List.set_cons_zero, List.set_cons_succ]
  refine wpAnyH_take (i := 8) (v := .agg DK) rfl (by kernel_rfl) (by kernel_rfl) (by kernel_rfl) (fun _ _ _ h => h) (Or.inl ⟨by rfl, fun V hV => ?_⟩) g1 ?_
  · have h := HLD.out V hV
    simp [execOp, Act.eval, h, Result.andThen]
  try simp only [Act.put, List.getElem_toArray, List.getElem_cons_zero, List.getElem_cons_succ, List.setIfInBounds_toArray, List.set_cons_zero, List.set_cons_succ]
  refine wpAnyH_ready (rs := [6]) (by kernel_rfl) (by simp) ?_
  refine AllReadyH.cons rfl (fun K hK => ?_) AllReadyH.nil
  rw [if_pos (by rfl)]
  go_simp
  refine hK.out _ _ (World.grownBy.trans g1 (World.grownBy_alloc _ _ _)) (fun g2 => ?_)
  clear hK K
  try simp only [Act.put, List.getElem_toArray, List.getElem_cons_zero, List.getElem_cons_succ, List.setIfInBounds_toArray, List.set_cons_zero, List.set_cons_succ]
  refine wpAnyH_ready (rs := [7]) (by kernel_rfl) (by simp) ?_
  refine AllReadyH.cons rfl (fun K hK => ?_) AllReadyH.nil
  rw [if_pos (by rfl)]
  go_simp
  (refine (HB.out _ _ g2 (heap_alloc_new _ _)).mono ?_)
  rintro ee V3 ⟨rfl, q3⟩
  dsimp only
  refine hK.out _ _ q3 (fun g3 => ?_)
  clear hK K
  try simp only [Act.put, List.getElem_toArray, List.getElem_cons_zero, List.getElem_cons_succ, List.setIfInBounds_toArray, List.set_cons_zero, List.set_cons_succ]
  refine wpAnyH_take (i := 9) (v := .bool true) rfl (by kernel_rfl) (by kernel_rfl) (by kernel_rfl) (fun _ _ _ h => h) (Or.inl ⟨by rfl, fun V hV => ?_⟩) g3 ?_
  · have h := HEQ.out V
    have hg := run_eqGuard_agg (P := Tryd.prog) V .eql 26 (.tmp 0) (.tmp 0) DK DK (by kernel_rfl)
    simp [execOp, Act.eval, h, eqGuard, Result.andThen]
  try simp only [Act.put, List.getElem_toArray, List.getElem_cons_zero, List.getElem_cons_succ, List.setIfInBounds_toArray, List.set_cons_zero, List.set_cons_succ]
  refine wpAnyH_take (i := 10) (v := .bool true) rfl (by kernel_rfl) (by kernel_rfl) (by kernel_rfl) (fun _ _ _ h => h) (Or.inl ⟨by rfl, fun V hV => ?_⟩) g3 ?_
  · rfl
  try simp only [Act.put, List.getElem_toArray, List.getElem_cons_zero, List.getElem_cons_succ, List.setIfInBounds_toArray, List.set_cons_zero, List.set_cons_succ]
  refine wpAnyH_take (i := 11) (v := .bool true) rfl (by kernel_rfl) (by kernel_rfl) (by kernel_rfl) (fun _ _ _ h => h) (Or.inl ⟨by rfl, fun V hV => ?_⟩) g3 ?_
  · rfl
  try simp only [Act.put, List.getElem_toArray, List.getElem_cons_zero, List.getElem_cons_succ, List.setIfInBounds_toArray, List.set_cons_zero, List.set_cons_succ]
  refine wpAnyH_take (i := 12) (v := .slice ad m cp) rfl (by kernel_rfl) (by kernel_rfl) (by kernel_rfl) (fun _ _ _ h => h) (Or.inl ⟨by rfl, fun V hV => ?_⟩) g3 ?_
  · rfl
  try simp only [Act.put, List.getElem_toArray, List.getElem_cons_zero, List.getElem_cons_succ, List.setIfInBounds_toArray, List.set_cons_zero, List.set_cons_succ]
  refine wpAnyH_take (i := 13) (v := .int .i64 (j : Int)) rfl (by kernel_rfl) (by kernel_rfl) (by kernel_rfl) (fun _ _ _ h => h) (Or.inl ⟨by rfl, fun V hV => ?_⟩) g3 ?_
  · rfl
  try simp only [Act.put, List.getElem_toArray, List.getElem_cons_zero, List.getElem_cons_succ, List.setIfInBounds_toArray, List.set_cons_zero, List.set_cons_succ]
  refine wpAnyH_take (i := 14) (v := (.slice y1 l1 r1)) rfl (by kernel_rfl) (by kernel_rfl) (by kernel_rfl) (fun _ _ _ h => h) (Or.inl ⟨by rfl, fun V hV => ?_⟩) g3 ?_
  · have h := HS1.out V
    simp [execOp, Act.eval, h, Result.andThen]
  try simp only [Act.put, List.getElem_toArray, List.getElem_cons_zero, List.getElem_cons_succ, List.setIfInBounds_toArray, List.set_cons_zero, List.set_cons_succ]
  refine wpAnyH_take (i := 15) (v := .slice ad m cp) rfl (by kernel_rfl) (by kernel_rfl) (by kernel_rfl) (fun _ _ _ h => h) (Or.inl ⟨by rfl, fun V hV => ?_⟩) g3 ?_
  · rfl
  try simp only [Act.put, List.getElem_toArray, List.getElem_cons_zero, List.getElem_cons_succ, List.setIfInBounds_toArray, List.set_cons_zero, List.set_cons_succ]
  refine wpAnyH_take (i := 16) (v := .int .i64 (j : Int)) rfl (by kernel_rfl) (by kernel_rfl) (by kernel_rfl) (fun _ _ _ h => h) (Or.inl ⟨by rfl, fun V hV => ?_⟩) g3 ?_
  · rfl
  try simp only [Act.put, List.getElem_toArray, List.getElem_cons_zero, List.getElem_cons_succ, List.setIfInBounds_toArray, List.set_cons_zero, List.set_cons_succ]
  refine wpAnyH_take (i := 17) (v := (.slice y2 l2 r2)) rfl (by kernel_rfl) (by kernel_rfl) (by kernel_rfl) (fun _ _ _ h => h) (Or.inl ⟨by rfl, fun V hV => ?_⟩) g3 ?_
  · have h := HS2.out V
    simp [execOp, Act.eval, h, Result.andThen]
  try simp only [Act.put, List.getElem_toArray, List.getElem_cons_zero, List.getElem_cons_succ, List.setIfInBounds_toArray, List.set_cons_zero, List.set_cons_succ]
  refine wpAnyH_take (i := 20) (v := .agg DK) rfl (by kernel_rfl) (by kernel_rfl) (by kernel_rfl) (fun _ _ _ h => h) (Or.inl ⟨by rfl, fun V hV => ?_⟩) g3 ?_
  · have h := HLD.out V hV
    simp [execOp, Act.eval, h, Result.andThen]
  try simp only [Act.put, List.getElem_toArray, List.getElem_cons_zero, List.getElem_cons_succ, List.setIfInBounds_toArray, List.set_cons_zero, List.set_cons_succ]
  refine wpAnyH_ready (rs := [18]) (by kernel_rfl) (by simp) ?_
  refine AllReadyH.cons rfl (fun K hK => ?_) AllReadyH.nil
  rw [if_pos (by rfl)]
  go_simp
  refine hK.out _ _ (World.grownBy.trans g3 (World.grownBy_alloc _ _ _)) (fun g4 => ?_)
  clear hK K
  try simp only [Act.put, List.getElem_toArray, List.getElem_cons_zero, List.getElem_cons_succ, List.setIfInBounds_toArray, List.set_cons_zero, List.set_cons_succ]
  refine wpAnyH_ready (rs := [19]) (by kernel_rfl) (by simp) ?_
  refine AllReadyH.cons rfl (fun K hK => ?_) AllReadyH.nil
  rw [if_pos (by rfl)]
  go_simp
  (refine (HC.out _ _ g4 (heap_alloc_new _ _)).mono ?_)
  rintro ee V5 ⟨rfl, q5⟩
  dsimp only
  refine hK.out _ _ q5 (fun g5 => ?_)
  clear hK K
  try simp only [Act.put, List.getElem_toArray, List.getElem_cons_zero, List.getElem_cons_succ, List.setIfInBounds_toArray, List.set_cons_zero, List.set_cons_succ]
  refine wpAnyH_take (i := 21) (v := .bool true) rfl (by kernel_rfl) (by kernel_rfl) (by kernel_rfl) (fun _ _ _ h => h) (Or.inl ⟨by rfl, fun V hV => ?_⟩) g5 ?_
  · have h := HEQ.out V
    have hg := run_eqGuard_agg (P := Tryd.prog) V .eql 26 (.tmp 0) (.tmp 0) DK DK (by kernel_rfl)
    simp [execOp, Act.eval, h, eqGuard, Result.andThen]
  try simp only [Act.put, List.getElem_toArray, List.getElem_cons_zero, List.getElem_cons_succ, List.setIfInBounds_toArray, List.set_cons_zero, List.set_cons_succ]
  refine wpAnyH_take (i := 22) (v := .bool true) rfl (by kernel_rfl) (by kernel_rfl) (by kernel_rfl) (fun _ _ _ h => h) (Or.inl ⟨by rfl, fun V hV => ?_⟩) g5 ?_
  · rfl
  try simp only [Act.put, List.getElem_toArray, List.getElem_cons_zero, List.getElem_cons_succ, List.setIfInBounds_toArray, List.set_cons_zero, List.set_cons_succ]
  refine wpAnyH_take (i := 23) (v := .bool true) rfl (by kernel_rfl) (by kernel_rfl) (by kernel_rfl) (fun _ _ _ h => h) (Or.inl ⟨by rfl, fun V hV => ?_⟩) g5 ?_
  · rfl
  try simp only [Act.put, List.getElem_toArray, List.getElem_cons_zero, List.getElem_cons_succ, List.setIfInBounds_toArray, List.set_cons_zero, List.set_cons_succ]
  refine wpAnyH_done (by kernel_rfl) ?_ _
  refine NoPanic.normal ?_
  exact HQ.out _ _ _ _ _ _ _ _ _ _ _ _ _ _ _ _ _ _ _ _ _ _ _ _ g5
end Go.Proofs.YtpiikgobdhgldaaDoor
