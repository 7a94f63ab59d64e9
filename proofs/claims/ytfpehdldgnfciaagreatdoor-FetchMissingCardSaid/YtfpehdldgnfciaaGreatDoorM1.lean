/- One round of the reference's Sum: one block more. -/
import Derived.Test.YtfpehdldgnfciaaGreatDoorL
import Derived.Test.YtfpehdldgnfciaaGreatDoorQs
import Derived.IntWalk
import Derived.BigRegion
namespace Go.Proofs.YtfpehdldgnfciaaGreatDoor.Sha
open Go.RowKit Go.Sort

/-- The first loop in a piece of code. -/
def loopIn : Code → Option Code
  | .loop c => some c
  | .seq x y => (loopIn x).orElse fun _ => loopIn y
  | .block _ c => loopIn c
  | .scope c => loopIn c
  | .cond _ x y => (loopIn x).orElse fun _ => loopIn y
  | _ => none
theorem tc2 : turnC 2 = true := by decide
theorem tc13 : turnC 13 = true := by decide
theorem tc22 : turnC 22 = true := by decide
theorem sgn : (if IntKind.u32.signed = true then (-1 : Int) else IntKind.u32.max) = 4294967295 := by rw [if_neg (by decide)]; rfl
theorem grown8 (w : World) (b : Nat) (v0 v1 v2 v3 v4 v5 v6 v7 : Value) : w.grownBy ((((((((w.setCell ⟨b, 0, none⟩ v0).setCell ⟨b, 1, none⟩ v1).setCell ⟨b, 2, none⟩ v2).setCell ⟨b, 3, none⟩ v3).setCell ⟨b, 4, none⟩ v4).setCell ⟨b, 5, none⟩ v5).setCell ⟨b, 6, none⟩ v6).setCell ⟨b, 7, none⟩ v7) (some b) := by
  have g := fun (w : World) (j : Nat) (v : Value) => grown_set w b j v
  exact (((((((g _ _ _).trans (g _ _ _)).trans (g _ _ _)).trans (g _ _ _)).trans (g _ _ _)).trans (g _ _ _)).trans (g _ _ _)).trans (g _ _ _)
theorem lies8 (w : World) (b : Nat) (x : St) (a0 a1 a2 a3 a4 a5 a6 a7 : UInt32) (h : w.heap[b]? = some (.cells (x.row.map encW) 116 (0, 0))) :
    ((((((((w.setCell ⟨b, 0, none⟩ (.int .u32 (a0.toNat : Int))).setCell ⟨b, 1, none⟩ (.int .u32 (a1.toNat : Int))).setCell ⟨b, 2, none⟩ (.int .u32 (a2.toNat : Int))).setCell ⟨b, 3, none⟩ (.int .u32 (a3.toNat : Int))).setCell ⟨b, 4, none⟩ (.int .u32 (a4.toNat : Int))).setCell ⟨b, 5, none⟩ (.int .u32 (a5.toNat : Int))).setCell ⟨b, 6, none⟩ (.int .u32 (a6.toNat : Int))).setCell ⟨b, 7, none⟩ (.int .u32 (a7.toNat : Int))).heap[b]? =
      some (.cells ((St.row ⟨a0, a1, a2, a3, a4, a5, a6, a7⟩).map encW) 116 (0, 0)) := by
  rw [lies_cells _ _ (lies_cells _ _ (lies_cells _ _ (lies_cells _ _ (lies_cells _ _ (lies_cells _ _ (lies_cells _ _ (lies_cells _ _ h)))))))]
  simp [St.row, encW]
noncomputable def body13 : Code := ((Tryz.f35.body.bind loopIn).getD .skip)

set_option maxRecDepth 1000000
set_option maxHeartbeats 20000000 in
theorem round13 (k K bs bt b o cap' : Nat) (F : Nat → UInt8) (s : St) (wo : World) (hlt : k < K) (_ : K ≤ 1000) (hcap : 64 * K ≤ cap') (hcap2 : cap' ≤ 9223372036854775807) (hbo : b < wo.heap.size) (hbt : bt < wo.heap.size) (hbs : bs < wo.heap.size)
    (HQo : Hid (∀ j, j < 64 * K → wo.cell? ⟨b, o + j, none⟩ = some (.int .u8 ((F j).toNat : Int))))
    (HT : Hid (wo.heap[bt]? = some (.cells (table.map encW) 124 (0, 0)))) (HS : Hid (wo.heap[bs]? = some (.cells (s.row.map encW) 116 (0, 0))))
    (c0 c1 c2 c23 c24 c25 c26 c27 c28 c242 c243 c244 c245 c246 c247 c248 c249 c250 c251 c252 c253 c254 c255 c256 c257 c258 : Value) (u7 u8 u9 u10 u11 u12 u13 u14 u15 u16 u17 u18 u19 u20 u21 u22 u29 u30 u31 u32 u33 u34 u35 u36 u37 u38 u39 u40 u41 u42 u43 u44 u45 u46 u47 u48 u49 u50 u51 u52 u53 u54 u55 u56 u57 u58 u59 u60 u61 u62 u63 u64 u65 u66 u67 u68 u69 u70 u71 u72 u73 u74 u75 u76 u77 u78 u79 u80 u81 u82 u83 u84 u85 u86 u87 u88 u89 u90 u91 u92 u93 u94 u95 u96 u97 u98 u99 u100 u101 u102 u103 u104 u105 u106 u107 u108 u109 u110 u111 u112 u113 u114 u115 u116 u117 u118 u119 u120 u121 u122 u123 u124 u125 u126 u127 u128 u129 u130 u131 u132 u133 u134 u135 u136 u137 u138 u139 u140 u141 u142 u143 u144 u145 u146 u147 u148 u149 u150 u151 u152 u153 u154 u155 u156 u157 u158 u159 u160 u161 u162 u163 u164 u165 u166 u167 u168 u169 u170 u171 u172 u173 u174 u175 u176 u177 u178 u179 u180 u181 u182 u183 u184 u185 u186 u187 u188 u189 u190 u191 u192 u193 u194 u195 u196 u197 u198 u199 u200 u201 u202 u203 u204 u205 u206 u207 u208 u209 u210 u211 u212 u213 u214 u215 u216 u217 u218 u219 u220 u221 u222 u223 u224 u225 u226 u227 u228 u229 u230 u231 u232 u233 u234 u235 u236 u237 u238 u239 u240 u241 : Value) (Q : Exit → Act → World → Prop)
    (hQ : ∀ (v7 v8 v9 v10 v11 v12 v13 v14 v15 v16 v17 v18 v19 v20 v21 v22 v29 v30 v31 v32 v33 v34 v35 v36 v37 v38 v39 v40 v41 v42 v43 v44 v45 v46 v47 v48 v49 v50 v51 v52 v53 v54 v55 v56 v57 v58 v59 v60 v61 v62 v63 v64 v65 v66 v67 v68 v69 v70 v71 v72 v73 v74 v75 v76 v77 v78 v79 v80 v81 v82 v83 v84 v85 v86 v87 v88 v89 v90 v91 v92 v93 v94 v95 v96 v97 v98 v99 v100 v101 v102 v103 v104 v105 v106 v107 v108 v109 v110 v111 v112 v113 v114 v115 v116 v117 v118 v119 v120 v121 v122 v123 v124 v125 v126 v127 v128 v129 v130 v131 v132 v133 v134 v135 v136 v137 v138 v139 v140 v141 v142 v143 v144 v145 v146 v147 v148 v149 v150 v151 v152 v153 v154 v155 v156 v157 v158 v159 v160 v161 v162 v163 v164 v165 v166 v167 v168 v169 v170 v171 v172 v173 v174 v175 v176 v177 v178 v179 v180 v181 v182 v183 v184 v185 v186 v187 v188 v189 v190 v191 v192 v193 v194 v195 v196 v197 v198 v199 v200 v201 v202 v203 v204 v205 v206 v207 v208 v209 v210 v211 v212 v213 v214 v215 v216 v217 v218 v219 v220 v221 v222 v223 v224 v225 v226 v227 v228 v229 v230 v231 v232 v233 v234 v235 v236 v237 v238 v239 v240 v241 : Value) (w' : World), wo.grownBy w' (some bs) → w'.heap[bs]? = some (.cells ((mixed s (fun j => F (64 * k + j))).row.map encW) 116 (0, 0)) → Q .normal ⟨#[c0, c1, c2, .pointer (some ⟨bs, 0, none⟩), .pointer (some ⟨bt, 0, none⟩), .slice (some ⟨b, o, none⟩) (64 * K) cap', .int .i64 (64 * (k : Int) + 64), v7, v8, v9, v10, v11, v12, v13, v14, v15, v16, v17, v18, v19, v20, v21, v22, c23, c24, c25, c26, c27, c28, v29, v30, v31, v32, v33, v34, v35, v36, v37, v38, v39, v40, v41, v42, v43, v44, v45, v46, v47, v48, v49, v50, v51, v52, v53, v54, v55, v56, v57, v58, v59, v60, v61, v62, v63, v64, v65, v66, v67, v68, v69, v70, v71, v72, v73, v74, v75, v76, v77, v78, v79, v80, v81, v82, v83, v84, v85, v86, v87, v88, v89, v90, v91, v92, v93, v94, v95, v96, v97, v98, v99, v100, v101, v102, v103, v104, v105, v106, v107, v108, v109, v110, v111, v112, v113, v114, v115, v116, v117, v118, v119, v120, v121, v122, v123, v124, v125, v126, v127, v128, v129, v130, v131, v132, v133, v134, v135, v136, v137, v138, v139, v140, v141, v142, v143, v144, v145, v146, v147, v148, v149, v150, v151, v152, v153, v154, v155, v156, v157, v158, v159, v160, v161, v162, v163, v164, v165, v166, v167, v168, v169, v170, v171, v172, v173, v174, v175, v176, v177, v178, v179, v180, v181, v182, v183, v184, v185, v186, v187, v188, v189, v190, v191, v192, v193, v194, v195, v196, v197, v198, v199, v200, v201, v202, v203, v204, v205, v206, v207, v208, v209, v210, v211, v212, v213, v214, v215, v216, v217, v218, v219, v220, v221, v222, v223, v224, v225, v226, v227, v228, v229, v230, v231, v232, v233, v234, v235, v236, v237, v238, v239, v240, v241, c242, c243, c244, c245, c246, c247, c248, c249, c250, c251, c252, c253, c254, c255, c256, c257, c258], []⟩ w') :
    Code.wp Tryz.prog body13 Q ⟨#[c0, c1, c2, .pointer (some ⟨bs, 0, none⟩), .pointer (some ⟨bt, 0, none⟩), .slice (some ⟨b, o, none⟩) (64 * K) cap', .int .i64 (64 * (k : Int)), u7, u8, u9, u10, u11, u12, u13, u14, u15, u16, u17, u18, u19, u20, u21, u22, c23, c24, c25, c26, c27, c28, u29, u30, u31, u32, u33, u34, u35, u36, u37, u38, u39, u40, u41, u42, u43, u44, u45, u46, u47, u48, u49, u50, u51, u52, u53, u54, u55, u56, u57, u58, u59, u60, u61, u62, u63, u64, u65, u66, u67, u68, u69, u70, u71, u72, u73, u74, u75, u76, u77, u78, u79, u80, u81, u82, u83, u84, u85, u86, u87, u88, u89, u90, u91, u92, u93, u94, u95, u96, u97, u98, u99, u100, u101, u102, u103, u104, u105, u106, u107, u108, u109, u110, u111, u112, u113, u114, u115, u116, u117, u118, u119, u120, u121, u122, u123, u124, u125, u126, u127, u128, u129, u130, u131, u132, u133, u134, u135, u136, u137, u138, u139, u140, u141, u142, u143, u144, u145, u146, u147, u148, u149, u150, u151, u152, u153, u154, u155, u156, u157, u158, u159, u160, u161, u162, u163, u164, u165, u166, u167, u168, u169, u170, u171, u172, u173, u174, u175, u176, u177, u178, u179, u180, u181, u182, u183, u184, u185, u186, u187, u188, u189, u190, u191, u192, u193, u194, u195, u196, u197, u198, u199, u200, u201, u202, u203, u204, u205, u206, u207, u208, u209, u210, u211, u212, u213, u214, u215, u216, u217, u218, u219, u220, u221, u222, u223, u224, u225, u226, u227, u228, u229, u230, u231, u232, u233, u234, u235, u236, u237, u238, u239, u240, u241, c242, c243, c244, c245, c246, c247, c248, c249, c250, c251, c252, c253, c254, c255, c256, c257, c258], []⟩ wo := by
  obtain ⟨G, hG⟩ : ∃ G : Nat → UInt8, (fun j => F (64 * k + j)) = G := ⟨_, rfl⟩
  have HG := Lib.hid hG
  rw [hG] at hQ
  have HQ := Lib.hid hQ
  clear hG hQ
  conv => arg 2; whnf
  go_wp2
  go_loopw [8] (fun i wr => ∃ m q : Nat, m ≤ 16 ∧ i = .int .i64 m ∧ wr = (wo.alloc (.cells ((sch G m).map encW) 124)).drewN q) (fun i _ => 16 - (intOf i).toNat)
  case atStart => exact ⟨0, 0, Nat.zero_le _, rfl, congrArg (fun c => wo.alloc (.cells c 124)) (by kernel_rfl)⟩
  case round =>
    obtain ⟨m, q, hm, rfl, hw⟩ := hrel
    by_cases hlm : m < 16
    · obtain ⟨c0, h0⟩ : ∃ x, G (4 * m) = x := ⟨_, rfl⟩
      obtain ⟨c1, h1⟩ : ∃ x, G (4 * m + 1) = x := ⟨_, rfl⟩
      obtain ⟨c2, h2⟩ : ∃ x, G (4 * m + 2) = x := ⟨_, rfl⟩
      obtain ⟨c3, h3⟩ : ∃ x, G (4 * m + 3) = x := ⟨_, rfl⟩
      have g : ∀ j, j < 64 → wr.cell? ⟨b, o + (64 * k + j), none⟩ = some (.int .u8 ((G j).toNat : Int)) := by
        intro j hj
        rw [hw, World.cell?_drewN, World.cell?_alloc_old _ _ _ (Nat.ne_of_lt hbo), HQo.out _ (by omega), ← HG.out]
      have g0 := g (4 * m) (by omega)
      have g1 := g (4 * m + 1) (by omega)
      have g2 := g (4 * m + 2) (by omega)
      have g3 := g (4 * m + 3) (by omega)
      rw [h0] at g0
      rw [h1, show 64 * k + (4 * m + 1) = 64 * k + 4 * m + 1 by omega] at g1
      rw [h2, show 64 * k + (4 * m + 2) = 64 * k + 4 * m + 2 by omega] at g2
      rw [h3, show 64 * k + (4 * m + 3) = 64 * k + 4 * m + 3 by omega] at g3
      clear g
      have gs : ∃ v, wr.cell? ⟨wo.heap.size, m, none⟩ = some v := by
        rw [hw, World.cell?_drewN, alloc_cell, map_at _ _ (by rw [sch_size]; omega)]; exact ⟨_, rfl⟩
      obtain ⟨v, gs⟩ := gs
      have gf : wr.frozen? ⟨wo.heap.size, m, none⟩ = false := by
        rw [hw, World.frozen?_drewN, alloc_frozen]
      have hW := Lib.hid hw
      have b0 := c0.toNat_lt
      have b1 := c1.toNat_lt
      have b2 := c2.toNat_lt
      have b3 := c3.toNat_lt
      have HWD := Lib.hid (word_eq G m h0 h1 h2 h3)
      clear hw h0 h1 h2 h3
      go_wp2
      have w0 : IntKind.i64.wrap (4 * (m : Int)) = 4 * (m : Int) := IntWalk.i64_in _ (by omega)
      have s0 : IntKind.i64.wrap (64 * (k : Int) + 4 * (m : Int)) = 64 * (k : Int) + 4 * (m : Int) := IntWalk.i64_in _ (by omega)
      have s1 : IntKind.i64.wrap (64 * (k : Int) + 4 * (m : Int) + 1) = 64 * (k : Int) + 4 * (m : Int) + 1 := IntWalk.i64_in _ (by omega)
      have s2 : IntKind.i64.wrap (64 * (k : Int) + 4 * (m : Int) + 2) = 64 * (k : Int) + 4 * (m : Int) + 2 := IntWalk.i64_in _ (by omega)
      have s3 : IntKind.i64.wrap (64 * (k : Int) + 4 * (m : Int) + 3) = 64 * (k : Int) + 4 * (m : Int) + 3 := IntWalk.i64_in _ (by omega)
      have p0 : 0 ≤ 64 * (k : Int) + 4 * (m : Int) := by omega
      have p1 : 0 ≤ 64 * (k : Int) + 4 * (m : Int) + 1 := by omega
      have p2 : 0 ≤ 64 * (k : Int) + 4 * (m : Int) + 2 := by omega
      have p3 : 0 ≤ 64 * (k : Int) + 4 * (m : Int) + 3 := by omega
      have l0 : 64 * (k : Int) + 4 * (m : Int) < 64 * (K : Int) := by omega
      have l1 : 64 * (k : Int) + 4 * (m : Int) + 1 < 64 * (K : Int) := by omega
      have l2 : 64 * (k : Int) + 4 * (m : Int) + 2 < 64 * (K : Int) := by omega
      have l3 : 64 * (k : Int) + 4 * (m : Int) + 3 < 64 * (K : Int) := by omega
      have n0 : (64 * (k : Int) + 4 * (m : Int)).toNat = 64 * k + 4 * m := by omega
      have n1 : (64 * (k : Int) + 4 * (m : Int) + 1).toNat = 64 * k + 4 * m + 1 := by omega
      have n2 : (64 * (k : Int) + 4 * (m : Int) + 2).toNat = 64 * k + 4 * m + 2 := by omega
      have n3 : (64 * (k : Int) + 4 * (m : Int) + 3).toNat = 64 * k + 4 * m + 3 := by omega
      have lm0 : 0 ≤ (m : Int) := by omega
      have lm1 : (m : Int) < 64 := by omega
      have hbx0 : (c0.toNat : Int) < 256 := by omega
      have hbx1 : (c1.toNat : Int) < 256 := by omega
      have hbx2 : (c2.toNat : Int) < 256 := by omega
      have hbx3 : (c3.toNat : Int) < 256 := by omega
      have v0 : IntKind.u32.wrap (c0.toNat : Int) = (c0.toNat : Int) := IntWalk.u32_in _ (by omega)
      have v1 : IntKind.u32.wrap (c1.toNat : Int) = (c1.toNat : Int) := IntWalk.u32_in _ (by omega)
      have v2 : IntKind.u32.wrap (c2.toNat : Int) = (c2.toNat : Int) := IntWalk.u32_in _ (by omega)
      have v3 : IntKind.u32.wrap (c3.toNat : Int) = (c3.toNat : Int) := IntWalk.u32_in _ (by omega)
      have t0 : IntKind.u32.wrap ((c0.toNat : Int) * 16777216) = (c0.toNat : Int) * 16777216 := IntWalk.u32_in _ (by omega)
      have t1 : IntKind.u32.wrap ((c1.toNat : Int) * 65536) = (c1.toNat : Int) * 65536 := IntWalk.u32_in _ (by omega)
      have t2 : IntKind.u32.wrap ((c2.toNat : Int) * 256) = (c2.toNat : Int) * 256 := IntWalk.u32_in _ (by omega)
      refine region_quiet_tail 43 (by kernel_rfl) (by kernel_rfl) ?_
      simp only [List.take_succ_cons, List.take_zero, List.drop_succ_cons, List.drop_zero]
      iterate 43 (quiet_step (fail))
      refine wpQuiet_nil ?_
      intro _ hw'
      obtain ⟨nq, hw''⟩ := hw'
      subst hw''
      clear w0 s0 s1 s2 s3 n0 n1 n2 n3 v0 v1 v2 v3 t0 t1 t2
      go_wp2
      go_roundw
      case rel =>
        refine ⟨m + 1, q + nq, by omega, by go_num, ?_⟩
        rw [HWD.out, hW.out, sch_word G m hlm, ← map_set, ← alloc_set, World.drewN_drewN]
        rfl
      case measure => simp [intOf]; omega
    · have hW := Lib.hid hw
      clear hw
      have hm16 : m = 16 := by omega
      subst hm16
      clear hlm hm
      rw [show ((16 : Nat) : Int) = 16 from rfl]
      go_wp2
      go_loopw [9] (fun i wr => ∃ m q : Nat, 16 ≤ m ∧ m ≤ 64 ∧ i = .int .i64 m ∧ wr = (wo.alloc (.cells ((sch G m).map encW) 124)).drewN q) (fun i _ => 64 - (intOf i).toNat)
      case atStart => exact ⟨16, q, by omega, by omega, rfl, hW.out⟩
      case round =>
        clear hW
        obtain ⟨m, q, hm1, hm2, rfl, hw⟩ := hrel
        by_cases hlm : m < 64
        · have gc : ∀ j, j < 64 → wr.cell? ⟨wo.heap.size, j, none⟩ = some (.int .u32 (((sch G m)[j]!).toNat : Int)) := by
            intro j hj
            rw [hw, World.cell?_drewN, alloc_cell, map_at _ _ (by rw [sch_size]; exact hj)]; rfl
          obtain ⟨x16, h16⟩ : ∃ x, (sch G m)[m - 16]! = x := ⟨_, rfl⟩
          obtain ⟨x15, h15⟩ : ∃ x, (sch G m)[m - 15]! = x := ⟨_, rfl⟩
          obtain ⟨x7, h7⟩ : ∃ x, (sch G m)[m - 7]! = x := ⟨_, rfl⟩
          obtain ⟨x2, h2⟩ : ∃ x, (sch G m)[m - 2]! = x := ⟨_, rfl⟩
          have g16 := gc (m - 16) (by omega)
          have g15 := gc (m - 15) (by omega)
          have g7 := gc (m - 7) (by omega)
          have g2 := gc (m - 2) (by omega)
          obtain ⟨v, gs⟩ : ∃ v, wr.cell? ⟨wo.heap.size, m, none⟩ = some v := ⟨_, gc m hlm⟩
          rw [h16] at g16
          rw [h15] at g15
          rw [h7] at g7
          rw [h2] at g2
          clear gc
          have gf : wr.frozen? ⟨wo.heap.size, m, none⟩ = false := by
            rw [hw, World.frozen?_drewN, alloc_frozen]
          have hL : later (sch G m) m = x16 + sig0 x15 + x7 + sig1 x2 := by unfold later; rw [h16, h15, h7, h2]
          have HL := Lib.hid hL
          have hW := Lib.hid hw
          clear hw h16 h15 h7 h2 hL
          have b16 := x16.toNat_lt
          have b15 := x15.toNat_lt
          have b7 := x7.toNat_lt
          have b2 := x2.toNat_lt
          have w15 : IntKind.i64.wrap ((m : Int) - 15) = (m : Int) - 15 := IntWalk.i64_in _ (by omega)
          have w2 : IntKind.i64.wrap ((m : Int) - 2) = (m : Int) - 2 := IntWalk.i64_in _ (by omega)
          have w16 : IntKind.i64.wrap ((m : Int) - 16) = (m : Int) - 16 := IntWalk.i64_in _ (by omega)
          have w7 : IntKind.i64.wrap ((m : Int) - 7) = (m : Int) - 7 := IntWalk.i64_in _ (by omega)
          have p15 : 15 ≤ (m : Int) := by omega
          have l15 : (m : Int) - 15 < 64 := by omega
          have t15 : ((m : Int) - 15).toNat = m - 15 := by omega
          have p2 : 2 ≤ (m : Int) := by omega
          have l2 : (m : Int) - 2 < 64 := by omega
          have t2 : ((m : Int) - 2).toNat = m - 2 := by omega
          have p16 : 16 ≤ (m : Int) := by omega
          have l16 : (m : Int) - 16 < 64 := by omega
          have t16 : ((m : Int) - 16).toNat = m - 16 := by omega
          have p7 : 7 ≤ (m : Int) := by omega
          have l7 : (m : Int) - 7 < 64 := by omega
          have t7 : ((m : Int) - 7).toNat = m - 7 := by omega
          go_wp2
          go_quiet (fail)
          generalize hn1 : nq = n1
          clear hn1
          go_wp2
          refine region_quiet_tail 29 (by kernel_rfl) (by kernel_rfl) ?_
          simp only [List.take_succ_cons, List.take_zero, List.drop_succ_cons, List.drop_zero]
          iterate 29 (quiet_step ((first | (go_at_call 52; exact Calls.quiet_of (turn_gen _ _ _ (by decide))) | (go_at_call 52; exact drawn_again (turn_gen _ _ _ (by decide))))))
          refine wpQuiet_nil ?_
          intro _ hw'
          obtain ⟨nq, hw''⟩ := hw'
          subst hw''
          clear w15 w2 w16 w7 t15 t2 t16 t7
          go_wp2
          go_roundw
          case rel =>
            refine ⟨m + 1, q + (n1 + nq), by omega, by omega, by go_num, ?_⟩
            rw [later_eq, ← HL.out, hW.out, sch_later G m hm1, ← map_set, ← alloc_set, World.drewN_drewN]
            rfl
          case measure => simp [intOf]; omega
        · have hm64 : m = 64 := by omega
          subst hm64
          clear hlm hm1 hm2
          rw [show ((64 : Nat) : Int) = 64 from rfl]
          obtain ⟨sa, sb, sc, sd, se, sf, sg, sh⟩ := s
          have go : ∀ j (x : UInt32), j < 8 → (St.row ⟨sa, sb, sc, sd, se, sf, sg, sh⟩)[j]? = some x → wr.cell? ⟨bs, j, none⟩ = some (.int .u32 (x.toNat : Int)) := by
            intro j x hj hx
            rw [hw, World.cell?_drewN, World.cell?_alloc_old _ _ _ (Nat.ne_of_lt hbs), cell_in HS.out, Array.getElem?_map, hx]
            rfl
          have q0 := go 0 sa (by omega) rfl
          have q1 := go 1 sb (by omega) rfl
          have q2 := go 2 sc (by omega) rfl
          have q3 := go 3 sd (by omega) rfl
          have q4 := go 4 se (by omega) rfl
          have q5 := go 5 sf (by omega) rfl
          have q6 := go 6 sg (by omega) rfl
          have q7 := go 7 sh (by omega) rfl
          clear go
          have hW := Lib.hid hw
          clear hw
          go_wp2
          go_quiet (fail)
          clear q0 q1 q2 q3 q4 q5 q6 q7
          go_wp2
          go_loopw [12, 13, 14, 15, 16, 17, 18, 19, 20] (fun va vb vc vd ve vf vg vh i wr => ∃ (m q : Nat) (t : St), m ≤ 64 ∧ i = .int .i64 m ∧ t = rounds table (sch G 64) ⟨sa, sb, sc, sd, se, sf, sg, sh⟩ m ∧
              va = .int .u32 (t.a.toNat : Int) ∧ vb = .int .u32 (t.b.toNat : Int) ∧ vc = .int .u32 (t.c.toNat : Int) ∧ vd = .int .u32 (t.d.toNat : Int) ∧ ve = .int .u32 (t.e.toNat : Int) ∧ vf = .int .u32 (t.f.toNat : Int) ∧ vg = .int .u32 (t.g.toNat : Int) ∧ vh = .int .u32 (t.h.toNat : Int) ∧
              wr = (wo.alloc (.cells ((sch G 64).map encW) 124)).drewN q) (fun _ _ _ _ _ _ _ _ i _ => 64 - (intOf i).toNat)
          case atStart => exact ⟨0, _, _, by omega, rfl, rfl, rfl, rfl, rfl, rfl, rfl, rfl, rfl, rfl, by rw [hW.out, World.drewN_drewN]⟩
          case round =>
            clear hW
            obtain ⟨m, q, t, hm, rfl, ht, rfl, rfl, rfl, rfl, rfl, rfl, rfl, rfl, hw⟩ := hrel
            by_cases hlm : m < 64
            · obtain ⟨kk, hkk⟩ : ∃ x, table[m]! = x := ⟨_, rfl⟩
              obtain ⟨vv, hvv⟩ : ∃ x, (sch G 64)[m]! = x := ⟨_, rfl⟩
              have gk : wr.cell? ⟨bt, m, none⟩ = some (.int .u32 (kk.toNat : Int)) := by
                rw [hw, World.cell?_drewN, World.cell?_alloc_old _ _ _ (Nat.ne_of_lt hbt), cell_in HT.out, map_at _ _ (by rw [table_size]; exact hlm), hkk]; rfl
              have gv : wr.cell? ⟨wo.heap.size, m, none⟩ = some (.int .u32 (vv.toNat : Int)) := by
                rw [hw, World.cell?_drewN, alloc_cell, map_at _ _ (by rw [sch_size]; exact hlm), hvv]; rfl
              obtain ⟨a, b, c, d, e, f, g, h⟩ := t
              have HR : Hid (rounds table (sch G 64) ⟨sa, sb, sc, sd, se, sf, sg, sh⟩ (m + 1) = turnOnce ⟨a, b, c, d, e, f, g, h⟩ kk vv) := by
                show rounds table (sch G 64) ⟨sa, sb, sc, sd, se, sf, sg, sh⟩ (m + 1) = _
                rw [← hkk, ← hvv, ht]; rfl
              have hW := Lib.hid hw
              clear hw ht hkk hvv
              have p0 : 0 ≤ (m : Int) := by omega
              have p1 : (m : Int) < 64 := by omega
              have hsu := sgn
              go_wp2
              go_quiet ((first | (go_at_call 52; exact Calls.quiet_of (turn_gen _ _ _ (by decide))) | (go_at_call 52; exact drawn_again (turn_gen _ _ _ (by decide)))))
              generalize hn1 : nq = n1
              clear hn1
              go_wp2_with fail
              (with_reducible refine (turn_gen a 2 _ tc2).mono ?_)
              rintro ee ww ⟨rfl, qa, rfl⟩
              dsimp only
              go_wp2_with fail
              (with_reducible refine (turn_gen a 13 _ tc13).mono ?_)
              rintro ee ww ⟨rfl, qb, rfl⟩
              dsimp only
              go_wp2_with fail
              (with_reducible refine (turn_gen a 22 _ tc22).mono ?_)
              rintro ee ww ⟨rfl, qc, rfl⟩
              dsimp only
              go_wp2
              go_roundw
              case rel =>
                have h1 := one_eq a b c d e f g h kk vv
                have h2 := two_eq a b c d e f g h
                rw [hsu] at h1
                exact ⟨m + 1, q + (n1 + qa + qb + qc), turnOnce ⟨a, b, c, d, e, f, g, h⟩ kk vv, by omega, by go_num, HR.out.symm, congrArg (Value.int .u32) (by rw [h1, h2, add32]; rfl), rfl, rfl, rfl,
                  congrArg (Value.int .u32) (by rw [h1, add32]; rfl), rfl, rfl, rfl, by rw [hW.out, World.drewN_drewN]⟩
              case measure => simp [intOf]; omega
            · have hm64 : m = 64 := by omega
              subst hm64
              clear hlm hm
              rw [show ((64 : Nat) : Int) = 64 from rfl]
              have go : ∀ j (x : UInt32), j < 8 → (St.row ⟨sa, sb, sc, sd, se, sf, sg, sh⟩)[j]? = some x → wr.cell? ⟨bs, j, none⟩ = some (.int .u32 (x.toNat : Int)) := by
                intro j x hj hx
                rw [hw, World.cell?_drewN, World.cell?_alloc_old _ _ _ (Nat.ne_of_lt hbs), cell_in HS.out, Array.getElem?_map, hx]
                rfl
              have hbw : Hid (wr.heap[bs]? = some (.cells ((St.row ⟨sa, sb, sc, sd, se, sf, sg, sh⟩).map encW) 116 (0, 0))) := by
                show _ = _
                rw [hw]
                show (wo.alloc _).heap[bs]? = _
                rw [heap_alloc_old _ _ hbs]
                exact HS.out
              have gf : ∀ j, wr.frozen? ⟨bs, j, none⟩ = false := fun j => free_in hbw.out j
              have q0 := go 0 sa (by omega) rfl
              have q1 := go 1 sb (by omega) rfl
              have q2 := go 2 sc (by omega) rfl
              have q3 := go 3 sd (by omega) rfl
              have q4 := go 4 se (by omega) rfl
              have q5 := go 5 sf (by omega) rfl
              have q6 := go 6 sg (by omega) rfl
              have q7 := go 7 sh (by omega) rfl
              have f0' := gf 0
              have f1' := gf 1
              have f2' := gf 2
              have f3' := gf 3
              have f4' := gf 4
              have f5' := gf 5
              have f6' := gf 6
              have f7' := gf 7
              clear go gf
              obtain ⟨a, b, c, d, e, f, g, h⟩ := t
              have HTT := Lib.hid ht
              have hW := Lib.hid hw
              clear hw ht
              go_wp2
              refine HQ.out _ _ _ _ _ _ _ _ _ _ _ _ _ _ _ _ _ _ _ _ _ _ _ _ _ _ _ _ _ _ _ _ _ _ _ _ _ _ _ _ _ _ _ _ _ _ _ _ _ _ _ _ _ _ _ _ _ _ _ _ _ _ _ _ _ _ _ _ _ _ _ _ _ _ _ _ _ _ _ _ _ _ _ _ _ _ _ _ _ _ _ _ _ _ _ _ _ _ _ _ _ _ _ _ _ _ _ _ _ _ _ _ _ _ _ _ _ _ _ _ _ _ _ _ _ _ _ _ _ _ _ _ _ _ _ _ _ _ _ _ _ _ _ _ _ _ _ _ _ _ _ _ _ _ _ _ _ _ _ _ _ _ _ _ _ _ _ _ _ _ _ _ _ _ _ _ _ _ _ _ _ _ _ _ _ _ _ _ _ _ _ _ _ _ _ _ _ _ _ _ _ _ _ _ _ _ _ _ _ _ _ _ _ _ _ _ _ _ _ _ _ _ _ _ _ _ _ _ _ _ ?_ ?_
              · have h1 : wo.grownBy wr (some bs) := by
                  rw [hW.out]
                  exact ⟨rfl, rfl, rfl, by show _ ≤ (wo.alloc _).heap.size; rw [alloc_size]; omega, fun j hj _ => heap_alloc_old wo _ hj⟩
                exact World.grownBy.trans h1 (grown8 _ _ _ _ _ _ _ _ _ _)
              · have HM : mixed ⟨sa, sb, sc, sd, se, sf, sg, sh⟩ G = ⟨sa + a, sb + b, sc + c, sd + d, se + e, sf + f, sg + g, sh + h⟩ := by
                  unfold mixed
                  rw [← HTT.out]
                rw [HM, add32, add32, add32, add32, add32, add32, add32, add32]
                exact lies8 _ _ _ _ _ _ _ _ _ _ _ hbw.out
end Go.Proofs.YtfpehdldgnfciaaGreatDoor.Sha
