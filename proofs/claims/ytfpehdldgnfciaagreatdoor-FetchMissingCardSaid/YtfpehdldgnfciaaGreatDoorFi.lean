/- The law's row of bytes. -/
import Derived.Test.YtfpehdldgnfciaaGreatDoorFh
import Derived.Test.YtfpehdldgnfciaaGreatDoorFv
namespace Go.Proofs.YtfpehdldgnfciaaGreatDoor
open Go.RowKit

set_option maxRecDepth 1000000
theorem of_at (B b : Nat) (v : Value) (M : List UInt8) (W : World) (hP : Part W B v M) (hB : B ≤ W.heap.size) (hb : W.heap[b]? = some (.cells #[v] 24 (0, 0))) (hM : M.length ≤ 10000) :
    Calls Tryz.prog 16 #[.slice (some ⟨b, 0, none⟩) 1 1] W fun e w' => e = .returned (.agg (keyV M)) ∧ W.grownBy w' none := by
  refine (Sha.of_any W.heap.size 1 1 _ [M] _ rfl (Nat.le_refl _) (by unfold maxLen; omega) (by simpa using hM) ⟨b, 0, bk_size hb, fun _ => rfl, fun i hi => ?_⟩).mono fun e w' h => ?_
  · have h0 : i = 0 := by simpa using hi
    subst h0
    exact ⟨v, (bk_cell hb 0 v rfl).1, hP.le hB⟩
  · obtain ⟨h1, h2⟩ := h
    exact ⟨by rw [h1]; simp [keyV], h2⟩
theorem built_row (K : Array Value) (n : Int) (hK : K.size = 32) : Tryz.prog.built 35 [(0, .string ⟨#[97]⟩), (1, .agg #[.int .i64 1, .int .i64 0, .int .i64 0, .slice none 0 0]), (2, .agg K), (3, .int .i64 n)] = some (rowC K n) := by
  obtain ⟨k0, k1, k2, k3, k4, k5, k6, k7, k8, k9, k10, k11, k12, k13, k14, k15, k16, k17, k18, k19, k20, k21, k22, k23, k24, k25, k26, k27, k28, k29, k30, k31, rfl⟩ := arr32 K hK
  kernel_rfl
theorem verload {W : World} {b : Nat} (h : W.heap[b]? = some (.cells #[.int .i64 1, .int .i64 0, .int .i64 0, .slice none 0 0] 30 (0, 0))) : (Instr.loadAt 30 (.pointer (some ⟨b, 0, none⟩))).run Tryz.prog W = .ok (.agg #[.int .i64 1, .int .i64 0, .int .i64 0, .slice none 0 0]) W := by
  simp only [Instr.loadAt, Instr.sureAddr, Sem.run_bind, Sem.run_pure, Result.andThen_ok]
  rw [run_loadVar_row W b 30 30 _ (0, 0) _ h Tryz.underlying30 rfl (by kernel_rfl)]
theorem drew1 (W : World) (X : Obj) : W.drew.grownBy (W.alloc X).drew none := World.grownBy_alloc W.drew X none
structure RowS (w : World) (V R : Nat) (Z : Array Value) (W : World) : Prop where
  g : w.grownBy W none
  v : W.heap[V]? = some (.cells #[.int .i64 1, .int .i64 0, .int .i64 0, .slice none 0 0] 30 (0, 0))
  r : W.heap[R]? = some (.cells Z 35 (0, 0))
theorem RowS.stays {w W W' : World} {V R : Nat} {Z : Array Value} (h : RowS w V R Z W) (hg : W.grownBy W' none) : RowS w V R Z W' := ⟨World.grownBy.trans h.g hg, bk_kept h.v hg, bk_kept h.r hg⟩
theorem RowS.row {w W : World} {V R b : Nat} {Z C : Array Value} (h : RowS w V R Z W) (h0 : w.heap.size ≤ b) (hV : V < b) (hR : R < b) : RowS w V R Z (W.setRow b C) :=
  ⟨Sha.grown_setRow h.g h0 _, by rw [setRow_other _ _ _ _ (by omega)]; exact h.v, by rw [setRow_other _ _ _ _ (by omega)]; exact h.r⟩
set_option maxHeartbeats 16000000 in
theorem row_any (n c B : Nat) (a : Option Addr) (L : List UInt8) (w : World) (hL : L.length = n) (hn : n ≤ 10000) (hP : Part w B (.slice a n c) L) (hB : B ≤ w.heap.size) :
    Calls Tryz.prog 7 #[.slice a n c, .int .u8 0] w fun e w' => e = .returned (.agg (rowC (keyV L) n)) ∧ w.grownBy w' none := by
  have hz := zero_row
  have hzs := zeroRow_size
  obtain ⟨Z, hZ⟩ : ∃ Z, zeroRow = Z := ⟨_, rfl⟩
  rw [hZ] at hz hzs
  have HZS := Lib.hid hzs
  obtain ⟨R, hR⟩ : ∃ R, w.heap.size = R := ⟨_, rfl⟩
  have HR := Lib.hid hR
  have HL := Lib.hid hL
  have hk := keyV_size L
  have hko := keyV_one L
  have ho := fun W b (hW : w.grownBy W none) hb => of_at B b (.slice a n c) L W (hP.stays hW) (Nat.le_trans hB hW.size) hb (by omega)
  obtain ⟨KK, hKK⟩ : ∃ KK, keyV L = KK := ⟨_, rfl⟩
  rw [hKK] at ho hk hko
  have HO := Lib.hid ho
  have hbu := built_row KK n hk
  have hall := row_all (n := n) hko
  have hsz : (rowC KK n).size = 39 := rowC_size hk
  rw [hKK]
  obtain ⟨C, hC⟩ : ∃ C, rowC KK n = C := ⟨_, rfl⟩
  rw [hC] at hbu hall hsz ⊢
  have HBU := Lib.hid hbu
  have H1 := Lib.hid hall
  have HSZ := Lib.hid hsz
  have HI : Hid ((Tryz.prog.info? 35).map (·.size) = some C.size) := by show _ = _; rw [hsz]; exact info_row
  clear hZ hzs hR hP hL hB hKK hko ho hbu hall hsz hC hk
  go_enter Tryz.func7, Tryz.ntmps7
  go_wp2_with fail
  obtain ⟨W1, hW1⟩ : ∃ W1, w.alloc (.cells Z 35) = W1 := ⟨_, rfl⟩
  have G1 : Hid (w.grownBy W1 none) := by show World.grownBy _ _ _; rw [← hW1]; exact World.grownBy_alloc _ _ _
  have B1 : Hid (W1.heap[R]? = some (.cells Z 35 (0, 0))) := by show _ = _; rw [← hW1, ← HR.out]; exact bk_alloc _ _
  rw [hW1]
  clear hW1
  (with_reducible refine (version_one W1).mono ?_)
  rintro ee w2 ⟨rfl, hg2⟩
  dsimp only
  go_wp2_with fail
  obtain ⟨V, hV⟩ : ∃ V, w2.heap.size = V := ⟨_, rfl⟩
  obtain ⟨W0, hW0⟩ : ∃ W0, w2.alloc (.cells #[.int .i64 1, .int .i64 0, .int .i64 0, .slice none 0 0] 30) = W0 := ⟨_, rfl⟩
  have hS0 : RowS w V R Z W0.drew := ⟨by rw [← hW0]; exact grown_drew 1 (grown_alloc _ (World.grownBy.trans G1.out hg2)), by rw [← hW0, ← hV]; exact bk_alloc _ _, by rw [← hW0]; exact bk_kept (bk_kept B1.out hg2) (grown_drew 1 (World.grownBy_alloc _ _ _))⟩
  have HVN : Hid (V < W0.heap.size) := by show V < _; rw [← hV, ← hW0, alloc_size]; omega
  have HRN : Hid (R < W0.heap.size) := by show R < _; have := bk_size hS0.r; exact this
  have HRW : Hid (w.heap.size ≤ W0.heap.size) := hS0.g.size
  rw [hV, hW0, HR.out]
  clear hg2 hV hW0
  refine wp_region_noPanic ?_
  refine wp_region_held_drew (S := RowS w V R Z) (by kernel_rfl) hS0 (fun g0 => ?_)
  refine wpAnyH_take (i := 0) (v := .agg #[.int .i64 1, .int .i64 0, .int .i64 0, .slice none 0 0]) rfl (by kernel_rfl) (by kernel_rfl) (by kernel_rfl) (fun _ _ _ h => h) (Or.inl ⟨by rfl, fun V' hV' => ?_⟩) g0 ?_
  · have h := verload hV'.v
    simp [execOp, Act.eval, h, Result.andThen]
  try simp only [Act.put, List.getElem_toArray, List.getElem_cons_zero, List.getElem_cons_succ, List.setIfInBounds_toArray, List.set_cons_zero, List.set_cons_succ]
  refine wpAnyH_take (i := 1) (v := .slice a n c) rfl (by kernel_rfl) (by kernel_rfl) (by kernel_rfl) (fun _ _ _ h => h) (Or.inl ⟨by rfl, fun V' hV' => ?_⟩) g0 ?_
  · rfl
  try simp only [Act.put, List.getElem_toArray, List.getElem_cons_zero, List.getElem_cons_succ, List.setIfInBounds_toArray, List.set_cons_zero, List.set_cons_succ]
  refine wpAnyH_take (i := 4) (v := .slice a n c) rfl (by kernel_rfl) (by kernel_rfl) (by kernel_rfl) (fun _ _ _ h => h) (Or.inl ⟨by rfl, fun V' hV' => ?_⟩) g0 ?_
  · rfl
  try simp only [Act.put, List.getElem_toArray, List.getElem_cons_zero, List.getElem_cons_succ, List.setIfInBounds_toArray, List.set_cons_zero, List.set_cons_succ]
  refine wpAnyH_take (i := 5) (v := .int .i64 (n : Int)) rfl (by kernel_rfl) (by kernel_rfl) (by kernel_rfl) (fun _ _ _ h => h) (Or.inl ⟨by rfl, fun V' hV' => ?_⟩) g0 ?_
  · go_simp
  try simp only [Act.put, List.getElem_toArray, List.getElem_cons_zero, List.getElem_cons_succ, List.setIfInBounds_toArray, List.set_cons_zero, List.set_cons_succ]
  refine wpAnyH_ready (rs := [2, 7]) (by kernel_rfl) (by simp) ?_
  refine AllReadyH.cons rfl (fun K hK => ?_) (AllReadyH.cons rfl (fun K hK => ?_) AllReadyH.nil)
  · rw [if_pos (by rfl)]
    go_simp
    refine hK.out _ _ (g0.stays (drew1 _ _)) (fun g1 => ?_)
    clear hK K
    try simp only [Act.put, List.getElem_toArray, List.getElem_cons_zero, List.getElem_cons_succ, List.setIfInBounds_toArray, List.set_cons_zero, List.set_cons_succ]
    have bA : (W0.alloc (.cells #[.slice a n c] 24)).drew.heap[W0.heap.size]? = some (.cells #[.slice a n c] 24 (0, 0)) := bk_alloc W0 _
    have BA := Lib.hid bA
    have zA : (W0.alloc (.cells #[.slice a n c] 24)).drew.heap.size = W0.heap.size + 1 := alloc_size W0 _
    have ZA := Lib.hid zA
    clear bA zA
    refine wpAnyH_ready (rs := [3, 7]) (by kernel_rfl) (by simp) ?_
    refine AllReadyH.cons rfl (fun K hK => ?_) (AllReadyH.cons rfl (fun K hK => ?_) AllReadyH.nil)
    · rw [if_pos (by rfl)]
      go_simp
      (with_reducible refine (HO.out _ _ g1.g BA.out).mono ?_)
      rintro ee w9 ⟨rfl, q9⟩
      dsimp only
      have hs9 : W0.heap.size + 1 ≤ w9.heap.size := by have := q9.size; have := ZA.out; omega
      refine hK.out _ _ (g1.stays q9) (fun g2 => ?_)
      clear hK K
      try simp only [Act.put, List.getElem_toArray, List.getElem_cons_zero, List.getElem_cons_succ, List.setIfInBounds_toArray, List.set_cons_zero, List.set_cons_succ]
      refine wpAnyH_take (i := 6) (v := .agg C) rfl (by kernel_rfl) (by kernel_rfl) (by kernel_rfl) (fun _ _ _ h => h) (Or.inl ⟨by rfl, fun V' hV' => ?_⟩) g2 ?_
      · have h := run_build (P := Tryz.prog) V' 35 #[(0, .string ⟨#[97]⟩), (1, .agg #[.int .i64 1, .int .i64 0, .int .i64 0, .slice none 0 0]), (2, .agg KK), (3, .int .i64 (n : Int))] C HBU.out
        simp [execOp, Act.eval, h, Result.andThen]
      try simp only [Act.put, List.getElem_toArray, List.getElem_cons_zero, List.getElem_cons_succ, List.setIfInBounds_toArray, List.set_cons_zero, List.set_cons_succ]
      refine wpAnyH_ready (rs := [7]) (by kernel_rfl) (by simp) ?_
      refine AllReadyH.cons rfl (fun K hK => ?_) AllReadyH.nil
      rw [if_pos (by rfl)]
      go_simp
      refine hK.out _ _ (g2.stays (World.grownBy_alloc _ _ _)) (fun g3 => ?_)
      clear hK K
      try simp only [Act.put, List.getElem_toArray, List.getElem_cons_zero, List.getElem_cons_succ, List.setIfInBounds_toArray, List.set_cons_zero, List.set_cons_succ]
      refine wpAnyH_ready (rs := [8]) (by kernel_rfl) (by simp) ?_
      refine AllReadyH.cons rfl (fun K hK => ?_) AllReadyH.nil
      rw [if_pos (by rfl)]
      refine wp_store_row 35 _ _ rfl w9.heap.size C rfl rfl 35 Z (bk_alloc _ _) HI.out (by rw [HSZ.out, HZS.out]) H1.out ?_
      refine hK.out _ _ (g3.row (by have := HRW.out; omega) (by have := HVN.out; omega) (by have := HRN.out; omega)) (fun gf => ?_)
      clear hK K
      try simp only [Act.put, List.getElem_toArray, List.getElem_cons_zero, List.getElem_cons_succ, List.setIfInBounds_toArray, List.set_cons_zero, List.set_cons_succ]
      refine wpAnyH_done (by kernel_rfl) ?_ _
      refine NoPanic.normal ?_
      have hbb := setRow_heap _ w9.heap.size _ C 35 _ (bk_alloc w9 (.cells Z 35))
      obtain ⟨X, hX⟩ : ∃ X, w9.heap.size = X := ⟨_, rfl⟩
      rw [hX] at hbb gf ⊢
      generalize World.setRow _ X C = WF at hbb gf ⊢
      have HBB := Lib.hid hbb
      have HGF := Lib.hid gf
      clear hX hbb gf
      go_wp2_with (first
        | ((with_reducible refine wpList_load_row (o := ⟨some 45, _, _, _, _, _⟩) rfl 35 _ rfl X ?_ 35 C (0, 0) _ HBB.out Tryz.underlying35 ?_ HI.out ?_); (rfl); (rfl))
        | ((with_reducible refine wpList_store_row (o := ⟨none, _, _, _, _, _⟩) rfl 35 _ _ rfl R C ?_ ?_ 35 Z HGF.out.r HI.out ?_ H1.out ?_); (rfl); (rfl); (rw [HSZ.out, HZS.out])))
      refine bodyPost_ret (v := .agg C) ?_ rfl ⟨rfl, Sha.grown_setRow HGF.out.g (by have := HR.out; omega) _⟩
      exact results_cell_row rfl _ _ R 35 C (0, 0) _ rfl (setRow_heap _ _ _ C 35 _ HGF.out.r) Tryz.underlying35 rfl HI.out
    · rw [if_pos (by rfl)]
      go_simp
      refine hK.out _ _ (g1.stays (World.grownBy_alloc _ _ _)) (fun g2 => ?_)
      clear hK K
      try simp only [Act.put, List.getElem_toArray, List.getElem_cons_zero, List.getElem_cons_succ, List.setIfInBounds_toArray, List.set_cons_zero, List.set_cons_succ]
      have zB : ((W0.alloc (.cells #[.slice a n c] 24)).alloc (.cells Z 35)).drew.heap[W0.heap.size + 1]? = some (.cells Z 35 (0, 0)) := by rw [← ZA.out]; exact bk_alloc _ _
      have ZB := Lib.hid zB
      clear zB
      refine wpAnyH_ready (rs := [3]) (by kernel_rfl) (by simp) ?_
      refine AllReadyH.cons rfl (fun K hK => ?_) AllReadyH.nil
      rw [if_pos (by rfl)]
      go_simp
      (with_reducible refine (HO.out _ _ g2.g (bk_kept BA.out (World.grownBy_alloc _ _ _))).mono ?_)
      rintro ee w9 ⟨rfl, q9⟩
      dsimp only
      refine hK.out _ _ (g2.stays q9) (fun g3 => ?_)
      clear hK K
      try simp only [Act.put, List.getElem_toArray, List.getElem_cons_zero, List.getElem_cons_succ, List.setIfInBounds_toArray, List.set_cons_zero, List.set_cons_succ]
      refine wpAnyH_take (i := 6) (v := .agg C) rfl (by kernel_rfl) (by kernel_rfl) (by kernel_rfl) (fun _ _ _ h => h) (Or.inl ⟨by rfl, fun V' hV' => ?_⟩) g3 ?_
      · have h := run_build (P := Tryz.prog) V' 35 #[(0, .string ⟨#[97]⟩), (1, .agg #[.int .i64 1, .int .i64 0, .int .i64 0, .slice none 0 0]), (2, .agg KK), (3, .int .i64 (n : Int))] C HBU.out
        simp [execOp, Act.eval, h, Result.andThen]
      try simp only [Act.put, List.getElem_toArray, List.getElem_cons_zero, List.getElem_cons_succ, List.setIfInBounds_toArray, List.set_cons_zero, List.set_cons_succ]
      have Z9 := Lib.hid (bk_kept ZB.out q9)
      refine wpAnyH_ready (rs := [8]) (by kernel_rfl) (by simp) ?_
      refine AllReadyH.cons rfl (fun K hK => ?_) AllReadyH.nil
      rw [if_pos (by rfl)]
      refine wp_store_row 35 _ _ rfl (W0.heap.size + 1) C rfl rfl 35 Z Z9.out HI.out (by rw [HSZ.out, HZS.out]) H1.out ?_
      refine hK.out _ _ (g3.row (by have := HRW.out; omega) (by have := HVN.out; omega) (by have := HRN.out; omega)) (fun gf => ?_)
      clear hK K
      try simp only [Act.put, List.getElem_toArray, List.getElem_cons_zero, List.getElem_cons_succ, List.setIfInBounds_toArray, List.set_cons_zero, List.set_cons_succ]
      refine wpAnyH_done (by kernel_rfl) ?_ _
      refine NoPanic.normal ?_
      have hbb := setRow_heap _ (W0.heap.size + 1) _ C 35 _ Z9.out
      obtain ⟨X, hX⟩ : ∃ X, W0.heap.size + 1 = X := ⟨_, rfl⟩
      rw [hX] at hbb gf ⊢
      generalize World.setRow _ X C = WF at hbb gf ⊢
      have HBB := Lib.hid hbb
      have HGF := Lib.hid gf
      clear hX hbb gf
      go_wp2_with (first
        | ((with_reducible refine wpList_load_row (o := ⟨some 45, _, _, _, _, _⟩) rfl 35 _ rfl X ?_ 35 C (0, 0) _ HBB.out Tryz.underlying35 ?_ HI.out ?_); (rfl); (rfl))
        | ((with_reducible refine wpList_store_row (o := ⟨none, _, _, _, _, _⟩) rfl 35 _ _ rfl R C ?_ ?_ 35 Z HGF.out.r HI.out ?_ H1.out ?_); (rfl); (rfl); (rw [HSZ.out, HZS.out])))
      refine bodyPost_ret (v := .agg C) ?_ rfl ⟨rfl, Sha.grown_setRow HGF.out.g (by have := HR.out; omega) _⟩
      exact results_cell_row rfl _ _ R 35 C (0, 0) _ rfl (setRow_heap _ _ _ C 35 _ HGF.out.r) Tryz.underlying35 rfl HI.out
  · rw [if_pos (by rfl)]
    go_simp
    refine hK.out _ _ (g0.stays (drew1 _ _)) (fun g1 => ?_)
    clear hK K
    try simp only [Act.put, List.getElem_toArray, List.getElem_cons_zero, List.getElem_cons_succ, List.setIfInBounds_toArray, List.set_cons_zero, List.set_cons_succ]
    have zC : (W0.alloc (.cells Z 35)).drew.heap[W0.heap.size]? = some (.cells Z 35 (0, 0)) := bk_alloc W0 _
    have ZC := Lib.hid zC
    have zA : (W0.alloc (.cells Z 35)).drew.heap.size = W0.heap.size + 1 := alloc_size W0 _
    have ZA := Lib.hid zA
    clear zC zA
    refine wpAnyH_ready (rs := [2]) (by kernel_rfl) (by simp) ?_
    refine AllReadyH.cons rfl (fun K hK => ?_) AllReadyH.nil
    rw [if_pos (by rfl)]
    go_simp
    refine hK.out _ _ (g1.stays (World.grownBy_alloc _ _ _)) (fun g2 => ?_)
    clear hK K
    try simp only [Act.put, List.getElem_toArray, List.getElem_cons_zero, List.getElem_cons_succ, List.setIfInBounds_toArray, List.set_cons_zero, List.set_cons_succ]
    have bA : ((W0.alloc (.cells Z 35)).alloc (.cells #[.slice a n c] 24)).drew.heap[W0.heap.size + 1]? = some (.cells #[.slice a n c] 24 (0, 0)) := by rw [← ZA.out]; exact bk_alloc _ _
    have BA := Lib.hid bA
    clear bA
    refine wpAnyH_ready (rs := [3]) (by kernel_rfl) (by simp) ?_
    refine AllReadyH.cons rfl (fun K hK => ?_) AllReadyH.nil
    rw [if_pos (by rfl)]
    go_simp
    (with_reducible refine (HO.out _ _ g2.g BA.out).mono ?_)
    rintro ee w9 ⟨rfl, q9⟩
    dsimp only
    refine hK.out _ _ (g2.stays q9) (fun g3 => ?_)
    clear hK K
    try simp only [Act.put, List.getElem_toArray, List.getElem_cons_zero, List.getElem_cons_succ, List.setIfInBounds_toArray, List.set_cons_zero, List.set_cons_succ]
    refine wpAnyH_take (i := 6) (v := .agg C) rfl (by kernel_rfl) (by kernel_rfl) (by kernel_rfl) (fun _ _ _ h => h) (Or.inl ⟨by rfl, fun V' hV' => ?_⟩) g3 ?_
    · have h := run_build (P := Tryz.prog) V' 35 #[(0, .string ⟨#[97]⟩), (1, .agg #[.int .i64 1, .int .i64 0, .int .i64 0, .slice none 0 0]), (2, .agg KK), (3, .int .i64 (n : Int))] C HBU.out
      simp [execOp, Act.eval, h, Result.andThen]
    try simp only [Act.put, List.getElem_toArray, List.getElem_cons_zero, List.getElem_cons_succ, List.setIfInBounds_toArray, List.set_cons_zero, List.set_cons_succ]
    have Z9 := Lib.hid (bk_kept (bk_kept ZC.out (World.grownBy_alloc _ _ _)) q9)
    refine wpAnyH_ready (rs := [8]) (by kernel_rfl) (by simp) ?_
    refine AllReadyH.cons rfl (fun K hK => ?_) AllReadyH.nil
    rw [if_pos (by rfl)]
    refine wp_store_row 35 _ _ rfl W0.heap.size C rfl rfl 35 Z Z9.out HI.out (by rw [HSZ.out, HZS.out]) H1.out ?_
    refine hK.out _ _ (g3.row (by have := HRW.out; omega) (by have := HVN.out; omega) (by have := HRN.out; omega)) (fun gf => ?_)
    clear hK K
    try simp only [Act.put, List.getElem_toArray, List.getElem_cons_zero, List.getElem_cons_succ, List.setIfInBounds_toArray, List.set_cons_zero, List.set_cons_succ]
    refine wpAnyH_done (by kernel_rfl) ?_ _
    refine NoPanic.normal ?_
    have hbb := setRow_heap _ W0.heap.size _ C 35 _ Z9.out
    obtain ⟨X, hX⟩ : ∃ X, W0.heap.size = X := ⟨_, rfl⟩
    rw [hX] at hbb gf ⊢
    generalize World.setRow _ X C = WF at hbb gf ⊢
    have HBB := Lib.hid hbb
    have HGF := Lib.hid gf
    clear hX hbb gf
    go_wp2_with (first
      | ((with_reducible refine wpList_load_row (o := ⟨some 45, _, _, _, _, _⟩) rfl 35 _ rfl X ?_ 35 C (0, 0) _ HBB.out Tryz.underlying35 ?_ HI.out ?_); (rfl); (rfl))
      | ((with_reducible refine wpList_store_row (o := ⟨none, _, _, _, _, _⟩) rfl 35 _ _ rfl R C ?_ ?_ 35 Z HGF.out.r HI.out ?_ H1.out ?_); (rfl); (rfl); (rw [HSZ.out, HZS.out])))
    refine bodyPost_ret (v := .agg C) ?_ rfl ⟨rfl, Sha.grown_setRow HGF.out.g (by have := HR.out; omega) _⟩
    exact results_cell_row rfl _ _ R 35 C (0, 0) _ rfl (setRow_heap _ _ _ C 35 _ HGF.out.r) Tryz.underlying35 rfl HI.out
end Go.Proofs.YtfpehdldgnfciaaGreatDoor
