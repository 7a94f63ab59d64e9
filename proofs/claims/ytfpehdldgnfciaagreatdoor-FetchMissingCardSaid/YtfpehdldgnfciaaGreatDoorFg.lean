/- A fetch is made: fresh.Row, fetch.New. -/
import Derived.Test.YtfpehdldgnfciaaGreatDoorFf
import Derived.Deep.MidRow
namespace Go.Proofs.YtfpehdldgnfciaaGreatDoor
open Go.RowKit

set_option maxRecDepth 1000000
def zeroRow : Array Value := #[.string ⟨#[]⟩, .int .i64 0, .int .i64 0, .int .i64 0, .slice none 0 0] ++ Array.replicate 32 (.int .u8 0) ++ #[.int .i64 0, .slice none 0 0]
theorem zeroRow_size : zeroRow.size = 39 := by simp [zeroRow]
theorem info_row : (Tryz.prog.info? 35).map (·.size) = some 39 := by kernel_rfl
theorem zero_row (W : World) : (zeroValue 35).run Tryz.prog W = .ok (.agg zeroRow) W := by kernel_rfl
theorem needs_none (w : World) : Calls Tryz.prog 30 #[.slice none 0 0] w fun e w' => e = .returned (.slice none 0 0) ∧ w' = w := by
  have he : ∀ W : World, (binOp .eql 33 (.slice none 0 0) (.slice none 0 0)).run Tryz.prog W = .ok (.bool true) W := fun _ => by kernel_rfl
  have hl : ∀ v : Value, Calls Tryz.prog 44 #[.slice none 0 0, v] w fun e w' => e = .returned (.slice none 0 0) ∧ w' = w := by
    intro v
    go_enter Tryz.func44, Tryz.ntmps44
    go_wp2
    go_ret
    exact ⟨rfl, rfl⟩
  go_enter Tryz.func30, Tryz.ntmps30
  go_wp2_with ((with_reducible refine (hl _).mono ?_); rintro ee w1 ⟨rfl, rfl⟩; dsimp only)
  go_ret
  exact ⟨rfl, rfl⟩
theorem set_same {C : Array Value} {j : Nat} {v : Value} (h : C[j]? = some v) : C.setIfInBounds j v = C := by
  apply Array.ext_getElem?
  intro k
  rw [Array.getElem?_setIfInBounds]
  by_cases e : j = k
  · subst e
    have hl := (Array.getElem?_eq_some_iff.1 h).1
    rw [if_pos rfl, if_pos hl]; exact h.symm
  · rw [if_neg e]
theorem set_same_block {w : World} {b : Nat} {C : Array Value} {t : TypeId} {j : Nat} {v : Value} (h : w.heap[b]? = some (.cells C t (0, 0))) (hj : C[j]? = some v) : (w.setCell ⟨b, j, none⟩ v).heap[b]? = some (.cells C t (0, 0)) := by
  rw [bk_set h j v, set_same hj]
theorem row_all {K : Array Value} {n : Int} (h1 : K.all (·.oneCell') = true) : (rowC K n).all (·.oneCell') = true := by
  unfold rowC
  rw [Array.all_append, Array.all_append, h1]
  simp [Value.oneCell']
set_option maxHeartbeats 4000000 in
theorem freshRow_any (K : Array Value) (n : Int) (hK : K.size = 32) (h1 : K.all (·.oneCell') = true) (w : World) : Calls Tryz.prog 13 #[.agg (rowC K n)] w fun e w' => e = .returned (.agg (rowC K n)) ∧ w.grownBy w' none := by
  have HA : Hid ((rowC K n).all (·.oneCell') = true) := row_all h1
  have hsz : (rowC K n).size = 39 := rowC_size hK
  have C1 : (rowC K n)[1]? = some (.int .i64 1) := rowC_head hK 1 (by omega)
  have C2 : (rowC K n)[2]? = some (.int .i64 0) := rowC_head hK 2 (by omega)
  have C3 : (rowC K n)[3]? = some (.int .i64 0) := rowC_head hK 3 (by omega)
  have C4 : (rowC K n)[4]? = some (.slice none 0 0) := rowC_head hK 4 (by omega)
  have C38 : (rowC K n)[38]? = some (.slice none 0 0) := by
    unfold rowC
    rw [Array.getElem?_append_right (by simp [hK])]
    simp [hK]
  obtain ⟨C, hC⟩ : ∃ C, rowC K n = C := ⟨_, rfl⟩
  have hz := zero_row
  have hzs := zeroRow_size
  obtain ⟨Z, hZ⟩ : ∃ Z, zeroRow = Z := ⟨_, rfl⟩
  rw [hC] at C1 C2 C3 C4 C38 hsz HA
  rw [hC]
  rw [hZ] at hz hzs
  have K1 := Lib.hid C1
  have K2 := Lib.hid C2
  have K3 := Lib.hid C3
  have K4 := Lib.hid C4
  have K38 := Lib.hid C38
  have HSZ := Lib.hid hsz
  have HZS := Lib.hid hzs
  clear hC hZ hK h1 hsz hzs
  go_enter Tryz.func13, Tryz.ntmps13
  go_wp2_with ((with_reducible refine (version_any _).mono ?_); rintro ee w1 ⟨rfl, hg1⟩; dsimp only; have b1 := bk_kept (bk_kept (bk_alloc w (.cells C 35)) (World.grownBy_alloc _ (.cells Z 35) none)) hg1; have z1 := bk_kept (bk_alloc (w.alloc (.cells C 35)) (.cells Z 35)) hg1; rw [alloc_size] at z1; have B1 := Lib.hid b1; have Z1 := Lib.hid z1; have G1 := Lib.hid (grown_alloc _ (World.grownBy_alloc w (.cells C 35) none) |>.trans hg1); have d1 := bk_cell b1 1 _ K1.out; have d2 := bk_cell b1 2 _ K2.out; have d3 := bk_cell b1 3 _ K3.out; have d4 := bk_cell b1 4 _ K4.out; have d5 := bk_cell b1 38 _ K38.out; clear b1 z1 hg1 C1 C2 C3 C4 C38; obtain ⟨d1, f1⟩ := d1; obtain ⟨d2, f2⟩ := d2; obtain ⟨d3, f3⟩ := d3; obtain ⟨d4, f4⟩ := d4; obtain ⟨d5, f5⟩ := d5)
  obtain ⟨R, hR⟩ : ∃ R, w.heap.size = R := ⟨_, rfl⟩
  have HR := Lib.hid hR
  rw [hR] at B1 Z1 d1 f1 d2 f2 d3 f3 d4 f4 d5 f5 ⊢
  clear hR
  obtain ⟨W2, hW2⟩ : ∃ W2, (((w1.setCell ⟨R, 1, none⟩ (.int .i64 1)).setCell ⟨R, 2, none⟩ (.int .i64 0)).setCell ⟨R, 3, none⟩ (.int .i64 0)).setCell ⟨R, 4, none⟩ (.slice none 0 0) = W2 := ⟨_, rfl⟩
  have hRR : w.heap.size ≤ R := by have := HR.out; omega
  have B2 : Hid (W2.heap[R]? = some (.cells C 35 (0, 0))) := by
    show _ = _
    rw [← hW2]
    exact set_same_block (set_same_block (set_same_block (set_same_block B1.out K1.out) K2.out) K3.out) K4.out
  have g12 : w1.grownBy W2 (some R) := by
    rw [← hW2]
    exact ((((bk_set_grown _ _ _ _).trans (bk_set_grown _ _ _ _)).trans (bk_set_grown _ _ _ _)).trans (bk_set_grown _ _ _ _))
  have Z2 : Hid (W2.heap[R + 1]? = some (.cells Z 35 (0, 0))) := (g12.block (R + 1) (bk_size Z1.out) (by simp)).trans Z1.out
  have G2 := Lib.hid (grown_new G1.out g12 hRR)
  rw [hW2]
  clear hW2 g12 d1 d2 d3 d4 f1 f2 f3 f4 d5 f5
  have e5 := bk_cell B2.out 38 _ K38.out
  obtain ⟨e5, f5⟩ := e5
  have HI : Hid ((Tryz.prog.info? 35).map (·.size) = some C.size) := by show _ = _; rw [HSZ.out]; exact info_row
  have B3 : Hid ((W2.setCell ⟨R, 38, none⟩ (.slice none 0 0)).heap[R]? = some (.cells C 35 (0, 0))) := set_same_block B2.out K38.out
  have g23 := bk_set_grown W2 R 38 (.slice none 0 0)
  have Z3 : Hid ((W2.setCell ⟨R, 38, none⟩ (.slice none 0 0)).heap[R + 1]? = some (.cells Z 35 (0, 0))) := (g23.block (R + 1) (bk_size Z2.out) (by simp)).trans Z2.out
  have G3 := Lib.hid (grown_new G2.out g23 hRR)
  clear g23
  refine (needs_none W2).mono ?_
  rintro ee w3 ⟨rfl, rfl⟩
  dsimp only
  go_wp2_with (first
    | ((with_reducible refine wpList_load_row (o := ⟨some 11, _, _, _, _, _⟩) rfl 35 _ rfl R ?_ 35 C (0, 0) _ B3.out Tryz.underlying35 ?_ HI.out ?_); (rfl); (rfl))
    | ((with_reducible refine wpList_store_row (o := ⟨none, _, _, _, _, _⟩) rfl 35 _ _ rfl (R + 1) C ?_ ?_ 35 Z Z3.out HI.out ?_ HA.out ?_); (rfl); (rfl); (rw [HSZ.out, HZS.out])))
  refine bodyPost_ret (v := .agg C) ?_ rfl ⟨rfl, Sha.grown_setRow G3.out (by omega) _⟩
  exact results_cell_row rfl _ _ (R + 1) 35 C (0, 0) _ rfl (setRow_heap _ _ _ C 35 _ Z3.out) Tryz.underlying35 rfl HI.out
theorem wpList_builtR {P : Program} {ops : Array Oper} {rest : List Oper} {o : Oper} {a : Act} {w : World} {Q : Exit → Act → World → Prop} (hg : o.guard = none) (t : TypeId) (parts : Array (Nat × Operand)) (ho : o.op = .build t parts) (cells : Array Value)
    (hc : P.built t (parts.map fun (i, x) => (i, a.eval x)).toList = some cells) (h : wpList P ops Q rest (a.put o.dst (.agg cells)) w) : wpList P ops Q (o :: rest) a w :=
  wpList_build hg t parts ho (by rw [hc]; rfl) (by rw [hc]; exact h)
theorem arr32 (K : Array Value) (hK : K.size = 32) : ∃ k0 k1 k2 k3 k4 k5 k6 k7 k8 k9 k10 k11 k12 k13 k14 k15 k16 k17 k18 k19 k20 k21 k22 k23 k24 k25 k26 k27 k28 k29 k30 k31 : Value, K = #[k0, k1, k2, k3, k4, k5, k6, k7, k8, k9, k10, k11, k12, k13, k14, k15, k16, k17, k18, k19, k20, k21, k22, k23, k24, k25, k26, k27, k28, k29, k30, k31] := by
  obtain ⟨l⟩ := K
  have hl : l.length = 32 := by simpa using hK
  obtain _ | ⟨k0, l⟩ := l
  · simp at hl
  obtain _ | ⟨k1, l⟩ := l
  · simp at hl
  obtain _ | ⟨k2, l⟩ := l
  · simp at hl
  obtain _ | ⟨k3, l⟩ := l
  · simp at hl
  obtain _ | ⟨k4, l⟩ := l
  · simp at hl
  obtain _ | ⟨k5, l⟩ := l
  · simp at hl
  obtain _ | ⟨k6, l⟩ := l
  · simp at hl
  obtain _ | ⟨k7, l⟩ := l
  · simp at hl
  obtain _ | ⟨k8, l⟩ := l
  · simp at hl
  obtain _ | ⟨k9, l⟩ := l
  · simp at hl
  obtain _ | ⟨k10, l⟩ := l
  · simp at hl
  obtain _ | ⟨k11, l⟩ := l
  · simp at hl
  obtain _ | ⟨k12, l⟩ := l
  · simp at hl
  obtain _ | ⟨k13, l⟩ := l
  · simp at hl
  obtain _ | ⟨k14, l⟩ := l
  · simp at hl
  obtain _ | ⟨k15, l⟩ := l
  · simp at hl
  obtain _ | ⟨k16, l⟩ := l
  · simp at hl
  obtain _ | ⟨k17, l⟩ := l
  · simp at hl
  obtain _ | ⟨k18, l⟩ := l
  · simp at hl
  obtain _ | ⟨k19, l⟩ := l
  · simp at hl
  obtain _ | ⟨k20, l⟩ := l
  · simp at hl
  obtain _ | ⟨k21, l⟩ := l
  · simp at hl
  obtain _ | ⟨k22, l⟩ := l
  · simp at hl
  obtain _ | ⟨k23, l⟩ := l
  · simp at hl
  obtain _ | ⟨k24, l⟩ := l
  · simp at hl
  obtain _ | ⟨k25, l⟩ := l
  · simp at hl
  obtain _ | ⟨k26, l⟩ := l
  · simp at hl
  obtain _ | ⟨k27, l⟩ := l
  · simp at hl
  obtain _ | ⟨k28, l⟩ := l
  · simp at hl
  obtain _ | ⟨k29, l⟩ := l
  · simp at hl
  obtain _ | ⟨k30, l⟩ := l
  · simp at hl
  obtain _ | ⟨k31, l⟩ := l
  · simp at hl
  obtain _ | ⟨k, l⟩ := l
  · exact ⟨k0, k1, k2, k3, k4, k5, k6, k7, k8, k9, k10, k11, k12, k13, k14, k15, k16, k17, k18, k19, k20, k21, k22, k23, k24, k25, k26, k27, k28, k29, k30, k31, rfl⟩
  · simp at hl
theorem built_fet (K : Array Value) (n : Int) (hK : K.size = 32) : Tryz.prog.built 54 [(0, .agg (rowC K n))] = some (fetC K n (.slice none 0 0) 0 0 false false) := by
  obtain ⟨k0, k1, k2, k3, k4, k5, k6, k7, k8, k9, k10, k11, k12, k13, k14, k15, k16, k17, k18, k19, k20, k21, k22, k23, k24, k25, k26, k27, k28, k29, k30, k31, rfl⟩ := arr32 K hK
  kernel_rfl
def NewRet (w : World) (K : Array Value) (n : Nat) (e : Ending) (w' : World) : Prop := ∃ F, e = .returned (.pointer (some ⟨F, 0, none⟩)) ∧ w.heap.size ≤ F ∧ w.grownBy w' none ∧ Fet w' F K n (.slice none 0 0) 0 0 (decide (n = 0)) false
theorem NewRet.mk {w : World} {K : Array Value} {n : Nat} {e : Ending} {w' : World} (b : Bool) (hb : decide (n = 0) = b) (h : ∃ F, e = .returned (.pointer (some ⟨F, 0, none⟩)) ∧ w.heap.size ≤ F ∧ w.grownBy w' none ∧ Fet w' F K n (.slice none 0 0) 0 0 b false) : NewRet w K n e w' := by
  subst hb; exact h
set_option maxHeartbeats 4000000 in
theorem new_any (L : List UInt8) (hL : L.length ≤ 10000) (w : World) (hT : Tab w) : Calls Tryz.prog 6 #[.agg (rowC (keyV L) L.length)] w (NewRet w (keyV L) L.length) := by
  have hK := keyV_size L
  have h1 := keyV_one L
  obtain ⟨K, hKK⟩ : ∃ K, keyV L = K := ⟨_, rfl⟩
  obtain ⟨n, hn⟩ : ∃ n, L.length = n := ⟨_, rfl⟩
  have HB := Lib.hid (built_fet K n (by rw [← hKK]; exact hK))
  have HFR := Lib.hid (freshRow_any K n (by rw [← hKK]; exact hK) (by rw [← hKK]; exact h1))
  obtain ⟨C, hC⟩ : ∃ C, rowC K n = C := ⟨_, rfl⟩
  have C37 : Hid (C[37]? = some (.int .i64 n)) := by show _ = _; rw [← hC]; exact rowC_37 (by rw [← hKK]; exact hK)
  have HSZ : Hid (C.size = 39) := by show _ = _; rw [← hC]; exact rowC_size (by rw [← hKK]; exact hK)
  have HI : Hid ((Tryz.prog.info? 35).map (·.size) = some C.size) := by show _ = _; rw [HSZ.out]; exact info_row
  have hD37 : (fetC K n (.slice none 0 0) 0 0 false false)[37]? = some (.int .i64 n) := by rw [fetC_row (by rw [← hKK]; exact hK) 37 (by omega)]; exact rowC_37 (by rw [← hKK]; exact hK)
  obtain ⟨D, hD⟩ : ∃ D, fetC K n (.slice none 0 0) 0 0 false false = D := ⟨_, rfl⟩
  rw [hKK, hn, hC]
  rw [hC] at HFR HB
  rw [hD] at HB hD37
  have HL := Lib.hid hL
  have HT := Lib.hid hT
  have HK := Lib.hid hK
  have HKK := Lib.hid hKK
  have HN := Lib.hid hn
  have HD := Lib.hid hD
  have B1 : Hid ((w.alloc (.cells C 35)).heap[w.heap.size]? = some (.cells C 35 (0, 0))) := bk_alloc _ _
  clear hL hT hK h1 hKK hn hC hD
  go_enter Tryz.func6, Tryz.ntmps6
  go_wp2_with (((with_reducible refine wpList_load_row (o := ⟨some 4, _, _, _, _, _⟩) rfl 35 _ rfl w.heap.size ?_ 35 C (0, 0) _ B1.out Tryz.underlying35 ?_ HI.out ?_); (rfl); (rfl)))
  (with_reducible refine (HFR.out _).mono ?_)
  rintro ee w1 ⟨rfl, hg1⟩
  dsimp only
  have G1 := Lib.hid ((World.grownBy_alloc w (.cells C 35) none).trans hg1); have c37 := (bk_cell (bk_kept B1.out hg1) 37 _ C37.out).1; have hlt : w.heap.size < w1.heap.size := (by have := hg1.size; rw [alloc_size] at this; omega); have nR : ¬ w.heap.size = w1.heap.size := (by omega); clear hg1
  go_wp2_with (((with_reducible refine wpList_builtR (o := ⟨some 6, _, _, _, _, _⟩) rfl 54 _ rfl D ?_ ?_); (refine Eq.trans ?_ HB.out; kernel_rfl)))
  obtain ⟨F, hF⟩ : ∃ F, w1.heap.size = F := ⟨_, rfl⟩
  rw [hF]
  have hFw : w.heap.size ≤ F := by omega
  rw [set_same hD37]
  obtain ⟨W2, hW2⟩ : ∃ W2, w1.alloc (.cells D 54) = W2 := ⟨_, rfl⟩
  have b0 : (w1.alloc (.cells D 54)).heap[F]? = some (.cells D 54 (0, 0)) := by rw [← hF]; exact bk_alloc _ _
  have HF2 : Hid (Fet W2 F K n (.slice none 0 0) 0 0 false false) := ⟨by rw [← hW2, HD.out]; exact b0, by rw [← HKK.out]; exact HK.out⟩
  have G2 : Hid (w.grownBy W2 none) := by show World.grownBy _ _ _; rw [← hW2]; exact grown_alloc _ G1.out
  rw [hW2]
  clear hF hW2 b0 hD37 c37 hlt nR
  have hT2 := HT.out.stays G2.out
  by_cases h0 : n = 0
  · subst h0
    have hL0 : L = [] := List.eq_nil_of_length_eq_zero HN.out
    subst hL0
    have hk0 := HF2.out
    rw [← HKK.out] at hk0
    have HR := Lib.hid (right_yes F 0 0 W2.heap.size none [] 0 0 false false W2 hk0 ((Owns.nil W2 0).part (by have := HF2.out.size; omega)) (Nat.le_refl _) (by simp) hT2)
    clear hk0 hT2
    (with_reducible refine HR.out.mono ?_)
    rintro ee w3 ⟨rfl, hg3⟩
    dsimp only
    have HF3 := Lib.hid (HF2.out.stays hg3)
    have G3 := Lib.hid (World.grownBy.trans G2.out hg3)
    clear hg3
    obtain ⟨d37, d39, d40, d41, d42, d43⟩ := HF3.out.cells
    have r42 := HF3.out.free 42
    clear d37 d39 d40 d41 d43
    go_wp2
    go_ret
    exact NewRet.mk true rfl ⟨F, rfl, hFw, bk_grown_set G3.out hFw _ _, HF3.out.setDn true⟩
  · have HR := Lib.hid (right_no F n 0 0 K none 0 0 false false W2 HF2.out (fun e => h0 e.symm))
    have hd0 : Hid (decide (n = 0) = false) := by show _ = _; simp [h0]
    clear hT2 h0
    (with_reducible refine HR.out.mono ?_)
    rintro ee w3 ⟨rfl, d3, rfl⟩
    dsimp only
    have hg3 := grown_drew d3 (World.grownBy.refl W2 none)
    have HF3 := Lib.hid (HF2.out.stays hg3)
    have G3 := Lib.hid (World.grownBy.trans G2.out hg3)
    clear hg3
    obtain ⟨d37, d39, d40, d41, d42, d43⟩ := HF3.out.cells
    have r42 := HF3.out.free 42
    clear d37 d39 d40 d41 d43
    go_wp2
    go_ret
    exact NewRet.mk false hd0.out ⟨F, rfl, hFw, bk_grown_set G3.out hFw _ _, HF3.out.setDn false⟩
end Go.Proofs.YtfpehdldgnfciaaGreatDoor
