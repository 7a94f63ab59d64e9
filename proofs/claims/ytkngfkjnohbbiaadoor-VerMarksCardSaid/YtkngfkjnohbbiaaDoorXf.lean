/- The law VerMarks returns true. -/
import Derived.Test.YtkngfkjnohbbiaaDoorXe
namespace Go.Proofs.YtkngfkjnohbbiaaDoor
open Go.RowKit

theorem refCmp_at (B C : Nat) (u v : Vn) (su sv : Value) (z : Int) (w : World) (hu : VerAt w B u su) (hv : VerAt w C v sv) (h : cmpV u v = z) :
    Calls Tryd.prog 17 #[verV u su, verV v sv] w fun e w' => e = .returned (.int .i64 z) ∧ w.grownBy w' none := by
  rw [← h]; exact refCmpV_any B C u v su sv w hu hv
theorem ci_same (x : Int) : Lib.compareInt x x = 0 := by unfold Lib.compareInt; rw [if_neg (by omega), if_neg (by omega)]

set_option maxRecDepth 1000000
set_option maxHeartbeats 16000000 in
theorem marks_in (m : Int) (a a2 : Option Addr) (n n2 cap cap2 : Nat) (l r : List Int) (w : World) (hm : Wok m w) (hn : l.length = n) (hn2 : r.length = n2) (h5 : n ≤ 5) (h52 : n2 ≤ 5)
    (hl : ∀ x ∈ l, 0 ≤ x ∧ x < 256) (hr : ∀ x ∈ r, 0 ≤ x ∧ x < 256) (hw : BytesAt w a l) (hw2 : BytesAt w a2 r) :
    Calls Tryd.prog 7 #[.slice a n cap, .slice a2 n2 cap2] w fun e w' => e = .returned (.bool true) ∧ w.grownBy w' none := by
  have HM := Lib.hid hm
  have HN := Lib.hid hn
  have HN2 := Lib.hid hn2
  have HL := Lib.hid hl
  have HR := Lib.hid hr
  have HW := Lib.hid hw
  have HW2 := Lib.hid hw2
  clear hm hn hn2 hl hr hw hw2
  have f1 : decide (5 < (n : Int)) = false := by simp; omega
  have f2 : decide (5 < (n2 : Int)) = false := by simp; omega
  go_enter Tryd.func7, Tryd.ntmps7
  go_wp2_with fail
  (with_reducible refine (known_any m _ HM.out).mono ?_)
  rintro ee w0 ⟨rfl, g0⟩
  dsimp only
  have G0 := Lib.hid g0
  clear g0
  go_wp2_with fail
  (with_reducible refine (marked_any a n cap l _ HN.out h5 HL.out (HW.out.stays G0.out)).mono ?_)
  rintro ee w1 ⟨rfl, g1⟩
  dsimp only
  have G1 := Lib.hid (World.grownBy.trans G0.out g1)
  clear g1
  go_wp2_with fail
  (with_reducible refine (marked_any a2 n2 cap2 r _ HN2.out h52 HR.out (HW2.out.stays G1.out)).mono ?_)
  rintro ee w2 ⟨rfl, g2⟩
  dsimp only
  have G2 := Lib.hid (World.grownBy.trans G1.out g2)
  clear g2
  obtain ⟨S, hS⟩ : ∃ S, markedS (l.map markAt) = S := ⟨_, rfl⟩
  obtain ⟨T, hT⟩ : ∃ S, markedS (r.map markAt) = S := ⟨_, rfl⟩
  rw [hS, hT]
  have HS := Lib.hid hS
  have HT := Lib.hid hT
  have ZS : Hid (S.size ≤ 2000000) := by
    have := marked_size l
    have := HN.out
    show _ ≤ _
    rw [← hS]; omega
  have ZT : Hid (T.size ≤ 2000000) := by
    have := marked_size r
    have := HN2.out
    show _ ≤ _
    rw [← hT]; omega
  have PS : Hid (parseS S = (⟨1, 2, 3, l.map markAt⟩, 0)) := by
    show _ = _
    rw [← hS]; exact marked_parse l (by rw [HN.out]; exact h5)
  have PT : Hid (parseS T = (⟨1, 2, 3, r.map markAt⟩, 0)) := by
    show _ = _
    rw [← hT]; exact marked_parse r (by rw [HN2.out]; exact h52)
  have LS : Hid ((l.map markAt).length = n) := by show _ = _; rw [List.length_map]; exact HN.out
  have LT : Hid ((r.map markAt).length = n2) := by show _ = _; rw [List.length_map]; exact HN2.out
  obtain ⟨pl, hpl⟩ : ∃ p, l.map markAt = p := ⟨_, rfl⟩
  obtain ⟨pr, hpr⟩ : ∃ p, r.map markAt = p := ⟨_, rfl⟩
  have HPL := Lib.hid hpl
  have HPR := Lib.hid hpr
  rw [hpl] at PS LS
  rw [hpr] at PT LT
  clear hS hT hpl hpr
  go_wp2_with fail
  (with_reducible refine (parse_at m _ ⟨1, 2, 3, pl⟩ 0 n _ ZS.out (HM.out.stays G2.out) PS.out LS.out).mono ?_)
  rintro ee v1 ⟨ad1, cp1, rfl, hc1, hp1, g1⟩
  dsimp only
  have S1 := Lib.hid g1
  have Q1 := Lib.hid hp1
  have E1 := Lib.hid (show verV ⟨1, 2, 3, pl⟩ (.slice ad1 n cp1) = .agg #[.int .i64 1, .int .i64 2, .int .i64 3, .slice ad1 n cp1] from rfl)
  rw [E1.out]
  have K1 := Lib.hid (grown_alloc (.cells #[.int .i64 1, .int .i64 2, .int .i64 3, .slice ad1 n cp1] 25) (World.grownBy.trans G2.out g1))
  have B1 := Lib.hid (alloc_block v1 (.cells #[.int .i64 1, .int .i64 2, .int .i64 3, .slice ad1 n cp1] 25))
  clear g1 hp1 hc1 E1
  go_wp2_with fail
  (with_reducible refine (parse_at m _ ⟨1, 2, 3, pr⟩ 0 n2 _ ZT.out (HM.out.stays K1.out) PT.out LT.out).mono ?_)
  rintro ee v2 ⟨ad2, cp2, rfl, hc2, hp2, g2⟩
  dsimp only
  have S2 := Lib.hid g2
  have Q2 := Lib.hid hp2
  have E2 := Lib.hid (show verV ⟨1, 2, 3, pr⟩ (.slice ad2 n2 cp2) = .agg #[.int .i64 1, .int .i64 2, .int .i64 3, .slice ad2 n2 cp2] from rfl)
  rw [E2.out]
  have K2 := Lib.hid (grown_alloc (.cells #[.int .i64 1, .int .i64 2, .int .i64 3, .slice ad2 n2 cp2] 25) (World.grownBy.trans K1.out g2))
  have B2 := Lib.hid (alloc_block v2 (.cells #[.int .i64 1, .int .i64 2, .int .i64 3, .slice ad2 n2 cp2] 25))
  clear g2 hp2 hc2 E2
  go_wp2_with fail
  (with_reducible refine (refParse_at m _ ⟨1, 2, 3, pl⟩ 0 n _ ZS.out PS.out LS.out).mono ?_)
  rintro ee v3 ⟨ad3, cp3, rfl, hc3, hp3, g3⟩
  dsimp only
  have S3 := Lib.hid g3
  have Q3 := Lib.hid hp3
  have E3 := Lib.hid (show verV ⟨1, 2, 3, pl⟩ (.slice ad3 n cp3) = .agg #[.int .i64 1, .int .i64 2, .int .i64 3, .slice ad3 n cp3] from rfl)
  rw [E3.out]
  have K3 := Lib.hid (grown_alloc (.cells #[.int .i64 1, .int .i64 2, .int .i64 3, .slice ad3 n cp3] 25) (World.grownBy.trans K2.out g3))
  have B3 := Lib.hid (alloc_block v3 (.cells #[.int .i64 1, .int .i64 2, .int .i64 3, .slice ad3 n cp3] 25))
  clear g3 hp3 hc3 E3
  go_wp2_with fail
  (with_reducible refine (refParse_at m _ ⟨1, 2, 3, pr⟩ 0 n2 _ ZT.out PT.out LT.out).mono ?_)
  rintro ee v4 ⟨ad4, cp4, rfl, hc4, hp4, g4⟩
  dsimp only
  have S4 := Lib.hid g4
  have Q4 := Lib.hid hp4
  have E4 := Lib.hid (show verV ⟨1, 2, 3, pr⟩ (.slice ad4 n2 cp4) = .agg #[.int .i64 1, .int .i64 2, .int .i64 3, .slice ad4 n2 cp4] from rfl)
  rw [E4.out]
  have K4 := Lib.hid (grown_alloc (.cells #[.int .i64 1, .int .i64 2, .int .i64 3, .slice ad4 n2 cp4] 25) (World.grownBy.trans K3.out g4))
  have B4 := Lib.hid (alloc_block v4 (.cells #[.int .i64 1, .int .i64 2, .int .i64 3, .slice ad4 n2 cp4] 25))
  clear g4 hp4 hc4 E4
  have s4 := World.grownBy_alloc v4 (.cells #[.int .i64 1, .int .i64 2, .int .i64 3, .slice ad4 n2 cp4] 25) none
  have b4 := B4.out
  have k4 := K4.out
  obtain ⟨W, hW⟩ : ∃ W, v4.alloc (.cells #[.int .i64 1, .int .i64 2, .int .i64 3, .slice ad4 n2 cp4] 25) = W := ⟨_, rfl⟩
  rw [hW] at s4 b4 k4
  have GW := Lib.hid k4
  have T4 := Lib.hid s4
  have T3 := Lib.hid (World.grownBy.trans S4.out s4)
  have T2 := Lib.hid (World.grownBy.trans (World.grownBy.trans S3.out (World.grownBy_alloc v3 (.cells #[.int .i64 1, .int .i64 2, .int .i64 3, .slice ad3 n cp3] 25) none)) T3.out)
  have T1 := Lib.hid (World.grownBy.trans (World.grownBy.trans S2.out (World.grownBy_alloc v2 (.cells #[.int .i64 1, .int .i64 2, .int .i64 3, .slice ad2 n2 cp2] 25) none)) T2.out)
  have L1 := Lib.hid (block_kept B1.out T1.out)
  have L2 := Lib.hid (block_kept B2.out T2.out)
  have L3 := Lib.hid (block_kept B3.out T3.out)
  have L4 := Lib.hid b4
  have HWW := Lib.hid hW
  have R1 := Lib.hid (parse_read S _ PS.out)
  have R2 := Lib.hid (parse_read T _ PT.out)
  have A1 : Hid (∀ W', W.grownBy W' none → VerAt W' v1.heap.size ⟨1, 2, 3, pl⟩ (.slice ad1 n cp1)) := fun W' hg =>
    R1.out.at (((Q1.out.stays (World.grownBy_alloc v1 (.cells #[.int .i64 1, .int .i64 2, .int .i64 3, .slice ad1 n cp1] 25) none)).stays T1.out).stays hg)
  have A2 : Hid (∀ W', W.grownBy W' none → VerAt W' v2.heap.size ⟨1, 2, 3, pr⟩ (.slice ad2 n2 cp2)) := fun W' hg =>
    R2.out.at (((Q2.out.stays (World.grownBy_alloc v2 (.cells #[.int .i64 1, .int .i64 2, .int .i64 3, .slice ad2 n2 cp2] 25) none)).stays T2.out).stays hg)
  have A3 : Hid (∀ W', W.grownBy W' none → VerAt W' v3.heap.size ⟨1, 2, 3, pl⟩ (.slice ad3 n cp3)) := fun W' hg =>
    R1.out.at (((Q3.out.stays (World.grownBy_alloc v3 (.cells #[.int .i64 1, .int .i64 2, .int .i64 3, .slice ad3 n cp3] 25) none)).stays T3.out).stays hg)
  have A4 : Hid (∀ W', W.grownBy W' none → VerAt W' v4.heap.size ⟨1, 2, 3, pr⟩ (.slice ad4 n2 cp4)) := fun W' hg =>
    R2.out.at ((Q4.out.stays s4).stays hg)
  obtain ⟨c, hc⟩ : ∃ c, cmpV ⟨1, 2, 3, pl⟩ ⟨1, 2, 3, pr⟩ = c := ⟨_, rfl⟩
  have KA := Lib.hid (cmpV_is.anti ⟨1, 2, 3, pl⟩ ⟨1, 2, 3, pr⟩)
  have c3 := cmpV3 ⟨1, 2, 3, pl⟩ ⟨1, 2, 3, pr⟩
  rw [hc] at KA c3
  have HC := Lib.hid hc
  have wn : IntKind.i64.wrap (-c) = -c := by rw [IntKind.wrap_i64]; omega
  obtain ⟨b10, b11, b12, b13⟩ := ver_block L1.out (World.grownBy.refl _ _)
  obtain ⟨b20, b21, b22, b23⟩ := ver_block L2.out (World.grownBy.refl _ _)
  rw [← hW] at b10 b11 b12 b13 b20 b21 b22 b23
  clear hW s4 b4 k4 hc c3
  go_wp2_with fail
  rw [HWW.out]
  clear b10 b11 b12 b13 b20 b21 b22 b23
  refine (cmp_at _ _ ⟨1, 2, 3, pl⟩ ⟨1, 2, 3, pr⟩ _ _ c _ (A1.out _ (World.grownBy.refl _ _)) (A2.out _ (World.grownBy.refl _ _)) HC.out).mono ?_
  rintro ee w5 ⟨rfl, g5⟩
  dsimp only
  have G5 := Lib.hid g5
  clear g5
  obtain ⟨b10, b11, b12, b13⟩ := ver_block L3.out G5.out
  obtain ⟨b20, b21, b22, b23⟩ := ver_block L4.out G5.out
  go_wp2_with fail
  clear b10 b11 b12 b13 b20 b21 b22 b23
  refine (refCmp_at _ _ ⟨1, 2, 3, pl⟩ ⟨1, 2, 3, pr⟩ _ _ c _ (A3.out _ G5.out) (A4.out _ G5.out) HC.out).mono ?_
  rintro ee w6 ⟨rfl, g6⟩
  dsimp only
  have G6 := Lib.hid (World.grownBy.trans G5.out g6)
  clear g6
  obtain ⟨b10, b11, b12, b13⟩ := ver_block L1.out G6.out
  obtain ⟨b20, b21, b22, b23⟩ := ver_block L2.out G6.out
  go_wp2_with fail
  clear b10 b11 b12 b13 b20 b21 b22 b23
  refine (cmp_at _ _ ⟨1, 2, 3, pr⟩ ⟨1, 2, 3, pl⟩ _ _ (-c) _ (A2.out _ G6.out) (A1.out _ G6.out) KA.out).mono ?_
  rintro ee w7 ⟨rfl, g7⟩
  dsimp only
  have G7 := Lib.hid (World.grownBy.trans G6.out g7)
  clear g7
  by_cases h0 : n = 0 ∨ n2 = 0
  · have hcs : Hid (c = signS ((n2 : Int) - (n : Int))) := by
      show _ = _
      rw [← HC.out, cmpV_lex]
      simp only [ci_same, if_true]
      unfold cmpMs
      have e1 : pl = [] ∨ pr = [] := h0.imp (fun e => List.eq_nil_of_length_eq_zero (LS.out.trans e)) (fun e => List.eq_nil_of_length_eq_zero (LT.out.trans e))
      rw [if_pos e1, LS.out, LT.out, sign_cmp]
      unfold Lib.compareInt
      repeat' split
      all_goals omega
    by_cases hA : n = 0
    · subst hA
      have e : signS (n2 : Int) = c := by have := hcs.out; simpa using this.symm
      have HE := Lib.hid e
      clear e
      go_wp2_with fail
      refine (sign_any _ _).mono ?_
      rintro ee w8 ⟨rfl, rfl⟩
      dsimp only
      rw [HE.out]
      go_wp2
      go_ret
      exact ⟨by simp, World.grownBy.trans GW.out G7.out⟩
    · have hB : n2 = 0 := h0.resolve_left hA
      subst hB
      have nA : ((n : Int) == 0) = false := by simp; omega
      have e : signS (-(n : Int)) = c := by have := hcs.out; simpa using this.symm
      have HE := Lib.hid e
      clear e
      go_wp2_with fail
      refine (sign_any _ _).mono ?_
      rintro ee w8 ⟨rfl, rfl⟩
      dsimp only
      rw [HE.out]
      go_wp2
      go_ret
      exact ⟨by simp, World.grownBy.trans GW.out G7.out⟩
  · have hA : ¬ n = 0 := fun e => h0 (.inl e)
    have hB : ¬ n2 = 0 := fun e => h0 (.inr e)
    have nA : ((n : Int) == 0) = false := by simp; omega
    have nB : ((n2 : Int) == 0) = false := by simp; omega
    have hcs : Hid (c = scanM (l.map markAt) (r.map markAt)) := by
      show _ = _
      rw [← HC.out, cmpV_lex]
      simp only [ci_same, if_true]
      unfold cmpMs
      have e1 : ¬ (pl = [] ∨ pr = []) := by
        rintro (e | e)
        · have := LS.out; rw [e] at this; exact hA this.symm
        · have := LT.out; rw [e] at this; exact hB this.symm
      rw [if_neg e1, HPL.out, HPR.out]
    have HL0 : Hid (∀ x ∈ l, 0 ≤ x) := fun x hx => (HL.out x hx).1
    have HR0 : Hid (∀ x ∈ r, 0 ≤ x) := fun x hx => (HR.out x hx).1
    go_wp2
    go_loopw [16] (fun i wr => ∃ k : Nat, k ≤ n ∧ k ≤ n2 ∧ i = .int .i64 k ∧ Hid (∀ j, j < k → l.getD j 0 % 8 = r.getD j 0 % 8) ∧ W.grownBy wr none) (fun i _ => n - (intOf i).toNat)
    case atStart => exact ⟨0, Nat.zero_le _, Nat.zero_le _, rfl, fun j hj => by omega, G7.out⟩
    case round =>
      obtain ⟨k, hk, hk2, rfl, hj, hg⟩ := hrel
      by_cases hlt : k < n ∧ k < n2
      · obtain ⟨lt1, lt2⟩ := hlt
        obtain ⟨x, hx⟩ : ∃ x, l[k]? = some x := ⟨_, List.getElem?_eq_getElem (by rw [HN.out]; exact lt1)⟩
        obtain ⟨y, hy⟩ : ∃ x, r[k]? = some x := ⟨_, List.getElem?_eq_getElem (by rw [HN2.out]; exact lt2)⟩
        obtain ⟨p1, o1, rfl, q1⟩ := (HW.out.stays GW.out) k x hx
        obtain ⟨p2, o2, rfl, q2⟩ := (HW2.out.stays GW.out) k y hy
        have bx := HL.out x (List.mem_of_getElem? hx)
        have byy := HR.out y (List.mem_of_getElem? hy)
        obtain ⟨X, hX⟩ : ∃ X, x % 8 = X := ⟨_, rfl⟩
        obtain ⟨Y, hY⟩ : ∃ X, y % 8 = X := ⟨_, rfl⟩
        have tx : x.tmod 8 = X := by rw [Int.tmod_eq_emod_of_nonneg bx.1]; exact hX
        have ty : y.tmod 8 = Y := by rw [Int.tmod_eq_emod_of_nonneg byy.1]; exact hY
        have wX : IntKind.i64.wrap X = X := by rw [IntKind.wrap_i64]; omega
        have wY : IntKind.i64.wrap Y = Y := by rw [IntKind.wrap_i64]; omega
        have wXY : IntKind.i64.wrap (X - Y) = X - Y := by rw [IntKind.wrap_i64]; omega
        have gx : l.getD k 0 = x := by rw [List.getD_eq_getElem?_getD, hx]; rfl
        have gy : r.getD k 0 = y := by rw [List.getD_eq_getElem?_getD, hy]; rfl
        have GX : Hid (l.getD k 0 % 8 = X) := by show _ = _; rw [gx]; exact hX
        have GY : Hid (r.getD k 0 % 8 = Y) := by show _ = _; rw [gy]; exact hY
        have i1 : (k : Int) < (n : Int) := by omega
        have i2 : (k : Int) < (n2 : Int) := by omega
        have HG := Lib.hid hg
        clear hg hx hy bx byy hX hY gx gy
        by_cases hxy : X = Y
        · have e1 : (X == Y) = true := by simp [hxy]
          have e2 : (X != Y) = false := by simp [hxy]
          have HXY := Lib.hid hxy
          clear hxy
          go_wp2
          refine wp_region_quiet (C := fun w' => W.grownBy w' none) (by kernel_rfl) (by kernel_rfl) (World.grownBy.trans HG.out ⟨rfl, rfl, rfl, Nat.le_refl _, fun _ _ _ => rfl⟩) ?_
          refine wpQuiet_step (fun K hK => ?_)
          go_simp
          refine ⟨_, fun W hW => rfl, hK _ ?_⟩
          clear hK K
          refine wpQuiet_step (fun K hK => ?_)
          go_simp
          refine ⟨_, fun W hW => rfl, hK _ ?_⟩
          clear hK K
          refine wpQuiet_step (fun K hK => ?_)
          go_simp
          refine ⟨_, fun W hW => rfl, hK _ ?_⟩
          clear hK K
          refine wpQuiet_step (fun K hK => ?_)
          go_simp
          refine ⟨.int .u8 x, fun W hW => ?_, hK _ ?_⟩
          · rw [hW.cell q1 (by simp)]; exact ⟨rfl, rfl⟩
          clear hK K
          refine wpQuiet_step (fun K hK => ?_)
          go_simp
          refine ⟨_, fun W hW => rfl, hK _ ?_⟩
          clear hK K
          refine wpQuiet_step (fun K hK => ?_)
          go_simp
          refine ⟨_, fun W hW => rfl, hK _ ?_⟩
          clear hK K
          refine wpQuiet_step (fun K hK => ?_)
          go_simp
          refine ⟨_, fun W hW => rfl, hK _ ?_⟩
          clear hK K
          refine wpQuiet_step (fun K hK => ?_)
          go_simp
          refine ⟨_, fun W hW => rfl, hK _ ?_⟩
          clear hK K
          refine wpQuiet_step (fun K hK => ?_)
          go_simp
          refine ⟨.int .u8 y, fun W hW => ?_, hK _ ?_⟩
          · rw [hW.cell q2 (by simp)]; exact ⟨rfl, rfl⟩
          clear hK K
          refine wpQuiet_step (fun K hK => ?_)
          go_simp
          refine ⟨_, fun W hW => rfl, hK _ ?_⟩
          clear hK K
          refine wpQuiet_step (fun K hK => ?_)
          go_simp
          refine ⟨_, fun W hW => rfl, hK _ ?_⟩
          clear hK K
          refine wpQuiet_nil ?_
          intro W8 hW8
          have H8 := Lib.hid hW8
          clear hW8
          go_wp2_with fail
          refine ⟨⟨k + 1, by omega, by omega, by go_num, fun j hj' => ?_, H8.out⟩, by simp [intOf]; omega⟩
          rcases Nat.lt_or_ge j k with h | h
          · exact hj.out j h
          · obtain rfl : j = k := by omega
            rw [GX.out, GY.out]; exact HXY.out
        · have e1 : (X == Y) = false := by simp [hxy]
          have e2 : (X != Y) = true := by simp [hxy]
          have hcc : Hid (signS (X - Y) = c) := by
            show _ = _
            rw [hcs.out, scan_part k l r HL0.out HR0.out (by rw [HN.out]; exact lt1) (by rw [HN2.out]; exact lt2) hj.out (by rw [GX.out, GY.out]; exact hxy), GX.out, GY.out]
          have ks : Hid (∀ W', W.grownBy W' none → Calls Tryd.prog 22 #[.int .i64 (X - Y)] W' fun e w' => e = .returned (.int .i64 c) ∧ W.grownBy w' none) := fun W' hg =>
            (sign_any _ W').mono fun e w' h => ⟨by rw [h.1, hcc.out], by rw [h.2]; exact hg⟩
          clear hxy
          go_wp2
          refine wp_region_quiet (C := fun w' => W.grownBy w' none) (by kernel_rfl) (by kernel_rfl) (World.grownBy.trans HG.out ⟨rfl, rfl, rfl, Nat.le_refl _, fun _ _ _ => rfl⟩) ?_
          refine wpQuiet_step (fun K hK => ?_)
          go_simp
          refine ⟨_, fun W hW => rfl, hK _ ?_⟩
          clear hK K
          refine wpQuiet_step (fun K hK => ?_)
          go_simp
          refine ⟨_, fun W hW => rfl, hK _ ?_⟩
          clear hK K
          refine wpQuiet_step (fun K hK => ?_)
          go_simp
          refine ⟨_, fun W hW => rfl, hK _ ?_⟩
          clear hK K
          refine wpQuiet_step (fun K hK => ?_)
          go_simp
          refine ⟨.int .u8 x, fun W hW => ?_, hK _ ?_⟩
          · rw [hW.cell q1 (by simp)]; exact ⟨rfl, rfl⟩
          clear hK K
          refine wpQuiet_step (fun K hK => ?_)
          go_simp
          refine ⟨_, fun W hW => rfl, hK _ ?_⟩
          clear hK K
          refine wpQuiet_step (fun K hK => ?_)
          go_simp
          refine ⟨_, fun W hW => rfl, hK _ ?_⟩
          clear hK K
          refine wpQuiet_step (fun K hK => ?_)
          go_simp
          refine ⟨_, fun W hW => rfl, hK _ ?_⟩
          clear hK K
          refine wpQuiet_step (fun K hK => ?_)
          go_simp
          refine ⟨_, fun W hW => rfl, hK _ ?_⟩
          clear hK K
          refine wpQuiet_step (fun K hK => ?_)
          go_simp
          refine ⟨.int .u8 y, fun W hW => ?_, hK _ ?_⟩
          · rw [hW.cell q2 (by simp)]; exact ⟨rfl, rfl⟩
          clear hK K
          refine wpQuiet_step (fun K hK => ?_)
          go_simp
          refine ⟨_, fun W hW => rfl, hK _ ?_⟩
          clear hK K
          refine wpQuiet_step (fun K hK => ?_)
          go_simp
          refine ⟨_, fun W hW => rfl, hK _ ?_⟩
          clear hK K
          refine wpQuiet_nil ?_
          intro W8 hW8
          have H8 := Lib.hid hW8
          clear hW8
          go_wp2
          refine wp_region_quiet (C := fun w' => W.grownBy w' none) (by kernel_rfl) (by kernel_rfl) (World.grownBy.trans H8.out ⟨rfl, rfl, rfl, Nat.le_refl _, fun _ _ _ => rfl⟩) ?_
          refine wpQuiet_step (fun K hK => ?_)
          go_simp
          refine ⟨_, fun W hW => rfl, hK _ ?_⟩
          clear hK K
          refine wpQuiet_step (fun K hK => ?_)
          go_simp
          refine ⟨_, fun W hW => rfl, hK _ ?_⟩
          clear hK K
          refine wpQuiet_step (fun K hK => ?_)
          go_simp
          refine ⟨_, fun W hW => rfl, hK _ ?_⟩
          clear hK K
          refine wpQuiet_step (fun K hK => ?_)
          go_simp
          refine ⟨_, fun W hW => rfl, hK _ ?_⟩
          clear hK K
          refine wpQuiet_step (fun K hK => ?_)
          go_simp
          refine ⟨.int .u8 x, fun W hW => ?_, hK _ ?_⟩
          · rw [hW.cell q1 (by simp)]; exact ⟨rfl, rfl⟩
          clear hK K
          refine wpQuiet_step (fun K hK => ?_)
          go_simp
          refine ⟨_, fun W hW => rfl, hK _ ?_⟩
          clear hK K
          refine wpQuiet_step (fun K hK => ?_)
          go_simp
          refine ⟨_, fun W hW => rfl, hK _ ?_⟩
          clear hK K
          refine wpQuiet_step (fun K hK => ?_)
          go_simp
          refine ⟨_, fun W hW => rfl, hK _ ?_⟩
          clear hK K
          refine wpQuiet_step (fun K hK => ?_)
          go_simp
          refine ⟨_, fun W hW => rfl, hK _ ?_⟩
          clear hK K
          refine wpQuiet_step (fun K hK => ?_)
          go_simp
          refine ⟨_, fun W hW => rfl, hK _ ?_⟩
          clear hK K
          refine wpQuiet_step (fun K hK => ?_)
          go_simp
          refine ⟨.int .u8 y, fun W hW => ?_, hK _ ?_⟩
          · rw [hW.cell q2 (by simp)]; exact ⟨rfl, rfl⟩
          clear hK K
          refine wpQuiet_step (fun K hK => ?_)
          go_simp
          refine ⟨_, fun W hW => rfl, hK _ ?_⟩
          clear hK K
          refine wpQuiet_step (fun K hK => ?_)
          go_simp
          refine ⟨_, fun W hW => rfl, hK _ ?_⟩
          clear hK K
          refine wpQuiet_step (fun K hK => ?_)
          go_simp
          refine ⟨_, fun W hW => rfl, hK _ ?_⟩
          clear hK K
          refine wpQuiet_step (fun K hK => ?_)
          go_simp
          refine ⟨.int .i64 c, fun W' hW' => ks.out W' hW', hK _ ?_⟩
          clear hK K
          refine wpQuiet_step (fun K hK => ?_)
          go_simp
          refine ⟨.bool true, fun W hW => ?_, hK _ ?_⟩
          · first | rfl | simp
          clear hK K
          refine wpQuiet_step (fun K hK => ?_)
          go_simp
          refine ⟨_, fun W hW => rfl, hK _ ?_⟩
          clear hK K
          refine wpQuiet_nil ?_
          intro W9 hW9
          have H9 := Lib.hid hW9
          clear hW9
          go_wp2
          go_ret
          exact ⟨rfl, World.grownBy.trans GW.out H9.out⟩
      · have hmin : k = min n n2 := by omega
        have hcc : Hid (signS ((n : Int) - (n2 : Int)) = c) := by
          show _ = _
          rw [hcs.out, scan_end l r HL0.out HR0.out (by rw [HN.out, HN2.out, ← hmin]; exact hj.out), HN.out, HN2.out]
        have HG := Lib.hid hg
        clear hg
        have i2 : decide ((k : Int) < (n : Int)) = decide (k < n) := by simp
        by_cases hkn : k < n
        · have i1 : ¬ k < n2 := fun h => hlt ⟨hkn, h⟩
          have i3 : decide (k < n2) = false := by simp [i1]
          have i4 : decide (k < n) = true := by simp [hkn]
          clear i2 hmin
          go_wp2_with fail
          refine (sign_any _ _).mono ?_
          rintro ee w8 ⟨rfl, rfl⟩
          dsimp only
          rw [hcc.out]
          go_wp2
          go_ret
          exact ⟨by simp, World.grownBy.trans GW.out HG.out⟩
        · have i4 : decide (k < n) = false := by simp [hkn]
          clear i2 hmin
          go_wp2_with fail
          refine (sign_any _ _).mono ?_
          rintro ee w8 ⟨rfl, rfl⟩
          dsimp only
          rw [hcc.out]
          go_wp2
          go_ret
          exact ⟨by simp, World.grownBy.trans GW.out HG.out⟩
set_option maxRecDepth 1000000
set_option maxHeartbeats 16000000 in
theorem marks_law (m : Int) (a a2 : Option Addr) (n n2 cap cap2 : Nat) (l r : List Int) (w : World) (hm : Wok m w) (hn : l.length = n) (hn2 : r.length = n2)
    (hl : ∀ x ∈ l, 0 ≤ x ∧ x < 256) (hr : ∀ x ∈ r, 0 ≤ x ∧ x < 256) (hw : BytesAt w a l) (hw2 : BytesAt w a2 r) :
    Calls Tryd.prog 7 #[.slice a n cap, .slice a2 n2 cap2] w fun e w' => e = .returned (.bool true) ∧ w.grownBy w' none := by
  by_cases h5 : n ≤ 5
  · by_cases h52 : n2 ≤ 5
    · exact marks_in m a a2 n n2 cap cap2 l r w hm hn hn2 h5 h52 hl hr hw hw2
    · have HM := Lib.hid hm
      have f1 : decide (5 < (n : Int)) = false := by simp; omega
      have f2 : decide (5 < (n2 : Int)) = true := by simp; omega
      have f3 : decide (5 < n) = false := by simp; omega
      have f4 : decide (5 < n2) = true := by simp; omega
      clear hm hn hn2 hl hr hw hw2 h5 h52
      go_enter Tryd.func7, Tryd.ntmps7
      go_wp2_with fail
      (with_reducible refine (known_any m _ HM.out).mono ?_)
      rintro ee w0 ⟨rfl, g0⟩
      dsimp only
      go_wp2
      go_ret
      exact ⟨rfl, g0⟩
  · have HM := Lib.hid hm
    have f1 : decide (5 < (n : Int)) = true := by simp; omega
    have f3 : decide (5 < n) = true := by simp; omega
    clear hm hn hn2 hl hr hw hw2 h5
    go_enter Tryd.func7, Tryd.ntmps7
    go_wp2_with fail
    (with_reducible refine (known_any m _ HM.out).mono ?_)
    rintro ee w0 ⟨rfl, g0⟩
    dsimp only
    go_wp2
    go_ret
    exact ⟨rfl, g0⟩
end Go.Proofs.YtkngfkjnohbbiaaDoor
