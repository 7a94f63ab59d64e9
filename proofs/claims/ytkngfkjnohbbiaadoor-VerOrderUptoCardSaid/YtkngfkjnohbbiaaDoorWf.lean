/- The law VerOrder returns true. -/
import Derived.Test.YtkngfkjnohbbiaaDoorWe
namespace Go.Proofs.YtkngfkjnohbbiaaDoor
open Go.RowKit

set_option maxRecDepth 1000000
set_option maxHeartbeats 16000000 in
theorem order_law (m : Int) (a b c : ByteArray) (ha : a.size ≤ 2000000) (hb : b.size ≤ 2000000) (hc : c.size ≤ 2000000) (w : World) (hm : Wok m w) :
    Calls Tryd.prog 5 #[.string a, .string b, .string c] w fun e w' => e = .returned (.bool true) ∧ w.grownBy w' none := by
  have HM := Lib.hid hm
  have HSa := Lib.hid ha
  have HSb := Lib.hid hb
  have HSc := Lib.hid hc
  obtain ⟨⟨x1, y1, z1, p1⟩, q1, hv1⟩ : ∃ v q, parseS a = (v, q) := ⟨_, _, rfl⟩
  obtain ⟨n1, hn1⟩ : ∃ n, p1.length = n := ⟨_, rfl⟩
  have HV1 := Lib.hid hv1
  have HN1 := Lib.hid hn1
  clear hv1 hn1
  obtain ⟨⟨x2, y2, z2, p2⟩, q2, hv2⟩ : ∃ v q, parseS b = (v, q) := ⟨_, _, rfl⟩
  obtain ⟨n2, hn2⟩ : ∃ n, p2.length = n := ⟨_, rfl⟩
  have HV2 := Lib.hid hv2
  have HN2 := Lib.hid hn2
  clear hv2 hn2
  obtain ⟨⟨x3, y3, z3, p3⟩, q3, hv3⟩ : ∃ v q, parseS c = (v, q) := ⟨_, _, rfl⟩
  obtain ⟨n3, hn3⟩ : ∃ n, p3.length = n := ⟨_, rfl⟩
  have HV3 := Lib.hid hv3
  have HN3 := Lib.hid hn3
  clear hv3 hn3
  clear hm ha hb hc
  go_enter Tryd.func5, Tryd.ntmps5
  go_wp2_with fail
  (with_reducible refine (known_any m _ HM.out).mono ?_)
  rintro ee w0 ⟨rfl, g0⟩
  dsimp only
  have G0 := Lib.hid g0
  clear g0
  go_wp2_with fail
  (with_reducible refine (refParse_at m _ ⟨x1, y1, z1, p1⟩ q1 n1 _ HSa.out HV1.out HN1.out).mono ?_)
  rintro ee w1 ⟨ad1, cp1, rfl, hc1, hp1, g1⟩
  dsimp only
  have S1 := Lib.hid g1
  have P1 := Lib.hid hp1
  have E1 := Lib.hid (show verV ⟨x1, y1, z1, p1⟩ (.slice ad1 n1 cp1) = .agg #[.int .i64 x1, .int .i64 y1, .int .i64 z1, .slice ad1 n1 cp1] from rfl)
  rw [E1.out]
  clear g1 hp1 hc1
  have G1 := Lib.hid (grown_alloc (.cells #[.int .i64 x1, .int .i64 y1, .int .i64 z1, .slice ad1 n1 cp1] 25) (World.grownBy.trans G0.out S1.out))
  have B1 := Lib.hid (alloc_block w1 (.cells #[.int .i64 x1, .int .i64 y1, .int .i64 z1, .slice ad1 n1 cp1] 25))
  go_wp2_with fail
  (with_reducible refine (refParse_at m _ ⟨x2, y2, z2, p2⟩ q2 n2 _ HSb.out HV2.out HN2.out).mono ?_)
  rintro ee w2 ⟨ad2, cp2, rfl, hc2, hp2, g2⟩
  dsimp only
  have S2 := Lib.hid g2
  have P2 := Lib.hid hp2
  have E2 := Lib.hid (show verV ⟨x2, y2, z2, p2⟩ (.slice ad2 n2 cp2) = .agg #[.int .i64 x2, .int .i64 y2, .int .i64 z2, .slice ad2 n2 cp2] from rfl)
  rw [E2.out]
  clear g2 hp2 hc2
  have G2 := Lib.hid (grown_alloc (.cells #[.int .i64 x2, .int .i64 y2, .int .i64 z2, .slice ad2 n2 cp2] 25) (World.grownBy.trans G1.out S2.out))
  have B2 := Lib.hid (alloc_block w2 (.cells #[.int .i64 x2, .int .i64 y2, .int .i64 z2, .slice ad2 n2 cp2] 25))
  go_wp2_with fail
  (with_reducible refine (refParse_at m _ ⟨x3, y3, z3, p3⟩ q3 n3 _ HSc.out HV3.out HN3.out).mono ?_)
  rintro ee w3 ⟨ad3, cp3, rfl, hc3, hp3, g3⟩
  dsimp only
  have S3 := Lib.hid g3
  have P3 := Lib.hid hp3
  have E3 := Lib.hid (show verV ⟨x3, y3, z3, p3⟩ (.slice ad3 n3 cp3) = .agg #[.int .i64 x3, .int .i64 y3, .int .i64 z3, .slice ad3 n3 cp3] from rfl)
  rw [E3.out]
  clear g3 hp3 hc3
  have G3 := Lib.hid (grown_alloc (.cells #[.int .i64 x3, .int .i64 y3, .int .i64 z3, .slice ad3 n3 cp3] 25) (World.grownBy.trans G2.out S3.out))
  have B3 := Lib.hid (alloc_block w3 (.cells #[.int .i64 x3, .int .i64 y3, .int .i64 z3, .slice ad3 n3 cp3] 25))
  by_cases hq : q1 = 0 ∧ q2 = 0 ∧ q3 = 0
  rotate_left
  · by_cases h1 : q1 = 0
    · by_cases h2 : q2 = 0
      · have h3 : ¬ q3 = 0 := fun e => hq ⟨h1, h2, e⟩
        subst h1
        subst h2
        have e3 : (q3 == 0) = false := by simp [h3]
        have f3 : (q3 != 0) = true := by simp [h3]
        clear hq
        go_wp2
        go_ret
        exact ⟨rfl, G3.out⟩
      · subst h1
        have e3 : (q2 == 0) = false := by simp [h2]
        have f3 : (q2 != 0) = true := by simp [h2]
        clear hq
        go_wp2
        go_ret
        exact ⟨rfl, G3.out⟩
    · have e3 : (q1 == 0) = false := by simp [h1]
      have f3 : (q1 != 0) = true := by simp [h1]
      clear hq
      go_wp2
      go_ret
      exact ⟨rfl, G3.out⟩
  obtain ⟨h1, h2, h3⟩ := hq
  subst h1
  subst h2
  subst h3
  obtain ⟨W, hW⟩ : ∃ W, w3.alloc (.cells #[.int .i64 x3, .int .i64 y3, .int .i64 z3, .slice ad3 n3 cp3] 25) = W := ⟨_, rfl⟩
  have s3 := World.grownBy_alloc w3 (.cells #[.int .i64 x3, .int .i64 y3, .int .i64 z3, .slice ad3 n3 cp3] 25) none
  have b3 := B3.out
  have g3 := G3.out
  rw [hW] at s3 b3 g3
  have GW := Lib.hid g3
  have T2 := Lib.hid (World.grownBy.trans S3.out s3)
  have T1 := Lib.hid (World.grownBy.trans (World.grownBy.trans S2.out (World.grownBy_alloc w2 (.cells #[.int .i64 x2, .int .i64 y2, .int .i64 z2, .slice ad2 n2 cp2] 25) none)) T2.out)
  have L1 := Lib.hid (block_kept B1.out T1.out)
  have L2 := Lib.hid (block_kept B2.out T2.out)
  have L3 := Lib.hid b3
  have HWW := Lib.hid hW
  have R1 := Lib.hid (parse_read a _ HV1.out)
  have R2 := Lib.hid (parse_read b _ HV2.out)
  have R3 := Lib.hid (parse_read c _ HV3.out)
  have A1 : Hid (∀ W', W.grownBy W' none → VerAt W' w1.heap.size ⟨x1, y1, z1, p1⟩ (.slice ad1 n1 cp1)) := fun W' hg =>
    R1.out.at (((P1.out.stays (World.grownBy_alloc w1 (.cells #[.int .i64 x1, .int .i64 y1, .int .i64 z1, .slice ad1 n1 cp1] 25) none)).stays T1.out).stays hg)
  have A2 : Hid (∀ W', W.grownBy W' none → VerAt W' w2.heap.size ⟨x2, y2, z2, p2⟩ (.slice ad2 n2 cp2)) := fun W' hg =>
    R2.out.at (((P2.out.stays (World.grownBy_alloc w2 (.cells #[.int .i64 x2, .int .i64 y2, .int .i64 z2, .slice ad2 n2 cp2] 25) none)).stays T2.out).stays hg)
  have A3 : Hid (∀ W', W.grownBy W' none → VerAt W' w3.heap.size ⟨x3, y3, z3, p3⟩ (.slice ad3 n3 cp3)) := fun W' hg =>
    R3.out.at ((P3.out.stays s3).stays hg)
  have K3 := Lib.hid (told3 ⟨x1, y1, z1, p1⟩ ⟨x2, y2, z2, p2⟩ ⟨x3, y3, z3, p3⟩)
  have KT := Lib.hid (cmpV_text a b _ _ HV1.out HV2.out)
  have KA := Lib.hid (cmpV_is.anti ⟨x1, y1, z1, p1⟩ ⟨x2, y2, z2, p2⟩)
  have KS := Lib.hid (cmpV_is.self ⟨x1, y1, z1, p1⟩)
  obtain ⟨p, hp⟩ : ∃ p, cmpV ⟨x1, y1, z1, p1⟩ ⟨x2, y2, z2, p2⟩ = p := ⟨_, rfl⟩
  obtain ⟨q, hq⟩ : ∃ p, cmpV ⟨x2, y2, z2, p2⟩ ⟨x3, y3, z3, p3⟩ = p := ⟨_, rfl⟩
  obtain ⟨r, hr⟩ : ∃ p, cmpV ⟨x1, y1, z1, p1⟩ ⟨x3, y3, z3, p3⟩ = p := ⟨_, rfl⟩
  rw [hp, hq, hr] at K3
  rw [hp] at KT KA
  have k12 : Hid (∀ W', W.grownBy W' none → Calls Tryd.prog 16 #[.agg #[.int .i64 x1, .int .i64 y1, .int .i64 z1, .slice ad1 n1 cp1], .agg #[.int .i64 x2, .int .i64 y2, .int .i64 z2, .slice ad2 n2 cp2]] W' fun e w' => e = .returned (.int .i64 p) ∧ W.grownBy w' none) :=
    fun W' hg => (cmp_at _ _ _ _ _ _ p W' (A1.out W' hg) (A2.out W' hg) hp).mono fun e w' h => ⟨h.1, World.grownBy.trans hg h.2⟩
  have k23 : Hid (∀ W', W.grownBy W' none → Calls Tryd.prog 16 #[.agg #[.int .i64 x2, .int .i64 y2, .int .i64 z2, .slice ad2 n2 cp2], .agg #[.int .i64 x3, .int .i64 y3, .int .i64 z3, .slice ad3 n3 cp3]] W' fun e w' => e = .returned (.int .i64 q) ∧ W.grownBy w' none) :=
    fun W' hg => (cmp_at _ _ _ _ _ _ q W' (A2.out W' hg) (A3.out W' hg) hq).mono fun e w' h => ⟨h.1, World.grownBy.trans hg h.2⟩
  have k13 : Hid (∀ W', W.grownBy W' none → Calls Tryd.prog 16 #[.agg #[.int .i64 x1, .int .i64 y1, .int .i64 z1, .slice ad1 n1 cp1], .agg #[.int .i64 x3, .int .i64 y3, .int .i64 z3, .slice ad3 n3 cp3]] W' fun e w' => e = .returned (.int .i64 r) ∧ W.grownBy w' none) :=
    fun W' hg => (cmp_at _ _ _ _ _ _ r W' (A1.out W' hg) (A3.out W' hg) hr).mono fun e w' h => ⟨h.1, World.grownBy.trans hg h.2⟩
  have k11 : Hid (∀ W', W.grownBy W' none → Calls Tryd.prog 16 #[.agg #[.int .i64 x1, .int .i64 y1, .int .i64 z1, .slice ad1 n1 cp1], .agg #[.int .i64 x1, .int .i64 y1, .int .i64 z1, .slice ad1 n1 cp1]] W' fun e w' => e = .returned (.int .i64 0) ∧ W.grownBy w' none) :=
    fun W' hg => (cmp_at _ _ _ _ _ _ 0 W' (A1.out W' hg) (A1.out W' hg) KS.out).mono fun e w' h => ⟨h.1, World.grownBy.trans hg h.2⟩
  have k21 : Hid (∀ W', W.grownBy W' none → Calls Tryd.prog 16 #[.agg #[.int .i64 x2, .int .i64 y2, .int .i64 z2, .slice ad2 n2 cp2], .agg #[.int .i64 x1, .int .i64 y1, .int .i64 z1, .slice ad1 n1 cp1]] W' fun e w' => e = .returned (.int .i64 (-p)) ∧ W.grownBy w' none) :=
    fun W' hg => (cmp_at _ _ _ _ _ _ (-p) W' (A2.out W' hg) (A1.out W' hg) KA.out).mono fun e w' h => ⟨h.1, World.grownBy.trans hg h.2⟩
  have t1 : Hid (∀ W', W.grownBy W' none → Calls Tryd.prog 13 #[.agg #[.int .i64 x1, .int .i64 y1, .int .i64 z1, .slice ad1 n1 cp1]] W' fun e w' => e = .returned (.string a) ∧ W.grownBy w' none) :=
    fun W' hg => (text_at m _ _ _ a W' (HM.out.stays (World.grownBy.trans GW.out hg)) (Nat.le_trans (Nat.le_of_lt (block_size L1.out)) hg.size) (A1.out W' hg) R1.out.text).mono fun e w' h => ⟨h.1, World.grownBy.trans hg h.2⟩
  have t2 : Hid (∀ W', W.grownBy W' none → Calls Tryd.prog 13 #[.agg #[.int .i64 x2, .int .i64 y2, .int .i64 z2, .slice ad2 n2 cp2]] W' fun e w' => e = .returned (.string b) ∧ W.grownBy w' none) :=
    fun W' hg => (text_at m _ _ _ b W' (HM.out.stays (World.grownBy.trans GW.out hg)) (Nat.le_trans (Nat.le_of_lt (block_size L2.out)) hg.size) (A2.out W' hg) R2.out.text).mono fun e w' h => ⟨h.1, World.grownBy.trans hg h.2⟩
  have hC0 : W.grownBy { W with drawn := W.drawn + 1 } none := ⟨rfl, rfl, rfl, Nat.le_refl _, fun _ _ _ => rfl⟩
  clear hp hq hr s3 b3 g3 hW E1 E2 E3
  go_wp2
  rw [HWW.out]
  refine wp_region_quiet (C := fun w' => W.grownBy w' none) (by kernel_rfl) (by kernel_rfl) hC0 ?_
  clear hC0
  refine wpQuiet_step (fun K hK => ?_)
  rw [if_pos (by rfl)]
  refine ⟨.agg #[.int .i64 x1, .int .i64 y1, .int .i64 z1, .slice ad1 n1 cp1], fun W' hW' => ?_, hK _ ?_⟩
  · have h := ver_load (block_kept L1.out hW') rfl
    unfold Oper.quietAt
    simp [execOp, Act.eval, h, Result.andThen, Oper.quietUpon]
  clear hK K
  go_simp
  refine wpQuiet_step (fun K hK => ?_)
  rw [if_pos (by rfl)]
  refine ⟨.agg #[.int .i64 x2, .int .i64 y2, .int .i64 z2, .slice ad2 n2 cp2], fun W' hW' => ?_, hK _ ?_⟩
  · have h := ver_load (block_kept L2.out hW') rfl
    unfold Oper.quietAt
    simp [execOp, Act.eval, h, Result.andThen, Oper.quietUpon]
  clear hK K
  go_simp
  refine wpQuiet_step (fun K hK => ?_)
  go_simp
  refine ⟨.int .i64 p, fun W' hW' => k12.out W' hW', hK _ ?_⟩
  clear hK K
  refine wpQuiet_step (fun K hK => ?_)
  rw [if_pos (by rfl)]
  refine ⟨.agg #[.int .i64 x2, .int .i64 y2, .int .i64 z2, .slice ad2 n2 cp2], fun W' hW' => ?_, hK _ ?_⟩
  · have h := ver_load (block_kept L2.out hW') rfl
    unfold Oper.quietAt
    simp [execOp, Act.eval, h, Result.andThen, Oper.quietUpon]
  clear hK K
  go_simp
  refine wpQuiet_step (fun K hK => ?_)
  rw [if_pos (by rfl)]
  refine ⟨.agg #[.int .i64 x3, .int .i64 y3, .int .i64 z3, .slice ad3 n3 cp3], fun W' hW' => ?_, hK _ ?_⟩
  · have h := ver_load (block_kept L3.out hW') rfl
    unfold Oper.quietAt
    simp [execOp, Act.eval, h, Result.andThen, Oper.quietUpon]
  clear hK K
  go_simp
  refine wpQuiet_step (fun K hK => ?_)
  go_simp
  refine ⟨.int .i64 q, fun W' hW' => k23.out W' hW', hK _ ?_⟩
  clear hK K
  refine wpQuiet_step (fun K hK => ?_)
  rw [if_pos (by rfl)]
  refine ⟨.agg #[.int .i64 x1, .int .i64 y1, .int .i64 z1, .slice ad1 n1 cp1], fun W' hW' => ?_, hK _ ?_⟩
  · have h := ver_load (block_kept L1.out hW') rfl
    unfold Oper.quietAt
    simp [execOp, Act.eval, h, Result.andThen, Oper.quietUpon]
  clear hK K
  go_simp
  refine wpQuiet_step (fun K hK => ?_)
  rw [if_pos (by rfl)]
  refine ⟨.agg #[.int .i64 x3, .int .i64 y3, .int .i64 z3, .slice ad3 n3 cp3], fun W' hW' => ?_, hK _ ?_⟩
  · have h := ver_load (block_kept L3.out hW') rfl
    unfold Oper.quietAt
    simp [execOp, Act.eval, h, Result.andThen, Oper.quietUpon]
  clear hK K
  go_simp
  refine wpQuiet_step (fun K hK => ?_)
  go_simp
  refine ⟨.int .i64 r, fun W' hW' => k13.out W' hW', hK _ ?_⟩
  clear hK K
  refine wpQuiet_step (fun K hK => ?_)
  go_simp
  refine ⟨_, fun W hW => rfl, hK _ ?_⟩
  clear hK K
  refine wpQuiet_step (fun K hK => ?_)
  go_simp
  refine ⟨_, fun W hW => rfl, hK _ ?_⟩
  clear hK K
  refine wpQuiet_step (fun K hK => ?_)
  go_simp
  refine ⟨_, fun W hW => rfl, hK _ ?_⟩
  clear hK K
  refine wpQuiet_nil ?_
  intro W8 hW8
  have H8 := Lib.hid hW8
  clear hW8
  have hC9 : W.grownBy { W8 with drawn := W8.drawn + 1 } none := World.grownBy.trans H8.out ⟨rfl, rfl, rfl, Nat.le_refl _, fun _ _ _ => rfl⟩
  have T := K3.out
  rcases T.a with rfl | rfl | rfl
  · have hne : ¬ a = b := fun e => absurd (KT.out.2 e) (by decide)
    have hab : ¬ a.toList = b.toList := fun e => hne (bytes_ext (by rwa [ByteArray.toList_eq, ByteArray.toList_eq] at e))
    go_wp2
    refine wp_region_quiet (C := fun w' => W.grownBy w' none) (by kernel_rfl) (by kernel_rfl) hC9 ?_
    clear hC9
    refine wpQuiet_step (fun K hK => ?_)
    rw [if_pos (by rfl)]
    refine ⟨.agg #[.int .i64 x1, .int .i64 y1, .int .i64 z1, .slice ad1 n1 cp1], fun W' hW' => ?_, hK _ ?_⟩
    · have h := ver_load (block_kept L1.out hW') rfl
      unfold Oper.quietAt
      simp [execOp, Act.eval, h, Result.andThen, Oper.quietUpon]
    clear hK K
    go_simp
    refine wpQuiet_step (fun K hK => ?_)
    rw [if_pos (by rfl)]
    refine ⟨.agg #[.int .i64 x1, .int .i64 y1, .int .i64 z1, .slice ad1 n1 cp1], fun W' hW' => ?_, hK _ ?_⟩
    · have h := ver_load (block_kept L1.out hW') rfl
      unfold Oper.quietAt
      simp [execOp, Act.eval, h, Result.andThen, Oper.quietUpon]
    clear hK K
    go_simp
    refine wpQuiet_step (fun K hK => ?_)
    go_simp
    refine ⟨.int .i64 0, fun W' hW' => k11.out W' hW', hK _ ?_⟩
    clear hK K
    refine wpQuiet_step (fun K hK => ?_)
    go_simp
    refine ⟨_, fun W hW => rfl, hK _ ?_⟩
    clear hK K
    refine wpQuiet_step (fun K hK => ?_)
    go_simp
    refine ⟨_, fun W hW => rfl, hK _ ?_⟩
    clear hK K
    refine wpQuiet_step (fun K hK => ?_)
    rw [if_pos (by rfl)]
    refine ⟨.agg #[.int .i64 x2, .int .i64 y2, .int .i64 z2, .slice ad2 n2 cp2], fun W' hW' => ?_, hK _ ?_⟩
    · have h := ver_load (block_kept L2.out hW') rfl
      unfold Oper.quietAt
      simp [execOp, Act.eval, h, Result.andThen, Oper.quietUpon]
    clear hK K
    go_simp
    refine wpQuiet_step (fun K hK => ?_)
    rw [if_pos (by rfl)]
    refine ⟨.agg #[.int .i64 x1, .int .i64 y1, .int .i64 z1, .slice ad1 n1 cp1], fun W' hW' => ?_, hK _ ?_⟩
    · have h := ver_load (block_kept L1.out hW') rfl
      unfold Oper.quietAt
      simp [execOp, Act.eval, h, Result.andThen, Oper.quietUpon]
    clear hK K
    go_simp
    refine wpQuiet_step (fun K hK => ?_)
    go_simp
    refine ⟨.int .i64 (1), fun W' hW' => k21.out W' hW', hK _ ?_⟩
    clear hK K
    refine wpQuiet_step (fun K hK => ?_)
    go_simp
    refine ⟨_, fun W hW => rfl, hK _ ?_⟩
    clear hK K
    refine wpQuiet_step (fun K hK => ?_)
    go_simp
    refine ⟨.int .i64 (1), fun W hW => rfl, hK _ ?_⟩
    clear hK K
    refine wpQuiet_step (fun K hK => ?_)
    go_simp
    refine ⟨_, fun W hW => rfl, hK _ ?_⟩
    clear hK K
    refine wpQuiet_step (fun K hK => ?_)
    go_simp
    refine ⟨_, fun W hW => rfl, hK _ ?_⟩
    clear hK K
    refine wpQuiet_step (fun K hK => ?_)
    go_simp
    refine ⟨_, fun W hW => rfl, hK _ ?_⟩
    clear hK K
    refine wpQuiet_step (fun K hK => ?_)
    go_simp
    refine ⟨_, fun W hW => rfl, hK _ ?_⟩
    clear hK K
    refine wpQuiet_step (fun K hK => ?_)
    go_simp
    refine ⟨_, fun W hW => rfl, hK _ ?_⟩
    clear hK K
    refine wpQuiet_step (fun K hK => ?_)
    rw [if_pos (by rfl)]
    refine ⟨.agg #[.int .i64 x1, .int .i64 y1, .int .i64 z1, .slice ad1 n1 cp1], fun W' hW' => ?_, hK _ ?_⟩
    · have h := ver_load (block_kept L1.out hW') rfl
      unfold Oper.quietAt
      simp [execOp, Act.eval, h, Result.andThen, Oper.quietUpon]
    clear hK K
    go_simp
    refine wpQuiet_step (fun K hK => ?_)
    go_simp
    refine ⟨.string a, fun W' hW' => t1.out W' hW', hK _ ?_⟩
    clear hK K
    refine wpQuiet_step (fun K hK => ?_)
    rw [if_pos (by rfl)]
    refine ⟨.agg #[.int .i64 x2, .int .i64 y2, .int .i64 z2, .slice ad2 n2 cp2], fun W' hW' => ?_, hK _ ?_⟩
    · have h := ver_load (block_kept L2.out hW') rfl
      unfold Oper.quietAt
      simp [execOp, Act.eval, h, Result.andThen, Oper.quietUpon]
    clear hK K
    go_simp
    refine wpQuiet_step (fun K hK => ?_)
    go_simp
    refine ⟨.string b, fun W' hW' => t2.out W' hW', hK _ ?_⟩
    clear hK K
    refine wpQuiet_step (fun K hK => ?_)
    go_simp
    refine ⟨.bool false, fun W hW => ?_, hK _ ?_⟩
    · simpa using hab
    clear hK K
    refine wpQuiet_step (fun K hK => ?_)
    go_simp
    refine ⟨_, fun W hW => rfl, hK _ ?_⟩
    clear hK K
    refine wpQuiet_step (fun K hK => ?_)
    go_simp
    refine ⟨_, fun W hW => rfl, hK _ ?_⟩
    clear hK K
    refine wpQuiet_nil ?_
    intro W9 hW9
    have H9 := Lib.hid hW9
    clear hW9
    have Tb := T.b
    have Tc := T.c
    have Tle := T.le
    have Tlt := T.lt
    have Tge := T.ge
    clear T K3
    rcases Tb with rfl | rfl | rfl <;> rcases Tc with rfl | rfl | rfl
    all_goals first
      | (exfalso; omega)
      | (clear Tle Tlt Tge; go_wp2; go_ret; exact ⟨rfl, World.grownBy.trans GW.out H9.out⟩)
  · have hab : a = b := KT.out.1 rfl
    subst hab
    go_wp2
    refine wp_region_quiet (C := fun w' => W.grownBy w' none) (by kernel_rfl) (by kernel_rfl) hC9 ?_
    clear hC9
    refine wpQuiet_step (fun K hK => ?_)
    rw [if_pos (by rfl)]
    refine ⟨.agg #[.int .i64 x1, .int .i64 y1, .int .i64 z1, .slice ad1 n1 cp1], fun W' hW' => ?_, hK _ ?_⟩
    · have h := ver_load (block_kept L1.out hW') rfl
      unfold Oper.quietAt
      simp [execOp, Act.eval, h, Result.andThen, Oper.quietUpon]
    clear hK K
    go_simp
    refine wpQuiet_step (fun K hK => ?_)
    rw [if_pos (by rfl)]
    refine ⟨.agg #[.int .i64 x1, .int .i64 y1, .int .i64 z1, .slice ad1 n1 cp1], fun W' hW' => ?_, hK _ ?_⟩
    · have h := ver_load (block_kept L1.out hW') rfl
      unfold Oper.quietAt
      simp [execOp, Act.eval, h, Result.andThen, Oper.quietUpon]
    clear hK K
    go_simp
    refine wpQuiet_step (fun K hK => ?_)
    go_simp
    refine ⟨.int .i64 0, fun W' hW' => k11.out W' hW', hK _ ?_⟩
    clear hK K
    refine wpQuiet_step (fun K hK => ?_)
    go_simp
    refine ⟨_, fun W hW => rfl, hK _ ?_⟩
    clear hK K
    refine wpQuiet_step (fun K hK => ?_)
    go_simp
    refine ⟨_, fun W hW => rfl, hK _ ?_⟩
    clear hK K
    refine wpQuiet_step (fun K hK => ?_)
    rw [if_pos (by rfl)]
    refine ⟨.agg #[.int .i64 x2, .int .i64 y2, .int .i64 z2, .slice ad2 n2 cp2], fun W' hW' => ?_, hK _ ?_⟩
    · have h := ver_load (block_kept L2.out hW') rfl
      unfold Oper.quietAt
      simp [execOp, Act.eval, h, Result.andThen, Oper.quietUpon]
    clear hK K
    go_simp
    refine wpQuiet_step (fun K hK => ?_)
    rw [if_pos (by rfl)]
    refine ⟨.agg #[.int .i64 x1, .int .i64 y1, .int .i64 z1, .slice ad1 n1 cp1], fun W' hW' => ?_, hK _ ?_⟩
    · have h := ver_load (block_kept L1.out hW') rfl
      unfold Oper.quietAt
      simp [execOp, Act.eval, h, Result.andThen, Oper.quietUpon]
    clear hK K
    go_simp
    refine wpQuiet_step (fun K hK => ?_)
    go_simp
    refine ⟨.int .i64 (0), fun W' hW' => k21.out W' hW', hK _ ?_⟩
    clear hK K
    refine wpQuiet_step (fun K hK => ?_)
    go_simp
    refine ⟨_, fun W hW => rfl, hK _ ?_⟩
    clear hK K
    refine wpQuiet_step (fun K hK => ?_)
    go_simp
    refine ⟨.int .i64 (0), fun W hW => rfl, hK _ ?_⟩
    clear hK K
    refine wpQuiet_step (fun K hK => ?_)
    go_simp
    refine ⟨_, fun W hW => rfl, hK _ ?_⟩
    clear hK K
    refine wpQuiet_step (fun K hK => ?_)
    go_simp
    refine ⟨_, fun W hW => rfl, hK _ ?_⟩
    clear hK K
    refine wpQuiet_step (fun K hK => ?_)
    go_simp
    refine ⟨_, fun W hW => rfl, hK _ ?_⟩
    clear hK K
    refine wpQuiet_step (fun K hK => ?_)
    go_simp
    refine ⟨_, fun W hW => rfl, hK _ ?_⟩
    clear hK K
    refine wpQuiet_step (fun K hK => ?_)
    go_simp
    refine ⟨_, fun W hW => rfl, hK _ ?_⟩
    clear hK K
    refine wpQuiet_step (fun K hK => ?_)
    rw [if_pos (by rfl)]
    refine ⟨.agg #[.int .i64 x1, .int .i64 y1, .int .i64 z1, .slice ad1 n1 cp1], fun W' hW' => ?_, hK _ ?_⟩
    · have h := ver_load (block_kept L1.out hW') rfl
      unfold Oper.quietAt
      simp [execOp, Act.eval, h, Result.andThen, Oper.quietUpon]
    clear hK K
    go_simp
    refine wpQuiet_step (fun K hK => ?_)
    go_simp
    refine ⟨.string a, fun W' hW' => t1.out W' hW', hK _ ?_⟩
    clear hK K
    refine wpQuiet_step (fun K hK => ?_)
    rw [if_pos (by rfl)]
    refine ⟨.agg #[.int .i64 x2, .int .i64 y2, .int .i64 z2, .slice ad2 n2 cp2], fun W' hW' => ?_, hK _ ?_⟩
    · have h := ver_load (block_kept L2.out hW') rfl
      unfold Oper.quietAt
      simp [execOp, Act.eval, h, Result.andThen, Oper.quietUpon]
    clear hK K
    go_simp
    refine wpQuiet_step (fun K hK => ?_)
    go_simp
    refine ⟨.string a, fun W' hW' => t2.out W' hW', hK _ ?_⟩
    clear hK K
    refine wpQuiet_step (fun K hK => ?_)
    go_simp
    refine ⟨.bool true, fun W hW => ?_, hK _ ?_⟩
    · simp
    clear hK K
    refine wpQuiet_step (fun K hK => ?_)
    go_simp
    refine ⟨_, fun W hW => rfl, hK _ ?_⟩
    clear hK K
    refine wpQuiet_step (fun K hK => ?_)
    go_simp
    refine ⟨_, fun W hW => rfl, hK _ ?_⟩
    clear hK K
    refine wpQuiet_nil ?_
    intro W9 hW9
    have H9 := Lib.hid hW9
    clear hW9
    have Tb := T.b
    have Tc := T.c
    have Tle := T.le
    have Tlt := T.lt
    have Tge := T.ge
    clear T K3
    rcases Tb with rfl | rfl | rfl <;> rcases Tc with rfl | rfl | rfl
    all_goals first
      | (exfalso; omega)
      | (clear Tle Tlt Tge; go_wp2; go_ret; exact ⟨rfl, World.grownBy.trans GW.out H9.out⟩)
  · have hne : ¬ a = b := fun e => absurd (KT.out.2 e) (by decide)
    have hab : ¬ a.toList = b.toList := fun e => hne (bytes_ext (by rwa [ByteArray.toList_eq, ByteArray.toList_eq] at e))
    go_wp2
    refine wp_region_quiet (C := fun w' => W.grownBy w' none) (by kernel_rfl) (by kernel_rfl) hC9 ?_
    clear hC9
    refine wpQuiet_step (fun K hK => ?_)
    rw [if_pos (by rfl)]
    refine ⟨.agg #[.int .i64 x1, .int .i64 y1, .int .i64 z1, .slice ad1 n1 cp1], fun W' hW' => ?_, hK _ ?_⟩
    · have h := ver_load (block_kept L1.out hW') rfl
      unfold Oper.quietAt
      simp [execOp, Act.eval, h, Result.andThen, Oper.quietUpon]
    clear hK K
    go_simp
    refine wpQuiet_step (fun K hK => ?_)
    rw [if_pos (by rfl)]
    refine ⟨.agg #[.int .i64 x1, .int .i64 y1, .int .i64 z1, .slice ad1 n1 cp1], fun W' hW' => ?_, hK _ ?_⟩
    · have h := ver_load (block_kept L1.out hW') rfl
      unfold Oper.quietAt
      simp [execOp, Act.eval, h, Result.andThen, Oper.quietUpon]
    clear hK K
    go_simp
    refine wpQuiet_step (fun K hK => ?_)
    go_simp
    refine ⟨.int .i64 0, fun W' hW' => k11.out W' hW', hK _ ?_⟩
    clear hK K
    refine wpQuiet_step (fun K hK => ?_)
    go_simp
    refine ⟨_, fun W hW => rfl, hK _ ?_⟩
    clear hK K
    refine wpQuiet_step (fun K hK => ?_)
    go_simp
    refine ⟨_, fun W hW => rfl, hK _ ?_⟩
    clear hK K
    refine wpQuiet_step (fun K hK => ?_)
    rw [if_pos (by rfl)]
    refine ⟨.agg #[.int .i64 x2, .int .i64 y2, .int .i64 z2, .slice ad2 n2 cp2], fun W' hW' => ?_, hK _ ?_⟩
    · have h := ver_load (block_kept L2.out hW') rfl
      unfold Oper.quietAt
      simp [execOp, Act.eval, h, Result.andThen, Oper.quietUpon]
    clear hK K
    go_simp
    refine wpQuiet_step (fun K hK => ?_)
    rw [if_pos (by rfl)]
    refine ⟨.agg #[.int .i64 x1, .int .i64 y1, .int .i64 z1, .slice ad1 n1 cp1], fun W' hW' => ?_, hK _ ?_⟩
    · have h := ver_load (block_kept L1.out hW') rfl
      unfold Oper.quietAt
      simp [execOp, Act.eval, h, Result.andThen, Oper.quietUpon]
    clear hK K
    go_simp
    refine wpQuiet_step (fun K hK => ?_)
    go_simp
    refine ⟨.int .i64 (-1), fun W' hW' => k21.out W' hW', hK _ ?_⟩
    clear hK K
    refine wpQuiet_step (fun K hK => ?_)
    go_simp
    refine ⟨_, fun W hW => rfl, hK _ ?_⟩
    clear hK K
    refine wpQuiet_step (fun K hK => ?_)
    go_simp
    refine ⟨.int .i64 (-1), fun W hW => rfl, hK _ ?_⟩
    clear hK K
    refine wpQuiet_step (fun K hK => ?_)
    go_simp
    refine ⟨_, fun W hW => rfl, hK _ ?_⟩
    clear hK K
    refine wpQuiet_step (fun K hK => ?_)
    go_simp
    refine ⟨_, fun W hW => rfl, hK _ ?_⟩
    clear hK K
    refine wpQuiet_step (fun K hK => ?_)
    go_simp
    refine ⟨_, fun W hW => rfl, hK _ ?_⟩
    clear hK K
    refine wpQuiet_step (fun K hK => ?_)
    go_simp
    refine ⟨_, fun W hW => rfl, hK _ ?_⟩
    clear hK K
    refine wpQuiet_step (fun K hK => ?_)
    go_simp
    refine ⟨_, fun W hW => rfl, hK _ ?_⟩
    clear hK K
    refine wpQuiet_step (fun K hK => ?_)
    rw [if_pos (by rfl)]
    refine ⟨.agg #[.int .i64 x1, .int .i64 y1, .int .i64 z1, .slice ad1 n1 cp1], fun W' hW' => ?_, hK _ ?_⟩
    · have h := ver_load (block_kept L1.out hW') rfl
      unfold Oper.quietAt
      simp [execOp, Act.eval, h, Result.andThen, Oper.quietUpon]
    clear hK K
    go_simp
    refine wpQuiet_step (fun K hK => ?_)
    go_simp
    refine ⟨.string a, fun W' hW' => t1.out W' hW', hK _ ?_⟩
    clear hK K
    refine wpQuiet_step (fun K hK => ?_)
    rw [if_pos (by rfl)]
    refine ⟨.agg #[.int .i64 x2, .int .i64 y2, .int .i64 z2, .slice ad2 n2 cp2], fun W' hW' => ?_, hK _ ?_⟩
    · have h := ver_load (block_kept L2.out hW') rfl
      unfold Oper.quietAt
      simp [execOp, Act.eval, h, Result.andThen, Oper.quietUpon]
    clear hK K
    go_simp
    refine wpQuiet_step (fun K hK => ?_)
    go_simp
    refine ⟨.string b, fun W' hW' => t2.out W' hW', hK _ ?_⟩
    clear hK K
    refine wpQuiet_step (fun K hK => ?_)
    go_simp
    refine ⟨.bool false, fun W hW => ?_, hK _ ?_⟩
    · simpa using hab
    clear hK K
    refine wpQuiet_step (fun K hK => ?_)
    go_simp
    refine ⟨_, fun W hW => rfl, hK _ ?_⟩
    clear hK K
    refine wpQuiet_step (fun K hK => ?_)
    go_simp
    refine ⟨_, fun W hW => rfl, hK _ ?_⟩
    clear hK K
    refine wpQuiet_nil ?_
    intro W9 hW9
    have H9 := Lib.hid hW9
    clear hW9
    have Tb := T.b
    have Tc := T.c
    have Tle := T.le
    have Tlt := T.lt
    have Tge := T.ge
    clear T K3
    rcases Tb with rfl | rfl | rfl <;> rcases Tc with rfl | rfl | rfl
    all_goals first
      | (exfalso; omega)
      | (clear Tle Tlt Tge; go_wp2; go_ret; exact ⟨rfl, World.grownBy.trans GW.out H9.out⟩)

end Go.Proofs.YtkngfkjnohbbiaaDoor
