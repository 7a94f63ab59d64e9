/- The law VerTells returns true. -/
import Derived.Test.YtkngfkjnohbbiaaDoorYa
import Derived.Test.YtkngfkjnohbbiaaDoorWi
namespace Go.Proofs.YtkngfkjnohbbiaaDoor
open Go.RowKit

theorem refCmp_at2 (B C : Nat) (u v : Vn) (su sv : Value) (z : Int) (w : World) (hu : VerAt w B u su) (hv : VerAt w C v sv) (h : cmpV u v = z) :
    Calls Tryd.prog 17 #[verV u su, verV v sv] w fun e w' => e = .returned (.int .i64 z) ∧ w.grownBy w' none := by
  rw [← h]; exact refCmpV_any B C u v su sv w hu hv
theorem refText_at (m : Int) (B : Nat) (v : Vn) (sl : Value) (T : ByteArray) (w : World) (hw : Wok m w) (hB : B ≤ w.heap.size) (hv : VerAt w B v sl) (h : textS v = T) :
    Calls Tryd.prog 15 #[verV v sl] w fun e w' => e = .returned (.string T) ∧ w.grownBy w' none := by
  rw [← h]; first | exact refText_any m B v sl w hw hB hv | exact refText_any B v sl w hB hv | exact refText_any B v sl w hv | exact refText_any m B v sl w hw hv
theorem sum_short (L : List ByteArray) (h : ∀ p ∈ L, p.size ≤ 30) : sumS L ≤ 31 * L.length := by
  induction L with
  | nil => simp [sumS]
  | cons x L ih =>
    have h1 := ih (fun p hp => h p (by simp [hp]))
    have h2 := h x (by simp)
    rw [sumS, List.length_cons]
    omega
theorem next_shape (v : Vn) (part : Int) : ∃ X Y Z : Int, nextS v part = ⟨X, Y, Z, []⟩ := by
  unfold nextS
  repeat' split
  all_goals exact ⟨_, _, _, rfl⟩
theorem light_at {w : World} {B n cap : Nat} {a : Option Addr} {x y z : Int} {p : List ByteArray} (hx : -9223372036854775808 ≤ x ∧ x ≤ 9223372036854775807) (hy : -9223372036854775808 ≤ y ∧ y ≤ 9223372036854775807) (hz : -9223372036854775808 ≤ z ∧ z ≤ 9223372036854775807) (hn : p.length = n) (h6 : n ≤ 6) (hs : ∀ q ∈ p, q.size ≤ 30) (hP : PartS w B (.slice a n cap) p) : VerAt w B ⟨x, y, z, p⟩ (.slice a n cap) :=
  ⟨hx, hy, hz, by simp only; omega, fun q hq => Nat.le_trans (hs q hq) (by omega), by have := sum_short p hs; simp only; omega, hP⟩

set_option maxRecDepth 1000000
set_option maxHeartbeats 16000000 in
theorem tells_law (m : Int) (F F2 n n2 cap cap2 : Nat) (a a2 : Option Addr) (x y z x2 y2 z2 part : Int) (p1 p2 : List ByteArray) (w : World) (hm : Wok m w) (hn : p1.length = n) (hn2 : p2.length = n2)
    (hx : -9223372036854775808 ≤ x ∧ x ≤ 9223372036854775807) (hy : -9223372036854775808 ≤ y ∧ y ≤ 9223372036854775807) (hz : -9223372036854775808 ≤ z ∧ z ≤ 9223372036854775807) (hx2 : -9223372036854775808 ≤ x2 ∧ x2 ≤ 9223372036854775807) (hy2 : -9223372036854775808 ≤ y2 ∧ y2 ≤ 9223372036854775807) (hz2 : -9223372036854775808 ≤ z2 ∧ z2 ≤ 9223372036854775807)
    (hP : PartS w F (.slice a n cap) p1) (hP2 : PartS w F2 (.slice a2 n2 cap2) p2) (hF : F ≤ w.heap.size) (hF2 : F2 ≤ w.heap.size) :
    Calls Tryd.prog 4 #[.agg #[.int .i64 x, .int .i64 y, .int .i64 z, .slice a n cap], .agg #[.int .i64 x2, .int .i64 y2, .int .i64 z2, .slice a2 n2 cap2], .int .i64 part] w fun e w' => e = .returned (.bool true) ∧ w.grownBy w' none := by
  have HM := Lib.hid hm
  have HN := Lib.hid hn
  have HN2 := Lib.hid hn2
  have HX := Lib.hid hx
  have HY := Lib.hid hy
  have HZ := Lib.hid hz
  have HX2 := Lib.hid hx2
  have HY2 := Lib.hid hy2
  have HZ2 := Lib.hid hz2
  have HP := Lib.hid hP
  have HP2 := Lib.hid hP2
  have HF := Lib.hid hF
  have HF2 := Lib.hid hF2
  clear hm hn hn2 hx hy hz hx2 hy2 hz2 hP hP2 hF hF2
  go_enter Tryd.func4, Tryd.ntmps4
  go_wp2_with fail
  have ba := block_kept (alloc_block w (.cells #[.int .i64 x, .int .i64 y, .int .i64 z, .slice a n cap] 25)) (World.grownBy_alloc (w.alloc (.cells #[.int .i64 x, .int .i64 y, .int .i64 z, .slice a n cap] 25)) (.cells #[.int .i64 x2, .int .i64 y2, .int .i64 z2, .slice a2 n2 cap2] 25) none)
  have bb := alloc_block (w.alloc (.cells #[.int .i64 x, .int .i64 y, .int .i64 z, .slice a n cap] 25)) (.cells #[.int .i64 x2, .int .i64 y2, .int .i64 z2, .slice a2 n2 cap2] 25)
  rw [alloc_size] at bb
  have g1 := grown_alloc (.cells #[.int .i64 x2, .int .i64 y2, .int .i64 z2, .slice a2 n2 cap2] 25) (World.grownBy_alloc w (.cells #[.int .i64 x, .int .i64 y, .int .i64 z, .slice a n cap] 25) none)
  obtain ⟨W1, hW1⟩ : ∃ W1, (w.alloc (.cells #[.int .i64 x, .int .i64 y, .int .i64 z, .slice a n cap] 25)).alloc (.cells #[.int .i64 x2, .int .i64 y2, .int .i64 z2, .slice a2 n2 cap2] 25) = W1 := ⟨_, rfl⟩
  rw [hW1] at ba bb g1 ⊢
  have G1 := Lib.hid g1
  clear hW1 g1
  (with_reducible refine (known_any m _ (HM.out.stays G1.out)).mono ?_)
  rintro ee w0 ⟨rfl, g0⟩
  dsimp only
  have G0 := Lib.hid (World.grownBy.trans G1.out g0)
  have BA := Lib.hid (block_kept ba g0)
  have BB := Lib.hid (block_kept bb g0)
  clear ba bb g0
  obtain ⟨b10, b11, b12, b13⟩ := ver_block BA.out (World.grownBy.refl _ _)
  obtain ⟨b20, b21, b22, b23⟩ := ver_block BB.out (World.grownBy.refl _ _)
  go_wp2_with fail
  clear b10 b11 b12 b13 b20 b21 b22 b23
  (with_reducible refine (light_any F n cap a x y z p1 _ HN.out (HP.out.stays G0.out)).mono ?_)
  rintro ee w2 h
  obtain ⟨⟨bv, rfl, hb⟩, g2⟩ := h
  dsimp only
  have HB := Lib.hid hb
  have S2 := Lib.hid g2
  have G2 := Lib.hid (World.grownBy.trans G0.out g2)
  clear g2 hb
  cases bv with
  | false =>
    go_wp2
    go_ret
    exact ⟨rfl, G2.out⟩
  | true =>
  obtain ⟨b10, b11, b12, b13⟩ := ver_block BA.out S2.out
  obtain ⟨b20, b21, b22, b23⟩ := ver_block BB.out S2.out
  go_wp2_with fail
  clear b10 b11 b12 b13 b20 b21 b22 b23
  (with_reducible refine (light_any F2 n2 cap2 a2 x2 y2 z2 p2 _ HN2.out (HP2.out.stays G2.out)).mono ?_)
  rintro ee W h
  obtain ⟨⟨bv, rfl, hb⟩, g3⟩ := h
  dsimp only
  have HB2 := Lib.hid hb
  have S3 := Lib.hid (World.grownBy.trans S2.out g3)
  have GW := Lib.hid (World.grownBy.trans G2.out g3)
  clear g3 hb
  cases bv with
  | false =>
    go_wp2
    go_ret
    exact ⟨rfl, GW.out⟩
  | true =>
  have L1 := Lib.hid (block_kept BA.out S3.out)
  have L2 := Lib.hid (block_kept BB.out S3.out)
  have A1 : Hid (∀ W', W.grownBy W' none → VerAt W' F ⟨x, y, z, p1⟩ (.slice a n cap)) := fun W' hg =>
    light_at HX.out HY.out HZ.out HN.out (HB.out (by first | trivial | rfl)).1 (HB.out (by first | trivial | rfl)).2 (HP.out.stays (World.grownBy.trans GW.out hg))
  have A2 : Hid (∀ W', W.grownBy W' none → VerAt W' F2 ⟨x2, y2, z2, p2⟩ (.slice a2 n2 cap2)) := fun W' hg =>
    light_at HX2.out HY2.out HZ2.out HN2.out (HB2.out (by first | trivial | rfl)).1 (HB2.out (by first | trivial | rfl)).2 (HP2.out.stays (World.grownBy.trans GW.out hg))
  obtain ⟨T, hT⟩ : ∃ T, textS ⟨x, y, z, p1⟩ = T := ⟨_, rfl⟩
  obtain ⟨c, hc⟩ : ∃ c, cmpV ⟨x, y, z, p1⟩ ⟨x2, y2, z2, p2⟩ = c := ⟨_, rfl⟩
  obtain ⟨X, Y, Z, hN⟩ := next_shape ⟨x, y, z, p1⟩ part
  have t1 : Hid (∀ W', W.grownBy W' none → Calls Tryd.prog 13 #[.agg #[.int .i64 x, .int .i64 y, .int .i64 z, .slice a n cap]] W' fun e w' => e = .returned (.string T) ∧ W.grownBy w' none) :=
    fun W' hg => (text_at m _ ⟨x, y, z, p1⟩ _ T W' (HM.out.stays (World.grownBy.trans GW.out hg)) (Nat.le_trans HF.out (World.grownBy.trans GW.out hg).size) (A1.out W' hg) hT).mono fun e w' h => ⟨h.1, World.grownBy.trans hg h.2⟩
  have t2 : Hid (∀ W', W.grownBy W' none → Calls Tryd.prog 15 #[.agg #[.int .i64 x, .int .i64 y, .int .i64 z, .slice a n cap]] W' fun e w' => e = .returned (.string T) ∧ W.grownBy w' none) :=
    fun W' hg => (refText_at m _ ⟨x, y, z, p1⟩ _ T W' (HM.out.stays (World.grownBy.trans GW.out hg)) (Nat.le_trans HF.out (World.grownBy.trans GW.out hg).size) (A1.out W' hg) hT).mono fun e w' h => ⟨h.1, World.grownBy.trans hg h.2⟩
  have k1 : Hid (∀ W', W.grownBy W' none → Calls Tryd.prog 16 #[.agg #[.int .i64 x, .int .i64 y, .int .i64 z, .slice a n cap], .agg #[.int .i64 x2, .int .i64 y2, .int .i64 z2, .slice a2 n2 cap2]] W' fun e w' => e = .returned (.int .i64 c) ∧ W.grownBy w' none) :=
    fun W' hg => (cmp_at _ _ ⟨x, y, z, p1⟩ ⟨x2, y2, z2, p2⟩ _ _ c W' (A1.out W' hg) (A2.out W' hg) hc).mono fun e w' h => ⟨h.1, World.grownBy.trans hg h.2⟩
  have k2 : Hid (∀ W', W.grownBy W' none → Calls Tryd.prog 17 #[.agg #[.int .i64 x, .int .i64 y, .int .i64 z, .slice a n cap], .agg #[.int .i64 x2, .int .i64 y2, .int .i64 z2, .slice a2 n2 cap2]] W' fun e w' => e = .returned (.int .i64 c) ∧ W.grownBy w' none) :=
    fun W' hg => (refCmp_at2 _ _ ⟨x, y, z, p1⟩ ⟨x2, y2, z2, p2⟩ _ _ c W' (A1.out W' hg) (A2.out W' hg) hc).mono fun e w' h => ⟨h.1, World.grownBy.trans hg h.2⟩
  have nx1 : Hid (∀ W', W.grownBy W' none → Calls Tryd.prog 18 #[.agg #[.int .i64 x, .int .i64 y, .int .i64 z, .slice a n cap], .int .i64 part] W' fun e w' => e = .returned (.agg #[.int .i64 X, .int .i64 Y, .int .i64 Z, .slice none 0 0]) ∧ W.grownBy w' none) :=
    fun W' hg => (next_at _ ⟨x, y, z, p1⟩ _ part _ W' (A1.out W' hg) hN).mono fun e w' h => ⟨h.1, World.grownBy.trans hg h.2⟩
  have nx2 : Hid (∀ W', W.grownBy W' none → Calls Tryd.prog 19 #[.agg #[.int .i64 x, .int .i64 y, .int .i64 z, .slice a n cap], .int .i64 part] W' fun e w' => e = .returned (.agg #[.int .i64 X, .int .i64 Y, .int .i64 Z, .slice none 0 0]) ∧ W.grownBy w' none) :=
    fun W' hg => (refNext_at _ ⟨x, y, z, p1⟩ _ part _ W' (A1.out W' hg) hN).mono fun e w' h => ⟨h.1, World.grownBy.trans hg h.2⟩
  have nx3 : Hid (∀ W', W.grownBy W' none → Calls Tryd.prog 12 #[.agg #[.int .i64 X, .int .i64 Y, .int .i64 Z, .slice none 0 0], .agg #[.int .i64 X, .int .i64 Y, .int .i64 Z, .slice none 0 0]] W' fun e w' => e = .returned (.bool true) ∧ W.grownBy w' none) :=
    fun W' hg => (version_at 1 1 0 0 X Y Z [] none none 0 0 W' rfl rfl (by omega) (PartS.nil (by omega)) (PartS.nil (by omega))).mono fun e w' h => ⟨h.1, World.grownBy.trans hg h.2⟩
  clear hT hc hN
  go_wp2
  refine wp_region_quiet (C := fun w' => W.grownBy w' none) (by kernel_rfl) (by kernel_rfl) ⟨rfl, rfl, rfl, Nat.le_refl _, fun _ _ _ => rfl⟩ ?_
  refine wpQuiet_step (fun K hK => ?_)
  rw [if_pos (by rfl)]
  refine ⟨.agg #[.int .i64 x, .int .i64 y, .int .i64 z, .slice a n cap], fun W' hW' => ?_, hK _ ?_⟩
  · have h := ver_load (block_kept L1.out hW') rfl
    unfold Oper.quietAt
    simp [execOp, Act.eval, h, Result.andThen, Oper.quietUpon]
  clear hK K
  go_simp
  refine wpQuiet_step (fun K hK => ?_)
  go_simp
  refine ⟨.string T, fun W' hW' => t1.out W' hW', hK _ ?_⟩
  clear hK K
  refine wpQuiet_step (fun K hK => ?_)
  rw [if_pos (by rfl)]
  refine ⟨.agg #[.int .i64 x, .int .i64 y, .int .i64 z, .slice a n cap], fun W' hW' => ?_, hK _ ?_⟩
  · have h := ver_load (block_kept L1.out hW') rfl
    unfold Oper.quietAt
    simp [execOp, Act.eval, h, Result.andThen, Oper.quietUpon]
  clear hK K
  go_simp
  refine wpQuiet_step (fun K hK => ?_)
  go_simp
  refine ⟨.string T, fun W' hW' => t2.out W' hW', hK _ ?_⟩
  clear hK K
  refine wpQuiet_step (fun K hK => ?_)
  go_simp
  refine ⟨.bool true, fun W hW => ?_, hK _ ?_⟩
  · first | rfl | simp
  clear hK K
  refine wpQuiet_step (fun K hK => ?_)
  go_simp
  refine ⟨_, fun W hW => rfl, hK _ ?_⟩
  clear hK K
  refine wpQuiet_step (fun K hK => ?_)
  rw [if_pos (by rfl)]
  refine ⟨.agg #[.int .i64 x, .int .i64 y, .int .i64 z, .slice a n cap], fun W' hW' => ?_, hK _ ?_⟩
  · have h := ver_load (block_kept L1.out hW') rfl
    unfold Oper.quietAt
    simp [execOp, Act.eval, h, Result.andThen, Oper.quietUpon]
  clear hK K
  go_simp
  refine wpQuiet_step (fun K hK => ?_)
  rw [if_pos (by rfl)]
  refine ⟨.agg #[.int .i64 x2, .int .i64 y2, .int .i64 z2, .slice a2 n2 cap2], fun W' hW' => ?_, hK _ ?_⟩
  · have h := ver_load (block_kept L2.out hW') rfl
    unfold Oper.quietAt
    simp [execOp, Act.eval, h, Result.andThen, Oper.quietUpon]
  clear hK K
  go_simp
  refine wpQuiet_step (fun K hK => ?_)
  go_simp
  refine ⟨.int .i64 c, fun W' hW' => k1.out W' hW', hK _ ?_⟩
  clear hK K
  refine wpQuiet_step (fun K hK => ?_)
  rw [if_pos (by rfl)]
  refine ⟨.agg #[.int .i64 x, .int .i64 y, .int .i64 z, .slice a n cap], fun W' hW' => ?_, hK _ ?_⟩
  · have h := ver_load (block_kept L1.out hW') rfl
    unfold Oper.quietAt
    simp [execOp, Act.eval, h, Result.andThen, Oper.quietUpon]
  clear hK K
  go_simp
  refine wpQuiet_step (fun K hK => ?_)
  rw [if_pos (by rfl)]
  refine ⟨.agg #[.int .i64 x2, .int .i64 y2, .int .i64 z2, .slice a2 n2 cap2], fun W' hW' => ?_, hK _ ?_⟩
  · have h := ver_load (block_kept L2.out hW') rfl
    unfold Oper.quietAt
    simp [execOp, Act.eval, h, Result.andThen, Oper.quietUpon]
  clear hK K
  go_simp
  refine wpQuiet_step (fun K hK => ?_)
  go_simp
  refine ⟨.int .i64 c, fun W' hW' => k2.out W' hW', hK _ ?_⟩
  clear hK K
  refine wpQuiet_step (fun K hK => ?_)
  go_simp
  refine ⟨.bool true, fun W hW => ?_, hK _ ?_⟩
  · first | rfl | simp
  clear hK K
  refine wpQuiet_step (fun K hK => ?_)
  go_simp
  refine ⟨_, fun W hW => rfl, hK _ ?_⟩
  clear hK K
  refine wpQuiet_step (fun K hK => ?_)
  go_simp
  refine ⟨_, fun W hW => rfl, hK _ ?_⟩
  clear hK K
  refine wpQuiet_step (fun K hK => ?_)
  rw [if_pos (by rfl)]
  refine ⟨.agg #[.int .i64 x, .int .i64 y, .int .i64 z, .slice a n cap], fun W' hW' => ?_, hK _ ?_⟩
  · have h := ver_load (block_kept L1.out hW') rfl
    unfold Oper.quietAt
    simp [execOp, Act.eval, h, Result.andThen, Oper.quietUpon]
  clear hK K
  go_simp
  refine wpQuiet_step (fun K hK => ?_)
  go_simp
  refine ⟨_, fun W hW => rfl, hK _ ?_⟩
  clear hK K
  refine wpQuiet_step (fun K hK => ?_)
  go_simp
  refine ⟨.agg #[.int .i64 X, .int .i64 Y, .int .i64 Z, .slice none 0 0], fun W' hW' => nx1.out W' hW', hK _ ?_⟩
  clear hK K
  refine wpQuiet_step (fun K hK => ?_)
  rw [if_pos (by rfl)]
  refine ⟨.agg #[.int .i64 x, .int .i64 y, .int .i64 z, .slice a n cap], fun W' hW' => ?_, hK _ ?_⟩
  · have h := ver_load (block_kept L1.out hW') rfl
    unfold Oper.quietAt
    simp [execOp, Act.eval, h, Result.andThen, Oper.quietUpon]
  clear hK K
  go_simp
  refine wpQuiet_step (fun K hK => ?_)
  go_simp
  refine ⟨_, fun W hW => rfl, hK _ ?_⟩
  clear hK K
  refine wpQuiet_step (fun K hK => ?_)
  go_simp
  refine ⟨.agg #[.int .i64 X, .int .i64 Y, .int .i64 Z, .slice none 0 0], fun W' hW' => nx2.out W' hW', hK _ ?_⟩
  clear hK K
  refine wpQuiet_step (fun K hK => ?_)
  go_simp
  refine ⟨.bool true, fun W' hW' => nx3.out W' hW', hK _ ?_⟩
  clear hK K
  refine wpQuiet_step (fun K hK => ?_)
  go_simp
  refine ⟨_, fun W hW => rfl, hK _ ?_⟩
  clear hK K
  refine wpQuiet_step (fun K hK => ?_)
  go_simp
  refine ⟨_, fun W hW => rfl, hK _ ?_⟩
  clear hK K
  refine wpQuiet_nil ?_
  intro W9 hW9
  have H9 := Lib.hid hW9
  clear hW9
  go_wp2
  go_ret
  exact ⟨rfl, World.grownBy.trans GW.out H9.out⟩
end Go.Proofs.YtkngfkjnohbbiaaDoor
