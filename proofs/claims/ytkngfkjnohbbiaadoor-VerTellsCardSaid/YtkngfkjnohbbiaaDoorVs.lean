/- The chapter's example: known returns true. -/
import Derived.Test.YtkngfkjnohbbiaaDoorVr
namespace Go.Proofs.YtkngfkjnohbbiaaDoor
open Go.RowKit

/-- A read, its answer at hand. -/
theorem parse_at (m : Int) (s : ByteArray) (v : Vn) (q : Int) (n : Nat) (w : World) (hs : s.size ≤ 2000000) (hm : Wok m w) (h : parseS s = (v, q)) (hn : v.pre.length = n) :
    Calls Tryd.prog 10 #[.string s] w fun e w' => ∃ a cap, e = .returned (.tuple #[verV v (.slice a n cap), .int .i64 q]) ∧ n ≤ cap ∧ PartS w' w'.heap.size (.slice a n cap) v.pre ∧ w.grownBy w' none := by
  refine (parse_any m s w hs hm.len).mono ?_
  rintro e w' ⟨sl, he, hp, hg⟩
  rw [h] at he hp
  obtain ⟨a, cap, hsl, hc, _⟩ := hp.form
  subst hsl
  simp only at he hp hc
  rw [hn] at he hp hc
  exact ⟨a, cap, he, hc, hp, hg⟩
theorem refParse_at (m : Int) (s : ByteArray) (v : Vn) (q : Int) (n : Nat) (w : World) (hs : s.size ≤ 2000000) (h : parseS s = (v, q)) (hn : v.pre.length = n) :
    Calls Tryd.prog 11 #[.string s] w fun e w' => ∃ a cap, e = .returned (.tuple #[verV v (.slice a n cap), .int .i64 q]) ∧ n ≤ cap ∧ PartS w' w'.heap.size (.slice a n cap) v.pre ∧ w.grownBy w' none := by
  refine (refParse_any m s w hs).mono ?_
  rintro e w' ⟨sl, he, hp, hg⟩
  rw [h] at he hp
  obtain ⟨a, cap, hsl, hc, _⟩ := hp.form
  subst hsl
  simp only at he hp hc
  rw [hn] at he hp hc
  exact ⟨a, cap, he, hc, hp, hg⟩
theorem text_at (m : Int) (B : Nat) (v : Vn) (sl : Value) (T : ByteArray) (w : World) (hw : Wok m w) (hB : B ≤ w.heap.size) (hv : VerAt w B v sl) (h : textS v = T) :
    Calls Tryd.prog 13 #[verV v sl] w fun e w' => e = .returned (.string T) ∧ w.grownBy w' none := by
  rw [← h]; exact text_any m B v sl w hw hB hv
theorem cmp_at (B C : Nat) (u v : Vn) (su sv : Value) (z : Int) (w : World) (hu : VerAt w B u su) (hv : VerAt w C v sv) (h : cmpV u v = z) :
    Calls Tryd.prog 16 #[verV u su, verV v sv] w fun e w' => e = .returned (.int .i64 z) ∧ w.grownBy w' none := by
  rw [← h]; exact cmp_any B C u v su sv w hu hv
theorem next_at (B : Nat) (v : Vn) (sl : Value) (part : Int) (u : Vn) (w : World) (hv : VerAt w B v sl) (h : nextS v part = u) :
    Calls Tryd.prog 18 #[verV v sl, .int .i64 part] w fun e w' => e = .returned (verV u (.slice none 0 0)) ∧ w.grownBy w' none := by
  rw [← h]; exact next_any B v sl part w hv

def vA : Vn := ⟨1, 0, 0, [⟨#[97]⟩, ⟨#[50]⟩]⟩
def vB : Vn := ⟨1, 0, 0, [⟨#[97]⟩, ⟨#[49, 48]⟩]⟩
def vC : Vn := ⟨1, 1, 0, []⟩
theorem kn1 : parseS ⟨#[49, 46, 48, 46, 48, 45, 97, 46, 50]⟩ = (vA, 0) := by decide +kernel
theorem kn2 : parseS ⟨#[49, 46, 48, 46, 48, 45, 97, 46, 49, 48]⟩ = (vB, 0) := by decide +kernel
theorem kn3 : parseS ⟨#[49, 46, 48]⟩ = (zeroV, 60) := by decide +kernel
theorem kn4 : cmpV vA vB = -1 := by decide +kernel
theorem kn5 : textS vB = ⟨#[49, 46, 48, 46, 48, 45, 97, 46, 49, 48]⟩ := by decide +kernel
theorem kn6 : nextS vA 1 = vC := by decide +kernel
theorem kn7 : textS vC = ⟨#[49, 46, 49, 46, 48]⟩ := by decide +kernel

theorem VerAt.zero_none {w : World} {v : Vn} (h : v.pre = []) (ha : -9223372036854775808 ≤ v.maj ∧ v.maj ≤ 9223372036854775807) (hb : -9223372036854775808 ≤ v.min ∧ v.min ≤ 9223372036854775807) (hc : -9223372036854775808 ≤ v.pat ∧ v.pat ≤ 9223372036854775807) (hw : 0 < w.heap.size) : VerAt w w.heap.size v (.slice none 0 0) :=
  ⟨ha, hb, hc, by rw [h]; simp, by rw [h]; simp, by rw [h]; simp [sumS], by rw [h]; exact PartS.nil hw⟩
/-- A version's block, in a later world. -/
theorem ver_block {w w' : World} {r : Nat} {x0 x1 x2 x3 : Value} (h : w.heap[r]? = some (.cells #[x0, x1, x2, x3] 25 (0, 0))) (hg : w.grownBy w' none) :
    w'.cell? ⟨r, 0, none⟩ = some x0 ∧ w'.cell? ⟨r, 1, none⟩ = some x1 ∧ w'.cell? ⟨r, 2, none⟩ = some x2 ∧ w'.cell? ⟨r, 3, none⟩ = some x3 :=
  have h' := block_kept h hg
  ⟨(block_cell h' 0 _ rfl).1, (block_cell h' 1 _ rfl).1, (block_cell h' 2 _ rfl).1, (block_cell h' 3 _ rfl).1⟩

set_option maxRecDepth 1000000
set_option maxHeartbeats 8000000 in
theorem known_any (m : Int) (w : World) (hm : Wok m w) :
    Calls Tryd.prog 9 #[] w fun e w' => e = .returned (.bool true) ∧ w.grownBy w' none := by
  have HM := Lib.hid hm
  clear hm
  go_enter Tryd.func9, Tryd.ntmps9
  go_wp2_with fail
  (with_reducible refine (parse_at m _ _ _ 2 _ (by decide) HM.out kn1 rfl).mono ?_)
  rintro ee w1 ⟨a1, c1, rfl, hc1, hp1, g1⟩
  dsimp only
  have G1 := Lib.hid g1
  have P1 := Lib.hid hp1
  have HE1 := Lib.hid (show verV vA (.slice a1 2 c1) = .agg #[.int .i64 1, .int .i64 0, .int .i64 0, .slice a1 2 c1] from rfl)
  rw [HE1.out]
  clear g1 hp1 hc1
  have G1a := Lib.hid (grown_alloc (.cells #[.int .i64 1, .int .i64 0, .int .i64 0, .slice a1 2 c1] 25) G1.out)
  have B1 := Lib.hid (alloc_block w1 (.cells #[.int .i64 1, .int .i64 0, .int .i64 0, .slice a1 2 c1] 25))
  go_wp2_with fail
  (with_reducible refine (parse_at m _ _ _ 2 _ (by decide) (HM.out.stays G1a.out) kn2 rfl).mono ?_)
  rintro ee w2 ⟨a2, c2, rfl, hc2, hp2, g2⟩
  dsimp only
  have G2 := Lib.hid (World.grownBy.trans G1a.out g2)
  have P2 := Lib.hid hp2
  have S2 := Lib.hid g2
  have HE2 := Lib.hid (show verV vB (.slice a2 2 c2) = .agg #[.int .i64 1, .int .i64 0, .int .i64 0, .slice a2 2 c2] from rfl)
  rw [HE2.out]
  clear g2 hp2 hc2
  have G2a := Lib.hid (grown_alloc (.cells #[.int .i64 1, .int .i64 0, .int .i64 0, .slice a2 2 c2] 25) G2.out)
  have B2 := Lib.hid (alloc_block w2 (.cells #[.int .i64 1, .int .i64 0, .int .i64 0, .slice a2 2 c2] 25))
  go_wp2_with fail
  (with_reducible refine (parse_at m _ _ _ 0 _ (by decide) (HM.out.stays G2a.out) kn3 rfl).mono ?_)
  rintro ee w3 ⟨a3, c3, rfl, hc3, hp3, g3⟩
  dsimp only
  have G3 := Lib.hid (World.grownBy.trans G2a.out g3)
  have S3 := Lib.hid g3
  have HE3 := Lib.hid (show verV zeroV (.slice a3 0 c3) = .agg #[.int .i64 0, .int .i64 0, .int .i64 0, .slice a3 0 c3] from rfl)
  rw [HE3.out]
  clear g3 hp3 hc3
  have s3 := World.grownBy_alloc w3 (.cells #[.int .i64 0, .int .i64 0, .int .i64 0, .slice a3 0 c3] 25) none
  obtain ⟨W, hW⟩ : ∃ W, w3.alloc (.cells #[.int .i64 0, .int .i64 0, .int .i64 0, .slice a3 0 c3] 25) = W := ⟨_, rfl⟩
  rw [hW] at s3
  have T1 := Lib.hid (World.grownBy.trans (World.grownBy.trans S2.out (World.grownBy.trans (World.grownBy_alloc w2 (.cells #[.int .i64 1, .int .i64 0, .int .i64 0, .slice a2 2 c2] 25) none) S3.out)) s3)
  have T2 := Lib.hid (World.grownBy.trans S3.out s3)
  have GW := Lib.hid (World.grownBy.trans G3.out s3)
  have PA := Lib.hid ((P1.out.stays (World.grownBy_alloc w1 (.cells #[.int .i64 1, .int .i64 0, .int .i64 0, .slice a1 2 c1] 25) none)).stays T1.out)
  have PB := Lib.hid ((P2.out.stays (World.grownBy_alloc w2 (.cells #[.int .i64 1, .int .i64 0, .int .i64 0, .slice a2 2 c2] 25) none)).stays T2.out)
  have HWW := Lib.hid hW
  have L1 : Hid (w1.heap.size ≤ W.heap.size) := Nat.le_trans (Nat.le_succ _) (by have := T1.out.size; rw [alloc_size] at this; exact this)
  have L2 : Hid (w2.heap.size ≤ W.heap.size) := Nat.le_trans (Nat.le_succ _) (by have := T2.out.size; rw [alloc_size] at this; exact this)
  obtain ⟨b10, b11, b12, b13⟩ := ver_block B1.out T1.out
  obtain ⟨b20, b21, b22, b23⟩ := ver_block B2.out T2.out
  rw [← hW] at b10 b11 b12 b13 b20 b21 b22 b23
  clear hW s3 HE1 HE2 HE3
  have VA : ∀ (W' : World), W.grownBy W' none → VerAt W' w1.heap.size vA (.slice a1 2 c1) := fun _ hg =>
    ⟨by decide, by decide, by decide, by decide, by decide, by decide, PA.out.stays hg⟩
  have VB : ∀ (W' : World), W.grownBy W' none → VerAt W' w2.heap.size vB (.slice a2 2 c2) := fun _ hg =>
    ⟨by decide, by decide, by decide, by decide, by decide, by decide, PB.out.stays hg⟩
  have HVA := Lib.hid VA
  have HVB := Lib.hid VB
  clear VA VB
  go_wp2_with fail
  rw [HWW.out]
  clear b10 b11 b12 b13 b20 b21 b22 b23
  refine (cmp_at _ _ vA vB (.slice a1 2 c1) (.slice a2 2 c2) (-1) _ (HVA.out _ (World.grownBy.refl _ _)) (HVB.out _ (World.grownBy.refl _ _)) kn4).mono ?_
  rintro ee w5 ⟨rfl, g5⟩
  dsimp only
  have G5 := Lib.hid g5
  clear g5
  obtain ⟨b20, b21, b22, b23⟩ := ver_block B2.out (World.grownBy.trans T2.out G5.out)
  go_wp2_with fail
  clear b20 b21 b22 b23
  refine (text_at m _ vB (.slice a2 2 c2) _ _ (HM.out.stays (World.grownBy.trans GW.out G5.out)) (Nat.le_trans L2.out G5.out.size) (HVB.out _ G5.out) kn5).mono ?_
  rintro ee w6 ⟨rfl, g6⟩
  dsimp only
  have G6 := Lib.hid (World.grownBy.trans G5.out g6)
  clear g6
  obtain ⟨b10, b11, b12, b13⟩ := ver_block B1.out (World.grownBy.trans T1.out G6.out)
  go_wp2_with fail
  clear b10 b11 b12 b13
  refine (next_at _ vA (.slice a1 2 c1) 1 vC _ (HVA.out _ G6.out) kn6).mono ?_
  rintro ee w7 ⟨rfl, g7⟩
  dsimp only
  have G7 := Lib.hid (World.grownBy.trans G6.out g7)
  clear g7
  go_wp2_with fail
  refine (text_at m _ vC (.slice none 0 0) _ _ (HM.out.stays (World.grownBy.trans GW.out G7.out)) (Nat.le_refl _) (VerAt.zero_none rfl (by decide) (by decide) (by decide) (HM.out.stays (World.grownBy.trans GW.out G7.out)).pos) kn7).mono ?_
  rintro ee w8 ⟨rfl, g8⟩
  dsimp only
  have G8 := Lib.hid (World.grownBy.trans G7.out g8)
  clear g8
  go_wp2
  go_ret
  exact ⟨rfl, World.grownBy.trans GW.out G8.out⟩
end Go.Proofs.YtkngfkjnohbbiaaDoor
