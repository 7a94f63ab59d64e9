/- The law VerReads returns true. -/
import Derived.Test.YtkngfkjnohbbiaaDoorVs
namespace Go.Proofs.YtkngfkjnohbbiaaDoor
open Go.RowKit

theorem parse_few (s : ByteArray) (v : Vn) (q : Int) (h : parseS s = (v, q)) : v.pre.length ≤ 5 := by
  by_cases hq : q = 0
  · subst hq; exact (parse_read s v h).few
  · rw [(parse_fail s v q h hq).1]; simp [zeroV]
theorem version_at (B C n k : Nat) (x y z : Int) (pre : List ByteArray) (a1 a2 : Option Addr) (c1 c2 : Nat) (w : World) (hn : pre.length = n) (hk : pre.length = k) (hn5 : n ≤ 5) (h1 : PartS w B (.slice a1 n c1) pre) (h2 : PartS w C (.slice a2 k c2) pre) :
    Calls Tryd.prog 12 #[.agg #[.int .i64 x, .int .i64 y, .int .i64 z, .slice a1 n c1], .agg #[.int .i64 x, .int .i64 y, .int .i64 z, .slice a2 k c2]] w fun e w' => e = .returned (.bool true) ∧ w.grownBy w' none := by
  have := version_any B C ⟨x, y, z, pre⟩ ⟨x, y, z, pre⟩ (.slice a1 n c1) (.slice a2 k c2) w (by simp only; omega) (by simp only; omega) h1 h2
  have e : decide ((⟨x, y, z, pre⟩ : Vn) = ⟨x, y, z, pre⟩) = true := by simp
  rw [e] at this
  exact this

set_option maxRecDepth 1000000
set_option maxHeartbeats 8000000 in
theorem reads_in (m : Int) (s : ByteArray) (hs : ¬ 200 < s.size) (w : World) (hm : Wok m w) :
    Calls Tryd.prog 3 #[.string s] w fun e w' => e = .returned (.bool true) ∧ w.grownBy w' none := by
  have HM := Lib.hid hm
  have h2 : decide (200 < (s.size : Int)) = false := by simp; omega
  have hs5 : s.size ≤ 2000000 := by omega
  obtain ⟨v, q, hv⟩ : ∃ v q, parseS s = (v, q) := ⟨_, _, rfl⟩
  obtain ⟨n, hn⟩ : ∃ n, v.pre.length = n := ⟨_, rfl⟩
  have hn5 : n ≤ 5 := by rw [← hn]; exact parse_few s v q hv
  obtain ⟨x, y, z, pre⟩ := v
  simp only at hn
  have HV := Lib.hid hv
  have HN := Lib.hid hn
  clear hm hs hv hn
  go_enter Tryd.func3, Tryd.ntmps3
  go_wp2_with fail
  (with_reducible refine (known_any m _ HM.out).mono ?_)
  rintro ee w0 ⟨rfl, g0⟩
  dsimp only
  have G0 := Lib.hid g0
  clear g0
  go_wp2_with fail
  (with_reducible refine (parse_at m s _ q n _ hs5 (HM.out.stays G0.out) HV.out HN.out).mono ?_)
  rintro ee w1 ⟨a1, c1, rfl, hc1, hp1, g1⟩
  dsimp only
  have G1 := Lib.hid (World.grownBy.trans G0.out g1)
  have P1 := Lib.hid hp1
  have HE1 := Lib.hid (show verV ⟨x, y, z, pre⟩ (.slice a1 n c1) = .agg #[.int .i64 x, .int .i64 y, .int .i64 z, .slice a1 n c1] from rfl)
  rw [HE1.out]
  clear g1 hp1 hc1
  have G1a := Lib.hid (grown_alloc (.cells #[.int .i64 x, .int .i64 y, .int .i64 z, .slice a1 n c1] 25) G1.out)
  have B1 := Lib.hid (alloc_block w1 (.cells #[.int .i64 x, .int .i64 y, .int .i64 z, .slice a1 n c1] 25))
  go_wp2_with fail
  (with_reducible refine (refParse_at m s _ q n _ hs5 HV.out HN.out).mono ?_)
  rintro ee w2 ⟨a2, c2, rfl, hc2, hp2, g2⟩
  dsimp only
  have S2 := Lib.hid g2
  have P2 := Lib.hid hp2
  have HE2 := Lib.hid (show verV ⟨x, y, z, pre⟩ (.slice a2 n c2) = .agg #[.int .i64 x, .int .i64 y, .int .i64 z, .slice a2 n c2] from rfl)
  rw [HE2.out]
  clear g2 hp2 hc2
  have s2 := World.grownBy_alloc w2 (.cells #[.int .i64 x, .int .i64 y, .int .i64 z, .slice a2 n c2] 25) none
  have b2 := alloc_block w2 (.cells #[.int .i64 x, .int .i64 y, .int .i64 z, .slice a2 n c2] 25)
  obtain ⟨W, hW⟩ : ∃ W, w2.alloc (.cells #[.int .i64 x, .int .i64 y, .int .i64 z, .slice a2 n c2] 25) = W := ⟨_, rfl⟩
  rw [hW] at s2 b2
  have T1 := Lib.hid (World.grownBy.trans S2.out s2)
  have GW := Lib.hid (World.grownBy.trans G1a.out T1.out)
  have HWW := Lib.hid hW
  have B2 := Lib.hid b2
  have PA := Lib.hid ((P1.out.stays (World.grownBy_alloc w1 (.cells #[.int .i64 x, .int .i64 y, .int .i64 z, .slice a1 n c1] 25) none)).stays T1.out)
  have PB := Lib.hid (P2.out.stays s2)
  obtain ⟨b10, b11, b12, b13⟩ := ver_block B1.out T1.out
  obtain ⟨b20, b21, b22, b23⟩ := ver_block B2.out (World.grownBy.refl _ _)
  rw [← hW] at b10 b11 b12 b13 b20 b21 b22 b23
  have L1 : Hid (w1.heap.size ≤ W.heap.size) := Nat.le_trans (Nat.le_succ _) (by have := T1.out.size; rw [alloc_size] at this; exact this)
  clear hW s2 b2 HE1 HE2
  go_wp2_with fail
  rw [HWW.out]
  clear b10 b11 b12 b13 b20 b21 b22 b23
  (with_reducible refine (version_at _ _ n n x y z pre a1 a2 c1 c2 _ HN.out HN.out hn5 PA.out PB.out).mono ?_)
  rintro ee w5 ⟨rfl, g5⟩
  dsimp only
  have G5 := Lib.hid g5
  clear g5
  by_cases hq : q = 0
  · have hr := parse_read s _ (by rw [HV.out, hq])
    have HT := Lib.hid hr.text
    have HVA := Lib.hid (hr.at (PA.out.stays G5.out))
    subst hq
    clear hr
    obtain ⟨b10, b11, b12, b13⟩ := ver_block B1.out (World.grownBy.trans T1.out G5.out)
    go_wp2_with fail
    clear b10 b11 b12 b13
    refine (text_at m _ _ _ s _ (HM.out.stays (World.grownBy.trans GW.out G5.out)) (Nat.le_trans L1.out G5.out.size) HVA.out HT.out).mono ?_
    rintro ee w6 ⟨rfl, g6⟩
    dsimp only
    have G6 := Lib.hid (World.grownBy.trans G5.out g6)
    clear g6
    go_wp2
    go_ret
    exact ⟨by simp, World.grownBy.trans GW.out G6.out⟩
  · have hne : (q == 0) = false := by simp [hq]
    have hne2 : (q != 0) = true := by simp [hq]
    go_wp2
    go_ret
    exact ⟨rfl, World.grownBy.trans GW.out G5.out⟩
set_option maxRecDepth 1000000
set_option maxHeartbeats 1000000 in
theorem reads_law (m : Int) (s : ByteArray) (w : World) (hm : Wok m w) :
    Calls Tryd.prog 3 #[.string s] w fun e w' => e = .returned (.bool true) ∧ w.grownBy w' none := by
  by_cases hs : 200 < s.size
  · have h2 : 200 < (s.size : Int) := by omega
    have HM := Lib.hid hm
    clear hs hm
    go_enter Tryd.func3, Tryd.ntmps3
    go_wp2_with fail
    (with_reducible refine (known_any m _ HM.out).mono ?_)
    rintro ee w1 ⟨rfl, g1⟩
    dsimp only
    go_wp2
    go_ret
    exact ⟨rfl, g1⟩
  · exact reads_in m s hs w hm
end Go.Proofs.YtkngfkjnohbbiaaDoor
