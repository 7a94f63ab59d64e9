/- haversacklaw17.ScriptWords. -/
import Derived.Test.YtmjdkgbblccpgaaDoorUq
namespace Go.Proofs.YtmjdkgbblccpgaaDoor
open Go.RowKit

set_option maxRecDepth 1000000
set_option maxHeartbeats 2000000 in
theorem words_law (m : Int) (s : ByteArray) (w : World) (hm : Wok m w) : Calls Tryd.prog 3 #[.string s] w fun e w' => e = .returned (.bool true) ∧ w.grownBy w' none := by
  have HM := Lib.hid hm
  clear hm
  by_cases hs : 500 < s.size
  · have h2 : decide (500 < (s.size : Int)) = true := by simp; omega
    clear hs
    go_enter Tryd.func3, Tryd.ntmps3
    go_wp2_with fail
    (with_reducible refine (known_any m w HM.out).mono ?_)
    rintro ee w1 ⟨rfl, g1⟩
    have HG1 := Lib.hid g1
    clear g1
    dsimp only
    go_wp2
    go_ret
    exact ⟨rfl, HG1.out⟩
  have h2 : decide (500 < (s.size : Int)) = false := by simp; omega
  have hs1 : s.size ≤ 1000000 := by omega
  clear hs
  go_enter Tryd.func3, Tryd.ntmps3
  go_wp2_with fail
  (with_reducible refine (known_any m w HM.out).mono ?_)
  rintro ee w1 ⟨rfl, g1⟩
  have HG1 := Lib.hid g1
  clear g1
  dsimp only
  go_wp2_with fail
  (with_reducible refine (words_any s w1 hs1).mono ?_)
  rintro ee w2 ⟨g2, hc2⟩
  have HG2 := Lib.hid (World.grownBy.trans HG1.out g2)
  clear g2
  rcases hc2 with ⟨L, v, hL, rfl, hO⟩ | ⟨hL, rfl⟩
  · obtain ⟨a, n, c, rfl, hn⟩ := hO.slice
    have HO := Lib.hid (hO.part (Wok.pos (HM.out.stays HG2.out)))
    have HN := Lib.hid hn
    have HL := Lib.hid hL
    have HB := Lib.hid (words_bound s L hL)
    clear hO hn hL
    dsimp only
    go_wp2_with fail
    (with_reducible refine (refWords_any s w2 hs1).mono ?_)
    rintro ee w3 ⟨g3, ⟨L2, v2, hL2, rfl, hO2⟩ | ⟨hL2, _⟩⟩
    rotate_left
    · rw [HL.out] at hL2; cases hL2
    rw [HL.out] at hL2
    have e2 := Option.some.inj hL2
    subst e2
    obtain ⟨a2, n2, c2, rfl, hn2⟩ := hO2.slice
    have HG3 := Lib.hid (World.grownBy.trans HG2.out g3)
    have HO2 := Lib.hid (hO2.part (Wok.pos (HM.out.stays HG3.out)))
    have HO1 := Lib.hid (HO.out.stays g3)
    have HN2 := Lib.hid hn2
    have hnn : n = n2 := by rw [← HN.out, ← hn2]
    have hn8 : n ≤ 8000000 := by have := HB.out.1; have := HN.out; omega
    clear hO2 hn2 hL2 g3
    dsimp only
    subst hnn
    have hst := strings_any _ _ n n c c2 a a2 (L.map toB) (L.map toB) w3 HN.out HN2.out hn8 hn8 HO1.out HO2.out
    rw [decide_eq_true rfl] at hst
    have HST := Lib.hid hst
    clear hst
    go_wp2_with fail
    (with_reducible refine HST.out.mono ?_)
    clear HST
    rintro ee w4 ⟨rfl, g4⟩
    have HG4 := Lib.hid (World.grownBy.trans HG3.out g4)
    clear g4
    dsimp only
    go_wp2
    go_ret
    exact ⟨rfl, HG4.out⟩
  · have HL := Lib.hid hL
    clear hL
    dsimp only
    go_wp2_with fail
    (with_reducible refine (refWords_any s w2 hs1).mono ?_)
    rintro ee w3 ⟨g3, ⟨L2, v2, hL2, _⟩ | ⟨_, rfl⟩⟩
    · rw [HL.out] at hL2; cases hL2
    have HG3 := Lib.hid (World.grownBy.trans HG2.out g3)
    clear g3
    dsimp only
    have hpos := Wok.pos (HM.out.stays HG3.out)
    have hst := strings_any _ _ 0 0 0 0 none none [] [] w3 rfl rfl (by omega) (by omega) (PartS.nil hpos) (PartS.nil hpos)
    rw [decide_eq_true rfl] at hst
    have HST := Lib.hid hst
    clear hst hpos
    go_wp2_with fail
    (with_reducible refine HST.out.mono ?_)
    clear HST
    rintro ee w4 ⟨rfl, g4⟩
    have HG4 := Lib.hid (World.grownBy.trans HG3.out g4)
    clear g4
    dsimp only
    go_wp2
    go_ret
    exact ⟨rfl, HG4.out⟩
end Go.Proofs.YtmjdkgbblccpgaaDoor
