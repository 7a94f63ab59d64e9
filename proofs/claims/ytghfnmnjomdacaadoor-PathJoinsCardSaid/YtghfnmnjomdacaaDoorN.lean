/- The law PathCleans returns true. -/
import Derived.Test.YtghfnmnjomdacaaDoorM
import Derived.Test.YtghfnmnjomdacaaDoorI
namespace Go.Proofs.YtghfnmnjomdacaaDoor
open Go.RowKit

theorem refclean_at (s p : ByteArray) (q : Int) (w : World) (hw : 0 < w.heap.size) (h : cleanS s = (p, q)) :
    Calls Tryd.prog 11 #[.string s] w fun e w' => e = .returned (.tuple #[.string p, .int .i64 q]) ∧ w.grownBy w' none :=
  (refClean_any s w hw).mono fun e w' h2 => by rw [h] at h2; exact h2

set_option maxRecDepth 1000000
set_option maxHeartbeats 4000000 in
theorem cleans_law (m : Int) (s : ByteArray) (w : World) (hm : w.cell? ⟨0, 0, none⟩ = some (.int .i64 m)) :
    Calls Tryd.prog 3 #[.string s] w fun e w' => e = .returned (.bool true) ∧ w.grownBy w' none := by
  have HM := Lib.hid hm
  have HW := Lib.hid (World.block_lt_of_cell? _ _ hm)
  clear hm
  by_cases hl : 500 < s.size
  · have h2 : 500 < (s.size : Int) := by omega
    clear hl
    go_enter Tryd.func3, Tryd.ntmps3
    go_wp2_with fail
    (with_reducible refine (known_any m _ HM.out).mono ?_)
    rintro ee w1 ⟨rfl, g1⟩
    dsimp only
    go_wp2
    go_ret
    exact ⟨rfl, g1⟩
  · have h2 : decide (500 < (s.size : Int)) = false := by simp; omega
    obtain ⟨p, q, hc⟩ : ∃ p q, cleanS s = (p, q) := ⟨_, _, rfl⟩
    have HC := Lib.hid hc
    clear hl hc
    go_enter Tryd.func3, Tryd.ntmps3
    go_wp2_with fail
    (with_reducible refine (known_any m _ HM.out).mono ?_)
    rintro ee w1 ⟨rfl, g1⟩
    dsimp only
    have G1 := Lib.hid g1
    clear g1
    go_wp2_with fail
    (with_reducible refine (clean_at m s p q _ (G1.out.cell HM.out (by simp)) HC.out).mono ?_)
    rintro ee w2 ⟨rfl, g2⟩
    dsimp only
    have G2 := Lib.hid (World.grownBy.trans G1.out g2)
    clear g2
    go_wp2_with fail
    (with_reducible refine (refclean_at s p q _ (Nat.lt_of_lt_of_le HW.out G2.out.size) HC.out).mono ?_)
    rintro ee w3 ⟨rfl, g3⟩
    dsimp only
    have G3 := Lib.hid (World.grownBy.trans G2.out g3)
    clear g3
    go_wp2
    all_goals go_ret
    all_goals exact ⟨by simp, G3.out⟩
end Go.Proofs.YtghfnmnjomdacaaDoor
