/- Whether two lists of lines are alike; a number's text; a script of numbers. -/
import Derived.Test.YtmjdkgbblccpgaaDoorRi
import Derived.Test.YtmjdkgbblccpgaaDoorUx
namespace Go.Proofs.YtmjdkgbblccpgaaDoor
open Go.RowKit

set_option maxRecDepth 1000000
set_option maxHeartbeats 4000000 in
theorem linesH_any (b1 b2 n c1 c2 : Nat) (a1 a2 : Option Addr) (L : List Ln) (w : World) (hn : L.length = n) (h8 : n ≤ 1000000) (h1 : OwnsL w b1 (.slice a1 n c1) L) (h2 : OwnsL w b2 (.slice a2 n c2) L) :
    Calls Tryd.prog 15 #[.slice a1 n c1, .slice a2 n c2] w fun e w' => e = .returned (.bool true) ∧ w.grownBy w' none := by
  have HN := Lib.hid hn
  have H1 := Lib.hid h1
  have H2 := Lib.hid h2
  clear hn h1 h2
  go_enter Tryd.func15, Tryd.ntmps15
  go_wp2
  go_loopw [5] (fun i wr => ∃ k : Nat, k ≤ n ∧ i = .int .i64 k ∧ Hid (w.grownBy wr none)) (fun i _ => n - (intOf i).toNat)
  case atStart => exact ⟨0, Nat.zero_le _, rfl, World.grownBy.refl _ _⟩
  case round =>
    obtain ⟨k, hk, rfl, hG⟩ := hrel
    by_cases hlt : k < n
    · obtain ⟨l, hl⟩ : ∃ l, L[k]? = some l := ⟨_, List.getElem?_eq_getElem (by rw [HN.out]; exact hlt)⟩
      obtain ⟨g1, cap1, e1, _, _, f1⟩ := (H1.out.stays hG.out).cell k l hl
      obtain ⟨g2, cap2, e2, _, _, f2⟩ := (H2.out.stays hG.out).cell k l hl
      have e3 := (Value.slice.inj e1).1
      have e4 := (Value.slice.inj e2).1
      subst e3 e4
      rw [Nat.mul_comm 6 k] at f1 f2
      obtain ⟨⟨q0, qa, qb, qt, qn, qo⟩, rfl⟩ : ∃ m, l = m := ⟨_, rfl⟩
      have x0 := f1 0 (.int .i64 q0) rfl
      have x1 := f1 1 (.string qa) rfl
      have x2 := f1 2 (.string qb) rfl
      have x3 := f1 3 (.string qt) rfl
      have x4 := f1 4 (.int .i64 qn) rfl
      have x5 := f1 5 (.bool qo) rfl
      have y0 := f2 0 (.int .i64 q0) rfl
      have y1 := f2 1 (.string qa) rfl
      have y2 := f2 2 (.string qb) rfl
      have y3 := f2 3 (.string qt) rfl
      have y4 := f2 4 (.int .i64 qn) rfl
      have y5 := f2 5 (.bool qo) rfl
      rw [Nat.add_zero] at x0 y0
      clear hl f1 f2 e1 e2
      go_wp2
      go_region
      all_goals
        go_wp2
        go_roundw
        case rel => exact ⟨k + 1, by omega, by go_num, grown_drew 1 hG.out⟩
        case measure => simp [intOf]; omega
    · obtain rfl : k = n := by omega
      go_wp2
      go_ret
      exact ⟨rfl, hG.out⟩
end Go.Proofs.YtmjdkgbblccpgaaDoor
