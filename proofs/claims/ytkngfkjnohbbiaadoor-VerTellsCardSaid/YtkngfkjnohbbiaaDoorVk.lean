/- Whether two versions are alike; small helps. -/
import Derived.Test.YtkngfkjnohbbiaaDoorVj
import Derived.WalkLawsBesides
namespace Go.Proofs.YtkngfkjnohbbiaaDoor
open Go.RowKit

set_option maxRecDepth 1000000
set_option maxHeartbeats 2000000 in
theorem version_any (B C : Nat) (u v : Vn) (su sv : Value) (w : World) (hu : u.pre.length ≤ 8000000) (hv : v.pre.length ≤ 8000000) (h1 : PartS w B su u.pre) (h2 : PartS w C sv v.pre) :
    Calls Tryd.prog 12 #[verV u su, verV v sv] w fun e w' => e = .returned (.bool (decide (u = v))) ∧ w.grownBy w' none := by
  obtain ⟨a, b, c, pu⟩ := u
  obtain ⟨d, f, g, pv⟩ := v
  obtain ⟨ad, cap, hsl, hcap, hno⟩ := h1.form
  subst hsl
  obtain ⟨ad2, cap2, hsl, hcap2, hno2⟩ := h2.form
  subst hsl
  simp only at hu hv h1 h2
  obtain ⟨n1, hn1⟩ : ∃ n, pu.length = n := ⟨_, rfl⟩
  obtain ⟨n2, hn2⟩ : ∃ n, pv.length = n := ⟨_, rfl⟩
  have HN1 := Lib.hid hn1
  have HN2 := Lib.hid hn2
  have H1 := Lib.hid h1
  have H2 := Lib.hid h2
  unfold verV
  simp only
  rw [hn1, hn2]
  rw [hn1] at hu
  rw [hn2] at hv
  obtain ⟨W0, hW0⟩ : ∃ W0, (w.alloc (.cells #[.int .i64 a, .int .i64 b, .int .i64 c, .slice ad n1 cap] 25)).alloc (.cells #[.int .i64 d, .int .i64 f, .int .i64 g, .slice ad2 n2 cap2] 25) = W0 := ⟨_, rfl⟩
  obtain ⟨R, hR⟩ : ∃ R, w.heap.size = R := ⟨_, rfl⟩
  have ha1 : (w.alloc (.cells #[.int .i64 a, .int .i64 b, .int .i64 c, .slice ad n1 cap] 25)).heap.size = R + 1 := by rw [alloc_size, hR]
  have hb1 : W0.heap[R]? = some (.cells #[.int .i64 a, .int .i64 b, .int .i64 c, .slice ad n1 cap] 25 (0, 0)) := by
    rw [← hW0]
    refine block_kept ?_ (World.grownBy_alloc _ _ _)
    rw [← hR]; exact alloc_block w _
  have hb2 : W0.heap[R + 1]? = some (.cells #[.int .i64 d, .int .i64 f, .int .i64 g, .slice ad2 n2 cap2] 25 (0, 0)) := by
    rw [← hW0, ← ha1]; exact alloc_block _ _
  have HG0 := Lib.hid (show w.grownBy W0 none by rw [← hW0]; exact grown_alloc _ (World.grownBy_alloc w _ none))
  have HWA := Lib.hid hW0
  have HB1 := Lib.hid hb1
  have HB2 := Lib.hid hb2
  obtain ⟨c0, _⟩ := block_cell HB1.out 0 _ rfl
  obtain ⟨c1, _⟩ := block_cell HB1.out 1 _ rfl
  obtain ⟨c2, _⟩ := block_cell HB1.out 2 _ rfl
  obtain ⟨c3, _⟩ := block_cell HB1.out 3 _ rfl
  obtain ⟨d0, _⟩ := block_cell HB2.out 0 _ rfl
  obtain ⟨d1, _⟩ := block_cell HB2.out 1 _ rfl
  obtain ⟨d2, _⟩ := block_cell HB2.out 2 _ rfl
  obtain ⟨d3, _⟩ := block_cell HB2.out 3 _ rfl
  clear hn1 hn2 h1 h2 hW0 ha1 hb1 hb2
  have no : ∀ x y : Int, ¬ x = y → (x == y) = false := fun x y h => by simp [h]
  by_cases e1 : a = d
  · subst e1
    by_cases e2 : b = f
    · subst e2
      by_cases e3 : c = g
      · subst e3
        have e : Hid (decide ((⟨a, b, c, pu⟩ : Vn) = ⟨a, b, c, pv⟩) = decide (pu = pv)) := by show _ = _; simp
        clear no
        go_enter Tryd.func12, Tryd.ntmps12
        go_wp2_with fail
        rw [HWA.out]
        (with_reducible refine (strings_any B C n1 n2 cap cap2 ad ad2 pu pv _ HN1.out HN2.out hu hv (by rw [← HN1.out]; exact H1.out.stays HG0.out) (by rw [← HN2.out]; exact H2.out.stays HG0.out)).mono ?_)
        rintro ee w1 ⟨rfl, hg⟩
        dsimp only
        have HG := Lib.hid (World.grownBy.trans HG0.out hg)
        clear hg
        go_wp2
        go_ret
        exact ⟨by rw [e.out]; rfl, HG.out⟩
      · have e : Hid (decide ((⟨a, b, c, pu⟩ : Vn) = ⟨a, b, g, pv⟩) = false) := by show _ = _; simp [e3]
        have n3 := no _ _ e3
        clear no
        go_enter Tryd.func12, Tryd.ntmps12
        go_wp2
        rw [HWA.out]
        go_wp2
        go_ret
        exact ⟨by first | rfl | (rw [e.out]; rfl), HG0.out⟩
    · have e : Hid (decide ((⟨a, b, c, pu⟩ : Vn) = ⟨a, f, g, pv⟩) = false) := by show _ = _; simp [e2]
      have n3 := no _ _ e2
      clear no
      go_enter Tryd.func12, Tryd.ntmps12
      go_wp2
      rw [HWA.out]
      go_wp2
      go_ret
      exact ⟨by first | rfl | (rw [e.out]; rfl), HG0.out⟩
  · have e : Hid (decide ((⟨a, b, c, pu⟩ : Vn) = ⟨d, f, g, pv⟩) = false) := by show _ = _; simp [e1]
    have n3 := no _ _ e1
    clear no
    go_enter Tryd.func12, Tryd.ntmps12
    go_wp2
    rw [HWA.out]
    go_wp2
    go_ret
    exact ⟨by first | rfl | (rw [e.out]; rfl), HG0.out⟩
end Go.Proofs.YtkngfkjnohbbiaaDoor
