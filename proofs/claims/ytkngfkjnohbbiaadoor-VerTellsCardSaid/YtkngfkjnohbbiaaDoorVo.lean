/- Versions held against one another: as package ver does it. -/
import Derived.Test.YtkngfkjnohbbiaaDoorVn
import Derived.Test.YtkngfkjnohbbiaaDoorQt
namespace Go.Proofs.YtkngfkjnohbbiaaDoor
open Go.RowKit

/-- THE DOCUMENT's ORDER OF VERSIONS. -/
def cmpV (u v : Vn) : Int := orL [Lib.compareInt u.maj v.maj, Lib.compareInt u.min v.min, Lib.compareInt u.pat v.pat, cmpMs u.pre v.pre]

theorem four_cells (w : World) (p0 p1 p2 p3 : Int) (t : TypeId) : ∀ (j : Nat) (z : Int), [p0, p1, p2, p3][j]? = some z → (w.alloc (.cells #[.int .i64 p0, .int .i64 p1, .int .i64 p2, .int .i64 p3] t)).cell? ⟨w.heap.size, 0 + j, none⟩ = some (.int .i64 z) := by
  intro j z hj
  have hl := (List.getElem?_eq_some_iff.1 hj).1
  have h0 : j < 4 := by simpa using hl
  rw [Nat.zero_add, alloc_cell]
  match j, h0 with
  | 0, _ => have e : p0 = z := by simpa using hj
            rw [e]; rfl
  | 1, _ => have e : p1 = z := by simpa using hj
            rw [e]; rfl
  | 2, _ => have e : p2 = z := by simpa using hj
            rw [e]; rfl
  | 3, _ => have e : p3 = z := by simpa using hj
            rw [e]; rfl
/-- Two versions, boxed. -/
theorem two_boxes (w : World) (x0 x1 x2 x3 y0 y1 y2 y3 : Value) : ∃ (R : Nat) (W0 : World), w.heap.size = R ∧ (w.alloc (.cells #[x0, x1, x2, x3] 25)).alloc (.cells #[y0, y1, y2, y3] 25) = W0 ∧
    W0.heap[R]? = some (.cells #[x0, x1, x2, x3] 25 (0, 0)) ∧ W0.heap[R + 1]? = some (.cells #[y0, y1, y2, y3] 25 (0, 0)) ∧ w.grownBy W0 none := by
  have ha1 : (w.alloc (.cells #[x0, x1, x2, x3] 25)).heap.size = w.heap.size + 1 := alloc_size _ _
  refine ⟨w.heap.size, _, rfl, rfl, ?_, ?_, grown_alloc _ (World.grownBy_alloc w _ none)⟩
  · exact block_kept (alloc_block w _) (World.grownBy_alloc _ _ _)
  · rw [← ha1]; exact alloc_block _ _

set_option maxRecDepth 1000000
set_option maxHeartbeats 4000000 in
theorem cmp_any (B C : Nat) (u v : Vn) (su sv : Value) (w : World) (hu : VerAt w B u su) (hv : VerAt w C v sv) :
    Calls Tryd.prog 16 #[verV u su, verV v sv] w fun e w' => e = .returned (.int .i64 (cmpV u v)) ∧ w.grownBy w' none := by
  obtain ⟨a, b, c, pu⟩ := u
  obtain ⟨d, f, g, pv⟩ := v
  obtain ⟨ad, cap, hsl, hcap, hno⟩ := hu.part.form
  subst hsl
  obtain ⟨ad2, cap2, hsl, hcap2, hno2⟩ := hv.part.form
  subst hsl
  simp only at hcap hcap2 hno hno2
  obtain ⟨n1, hn1⟩ : ∃ n, pu.length = n := ⟨_, rfl⟩
  obtain ⟨n2, hn2⟩ : ∃ n, pv.length = n := ⟨_, rfl⟩
  have HN1 := Lib.hid hn1
  have HN2 := Lib.hid hn2
  have HU := Lib.hid hu
  have HV := Lib.hid hv
  unfold verV
  simp only
  rw [hn1, hn2]
  rw [hn1] at hcap
  rw [hn2] at hcap2
  clear hu hv hn1 hn2 hno hno2
  obtain ⟨R, W0, hR, hW0, hb1, hb2, hg0⟩ := two_boxes w (.int .i64 a) (.int .i64 b) (.int .i64 c) (.slice ad n1 cap) (.int .i64 d) (.int .i64 f) (.int .i64 g) (.slice ad2 n2 cap2)
  have HG0 := Lib.hid hg0
  have HWA := Lib.hid hW0
  obtain ⟨c0, _⟩ := block_cell hb1 0 _ rfl
  obtain ⟨c1, _⟩ := block_cell hb1 1 _ rfl
  obtain ⟨c2, _⟩ := block_cell hb1 2 _ rfl
  obtain ⟨c3, _⟩ := block_cell hb1 3 _ rfl
  obtain ⟨d0, _⟩ := block_cell hb2 0 _ rfl
  obtain ⟨d1, _⟩ := block_cell hb2 1 _ rfl
  obtain ⟨d2, _⟩ := block_cell hb2 2 _ rfl
  obtain ⟨d3, _⟩ := block_cell hb2 3 _ rfl
  have hcall : ∀ W, W0.grownBy W none → Calls Tryd.prog 36 #[.slice ad n1 cap, .slice ad2 n2 cap2] W fun e w' => e = .returned (.int .i64 (cmpMs pu pv)) ∧ W0.grownBy w' none := by
    intro W hW
    refine (cmpMarks_any B C n1 n2 cap cap2 ad ad2 pu pv W HN1.out HN2.out ?_ ?_ ?_ ?_ ?_ ?_).mono fun e w' h => ⟨h.1, World.grownBy.trans hW h.2⟩
    · have := HU.out.few; have := HN1.out; simp only at *; omega
    · have := HV.out.few; have := HN2.out; simp only at *; omega
    · intro p hp; exact Nat.le_trans (HU.out.short p hp) (by omega)
    · intro p hp; exact Nat.le_trans (HV.out.short p hp) (by omega)
    · rw [← HN1.out]; exact (HU.out.part.stays HG0.out).stays hW
    · rw [← HN2.out]; exact (HV.out.part.stays HG0.out).stays hW
  have hci : ∀ (x y : Int) (W : World), W0.grownBy W none → Calls Tryd.prog 35 #[.int .i64 x, .int .i64 y] W fun e w' => e = .returned (.int .i64 (Lib.compareInt x y)) ∧ W0.grownBy w' none :=
    fun x y W hW => (Tryd.cmp_Compare_int x y W).mono fun e w' h => ⟨h.1, by rw [h.2]; exact hW⟩
  have k0 := hci a d
  have k1 := hci b f
  have k2 := hci c g
  have e : Hid (cmpV ⟨a, b, c, pu⟩ ⟨d, f, g, pv⟩ = orL [Lib.compareInt a d, Lib.compareInt b f, Lib.compareInt c g, cmpMs pu pv]) := rfl
  obtain ⟨p0, h0⟩ : ∃ p, Lib.compareInt a d = p := ⟨_, rfl⟩
  obtain ⟨p1, h1⟩ : ∃ p, Lib.compareInt b f = p := ⟨_, rfl⟩
  obtain ⟨p2, h2⟩ : ∃ p, Lib.compareInt c g = p := ⟨_, rfl⟩
  obtain ⟨p3, h3⟩ : ∃ p, cmpMs pu pv = p := ⟨_, rfl⟩
  rw [h0, h1, h2, h3] at e
  rw [h0] at k0
  rw [h1] at k1
  rw [h2] at k2
  rw [h3] at hcall
  clear h0 h1 h2 h3 hci hb1 hb2 hg0 hW0
  go_enter Tryd.func16, Tryd.ntmps16
  go_wp2
  rw [HWA.out]
  have hC0 : W0.grownBy { W0 with drawn := W0.drawn + 1 } none := ⟨rfl, rfl, rfl, Nat.le_refl _, fun _ _ _ => rfl⟩
  refine region_quiet_tail 20 (C := fun w' => W0.grownBy w' none) (by kernel_rfl) (by kernel_rfl) hC0 ?_
  simp only [List.take_succ_cons, List.take_zero, List.drop_succ_cons, List.drop_zero]
  refine wpQuiet_step (fun K hK => ?_)
  go_simp
  refine ⟨_, fun W hW => rfl, hK _ ?_⟩
  clear hK K
  refine wpQuiet_step (fun K hK => ?_)
  go_simp
  refine ⟨.int .i64 a, fun W hW => ?_, hK _ ?_⟩
  · rw [hW.cell c0 (by simp)]; exact ⟨rfl, rfl⟩
  clear hK K
  refine wpQuiet_step (fun K hK => ?_)
  go_simp
  refine ⟨_, fun W hW => rfl, hK _ ?_⟩
  clear hK K
  refine wpQuiet_step (fun K hK => ?_)
  go_simp
  refine ⟨.int .i64 d, fun W hW => ?_, hK _ ?_⟩
  · rw [hW.cell d0 (by simp)]; exact ⟨rfl, rfl⟩
  clear hK K
  refine wpQuiet_step (fun K hK => ?_)
  go_simp
  refine ⟨.int .i64 p0, fun W hW => k0 W hW, hK _ ?_⟩
  clear hK K
  refine wpQuiet_step (fun K hK => ?_)
  go_simp
  refine ⟨_, fun W hW => rfl, hK _ ?_⟩
  clear hK K
  refine wpQuiet_step (fun K hK => ?_)
  go_simp
  refine ⟨.int .i64 b, fun W hW => ?_, hK _ ?_⟩
  · rw [hW.cell c1 (by simp)]; exact ⟨rfl, rfl⟩
  clear hK K
  refine wpQuiet_step (fun K hK => ?_)
  go_simp
  refine ⟨_, fun W hW => rfl, hK _ ?_⟩
  clear hK K
  refine wpQuiet_step (fun K hK => ?_)
  go_simp
  refine ⟨.int .i64 f, fun W hW => ?_, hK _ ?_⟩
  · rw [hW.cell d1 (by simp)]; exact ⟨rfl, rfl⟩
  clear hK K
  refine wpQuiet_step (fun K hK => ?_)
  go_simp
  refine ⟨.int .i64 p1, fun W hW => k1 W hW, hK _ ?_⟩
  clear hK K
  refine wpQuiet_step (fun K hK => ?_)
  go_simp
  refine ⟨_, fun W hW => rfl, hK _ ?_⟩
  clear hK K
  refine wpQuiet_step (fun K hK => ?_)
  go_simp
  refine ⟨.int .i64 c, fun W hW => ?_, hK _ ?_⟩
  · rw [hW.cell c2 (by simp)]; exact ⟨rfl, rfl⟩
  clear hK K
  refine wpQuiet_step (fun K hK => ?_)
  go_simp
  refine ⟨_, fun W hW => rfl, hK _ ?_⟩
  clear hK K
  refine wpQuiet_step (fun K hK => ?_)
  go_simp
  refine ⟨.int .i64 g, fun W hW => ?_, hK _ ?_⟩
  · rw [hW.cell d2 (by simp)]; exact ⟨rfl, rfl⟩
  clear hK K
  refine wpQuiet_step (fun K hK => ?_)
  go_simp
  refine ⟨.int .i64 p2, fun W hW => k2 W hW, hK _ ?_⟩
  clear hK K
  refine wpQuiet_step (fun K hK => ?_)
  go_simp
  refine ⟨_, fun W hW => rfl, hK _ ?_⟩
  clear hK K
  refine wpQuiet_step (fun K hK => ?_)
  go_simp
  refine ⟨.slice ad n1 cap, fun W hW => ?_, hK _ ?_⟩
  · rw [hW.cell c3 (by simp)]; exact ⟨rfl, rfl⟩
  clear hK K
  refine wpQuiet_step (fun K hK => ?_)
  go_simp
  refine ⟨_, fun W hW => rfl, hK _ ?_⟩
  clear hK K
  refine wpQuiet_step (fun K hK => ?_)
  go_simp
  refine ⟨.slice ad2 n2 cap2, fun W hW => ?_, hK _ ?_⟩
  · rw [hW.cell d3 (by simp)]; exact ⟨rfl, rfl⟩
  clear hK K
  refine wpQuiet_step (fun K hK => ?_)
  go_simp
  refine ⟨.int .i64 p3, fun W hW => hcall W hW, hK _ ?_⟩
  clear hK K
  refine wpQuiet_nil ?_
  intro W hW
  have HWW := Lib.hid hW
  have hcells := Lib.hid (four_cells W p0 p1 p2 p3 3)
  clear hW hcall k0 k1 k2 hC0 c0 c1 c2 c3 d0 d1 d2 d3
  go_wp2_with fail
  (with_reducible refine (or_any W.heap.size 0 4 4 [p0, p1, p2, p3] rfl (by omega) _ hcells.out).mono ?_)
  rintro ee w' ⟨rfl, hw'⟩
  rw [hw']
  clear hw' w'
  dsimp only
  go_wp2
  go_ret
  exact ⟨by rw [e.out]; rfl, grown_alloc _ (World.grownBy.trans HG0.out HWW.out)⟩
end Go.Proofs.YtkngfkjnohbbiaaDoor
