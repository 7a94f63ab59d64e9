/- What a fetch asks for next: fetch's Ask. -/
import Derived.Test.YtfpehdldgnfciaaGreatDoorFd
namespace Go.Proofs.YtfpehdldgnfciaaGreatDoor
open Go.RowKit

set_option maxRecDepth 1000000
set_option maxHeartbeats 4000000 in
theorem version_any (w : World) : Calls Tryz.prog 18 #[.agg #[.int .i64 1, .int .i64 0, .int .i64 0, .slice none 0 0]] w fun e w' => e = .returned (.agg #[.int .i64 1, .int .i64 0, .int .i64 0, .slice none 0 0]) ∧ w.grownBy w' none := by
  go_enter Tryz.func18, Tryz.ntmps18
  go_wp2_with ((with_reducible refine (cloneS_none _).mono ?_); rintro ee w1 ⟨rfl, rfl⟩; dsimp only)
  exact bodyPost_ret (v := .agg #[.int .i64 1, .int .i64 0, .int .i64 0, .slice none 0 0]) (by simp [results, Tryz.results18, go_sem]) rfl ⟨rfl, grown_alloc _ (World.grownBy_alloc _ _ _)⟩
set_option maxHeartbeats 4000000 in
theorem ask_over (F : Nat) (K : Array Value) (n : Int) (bv : Value) (fa sp : Int) (fl : Bool) (w : World) (h : Fet w F K n bv fa sp true fl) :
    Calls Tryz.prog 8 #[.pointer (some ⟨F, 0, none⟩)] w fun e w' => e = .returned (.tuple #[.agg #[.string ⟨#[]⟩, .int .i64 0, .int .i64 0, .int .i64 0, .slice none 0 0, .int .i64 0, .int .i64 0], .bool false]) ∧ w.grownBy w' none := by
  have hov : Hid (∀ W : World, w.grownBy W none → Calls Tryz.prog 17 #[.pointer (some ⟨F, 0, none⟩)] W fun e w' => e = .returned (.bool true) ∧ w' = W) := fun W hg => over_any F K n bv fa sp true fl W (h.stays hg)
  clear h
  go_enter Tryz.func8, Tryz.ntmps8
  go_wp2_with ((with_reducible refine (hov.out _ (World.grownBy_alloc _ _ _)).mono ?_); rintro ee w1 ⟨rfl, rfl⟩; dsimp only)
  exact bodyPost_ret (v := .tuple #[.agg #[.string ⟨#[]⟩, .int .i64 0, .int .i64 0, .int .i64 0, .slice none 0 0, .int .i64 0, .int .i64 0], .bool false]) (by simp [results, Tryz.results8, go_sem]) rfl ⟨rfl, World.grownBy_alloc _ _ _⟩
theorem seven_grown {w0 w : World} {b : Nat} (h : w0.grownBy w none) (hb : w0.heap.size ≤ b) (x0 x1 x2 x3 x4 x5 x6 : Value) :
    w0.grownBy (((((((w.setCell ⟨b, 0, none⟩ x0).setCell ⟨b, 1, none⟩ x1).setCell ⟨b, 2, none⟩ x2).setCell ⟨b, 3, none⟩ x3).setCell ⟨b, 4, none⟩ x4).setCell ⟨b, 5, none⟩ x5).setCell ⟨b, 6, none⟩ x6) none :=
  bk_grown_set (bk_grown_set (bk_grown_set (bk_grown_set (bk_grown_set (bk_grown_set (bk_grown_set h hb _ _) hb _ _) hb _ _) hb _ _) hb _ _) hb _ _) hb _ _
theorem seven_lay {w : World} {b : Nat} {x0 x1 x2 x3 x4 x5 x6 : Value} {t : TypeId} (h : w.heap[b]? = some (.cells #[x0, x1, x2, x3, x4, x5, x6] t (0, 0))) (v0 v1 v2 v3 v4 v5 v6 : Value) :
    (((((((w.setCell ⟨b, 0, none⟩ v0).setCell ⟨b, 1, none⟩ v1).setCell ⟨b, 2, none⟩ v2).setCell ⟨b, 3, none⟩ v3).setCell ⟨b, 4, none⟩ v4).setCell ⟨b, 5, none⟩ v5).setCell ⟨b, 6, none⟩ v6).heap[b]? = some (.cells #[v0, v1, v2, v3, v4, v5, v6] t (0, 0)) := by
  have e0 : (w.setCell ⟨b, 0, none⟩ v0).heap[b]? = some (.cells #[v0, x1, x2, x3, x4, x5, x6] t (0, 0)) := bk_set h 0 v0
  have e1 : ((w.setCell ⟨b, 0, none⟩ v0).setCell ⟨b, 1, none⟩ v1).heap[b]? = some (.cells #[v0, v1, x2, x3, x4, x5, x6] t (0, 0)) := bk_set e0 1 v1
  have e2 : (((w.setCell ⟨b, 0, none⟩ v0).setCell ⟨b, 1, none⟩ v1).setCell ⟨b, 2, none⟩ v2).heap[b]? = some (.cells #[v0, v1, v2, x3, x4, x5, x6] t (0, 0)) := bk_set e1 2 v2
  have e3 : ((((w.setCell ⟨b, 0, none⟩ v0).setCell ⟨b, 1, none⟩ v1).setCell ⟨b, 2, none⟩ v2).setCell ⟨b, 3, none⟩ v3).heap[b]? = some (.cells #[v0, v1, v2, v3, x4, x5, x6] t (0, 0)) := bk_set e2 3 v3
  have e4 : (((((w.setCell ⟨b, 0, none⟩ v0).setCell ⟨b, 1, none⟩ v1).setCell ⟨b, 2, none⟩ v2).setCell ⟨b, 3, none⟩ v3).setCell ⟨b, 4, none⟩ v4).heap[b]? = some (.cells #[v0, v1, v2, v3, v4, x5, x6] t (0, 0)) := bk_set e3 4 v4
  have e5 : ((((((w.setCell ⟨b, 0, none⟩ v0).setCell ⟨b, 1, none⟩ v1).setCell ⟨b, 2, none⟩ v2).setCell ⟨b, 3, none⟩ v3).setCell ⟨b, 4, none⟩ v4).setCell ⟨b, 5, none⟩ v5).heap[b]? = some (.cells #[v0, v1, v2, v3, v4, v5, x6] t (0, 0)) := bk_set e4 5 v5
  have e6 : (((((((w.setCell ⟨b, 0, none⟩ v0).setCell ⟨b, 1, none⟩ v1).setCell ⟨b, 2, none⟩ v2).setCell ⟨b, 3, none⟩ v3).setCell ⟨b, 4, none⟩ v4).setCell ⟨b, 5, none⟩ v5).setCell ⟨b, 6, none⟩ v6).heap[b]? = some (.cells #[v0, v1, v2, v3, v4, v5, v6] t (0, 0)) := bk_set e5 6 v6
  exact e6
theorem seven {w : World} {b : Nat} {x0 x1 x2 x3 x4 x5 x6 : Value} {t : TypeId} (h : w.heap[b]? = some (.cells #[x0, x1, x2, x3, x4, x5, x6] t (0, 0))) :
    (w.cell? ⟨b, 0, none⟩ = some x0 ∧ w.cell? ⟨b, 1, none⟩ = some x1 ∧ w.cell? ⟨b, 2, none⟩ = some x2 ∧ w.cell? ⟨b, 3, none⟩ = some x3 ∧ w.cell? ⟨b, 4, none⟩ = some x4 ∧ w.cell? ⟨b, 5, none⟩ = some x5 ∧ w.cell? ⟨b, 6, none⟩ = some x6) ∧
    w.frozen? ⟨b, 0, none⟩ = false ∧ w.frozen? ⟨b, 1, none⟩ = false ∧ w.frozen? ⟨b, 2, none⟩ = false ∧ w.frozen? ⟨b, 3, none⟩ = false ∧ w.frozen? ⟨b, 4, none⟩ = false ∧ w.frozen? ⟨b, 5, none⟩ = false ∧ w.frozen? ⟨b, 6, none⟩ = false := by
  have e := fun j v hj => bk_cell h j v hj
  exact ⟨⟨(e 0 _ rfl).1, (e 1 _ rfl).1, (e 2 _ rfl).1, (e 3 _ rfl).1, (e 4 _ rfl).1, (e 5 _ rfl).1, (e 6 _ rfl).1⟩, (e 0 _ rfl).2, (e 1 _ rfl).2, (e 2 _ rfl).2, (e 3 _ rfl).2, (e 4 _ rfl).2, (e 5 _ rfl).2, (e 6 _ rfl).2⟩
set_option maxHeartbeats 8000000 in
theorem ask_any (F n m c q : Nat) (K : Array Value) (a : Option Addr) (fa sp : Int) (w : World) (h : Fet w F K n (.slice a m c) fa sp false false) (hm : m ≤ n) (hn : n ≤ 900000) (hq : min 64 (n - m) = q) :
    Calls Tryz.prog 8 #[.pointer (some ⟨F, 0, none⟩)] w fun e w' => e = .returned (.tuple #[.agg #[.string ⟨#[97]⟩, .int .i64 1, .int .i64 0, .int .i64 0, .slice none 0 0, .int .i64 m, .int .i64 q], .bool true]) ∧ w.grownBy w' none := by
  have hov : Hid (∀ W : World, w.grownBy W none → Calls Tryz.prog 17 #[.pointer (some ⟨F, 0, none⟩)] W fun e w' => e = .returned (.bool false) ∧ w' = W) := fun W hg => over_any F K n (.slice a m c) fa sp false false W (h.stays hg)
  have hF := h.size
  have HS : Hid (∀ W : World, w.grownBy W none → (W.cell? ⟨F, 0, none⟩ = some (.string ⟨#[97]⟩) ∧ W.cell? ⟨F, 1, none⟩ = some (.int .i64 1) ∧ W.cell? ⟨F, 2, none⟩ = some (.int .i64 0) ∧ W.cell? ⟨F, 3, none⟩ = some (.int .i64 0) ∧ W.cell? ⟨F, 4, none⟩ = some (.slice none 0 0) ∧ W.cell? ⟨F, 39, none⟩ = some (.slice a m c))) := fun W hW => by
    obtain ⟨n0, n1, n2, n3, n4⟩ := (h.stays hW).name
    exact ⟨n0, n1, n2, n3, n4, (h.stays hW).cells.2.1⟩
  have HH := Lib.hid h
  have HQ := Lib.hid hq
  clear h hq
  go_enter Tryz.func8, Tryz.ntmps8
  go_wp2_with ((with_reducible refine (hov.out _ (World.grownBy_alloc _ _ _)).mono ?_); rintro ee w1 ⟨rfl, rfl⟩; dsimp only)
  obtain ⟨W0, hW0⟩ : ∃ W0, w.alloc (.cells #[.string ⟨#[]⟩, .int .i64 0, .int .i64 0, .int .i64 0, .slice none 0 0, .int .i64 0, .int .i64 0] 38) = W0 := ⟨_, rfl⟩
  have G0 : Hid (w.grownBy W0.drew none) := by show World.grownBy _ _ _; rw [← hW0]; exact grown_drew 1 (World.grownBy_alloc _ _ _)
  have hb0 : W0.drew.heap[w.heap.size]? = some (.cells #[.string ⟨#[]⟩, .int .i64 0, .int .i64 0, .int .i64 0, .slice none 0 0, .int .i64 0, .int .i64 0] 38 (0, 0)) := by rw [← hW0]; exact bk_alloc _ _
  rw [hW0]
  have GX := Lib.hid (grown_drew 1 (World.grownBy.refl W0 none))
  have HB0 := Lib.hid hb0
  clear hW0 hb0
  have HW : Hid (∀ W : World, W0.drew.grownBy W none → Calls Tryz.prog 19 #[.pointer (some ⟨F, 0, none⟩)] W fun e w' => e = .returned (.int .i64 (q : Int)) ∧ W0.drew.grownBy w' none) := fun W hW =>
    (wanted_any F n m c q _ a fa sp false false W (HH.out.stays (World.grownBy.trans G0.out hW)) (by omega) (by omega) HQ.out).mono fun e w' ⟨h1, d, h2⟩ => ⟨h1, by rw [h2]; exact grown_drew d hW⟩
  have HV : Hid (∀ W : World, W0.drew.grownBy W none → Calls Tryz.prog 18 #[.agg #[.int .i64 1, .int .i64 0, .int .i64 0, .slice none 0 0]] W fun e w' => e = .returned (.agg #[.int .i64 1, .int .i64 0, .int .i64 0, .slice none 0 0]) ∧ W0.drew.grownBy w' none) := fun W hW =>
    (version_any W).mono fun e w' h => ⟨h.1, World.grownBy.trans hW h.2⟩
  have nFR : ¬ F = w.heap.size := by omega
  have nRF : ¬ w.heap.size = F := by omega
  go_region_held3 (fun W => W.cell? ⟨F, 0, none⟩ = some (.string ⟨#[97]⟩) ∧ W.cell? ⟨F, 1, none⟩ = some (.int .i64 1) ∧ W.cell? ⟨F, 2, none⟩ = some (.int .i64 0) ∧ W.cell? ⟨F, 3, none⟩ = some (.int .i64 0) ∧ W.cell? ⟨F, 4, none⟩ = some (.slice none 0 0) ∧ W.cell? ⟨F, 39, none⟩ = some (.slice a m c)) (first | (with_reducible exact HS.out _ G0.out) | (with_reducible exact HS.out _ (World.grownBy.trans G0.out hg6)) | (with_reducible exact HS.out _ (World.grownBy.trans G0.out hg5)) | (with_reducible exact HS.out _ (seven_grown (World.grownBy.trans G0.out hg6) (Nat.le_refl _) _ _ _ _ _ _ _)))
    (first | (go_at_call 18; refine (HV.out _ (World.grownBy.refl _ _)).mono ?_; rintro ee w5 ⟨rfl, hg5⟩) | (go_at_call 19; refine (HW.out _ hg5).mono ?_; rintro ee w6 ⟨rfl, hg6⟩; obtain ⟨⟨p0, p1, p2, p3, p4, p5, p6⟩, r0, r1, r2, r3, r4, r5, r6⟩ := seven (bk_kept HB0.out hg6)))
  go_wp2_with fail
  generalize hwx : World.setCell (World.setCell (World.setCell (World.setCell (World.setCell (World.setCell (World.setCell w6 ⟨_, 0, none⟩ _) ⟨_, 1, none⟩ _) ⟨_, 2, none⟩ _) ⟨_, 3, none⟩ _) ⟨_, 4, none⟩ _) ⟨_, 5, none⟩ _) ⟨_, 6, none⟩ _ = wx
  have gx : w.grownBy wx none := by rw [← hwx]; exact seven_grown (World.grownBy.trans G0.out hg6) (Nat.le_refl _) _ _ _ _ _ _ _
  have bx := seven_lay (bk_kept HB0.out hg6) (.string ⟨#[97]⟩) (.int .i64 1) (.int .i64 0) (.int .i64 0) (.slice none 0 0) (.int .i64 m) (.int .i64 q)
  rw [hwx] at bx
  obtain ⟨⟨x0, x1, x2, x3, x4, x5, x6⟩, _⟩ := seven bx
  clear bx hwx p0 p1 p2 p3 p4 p5 p6 r0 r1 r2 r3 r4 r5 r6
  exact bodyPost_ret (v := .tuple #[.agg #[.string ⟨#[97]⟩, .int .i64 1, .int .i64 0, .int .i64 0, .slice none 0 0, .int .i64 m, .int .i64 q], .bool true]) (by simp [results, Tryz.results8, go_sem, x0, x1, x2, x3, x4, x5, x6]) rfl ⟨rfl, gx⟩
end Go.Proofs.YtfpehdldgnfciaaGreatDoor
