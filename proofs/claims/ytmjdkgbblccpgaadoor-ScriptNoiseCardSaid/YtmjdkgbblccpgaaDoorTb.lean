/- A line of words, as package script tells it: kinds. -/
import Derived.Test.YtmjdkgbblccpgaaDoorSj
import Derived.Deep.RegionHeld3
namespace Go.Proofs.YtmjdkgbblccpgaaDoor
open Go.RowKit

set_option maxRecDepth 1000000
set_option maxHeartbeats 8000000 in
theorem line_k3 (m : Int) (x : ByteArray) (W : List ByteArray) (n cp B : Nat) (a : Option Addr) (w : World) (hm : Wok m w) (hn : W.length = n) (hn8 : n + 1 ≤ 8000000) (hB : B ≤ w.heap.size) (hP : PartS w B (.slice a (n + 1) cp) (x :: W)) (hk : kindS x = 3) (hsz : (headS W).size ≤ 1000000) :
    Calls Tryd.prog 23 #[.slice a (n + 1) cp] w (LineTo (x :: W) w) := by
  show Calls _ _ _ _ (LineR (lineOf (x :: W)) w)
  obtain ⟨r, hr⟩ : ∃ r, lineOf (x :: W) = r := ⟨_, rfl⟩
  have HLO : Hid (lineK (3) W = r) := by show lineK (3) W = r; rw [← hr]; show _ = lineK (kindS x) W; rw [hk]
  rw [hr]
  clear hr
  have HM := Lib.hid hm
  have HP := Lib.hid hP
  have HN := Lib.hid hn
  have HB := Lib.hid hB
  have HSZ := Lib.hid hsz
  have HN8 : Hid (n ≤ 8000000) := by show _ ≤ _; omega
  obtain ⟨b0, o0, rfl, hb0, q1⟩ := hP.at 0 x rfl
  rw [Nat.add_zero] at q1
  obtain ⟨_, _, e3, hcap, _⟩ := hP.form
  have ec := (Value.slice.inj e3).2.2
  simp only [List.length_cons] at hcap
  rw [← ec, hn] at hcap
  clear e3 ec hm hP hn hB hsz
  have HK := Lib.hid hk
  clear hk
  have g0 := World.grownBy_alloc w (.cells #[.int .i64 0, .string ⟨#[]⟩, .string ⟨#[]⟩, .string ⟨#[]⟩, .int .i64 0, .bool false] 41) none
  have q2 := g0.cell q1 (by simp)
  have HR := Lib.hid (alloc_block w (.cells #[.int .i64 0, .string ⟨#[]⟩, .string ⟨#[]⟩, .string ⟨#[]⟩, .int .i64 0, .bool false] 41))
  have HG0 := Lib.hid g0
  clear g0
  go_enter Tryd.func23, Tryd.ntmps23
  go_wp2_with fail
  (with_reducible refine (kindOf_any m x _ (HM.out.stays HG0.out)).mono ?_)
  rintro ee w1 ⟨rfl, hg⟩
  rw [HK.out]
  dsimp only
  have q3 := hg.cell q2 (by simp)
  have HG1 := Lib.hid (World.grownBy.trans HG0.out hg)
  have HR1 := Lib.hid (block_kept HR.out hg)
  have HP1 := Lib.hid (HP.out.stays HG1.out)
  clear hg q1 q2
  by_cases hc : cp = 1
  · have ht := HP1.out.tail1N HN.out hc
    obtain ⟨hW, hPt⟩ := ht
    have hn0 : n = 0 := by have := HN.out; rw [hW] at this; exact this.symm
    subst hn0 hc hW
    have hS := LSt.start (k := (3)) (bd := false) HG1.out HR1.out HB.out hPt rfl (by omega)
    simp only [lnC, E0] at hS
    have hS : LSt w _ w.heap.size w1.heap.size (w1.heap.size + 1) B [] false ⟨(3), E0, E0, E0, 0, false⟩ := hS
    obtain ⟨W0, hW0⟩ : ∃ W0 : List ByteArray, [] = W0 := ⟨_, rfl⟩
    rw [hW0] at hS
    rw [hW0] at HLO HSZ
    have HS := Lib.hid hS
    clear hS hPt HP1 HP hW0
    go_wp2_with fail
    obtain ⟨wz, hwz⟩ : ∃ wz, (w1.alloc (.cells #[.int .i64 (3), .string ⟨#[]⟩, .string ⟨#[]⟩, .string ⟨#[]⟩, .int .i64 0, .bool false] 41)).alloc (.cells #[.slice (some ⟨b0, o0, none⟩) 0 0, .bool false] 83) = wz := ⟨_, rfl⟩
    rw [hwz] at HS ⊢
    clear hwz
    obtain ⟨R, hRR⟩ : ∃ R, w.heap.size = R := ⟨_, rfl⟩
    obtain ⟨L, hLL⟩ : ∃ L, w1.heap.size = L := ⟨_, rfl⟩
    obtain ⟨b, hbb⟩ : ∃ b, L + 1 = b := ⟨_, rfl⟩
    rw [hLL, hRR, hbb] at HS
    rw [hLL, hRR, hbb]
    clear hRR hLL hbb
    (with_reducible refine (plain_any _ _ _ _ _ HS.out.rd).mono ?_)
    rintro ee wK h
    obtain ⟨rfl, h1, hg⟩ := h
    dsimp only
    have HQ := Lib.hid (HS.out.call h1 hg)
    clear h1 hg HS
    have HS := HQ
    clear HQ
    have fa := (lnC_block HS.out.ln).2
    obtain ⟨z0, z1, z2, z3, z4, z5⟩ := fa
    have fb := (lnC_block HS.out.ln).1
    obtain ⟨y0, y1, y2, y3, y4, y5⟩ := fb
    go_wp2_with fail
    clear z0 z1 z2 z3 z4 z5 y0 y1 y2 y3 y4 y5
    have HT := Lib.hid (HS.out.store 1 (.string (headS W0)) (l' := ⟨3, headS W0, E0, E0, 0, false⟩) rfl)
    clear HS
    have HS := HT
    clear HT
    generalize hwz : World.setCell wK ⟨L, 1, none⟩ _ = wz at HS ⊢
    clear hwz
    obtain ⟨bb, hbb⟩ : ∃ bb, ((false || List.isEmpty W0 || isQ (headS W0))) = bb := ⟨_, rfl⟩
    have HF : Hid (Fin (3) W0 bb (W0.tail) ⟨3, headS W0, E0, E0, 0, false⟩) := by
      show Fin _ _ _ _ _
      rw [← hbb]
      exact fin_one 3 (by simp) W0
    rw [hbb] at HS
    clear hbb
    cases bb with
    | true =>
      have f9 := lnC_block HS.out.ln
      obtain ⟨⟨y0, y1, y2, y3, y4, y5⟩, ⟨z0, z1, z2, z3, z4, z5⟩⟩ := f9
      have f8 := lnC_block HS.out.rs
      obtain ⟨⟨r0, r1, r2, r3, r4, r5⟩, ⟨t0, t1, t2, t3, t4, t5⟩⟩ := f8
      obtain ⟨a7, cp7, c00, c01, c10, c11, hp7, hl7, hb7⟩ := HS.out.rd.cells
      simp only [E0] at y0 y1 y2 y3 y4 y5 r0 r1 r2 r3 r4 r5
      have n1 : ¬ R = L := by have := HS.out.RL; omega
      have n2 : ¬ L = R := by have := HS.out.RL; omega
      have n3 : ¬ R = b := by have := HS.out.RL; have := HS.out.Lb; omega
      have n4 : ¬ b = R := by have := HS.out.RL; have := HS.out.Lb; omega
      have n5 : ¬ b = L := by have := HS.out.Lb; omega
      have n6 : ¬ L = b := by have := HS.out.Lb; omega
      clear hp7
      go_region
      go_wp2_with fail
      generalize hwx : World.setCell (World.setCell (World.setCell (World.setCell (World.setCell (World.setCell wz ⟨_, 0, none⟩ _) ⟨_, 1, none⟩ _) ⟨_, 2, none⟩ _) ⟨_, 3, none⟩ _) ⟨_, 4, none⟩ _) ⟨_, 5, none⟩ _ = wx
      have hlay := HS.out.lay ⟨3, headS W0, E0, E0, 0, false⟩ hwx
      obtain ⟨gx, bx⟩ := hlay
      have cx := (lnC_block bx).1
      obtain ⟨x0, x1, x2, x3, x4, x5⟩ := cx
      simp only [E0] at x0 x1 x2 x3 x4 x5
      refine bodyPost_ret (v := .tuple #[lnV ⟨3, headS W0, E0, E0, 0, false⟩, .bool false]) (by simp [results, Tryd.results23, go_sem, lnV, E0, x0, x1, x2, x3, x4, x5]) rfl ?_
      exact line_end (V := W0.tail) (bad := true) HLO.out HF.out.1 HF.out.2 (grown_drew 1 gx) _ (by simp [goodB])
    | false =>
      have f9 := lnC_block HS.out.ln
      obtain ⟨⟨y0, y1, y2, y3, y4, y5⟩, ⟨z0, z1, z2, z3, z4, z5⟩⟩ := f9
      have f8 := lnC_block HS.out.rs
      obtain ⟨⟨r0, r1, r2, r3, r4, r5⟩, ⟨t0, t1, t2, t3, t4, t5⟩⟩ := f8
      obtain ⟨a7, cp7, c00, c01, c10, c11, hp7, hl7, hb7⟩ := HS.out.rd.cells
      simp only [E0] at y0 y1 y2 y3 y4 y5 r0 r1 r2 r3 r4 r5
      have n1 : ¬ R = L := by have := HS.out.RL; omega
      have n2 : ¬ L = R := by have := HS.out.RL; omega
      have n3 : ¬ R = b := by have := HS.out.RL; have := HS.out.Lb; omega
      have n4 : ¬ b = R := by have := HS.out.RL; have := HS.out.Lb; omega
      have n5 : ¬ b = L := by have := HS.out.Lb; omega
      have n6 : ¬ L = b := by have := HS.out.Lb; omega
      clear hp7
      go_region_held3 (fun w' => (w'.cell? ⟨b, 1, none⟩ = some (.bool false) ∧ w'.cell? ⟨b, 0, none⟩ = some (.slice a7 (W0.tail).length cp7)) ∧ w'.cell? ⟨L, 0, none⟩ = some (.int .i64 (3)) ∧ w'.cell? ⟨L, 1, none⟩ = some (.string (headS W0)) ∧ w'.cell? ⟨L, 2, none⟩ = some (.string (⟨#[]⟩)) ∧ w'.cell? ⟨L, 3, none⟩ = some (.string (⟨#[]⟩)) ∧ w'.cell? ⟨L, 4, none⟩ = some (.int .i64 (0)) ∧ w'.cell? ⟨L, 5, none⟩ = some (.bool (false))) (go_keep) (fail)
      go_wp2_with fail
      generalize hwx : World.setCell (World.setCell (World.setCell (World.setCell (World.setCell (World.setCell wz ⟨_, 0, none⟩ _) ⟨_, 1, none⟩ _) ⟨_, 2, none⟩ _) ⟨_, 3, none⟩ _) ⟨_, 4, none⟩ _) ⟨_, 5, none⟩ _ = wx
      have hlay := HS.out.lay ⟨3, headS W0, E0, E0, 0, false⟩ hwx
      obtain ⟨gx, bx⟩ := hlay
      have cx := (lnC_block bx).1
      obtain ⟨x0, x1, x2, x3, x4, x5⟩ := cx
      simp only [E0] at x0 x1 x2 x3 x4 x5
      refine bodyPost_ret (v := .tuple #[lnV ⟨3, headS W0, E0, E0, 0, false⟩, .bool (((W0.tail).length : Int) == 0)]) (by simp [results, Tryd.results23, go_sem, lnV, E0, x0, x1, x2, x3, x4, x5]) rfl ?_
      exact line_end (V := W0.tail) (bad := false) HLO.out HF.out.1 HF.out.2 (grown_drew 1 gx) _ (good_len _)
  · have HT := Lib.hid (HP1.out.tailN HN.out)
    have hS := LSt.start (k := (3)) (bd := false) HG1.out HR1.out HB.out HT.out HN.out HN8.out
    simp only [lnC, E0] at hS
    have hS : LSt w _ w.heap.size w1.heap.size (w1.heap.size + 1) B W false ⟨(3), E0, E0, E0, 0, false⟩ := hS
    have HS := Lib.hid hS
    clear hS
    go_wp2_with fail
    obtain ⟨wz, hwz⟩ : ∃ wz, (w1.alloc (.cells #[.int .i64 (3), .string ⟨#[]⟩, .string ⟨#[]⟩, .string ⟨#[]⟩, .int .i64 0, .bool false] 41)).alloc (.cells #[.slice (some ⟨b0, o0 + 1, none⟩) n (cp - 1), .bool false] 83) = wz := ⟨_, rfl⟩
    rw [hwz] at HS ⊢
    clear hwz
    obtain ⟨R, hRR⟩ : ∃ R, w.heap.size = R := ⟨_, rfl⟩
    obtain ⟨L, hLL⟩ : ∃ L, w1.heap.size = L := ⟨_, rfl⟩
    obtain ⟨b, hbb⟩ : ∃ b, L + 1 = b := ⟨_, rfl⟩
    rw [hLL, hRR, hbb] at HS
    rw [hLL, hRR, hbb]
    clear hRR hLL hbb
    (with_reducible refine (plain_any _ _ _ _ _ HS.out.rd).mono ?_)
    rintro ee wK h
    obtain ⟨rfl, h1, hg⟩ := h
    dsimp only
    have HQ := Lib.hid (HS.out.call h1 hg)
    clear h1 hg HS
    have HS := HQ
    clear HQ
    have fa := (lnC_block HS.out.ln).2
    obtain ⟨z0, z1, z2, z3, z4, z5⟩ := fa
    have fb := (lnC_block HS.out.ln).1
    obtain ⟨y0, y1, y2, y3, y4, y5⟩ := fb
    go_wp2_with fail
    clear z0 z1 z2 z3 z4 z5 y0 y1 y2 y3 y4 y5
    have HT := Lib.hid (HS.out.store 1 (.string (headS W)) (l' := ⟨3, headS W, E0, E0, 0, false⟩) rfl)
    clear HS
    have HS := HT
    clear HT
    generalize hwz : World.setCell wK ⟨L, 1, none⟩ _ = wz at HS ⊢
    clear hwz
    obtain ⟨bb, hbb⟩ : ∃ bb, ((false || List.isEmpty W || isQ (headS W))) = bb := ⟨_, rfl⟩
    have HF : Hid (Fin (3) W bb (W.tail) ⟨3, headS W, E0, E0, 0, false⟩) := by
      show Fin _ _ _ _ _
      rw [← hbb]
      exact fin_one 3 (by simp) W
    rw [hbb] at HS
    clear hbb
    cases bb with
    | true =>
      have f9 := lnC_block HS.out.ln
      obtain ⟨⟨y0, y1, y2, y3, y4, y5⟩, ⟨z0, z1, z2, z3, z4, z5⟩⟩ := f9
      have f8 := lnC_block HS.out.rs
      obtain ⟨⟨r0, r1, r2, r3, r4, r5⟩, ⟨t0, t1, t2, t3, t4, t5⟩⟩ := f8
      obtain ⟨a7, cp7, c00, c01, c10, c11, hp7, hl7, hb7⟩ := HS.out.rd.cells
      simp only [E0] at y0 y1 y2 y3 y4 y5 r0 r1 r2 r3 r4 r5
      have n1 : ¬ R = L := by have := HS.out.RL; omega
      have n2 : ¬ L = R := by have := HS.out.RL; omega
      have n3 : ¬ R = b := by have := HS.out.RL; have := HS.out.Lb; omega
      have n4 : ¬ b = R := by have := HS.out.RL; have := HS.out.Lb; omega
      have n5 : ¬ b = L := by have := HS.out.Lb; omega
      have n6 : ¬ L = b := by have := HS.out.Lb; omega
      clear hp7
      go_region
      go_wp2_with fail
      generalize hwx : World.setCell (World.setCell (World.setCell (World.setCell (World.setCell (World.setCell wz ⟨_, 0, none⟩ _) ⟨_, 1, none⟩ _) ⟨_, 2, none⟩ _) ⟨_, 3, none⟩ _) ⟨_, 4, none⟩ _) ⟨_, 5, none⟩ _ = wx
      have hlay := HS.out.lay ⟨3, headS W, E0, E0, 0, false⟩ hwx
      obtain ⟨gx, bx⟩ := hlay
      have cx := (lnC_block bx).1
      obtain ⟨x0, x1, x2, x3, x4, x5⟩ := cx
      simp only [E0] at x0 x1 x2 x3 x4 x5
      refine bodyPost_ret (v := .tuple #[lnV ⟨3, headS W, E0, E0, 0, false⟩, .bool false]) (by simp [results, Tryd.results23, go_sem, lnV, E0, x0, x1, x2, x3, x4, x5]) rfl ?_
      exact line_end (V := W.tail) (bad := true) HLO.out HF.out.1 HF.out.2 (grown_drew 1 gx) _ (by simp [goodB])
    | false =>
      have f9 := lnC_block HS.out.ln
      obtain ⟨⟨y0, y1, y2, y3, y4, y5⟩, ⟨z0, z1, z2, z3, z4, z5⟩⟩ := f9
      have f8 := lnC_block HS.out.rs
      obtain ⟨⟨r0, r1, r2, r3, r4, r5⟩, ⟨t0, t1, t2, t3, t4, t5⟩⟩ := f8
      obtain ⟨a7, cp7, c00, c01, c10, c11, hp7, hl7, hb7⟩ := HS.out.rd.cells
      simp only [E0] at y0 y1 y2 y3 y4 y5 r0 r1 r2 r3 r4 r5
      have n1 : ¬ R = L := by have := HS.out.RL; omega
      have n2 : ¬ L = R := by have := HS.out.RL; omega
      have n3 : ¬ R = b := by have := HS.out.RL; have := HS.out.Lb; omega
      have n4 : ¬ b = R := by have := HS.out.RL; have := HS.out.Lb; omega
      have n5 : ¬ b = L := by have := HS.out.Lb; omega
      have n6 : ¬ L = b := by have := HS.out.Lb; omega
      clear hp7
      go_region_held3 (fun w' => (w'.cell? ⟨b, 1, none⟩ = some (.bool false) ∧ w'.cell? ⟨b, 0, none⟩ = some (.slice a7 (W.tail).length cp7)) ∧ w'.cell? ⟨L, 0, none⟩ = some (.int .i64 (3)) ∧ w'.cell? ⟨L, 1, none⟩ = some (.string (headS W)) ∧ w'.cell? ⟨L, 2, none⟩ = some (.string (⟨#[]⟩)) ∧ w'.cell? ⟨L, 3, none⟩ = some (.string (⟨#[]⟩)) ∧ w'.cell? ⟨L, 4, none⟩ = some (.int .i64 (0)) ∧ w'.cell? ⟨L, 5, none⟩ = some (.bool (false))) (go_keep) (fail)
      go_wp2_with fail
      generalize hwx : World.setCell (World.setCell (World.setCell (World.setCell (World.setCell (World.setCell wz ⟨_, 0, none⟩ _) ⟨_, 1, none⟩ _) ⟨_, 2, none⟩ _) ⟨_, 3, none⟩ _) ⟨_, 4, none⟩ _) ⟨_, 5, none⟩ _ = wx
      have hlay := HS.out.lay ⟨3, headS W, E0, E0, 0, false⟩ hwx
      obtain ⟨gx, bx⟩ := hlay
      have cx := (lnC_block bx).1
      obtain ⟨x0, x1, x2, x3, x4, x5⟩ := cx
      simp only [E0] at x0 x1 x2 x3 x4 x5
      refine bodyPost_ret (v := .tuple #[lnV ⟨3, headS W, E0, E0, 0, false⟩, .bool (((W.tail).length : Int) == 0)]) (by simp [results, Tryd.results23, go_sem, lnV, E0, x0, x1, x2, x3, x4, x5]) rfl ?_
      exact line_end (V := W.tail) (bad := false) HLO.out HF.out.1 HF.out.2 (grown_drew 1 gx) _ (good_len _)
set_option maxHeartbeats 8000000 in
theorem line_k4 (m : Int) (x : ByteArray) (W : List ByteArray) (n cp B : Nat) (a : Option Addr) (w : World) (hm : Wok m w) (hn : W.length = n) (hn8 : n + 1 ≤ 8000000) (hB : B ≤ w.heap.size) (hP : PartS w B (.slice a (n + 1) cp) (x :: W)) (hk : kindS x = 4) (hsz : (headS W).size ≤ 1000000) :
    Calls Tryd.prog 23 #[.slice a (n + 1) cp] w (LineTo (x :: W) w) := by
  show Calls _ _ _ _ (LineR (lineOf (x :: W)) w)
  obtain ⟨r, hr⟩ : ∃ r, lineOf (x :: W) = r := ⟨_, rfl⟩
  have HLO : Hid (lineK (4) W = r) := by show lineK (4) W = r; rw [← hr]; show _ = lineK (kindS x) W; rw [hk]
  rw [hr]
  clear hr
  have HM := Lib.hid hm
  have HP := Lib.hid hP
  have HN := Lib.hid hn
  have HB := Lib.hid hB
  have HSZ := Lib.hid hsz
  have HN8 : Hid (n ≤ 8000000) := by show _ ≤ _; omega
  obtain ⟨b0, o0, rfl, hb0, q1⟩ := hP.at 0 x rfl
  rw [Nat.add_zero] at q1
  obtain ⟨_, _, e3, hcap, _⟩ := hP.form
  have ec := (Value.slice.inj e3).2.2
  simp only [List.length_cons] at hcap
  rw [← ec, hn] at hcap
  clear e3 ec hm hP hn hB hsz
  have HK := Lib.hid hk
  clear hk
  have g0 := World.grownBy_alloc w (.cells #[.int .i64 0, .string ⟨#[]⟩, .string ⟨#[]⟩, .string ⟨#[]⟩, .int .i64 0, .bool false] 41) none
  have q2 := g0.cell q1 (by simp)
  have HR := Lib.hid (alloc_block w (.cells #[.int .i64 0, .string ⟨#[]⟩, .string ⟨#[]⟩, .string ⟨#[]⟩, .int .i64 0, .bool false] 41))
  have HG0 := Lib.hid g0
  clear g0
  go_enter Tryd.func23, Tryd.ntmps23
  go_wp2_with fail
  (with_reducible refine (kindOf_any m x _ (HM.out.stays HG0.out)).mono ?_)
  rintro ee w1 ⟨rfl, hg⟩
  rw [HK.out]
  dsimp only
  have q3 := hg.cell q2 (by simp)
  have HG1 := Lib.hid (World.grownBy.trans HG0.out hg)
  have HR1 := Lib.hid (block_kept HR.out hg)
  have HP1 := Lib.hid (HP.out.stays HG1.out)
  clear hg q1 q2
  by_cases hc : cp = 1
  · have ht := HP1.out.tail1N HN.out hc
    obtain ⟨hW, hPt⟩ := ht
    have hn0 : n = 0 := by have := HN.out; rw [hW] at this; exact this.symm
    subst hn0 hc hW
    have hS := LSt.start (k := (4)) (bd := false) HG1.out HR1.out HB.out hPt rfl (by omega)
    simp only [lnC, E0] at hS
    have hS : LSt w _ w.heap.size w1.heap.size (w1.heap.size + 1) B [] false ⟨(4), E0, E0, E0, 0, false⟩ := hS
    obtain ⟨W0, hW0⟩ : ∃ W0 : List ByteArray, [] = W0 := ⟨_, rfl⟩
    rw [hW0] at hS
    rw [hW0] at HLO HSZ
    have HS := Lib.hid hS
    clear hS hPt HP1 HP hW0
    go_wp2_with fail
    obtain ⟨wz, hwz⟩ : ∃ wz, (w1.alloc (.cells #[.int .i64 (4), .string ⟨#[]⟩, .string ⟨#[]⟩, .string ⟨#[]⟩, .int .i64 0, .bool false] 41)).alloc (.cells #[.slice (some ⟨b0, o0, none⟩) 0 0, .bool false] 83) = wz := ⟨_, rfl⟩
    rw [hwz] at HS ⊢
    clear hwz
    obtain ⟨R, hRR⟩ : ∃ R, w.heap.size = R := ⟨_, rfl⟩
    obtain ⟨L, hLL⟩ : ∃ L, w1.heap.size = L := ⟨_, rfl⟩
    obtain ⟨b, hbb⟩ : ∃ b, L + 1 = b := ⟨_, rfl⟩
    rw [hLL, hRR, hbb] at HS
    rw [hLL, hRR, hbb]
    clear hRR hLL hbb
    (with_reducible refine (plain_any _ _ _ _ _ HS.out.rd).mono ?_)
    rintro ee wK h
    obtain ⟨rfl, h1, hg⟩ := h
    dsimp only
    have HQ := Lib.hid (HS.out.call h1 hg)
    clear h1 hg HS
    have HS := HQ
    clear HQ
    have fa := (lnC_block HS.out.ln).2
    obtain ⟨z0, z1, z2, z3, z4, z5⟩ := fa
    have fb := (lnC_block HS.out.ln).1
    obtain ⟨y0, y1, y2, y3, y4, y5⟩ := fb
    go_wp2_with fail
    clear z0 z1 z2 z3 z4 z5 y0 y1 y2 y3 y4 y5
    have HT := Lib.hid (HS.out.store 1 (.string (headS W0)) (l' := ⟨4, headS W0, E0, E0, 0, false⟩) rfl)
    clear HS
    have HS := HT
    clear HT
    generalize hwz : World.setCell wK ⟨L, 1, none⟩ _ = wz at HS ⊢
    clear hwz
    obtain ⟨bb, hbb⟩ : ∃ bb, ((false || List.isEmpty W0 || isQ (headS W0))) = bb := ⟨_, rfl⟩
    have HF : Hid (Fin (4) W0 bb (W0.tail) ⟨4, headS W0, E0, E0, 0, false⟩) := by
      show Fin _ _ _ _ _
      rw [← hbb]
      exact fin_one 4 (by simp) W0
    rw [hbb] at HS
    clear hbb
    cases bb with
    | true =>
      have f9 := lnC_block HS.out.ln
      obtain ⟨⟨y0, y1, y2, y3, y4, y5⟩, ⟨z0, z1, z2, z3, z4, z5⟩⟩ := f9
      have f8 := lnC_block HS.out.rs
      obtain ⟨⟨r0, r1, r2, r3, r4, r5⟩, ⟨t0, t1, t2, t3, t4, t5⟩⟩ := f8
      obtain ⟨a7, cp7, c00, c01, c10, c11, hp7, hl7, hb7⟩ := HS.out.rd.cells
      simp only [E0] at y0 y1 y2 y3 y4 y5 r0 r1 r2 r3 r4 r5
      have n1 : ¬ R = L := by have := HS.out.RL; omega
      have n2 : ¬ L = R := by have := HS.out.RL; omega
      have n3 : ¬ R = b := by have := HS.out.RL; have := HS.out.Lb; omega
      have n4 : ¬ b = R := by have := HS.out.RL; have := HS.out.Lb; omega
      have n5 : ¬ b = L := by have := HS.out.Lb; omega
      have n6 : ¬ L = b := by have := HS.out.Lb; omega
      clear hp7
      go_region
      go_wp2_with fail
      generalize hwx : World.setCell (World.setCell (World.setCell (World.setCell (World.setCell (World.setCell wz ⟨_, 0, none⟩ _) ⟨_, 1, none⟩ _) ⟨_, 2, none⟩ _) ⟨_, 3, none⟩ _) ⟨_, 4, none⟩ _) ⟨_, 5, none⟩ _ = wx
      have hlay := HS.out.lay ⟨4, headS W0, E0, E0, 0, false⟩ hwx
      obtain ⟨gx, bx⟩ := hlay
      have cx := (lnC_block bx).1
      obtain ⟨x0, x1, x2, x3, x4, x5⟩ := cx
      simp only [E0] at x0 x1 x2 x3 x4 x5
      refine bodyPost_ret (v := .tuple #[lnV ⟨4, headS W0, E0, E0, 0, false⟩, .bool false]) (by simp [results, Tryd.results23, go_sem, lnV, E0, x0, x1, x2, x3, x4, x5]) rfl ?_
      exact line_end (V := W0.tail) (bad := true) HLO.out HF.out.1 HF.out.2 (grown_drew 1 gx) _ (by simp [goodB])
    | false =>
      have f9 := lnC_block HS.out.ln
      obtain ⟨⟨y0, y1, y2, y3, y4, y5⟩, ⟨z0, z1, z2, z3, z4, z5⟩⟩ := f9
      have f8 := lnC_block HS.out.rs
      obtain ⟨⟨r0, r1, r2, r3, r4, r5⟩, ⟨t0, t1, t2, t3, t4, t5⟩⟩ := f8
      obtain ⟨a7, cp7, c00, c01, c10, c11, hp7, hl7, hb7⟩ := HS.out.rd.cells
      simp only [E0] at y0 y1 y2 y3 y4 y5 r0 r1 r2 r3 r4 r5
      have n1 : ¬ R = L := by have := HS.out.RL; omega
      have n2 : ¬ L = R := by have := HS.out.RL; omega
      have n3 : ¬ R = b := by have := HS.out.RL; have := HS.out.Lb; omega
      have n4 : ¬ b = R := by have := HS.out.RL; have := HS.out.Lb; omega
      have n5 : ¬ b = L := by have := HS.out.Lb; omega
      have n6 : ¬ L = b := by have := HS.out.Lb; omega
      clear hp7
      go_region_held3 (fun w' => (w'.cell? ⟨b, 1, none⟩ = some (.bool false) ∧ w'.cell? ⟨b, 0, none⟩ = some (.slice a7 (W0.tail).length cp7)) ∧ w'.cell? ⟨L, 0, none⟩ = some (.int .i64 (4)) ∧ w'.cell? ⟨L, 1, none⟩ = some (.string (headS W0)) ∧ w'.cell? ⟨L, 2, none⟩ = some (.string (⟨#[]⟩)) ∧ w'.cell? ⟨L, 3, none⟩ = some (.string (⟨#[]⟩)) ∧ w'.cell? ⟨L, 4, none⟩ = some (.int .i64 (0)) ∧ w'.cell? ⟨L, 5, none⟩ = some (.bool (false))) (go_keep) (fail)
      go_wp2_with fail
      generalize hwx : World.setCell (World.setCell (World.setCell (World.setCell (World.setCell (World.setCell wz ⟨_, 0, none⟩ _) ⟨_, 1, none⟩ _) ⟨_, 2, none⟩ _) ⟨_, 3, none⟩ _) ⟨_, 4, none⟩ _) ⟨_, 5, none⟩ _ = wx
      have hlay := HS.out.lay ⟨4, headS W0, E0, E0, 0, false⟩ hwx
      obtain ⟨gx, bx⟩ := hlay
      have cx := (lnC_block bx).1
      obtain ⟨x0, x1, x2, x3, x4, x5⟩ := cx
      simp only [E0] at x0 x1 x2 x3 x4 x5
      refine bodyPost_ret (v := .tuple #[lnV ⟨4, headS W0, E0, E0, 0, false⟩, .bool (((W0.tail).length : Int) == 0)]) (by simp [results, Tryd.results23, go_sem, lnV, E0, x0, x1, x2, x3, x4, x5]) rfl ?_
      exact line_end (V := W0.tail) (bad := false) HLO.out HF.out.1 HF.out.2 (grown_drew 1 gx) _ (good_len _)
  · have HT := Lib.hid (HP1.out.tailN HN.out)
    have hS := LSt.start (k := (4)) (bd := false) HG1.out HR1.out HB.out HT.out HN.out HN8.out
    simp only [lnC, E0] at hS
    have hS : LSt w _ w.heap.size w1.heap.size (w1.heap.size + 1) B W false ⟨(4), E0, E0, E0, 0, false⟩ := hS
    have HS := Lib.hid hS
    clear hS
    go_wp2_with fail
    obtain ⟨wz, hwz⟩ : ∃ wz, (w1.alloc (.cells #[.int .i64 (4), .string ⟨#[]⟩, .string ⟨#[]⟩, .string ⟨#[]⟩, .int .i64 0, .bool false] 41)).alloc (.cells #[.slice (some ⟨b0, o0 + 1, none⟩) n (cp - 1), .bool false] 83) = wz := ⟨_, rfl⟩
    rw [hwz] at HS ⊢
    clear hwz
    obtain ⟨R, hRR⟩ : ∃ R, w.heap.size = R := ⟨_, rfl⟩
    obtain ⟨L, hLL⟩ : ∃ L, w1.heap.size = L := ⟨_, rfl⟩
    obtain ⟨b, hbb⟩ : ∃ b, L + 1 = b := ⟨_, rfl⟩
    rw [hLL, hRR, hbb] at HS
    rw [hLL, hRR, hbb]
    clear hRR hLL hbb
    (with_reducible refine (plain_any _ _ _ _ _ HS.out.rd).mono ?_)
    rintro ee wK h
    obtain ⟨rfl, h1, hg⟩ := h
    dsimp only
    have HQ := Lib.hid (HS.out.call h1 hg)
    clear h1 hg HS
    have HS := HQ
    clear HQ
    have fa := (lnC_block HS.out.ln).2
    obtain ⟨z0, z1, z2, z3, z4, z5⟩ := fa
    have fb := (lnC_block HS.out.ln).1
    obtain ⟨y0, y1, y2, y3, y4, y5⟩ := fb
    go_wp2_with fail
    clear z0 z1 z2 z3 z4 z5 y0 y1 y2 y3 y4 y5
    have HT := Lib.hid (HS.out.store 1 (.string (headS W)) (l' := ⟨4, headS W, E0, E0, 0, false⟩) rfl)
    clear HS
    have HS := HT
    clear HT
    generalize hwz : World.setCell wK ⟨L, 1, none⟩ _ = wz at HS ⊢
    clear hwz
    obtain ⟨bb, hbb⟩ : ∃ bb, ((false || List.isEmpty W || isQ (headS W))) = bb := ⟨_, rfl⟩
    have HF : Hid (Fin (4) W bb (W.tail) ⟨4, headS W, E0, E0, 0, false⟩) := by
      show Fin _ _ _ _ _
      rw [← hbb]
      exact fin_one 4 (by simp) W
    rw [hbb] at HS
    clear hbb
    cases bb with
    | true =>
      have f9 := lnC_block HS.out.ln
      obtain ⟨⟨y0, y1, y2, y3, y4, y5⟩, ⟨z0, z1, z2, z3, z4, z5⟩⟩ := f9
      have f8 := lnC_block HS.out.rs
      obtain ⟨⟨r0, r1, r2, r3, r4, r5⟩, ⟨t0, t1, t2, t3, t4, t5⟩⟩ := f8
      obtain ⟨a7, cp7, c00, c01, c10, c11, hp7, hl7, hb7⟩ := HS.out.rd.cells
      simp only [E0] at y0 y1 y2 y3 y4 y5 r0 r1 r2 r3 r4 r5
      have n1 : ¬ R = L := by have := HS.out.RL; omega
      have n2 : ¬ L = R := by have := HS.out.RL; omega
      have n3 : ¬ R = b := by have := HS.out.RL; have := HS.out.Lb; omega
      have n4 : ¬ b = R := by have := HS.out.RL; have := HS.out.Lb; omega
      have n5 : ¬ b = L := by have := HS.out.Lb; omega
      have n6 : ¬ L = b := by have := HS.out.Lb; omega
      clear hp7
      go_region
      go_wp2_with fail
      generalize hwx : World.setCell (World.setCell (World.setCell (World.setCell (World.setCell (World.setCell wz ⟨_, 0, none⟩ _) ⟨_, 1, none⟩ _) ⟨_, 2, none⟩ _) ⟨_, 3, none⟩ _) ⟨_, 4, none⟩ _) ⟨_, 5, none⟩ _ = wx
      have hlay := HS.out.lay ⟨4, headS W, E0, E0, 0, false⟩ hwx
      obtain ⟨gx, bx⟩ := hlay
      have cx := (lnC_block bx).1
      obtain ⟨x0, x1, x2, x3, x4, x5⟩ := cx
      simp only [E0] at x0 x1 x2 x3 x4 x5
      refine bodyPost_ret (v := .tuple #[lnV ⟨4, headS W, E0, E0, 0, false⟩, .bool false]) (by simp [results, Tryd.results23, go_sem, lnV, E0, x0, x1, x2, x3, x4, x5]) rfl ?_
      exact line_end (V := W.tail) (bad := true) HLO.out HF.out.1 HF.out.2 (grown_drew 1 gx) _ (by simp [goodB])
    | false =>
      have f9 := lnC_block HS.out.ln
      obtain ⟨⟨y0, y1, y2, y3, y4, y5⟩, ⟨z0, z1, z2, z3, z4, z5⟩⟩ := f9
      have f8 := lnC_block HS.out.rs
      obtain ⟨⟨r0, r1, r2, r3, r4, r5⟩, ⟨t0, t1, t2, t3, t4, t5⟩⟩ := f8
      obtain ⟨a7, cp7, c00, c01, c10, c11, hp7, hl7, hb7⟩ := HS.out.rd.cells
      simp only [E0] at y0 y1 y2 y3 y4 y5 r0 r1 r2 r3 r4 r5
      have n1 : ¬ R = L := by have := HS.out.RL; omega
      have n2 : ¬ L = R := by have := HS.out.RL; omega
      have n3 : ¬ R = b := by have := HS.out.RL; have := HS.out.Lb; omega
      have n4 : ¬ b = R := by have := HS.out.RL; have := HS.out.Lb; omega
      have n5 : ¬ b = L := by have := HS.out.Lb; omega
      have n6 : ¬ L = b := by have := HS.out.Lb; omega
      clear hp7
      go_region_held3 (fun w' => (w'.cell? ⟨b, 1, none⟩ = some (.bool false) ∧ w'.cell? ⟨b, 0, none⟩ = some (.slice a7 (W.tail).length cp7)) ∧ w'.cell? ⟨L, 0, none⟩ = some (.int .i64 (4)) ∧ w'.cell? ⟨L, 1, none⟩ = some (.string (headS W)) ∧ w'.cell? ⟨L, 2, none⟩ = some (.string (⟨#[]⟩)) ∧ w'.cell? ⟨L, 3, none⟩ = some (.string (⟨#[]⟩)) ∧ w'.cell? ⟨L, 4, none⟩ = some (.int .i64 (0)) ∧ w'.cell? ⟨L, 5, none⟩ = some (.bool (false))) (go_keep) (fail)
      go_wp2_with fail
      generalize hwx : World.setCell (World.setCell (World.setCell (World.setCell (World.setCell (World.setCell wz ⟨_, 0, none⟩ _) ⟨_, 1, none⟩ _) ⟨_, 2, none⟩ _) ⟨_, 3, none⟩ _) ⟨_, 4, none⟩ _) ⟨_, 5, none⟩ _ = wx
      have hlay := HS.out.lay ⟨4, headS W, E0, E0, 0, false⟩ hwx
      obtain ⟨gx, bx⟩ := hlay
      have cx := (lnC_block bx).1
      obtain ⟨x0, x1, x2, x3, x4, x5⟩ := cx
      simp only [E0] at x0 x1 x2 x3 x4 x5
      refine bodyPost_ret (v := .tuple #[lnV ⟨4, headS W, E0, E0, 0, false⟩, .bool (((W.tail).length : Int) == 0)]) (by simp [results, Tryd.results23, go_sem, lnV, E0, x0, x1, x2, x3, x4, x5]) rfl ?_
      exact line_end (V := W.tail) (bad := false) HLO.out HF.out.1 HF.out.2 (grown_drew 1 gx) _ (good_len _)
end Go.Proofs.YtmjdkgbblccpgaaDoor
