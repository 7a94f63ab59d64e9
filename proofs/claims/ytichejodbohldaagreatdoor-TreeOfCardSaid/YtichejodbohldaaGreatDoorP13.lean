/- Texts of one ground, in one file: Gw Gx Gy Gz. -/
import Derived.Test.YtichejodbohldaaGreatDoorP12
namespace Go.Proofs.YtichejodbohldaaGreatDoor
open Go.RowKit Go.Maps
set_option maxRecDepth 1000000
theorem within_size {k p : ByteArray} (h : Pth.withinS k p = true) : p.size ≤ k.size := by
  unfold Pth.withinS at h
  simp only [Bool.or_eq_true, decide_eq_true_eq] at h
  rcases h with (h | h) | h
  · subst h; exact Nat.zero_le _
  · subst h; exact Nat.le_refl _
  · have h2 := (List.isPrefixOf_iff_prefix.1 h).length_le
    rw [data_len, data_len, ByteArray.size_append] at h2
    omega
def targsOk (ks : List ByteArray) (p q : ByteArray) : Bool := ks.all fun k => decide ((Pth.cleanS (targS p q k)).2 = 0)
/-- Why there is no move, or nought. -/
def planE (M : Tr) (s t : ByteArray) : Int :=
  if ¬ (Pth.cleanS s).2 = 0 then (Pth.cleanS s).2 else if ¬ (Pth.cleanS t).2 = 0 then (Pth.cleanS t).2 else
  if hasT M (Pth.cleanS s).1 = false then 52 else if Pth.withinS (Pth.cleanS t).1 (Pth.cleanS s).1 = true then 54 else if hasT M (Pth.cleanS t).1 = true then 53 else
  if aheadT M (Pth.partsS (Pth.cleanS t).1) = true then 54 else if targsOk (wkeys M (Pth.cleanS s).1) (Pth.cleanS s).1 (Pth.cleanS t).1 = true then 0 else 50
def noMove : Value := .agg #[.pointer none, .string E0, .string E0, .slice none 0 0, .int .i64 0]
def NoPlan (q : Int) (w : World) (e : Ending) (w' : World) : Prop := e = .returned (.tuple #[noMove, .int .i64 q]) ∧ w.grownBy w' none
def YesPlan (tb : Nat) (M : Tr) (p q : ByteArray) (lk : Nat) (w : World) (e : Ending) (w' : World) : Prop :=
  ∃ a c, e = .returned (.tuple #[.agg #[.pointer (some ⟨tb, 0, none⟩), .string p, .string q, .slice a (wkeys M p).length c, .int .i64 (lk : Int)], .int .i64 0]) ∧ OwnsS w' w.heap.size (.slice a (wkeys M p).length c) (wkeys M p) ∧ w.grownBy w' none
def zeroM : Array Value := #[.pointer none, .string E0, .string E0, .slice none 0 0, .int .i64 0]
/-- The result's cells, as they lie. -/
theorem cellsM {w : World} {b : Nat} {x0 x1 x2 x3 x4 : Value} (h : w.heap[b]? = some (.cells #[x0, x1, x2, x3, x4] 85 (0, 0))) :
    (w.cell? ⟨b, 0, none⟩ = some x0 ∧ w.cell? ⟨b, 1, none⟩ = some x1 ∧ w.cell? ⟨b, 2, none⟩ = some x2 ∧ w.cell? ⟨b, 3, none⟩ = some x3 ∧ w.cell? ⟨b, 4, none⟩ = some x4) ∧
    (w.frozen? ⟨b, 0, none⟩ = false ∧ w.frozen? ⟨b, 1, none⟩ = false ∧ w.frozen? ⟨b, 2, none⟩ = false ∧ w.frozen? ⟨b, 3, none⟩ = false ∧ w.frozen? ⟨b, 4, none⟩ = false) :=
  ⟨⟨(bk_cell h 0 _ rfl).1, (bk_cell h 1 _ rfl).1, (bk_cell h 2 _ rfl).1, (bk_cell h 3 _ rfl).1, (bk_cell h 4 _ rfl).1⟩, (bk_cell h 0 _ rfl).2, (bk_cell h 1 _ rfl).2, (bk_cell h 2 _ rfl).2, (bk_cell h 3 _ rfl).2, (bk_cell h 4 _ rfl).2⟩
def W5 (w : World) (b : Nat) (x0 x1 x2 x3 x4 : Value) : World := ((((w.setCell ⟨b, 0, none⟩ x0).setCell ⟨b, 1, none⟩ x1).setCell ⟨b, 2, none⟩ x2).setCell ⟨b, 3, none⟩ x3).setCell ⟨b, 4, none⟩ x4
theorem w5_bk {w : World} {b : Nat} {y0 y1 y2 y3 y4 : Value} (h : w.heap[b]? = some (.cells #[y0, y1, y2, y3, y4] 85 (0, 0))) (x0 x1 x2 x3 x4 : Value) : (W5 w b x0 x1 x2 x3 x4).heap[b]? = some (.cells #[x0, x1, x2, x3, x4] 85 (0, 0)) :=
  bk_set (bk_set (bk_set (bk_set (bk_set h 0 x0) 1 x1) 2 x2) 3 x3) 4 x4
theorem w5_grown {w0 w : World} {b : Nat} (h : w0.grownBy w none) (hb : w0.heap.size ≤ b) (x0 x1 x2 x3 x4 : Value) : w0.grownBy (W5 w b x0 x1 x2 x3 x4) none :=
  bk_grown_set (bk_grown_set (bk_grown_set (bk_grown_set (bk_grown_set h hb 0 x0) hb 1 x1) hb 2 x2) hb 3 x3) hb 4 x4
set_option maxHeartbeats 8000000 in
theorem plan_bad1 (tb mb : Nat) (X : As Gn) (s t : ByteArray) (m : Int) (w : World) (_h : TreeIn w tb mb X) (hm : w.cell? ⟨0, 0, none⟩ = some (.int .i64 m)) (q : Int) (hc : Pth.cleanS s = (E0, q)) (hq : ¬ q = 0) :
    Calls Tryz.prog 59 #[.pointer (some ⟨tb, 0, none⟩), .string s, .string t] w (NoPlan q w) := by
  have HC := Lib.hid hc
  obtain ⟨W0, hW0⟩ : ∃ W0, w.alloc (.cells zeroM 85) = W0 := ⟨_, rfl⟩
  have G0 : Hid (w.grownBy W0 none) := Lib.hid (by rw [← hW0]; exact World.grownBy_alloc _ _ _)
  have HB : Hid (W0.heap[w.heap.size]? = some (.cells zeroM 85 (0, 0))) := Lib.hid (by rw [← hW0]; exact bk_alloc _ _)
  have HM : Hid (∀ V : World, w.grownBy V none → V.cell? ⟨0, 0, none⟩ = some (.int .i64 m)) := Lib.hid fun V hV => hV.cell hm (by simp)
  unfold zeroM at hW0
  have q4 : (q != 0) = true := by simp [hq]
  have q5 : (q == 0) = false := by simp [hq]
  clear hc hm _h
  go_enter Tryz.func59, Tryz.ntmps59
  go_wp2_with fail
  (with_reducible refine (clean_at m s E0 q _ (HM.out _ G0.out) HC.out).mono ?_)
  rintro e w1 ⟨rfl, hg⟩
  dsimp only
  have HG1 := Lib.hid (World.grownBy.trans G0.out hg)
  have HB1 := Lib.hid (bk_kept HB.out hg)
  clear hg
  obtain ⟨⟨c0, c1, c2, c3, c4⟩, ⟨f0, f1, f2, f3, f4⟩⟩ := cellsM HB1.out
  go_wp2
  obtain ⟨W9, hW9⟩ : ∃ W9, W5 w1 w.heap.size (.pointer none) (.string E0) (.string E0) (.slice none 0 0) (.int .i64 0) = W9 := ⟨_, rfl⟩
  have hb9 : W9.heap[w.heap.size]? = some (.cells zeroM 85 (0, 0)) := by rw [← hW9]; exact w5_bk HB1.out _ _ _ _ _
  have G9 : Hid (w.grownBy W9 none) := Lib.hid (by rw [← hW9]; exact w5_grown HG1.out (Nat.le_refl _) _ _ _ _ _)
  unfold W5 at hW9
  rw [hW9]
  clear hW9 c0 c1 c2 c3 c4 f0 f1 f2 f3 f4
  obtain ⟨⟨c0, c1, c2, c3, c4⟩, _⟩ := cellsM hb9
  exact bodyPost_ret (v := .tuple #[noMove, .int .i64 q]) (by simp [results, Tryz.results59, go_sem, c0, c1, c2, c3, c4]; rfl) rfl ⟨rfl, G9.out⟩
set_option maxHeartbeats 8000000 in
theorem plan_bad2 (tb mb : Nat) (X : As Gn) (s t : ByteArray) (m : Int) (w : World) (_h : TreeIn w tb mb X) (hm : w.cell? ⟨0, 0, none⟩ = some (.int .i64 m)) (p : ByteArray) (q : Int) (hc1 : Pth.cleanS s = (p, 0)) (hc : Pth.cleanS t = (E0, q)) (hq : ¬ q = 0) :
    Calls Tryz.prog 59 #[.pointer (some ⟨tb, 0, none⟩), .string s, .string t] w (NoPlan q w) := by
  have HC := Lib.hid hc
  have HC1 := Lib.hid hc1
  obtain ⟨W0, hW0⟩ : ∃ W0, w.alloc (.cells zeroM 85) = W0 := ⟨_, rfl⟩
  have G0 : Hid (w.grownBy W0 none) := Lib.hid (by rw [← hW0]; exact World.grownBy_alloc _ _ _)
  have HB : Hid (W0.heap[w.heap.size]? = some (.cells zeroM 85 (0, 0))) := Lib.hid (by rw [← hW0]; exact bk_alloc _ _)
  have HM : Hid (∀ V : World, w.grownBy V none → V.cell? ⟨0, 0, none⟩ = some (.int .i64 m)) := Lib.hid fun V hV => hV.cell hm (by simp)
  unfold zeroM at hW0
  have q4 : (q != 0) = true := by simp [hq]
  have q5 : (q == 0) = false := by simp [hq]
  clear hc hc1 hm _h
  go_enter Tryz.func59, Tryz.ntmps59
  go_wp2_with fail
  (with_reducible refine (clean_at m s p 0 _ (HM.out _ G0.out) HC1.out).mono ?_)
  rintro e w1 ⟨rfl, hg⟩
  dsimp only
  have HG1 := Lib.hid (World.grownBy.trans G0.out hg)
  have HB1 := Lib.hid (bk_kept HB.out hg)
  clear hg
  go_wp2_with fail
  (with_reducible refine (clean_at m t E0 q _ (HM.out _ HG1.out) HC.out).mono ?_)
  rintro e w2 ⟨rfl, hg⟩
  dsimp only
  have HG2 := Lib.hid (World.grownBy.trans HG1.out hg)
  have HB2 := Lib.hid (bk_kept HB1.out hg)
  clear hg
  obtain ⟨⟨c0, c1, c2, c3, c4⟩, ⟨f0, f1, f2, f3, f4⟩⟩ := cellsM HB2.out
  go_wp2
  obtain ⟨W9, hW9⟩ : ∃ W9, W5 w2 w.heap.size (.pointer none) (.string E0) (.string E0) (.slice none 0 0) (.int .i64 0) = W9 := ⟨_, rfl⟩
  have hb9 : W9.heap[w.heap.size]? = some (.cells zeroM 85 (0, 0)) := by rw [← hW9]; exact w5_bk HB2.out _ _ _ _ _
  have G9 : Hid (w.grownBy W9 none) := Lib.hid (by rw [← hW9]; exact w5_grown HG2.out (Nat.le_refl _) _ _ _ _ _)
  unfold W5 at hW9
  rw [hW9]
  clear hW9 c0 c1 c2 c3 c4 f0 f1 f2 f3 f4
  obtain ⟨⟨c0, c1, c2, c3, c4⟩, _⟩ := cellsM hb9
  exact bodyPost_ret (v := .tuple #[noMove, .int .i64 q]) (by simp [results, Tryz.results59, go_sem, c0, c1, c2, c3, c4]; rfl) rfl ⟨rfl, G9.out⟩
set_option maxHeartbeats 8000000 in
theorem plan_no3 (tb mb : Nat) (X : As Gn) (s t : ByteArray) (m : Int) (w : World) (h : TreeIn w tb mb X) (hm : w.cell? ⟨0, 0, none⟩ = some (.int .i64 m)) (p q : ByteArray) (hc1 : Pth.cleanS s = (p, 0)) (hc2 : Pth.cleanS t = (q, 0)) (hps : p.size ≤ 200) (_hqs : q.size ≤ 200) (hf : hasT (nds X) p = false) :
    Calls Tryz.prog 59 #[.pointer (some ⟨tb, 0, none⟩), .string s, .string t] w (NoPlan 52 w) := by
  have HC1 := Lib.hid hc1
  have HC2 := Lib.hid hc2
  have HT := Lib.hid h
  have HF := Lib.hid hf
  obtain ⟨W0, hW0⟩ : ∃ W0, w.alloc (.cells zeroM 85) = W0 := ⟨_, rfl⟩
  have G0 : Hid (w.grownBy W0 none) := Lib.hid (by rw [← hW0]; exact World.grownBy_alloc _ _ _)
  have HB : Hid (W0.heap[w.heap.size]? = some (.cells zeroM 85 (0, 0))) := Lib.hid (by rw [← hW0]; exact bk_alloc _ _)
  have HM : Hid (∀ V : World, w.grownBy V none → V.cell? ⟨0, 0, none⟩ = some (.int .i64 m)) := Lib.hid fun V hV => hV.cell hm (by simp)
  unfold zeroM at hW0
  clear hc1 hc2 hm h hf
  go_enter Tryz.func59, Tryz.ntmps59
  go_wp2_with fail
  (with_reducible refine (clean_at m s p 0 _ (HM.out _ G0.out) HC1.out).mono ?_)
  rintro e w1 ⟨rfl, hg⟩
  dsimp only
  have HG1 := Lib.hid (World.grownBy.trans G0.out hg)
  have HB1 := Lib.hid (bk_kept HB.out hg)
  clear hg
  go_wp2_with fail
  (with_reducible refine (clean_at m t q 0 _ (HM.out _ HG1.out) HC2.out).mono ?_)
  rintro e w2 ⟨rfl, hg⟩
  dsimp only
  have HG2 := Lib.hid (World.grownBy.trans HG1.out hg)
  have HB2 := Lib.hid (bk_kept HB1.out hg)
  clear hg
  go_wp2_with fail
  (with_reducible refine (has_at tb mb X p _ false (HT.out.stays HG2.out) (by omega) HF.out).mono ?_)
  rintro e w3 ⟨rfl, hg⟩
  dsimp only
  have HG3 := Lib.hid (World.grownBy.trans HG2.out hg)
  have HB3 := Lib.hid (bk_kept HB2.out hg)
  clear hg
  obtain ⟨⟨c0, c1, c2, c3, c4⟩, ⟨f0, f1, f2, f3, f4⟩⟩ := cellsM HB3.out
  go_wp2
  obtain ⟨W9, hW9⟩ : ∃ W9, W5 w3 w.heap.size (.pointer none) (.string E0) (.string E0) (.slice none 0 0) (.int .i64 0) = W9 := ⟨_, rfl⟩
  have hb9 : W9.heap[w.heap.size]? = some (.cells zeroM 85 (0, 0)) := by rw [← hW9]; exact w5_bk HB3.out _ _ _ _ _
  have G9 : Hid (w.grownBy W9 none) := Lib.hid (by rw [← hW9]; exact w5_grown HG3.out (Nat.le_refl _) _ _ _ _ _)
  unfold W5 at hW9
  rw [hW9]
  clear hW9 c0 c1 c2 c3 c4 f0 f1 f2 f3 f4
  obtain ⟨⟨c0, c1, c2, c3, c4⟩, _⟩ := cellsM hb9
  exact bodyPost_ret (v := .tuple #[noMove, .int .i64 52]) (by simp [results, Tryz.results59, go_sem, c0, c1, c2, c3, c4]; rfl) rfl ⟨rfl, G9.out⟩
set_option maxHeartbeats 8000000 in
theorem plan_no4 (tb mb : Nat) (X : As Gn) (s t : ByteArray) (m : Int) (w : World) (h : TreeIn w tb mb X) (hm : w.cell? ⟨0, 0, none⟩ = some (.int .i64 m)) (p q : ByteArray) (hc1 : Pth.cleanS s = (p, 0)) (hc2 : Pth.cleanS t = (q, 0)) (hps : p.size ≤ 200) (_hqs : q.size ≤ 200) (hf : hasT (nds X) p = true) (hd : Pth.withinS q p = true) :
    Calls Tryz.prog 59 #[.pointer (some ⟨tb, 0, none⟩), .string s, .string t] w (NoPlan 54 w) := by
  have HC1 := Lib.hid hc1
  have HC2 := Lib.hid hc2
  have HT := Lib.hid h
  have HF := Lib.hid hf
  have HD : Hid (∀ V, Calls Tryz.prog 74 #[.string q, .string p] V fun e w' => e = .returned (.bool true) ∧ V.grownBy w' none) := Lib.hid fun V => by rw [← hd]; exact (Pth.within_any q p (by omega) V).mono fun e w' h => ⟨h.1, by rw [h.2]; exact World.grownBy.refl _ _⟩
  obtain ⟨W0, hW0⟩ : ∃ W0, w.alloc (.cells zeroM 85) = W0 := ⟨_, rfl⟩
  have G0 : Hid (w.grownBy W0 none) := Lib.hid (by rw [← hW0]; exact World.grownBy_alloc _ _ _)
  have HB : Hid (W0.heap[w.heap.size]? = some (.cells zeroM 85 (0, 0))) := Lib.hid (by rw [← hW0]; exact bk_alloc _ _)
  have HM : Hid (∀ V : World, w.grownBy V none → V.cell? ⟨0, 0, none⟩ = some (.int .i64 m)) := Lib.hid fun V hV => hV.cell hm (by simp)
  unfold zeroM at hW0
  clear hc1 hc2 hm h hf hd
  go_enter Tryz.func59, Tryz.ntmps59
  go_wp2_with fail
  (with_reducible refine (clean_at m s p 0 _ (HM.out _ G0.out) HC1.out).mono ?_)
  rintro e w1 ⟨rfl, hg⟩
  dsimp only
  have HG1 := Lib.hid (World.grownBy.trans G0.out hg)
  have HB1 := Lib.hid (bk_kept HB.out hg)
  clear hg
  go_wp2_with fail
  (with_reducible refine (clean_at m t q 0 _ (HM.out _ HG1.out) HC2.out).mono ?_)
  rintro e w2 ⟨rfl, hg⟩
  dsimp only
  have HG2 := Lib.hid (World.grownBy.trans HG1.out hg)
  have HB2 := Lib.hid (bk_kept HB1.out hg)
  clear hg
  go_wp2_with fail
  (with_reducible refine (has_at tb mb X p _ true (HT.out.stays HG2.out) (by omega) HF.out).mono ?_)
  rintro e w3 ⟨rfl, hg⟩
  dsimp only
  have HG3 := Lib.hid (World.grownBy.trans HG2.out hg)
  have HB3 := Lib.hid (bk_kept HB2.out hg)
  clear hg
  go_wp2_with fail
  (with_reducible refine (HD.out _).mono ?_)
  rintro e w4 ⟨rfl, hg⟩
  dsimp only
  have HG4 := Lib.hid (World.grownBy.trans HG3.out hg)
  have HB4 := Lib.hid (bk_kept HB3.out hg)
  clear hg
  obtain ⟨⟨c0, c1, c2, c3, c4⟩, ⟨f0, f1, f2, f3, f4⟩⟩ := cellsM HB4.out
  go_wp2
  obtain ⟨W9, hW9⟩ : ∃ W9, W5 w4 w.heap.size (.pointer none) (.string E0) (.string E0) (.slice none 0 0) (.int .i64 0) = W9 := ⟨_, rfl⟩
  have hb9 : W9.heap[w.heap.size]? = some (.cells zeroM 85 (0, 0)) := by rw [← hW9]; exact w5_bk HB4.out _ _ _ _ _
  have G9 : Hid (w.grownBy W9 none) := Lib.hid (by rw [← hW9]; exact w5_grown HG4.out (Nat.le_refl _) _ _ _ _ _)
  unfold W5 at hW9
  rw [hW9]
  clear hW9 c0 c1 c2 c3 c4 f0 f1 f2 f3 f4
  obtain ⟨⟨c0, c1, c2, c3, c4⟩, _⟩ := cellsM hb9
  exact bodyPost_ret (v := .tuple #[noMove, .int .i64 54]) (by simp [results, Tryz.results59, go_sem, c0, c1, c2, c3, c4]; rfl) rfl ⟨rfl, G9.out⟩
set_option maxHeartbeats 8000000 in
theorem plan_no5 (tb mb : Nat) (X : As Gn) (s t : ByteArray) (m : Int) (w : World) (h : TreeIn w tb mb X) (hm : w.cell? ⟨0, 0, none⟩ = some (.int .i64 m)) (p q : ByteArray) (hc1 : Pth.cleanS s = (p, 0)) (hc2 : Pth.cleanS t = (q, 0)) (hps : p.size ≤ 200) (hqs : q.size ≤ 200) (hf : hasT (nds X) p = true) (hd : Pth.withinS q p = false) (he : hasT (nds X) q = true) :
    Calls Tryz.prog 59 #[.pointer (some ⟨tb, 0, none⟩), .string s, .string t] w (NoPlan 53 w) := by
  have HC1 := Lib.hid hc1
  have HC2 := Lib.hid hc2
  have HT := Lib.hid h
  have HF := Lib.hid hf
  have HE := Lib.hid he
  have HD : Hid (∀ V, Calls Tryz.prog 74 #[.string q, .string p] V fun e w' => e = .returned (.bool false) ∧ V.grownBy w' none) := Lib.hid fun V => by rw [← hd]; exact (Pth.within_any q p (by omega) V).mono fun e w' h => ⟨h.1, by rw [h.2]; exact World.grownBy.refl _ _⟩
  obtain ⟨W0, hW0⟩ : ∃ W0, w.alloc (.cells zeroM 85) = W0 := ⟨_, rfl⟩
  have G0 : Hid (w.grownBy W0 none) := Lib.hid (by rw [← hW0]; exact World.grownBy_alloc _ _ _)
  have HB : Hid (W0.heap[w.heap.size]? = some (.cells zeroM 85 (0, 0))) := Lib.hid (by rw [← hW0]; exact bk_alloc _ _)
  have HM : Hid (∀ V : World, w.grownBy V none → V.cell? ⟨0, 0, none⟩ = some (.int .i64 m)) := Lib.hid fun V hV => hV.cell hm (by simp)
  unfold zeroM at hW0
  clear hc1 hc2 hm h hf hd he
  go_enter Tryz.func59, Tryz.ntmps59
  go_wp2_with fail
  (with_reducible refine (clean_at m s p 0 _ (HM.out _ G0.out) HC1.out).mono ?_)
  rintro e w1 ⟨rfl, hg⟩
  dsimp only
  have HG1 := Lib.hid (World.grownBy.trans G0.out hg)
  have HB1 := Lib.hid (bk_kept HB.out hg)
  clear hg
  go_wp2_with fail
  (with_reducible refine (clean_at m t q 0 _ (HM.out _ HG1.out) HC2.out).mono ?_)
  rintro e w2 ⟨rfl, hg⟩
  dsimp only
  have HG2 := Lib.hid (World.grownBy.trans HG1.out hg)
  have HB2 := Lib.hid (bk_kept HB1.out hg)
  clear hg
  go_wp2_with fail
  (with_reducible refine (has_at tb mb X p _ true (HT.out.stays HG2.out) (by omega) HF.out).mono ?_)
  rintro e w3 ⟨rfl, hg⟩
  dsimp only
  have HG3 := Lib.hid (World.grownBy.trans HG2.out hg)
  have HB3 := Lib.hid (bk_kept HB2.out hg)
  clear hg
  go_wp2_with fail
  (with_reducible refine (HD.out _).mono ?_)
  rintro e w4 ⟨rfl, hg⟩
  dsimp only
  have HG4 := Lib.hid (World.grownBy.trans HG3.out hg)
  have HB4 := Lib.hid (bk_kept HB3.out hg)
  clear hg
  go_wp2_with fail
  (with_reducible refine (has_at tb mb X q _ true (HT.out.stays HG4.out) (by omega) HE.out).mono ?_)
  rintro e w5 ⟨rfl, hg⟩
  dsimp only
  have HG5 := Lib.hid (World.grownBy.trans HG4.out hg)
  have HB5 := Lib.hid (bk_kept HB4.out hg)
  clear hg
  obtain ⟨⟨c0, c1, c2, c3, c4⟩, ⟨f0, f1, f2, f3, f4⟩⟩ := cellsM HB5.out
  go_wp2
  obtain ⟨W9, hW9⟩ : ∃ W9, W5 w5 w.heap.size (.pointer none) (.string E0) (.string E0) (.slice none 0 0) (.int .i64 0) = W9 := ⟨_, rfl⟩
  have hb9 : W9.heap[w.heap.size]? = some (.cells zeroM 85 (0, 0)) := by rw [← hW9]; exact w5_bk HB5.out _ _ _ _ _
  have G9 : Hid (w.grownBy W9 none) := Lib.hid (by rw [← hW9]; exact w5_grown HG5.out (Nat.le_refl _) _ _ _ _ _)
  unfold W5 at hW9
  rw [hW9]
  clear hW9 c0 c1 c2 c3 c4 f0 f1 f2 f3 f4
  obtain ⟨⟨c0, c1, c2, c3, c4⟩, _⟩ := cellsM hb9
  exact bodyPost_ret (v := .tuple #[noMove, .int .i64 53]) (by simp [results, Tryz.results59, go_sem, c0, c1, c2, c3, c4]; rfl) rfl ⟨rfl, G9.out⟩
set_option maxHeartbeats 8000000 in
theorem plan_no6 (tb mb : Nat) (X : As Gn) (s t : ByteArray) (m : Int) (w : World) (h : TreeIn w tb mb X) (hm : w.cell? ⟨0, 0, none⟩ = some (.int .i64 m)) (p q : ByteArray) (hc1 : Pth.cleanS s = (p, 0)) (hc2 : Pth.cleanS t = (q, 0)) (hps : p.size ≤ 200) (hqs : q.size ≤ 200) (L : List ByteArray) (hq : Pth.joinB L = q) (hL : Parts L) (hf : hasT (nds X) p = true) (hd : Pth.withinS q p = false) (he : hasT (nds X) q = false) (ha : aheadT (nds X) L = true) :
    Calls Tryz.prog 59 #[.pointer (some ⟨tb, 0, none⟩), .string s, .string t] w (NoPlan 54 w) := by
  have HC1 := Lib.hid hc1
  have HC2 := Lib.hid hc2
  have HT := Lib.hid h
  have HF := Lib.hid hf
  have HE := Lib.hid he
  have HD : Hid (∀ V, Calls Tryz.prog 74 #[.string q, .string p] V fun e w' => e = .returned (.bool false) ∧ V.grownBy w' none) := Lib.hid fun V => by rw [← hd]; exact (Pth.within_any q p (by omega) V).mono fun e w' h => ⟨h.1, by rw [h.2]; exact World.grownBy.refl _ _⟩
  have HA : Hid (∀ V, w.grownBy V none → Calls Tryz.prog 52 #[.pointer (some ⟨tb, 0, none⟩), .string q] V fun e w' => e = .returned (.bool true) ∧ V.grownBy w' none) := Lib.hid fun V hV => by
    have := fileAhead_any tb mb X L V (h.stays hV) hL L.length (Nat.le_refl _)
    rw [upL_all, hq] at this
    unfold aheadT at ha
    rw [ha] at this
    exact this
  obtain ⟨W0, hW0⟩ : ∃ W0, w.alloc (.cells zeroM 85) = W0 := ⟨_, rfl⟩
  have G0 : Hid (w.grownBy W0 none) := Lib.hid (by rw [← hW0]; exact World.grownBy_alloc _ _ _)
  have HB : Hid (W0.heap[w.heap.size]? = some (.cells zeroM 85 (0, 0))) := Lib.hid (by rw [← hW0]; exact bk_alloc _ _)
  have HM : Hid (∀ V : World, w.grownBy V none → V.cell? ⟨0, 0, none⟩ = some (.int .i64 m)) := Lib.hid fun V hV => hV.cell hm (by simp)
  unfold zeroM at hW0
  clear hc1 hc2 hm h hf hd he ha hq hL
  go_enter Tryz.func59, Tryz.ntmps59
  go_wp2_with fail
  (with_reducible refine (clean_at m s p 0 _ (HM.out _ G0.out) HC1.out).mono ?_)
  rintro e w1 ⟨rfl, hg⟩
  dsimp only
  have HG1 := Lib.hid (World.grownBy.trans G0.out hg)
  have HB1 := Lib.hid (bk_kept HB.out hg)
  clear hg
  go_wp2_with fail
  (with_reducible refine (clean_at m t q 0 _ (HM.out _ HG1.out) HC2.out).mono ?_)
  rintro e w2 ⟨rfl, hg⟩
  dsimp only
  have HG2 := Lib.hid (World.grownBy.trans HG1.out hg)
  have HB2 := Lib.hid (bk_kept HB1.out hg)
  clear hg
  go_wp2_with fail
  (with_reducible refine (has_at tb mb X p _ true (HT.out.stays HG2.out) (by omega) HF.out).mono ?_)
  rintro e w3 ⟨rfl, hg⟩
  dsimp only
  have HG3 := Lib.hid (World.grownBy.trans HG2.out hg)
  have HB3 := Lib.hid (bk_kept HB2.out hg)
  clear hg
  go_wp2_with fail
  (with_reducible refine (HD.out _).mono ?_)
  rintro e w4 ⟨rfl, hg⟩
  dsimp only
  have HG4 := Lib.hid (World.grownBy.trans HG3.out hg)
  have HB4 := Lib.hid (bk_kept HB3.out hg)
  clear hg
  go_wp2_with fail
  (with_reducible refine (has_at tb mb X q _ false (HT.out.stays HG4.out) (by omega) HE.out).mono ?_)
  rintro e w5 ⟨rfl, hg⟩
  dsimp only
  have HG5 := Lib.hid (World.grownBy.trans HG4.out hg)
  have HB5 := Lib.hid (bk_kept HB4.out hg)
  clear hg
  go_wp2_with fail
  (with_reducible refine (HA.out _ HG5.out).mono ?_)
  rintro e w6 ⟨rfl, hg⟩
  dsimp only
  have HG6 := Lib.hid (World.grownBy.trans HG5.out hg)
  have HB6 := Lib.hid (bk_kept HB5.out hg)
  clear hg
  obtain ⟨⟨c0, c1, c2, c3, c4⟩, ⟨f0, f1, f2, f3, f4⟩⟩ := cellsM HB6.out
  go_wp2
  obtain ⟨W9, hW9⟩ : ∃ W9, W5 w6 w.heap.size (.pointer none) (.string E0) (.string E0) (.slice none 0 0) (.int .i64 0) = W9 := ⟨_, rfl⟩
  have hb9 : W9.heap[w.heap.size]? = some (.cells zeroM 85 (0, 0)) := by rw [← hW9]; exact w5_bk HB6.out _ _ _ _ _
  have G9 : Hid (w.grownBy W9 none) := Lib.hid (by rw [← hW9]; exact w5_grown HG6.out (Nat.le_refl _) _ _ _ _ _)
  unfold W5 at hW9
  rw [hW9]
  clear hW9 c0 c1 c2 c3 c4 f0 f1 f2 f3 f4
  obtain ⟨⟨c0, c1, c2, c3, c4⟩, _⟩ := cellsM hb9
  exact bodyPost_ret (v := .tuple #[noMove, .int .i64 54]) (by simp [results, Tryz.results59, go_sem, c0, c1, c2, c3, c4]; rfl) rfl ⟨rfl, G9.out⟩
end Go.Proofs.YtichejodbohldaaGreatDoor
namespace Go.Proofs.YtichejodbohldaaGreatDoor
open Go.RowKit Go.Maps
set_option maxRecDepth 1000000
theorem OwnsS.cellAt {w : World} {base n c : Nat} {a : Option Addr} {L : List ByteArray} (h : OwnsS w base (.slice a n c) L) (j : Nat) (x : ByteArray) (hx : L[j]? = some x) : ∃ g, a = some ⟨g, 0, none⟩ ∧ w.cell? ⟨g, j, none⟩ = some (.string x) := by
  rcases h.2 with ⟨h1, h2⟩ | ⟨g, cap, cur, h1, h2, h3, h4, h5, h6, h7⟩
  · have := (List.getElem?_eq_some_iff.1 hx).1; omega
  · refine ⟨g, (Value.slice.inj h1).1, ?_⟩
    rw [cell_in h3]
    have e : (L.map Value.string)[j]? = some (.string x) := by rw [List.getElem?_map, hx]; rfl
    rw [← h7, List.getElem?_take] at e
    split at e
    · rw [← e, Array.getElem?_toList]
    · cases e
theorem wkeys_size {M : Tr} (hI : Inv M) (p : ByteArray) : ∀ k ∈ wkeys M p, Pth.withinS k p = true ∧ k.size ≤ 200 := by
  intro k hk
  unfold wkeys at hk
  obtain ⟨e, he, rfl⟩ := List.mem_map.1 hk
  have h1 := List.mem_filter.1 he
  obtain ⟨⟨L, j, e1, hL, _⟩, _⟩ := hI.key e h1.1
  exact ⟨by simpa using h1.2, by rw [e1]; exact hL.size⟩
theorem targsOk_snoc (ks : List ByteArray) (p q k : ByteArray) (h : targsOk ks p q = true) (hk : (Pth.cleanS (targS p q k)).2 = 0) : targsOk (ks ++ [k]) p q = true := by
  unfold targsOk at *
  rw [List.all_append, h]; simp [hk]
theorem targsOk_no (ks : List ByteArray) (p q k : ByteArray) (hm : k ∈ ks) (hk : ¬ (Pth.cleanS (targS p q k)).2 = 0) : targsOk ks p q = false := by
  unfold targsOk
  rw [List.all_eq_false]
  exact ⟨k, hm, by simp [hk]⟩
theorem w5_kept (w : World) (b : Nat) (x0 x1 x2 x3 x4 : Value) : w.grownBy (W5 w b x0 x1 x2 x3 x4) (some b) :=
  World.grownBy.trans (World.grownBy.trans (World.grownBy.trans (World.grownBy.trans (bk_set_grown _ _ _ _) (bk_set_grown _ _ _ _)) (bk_set_grown _ _ _ _)) (bk_set_grown _ _ _ _)) (bk_set_grown _ _ _ _)
theorem OwnsS.notM {w : World} {base b : Nat} {v : Value} {L : List ByteArray} {cs : Array Value} (h : OwnsS w base v L) (hb : w.heap[b]? = some (.cells cs 85 (0, 0))) (k : Nat) (hk : v.ownBlock = some k) : ¬ k = b := by
  intro e
  subst e
  rcases h.2 with ⟨e1, _⟩ | ⟨g, cap, cur, e1, e2, e3, _⟩
  · rw [e1] at hk; cases hk
  · have e4 : g = k := by rw [e1] at hk; simpa [Value.ownBlock] using hk
    subst e4
    rw [hb] at e3
    injection e3 with e3
    injection e3 with _ e5
    exact absurd e5 (by decide)
/-- What a plan comes to, where nothing is in the way but the targets' length. -/
def MayPlan (tb : Nat) (M : Tr) (p q : ByteArray) (lk : Nat) (w : World) (e : Ending) (w' : World) : Prop :=
  (targsOk (wkeys M p) p q = true ∧ YesPlan tb M p q lk w e w') ∨ (targsOk (wkeys M p) p q = false ∧ NoPlan 50 w e w')
set_option maxHeartbeats 8000000 in
theorem plan_may (tb mb : Nat) (X : As Gn) (s t : ByteArray) (m : Int) (w : World) (h : TreeIn w tb mb X) (hm : w.cell? ⟨0, 0, none⟩ = some (.int .i64 m)) (p q : ByteArray) (hc1 : Pth.cleanS s = (p, 0)) (hc2 : Pth.cleanS t = (q, 0)) (hps : p.size ≤ 200) (hqs : q.size ≤ 200) (L : List ByteArray) (hq : Pth.joinB L = q) (hL : Parts L) (k : Nat) (hk : L.length = k + 1) (hI : Inv (nds X)) (hf : hasT (nds X) p = true) (hd : Pth.withinS q p = false) (he : hasT (nds X) q = false) (ha : aheadT (nds X) L = false) :
    Calls Tryz.prog 59 #[.pointer (some ⟨tb, 0, none⟩), .string s, .string t] w (MayPlan tb (nds X) p q (lackN (nds X) L k) w) := by
  have HC1 := Lib.hid hc1
  have HC2 := Lib.hid hc2
  have HT := Lib.hid h
  have HF := Lib.hid hf
  have HE := Lib.hid he
  have HD : Hid (∀ V, Calls Tryz.prog 74 #[.string q, .string p] V fun e w' => e = .returned (.bool false) ∧ V.grownBy w' none) := Lib.hid fun V => by rw [← hd]; exact (Pth.within_any q p (by omega) V).mono fun e w' h => ⟨h.1, by rw [h.2]; exact World.grownBy.refl _ _⟩
  have HA : Hid (∀ V, w.grownBy V none → Calls Tryz.prog 52 #[.pointer (some ⟨tb, 0, none⟩), .string q] V fun e w' => e = .returned (.bool false) ∧ V.grownBy w' none) := Lib.hid fun V hV => by
    have := fileAhead_any tb mb X L V (h.stays hV) hL L.length (Nat.le_refl _)
    rw [upL_all, hq] at this
    unfold aheadT at ha
    rw [ha] at this
    exact this
  have hX : X.length ≤ 500 := by have := hI.len; rw [mapA_len] at this; exact this
  have hk12 : k ≤ 11 := by have := hL.len; omega
  obtain ⟨q', hq'⟩ : ∃ q', upL L k = q' := ⟨_, rfl⟩
  have HPA : Hid (∀ w', Calls Tryz.prog 72 #[.string q] w' fun e w1 => e = .returned (.string q') ∧ w'.grownBy w1 none) := Lib.hid fun w' => by
    have := parent_at L hL k (by omega) w'
    rw [← hk, upL_all, hq, hq'] at this
    exact this.mono fun e w1 h => ⟨h.1, by rw [h.2]; exact World.grownBy.refl _ _⟩
  obtain ⟨lk, hlk⟩ : ∃ lk, lackN (nds X) L k = lk := ⟨_, rfl⟩
  have HLK : Hid (∀ w', w.grownBy w' none → Calls Tryz.prog 54 #[.pointer (some ⟨tb, 0, none⟩), .string q'] w' fun e w1 => e = .returned (.int .i64 (lk : Int)) ∧ w'.grownBy w1 none) := Lib.hid fun w' hg => by rw [← hlk, ← hq']; exact lacking_any tb mb X L w' (h.stays hg) hL k (by omega)
  have HKS := Lib.hid (wkeys_size hI p)
  obtain ⟨ks, hks⟩ : ∃ ks, wkeys (nds X) p = ks := ⟨_, rfl⟩
  have HW : Hid (∀ w', w.grownBy w' none → Calls Tryz.prog 57 #[.pointer (some ⟨tb, 0, none⟩), .string p] w' (WRet w' ks)) := Lib.hid fun w' hg => by rw [← hks]; exact within_any tb mb X p w' (h.stays hg) (by omega) (by omega)
  obtain ⟨n, hn⟩ : ∃ n, ks.length = n := ⟨_, rfl⟩
  have hn2 : n ≤ 500 := by
    rw [← hn, ← hks]; unfold wkeys
    rw [List.length_map]
    have h1 := List.length_filter_le (fun e : ByteArray × Nd => Pth.withinS e.1 p) (nds X)
    rw [mapA_len] at h1
    omega
  have HN := Lib.hid hn
  unfold MayPlan YesPlan
  rw [hks] at HKS
  rw [hks, hlk]
  obtain ⟨W0, hW0⟩ : ∃ W0, w.alloc (.cells zeroM 85) = W0 := ⟨_, rfl⟩
  have G0 : Hid (w.grownBy W0 none) := Lib.hid (by rw [← hW0]; exact World.grownBy_alloc _ _ _)
  have HB : Hid (W0.heap[w.heap.size]? = some (.cells zeroM 85 (0, 0))) := Lib.hid (by rw [← hW0]; exact bk_alloc _ _)
  have HM : Hid (∀ V : World, w.grownBy V none → V.cell? ⟨0, 0, none⟩ = some (.int .i64 m)) := Lib.hid fun V hV => hV.cell hm (by simp)
  unfold zeroM at hW0
  have hq20 : lk ≤ 100 := by rw [← hlk]; have := lackN_le (nds X) L k; omega
  clear hc1 hc2 hm h hf hd he ha hq hL hI hX hk hlk hks hq' hn
  go_enter Tryz.func59, Tryz.ntmps59
  go_wp2_with fail
  (with_reducible refine (clean_at m s p 0 _ (HM.out _ G0.out) HC1.out).mono ?_)
  rintro e w1 ⟨rfl, hg⟩
  dsimp only
  have HG1 := Lib.hid (World.grownBy.trans G0.out hg)
  have HB1 := Lib.hid (bk_kept HB.out hg)
  clear hg
  go_wp2_with fail
  (with_reducible refine (clean_at m t q 0 _ (HM.out _ HG1.out) HC2.out).mono ?_)
  rintro e w2 ⟨rfl, hg⟩
  dsimp only
  have HG2 := Lib.hid (World.grownBy.trans HG1.out hg)
  have HB2 := Lib.hid (bk_kept HB1.out hg)
  clear hg
  go_wp2_with fail
  (with_reducible refine (has_at tb mb X p _ true (HT.out.stays HG2.out) (by omega) HF.out).mono ?_)
  rintro e w3 ⟨rfl, hg⟩
  dsimp only
  have HG3 := Lib.hid (World.grownBy.trans HG2.out hg)
  have HB3 := Lib.hid (bk_kept HB2.out hg)
  clear hg
  go_wp2_with fail
  (with_reducible refine (HD.out _).mono ?_)
  rintro e w4 ⟨rfl, hg⟩
  dsimp only
  have HG4 := Lib.hid (World.grownBy.trans HG3.out hg)
  have HB4 := Lib.hid (bk_kept HB3.out hg)
  clear hg
  go_wp2_with fail
  (with_reducible refine (has_at tb mb X q _ false (HT.out.stays HG4.out) (by omega) HE.out).mono ?_)
  rintro e w5 ⟨rfl, hg⟩
  dsimp only
  have HG5 := Lib.hid (World.grownBy.trans HG4.out hg)
  have HB5 := Lib.hid (bk_kept HB4.out hg)
  clear hg
  go_wp2_with fail
  (with_reducible refine (HA.out _ HG5.out).mono ?_)
  rintro e w6 ⟨rfl, hg⟩
  dsimp only
  have HG6 := Lib.hid (World.grownBy.trans HG5.out hg)
  have HB6 := Lib.hid (bk_kept HB5.out hg)
  clear hg
  go_wp2_with fail
  (with_reducible refine (HW.out _ HG6.out).mono ?_)
  rintro e w7 ⟨a, c, rfl, ho7, hg⟩
  rw [HN.out] at ho7
  rw [HN.out]
  dsimp only
  have HO7 := Lib.hid (ho7.mono HG6.out.size)
  have HG7 := Lib.hid (World.grownBy.trans HG6.out hg)
  have HB7 := Lib.hid (bk_kept HB6.out hg)
  clear ho7 hg
  go_wp2_with fail
  (with_reducible refine (HPA.out _).mono ?_)
  rintro e w8 ⟨rfl, hg⟩
  dsimp only
  have HG8 := Lib.hid (World.grownBy.trans HG7.out hg)
  have HB8 := Lib.hid (bk_kept HB7.out hg)
  have HG8' := Lib.hid hg
  clear hg
  go_wp2_with fail
  (with_reducible refine (HLK.out _ HG8.out).mono ?_)
  rintro e w9 ⟨rfl, hg⟩
  dsimp only
  have HG9 := Lib.hid (World.grownBy.trans HG8.out hg)
  have HB9 := Lib.hid (bk_kept HB8.out hg)
  have HG9' := Lib.hid hg
  clear hg
  obtain ⟨bx, hbx⟩ : ∃ bx, w9.heap.size = bx := ⟨_, rfl⟩
  obtain ⟨W10, hW10⟩ : ∃ W10, w9.alloc (.cells #[.pointer (some ⟨tb, 0, none⟩), .string p, .string q, .slice a n c, .int .i64 (lk : Int)] 85) = W10 := ⟨_, rfl⟩
  have G10 : Hid (w9.grownBy W10 none) := Lib.hid (by rw [← hW10]; exact World.grownBy_alloc _ _ _)
  have HBX : Hid (W10.heap[bx]? = some (.cells #[.pointer (some ⟨tb, 0, none⟩), .string p, .string q, .slice a n c, .int .i64 (lk : Int)] 85 (0, 0))) := Lib.hid (by rw [← hW10, ← hbx]; exact bk_alloc _ _)
  obtain ⟨⟨d0, d1, d2, d3, d4⟩, _⟩ := cellsM HBX.out
  go_wp2_with fail
  try rw [hW10]
  try rw [hbx]
  clear hW10 d0 d1 d2 d3 d4
  have HL : Hid (∀ V : World, W10.grownBy V none → V.heap[w.heap.size]? = some (.cells zeroM 85 (0, 0)) ∧ V.heap[bx]? = some (.cells #[.pointer (some ⟨tb, 0, none⟩), .string p, .string q, .slice a n c, .int .i64 (lk : Int)] 85 (0, 0)) ∧ OwnsS V w.heap.size (.slice a n c) ks ∧ w.grownBy V none) := Lib.hid fun V hV =>
    ⟨bk_kept (bk_kept HB9.out G10.out) hV, bk_kept HBX.out hV, (((HO7.out.stays HG8'.out).stays HG9'.out).stays G10.out).stays hV, World.grownBy.trans (World.grownBy.trans HG9.out G10.out) hV⟩
  clear hbx
  go_loopw [68] (fun i wr => ∃ j : Nat, j ≤ n ∧ i = .int .i64 (j : Int) ∧ Hid (W10.grownBy wr none ∧ targsOk (ks.take j) p q = true)) (fun i _ => n - (intOf i).toNat)
  case atStart => exact ⟨0, Nat.zero_le _, rfl, Lib.hid ⟨World.grownBy.refl _ _, rfl⟩⟩
  case round =>
    obtain ⟨j, hj, rfl, HS⟩ := hrel
    have HV := Lib.hid (HL.out wr HS.out.1)
    by_cases hjn : j < n
    · obtain ⟨x, hx⟩ : ∃ x, ks[j]? = some x := ⟨ks[j]'(by rw [HN.out]; exact hjn), List.getElem?_eq_getElem _⟩
      obtain ⟨g, hag, hcell⟩ := HV.out.2.2.1.cellAt j x hx
      subst hag
      obtain ⟨⟨d0, d1, d2, d3, d4⟩, _⟩ := cellsM HV.out.2.1
      have hxm : x ∈ ks := List.mem_of_getElem? hx
      obtain ⟨hxw, hxs⟩ := HKS.out x hxm
      have hpx := within_size hxw
      have HX := Lib.hid (And.intro hx hxm)
      have j0 : (0 : Int) ≤ (j : Int) := by omega
      clear hx hxm hxw
      obtain ⟨y, hy⟩ : ∃ y, targS p q x = y := ⟨_, rfl⟩
      have HY := Lib.hid hy
      have HTA : Hid (∀ V, Calls Tryz.prog 76 #[.agg #[.pointer (some ⟨tb, 0, none⟩), .string p, .string q, .slice (some ⟨g, 0, none⟩) n c, .int .i64 (lk : Int)], .string x] V fun e w' => e = .returned (.string y) ∧ V.grownBy w' none) := Lib.hid fun V => by rw [← hy]; exact target_any _ p q x _ n c lk V hpx (by omega) (by omega)
      clear hy
      rcases clean_ways y with ⟨L2, hcy, _⟩ | ⟨q2, hcy, hq2, _, _⟩
      · have HCY := Lib.hid hcy
        have HOK : Hid (targsOk (ks.take (j + 1)) p q = true) := Lib.hid (by
          rw [take_snocL ks j x HX.out.1]
          exact targsOk_snoc _ _ _ _ HS.out.2 (by rw [HY.out, hcy]))
        clear hcy
        go_wp2_with fail
        (with_reducible refine (HTA.out _).mono ?_)
        rintro e v1 ⟨rfl, hg⟩
        dsimp only
        have HV1 := Lib.hid hg
        clear hg
        go_wp2_with fail
        (with_reducible refine (clean_at m y _ 0 _ (HM.out _ (World.grownBy.trans HV.out.2.2.2 HV1.out)) HCY.out).mono ?_)
        rintro e v2 ⟨rfl, hg⟩
        dsimp only
        have HV2 := Lib.hid (World.grownBy.trans (World.grownBy.trans HS.out.1 HV1.out) hg)
        clear hg d0 d1 d2 d3 d4 hcell
        go_wp2_with fail
        go_roundw
        case rel => exact ⟨j + 1, by omega, by go_num, Lib.hid ⟨HV2.out, HOK.out⟩⟩
        case measure => simp [intOf]; omega
      · have HCY := Lib.hid hcy
        have HNO : Hid (targsOk ks p q = false) := Lib.hid (targsOk_no _ _ _ _ HX.out.2 (by rw [HY.out, hcy]; exact hq2))
        have q4 : (q2 != 0) = true := by simp [hq2]
        have q5 : (q2 == 0) = false := by simp [hq2]
        clear hcy
        go_wp2_with fail
        (with_reducible refine (HTA.out _).mono ?_)
        rintro e v1 ⟨rfl, hg⟩
        dsimp only
        have HV1 := Lib.hid hg
        clear hg
        go_wp2_with fail
        (with_reducible refine (clean_at m y _ q2 _ (HM.out _ (World.grownBy.trans HV.out.2.2.2 HV1.out)) HCY.out).mono ?_)
        rintro e v2 ⟨rfl, hg⟩
        dsimp only
        have HV2 := Lib.hid (HL.out v2 (World.grownBy.trans (World.grownBy.trans HS.out.1 HV1.out) hg))
        clear hg d0 d1 d2 d3 d4 hcell
        obtain ⟨⟨c0, c1, c2, c3, c4⟩, ⟨f0, f1, f2, f3, f4⟩⟩ := cellsM HV2.out.1
        go_wp2
        obtain ⟨W9, hW9⟩ : ∃ W9, W5 v2 w.heap.size (.pointer none) (.string E0) (.string E0) (.slice none 0 0) (.int .i64 0) = W9 := ⟨_, rfl⟩
        have hb9 : W9.heap[w.heap.size]? = some (.cells zeroM 85 (0, 0)) := by rw [← hW9]; exact w5_bk HV2.out.1 _ _ _ _ _
        have G9 : Hid (w.grownBy W9 none) := Lib.hid (by rw [← hW9]; exact w5_grown HV2.out.2.2.2 (Nat.le_refl _) _ _ _ _ _)
        unfold W5 at hW9
        rw [hW9]
        clear hW9 c0 c1 c2 c3 c4 f0 f1 f2 f3 f4
        obtain ⟨⟨c0, c1, c2, c3, c4⟩, _⟩ := cellsM hb9
        exact bodyPost_ret (v := .tuple #[noMove, .int .i64 50]) (by simp [results, Tryz.results59, go_sem, c0, c1, c2, c3, c4]; rfl) rfl (.inr ⟨HNO.out, rfl, G9.out⟩)
    · have hjn' : j = n := by omega
      have HOK : Hid (targsOk ks p q = true) := Lib.hid (by have := HS.out.2; rw [hjn', List.take_of_length_le (by rw [HN.out]; exact Nat.le_refl _)] at this; exact this)
      obtain ⟨⟨c0, c1, c2, c3, c4⟩, ⟨f0, f1, f2, f3, f4⟩⟩ := cellsM HV.out.1
      obtain ⟨⟨d0, d1, d2, d3, d4⟩, _⟩ := cellsM HV.out.2.1
      go_wp2
      obtain ⟨W9, hW9⟩ : ∃ W9, W5 wr w.heap.size (.pointer (some ⟨tb, 0, none⟩)) (.string p) (.string q) (.slice a n c) (.int .i64 (lk : Int)) = W9 := ⟨_, rfl⟩
      have hb9 := w5_bk HV.out.1 (.pointer (some ⟨tb, 0, none⟩)) (.string p) (.string q) (.slice a n c) (.int .i64 (lk : Int))
      have G9 : Hid (w.grownBy W9 none) := Lib.hid (by rw [← hW9]; exact w5_grown HV.out.2.2.2 (Nat.le_refl _) _ _ _ _ _)
      have HO9 : Hid (OwnsS W9 w.heap.size (.slice a n c) ks) := Lib.hid (HV.out.2.2.1.keeps (Kept.of (r := some w.heap.size) (by rw [← hW9]; exact w5_kept _ _ _ _ _ _ _) (fun k => k = w.heap.size) fun k e => (Option.some.inj e).symm) fun k hk e => by
        subst e
        exact HV.out.2.2.1.notM HV.out.1 _ hk rfl)
      rw [hW9] at hb9
      unfold W5 at hW9
      rw [hW9]
      clear hW9 c0 c1 c2 c3 c4 f0 f1 f2 f3 f4 d0 d1 d2 d3 d4
      obtain ⟨⟨c0, c1, c2, c3, c4⟩, _⟩ := cellsM hb9
      exact bodyPost_ret (v := .tuple #[.agg #[.pointer (some ⟨tb, 0, none⟩), .string p, .string q, .slice a n c, .int .i64 (lk : Int)], .int .i64 0]) (by simp [results, Tryz.results59, go_sem, c0, c1, c2, c3, c4]) rfl (.inl ⟨HOK.out, a, c, by rw [HN.out], by rw [HN.out]; exact HO9.out, G9.out⟩)
end Go.Proofs.YtichejodbohldaaGreatDoor
namespace Go.Proofs.YtichejodbohldaaGreatDoor
open Go.RowKit Go.Maps
set_option maxRecDepth 1000000
/-- Node k goes to q. -/
def movA {α : Type} (M : As α) (k q : ByteArray) : As α := match getA M k with
  | none => M
  | some n => putA (delA M k) q n
theorem del_size_le (M : Tr) (hM : AscA M) (k : ByteArray) : sizeT (delA M k) ≤ sizeT M := by
  have := size_del M hM k
  omega
theorem del_len_le {α : Type} (M : As α) (k : ByteArray) : (delA M k).length ≤ M.length := List.length_filter_le _ _
theorem TreeIn.boxed {w : World} {tb mb b : Nat} {X : As Gn} {cs : Array Value} (h : TreeIn w tb mb X) (hb : w.heap[b]? = some (.cells cs 25 (0, 0))) : ¬ (b = tb ∨ b = mb) := by
  rintro (rfl | rfl)
  · have h1 := h.head
    rw [hb] at h1
    injection h1 with h1
    injection h1 with _ h2
    exact absurd h2 (by decide)
  · exact h.map.no_cells hb
set_option maxHeartbeats 8000000 in
theorem rename1_any (tb mb b3 : Nat) (X : As Gn) (k q : ByteArray) (g : Gn) (d : Bool) (a : Option Addr) (n c : Nat) (w : World) (h : TreeIn w tb mb X) (hg : getA X k = some g) (hd : g.nd.dir = d) (hv : g.v = .slice a n c) (hk : k.size ≤ 1000) (hq : q.size ≤ 1000) (hX : X.length ≤ 100000) (hs : sizeT (nds X) ≤ 10000000) (hn : g.nd.b.length ≤ 1000000)
    (hb3 : w.heap[b3]? = some (.cells #[.pointer (some ⟨tb, 0, none⟩)] 25 (0, 0))) :
    Calls Tryz.prog 61 #[.string k, .string q, .agg #[.bool d, .slice a n c], .pointer (some ⟨b3, 0, none⟩)] w fun e w' => e = .returned (.tuple #[]) ∧ TreeIn w' tb mb (movA X k q) ∧ Kept w w' (fun k => k = tb ∨ k = mb) := by
  obtain ⟨W0, hW0⟩ : ∃ W0, w.alloc (.cells #[.bool d, .slice a n c] 81) = W0 := ⟨_, rfl⟩
  obtain ⟨bx, hbx⟩ : ∃ bx, w.heap.size = bx := ⟨_, rfl⟩
  have g0 : w.grownBy W0 none := by rw [← hW0]; exact World.grownBy_alloc _ _ _
  have HBX : Hid (W0.heap[bx]? = some (.cells #[.bool d, .slice a n c] 81 (0, 0))) := Lib.hid (by rw [← hW0, ← hbx]; exact bk_alloc _ _)
  have G0 := Lib.hid g0
  have HT0 := Lib.hid (h.stays g0)
  have HB0 := Lib.hid (bk_kept hb3 g0)
  have HM : Hid (movA X k q = putA (delA X k) q g) := Lib.hid (by unfold movA; rw [hg])
  have HR : Hid (Owns W0 0 g.v g.nd.b) := Lib.hid ((h.row _ (mem_get hg)).stays g0)
  have HV := Lib.hid (And.intro hd hv)
  have HAP : Hid (∀ j, g.v.ownBlock = some j → ∀ e ∈ delA X k, ¬ e.1 = q → e.2.v.ownBlock ≠ some j) := Lib.hid fun j hj e he _ => by
    have h1 := List.mem_filter.1 he
    exact h.others hg j hj e h1.1 (by simpa using h1.2)
  have HSZ : Hid ((delA X k).length ≤ 1000000 ∧ sizeT (nds (delA X k)) ≤ 100000000) := Lib.hid ⟨by have := del_len_le X k; omega, by rw [nds_del]; have := del_size_le (nds X) (h.asc.map _) k; omega⟩
  have hcb := (bk_cell HB0.out 0 _ rfl).1
  have HG : Hid (g.val = .agg #[.bool d, .slice a n c]) := Lib.hid (by unfold Gn.val; rw [hd, hv])
  clear h hg hd hv hb3 g0
  go_enter Tryz.func61, Tryz.ntmps61
  go_wp2_with fail
  try rw [hW0]
  try rw [hbx]
  (with_reducible refine (drop_any tb mb X k _ HT0.out (by omega) (by omega)).mono ?_)
  rintro e w1 ⟨rfl, ht, hk1⟩
  dsimp only
  have HT1 := Lib.hid ht
  have HK1 := Lib.hid hk1
  have HB1 := Lib.hid (hk1.bk HB0.out (HT0.out.boxed HB0.out))
  have HBX1 : Hid (w1.heap[bx]? = some (.cells #[.bool d, .slice a n c] 81 (0, 0))) := Lib.hid (hk1.bk HBX.out (by
    rintro (e | e)
    · have h1 := HT0.out.head
      rw [← e, HBX.out] at h1
      injection h1 with h1
      injection h1 with _ h2
      exact absurd h2 (by decide)
    · have h1 := HT0.out.map
      rw [← e] at h1
      exact h1.no_cells HBX.out))
  have HR1 : Hid (Owns w1 0 g.v g.nd.b) := Lib.hid (HR.out.keeps hk1 (HT0.out.apart_of HR.out))
  have HS : Hid (Calls Tryz.prog 62 #[.pointer (some ⟨tb, 0, none⟩), .string q, .agg #[.bool d, .slice a n c]] w1 fun e w' => e = .returned (.tuple #[]) ∧ TreeIn w' tb mb (putA (delA X k) q g) ∧ Kept w1 w' (fun k => k = tb ∨ k = mb)) := Lib.hid (by
    rw [← HG.out]
    exact set_any tb mb (delA X k) q g w1 HT1.out (by omega) HSZ.out.1 HSZ.out.2 HR1.out (by omega) HAP.out)
  clear ht hk1 hcb hW0 hbx
  have hcb := (bk_cell HB1.out 0 _ rfl).1
  have b0 := (bk_cell HBX1.out 0 _ rfl).1
  have b1 := (bk_cell HBX1.out 1 _ rfl).1
  go_wp2_with fail
  (with_reducible refine HS.out.mono ?_)
  rintro e w2 ⟨rfl, ht, hk2⟩
  dsimp only
  have HT2 := Lib.hid ht
  have HK2 := Lib.hid (((Kept.ofNone G0.out _).trans HK1.out fun i e => .inl e).trans hk2 fun i e => .inl e)
  clear ht hk2
  go_wp2
  exact bodyPost_end (results_none rfl _ _ _) rfl ⟨rfl, by rw [HM.out]; exact HT2.out, HK2.out⟩
end Go.Proofs.YtichejodbohldaaGreatDoor
namespace Go.Proofs.YtichejodbohldaaGreatDoor
open Go.RowKit Go.Maps
set_option maxRecDepth 1000000
/-- What a function does with each node. -/
def EachOk (f : FuncId) (b3 tb mb : Nat) (p q : ByteArray) (step : Tr → ByteArray → Tr) : Prop :=
  ∀ (V : World) (X : As Gn) (x : ByteArray) (g : Gn) (d : Bool) (a : Option Addr) (n c : Nat), TreeIn V tb mb X → V.heap[b3]? = some (.cells #[.pointer (some ⟨tb, 0, none⟩)] 25 (0, 0)) →
    getA X x = some g → g.nd.dir = d → g.v = .slice a n c → x.size ≤ 1000 → (targS p q x).size ≤ 1000 → X.length ≤ 100000 → sizeT (nds X) ≤ 10000000 → g.nd.b.length ≤ 1000000 →
    Calls Tryz.prog f #[.string x, .string (targS p q x), .agg #[.bool d, .slice a n c], .pointer (some ⟨b3, 0, none⟩)] V fun e V' => e = .returned (.tuple #[]) ∧ ∃ X', TreeIn V' tb mb X' ∧ nds X' = step (nds X) x ∧ Kept V V' (Own tb mb X) ∧ ∀ j, Own tb mb X' j → Own tb mb X j ∨ V.heap.size ≤ j
theorem own_movA {tb mb : Nat} {X : As Gn} {k q : ByteArray} {g : Gn} (hg : getA X k = some g) : ∀ j, Own tb mb (movA X k q) j → Own tb mb X j := by
  intro j hj
  unfold movA at hj
  rw [hg] at hj
  rcases hj with h | h | ⟨e, he, h⟩
  · exact .inl h
  · exact .inr (.inl h)
  · rcases mem_put he with rfl | he
    · exact .inr (.inr ⟨_, mem_get hg, h⟩)
    · exact .inr (.inr ⟨e, (List.mem_filter.1 he).1, h⟩)
theorem nds_movA (X : As Gn) (k q : ByteArray) : nds (movA X k q) = movA (nds X) k q := by
  unfold movA
  rw [nds_get]
  cases getA X k with
  | none => rfl
  | some g => rw [Option.map_some, nds_put, nds_del]
theorem rename_each (b3 tb mb : Nat) (p q : ByteArray) : EachOk 61 b3 tb mb p q fun M x => movA M x (targS p q x) := by
  intro V X x g d a n c ht hb hg hd hv hx hq hX hs hn
  refine (rename1_any tb mb b3 X x (targS p q x) g d a n c V ht hg hd hv hx hq hX hs hn hb).mono ?_
  rintro e V' ⟨h1, h2, h3⟩
  exact ⟨h1, _, h2, nds_movA _ _ _, h3.mono fun i _ e => two_own e, fun j hj => .inl (own_movA hg j hj)⟩
/-- A block of another kind is none of a tree's. -/
theorem TreeIn.notOwn {w : World} {tb mb b : Nat} {X : As Gn} {cs : Array Value} {T : TypeId} (h : TreeIn w tb mb X) (hb : w.heap[b]? = some (.cells cs T (0, 0))) (h1 : T ≠ 72) (h2 : T ≠ 5) : ¬ Own tb mb X b := by
  rintro (rfl | rfl | ⟨e, he, hk⟩)
  · have h3 := h.head
    rw [hb] at h3
    injection h3 with h3
    injection h3 with _ h4
    exact h1 h4
  · exact h.map.no_cells hb
  · exact (h.row e he).apart hb h2 hk
theorem OwnsS.notOwn {w : World} {tb mb base : Nat} {X : As Gn} {v : Value} {L : List ByteArray} (h : TreeIn w tb mb X) (ho : OwnsS w base v L) (k : Nat) (hk : v.ownBlock = some k) : ¬ Own tb mb X k := by
  rcases ho.2 with ⟨e1, _⟩ | ⟨g, cap, cur, e1, e2, e3, _⟩
  · rw [e1] at hk; cases hk
  · have e4 : g = k := by rw [e1] at hk; simpa [Value.ownBlock] using hk
    subst e4
    exact h.notOwn e3 (by decide) (by decide)
/-- What is left when k nodes are done. -/
def doneN (step : Tr → ByteArray → Tr) (M : Tr) (ks : List ByteArray) : Tr := ks.foldl step M
theorem doneN_snoc (step : Tr → ByteArray → Tr) (M : Tr) (ks : List ByteArray) (k : ByteArray) : doneN step M (ks ++ [k]) = step (doneN step M ks) k := by unfold doneN; rw [List.foldl_append]; rfl
set_option maxHeartbeats 8000000 in
theorem do_any (f : FuncId) (b3 tb mb : Nat) (X : As Gn) (p q : ByteArray) (L : List ByteArray) (k : Nat) (hk : L.length = k + 1) (hL : Parts L) (hqL : Pth.joinB L = q) (a : Option Addr) (n c : Nat) (ks : List ByteArray) (lk : Int) (step : Tr → ByteArray → Tr) (w : World)
    (eg : ∀ args w, (callFunc f args).run Tryz.prog w = .ok (.enter f args) w) (hE : EachOk f b3 tb mb p q step) (h : TreeIn w tb mb X) (hb3 : w.heap[b3]? = some (.cells #[.pointer (some ⟨tb, 0, none⟩)] 25 (0, 0)))
    (ho : OwnsS w 0 (.slice a n c) ks) (hn : ks.length = n) (hn2 : n ≤ 100000) (hX : X.length ≤ 800000) (hs : sizeT (nds X) ≤ 10000000)
    (hsz : ∀ x ∈ ks, p.size ≤ x.size ∧ x.size ≤ 200 ∧ q.size ≤ 200)
    (hst : ∀ j x, ks[j]? = some x → ∃ nd, getA (doneN step (mkN (nds X) L k) (ks.take j)) x = some nd ∧ nd.b.length ≤ 1000000)
    (hbd : ∀ j, j ≤ n → (doneN step (mkN (nds X) L k) (ks.take j)).length ≤ 100000 ∧ sizeT (doneN step (mkN (nds X) L k) (ks.take j)) ≤ 10000000) :
    Calls Tryz.prog 60 #[.agg #[.pointer (some ⟨tb, 0, none⟩), .string p, .string q, .slice a n c, .int .i64 lk], .func (.func f) #[] #[.pointer (some ⟨b3, 0, none⟩)]] w fun e w' => e = .returned (.tuple #[]) ∧
      ∃ X', TreeIn w' tb mb X' ∧ nds X' = doneN step (mkN (nds X) L k) ks ∧ Kept w w' (Own tb mb X) ∧ ∀ j, Own tb mb X' j → Own tb mb X j ∨ w.heap.size ≤ j := by
  obtain ⟨W0, hW0⟩ : ∃ W0, w.alloc (.cells #[.pointer (some ⟨tb, 0, none⟩), .string p, .string q, .slice a n c, .int .i64 lk] 85) = W0 := ⟨_, rfl⟩
  obtain ⟨bx, hbx⟩ : ∃ bx, w.heap.size = bx := ⟨_, rfl⟩
  have g0 : w.grownBy W0 none := by rw [← hW0]; exact World.grownBy_alloc _ _ _
  have HBX : Hid (W0.heap[bx]? = some (.cells #[.pointer (some ⟨tb, 0, none⟩), .string p, .string q, .slice a n c, .int .i64 lk] 85 (0, 0))) := Lib.hid (by rw [← hW0, ← hbx]; exact bk_alloc _ _)
  have G0 := Lib.hid g0
  have GD : Hid (W0.grownBy W0.drew none) := Lib.hid ⟨rfl, rfl, rfl, Nat.le_refl _, fun _ _ _ => rfl⟩
  have HSB : Hid (∀ V : World, W0.grownBy V none → V.cell? ⟨bx, 0, none⟩ = some (.pointer (some ⟨tb, 0, none⟩)) ∧ V.cell? ⟨bx, 2, none⟩ = some (.string q)) := Lib.hid fun V hV => ⟨(cellsM (bk_kept HBX.out hV)).1.1, (cellsM (bk_kept HBX.out hV)).1.2.2.1⟩
  have HMK : Hid (Calls Tryz.prog 55 #[.pointer (some ⟨tb, 0, none⟩), .string (upL L k)] W0.drew fun e w1 => e = .returned (.tuple #[]) ∧ TreeIn w1 tb mb (mkX X L k) ∧ Kept W0.drew w1 (fun k => k = tb ∨ k = mb)) := Lib.hid (makeDirs_any tb mb X L W0.drew ((h.stays g0).stays GD.out) hL k (by omega) (by omega) (by omega))
  have HPA : Hid (∀ w', Calls Tryz.prog 72 #[.string q] w' fun e w1 => e = .returned (.string (upL L k)) ∧ w' = w1) := Lib.hid fun w' => by
    have := parent_at L hL k (by omega) w'
    rw [← hk, upL_all, hqL] at this
    exact this.mono fun e w1 h => ⟨h.1, h.2.symm⟩
  have hbxn : ¬ (bx = tb ∨ bx = mb) := by
    rintro (e | e)
    · have := h.own_lt (.inl rfl : Own tb mb X tb); omega
    · have := h.own_lt (.inr (.inl rfl) : Own tb mb X mb); omega
  have HSK : Hid (∀ V : World, Kept W0.drew V (fun k => k = tb ∨ k = mb) → V.cell? ⟨bx, 0, none⟩ = some (.pointer (some ⟨tb, 0, none⟩)) ∧ V.cell? ⟨bx, 2, none⟩ = some (.string q)) := Lib.hid fun V hV => by
    have hb := hV.bk (bk_kept HBX.out GD.out) hbxn
    exact ⟨(cellsM hb).1.1, (cellsM hb).1.2.2.1⟩
  have HTW := Lib.hid h
  have HB3 := Lib.hid hb3
  have HOW := Lib.hid ho
  have HN := Lib.hid hn
  have HSZ := Lib.hid hsz
  have HST := Lib.hid hst
  have HBD := Lib.hid hbd
  have HE := Lib.hid hE
  have hmk1 : sizeT (mkN (nds X) L k) = sizeT (nds X) := mkN_size L k _ (h.asc.map _)
  clear h hb3 ho hn hsz hst hbd hE hL hqL hbxn g0
  go_enter Tryz.func60, Tryz.ntmps60
  go_wp2_with fail
  try rw [hW0]
  try rw [hbx]
  go_region_held3 (fun V => V.cell? ⟨bx, 0, none⟩ = some (.pointer (some ⟨tb, 0, none⟩)) ∧ V.cell? ⟨bx, 2, none⟩ = some (.string q)) (first | (with_reducible exact HSB.out _ GD.out) | (with_reducible exact HSK.out _ HK3.out)) (first | ((with_reducible refine (HPA.out _).mono ?_); rintro e w2 ⟨rfl, rfl⟩) | ((with_reducible refine HMK.out.mono ?_); rintro e w3 ⟨rfl, ht3, hk3⟩; have HT3 := Lib.hid ht3; have HK3 := Lib.hid hk3; clear ht3 hk3))
  have HR : Hid (w3.heap[bx]? = some (.cells #[.pointer (some ⟨tb, 0, none⟩), .string p, .string q, .slice a n c, .int .i64 lk] 85 (0, 0)) ∧ w3.heap[b3]? = some (.cells #[.pointer (some ⟨tb, 0, none⟩)] 25 (0, 0)) ∧ OwnsS w3 0 (.slice a n c) ks ∧ Kept w w3 (Own tb mb X) ∧ ∀ j, Own tb mb (mkX X L k) j → Own tb mb X j) := Lib.hid (by
    have g1 : w.grownBy W0.drew none := World.grownBy.trans G0.out GD.out
    have ht := HTW.out.stays g1
    exact ⟨HK3.out.bk (bk_kept HBX.out GD.out) (fun e => ht.notOwn (bk_kept HBX.out GD.out) (by decide) (by decide) (two_own e)),
      HK3.out.bk (bk_kept HB3.out g1) (fun e => ht.notOwn (bk_kept HB3.out g1) (by decide) (by decide) (two_own e)),
      (HOW.out.stays g1).keeps HK3.out (fun j hj e => OwnsS.notOwn ht (HOW.out.stays g1) j hj (two_own e)),
      (Kept.ofNone g1 _).trans (HK3.out.mono fun i _ e => two_own e) (fun i e => .inl e),
      fun j hj => by
        rcases hj with h | h | ⟨e, he, h⟩
        · exact .inl h
        · exact .inr (.inl h)
        · rcases mem_mk L k X e he with he | he
          · exact .inr (.inr ⟨e, he, h⟩)
          · rw [he] at h; cases h⟩)
  obtain ⟨⟨d0, d1, d2, d3, d4⟩, _⟩ := cellsM HR.out.1
  go_wp2_with fail
  clear d0 d1 d2 d3 d4
  go_loopw [15] (fun i wr => ∃ j : Nat, j ≤ n ∧ i = .int .i64 (j : Int) ∧ Hid (∃ X', TreeIn wr tb mb X' ∧ nds X' = doneN step (mkN (nds X) L k) (ks.take j) ∧ wr.heap[bx]? = some (.cells #[.pointer (some ⟨tb, 0, none⟩), .string p, .string q, .slice a n c, .int .i64 lk] 85 (0, 0)) ∧ wr.heap[b3]? = some (.cells #[.pointer (some ⟨tb, 0, none⟩)] 25 (0, 0)) ∧ OwnsS wr 0 (.slice a n c) ks ∧ Kept w wr (Own tb mb X) ∧ ∀ j, Own tb mb X' j → Own tb mb X j ∨ w.heap.size ≤ j)) (fun i _ => n - (intOf i).toNat)
  case atStart => exact ⟨0, Nat.zero_le _, rfl, Lib.hid ⟨mkX X L k, HT3.out, by rw [nds_mk]; rfl, HR.out.1, HR.out.2.1, HR.out.2.2.1, HR.out.2.2.2.1, fun j hj => .inl (HR.out.2.2.2.2 j hj)⟩⟩
  case round =>
    obtain ⟨j, hj, rfl, HS⟩ := hrel
    obtain ⟨X', HX⟩ : ∃ X', Hid (TreeIn wr tb mb X' ∧ nds X' = doneN step (mkN (nds X) L k) (ks.take j) ∧ wr.heap[bx]? = some (.cells #[.pointer (some ⟨tb, 0, none⟩), .string p, .string q, .slice a n c, .int .i64 lk] 85 (0, 0)) ∧ wr.heap[b3]? = some (.cells #[.pointer (some ⟨tb, 0, none⟩)] 25 (0, 0)) ∧ OwnsS wr 0 (.slice a n c) ks ∧ Kept w wr (Own tb mb X) ∧ ∀ j, Own tb mb X' j → Own tb mb X j ∨ w.heap.size ≤ j) := by
      obtain ⟨X', h⟩ := HS.out; exact ⟨X', Lib.hid h⟩
    clear HS
    by_cases hjn : j < n
    · obtain ⟨x, hx⟩ : ∃ x, ks[j]? = some x := ⟨ks[j]'(by rw [HN.out]; exact hjn), List.getElem?_eq_getElem _⟩
      obtain ⟨g0, hag, hcell⟩ := HX.out.2.2.2.2.1.cellAt j x hx
      subst hag
      have hxm : x ∈ ks := List.mem_of_getElem? hx
      obtain ⟨hx1, hx2, hx3⟩ := HSZ.out x hxm
      obtain ⟨nd, hnd, hndl⟩ := HST.out j x hx
      have hgx : ∃ g, getA X' x = some g ∧ g.nd = nd := by
        have h1 : getA (nds X') x = some nd := by rw [HX.out.2.1]; exact hnd
        rw [nds_get] at h1
        cases hg : getA X' x with
        | none => rw [hg] at h1; cases h1
        | some g => rw [hg] at h1; exact ⟨g, rfl, Option.some.inj h1⟩
      obtain ⟨g, hg, hgn⟩ := hgx
      obtain ⟨ag, cg, hgv⟩ := HX.out.1.slice hg
      obtain ⟨mg, hmg⟩ : ∃ mg, g.nd.b.length = mg := ⟨_, rfl⟩
      obtain ⟨dg, hdg⟩ : ∃ dg, g.nd.dir = dg := ⟨_, rfl⟩
      rw [hmg] at hgv
      have htl : (targS p q x).size ≤ 1000 := by
        unfold targS
        rw [ByteArray.size_append, ByteArray.size_extract]
        omega
      obtain ⟨y, hy⟩ : ∃ y, targS p q x = y := ⟨_, rfl⟩
      have HTA : Hid (∀ V, Calls Tryz.prog 76 #[.agg #[.pointer (some ⟨tb, 0, none⟩), .string p, .string q, .slice (some ⟨g0, 0, none⟩) n c, .int .i64 lk], .string x] V fun e w' => e = .returned (.string y) ∧ V.grownBy w' none) := Lib.hid fun V => by rw [← hy]; exact target_any _ p q x _ n c lk V hx1 (by omega) (by omega)
      have hbj := HBD.out j hj
      rw [← HX.out.2.1, show (nds X').length = X'.length from mapA_len _ _] at hbj
      have HEA : Hid (∀ V, wr.grownBy V none → Calls Tryz.prog f #[.string x, .string y, .agg #[.bool dg, .slice ag mg cg], .pointer (some ⟨b3, 0, none⟩)] V fun e V' => e = .returned (.tuple #[]) ∧ ∃ X'', TreeIn V' tb mb X'' ∧ nds X'' = step (nds X') x ∧ Kept V V' (Own tb mb X') ∧ ∀ j, Own tb mb X'' j → Own tb mb X' j ∨ V.heap.size ≤ j) := Lib.hid fun V hV => by
        rw [← hy]
        exact HE.out V X' x g dg ag mg cg (HX.out.1.stays hV) (bk_kept HX.out.2.2.2.1 hV) hg hdg hgv (by omega) htl hbj.1 hbj.2 (by rw [hgn]; exact hndl)
      have HSV : Hid (∀ V, wr.grownBy V none → (V.cell? ⟨bx, 0, none⟩ = some (.pointer (some ⟨tb, 0, none⟩)) ∧ V.cell? ⟨bx, 1, none⟩ = some (.string p) ∧ V.cell? ⟨bx, 2, none⟩ = some (.string q) ∧ V.cell? ⟨bx, 3, none⟩ = some (.slice (some ⟨g0, 0, none⟩) n c) ∧ V.cell? ⟨bx, 4, none⟩ = some (.int .i64 lk) ∧ V.cell? ⟨tb, 0, none⟩ = some (.map (some mb)))) := Lib.hid fun V hV => by
        obtain ⟨⟨d0, d1, d2, d3, d4⟩, _⟩ := cellsM (bk_kept HX.out.2.2.1 hV)
        exact ⟨d0, d1, d2, d3, d4, (HX.out.1.stays hV).cells.1⟩
      have HSW : Hid (∀ V V' X5, wr.grownBy V none → (TreeIn V' tb mb X5 ∧ nds X5 = step (nds X') x ∧ Kept V V' (Own tb mb X') ∧ ∀ j, Own tb mb X5 j → Own tb mb X' j ∨ V.heap.size ≤ j) → (V'.cell? ⟨bx, 0, none⟩ = some (.pointer (some ⟨tb, 0, none⟩)) ∧ V'.cell? ⟨bx, 1, none⟩ = some (.string p) ∧ V'.cell? ⟨bx, 2, none⟩ = some (.string q) ∧ V'.cell? ⟨bx, 3, none⟩ = some (.slice (some ⟨g0, 0, none⟩) n c) ∧ V'.cell? ⟨bx, 4, none⟩ = some (.int .i64 lk) ∧ V'.cell? ⟨tb, 0, none⟩ = some (.map (some mb)))) := Lib.hid fun V V' X5 hV h5 => by
        have hb := bk_kept HX.out.2.2.1 hV
        obtain ⟨⟨d0, d1, d2, d3, d4⟩, _⟩ := cellsM (h5.2.2.1.bk hb ((HX.out.1.stays hV).notOwn hb (by decide) (by decide)))
        exact ⟨d0, d1, d2, d3, d4, h5.1.cells.1⟩
      have HLO : Hid (∀ V, wr.grownBy V none → (Instr.lookup 70 (.map (some mb)) (.string x) false).run Tryz.prog V = .ok (.agg #[.bool dg, .slice ag mg cg]) V) := Lib.hid fun V hV => by
        rw [(HX.out.1.stays hV).look x (by omega), hg]
        simp only [Option.map_some, Option.getD_some, Gn.val, hgv, hdg]
      have j0 : (0 : Int) ≤ (j : Int) := by omega
      have HXX := Lib.hid hx
      have GR : Hid (wr.grownBy wr.drew none) := Lib.hid ⟨rfl, rfl, rfl, Nat.le_refl _, fun _ _ _ => rfl⟩
      have hl0 := HLO.out _ GR.out
      clear hx hxm hnd hndl hg hgn hgv hmg hdg htl hy hbj hx1 hx2 hx3
      go_wp2_with fail
      clear hcell
      go_region_held3 (fun V => V.cell? ⟨bx, 0, none⟩ = some (.pointer (some ⟨tb, 0, none⟩)) ∧ V.cell? ⟨bx, 1, none⟩ = some (.string p) ∧ V.cell? ⟨bx, 2, none⟩ = some (.string q) ∧ V.cell? ⟨bx, 3, none⟩ = some (.slice (some ⟨g0, 0, none⟩) n c) ∧ V.cell? ⟨bx, 4, none⟩ = some (.int .i64 lk) ∧ V.cell? ⟨tb, 0, none⟩ = some (.map (some mb))) (first | (with_reducible exact HSV.out _ GR.out) | (with_reducible exact HSV.out _ HV4.out) | (with_reducible exact HSW.out _ _ _ HV4.out H5.out)) (first | ((with_reducible refine (HTA.out _).mono ?_); rintro e w4 ⟨rfl, hg4⟩; have HV4 := Lib.hid (World.grownBy.trans GR.out hg4); have hl4 := HLO.out _ HV4.out; clear hg4) | ((with_reducible refine (HEA.out _ HV4.out).mono ?_); rintro e w5 ⟨rfl, X5, h5⟩; have H5 := Lib.hid h5; clear h5))
      all_goals
        clear hl0 hl4
        have HF : Hid (TreeIn w5 tb mb X5 ∧ nds X5 = doneN step (mkN (nds X) L k) (ks.take (j + 1)) ∧ w5.heap[bx]? = some (.cells #[.pointer (some ⟨tb, 0, none⟩), .string p, .string q, .slice (some ⟨g0, 0, none⟩) n c, .int .i64 lk] 85 (0, 0)) ∧ w5.heap[b3]? = some (.cells #[.pointer (some ⟨tb, 0, none⟩)] 25 (0, 0)) ∧ OwnsS w5 0 (.slice (some ⟨g0, 0, none⟩) n c) ks ∧ Kept w w5 (Own tb mb X) ∧ ∀ j, Own tb mb X5 j → Own tb mb X j ∨ w.heap.size ≤ j) := Lib.hid (by
          have h5 := H5.out
          have ht := HX.out.1.stays HV4.out
          have hb := bk_kept HX.out.2.2.1 HV4.out
          have hb3 := bk_kept HX.out.2.2.2.1 HV4.out
          have hos := HX.out.2.2.2.2.1.stays HV4.out
          refine ⟨h5.1, ?_, h5.2.2.1.bk hb (ht.notOwn hb (by decide) (by decide)), h5.2.2.1.bk hb3 (ht.notOwn hb3 (by decide) (by decide)), hos.keeps h5.2.2.1 (fun j hj e => OwnsS.notOwn ht hos j hj e), ((HX.out.2.2.2.2.2.1.then HV4.out).trans h5.2.2.1 fun i e => HX.out.2.2.2.2.2.2 i e), fun i hi => ?_⟩
          · rw [take_snocL ks j x HXX.out, doneN_snoc, ← HX.out.2.1]; exact h5.2.1
          · rcases h5.2.2.2 i hi with h | h
            · exact HX.out.2.2.2.2.2.2 i h
            · exact .inr (Nat.le_trans (Nat.le_trans HX.out.2.2.2.2.2.1.size HV4.out.size) h))
        go_wp2_with fail
        go_roundw
        case rel => exact ⟨j + 1, by omega, by go_num, Lib.hid ⟨X5, HF.out⟩⟩
        case measure => simp [intOf]; omega
    · have hjn' : j = n := by omega
      go_wp2
      refine bodyPost_end (results_none rfl _ _ _) rfl ⟨rfl, X', HX.out.1, ?_, HX.out.2.2.2.2.2.1, HX.out.2.2.2.2.2.2⟩
      rw [HX.out.2.1, hjn', List.take_of_length_le (by rw [HN.out]; exact Nat.le_refl _)]
end Go.Proofs.YtichejodbohldaaGreatDoor
