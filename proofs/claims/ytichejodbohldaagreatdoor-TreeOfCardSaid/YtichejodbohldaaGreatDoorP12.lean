/- Texts of one ground, in one file: Gr Gt Gu Gv. -/
import Derived.Test.YtichejodbohldaaGreatDoorP11
import Derived.Sort.OwnSorted
namespace Go.Proofs.YtichejodbohldaaGreatDoor
open Go.RowKit Go.Maps Go.Sort Go.Lib
set_option maxRecDepth 1000000
/-- The files of M, in new memory, by path. -/
def FilesRet (w : World) (M : Tr) (e : Ending) (w' : World) : Prop :=
  ∃ a c Y, e = .returned (.slice a Y.length c) ∧ OwnsF w' w.heap.size (.slice a Y.length c) Y ∧ nds Y = M ∧ (∀ e ∈ Y, (∃ a c, e.2.v = .slice a e.2.nd.b.length c) ∧ Owns w' w.heap.size e.2.v e.2.nd.b) ∧ w.grownBy w' none
theorem nodup_len {α : Type} [DecidableEq α] : ∀ (ks l : List α), ks.Nodup → (∀ p ∈ ks, p ∈ l) → ks.length ≤ l.length
  | [], _, _, _ => Nat.zero_le _
  | k :: r, l, hn, hs => by
    have hk := hs k List.mem_cons_self
    have h1 := nodup_len r (l.erase k) (List.nodup_cons.1 hn).2 (fun p hp => (List.mem_erase_of_ne (by intro e; subst e; exact (List.nodup_cons.1 hn).1 hp)).2 (hs p (List.mem_cons_of_mem _ hp)))
    rw [List.length_erase_of_mem hk] at h1
    have := List.length_pos_of_mem hk
    simp; omega
theorem Came.nodup {E : As Value} {left : Lit → Bool} {ks : List ByteArray} (h : Came E left ks) : ks.Nodup := h.1
theorem Came.len {E : As Value} {left : Lit → Bool} {ks : List ByteArray} (h : Came E left ks) : ks.length ≤ E.length := by
  have := nodup_len ks (E.map (·.1)) h.1 fun p hp => by
    obtain ⟨v, hv⟩ := Option.isSome_iff_exists.1 ((h.2 p).1 hp).1
    exact List.mem_map.2 ⟨_, mem_get hv, rfl⟩
  simpa using this
theorem files_same {Y X : As Gn} (hY : AscA Y) (hX : AscA X) (h : ∀ e ∈ Y, getA (nds X) e.1 = some e.2.nd) (hp : (Y.map (·.1)).Perm (X.map (·.1))) : nds Y = nds X := by
  refine ascA_ext (hY.map _) (hX.map _) fun p => ?_
  cases hg : getA Y p with
  | some g => rw [nds_get, hg, h _ (mem_get hg)]; rfl
  | none =>
    have hn : getA X p = none := get_of_none fun e he e2 => by
      have h1 : e.1 ∈ Y.map (·.1) := hp.mem_iff.2 (List.mem_map.2 ⟨e, he, rfl⟩)
      obtain ⟨y, hy, e3⟩ := List.mem_map.1 h1
      exact get_none hg y hy (e3.trans e2)
    rw [nds_get, nds_get, hg, hn]
theorem OwnsF.at {w : World} {base n c : Nat} {a : Option Addr} {Y : As Gn} (h : OwnsF w base (.slice a n c) Y) (hn : 0 < n) : ∃ g cur, a = some ⟨g, 0, none⟩ ∧ base ≤ g ∧ w.heap[g]? = some (.cells cur 68 (0, 0)) := by
  rcases h.2 with ⟨h1, h2⟩ | ⟨g, cap, cur, h1, h2, h3, _⟩
  · have := (Value.slice.inj h1).2.1; omega
  · exact ⟨g, cur, (Value.slice.inj h1).1, h2, h3⟩
theorem OwnsF.off {w : World} {base b r : Nat} {v : Value} {Y : As Gn} {E : As Value} {left : Lit → Bool} {cnt : Nat} (h : OwnsF w base v Y) (hr : MapRange w b r E left cnt) (k : Nat) (hk : v.ownBlock = some k) : ¬ k = b ∧ ¬ k = r := by
  obtain ⟨⟨es, clock, since, seen, c0, h1, h2, h3, h4, h5, h6⟩, hE⟩ := hr
  rcases h.2 with ⟨e1, _⟩ | ⟨g, cap, cur, e1, e2, e3, _⟩
  · rw [e1] at hk; cases hk
  · have e4 : g = k := by rw [e1] at hk; simpa [Value.ownBlock] using hk
    subst e4
    constructor
    · intro e; subst e; rw [e3] at h1; cases h1
    · intro e; subst e; rw [e3] at h5; cases h5
theorem Owns.mono {w : World} {b c : Nat} {v : Value} {L : List UInt8} (h : Owns w b v L) (hc : c ≤ b) : Owns w c v L := by
  obtain ⟨h0, h1⟩ := h
  refine ⟨h0, ?_⟩
  rcases h1 with h1 | ⟨g, cap, cur, h1, h2, h3⟩
  · exact .inl h1
  · exact .inr ⟨g, cap, cur, h1, Nat.le_trans hc h2, h3⟩
theorem OwnsF.bytes {w : World} {base c : Nat} {v u : Value} {Y : As Gn} {L : List UInt8} (h : OwnsF w base v Y) (h2 : Owns w c u L) (k : Nat) (hk : v.ownBlock = some k) : u.ownBlock ≠ some k := by
  rcases h.2 with ⟨e1, _⟩ | ⟨g, cap, cur, e1, _, e3, _⟩
  · rw [e1] at hk; cases hk
  · have e4 : g = k := by rw [e1] at hk; simpa [Value.ownBlock] using hk
    subst e4
    exact h2.apart e3 (by decide)
/-- How far the files are collected. -/
structure FAt (w wr : World) (mb r : Nat) (X : As Gn) (left : Lit → Bool) (cnt : Nat) (v : Value) (Y : As Gn) : Prop where
  range : MapRange wr mb r (mapA Gn.val X) left cnt
  owns : OwnsF wr w.heap.size v Y
  came : Came (mapA Gn.val X) left (Y.map (·.1))
  each : ∀ e ∈ Y, getA (nds X) e.1 = some e.2.nd ∧ (∃ a c, e.2.v = .slice a e.2.nd.b.length c) ∧ Owns wr w.heap.size e.2.v e.2.nd.b
  grown : w.grownBy wr none
set_option maxHeartbeats 8000000 in
theorem files_any (tb mb : Nat) (X : As Gn) (w : World) (h : TreeIn w tb mb X) (hX : X.length ≤ 500000) (hB : ∀ e ∈ X, e.2.nd.b.length ≤ 1000000) :
    Calls Tryz.prog 34 #[.pointer (some ⟨tb, 0, none⟩)] w (FilesRet w (nds X)) := by
  have HT := Lib.hid h
  have HB := Lib.hid hB
  obtain ⟨c0, c1, f1, f0⟩ := h.cells
  have HM := Lib.hid h.map
  clear h hB c1 f1 f0
  go_enter Tryz.func34, Tryz.ntmps34
  go_wp2_with (at_range; refine range_map _ rfl _ rfl mb (mapA Gn.val X) rfl HM.out ?_; intro w0 hrg0 hg0 hs0; have HRG0 := Lib.hid hrg0; have HG0 := Lib.hid hg0; clear hrg0 hg0 hs0)
  go_frame
  go_loopw [3] (fun v wr => ∃ (left : Lit → Bool) (cnt n : Nat) (a : Option Addr) (c : Nat), v = .slice a n c ∧ n ≤ 500000 ∧ Hid (∃ Y : As Gn, Y.length = n ∧ FAt w wr mb w.heap.size X left cnt (.slice a n c) Y)) (fun _ wr => wr.rangeLeft mb w.heap.size)
  case atStart => exact ⟨_, _, 0, none, 0, rfl, Nat.zero_le _, Lib.hid ⟨[], rfl, HRG0.out, OwnsF.nil _ _, Came.start _, (fun e he => by cases he), HG0.out⟩⟩
  case round =>
    obtain ⟨left, cnt, n, a, c, rfl, hn, HS⟩ := hrel
    obtain ⟨Y, HY⟩ : ∃ Y : As Gn, Hid (Y.length = n ∧ FAt w wr mb w.heap.size X left cnt (.slice a n c) Y) := by
      obtain ⟨Y, hY⟩ := HS.out; exact ⟨Y, Lib.hid hY⟩
    clear HS
    go_wp2_with (at_next; refine next_map _ rfl _ rfl mb w.heap.size (mapA Gn.val X) left cnt rfl HY.out.2.range ?_ ?_)
    · intro hl0
      have HL := Lib.hid hl0
      clear hl0
      have hperm := HY.out.2.came.done HM.out.2 HL.out
      rw [mapA, List.map_map] at hperm
      have HP : Hid ((Y.map (·.1)).Perm (X.map (·.1))) := Lib.hid hperm
      clear hperm
      by_cases h0 : n = 0
      · subst h0
        have HE : Hid (Y = [] ∧ nds X = []) := Lib.hid (by
          have hy : Y = [] := List.eq_nil_of_length_eq_zero HY.out.1
          have hp := HP.out
          rw [hy] at hp
          have hx : X = [] := by simpa using hp
          exact ⟨hy, by rw [hx]; rfl⟩)
        go_wp2_with fail
        (with_reducible refine (sort_none a c _).mono ?_)
        rintro e w3 ⟨rfl, rfl⟩
        dsimp only
        go_wp2
        go_ret
        exact ⟨a, c, [], rfl, by have := HY.out.2.owns; rw [HE.out.1] at this; exact this, HE.out.2.symm, (fun e he => by cases he), HY.out.2.grown⟩
      · obtain ⟨g, cur, rfl, hg1, hg2⟩ := HY.out.2.owns.at (by omega)
        have HG : Hid (w.heap.size ≤ g ∧ wr.heap[g]? = some (.cells cur 68 (0, 0))) := Lib.hid ⟨hg1, hg2⟩
        clear hg1 hg2
        go_wp2_with fail
        (with_reducible refine (sort_files w.heap.size g n c Y _ HY.out.2.owns HY.out.1 (by omega) HY.out.2.came.nodup).mono ?_)
        rintro e w3 ⟨rfl, hs, hg3⟩
        dsimp only
        have HS := Lib.hid hs
        have HG3 := Lib.hid hg3
        clear hs hg3
        go_wp2
        go_ret
        obtain ⟨Y', hp, hasc, ho⟩ := HS.out
        have hn' : Y'.length = n := hp.length_eq.trans HY.out.1
        refine ⟨_, c, Y', by rw [hn']; rfl, by rw [hn']; exact ho, files_same hasc HT.out.asc (fun e he => (HY.out.2.each e (hp.mem_iff.1 he)).1) ((hp.map _).trans HP.out), fun e he => ?_, grown_new HY.out.2.grown HG3.out HG.out.1⟩
        obtain ⟨_, h2, h3⟩ := HY.out.2.each e (hp.mem_iff.1 he)
        exact ⟨h2, h3.other HG3.out (h3.apart HG.out.2 (by decide))⟩
    · intro p v w2 cnt2 hlk hv hrg2 hlt hg2 hs2 hen
      have hx : ∃ g, getA X p = some g ∧ v = g.val := by
        rw [getA_map] at hv
        cases hg : getA X p with
        | none => rw [hg] at hv; cases hv
        | some g => rw [hg] at hv; exact ⟨g, rfl, (Option.some.inj hv).symm⟩
      obtain ⟨g, hg, rfl⟩ := hx
      have hw2 : w.grownBy w2 none := grown_new HY.out.2.grown hg2 (Nat.le_refl _)
      obtain ⟨ag, cg, hgv⟩ := HT.out.slice hg
      have hrow : Owns w2 0 g.v g.nd.b := (HT.out.stays hw2).row _ (mem_get hg)
      have hbl : g.nd.b.length ≤ 1000000 := HB.out _ (mem_get hg)
      obtain ⟨mg, hmg⟩ : ∃ mg, g.nd.b.length = mg := ⟨_, rfl⟩
      obtain ⟨dg, hdg⟩ : ∃ dg, g.nd.dir = dg := ⟨_, rfl⟩
      have hval : g.val = .agg #[.bool dg, .slice ag mg cg] := by unfold Gn.val; rw [hgv, hdg, hmg]
      rw [hval] at hen ⊢
      rw [hgv, hmg] at hrow
      have HGG := Lib.hid (And.intro hg (And.intro hgv (And.intro hmg hdg)))
      have HRG := Lib.hid hrg2
      have HLK := Lib.hid (And.intro hlk hv)
      have HW2 := Lib.hid hw2
      have HROW := Lib.hid hrow
      have HLT := Lib.hid hlt
      have HG2 := Lib.hid hg2
      have HO2 : Hid (OwnsF w2 w.heap.size (.slice a n c) Y) := Lib.hid (HY.out.2.owns.keeps (Kept.of hg2 (fun k => k = w.heap.size) fun k e => (Option.some.inj e).symm) fun k hk e => by
        exact (HY.out.2.owns.off HY.out.2.range k hk).2 e)
      rw [hmg] at hbl
      clear hg2 hs2 hw2 hrg2 hlk hv hrow hlt hg hgv hmg hdg hval
      obtain ⟨W3, hW3⟩ : ∃ W3, w2.alloc (.cells #[.bool dg, .slice ag mg cg] 81) = W3 := ⟨_, rfl⟩
      obtain ⟨bx, hbx⟩ : ∃ bx, w2.heap.size = bx := ⟨_, rfl⟩
      have G23 : Hid (w2.grownBy W3 none) := Lib.hid (by rw [← hW3]; exact World.grownBy_alloc _ _ _)
      have HBX : Hid (W3.heap[bx]? = some (.cells #[.bool dg, .slice ag mg cg] 81 (0, 0))) := Lib.hid (by rw [← hW3, ← hbx]; exact bk_alloc _ _)
      have HSB : Hid (∀ V : World, W3.grownBy V none → V.cell? ⟨bx, 0, none⟩ = some (.bool dg) ∧ V.cell? ⟨bx, 1, none⟩ = some (.slice ag mg cg)) := Lib.hid fun V hV => ⟨(bk_cell (bk_kept HBX.out hV) 0 _ rfl).1, (bk_cell (bk_kept HBX.out hV) 1 _ rfl).1⟩
      have HSA : Hid (∀ V V' : World, W3.grownBy V none → V.grownBy V' (Value.slice a n c).ownBlock → V'.cell? ⟨bx, 0, none⟩ = some (.bool dg) ∧ V'.cell? ⟨bx, 1, none⟩ = some (.slice ag mg cg)) := Lib.hid fun V V' hV hV' => by
        have hne : some bx ≠ (Value.slice a n c).ownBlock := fun e => by have := (HO2.out.block_lt bx e.symm).2; omega
        have hb := (hV'.block bx (bk_size (bk_kept HBX.out hV)) hne).trans (bk_kept HBX.out hV)
        exact ⟨(bk_cell hb 0 _ rfl).1, (bk_cell hb 1 _ rfl).1⟩
      have G0 : Hid (W3.grownBy W3.drew none) := Lib.hid ⟨rfl, rfl, rfl, Nat.le_refl _, fun _ _ _ => rfl⟩
      have HPT : Hid (Part W3.drew W3.heap.size (.slice ag mg cg) g.nd.b) := Lib.hid (((HROW.out.stays G23.out).stays G0.out).part (by have := bk_size HBX.out; exact Nat.lt_of_le_of_lt (Nat.zero_le _) this))
      have HO3 : Hid (OwnsF W3.drew w.heap.size (.slice a n c) Y) := Lib.hid ((HO2.out.stays G23.out).stays G0.out)
      go_wp2_with fail
      try rw [hW3]
      try rw [hbx]
      clear hW3
      go_region_held3 (fun V => V.cell? ⟨bx, 0, none⟩ = some (.bool dg) ∧ V.cell? ⟨bx, 1, none⟩ = some (.slice ag mg cg)) (first | (with_reducible exact HSB.out _ G0.out) | (with_reducible exact HSB.out _ (World.grownBy.trans G0.out G34.out)) | (with_reducible exact HSB.out _ (World.grownBy.trans (World.grownBy.trans G0.out G34.out) (World.grownBy_alloc _ _ _))) | (with_reducible exact HSA.out _ _ (World.grownBy.trans (World.grownBy.trans G0.out G34.out) (World.grownBy_alloc _ _ _)) hg5)) (first | ((with_reducible refine (clone_any _ mg cg ag g.nd.b _ HGG.out.2.2.1 hbl HPT.out).mono ?_); rintro e w4 ⟨v4, rfl, ho4, hg4⟩; obtain ⟨a4, c4, rfl, _⟩ := ho4.open HGG.out.2.2.1; have HO4 := Lib.hid ho4; have G34 := Lib.hid hg4; clear ho4 hg4) | ((refine step_file (by rfl) _ _ (by rfl) w.heap.size (.slice a n c) Y (p, ⟨⟨dg, g.nd.b⟩, .slice a4 mg c4⟩) _ (by rfl) ((HO3.out.stays G34.out).stays (World.grownBy_alloc _ _ _)) (by rfl) (fun j u hj => by rw [alloc_cell, ← hj]; simp [fileC, fixV]) (by have := HY.out.1; omega) (by have h1 := HW2.out.size; have h2 := G23.out.size; have h3 := G34.out.size; rw [alloc_size]; exact Nat.le_trans h1 (Nat.le_trans h2 (Nat.le_trans h3 (Nat.le_succ _)))) ?_; intro v5 w5 ho5 hg5)))
      obtain ⟨a5, c5, e5, _⟩ := ho5.form
      rw [show (Y ++ [(p, (⟨⟨dg, g.nd.b⟩, .slice a4 mg c4⟩ : Gn))]).length = n + 1 by rw [List.length_append, HY.out.1]; rfl] at e5
      subst e5
      have gA : w2.grownBy (w4.alloc (.cells #[.string p, .bool dg, .slice a4 mg c4] 68)) none := World.grownBy.trans (World.grownBy.trans (World.grownBy.trans G23.out G0.out) G34.out) (World.grownBy_alloc _ _ _)
      have hOA := HO2.out.stays gA
      have hRA := HRG.out.stays gA
      have hn1 : n + 1 ≤ 500000 := by
        have h1 := (HY.out.2.came.step HLK.out.1 HLK.out.2).len
        rw [List.length_append, List.length_map, HY.out.1, mapA_len] at h1
        simp at h1
        omega
      have hF : FAt w w5 mb w.heap.size X (fun z => left z && !z.sameKey (keyL p)) cnt2 (.slice a5 (n + 1) c5) (Y ++ [(p, ⟨⟨dg, g.nd.b⟩, .slice a4 mg c4⟩)]) :=
        ⟨hRA.keeps (Kept.of hg5 (fun k => (Value.slice a n c).ownBlock = some k) fun k e => e) (fun e => (hOA.off hRA _ e).1 rfl) (fun e => (hOA.off hRA _ e).2 rfl), ho5,
          by rw [List.map_append]; exact HY.out.2.came.step HLK.out.1 HLK.out.2,
          fun e he => by
            rcases List.mem_append.1 he with he | he
            · obtain ⟨q1, q2, q3⟩ := HY.out.2.each e he
              have q4 : Owns w2 w.heap.size e.2.v e.2.nd.b := q3.keeps (Kept.of HG2.out (fun k => k = w.heap.size) fun k e => (Option.some.inj e).symm) fun k hk e2 => by
                subst e2
                obtain ⟨⟨es, clock, since, seen, c0, h1, h2, h3, h4, h5, h6⟩, hE⟩ := HY.out.2.range
                rcases q3.2 with ⟨e1, _⟩ | ⟨g, cap, cur, e1, _, e3, _⟩
                · rw [e1] at hk; cases hk
                · have e4 : g = w.heap.size := by rw [e1] at hk; simpa [Value.ownBlock] using hk
                  rw [e4, h5] at e3; cases e3
              have q5 := q4.stays gA
              exact ⟨q1, q2, q5.keeps (Kept.of hg5 (fun k => (Value.slice a n c).ownBlock = some k) fun k e => e) fun k hk e2 => hOA.bytes q5 k e2 hk⟩
            · simp only [List.mem_singleton] at he
              subst he
              have q0 := HO4.out
              have q1 : Owns w4 w.heap.size (.slice a4 mg c4) g.nd.b := q0.mono (Nat.le_trans HW2.out.size G23.out.size)
              have q5 := q1.stays (World.grownBy_alloc w4 (.cells #[.string p, .bool dg, .slice a4 mg c4] 68) none)
              refine ⟨?_, ⟨a4, c4, by rw [HGG.out.2.2.1]⟩, q5.keeps (Kept.of hg5 (fun k => (Value.slice a n c).ownBlock = some k) fun k e => e) fun k hk e2 => hOA.bytes q5 k e2 hk⟩
              rw [nds_get, HGG.out.1, ← HGG.out.2.2.2]; rfl,
          by
            have gW := World.grownBy.trans HW2.out gA
            cases eb : (Value.slice a n c).ownBlock with
            | none => rw [eb] at hg5; exact World.grownBy.trans gW hg5
            | some k => rw [eb] at hg5; exact grown_new gW hg5 (HO2.out.block_lt k eb).1⟩
      have HF := Lib.hid hF
      clear hF gA hOA hRA ho5 hg5
      go_wp2_with fail
      go_roundw
      case rel => exact ⟨_, cnt2, n + 1, a5, c5, rfl, hn1, Lib.hid ⟨_, by rw [List.length_append, HY.out.1]; rfl, HF.out⟩⟩
      case measure => rw [HF.out.range.1.left_eq, HY.out.2.range.1.left_eq]; exact HLT.out
end Go.Proofs.YtichejodbohldaaGreatDoor
namespace Go.Proofs.YtichejodbohldaaGreatDoor
open Go.RowKit Go.Maps Go.Sort Go.Lib
set_option maxRecDepth 1000000
/-- The paths at p and below it. -/
def wkeys (M : Tr) (p : ByteArray) : List ByteArray := (M.filter fun e => Pth.withinS e.1 p).map (·.1)
theorem encS (L : List ByteArray) : L.map Value.string = (L.map (·.data.toList)).map encStr := by
  rw [List.map_map]
  apply List.map_congr_left
  intro x _
  rfl
/-- Texts in their order, each once. -/
def AscS (L : List ByteArray) : Prop := L.Pairwise fun a b => lessA a b = true
theorem sortS_unique {L M : List ByteArray} (hM : AscS M) (hp : L.Perm M) : (L.map (·.data.toList)).mergeSort (fun x y => decide (x ≤ y)) = M.map (·.data.toList) := by
  have tr : ∀ a b c : List UInt8, decide (a ≤ b) = true → decide (b ≤ c) = true → decide (a ≤ c) = true := fun a b c h1 h2 => by simp only [decide_eq_true_eq] at *; exact List.le_trans h1 h2
  have tt : ∀ a b : List UInt8, (decide (a ≤ b) || decide (b ≤ a)) = true := fun a b => by simp only [Bool.or_eq_true, decide_eq_true_eq]; exact List.le_total a b
  refine List.Perm.eq_of_pairwise (le := fun a b => decide (a ≤ b) = true) (fun a b _ _ h1 h2 => ?_) (List.pairwise_mergeSort tr tt _) ?_ ((List.mergeSort_perm _ _).trans (hp.map _))
  · simp only [decide_eq_true_eq] at h1 h2; exact List.le_antisymm h1 h2
  · rw [List.pairwise_map]
    exact hM.imp fun {a b} h => by
      rw [lessA_lt, decide_eq_true_eq] at h
      rw [decide_eq_true_eq]
      exact List.le_of_lt h
theorem sortS_none (a : Option Addr) (cap : Nat) (w : World) : Calls Tryz.prog 75 #[.slice a 0 cap] w fun e w' => e = .returned (.tuple #[]) ∧ w' = w := Tryz.slices_Sort_string_none a cap w
theorem sortS_any (base g n cap : Nat) (L M : List ByteArray) (w : World) (h : OwnsS w base (.slice (some ⟨g, 0, none⟩) n cap) L) (hn : L.length = n) (hn2 : n ≤ 1000000) (hM : AscS M) (hp : L.Perm M) :
    Calls Tryz.prog 75 #[.slice (some ⟨g, 0, none⟩) n cap] w fun e w' => e = .returned (.tuple #[]) ∧ OwnsS w' base (.slice (some ⟨g, 0, none⟩) n cap) M ∧ w.grownBy w' (some g) := by
  rcases h.2 with ⟨h1, h2⟩ | ⟨g', cap', cur, h1, h2, h3, h4, h5, h6, h7⟩
  · cases h1
  · obtain rfl : g = g' := by have := (Value.slice.inj h1).1; simpa using this
    obtain rfl : cap = cap' := (Value.slice.inj h1).2.2
    have hlt := (Array.getElem?_eq_some_iff.1 h3).1
    have hlen : (L.map (·.data.toList)).length = n := by rw [List.length_map, hn]
    have hH : Holds encStr w g 0 (L.map (·.data.toList)).toArray := holds_of_block h3 (by rw [List.length_map, ← encS]; simpa using h7)
    have hc := Tryz.slices_Sort_string g 0 cap (L.map (·.data.toList)) w hH hlt (by rw [hlen]; omega)
    rw [hlen, sortS_unique hM hp] at hc
    refine hc.mono ?_
    rintro e w' ⟨he, q, os, rfl⟩
    refine ⟨he, ?_, grownBy_sorted _⟩
    have hl : (M.map (·.data.toList)).length = (L.map (·.data.toList)).length := by rw [List.length_map, List.length_map, hp.length_eq]
    have := ownsRow_sorted (n := q) (os := os) (ss := L.map (·.data.toList)) (ts := M.map (·.data.toList)) hl h2 h3 (by rw [List.length_map]; exact h4) h5 h6
    rw [hlen] at this
    show World.ownsRow _ _ _ _ _ _ _
    rw [encS, ← hp.length_eq, hn]
    exact this
theorem OwnsS.off {w : World} {base b r : Nat} {v : Value} {Y : List ByteArray} {E : As Value} {left : Lit → Bool} {cnt : Nat} (h : OwnsS w base v Y) (hr : MapRange w b r E left cnt) (k : Nat) (hk : v.ownBlock = some k) : ¬ k = b ∧ ¬ k = r := by
  obtain ⟨⟨es, clock, since, seen, c0, h1, h2, h3, h4, h5, h6⟩, hE⟩ := hr
  rcases h.2 with ⟨e1, _⟩ | ⟨g, cap, cur, e1, e2, e3, _⟩
  · rw [e1] at hk; cases hk
  · have e4 : g = k := by rw [e1] at hk; simpa [Value.ownBlock] using hk
    subst e4
    constructor
    · intro e; subst e; rw [e3] at h1; cases h1
    · intro e; subst e; rw [e3] at h5; cases h5
theorem OwnsS.keeps {w w' : World} {S : Nat → Prop} {base : Nat} {v : Value} {L : List ByteArray} (h : OwnsS w base v L) (hk : Kept w w' S) (hn : ∀ k, v.ownBlock = some k → ¬ S k) : OwnsS w' base v L := by
  obtain ⟨h0, h1⟩ := h
  refine ⟨h0, ?_⟩
  rcases h1 with h1 | ⟨g, cap, cur, h1, h2, h3, h4⟩
  · exact .inl h1
  · exact .inr ⟨g, cap, cur, h1, h2, hk.bk h3 (hn g (by rw [h1]; rfl)), h4⟩
theorem OwnsS.at {w : World} {base n c : Nat} {a : Option Addr} {Y : List ByteArray} (h : OwnsS w base (.slice a n c) Y) (hn : 0 < n) : ∃ g, a = some ⟨g, 0, none⟩ ∧ base ≤ g := by
  rcases h.2 with ⟨h1, h2⟩ | ⟨g, cap, cur, h1, h2, h3, _⟩
  · have := (Value.slice.inj h1).2.1; omega
  · exact ⟨g, (Value.slice.inj h1).1, h2⟩
/-- How far the paths are collected. -/
structure WAt (w wr : World) (mb r : Nat) (X : As Gn) (p : ByteArray) (left : Lit → Bool) (cnt : Nat) (v : Value) (ks : List ByteArray) : Prop where
  range : MapRange wr mb r (mapA Gn.val X) left cnt
  owns : OwnsS wr w.heap.size v (ks.filter fun q => Pth.withinS q p)
  came : Came (mapA Gn.val X) left ks
  grown : w.grownBy wr none
theorem wkeys_eq (X : As Gn) (p : ByteArray) : wkeys (nds X) p = (X.map (·.1)).filter fun q => Pth.withinS q p := by
  unfold wkeys
  rw [filterA_map Gn.nd X fun q => Pth.withinS q p]
  unfold mapA
  rw [List.map_map, List.filter_map]
  rfl
def WRet (w : World) (L : List ByteArray) (e : Ending) (w' : World) : Prop := ∃ a c, e = .returned (.slice a L.length c) ∧ OwnsS w' w.heap.size (.slice a L.length c) L ∧ w.grownBy w' none
set_option maxHeartbeats 8000000 in
theorem within_any (tb mb : Nat) (X : As Gn) (p : ByteArray) (w : World) (h : TreeIn w tb mb X) (hX : X.length ≤ 500000) (hp : p.size ≤ 100000) :
    Calls Tryz.prog 57 #[.pointer (some ⟨tb, 0, none⟩), .string p] w (WRet w (wkeys (nds X) p)) := by
  have HT := Lib.hid h
  obtain ⟨c0, c1, f1, f0⟩ := h.cells
  have HM := Lib.hid h.map
  clear h c1 f1 f0
  go_enter Tryz.func57, Tryz.ntmps57
  go_wp2_with (at_range; refine range_map _ rfl _ rfl mb (mapA Gn.val X) rfl HM.out ?_; intro w0 hrg0 hg0 hs0; have HRG0 := Lib.hid hrg0; have HG0 := Lib.hid hg0; clear hrg0 hg0 hs0)
  go_frame
  go_loopw [5] (fun v wr => ∃ (left : Lit → Bool) (cnt n : Nat) (a : Option Addr) (c : Nat), v = .slice a n c ∧ n ≤ 500000 ∧ Hid (∃ ks : List ByteArray, (ks.filter fun q => Pth.withinS q p).length = n ∧ WAt w wr mb w.heap.size X p left cnt (.slice a n c) ks)) (fun _ wr => wr.rangeLeft mb w.heap.size)
  case atStart => exact ⟨_, _, 0, none, 0, rfl, Nat.zero_le _, Lib.hid ⟨[], rfl, HRG0.out, OwnsS.nil _ _, Came.start _, HG0.out⟩⟩
  case round =>
    obtain ⟨left, cnt, n, a, c, rfl, hn, HS⟩ := hrel
    obtain ⟨ks, HY⟩ : ∃ ks : List ByteArray, Hid ((ks.filter fun q => Pth.withinS q p).length = n ∧ WAt w wr mb w.heap.size X p left cnt (.slice a n c) ks) := by
      obtain ⟨ks, hY⟩ := HS.out; exact ⟨ks, Lib.hid hY⟩
    clear HS
    go_wp2_with (at_next; refine next_map _ rfl _ rfl mb w.heap.size (mapA Gn.val X) left cnt rfl HY.out.2.range ?_ ?_)
    · intro hl0
      have hperm := HY.out.2.came.done HM.out.2 hl0
      rw [mapA, List.map_map] at hperm
      have HP : Hid ((ks.filter fun q => Pth.withinS q p).Perm (wkeys (nds X) p)) := Lib.hid (by rw [wkeys_eq]; exact hperm.filter _)
      have HA : Hid (AscS (wkeys (nds X) p)) := Lib.hid (by
        unfold wkeys AscS
        rw [List.pairwise_map]
        exact ((HT.out.asc.map Gn.nd).filter _))
      clear hperm hl0
      by_cases h0 : n = 0
      · subst h0
        have HE : Hid ((ks.filter fun q => Pth.withinS q p) = [] ∧ wkeys (nds X) p = []) := Lib.hid (by
          have hy := List.eq_nil_of_length_eq_zero HY.out.1
          have hp := HP.out
          rw [hy] at hp
          exact ⟨hy, by simpa using hp⟩)
        go_wp2_with fail
        (with_reducible refine (sortS_none a c _).mono ?_)
        rintro e w3 ⟨rfl, rfl⟩
        dsimp only
        go_wp2
        go_ret
        exact ⟨a, c, by rw [HE.out.2]; rfl, by rw [HE.out.2]; have := HY.out.2.owns; rw [HE.out.1] at this; exact this, HY.out.2.grown⟩
      · obtain ⟨g, rfl, hg1⟩ := HY.out.2.owns.at (by omega)
        have HG : Hid (w.heap.size ≤ g) := Lib.hid hg1
        clear hg1
        go_wp2_with fail
        (with_reducible refine (sortS_any w.heap.size g n c _ (wkeys (nds X) p) _ HY.out.2.owns HY.out.1 (by omega) HA.out HP.out).mono ?_)
        rintro e w3 ⟨rfl, hs, hg3⟩
        dsimp only
        have HS := Lib.hid hs
        have HG3 := Lib.hid hg3
        have HLN : Hid ((wkeys (nds X) p).length = n) := Lib.hid (HP.out.length_eq.symm.trans HY.out.1)
        clear hs hg3
        go_wp2
        go_ret
        exact ⟨_, c, by rw [HLN.out]; rfl, by rw [HLN.out]; exact HS.out, grown_new HY.out.2.grown HG3.out HG.out⟩
    · intro q v w2 cnt2 hlk hv hrg2 hlt hg2 hs2 hen
      have hw2 : w.grownBy w2 none := grown_new HY.out.2.grown hg2 (Nat.le_refl _)
      have HW2 := Lib.hid hw2
      have HRG := Lib.hid hrg2
      have HLK := Lib.hid (And.intro hlk hv)
      have HLT := Lib.hid hlt
      have HO2 : Hid (OwnsS w2 w.heap.size (.slice a n c) (ks.filter fun q => Pth.withinS q p)) := Lib.hid (HY.out.2.owns.keeps (Kept.of hg2 (fun k => k = w.heap.size) fun k e => (Option.some.inj e).symm) fun k hk e => (HY.out.2.owns.off HY.out.2.range k hk).2 e)
      clear hg2 hs2 hw2 hrg2 hlk hv hlt
      cases hwi : Pth.withinS q p with
      | false =>
        have HWI : Hid (Calls Tryz.prog 74 #[.string q, .string p] w2 fun e w' => e = .returned (.bool false) ∧ w2 = w') := Lib.hid (by rw [← hwi]; exact (Pth.within_any q p hp w2).mono fun e w' h => ⟨h.1, h.2.symm⟩)
        have HF : Hid ((ks ++ [q]).filter (fun q => Pth.withinS q p) = ks.filter fun q => Pth.withinS q p) := Lib.hid (by rw [List.filter_append]; simp [hwi])
        clear hwi
        go_wp2_with ((with_reducible refine HWI.out.mono ?_); rintro e w3 ⟨rfl, rfl⟩; dsimp only)
        go_roundw
        case rel => exact ⟨_, cnt2, n, a, c, rfl, hn, Lib.hid ⟨ks ++ [q], by rw [HF.out]; exact HY.out.1, HRG.out, by rw [HF.out]; exact HO2.out, HY.out.2.came.step HLK.out.1 HLK.out.2, HW2.out⟩⟩
        case measure => rw [HRG.out.1.left_eq, HY.out.2.range.1.left_eq]; exact HLT.out
      | true =>
        have HWI : Hid (Calls Tryz.prog 74 #[.string q, .string p] w2 fun e w' => e = .returned (.bool true) ∧ w2 = w') := Lib.hid (by rw [← hwi]; exact (Pth.within_any q p hp w2).mono fun e w' h => ⟨h.1, h.2.symm⟩)
        have HF : Hid ((ks ++ [q]).filter (fun q => Pth.withinS q p) = (ks.filter fun q => Pth.withinS q p) ++ [q]) := Lib.hid (by rw [List.filter_append]; simp [hwi])
        have HB : Hid (w.heap.size ≤ (w2.alloc (.cells #[.string q] 9)).heap.size) := Lib.hid (by rw [alloc_size]; exact Nat.le_succ_of_le HW2.out.size)
        clear hwi
        go_wp2_with (first | ((with_reducible refine HWI.out.mono ?_); rintro e w3 ⟨rfl, rfl⟩; dsimp only) | ((with_reducible refine app_str (o := ⟨some 22, _, _, _, _, _⟩) rfl _ _ rfl w.heap.size _ (.slice a n c) (.slice (some ⟨w2.heap.size, 0, none⟩) 1 1) (ks.filter fun q => Pth.withinS q p) [q] ?_ (HO2.out.alloc _) ?_ (part_str w2 q _) ?_ ?_ ?_); (exact rfl); (exact rfl); (rw [HY.out.1]; simp; omega); (exact HB.out); (intro v5 w5 ho5 hg5); have HO5 := Lib.hid ho5; have HG5 := Lib.hid hg5; obtain ⟨a5, c5, e5, _⟩ := ho5.form; rw [show ((ks.filter fun q => Pth.withinS q p) ++ [q]).length = n + 1 by rw [List.length_append, HY.out.1]; rfl] at e5; subst e5; clear ho5 hg5))
        go_roundw
        case rel =>
          have gA := World.grownBy_alloc w2 (.cells #[.string q] 9) none
          have hOA := HO2.out.stays gA
          have hRA := HRG.out.stays gA
          have hn1 : n + 1 ≤ 500000 := by
            have h1 := (HY.out.2.came.step HLK.out.1 HLK.out.2).len
            rw [mapA_len] at h1
            have h2 := List.length_filter_le (fun q => Pth.withinS q p) (ks ++ [q])
            rw [HF.out, List.length_append, HY.out.1] at h2
            simp at h1 h2
            omega
          refine ⟨_, cnt2, n + 1, a5, c5, rfl, hn1, Lib.hid ⟨ks ++ [q], by rw [HF.out, List.length_append, HY.out.1]; rfl, hRA.keeps (Kept.of HG5.out (fun k => (Value.slice a n c).ownBlock = some k) fun k e => e) (fun e => (hOA.off hRA _ e).1 rfl) (fun e => (hOA.off hRA _ e).2 rfl), by rw [HF.out]; exact HO5.out, HY.out.2.came.step HLK.out.1 HLK.out.2, ?_⟩⟩
          exact HO2.out.grown HW2.out (by
            have h5 := HG5.out
            exact ⟨h5.os.trans gA.os, h5.tape.trans gA.tape, h5.output.trans gA.output, Nat.le_trans gA.size h5.size, fun k hk hne => (h5.block k (Nat.lt_of_lt_of_le hk gA.size) hne).trans (gA.block k hk (by simp))⟩)
        case measure =>
          have gA := World.grownBy_alloc w2 (.cells #[.string q] 9) none
          have hOA := HO2.out.stays gA
          have hRA := HRG.out.stays gA
          have hR5 := hRA.keeps (Kept.of HG5.out (fun k => (Value.slice a n c).ownBlock = some k) fun k e => e) (fun e => (hOA.off hRA _ e).1 rfl) (fun e => (hOA.off hRA _ e).2 rfl)
          rw [hR5.1.left_eq, HY.out.2.range.1.left_eq]; exact HLT.out
end Go.Proofs.YtichejodbohldaaGreatDoor
namespace Go.Proofs.YtichejodbohldaaGreatDoor
open Go.RowKit Go.Maps
set_option maxRecDepth 1000000
theorem size_any (tb : Nat) (M : Tr) (S : Nat → Prop) (w : World) (h : TreeAt w tb M S) :
    Calls Tryz.prog 31 #[.pointer (some ⟨tb, 0, none⟩)] w fun e w' => e = .returned (.int .i64 (sizeT M : Nat)) ∧ w' = w := by
  obtain ⟨⟨mb, X, ht, rfl, h3⟩, h4⟩ := h
  obtain ⟨c0, c1, f1, f0⟩ := ht.cells
  clear ht h3 h4 c0 f1 f0
  go_enter Tryz.func31, Tryz.ntmps31
  go_wp2
  go_ret
  exact ⟨rfl, rfl⟩
/-- Whether something stands at a path. -/
def existsS (M : Tr) (s : ByteArray) : Bool := decide ((Pth.cleanS s).2 = 0) && hasT M (Pth.cleanS s).1
set_option maxHeartbeats 4000000 in
theorem exists_any (tb : Nat) (M : Tr) (S : Nat → Prop) (s : ByteArray) (m : Int) (w : World) (h : TreeAt w tb M S) (hm : w.cell? ⟨0, 0, none⟩ = some (.int .i64 m)) :
    Calls Tryz.prog 29 #[.pointer (some ⟨tb, 0, none⟩), .string s] w fun e w' => e = .returned (.bool (existsS M s)) ∧ w.grownBy w' none := by
  obtain ⟨⟨mb, X, ht, rfl, h3⟩, h4⟩ := h
  have HT := Lib.hid ht
  have HM := Lib.hid hm
  rcases clean_ways s with ⟨L, hc, hL⟩ | ⟨q, hc, hq, hq1, hq2⟩
  · have HE : Hid (existsS (nds X) s = hasT (nds X) (Pth.joinB L)) := Lib.hid (by unfold existsS; rw [hc]; simp)
    have HC := Lib.hid hc
    have hps := hL.size
    cases hf : hasT (nds X) (Pth.joinB L) with
    | true =>
      have HF := Lib.hid hf
      rw [hf] at HE
      clear ht hm h3 h4 hc hL hf
      go_enter Tryz.func29, Tryz.ntmps29
      go_wp2_with (first | ((with_reducible refine (clean_at m s _ 0 _ HM.out HC.out).mono ?_); rintro e w1 ⟨rfl, hg⟩; dsimp only; have HG := Lib.hid hg; clear hg) | ((with_reducible refine (has_at tb mb X (Pth.joinB L) _ true (HT.out.stays HG.out) (by omega) HF.out).mono ?_); rintro e w2 ⟨rfl, hg⟩; dsimp only; have HG2 := Lib.hid hg; clear hg))
      go_ret
      exact ⟨by rw [HE.out]; rfl, World.grownBy.trans HG.out HG2.out⟩
    | false =>
      have HF := Lib.hid hf
      rw [hf] at HE
      clear ht hm h3 h4 hc hL hf
      go_enter Tryz.func29, Tryz.ntmps29
      go_wp2_with (first | ((with_reducible refine (clean_at m s _ 0 _ HM.out HC.out).mono ?_); rintro e w1 ⟨rfl, hg⟩; dsimp only; have HG := Lib.hid hg; clear hg) | ((with_reducible refine (has_at tb mb X (Pth.joinB L) _ false (HT.out.stays HG.out) (by omega) HF.out).mono ?_); rintro e w2 ⟨rfl, hg⟩; dsimp only; have HG2 := Lib.hid hg; clear hg))
      go_ret
      exact ⟨by rw [HE.out]; rfl, World.grownBy.trans HG.out HG2.out⟩
  · have HE : Hid (existsS (nds X) s = false) := Lib.hid (by unfold existsS; rw [hc]; simp [hq])
    have HC := Lib.hid hc
    have q5 : (q == 0) = false := by simp [hq]
    have q4 : (q != 0) = true := by simp [hq]
    clear ht hm h3 h4 hc
    go_enter Tryz.func29, Tryz.ntmps29
    go_wp2_with ((with_reducible refine (clean_at m s _ q _ HM.out HC.out).mono ?_); rintro e w1 ⟨rfl, hg⟩; dsimp only; have HG := Lib.hid hg; clear hg)
    go_ret
    exact ⟨by rw [HE.out]; rfl, HG.out⟩
/-- What is read at a path. -/
def readS (M : Tr) (s : ByteArray) : List UInt8 × Int :=
  if ¬ (fileS M s).2 = 0 then ([], (fileS M s).2) else match getA M (fileS M s).1 with
    | none => ([], 52)
    | some n => (n.b, 0)
def ReadRet (w : World) (R : List UInt8 × Int) (e : Ending) (w' : World) : Prop := ∃ v, e = .returned (.tuple #[v, .int .i64 R.2]) ∧ Owns w' w.heap.size v R.1 ∧ w.grownBy w' none
set_option maxHeartbeats 4000000 in
theorem read_any (tb : Nat) (M : Tr) (S : Nat → Prop) (s : ByteArray) (m : Int) (w : World) (h : TreeAt w tb M S) (hI : Inv M) (hm : w.cell? ⟨0, 0, none⟩ = some (.int .i64 m)) :
    Calls Tryz.prog 27 #[.pointer (some ⟨tb, 0, none⟩), .string s] w (ReadRet w (readS M s)) := by
  obtain ⟨⟨mb, X, ht, rfl, h3⟩, h4⟩ := h
  have HT := Lib.hid ht
  have HM := Lib.hid hm
  rcases file_ways (nds X) s with ⟨L, k, hf, hL, hk, _, _⟩ | ⟨q, hf, hq, hq1, hq2⟩
  · have HF := Lib.hid hf
    obtain ⟨p, hp⟩ : ∃ p, upL L (k + 1) = p := ⟨_, rfl⟩
    have hps : p.size ≤ 200 := by rw [← hp]; exact hL.small (k + 1) (by omega)
    rw [hp] at hf HF
    have hsz : 0 < w.heap.size := World.block_lt_of_cell? _ _ hm
    cases hg : getA X p with
    | none =>
      have HE : Hid (readS (nds X) s = ([], 52)) := Lib.hid (by unfold readS; rw [hf]; simp [nds_get, hg])
      have HL : Hid (∀ w' : World, w.grownBy w' none → (Instr.lookup 70 (.map (some mb)) (.string p) true).run Tryz.prog w' = .ok (.tuple #[.agg #[.bool false, .slice none 0 0], .bool false]) w') := Lib.hid fun w' hw => by rw [(ht.stays hw).lookOk p (by omega), hg]; rfl
      clear ht hm h3 h4 hf hL hk hp hg hI
      go_enter Tryz.func27, Tryz.ntmps27
      go_wp2_with fail
      (with_reducible refine (file_any tb mb X s m _ HT.out HM.out _ _ HF.out).mono ?_)
      rintro e w1 ⟨rfl, hg⟩
      dsimp only
      have HG := Lib.hid hg
      clear hg
      have hl := HL.out w1 HG.out
      have b0 : w1.cell? ⟨tb, 0, none⟩ = some (.map (some mb)) := (HT.out.stays HG.out).cells.1
      go_wp2
      go_ret2
      refine ⟨_, by rw [HE.out]; rfl, by rw [HE.out]; exact Owns.nil _ _, World.grownBy.trans HG.out (World.grownBy_alloc _ _ _)⟩
    | some g =>
      obtain ⟨a, c, hgv⟩ := ht.slice hg
      have HE : Hid (readS (nds X) s = (g.nd.b, 0)) := Lib.hid (by unfold readS; rw [hf]; simp [nds_get, hg])
      have hbl : g.nd.b.length ≤ 65536 := (hI.key (p, g.nd) (mem_get (by rw [nds_get, hg]; rfl))).2.1
      obtain ⟨n, hn⟩ : ∃ n, g.nd.b.length = n := ⟨_, rfl⟩
      obtain ⟨d, hd⟩ : ∃ d, g.nd.dir = d := ⟨_, rfl⟩
      have HL : Hid (∀ w' : World, w.grownBy w' none → (Instr.lookup 70 (.map (some mb)) (.string p) true).run Tryz.prog w' = .ok (.tuple #[.agg #[.bool d, .slice a n c], .bool true]) w') := Lib.hid fun w' hw => by
        rw [(ht.stays hw).lookOk p (by omega), hg]
        simp only [Option.map_some, Option.getD_some, Option.isSome_some, Gn.val, hgv, hn, hd]
      have HR : Hid (Owns w 0 (.slice a n c) g.nd.b) := Lib.hid (by have := ht.row _ (mem_get hg); dsimp only at this; rw [hgv, hn] at this; exact this)
      have HN := Lib.hid hn
      rw [hn] at hbl
      clear ht hm h3 h4 hf hL hk hp hg hI hgv hn hd
      go_enter Tryz.func27, Tryz.ntmps27
      go_wp2_with fail
      (with_reducible refine (file_any tb mb X s m _ HT.out HM.out _ _ HF.out).mono ?_)
      rintro e w1 ⟨rfl, hg⟩
      dsimp only
      have HG := Lib.hid hg
      clear hg
      have hl := HL.out w1 HG.out
      have b0 : w1.cell? ⟨tb, 0, none⟩ = some (.map (some mb)) := (HT.out.stays HG.out).cells.1
      go_wp2_with ((with_reducible refine (clone_any _ n c a g.nd.b _ HN.out (by omega) (((HR.out.stays HG.out).stays (World.grownBy_alloc _ _ _)).part (by rw [alloc_size]; exact Nat.succ_pos _))).mono ?_); rintro e w2 ⟨v, rfl, ho, hg2⟩; dsimp only; have HO := Lib.hid ho; have HG2 := Lib.hid hg2; clear ho hg2)
      go_ret2
      have g2 := World.grownBy.trans HG.out (World.grownBy.trans (World.grownBy_alloc w1 (.cells #[.bool d, .slice a n c] 81) none) HG2.out)
      refine ⟨v, by rw [HE.out]; rfl, by rw [HE.out]; exact HO.out.mono (Nat.le_trans HG.out.size (by rw [alloc_size]; exact Nat.le_succ _)), g2⟩
  · have HF := Lib.hid hf
    have HE : Hid (readS (nds X) s = ([], q)) := Lib.hid (by unfold readS; rw [hf]; simp [hq])
    have q4 : (q != 0) = true := by simp [hq]
    have q5 : (q == 0) = false := by simp [hq]
    clear ht hm h3 h4 hf hI
    go_enter Tryz.func27, Tryz.ntmps27
    go_wp2_with fail
    (with_reducible refine (file_any tb mb X s m _ HT.out HM.out _ _ HF.out).mono ?_)
    rintro e w1 ⟨rfl, hg⟩
    dsimp only
    have HG := Lib.hid hg
    clear hg
    go_wp2
    go_ret2
    exact ⟨_, by rw [HE.out]; rfl, by rw [HE.out]; exact Owns.nil _ _, HG.out⟩
end Go.Proofs.YtichejodbohldaaGreatDoor
namespace Go.Proofs.YtichejodbohldaaGreatDoor
open Go.RowKit Go.Maps
set_option maxRecDepth 1000000
def targS (p q k : ByteArray) : ByteArray := q ++ k.extract p.size k.size
set_option maxHeartbeats 4000000 in
theorem target_any (t : Option Addr) (p q k : ByteArray) (a : Option Addr) (n c : Nat) (d : Int) (w : World) (hp : p.size ≤ k.size) (hk : k.size ≤ 1000000) (hq : q.size ≤ 1000000) :
    Calls Tryz.prog 76 #[.agg #[.pointer t, .string p, .string q, .slice a n c, .int .i64 d], .string k] w fun e w' => e = .returned (.string (targS p q k)) ∧ w.grownBy w' none := by
  obtain ⟨W0, hW0⟩ : ∃ W0, w.alloc (.cells #[.pointer t, .string p, .string q, .slice a n c, .int .i64 d] 85) = W0 := ⟨_, rfl⟩
  have hb : W0.heap[w.heap.size]? = some (.cells #[.pointer t, .string p, .string q, .slice a n c, .int .i64 d] 85 (0, 0)) := by rw [← hW0]; exact bk_alloc _ _
  have b1 := (bk_cell hb 1 _ rfl).1
  have b2 := (bk_cell hb 2 _ rfl).1
  have G0 : Hid (w.grownBy W0 none) := Lib.hid (by rw [← hW0]; exact World.grownBy_alloc _ _ _)
  clear hb
  go_enter Tryz.func76, Tryz.ntmps76
  go_wp2_with fail
  go_quiet (fail)
  go_wp2
  go_ret
  exact ⟨rfl, grown_drew nq G0.out⟩
end Go.Proofs.YtichejodbohldaaGreatDoor
