/- A tree's Clone. -/
import Derived.Test.YtichejodbohldaaGreatDoorIvM
namespace Go.Proofs.YtichejodbohldaaGreatDoor
open Go.RowKit Go.Maps Go.Sort Go.Lib
set_option maxRecDepth 1000000
/-- What a clone is: the same nodes, in blocks of its own. -/
def CloneOf (w : World) (M : Tr) (e : Ending) (w' : World) : Prop := ∃ cb, e = .returned (.pointer (some ⟨cb, 0, none⟩)) ∧ TreeAt w' cb M (Grow w w' fun _ => False) ∧ w.grownBy w' none
/-- How far a tree is cloned. -/
structure CAt (w wr : World) (mb r : Nat) (X : As Gn) (left : Lit → Bool) (cnt : Nat) (cb cm : Nat) (z : Int) (Y : As Gn) : Prop where
  range : MapRange wr mb r (mapA Gn.val X) left cnt
  fill : Fill wr w.heap.size cb cm z Y
  each : ∀ p, getA (nds Y) p = if left (keyL p) = true then none else getA (nds X) p
  grown : w.grownBy wr none
theorem CAt.len {w wr : World} {mb r cb cm cnt : Nat} {X Y : As Gn} {left : Lit → Bool} {z : Int} (h : CAt w wr mb r X left cnt cb cm z Y) : Y.length ≤ X.length := by
  have hA : AscA Y := h.fill.map.2.of_map
  have := nodup_len (Y.map (·.1)) (X.map (·.1)) hA.nodup fun p hp => by
    obtain ⟨e, he, rfl⟩ := List.mem_map.1 hp
    have h1 := h.each e.1
    rw [nds_get, hA.get (x := e.2) he, Option.map_some, nds_get] at h1
    split at h1
    · cases h1
    · cases hx : getA X e.1 with
      | none => rw [hx] at h1; cases h1
      | some g => exact List.mem_map.2 ⟨_, mem_get hx, rfl⟩
  simpa using this
theorem CAt.all {w wr : World} {mb r cb cm cnt : Nat} {X Y : As Gn} {left : Lit → Bool} {z : Int} (h : CAt w wr mb r X left cnt cb cm z Y) (hX : AscA X) (hl : ∀ kl, left kl = false) : nds Y = nds X :=
  ascA_ext (h.fill.map.2.of_map.map _) (hX.map _) fun p => by rw [h.each p, hl]; rfl
theorem Fill.tree {w : World} {base cb cm : Nat} {z : Int} {Y : As Gn} (h : Fill w base cb cm z Y) (hz : (sizeT (nds Y) : Int) = z) : TreeIn w cb cm Y :=
  ⟨by have := h.head; rw [← hz] at this; exact this, h.map, fun e he => (h.row e he).mono (Nat.zero_le _), h.apart⟩
theorem Fill.own {w : World} {base cb cm : Nat} {z : Int} {Y : As Gn} (h : Fill w base cb cm z Y) (k : Nat) (hk : Own cb cm Y k) : base ≤ k := by
  rcases hk with rfl | rfl | ⟨e, he, hk⟩
  · exact h.new.1
  · exact h.new.2
  · exact ((h.row e he).block_lt k hk).1
theorem Fill.ne {w : World} {base cb cm : Nat} {z : Int} {Y : As Gn} (h : Fill w base cb cm z Y) : ¬ cb = cm := fun e => by have := h.head; rw [e] at this; exact h.map.no_cells this
theorem Fill.row_cm {w : World} {base cb cm : Nat} {z : Int} {Y : As Gn} (h : Fill w base cb cm z Y) {c : Nat} {v : Value} {L : List UInt8} (ho : Owns w c v L) (k : Nat) (hk : v.ownBlock = some k) : ¬ k = cm := by
  intro e
  subst e
  rcases ho.2 with ⟨h1, _⟩ | ⟨g, cap, cur, h1, h2, h3, _⟩
  · rw [h1] at hk; cases hk
  · have e3 : g = k := by rw [h1] at hk; simpa [Value.ownBlock] using hk
    subst e3
    exact h.map.no_cells h3
set_option maxHeartbeats 8000000 in
theorem treeClone_any (tb mb : Nat) (X : As Gn) (w : World) (h : TreeIn w tb mb X) (hX : X.length ≤ 500000) (hB : ∀ e ∈ X, e.2.nd.b.length ≤ 1000000 ∧ e.1.size ≤ 1000) :
    Calls Tryz.prog 26 #[.pointer (some ⟨tb, 0, none⟩)] w (CloneOf w (nds X)) := by
  have HT := Lib.hid h
  have HB := Lib.hid hB
  clear h hB
  go_enter Tryz.func26, Tryz.ntmps26
  go_wp2_with fail
  (with_reducible refine (new_any _).mono ?_)
  rintro e w1 ⟨cb, rfl, _, ⟨⟨cm, Y0, hy, hy0, hyo⟩, hlt⟩, hg⟩
  have hY0 : Y0 = [] := by cases Y0 with | nil => rfl | cons a r => simp [nds, mapA] at hy0
  subst hY0
  have HY := Lib.hid hy
  have HG := Lib.hid hg
  have HW : Hid (w.heap.size ≤ cb ∧ w.heap.size ≤ cm) := Lib.hid ⟨by
    rcases (hyo cb (.inl rfl)).1 with h | h
    · exact h.elim
    · exact h, by
    rcases (hyo cm (.inr (.inl rfl))).1 with h | h
    · exact h.elim
    · exact h⟩
  have HT1 := Lib.hid (HT.out.stays hg)
  obtain ⟨c0, c1, f1, f0⟩ := HT1.out.cells
  obtain ⟨d0, d1, g1, g0⟩ := hy.cells
  clear hy hy0 hyo hlt hg
  obtain ⟨z, hz⟩ : ∃ z, sizeT (mapA Gn.nd X) = z := ⟨_, rfl⟩
  rw [hz] at c1
  obtain ⟨W2, hW2⟩ : ∃ W2, w1.setCell ⟨cb, 1, none⟩ (.int .i64 (z : Int)) = W2 := ⟨_, rfl⟩
  have g12 : w1.grownBy W2 (some cb) := by rw [← hW2]; exact bk_set_grown w1 cb 1 _
  have hcb : W2.heap[cb]? = some (.cells #[.map (some cm), .int .i64 (z : Int)] 72 (0, 0)) := by rw [← hW2]; exact bk_set HY.out.head 1 (.int .i64 (z : Int))
  have HF0 : Hid (Fill W2 w.heap.size cb cm z []) := Lib.hid ⟨hcb, HY.out.map.keeps (Kept.one g12) (fun e => HY.out.ne e.symm), fun e he => (by cases he), List.Pairwise.nil, HW.out⟩
  have HZ := Lib.hid hz
  have G02 : Hid (w.grownBy W2 none) := Lib.hid (grown_new HG.out g12 HW.out.1)
  have HT2 : Hid (TreeIn W2 tb mb X) := Lib.hid (HT.out.stays G02.out)
  have HM := Lib.hid HT2.out.map
  have e0 := HT2.out.cells.1
  clear hz g12 hcb
  dsimp only
  go_wp2_with (at_range; refine range_map _ rfl _ rfl mb (mapA Gn.val X) rfl HM.out ?_; intro w3 hrg0 hg0 hs0; have HRG0 := Lib.hid hrg0; have HG0 := Lib.hid hg0; clear hrg0 hg0 hs0)
  go_frame
  obtain ⟨r, hr⟩ : ∃ r, W2.heap.size = r := ⟨_, rfl⟩
  have HR : Hid (cm < r ∧ cb < r ∧ mb < w.heap.size) := Lib.hid ⟨by rw [← hr]; exact HF0.out.map.lt, by rw [← hr]; exact bk_size HF0.out.head, HT.out.map.lt⟩
  rw [hr] at HRG0 ⊢
  have hc0 : CAt w w3 mb r X (Maps.has (encA (mapA Gn.val X))) (mapA Gn.val X).length cb cm z [] := ⟨HRG0.out, HF0.out.stays HG0.out, fun p => by
    simp only [encA_has, getA_map, getA_nil, Option.isSome_map]
    cases getA X p <;> rfl, World.grownBy.trans G02.out HG0.out⟩
  have HC0 := Lib.hid hc0
  clear hc0 hr e0 c0 c1 f1 f0 d0 d1 g1 g0 hW2
  go_loopw [4] (fun _ wr => ∃ (left : Lit → Bool) (cnt : Nat), Hid (∃ Y : As Gn, CAt w wr mb r X left cnt cb cm z Y)) (fun _ wr => wr.rangeLeft mb r)
  case atStart => exact ⟨_, _, Lib.hid ⟨[], HC0.out⟩⟩
  case round =>
    obtain ⟨left, cnt, HS⟩ := hrel
    obtain ⟨Y, HY⟩ : ∃ Y : As Gn, Hid (CAt w wr mb r X left cnt cb cm z Y) := by
      obtain ⟨Y, hY⟩ := HS.out; exact ⟨Y, Lib.hid hY⟩
    clear HS
    go_wp2_with (at_next; refine next_map _ rfl _ rfl mb r (mapA Gn.val X) left cnt rfl HY.out.range ?_ ?_)
    · intro hl0
      have HL := Lib.hid hl0
      clear hl0
      go_wp2
      go_ret
      have hnd := HY.out.all HT.out.asc HL.out
      have ht := HY.out.fill.tree (by rw [hnd, ← HZ.out])
      exact ⟨cb, rfl, ⟨⟨cm, Y, ht, hnd, fun k hk => ⟨.inr (HY.out.fill.own k hk), ht.own_lt hk⟩⟩, fun k hk => hk.2⟩, HY.out.grown⟩
    · intro p v w2 cnt2 hlk hv hrg2 hlt hg2 hs2 hen
      have hx : ∃ g, getA X p = some g ∧ v = g.val := by
        rw [getA_map] at hv
        cases hg : getA X p with
        | none => rw [hg] at hv; cases hv
        | some g => rw [hg] at hv; exact ⟨g, rfl, (Option.some.inj hv).symm⟩
      obtain ⟨g, hg, rfl⟩ := hx
      have hw2 : w.grownBy w2 none := grown_new HY.out.grown hg2 (by have h1 := HW.out.2; have h2 := HR.out.1; omega)
      obtain ⟨ag, cg, hgv⟩ := HT.out.slice hg
      have hrow : Owns w2 0 g.v g.nd.b := (HT.out.stays hw2).row _ (mem_get hg)
      have hbl : g.nd.b.length ≤ 1000000 := (HB.out _ (mem_get hg)).1
      have hpl : p.size ≤ 1000 := (HB.out _ (mem_get hg)).2
      obtain ⟨mg, hmg⟩ : ∃ mg, g.nd.b.length = mg := ⟨_, rfl⟩
      obtain ⟨dg, hdg⟩ : ∃ dg, g.nd.dir = dg := ⟨_, rfl⟩
      have hval : g.val = .agg #[.bool dg, .slice ag mg cg] := by unfold Gn.val; rw [hgv, hdg, hmg]
      rw [hval] at hen ⊢
      rw [hgv, hmg] at hrow
      have hF2 : Fill w2 w.heap.size cb cm z Y := HY.out.fill.keeps (Kept.of hg2 (fun k => k = r) fun k e => (Option.some.inj e).symm) (by have := HR.out.2.1; omega) (by have := HR.out.1; omega) fun e he k hk e2 => by
        subst e2
        obtain ⟨⟨es, clock, since, seen, c0, h1, h2, h3, h4, h5, h6⟩, hE⟩ := HY.out.range
        rcases (HY.out.fill.row e he).2 with ⟨e1, _⟩ | ⟨g, cap, cur, e1, _, e3, _⟩
        · rw [e1] at hk; cases hk
        · have e4 : g = k := by rw [e1] at hk; simpa [Value.ownBlock] using hk
          rw [e4, h5] at e3; cases e3
      have HGG := Lib.hid (And.intro hg (And.intro hgv (And.intro hmg hdg)))
      have HRG := Lib.hid hrg2
      have HLK := Lib.hid (And.intro hlk hv)
      have HW2 := Lib.hid hw2
      have HROW := Lib.hid hrow
      have HLT := Lib.hid hlt
      have HG2 := Lib.hid hg2
      have HF2 := Lib.hid hF2
      have HYL : Hid (Y.length ≤ 500000) := Lib.hid (Nat.le_trans HY.out.len hX)
      rw [hmg] at hbl
      clear hg2 hs2 hw2 hrg2 hlk hv hrow hlt hg hgv hmg hdg hval hF2
      obtain ⟨W3, hW3⟩ : ∃ W3, w2.alloc (.cells #[.bool dg, .slice ag mg cg] 81) = W3 := ⟨_, rfl⟩
      obtain ⟨bx, hbx⟩ : ∃ bx, w2.heap.size = bx := ⟨_, rfl⟩
      have G23 : Hid (w2.grownBy W3 none) := Lib.hid (by rw [← hW3]; exact World.grownBy_alloc _ _ _)
      have HBX : Hid (W3.heap[bx]? = some (.cells #[.bool dg, .slice ag mg cg] 81 (0, 0))) := Lib.hid (by rw [← hW3, ← hbx]; exact bk_alloc _ _)
      have HBC : Hid (¬ bx = cm ∧ ¬ cb = cm) := Lib.hid ⟨by rw [← hbx]; have := HF2.out.map.lt; omega, HF2.out.ne⟩
      have HSB : Hid (∀ V : World, W3.grownBy V none → V.cell? ⟨cb, 0, none⟩ = some (.map (some cm)) ∧ V.cell? ⟨bx, 0, none⟩ = some (.bool dg) ∧ V.cell? ⟨bx, 1, none⟩ = some (.slice ag mg cg)) := Lib.hid fun V hV => ⟨(bk_cell (bk_kept (bk_kept HF2.out.head G23.out) hV) 0 _ rfl).1, (bk_cell (bk_kept HBX.out hV) 0 _ rfl).1, (bk_cell (bk_kept HBX.out hV) 1 _ rfl).1⟩
      have HSA : Hid (∀ V V' : World, W3.grownBy V none → V.grownBy V' (some cm) → V'.cell? ⟨cb, 0, none⟩ = some (.map (some cm)) ∧ V'.cell? ⟨bx, 0, none⟩ = some (.bool dg) ∧ V'.cell? ⟨bx, 1, none⟩ = some (.slice ag mg cg)) := Lib.hid fun V V' hV hV' => by
        have hb := (hV'.block bx (bk_size (bk_kept HBX.out hV)) (fun e => HBC.out.1 (Option.some.inj e))).trans (bk_kept HBX.out hV)
        have hc := (hV'.block cb (bk_size (bk_kept (bk_kept HF2.out.head G23.out) hV)) (fun e => HBC.out.2 (Option.some.inj e))).trans (bk_kept (bk_kept HF2.out.head G23.out) hV)
        exact ⟨(bk_cell hc 0 _ rfl).1, (bk_cell hb 0 _ rfl).1, (bk_cell hb 1 _ rfl).1⟩
      have G0 : Hid (W3.grownBy W3.drew none) := Lib.hid ⟨rfl, rfl, rfl, Nat.le_refl _, fun _ _ _ => rfl⟩
      have HPT : Hid (Part W3.drew W3.heap.size (.slice ag mg cg) g.nd.b) := Lib.hid (((HROW.out.stays G23.out).stays G0.out).part (by have := bk_size HBX.out; exact Nat.lt_of_le_of_lt (Nat.zero_le _) this))
      have HM3 : Hid (∀ V : World, W3.grownBy V none → MapAt V cm (mapA Gn.val Y)) := Lib.hid fun V hV => (HF2.out.map.keeps (Kept.ofNone G23.out fun _ => False) (fun e => e)).keeps (Kept.ofNone hV fun _ => False) (fun e => e)
      go_wp2_with fail
      try rw [hW3]
      try rw [hbx]
      clear hW3
      go_region_held3 (fun V => V.cell? ⟨cb, 0, none⟩ = some (.map (some cm)) ∧ V.cell? ⟨bx, 0, none⟩ = some (.bool dg) ∧ V.cell? ⟨bx, 1, none⟩ = some (.slice ag mg cg)) (first | (with_reducible exact HSB.out _ G0.out) | (with_reducible exact HSB.out _ (World.grownBy.trans G0.out G34.out)) | (with_reducible exact HSA.out _ _ (World.grownBy.trans G0.out G34.out) G45.out)) (first | ((with_reducible refine (clone_any _ mg cg ag g.nd.b _ HGG.out.2.2.1 hbl HPT.out).mono ?_); rintro e w4 ⟨v4, rfl, ho4, hg4⟩; obtain ⟨a4, c4, rfl, _⟩ := ho4.open HGG.out.2.2.1; have HO4 := Lib.hid ho4; have G34 := Lib.hid hg4; clear ho4 hg4; obtain ⟨w5, hrun, hm5, hg5, hz5⟩ := (HM3.out _ (World.grownBy.trans G0.out G34.out)).update p (by omega) (by rw [mapA_len]; have := HYL.out; omega) (.agg #[.bool dg, .slice a4 mg c4]); have HM5 := Lib.hid hm5; have G45 := Lib.hid hg5; clear hm5 hg5 hz5))
      have g24 : w2.grownBy w4 none := World.grownBy.trans (World.grownBy.trans G23.out G0.out) G34.out
      have hF4 := HF2.out.stays g24
      have ho4 : Owns w4 w.heap.size (.slice a4 mg c4) g.nd.b := HO4.out.mono (Nat.le_trans HW2.out.size G23.out.size)
      have hnew : ∀ k, (Value.slice a4 mg c4).ownBlock = some k → w2.heap.size ≤ k := fun k hk => Nat.le_trans G23.out.size (HO4.out.block_lt k hk).1
      have hap : ∀ k, (Value.slice a4 mg c4).ownBlock = some k → ∀ e ∈ Y, e.2.v.ownBlock ≠ some k := fun k hk e he e2 => by
        have h1 := ((HF2.out.row e he).block_lt k e2).2
        have h2 := hnew k hk
        omega
      have hA : AscA Y := HF2.out.map.2.of_map
      have hF5 : Fill w5 w.heap.size cb cm z (putA Y p ⟨⟨dg, g.nd.b⟩, .slice a4 mg c4⟩) :=
        hF4.put p ⟨⟨dg, g.nd.b⟩, .slice a4 mg c4⟩ ho4 (fun e he k hk hk2 => hap k hk2 e he hk) HM5.out G45.out (fun k hk => hF4.row_cm ho4 k hk) HBC.out.2 (fun e he k hk => hF4.row_cm (hF4.row e he) k hk) (put_apart hA HF2.out.apart fun k hk e he _ => hap k hk e he)
      have hC : CAt w w5 mb r X (fun y => left y && !y.sameKey (keyL p)) cnt2 cb cm z (putA Y p ⟨⟨dg, g.nd.b⟩, .slice a4 mg c4⟩) :=
        ⟨(HRG.out.stays g24).keeps (Kept.one G45.out) (by have := HR.out.2.2; have := HW.out.2; omega) (by have := HR.out.1; omega), hF5, fun q => by
          rw [nds_put, getA_put, HY.out.each q, key_same]
          by_cases hq : p = q
          · subst hq
            rw [if_pos rfl]
            simp only [decide_true, Bool.not_true, Bool.and_false, Bool.false_eq_true, if_false]
            rw [nds_get, HGG.out.1, ← HGG.out.2.2.2]; rfl
          · rw [if_neg hq, decide_eq_false (fun e => hq e.symm)]
            simp only [Bool.not_false, Bool.and_true], grown_new (World.grownBy.trans HW2.out g24) G45.out HW.out.2⟩
      have HC := Lib.hid hC
      clear hF4 ho4 hF5 hC hrun g24
      go_wp2_with fail
      go_roundw
      case rel => exact ⟨_, cnt2, Lib.hid ⟨_, HC.out⟩⟩
      case measure => rw [HC.out.range.1.left_eq, HY.out.range.1.left_eq]; exact HLT.out
theorem cloneAt_any (t : Nat) (M : Tr) (S : Nat → Prop) (w : World) (h : TreeAt w t M S) (hI : Inv M) : Calls Tryz.prog 26 #[.pointer (some ⟨t, 0, none⟩)] w (CloneOf w M) := by
  obtain ⟨⟨mb, X, ht, rfl, h3⟩, h4⟩ := h
  have hl := hI.len
  rw [mapA_len] at hl
  refine treeClone_any t mb X w ht (by omega) fun e he => ?_
  have hm : (e.1, e.2.nd) ∈ nds X := List.mem_map.2 ⟨e, he, rfl⟩
  obtain ⟨⟨L, k, e1, hL, _⟩, h2, _⟩ := hI.key _ hm
  dsimp only at e1 h2
  refine ⟨by omega, ?_⟩
  rw [e1]
  have := hL.size
  omega
end Go.Proofs.YtichejodbohldaaGreatDoor
