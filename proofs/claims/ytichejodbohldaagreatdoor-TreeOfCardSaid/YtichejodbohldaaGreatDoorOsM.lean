/- The reference's Of. -/
import Derived.Test.YtichejodbohldaaGreatDoorOrM
import Derived.Deep.RegionWith
namespace Go.Proofs.YtichejodbohldaaGreatDoor
open Go.RowKit Go.Maps Go.Lib
set_option maxRecDepth 1000000
attribute [local irreducible] wpQuiet
theorem OwnsS.blk {w : World} {base : Nat} {v : Value} {L : List ByteArray} (h : OwnsS w base v L) (k : Nat) (hk : v.ownBlock = some k) : ∃ cs, w.heap[k]? = some (.cells cs 9 (0, 0)) := by
  rcases h.2 with ⟨e1, _⟩ | ⟨g, cap, cur, e1, e2, e3, _⟩
  · rw [e1] at hk; cases hk
  · have e4 : g = k := by rw [e1] at hk; simpa [Value.ownBlock] using hk
    subst e4
    exact ⟨cur, e3⟩
/-- A slice of texts, grown, is none of the reference's list's blocks. -/
theorem RefAt.str {w w' : World} {rb base : Nat} {M : Tr} {R : Nat → Prop} {v : Value} {L : List ByteArray} (h : RefAt w rb M R) (ho : OwnsS w base v L) (hg : w.grownBy w' v.ownBlock) : RefAt w' rb M R := by
  obtain ⟨⟨a, c, Y, h1, h2, h3⟩, h4⟩ := h
  refine ⟨⟨a, c, Y, h1.keeps (Kept.of hg (fun k => v.ownBlock = some k) fun k e => e) fun k hk e => ?_, h2, h3⟩, fun k hk => Nat.lt_of_lt_of_le (h4 k hk) hg.size⟩
  obtain ⟨cs, hb⟩ := ho.blk k e
  rcases hk with rfl | hk | ⟨f, hf, hk⟩
  · rw [h1.head] at hb
    injection hb with hb
    injection hb with _ hb
    exact absurd hb (by decide)
  · rcases h1.own.2 with ⟨e1, _⟩ | ⟨g, cap, cur, e1, _, e3, _⟩
    · rw [e1] at hk; cases hk
    · have e4 : g = k := by rw [e1] at hk; simpa [Value.ownBlock] using hk
      subst e4
      rw [hb] at e3
      injection e3 with e3
      injection e3 with _ e5
      exact absurd e5 (by decide)
  · exact (h1.row f hf).apart hb (by decide) hk
theorem OwnsS.notRef {w : World} {base rb : Nat} {v : Value} {L : List ByteArray} {M : Tr} {R : Nat → Prop} (ho : OwnsS w base v L) (h : RefAt w rb M R) (k : Nat) (hk : v.ownBlock = some k) : ¬ k = rb := by
  obtain ⟨⟨a, c, Y, h1, _, _⟩, _⟩ := h
  exact ho.notR h1.head k hk
theorem asc_one {α : Type} {M : As α} (hM : AscA M) {i j : Nat} {p : ByteArray} {n m : α} (hi : M[i]? = some (p, n)) (hj : M[j]? = some (p, m)) : i = j := by
  obtain ⟨hi1, hi2⟩ := List.getElem?_eq_some_iff.1 hi
  obtain ⟨hj1, hj2⟩ := List.getElem?_eq_some_iff.1 hj
  rcases Nat.lt_trichotomy i j with h | h | h
  · have := List.pairwise_iff_getElem.1 hM i j hi1 hj1 h
    rw [hi2, hj2, lessA_self] at this; cases this
  · exact h
  · have := List.pairwise_iff_getElem.1 hM j i hj1 hi1 h
    rw [hi2, hj2, lessA_self] at this; cases this
/-- How far the reference's Of has come. -/
def OfRAt (w V : World) (rb : Nat) (l : Tr) (Q : Int × Tr) (k : Nat) (v : Value) (seen : List ByteArray) : Prop := ∃ M R, Since w.heap.size w V ∧ RefAt V rb M R ∧ (∀ i, R i → w.heap.size ≤ i) ∧ Inv M ∧ OwnsS V w.heap.size v seen ∧ Q = ofS (l.drop k) seen M
def OfRRet (w : World) (Q : Int × Tr) (e : Ending) (w' : World) : Prop := w.grownBy w' none ∧ ((Q.1 = 0 ∧ ∃ rb R, e = .returned (.tuple #[.pointer (some ⟨rb, 0, none⟩), .int .i64 0]) ∧ RefAt w' rb Q.2 R ∧ ∀ i, R i → w.heap.size ≤ i) ∨ (¬ Q.1 = 0 ∧ e = .returned (.tuple #[.pointer none, .int .i64 Q.1])))
theorem OfRRet.no {w V : World} {Q : Int × Tr} {z : Int} (hk : Since w.heap.size w V) (hz : ¬ z = 0) (h : Q.1 = z) : OfRRet w Q (.returned (.tuple #[.pointer none, .int .i64 z])) V := ⟨hk.grown, .inr ⟨by rw [h]; exact hz, by rw [h]⟩⟩
set_option maxHeartbeats 16000000 in
theorem refOf_any (n c : Nat) (a : Option Addr) (Y : As Gn) (w : World) (hpos : 0 < w.heap.size) (hn : Y.length = n) (hn2 : n ≤ 1000) (hF : FilesB w w.heap.size a Y) (hb : ∀ e ∈ Y, e.2.nd.b.length ≤ 1000000) :
    Calls Tryz.prog 37 #[.slice a n c] w (OfRRet w (ofS (nds Y) [] [])) := by
  have HN := Lib.hid hn
  have HFB := Lib.hid (And.intro hF hb)
  have HPOS := Lib.hid hpos
  obtain ⟨Q, hQ⟩ : ∃ Q, ofS (nds Y) [] [] = Q := ⟨_, rfl⟩
  rw [hQ]
  have HQ0 := Lib.hid hQ
  clear hQ hn hF hb hpos
  obtain ⟨rb, hrb⟩ : ∃ rb, w.heap.size = rb := ⟨_, rfl⟩
  have GA : Hid (w.grownBy (w.alloc (.cells #[.slice none 0 0] 30)) none) := Lib.hid (World.grownBy_alloc _ _ _)
  have HOF0 : Hid (OfRAt w (w.alloc (.cells #[.slice none 0 0] 30)) rb (nds Y) Q 0 (.slice none 0 0) []) := Lib.hid ⟨[], _, Since.of GA.out, by rw [← hrb]; exact ref_new (by simp), fun i hi => by rw [hi]; exact Nat.le_refl _, inv_nil, OwnsS.nil _ _, HQ0.out.symm⟩
  have HRB := Lib.hid hrb
  go_enter Tryz.func37, Tryz.ntmps37
  go_wp2_with fail
  clear hrb
  go_loopw [5, 6] (fun v i wr => ∃ (k cc : Nat) (aa : Option Addr) (seen : List ByteArray), k ≤ n ∧ i = .int .i64 (k : Int) ∧ v = .slice aa k cc ∧ k ≤ cc ∧ cc ≤ 9223372036854775807 ∧ Hid (OfRAt w wr rb (nds Y) Q k (.slice aa k cc) seen) ∧ Hid (seen.length = k)) (fun _ i _ => n - (intOf i).toNat)
  case atStart => exact ⟨0, 0, none, [], Nat.zero_le _, rfl, rfl, Nat.le_refl _, by omega, HOF0, Lib.hid rfl⟩
  case round =>
    obtain ⟨k, cc, aa, seen, hk, rfl, rfl, hkc, hcc, HS, HSL⟩ := hrel
    obtain ⟨M, R, hk1, hra, hR, hI, hos, hof⟩ := HS.out
    have HI := Lib.hid hI
    have HRA := Lib.hid hra
    have HRR := Lib.hid hR
    have HKK := Lib.hid hk1
    have HOS := Lib.hid hos
    by_cases hkn : k < n
    · obtain ⟨⟨s, g⟩, hx⟩ : ∃ x, Y[k]? = some x := ⟨Y[k]'(by rw [HN.out]; exact hkn), List.getElem?_eq_getElem _⟩
      obtain ⟨b, o, hbB, ha, hall⟩ := HFB.out.1
      obtain ⟨⟨c1, c2, c3⟩, hsz, ⟨gx, gy, hgv⟩, _, hpt⟩ := hall k _ hx
      obtain rfl := ha (by rw [HN.out]; omega)
      dsimp only at c1 c2 c3 hsz hgv hpt
      have hbl := HFB.out.2 _ (List.mem_of_getElem? hx)
      dsimp only at hbl
      obtain ⟨mg, hmg⟩ : ∃ mg, g.nd.b.length = mg := ⟨_, rfl⟩
      obtain ⟨dg, hdg⟩ : ∃ dg, g.nd.dir = dg := ⟨_, rfl⟩
      rw [hmg] at hgv hbl
      rw [hgv] at c3 hpt
      rw [hdg] at c2
      have hdrop : (nds Y).drop k = (s, g.nd) :: (nds Y).drop (k + 1) := by
        have hkl : k < (nds Y).length := by rw [mapA_len, HN.out]; exact hkn
        rw [List.drop_eq_getElem_cons hkl]
        congr 1
        have h1 : (nds Y)[k]? = some (s, g.nd) := by show (Y.map fun e => (e.1, e.2.nd))[k]? = _; rw [List.getElem?_map, hx]; rfl
        exact (List.getElem?_eq_some_iff.1 h1).2
      rw [hdrop] at hof
      unfold ofS at hof
      have q1 := hk1.cell c1 hbB
      have HCC : Hid (w.cell? ⟨b, o + k * 3 + 1, none⟩ = some (.bool dg) ∧ w.cell? ⟨b, o + k * 3, none⟩ = some (.string s) ∧ w.cell? ⟨b, o + k * 3 + 2, none⟩ = some (.slice gx mg gy) ∧ b < w.heap.size) := Lib.hid ⟨c2, c1, c3, hbB⟩
      have HPT := Lib.hid hpt
      have HGG := Lib.hid (And.intro hmg hdg)
      have hpos : 0 < wr.heap.size := Nat.lt_of_lt_of_le HPOS.out HKK.out.size
      unfold maxLen at hsz
      clear hx c1 c2 c3 hgv hpt hall ha hmg hdg hdrop HS hI hra hR hos hk1 hbB
      rcases clean_ways s with ⟨L, hc, hL⟩ | ⟨q, hc, hq, hq1, hq2⟩
      · have hps := hL.size
        obtain ⟨p, hp⟩ : ∃ p, Pth.joinB L = p := ⟨_, rfl⟩
        rw [hp] at hc hps
        rw [hc, if_neg (by simp)] at hof
        simp only at hof
        have HC := Lib.hid hc
        have HOF := Lib.hid hof
        clear hc hL hp hof
        go_wp2_with fail
        (with_reducible refine (refClean_at s p 0 HC.out _ hpos).mono ?_)
        rintro e V1 ⟨rfl, hg⟩
        have HG1 := Lib.hid hg
        have HK1 := Lib.hid (HKK.out.go (Since.of hg))
        have HR1 := Lib.hid (HRA.out.start hg)
        have HO1 := Lib.hid (HOS.out.stays hg)
        clear hg q1
        dsimp only
        go_wp2_with fail
        go_loopw [9] (fun i wr => ∃ j : Nat, j ≤ k ∧ i = .int .i64 (j : Int) ∧ V1 = wr ∧ Hid (memB (seen.take j) p = false)) (fun i _ => k - (intOf i).toNat)
        case atStart => exact ⟨0, Nat.zero_le _, rfl, rfl, Lib.hid rfl⟩
        case round =>
          obtain ⟨j, hj, rfl, rfl, HT⟩ := hrel
          by_cases hjk : j < k
          · obtain ⟨x, hx⟩ : ∃ x, seen[j]? = some x := ⟨seen[j]'(by rw [HSL.out]; exact hjk), List.getElem?_eq_getElem _⟩
            obtain ⟨g0, rfl, q2⟩ := HO1.out.cellAt j x hx
            have HTN : Hid (memB (seen.take (j + 1)) p = decide (x = p)) := Lib.hid (by
              rw [take_snocL seen j x hx]
              have h0 := HT.out
              unfold memB at h0 ⊢
              rw [List.any_append, h0]
              simp)
            have HX := Lib.hid hx
            clear hx
            by_cases hxp : x = p
            · have HQ : Hid (Q.1 = 53) := Lib.hid (by
                have h1 := HTN.out
                rw [decide_eq_true hxp] at h1
                have h2 : memB seen p = true := by
                  unfold memB at h1 ⊢
                  rw [List.any_eq_true] at h1 ⊢
                  obtain ⟨y, hy, e⟩ := h1
                  exact ⟨y, List.mem_of_mem_take hy, e⟩
                have := HOF.out
                rw [if_pos (.inl h2)] at this
                rw [this])
              subst hxp
              go_wp2
              go_ret2
              exact OfRRet.no HK1.out (by decide) HQ.out
            · have f1 := ne_lists x p hxp
              have f2 := nb_lists x p hxp
              have HT2 : Hid (memB (seen.take (j + 1)) p = false) := Lib.hid (by rw [HTN.out, decide_eq_false hxp])
              clear hxp HTN
              go_wp2_with fail
              refine ⟨⟨j + 1, by omega, congrArg (Value.int IntKind.i64) (by omega), trivial, HT2⟩, ?_⟩
              simp only [intOf]
              omega
          · have hjk2 : j = k := by omega
            have HM : Hid (memB seen p = false) := Lib.hid (by have h1 := HT.out; rw [hjk2, ← HSL.out, List.take_length] at h1; exact h1)
            clear HT
            go_wp2_with fail
            obtain ⟨⟨ar, cr, Z, hr1, hzM, hzR⟩, hRlt⟩ := HR1.out
            have HZ := Lib.hid (And.intro hr1 (And.intro hzM hzR))
            obtain ⟨nr, hnr⟩ : ∃ nr, Z.length = nr := ⟨_, rfl⟩
            have HNR := Lib.hid hnr
            have hnr2 : nr ≤ 500 := by have h1 := HI.out.len; rw [← hzM, mapA_len, hnr] at h1; exact h1
            have GD2 : Hid (V1.grownBy V1.drew none) := Lib.hid ⟨rfl, rfl, rfl, Nat.le_refl _, fun _ _ _ => rfl⟩
            have hcell := hr1.cell.1
            rw [hnr] at hcell
            have HSC : Hid (∀ V, V1.grownBy V none → V.cell? ⟨b, o + k * 3 + 1, none⟩ = some (.bool dg) ∧ V.cell? ⟨rb, 0, none⟩ = some (.slice ar nr cr)) := Lib.hid fun V hV => ⟨HK1.out.go (Since.of hV) |>.cell HCC.out.1 HCC.out.2.2.2, by rw [World.cell?_of_block (hV.block rb (World.block_lt_of_cell? _ _ hcell) (by simp))]; exact hcell⟩
            have HAT : Hid (∀ V : World, V1.grownBy V none → Calls Tryz.prog 45 #[.pointer (some ⟨rb, 0, none⟩), .string p] V fun e w' => ∃ z : Int, e = .returned (.int .i64 z) ∧ ((z = -1 ∧ getA Z p = none) ∨ ∃ (k : Nat) (g : Gn), z = (k : Int) ∧ Z[k]? = some (p, g) ∧ getA Z p = some g) ∧ V.grownBy w' none) := Lib.hid fun V hV => refAt_any rb cr Z ar p V (HZ.out.1.stays hV) (by rw [HNR.out]; omega)
            clear hr1 hzM hzR hRlt hnr hcell
            cases dg with
            | false =>
              have hdr := (HSC.out _ GD2.out).1
              go_wp2_with fail
              go_region
              clear hdr
              obtain ⟨W3, hW3⟩ : ∃ W3, V1.drew = W3 := ⟨_, rfl⟩
              rw [hW3] at GD2 ⊢
              clear hW3
              have HOF2 : Hid (Q = if ¬ (addS M s g.nd).1 = 0 then addS M s g.nd else ofS ((nds Y).drop (k + 1)) (seen ++ [p]) (addS M s g.nd).2) := Lib.hid (by
                have := HOF.out
                rw [if_neg (by rw [HM.out, HGG.out.2]; simp)] at this
                exact this)
              obtain ⟨z, hz⟩ : ∃ z, (addS M s g.nd).1 = z := ⟨_, rfl⟩
              obtain ⟨M', hM'⟩ : ∃ M', (addS M s g.nd).2 = M' := ⟨_, rfl⟩
              have HAD : Hid (putS M s (fun _ => g.nd.b) = (z, M')) := Lib.hid (by
                rw [← hz, ← hM']
                unfold addS
                rw [HGG.out.2]
                simp only [Bool.false_eq_true, if_false])
              have HI2 : Hid (Inv M') := Lib.hid (by rw [← hM']; exact inv_add HI.out s g.nd)
              have HOF3 : Hid (Q = if ¬ z = 0 then addS M s g.nd else ofS ((nds Y).drop (k + 1)) (seen ++ [p]) M') := Lib.hid (by have := HOF2.out; rw [hz, hM'] at this; exact this)
              have HADD := Lib.hid hz
              clear hz hM' HOF2
              have HB5 : Hid (w.heap.size ≤ (W3.alloc (.cells #[.string p] 9)).heap.size ∧ seen.length + [p].length ≤ 8000000) := Lib.hid ⟨by rw [alloc_size]; have h1 := HK1.out.size; have h2 := GD2.out.size; omega, by rw [HSL.out]; simp; omega⟩
              have HOA : Hid (OwnsS (W3.alloc (.cells #[.string p] 9)) w.heap.size (.slice aa k cc) seen) := Lib.hid ((HO1.out.stays GD2.out).alloc _)
              have GAL : Hid (V1.grownBy (W3.alloc (.cells #[.string p] 9)) none) := Lib.hid (World.grownBy.trans GD2.out (World.grownBy_alloc _ _ _))
              have HWB : Hid (W3.heap.size + 1 ≤ (W3.alloc (.cells #[.string p] 9)).heap.size) := Lib.hid (by rw [alloc_size]; exact Nat.le_refl _)
              go_wp2_with (at_builtin; go_must (with_reducible refine app_str (o := ⟨some 72, _, _, _, _, _⟩) rfl _ _ rfl w.heap.size _ (.slice aa k cc) (.slice (some ⟨W3.heap.size, 0, none⟩) 1 1) seen [p] ?_ HOA.out ?_ (part_str W3 p _) HB5.out.2 HB5.out.1 ?_); go_must (exact rfl); go_must (exact rfl); (intro v5 w5 ho5 hg5; have HO5 := Lib.hid ho5; have HG5 := Lib.hid (OwnsS.grown HOA.out (World.grownBy.trans HK1.out.grown GAL.out) hg5); have HRA5 := Lib.hid ((HR1.out.stays GAL.out).str HOA.out hg5); obtain ⟨a5, c5, e5, hl5, hc5⟩ := ho5.form; rw [show (seen ++ [p]).length = k + 1 by rw [List.length_append, HSL.out]; rfl] at e5 hl5; subst e5; have HK5 : Hid (Since w.heap.size w w5) := Lib.hid (Since.of HG5.out); have q5 := HK5.out.cell HCC.out.1 HCC.out.2.2.2; have q6 := HK5.out.cell HCC.out.2.1 HCC.out.2.2.2; have q7 := HK5.out.cell HCC.out.2.2.1 HCC.out.2.2.2; clear ho5 hg5))
              have HR5 : Hid (∀ i, Grow wr V1 R i → w.heap.size ≤ i) := Lib.hid fun i hi => hi.1.elim (HRR.out i) fun h => Nat.le_trans HKK.out.size h
              have HL5 : Hid (k + 1 ≤ c5 ∧ c5 ≤ maxLen) := Lib.hid ⟨hl5, hc5⟩
              have GD5 : Hid (w5.grownBy w5.drew none) := Lib.hid ⟨rfl, rfl, rfl, Nat.le_refl _, fun _ _ _ => rfl⟩
              have HK5d := Lib.hid (HK5.out.go (Since.of GD5.out))
              have HRA5d := Lib.hid (HRA5.out.stays GD5.out)
              have HO5d := Lib.hid (HO5.out.stays GD5.out)
              have HCL : Hid (Calls Tryz.prog 15 #[.pointer (some ⟨rb, 0, none⟩), .string s, .slice gx mg gy] w5.drew (RefRet rb (z, M') w5.drew (Grow wr V1 R))) := Lib.hid (by rw [← HAD.out]; exact refWrite_any rb M _ s gx mg gy g.nd.b _ HRA5d.out HI.out ((HPT.out.keeps HK5d.out fun i e => e).lie HR5.out) HGG.out.1 (by omega))
              have HSD : Hid (∀ V, Since w.heap.size w V → V.cell? ⟨b, o + k * 3, none⟩ = some (.string s) ∧ V.cell? ⟨b, o + k * 3 + 2, none⟩ = some (.slice gx mg gy)) := Lib.hid fun V hV => ⟨hV.cell HCC.out.2.1 HCC.out.2.2.2, hV.cell HCC.out.2.2.1 HCC.out.2.2.2⟩
              try go_wp2_with fail
              clear q5 q6 q7
              go_region_held3 (fun V => V.cell? ⟨b, o + k * 3, none⟩ = some (.string s) ∧ V.cell? ⟨b, o + k * 3 + 2, none⟩ = some (.slice gx mg gy)) (first | (with_reducible exact HSD.out _ HK5d.out) | (with_reducible exact HSD.out _ HK6.out)) (((with_reducible refine HCL.out.mono ?_); intro e w6 hp6; have HRA6 := Lib.hid hp6.2.1; have HK56 := Lib.hid hp6.2.2; have HO6 : Hid (OwnsS w6 w.heap.size (.slice a5 (k + 1) c5) (seen ++ [p])) := Lib.hid (HO5d.out.keeps HK56.out (HO5d.out.notRef HRA5d.out)); have HK6 : Hid (Since w.heap.size w w6) := Lib.hid (HK5d.out.trans HK56.out fun i e => .inr (by rw [e]; exact Nat.le_of_eq HRB.out)); have HGR : Hid (∀ i, Grow w5.drew w6 (Grow wr V1 R) i → w.heap.size ≤ i) := Lib.hid (fun i hi => hi.1.elim (HR5.out i) fun h => Nat.le_trans HK5d.out.size h); obtain rfl := hp6.1; clear hp6))
              by_cases hz0 : z = 0
              · subst hz0
                have HNX : Hid (OfRAt w w6 rb (nds Y) Q (k + 1) (.slice a5 (k + 1) c5) (seen ++ [p])) := Lib.hid ⟨M', _, HK6.out, HRA6.out, HGR.out, HI2.out, HO6.out, by have h := HOF3.out; rw [if_neg (by simp)] at h; exact h⟩
                have hcap : k + 1 ≤ c5 ∧ c5 ≤ 9223372036854775807 := ⟨HL5.out.1, by have := HL5.out.2; unfold maxLen at this; omega⟩
                have HSL2 : Hid ((seen ++ [p]).length = k + 1) := Lib.hid (by rw [List.length_append, HSL.out]; rfl)
                go_wp2_with fail
                refine ⟨⟨k + 1, c5, a5, seen ++ [p], by omega, congrArg (Value.int IntKind.i64) (by omega), rfl, hcap.1, hcap.2, HNX, HSL2⟩, ?_⟩
                simp only [intOf]
                omega
              · have d4 : (z != 0) = true := by simp [hz0]
                have d5 : (z == 0) = false := by simp [hz0]
                have HQ : Hid (Q.1 = z) := Lib.hid (by have h := HOF3.out; rw [if_pos hz0] at h; rw [h]; exact HADD.out)
                go_wp2
                go_ret2
                exact OfRRet.no HK6.out hz0 HQ.out
            | true =>
              rcases empty_ways p with rfl | ⟨e1, e2, e3, e4⟩
              · have HQ : Hid (Q.1 = 53) := Lib.hid (by
                  have := HOF.out
                  rw [if_pos (.inr ⟨HGG.out.2, by unfold dirT; simp⟩)] at this
                  rw [this])
                have hdr := (HSC.out _ GD2.out).1
                go_wp2_with fail
                go_region
                go_wp2
                go_ret2
                exact OfRRet.no (HK1.out.go (Since.of GD2.out)) (by decide) HQ.out
              · cases hgz : getA Z p with
                | none =>
                  have hdr := (HSC.out _ GD2.out).1
                  have HATN : Hid (∀ V : World, V1.grownBy V none → Calls Tryz.prog 45 #[.pointer (some ⟨rb, 0, none⟩), .string p] V fun e w' => e = .returned (.int .i64 (-1)) ∧ V.grownBy w' none) := Lib.hid fun V hV => (HAT.out V hV).mono fun e w' h => by
                    obtain ⟨z, rfl, hz | ⟨_, _, _, _, h2⟩, hg⟩ := h
                    · rw [hz.1]; exact ⟨rfl, hg⟩
                    · rw [hgz] at h2; cases h2
                  have HND : Hid (dirT M p = false) := Lib.hid (by unfold dirT; rw [← HZ.out.2.1, nds_get, hgz, decide_eq_false e1]; rfl)
                  clear hgz
                  go_wp2_with fail
                  have HATQ : Hid (∀ V : World, V1.grownBy V none → Calls Tryz.prog 45 #[.pointer (some ⟨rb, 0, none⟩), .string p] V fun e w' => e = .returned (.int .i64 (-1)) ∧ V1.grownBy w' none) := Lib.hid fun V hV => (HATN.out V hV).mono fun e w' h => ⟨h.1, World.grownBy.trans hV h.2⟩
                  refine wp_region_quiet (C := fun w' => V1.grownBy w' none) (by kernel_rfl) (by kernel_rfl) GD2.out ?_
                  iterate 27 (refine @wpQuiet_step _ _ _ _ _ _ _ (fun K hK => ?_); go_simp; (first | refine hK _ ?_ | refine ⟨_, fun W hW => rfl, hK _ ?_⟩ | refine ⟨_, fun W hW => ⟨rfl, rfl⟩, hK _ ?_⟩ | refine ⟨_, fun W hW => (by rw [(HSC.out W hW).1]; exact ⟨rfl, rfl⟩), hK _ ?_⟩ | refine ⟨.int .i64 (-1), fun W hW => HATQ.out W hW, hK _ ?_⟩); clear hK K)
                  refine wpQuiet_nil ?_
                  intro w3 hw3
                  have HG3 := Lib.hid hw3
                  clear hw3 hdr
                  have HOF2 : Hid (Q = if ¬ (addS M s g.nd).1 = 0 then addS M s g.nd else ofS ((nds Y).drop (k + 1)) (seen ++ [p]) (addS M s g.nd).2) := Lib.hid (by
                    have := HOF.out
                    rw [if_neg (by rw [HM.out, HND.out]; simp)] at this
                    exact this)
                  obtain ⟨z, hz⟩ : ∃ z, (addS M s g.nd).1 = z := ⟨_, rfl⟩
                  obtain ⟨M', hM'⟩ : ∃ M', (addS M s g.nd).2 = M' := ⟨_, rfl⟩
                  have HAD : Hid (mkdirS M s = (z, M')) := Lib.hid (by
                    rw [← hz, ← hM']
                    unfold addS
                    rw [HGG.out.2]
                    simp only [if_true])
                  have HI2 : Hid (Inv M') := Lib.hid (by rw [← hM']; exact inv_add HI.out s g.nd)
                  have HOF3 : Hid (Q = if ¬ z = 0 then addS M s g.nd else ofS ((nds Y).drop (k + 1)) (seen ++ [p]) M') := Lib.hid (by have := HOF2.out; rw [hz, hM'] at this; exact this)
                  have HADD := Lib.hid hz
                  clear hz hM' HOF2
                  have HB5 : Hid (w.heap.size ≤ (w3.alloc (.cells #[.string p] 9)).heap.size ∧ seen.length + [p].length ≤ 8000000) := Lib.hid ⟨by rw [alloc_size]; have h1 := HK1.out.size; have h2 := HG3.out.size; omega, by rw [HSL.out]; simp; omega⟩
                  have HOA : Hid (OwnsS (w3.alloc (.cells #[.string p] 9)) w.heap.size (.slice aa k cc) seen) := Lib.hid ((HO1.out.stays HG3.out).alloc _)
                  have GAL : Hid (V1.grownBy (w3.alloc (.cells #[.string p] 9)) none) := Lib.hid (World.grownBy.trans HG3.out (World.grownBy_alloc _ _ _))
                  have HWB : Hid (w3.heap.size + 1 ≤ (w3.alloc (.cells #[.string p] 9)).heap.size) := Lib.hid (by rw [alloc_size]; exact Nat.le_refl _)
                  go_wp2_with (at_builtin; go_must (with_reducible refine app_str (o := ⟨some 72, _, _, _, _, _⟩) rfl _ _ rfl w.heap.size _ (.slice aa k cc) (.slice (some ⟨w3.heap.size, 0, none⟩) 1 1) seen [p] ?_ HOA.out ?_ (part_str w3 p _) HB5.out.2 HB5.out.1 ?_); go_must (exact rfl); go_must (exact rfl); (intro v5 w5 ho5 hg5; have HO5 := Lib.hid ho5; have HG5 := Lib.hid (OwnsS.grown HOA.out (World.grownBy.trans HK1.out.grown GAL.out) hg5); have HRA5 := Lib.hid ((HR1.out.stays GAL.out).str HOA.out hg5); obtain ⟨a5, c5, e5, hl5, hc5⟩ := ho5.form; rw [show (seen ++ [p]).length = k + 1 by rw [List.length_append, HSL.out]; rfl] at e5 hl5; subst e5; have HK5 : Hid (Since w.heap.size w w5) := Lib.hid (Since.of HG5.out); have q5 := HK5.out.cell HCC.out.1 HCC.out.2.2.2; have q6 := HK5.out.cell HCC.out.2.1 HCC.out.2.2.2; have q7 := HK5.out.cell HCC.out.2.2.1 HCC.out.2.2.2; clear ho5 hg5))
                  have HR5 : Hid (∀ i, Grow wr V1 R i → w.heap.size ≤ i) := Lib.hid fun i hi => hi.1.elim (HRR.out i) fun h => Nat.le_trans HKK.out.size h
                  have HL5 : Hid (k + 1 ≤ c5 ∧ c5 ≤ maxLen) := Lib.hid ⟨hl5, hc5⟩
                  try go_wp2_with fail
                  (with_reducible refine (refMkdir_any rb M _ s _ HRA5.out HI.out).mono ?_)
                  rw [HAD.out]
                  intro e w6 hp6
                  have HRA6 := Lib.hid hp6.2.1
                  have HK56 := Lib.hid hp6.2.2
                  have HO6 : Hid (OwnsS w6 w.heap.size (.slice a5 (k + 1) c5) (seen ++ [p])) := Lib.hid (HO5.out.keeps HK56.out (HO5.out.notRef HRA5.out))
                  have HK6 : Hid (Since w.heap.size w w6) := Lib.hid (HK5.out.trans HK56.out fun i e => .inr (by rw [e]; exact Nat.le_of_eq HRB.out))
                  have HGR : Hid (∀ i, Grow w5 w6 (Grow wr V1 R) i → w.heap.size ≤ i) := Lib.hid fun i hi => hi.1.elim (HR5.out i) fun h => Nat.le_trans HK5.out.size h
                  obtain rfl := hp6.1
                  clear hp6 q5 q6 q7
                  dsimp only
                  by_cases hz0 : z = 0
                  · subst hz0
                    have HNX : Hid (OfRAt w w6 rb (nds Y) Q (k + 1) (.slice a5 (k + 1) c5) (seen ++ [p])) := Lib.hid ⟨M', _, HK6.out, HRA6.out, HGR.out, HI2.out, HO6.out, by have h := HOF3.out; rw [if_neg (by simp)] at h; exact h⟩
                    have hcap : k + 1 ≤ c5 ∧ c5 ≤ 9223372036854775807 := ⟨HL5.out.1, by have := HL5.out.2; unfold maxLen at this; omega⟩
                    have HSL2 : Hid ((seen ++ [p]).length = k + 1) := Lib.hid (by rw [List.length_append, HSL.out]; rfl)
                    go_wp2_with fail
                    refine ⟨⟨k + 1, c5, a5, seen ++ [p], by omega, congrArg (Value.int IntKind.i64) (by omega), rfl, hcap.1, hcap.2, HNX, HSL2⟩, ?_⟩
                    simp only [intOf]
                    omega
                  · have d4 : (z != 0) = true := by simp [hz0]
                    have d5 : (z == 0) = false := by simp [hz0]
                    have HQ : Hid (Q.1 = z) := Lib.hid (by have h := HOF3.out; rw [if_pos hz0] at h; rw [h]; exact HADD.out)
                    go_wp2
                    go_ret2
                    exact OfRRet.no HK6.out hz0 HQ.out
                | some gz =>
                  obtain ⟨k0, hk0⟩ : ∃ k0 : Nat, Z[k0]? = some (p, gz) := by
                    obtain ⟨i, hi, e⟩ := List.getElem_of_mem (mem_get hgz)
                    exact ⟨i, by rw [List.getElem?_eq_getElem hi, e]⟩
                  have hk0n : k0 < nr := by rw [← HNR.out]; exact (List.getElem?_eq_some_iff.1 hk0).1
                  have HATS : Hid (∀ V : World, V1.grownBy V none → Calls Tryz.prog 45 #[.pointer (some ⟨rb, 0, none⟩), .string p] V fun e w' => e = .returned (.int .i64 (k0 : Int)) ∧ V.grownBy w' none) := Lib.hid fun V hV => (HAT.out V hV).mono fun e w' h => by
                    obtain ⟨z, rfl, hz | ⟨k1, g1, rfl, h1, h2⟩, hg⟩ := h
                    · rw [hgz] at hz; cases hz.2
                    · have : k1 = k0 := asc_one HZ.out.1.asc h1 hk0
                      rw [this]; exact ⟨rfl, hg⟩
                  obtain ⟨b4, x4, y4, rfl, _, _, _, _⟩ := HZ.out.1.at k0 p gz hk0
                  have HRW : Hid (∀ V : World, V1.grownBy V none → V.cell? ⟨b4, k0 * 3 + 1, none⟩ = some (.bool gz.nd.dir)) := Lib.hid fun V hV => by
                    obtain ⟨b5, _, _, h1, _, _, h2, _⟩ := (HZ.out.1.stays hV).at k0 p gz hk0
                    injection h1 with h1
                    injection h1 with h1
                    rw [h1]; exact h2
                  have HDT : Hid (dirT M p = gz.nd.dir) := Lib.hid (by unfold dirT; rw [← HZ.out.2.1, nds_get, hgz, decide_eq_false e1]; rfl)
                  obtain ⟨dz, hdz⟩ : ∃ dz, gz.nd.dir = dz := ⟨_, rfl⟩
                  rw [hdz] at HRW HDT
                  clear hgz hk0 hdz
                  have HSD3 : Hid (∀ V, V1.grownBy V none → V.cell? ⟨b, o + k * 3 + 1, none⟩ = some (.bool true) ∧ V.cell? ⟨rb, 0, none⟩ = some (.slice (some ⟨b4, 0, none⟩) nr cr) ∧ V.cell? ⟨b4, k0 * 3 + 1, none⟩ = some (.bool dz)) := Lib.hid fun V hV => ⟨(HSC.out V hV).1, (HSC.out V hV).2, HRW.out V hV⟩
                  cases dz with
                  | true =>
                    have HQ : Hid (Q.1 = 53) := Lib.hid (by
                      have := HOF.out
                      rw [if_pos (.inr ⟨HGG.out.2, HDT.out⟩)] at this
                      rw [this])
                    go_wp2_with fail
                    go_region_held3 (fun V => V.cell? ⟨b, o + k * 3 + 1, none⟩ = some (.bool true) ∧ V.cell? ⟨rb, 0, none⟩ = some (.slice (some ⟨b4, 0, none⟩) nr cr) ∧ V.cell? ⟨b4, k0 * 3 + 1, none⟩ = some (.bool true)) (first | (with_reducible exact HSD3.out _ GD2.out) | (with_reducible exact HSD3.out _ HG3.out) | (with_reducible exact HSD3.out _ HG4.out)) (first | ((with_reducible refine (HATS.out _ GD2.out).mono ?_); rintro e w3 ⟨rfl, hg⟩; have HG3 := Lib.hid (World.grownBy.trans GD2.out hg); clear hg) | ((with_reducible refine (HATS.out _ HG3.out).mono ?_); rintro e w4 ⟨rfl, hg⟩; have HG4 := Lib.hid (World.grownBy.trans HG3.out hg); clear hg))
                    go_wp2
                    go_ret2
                    exact OfRRet.no (HK1.out.go (Since.of HG4.out)) (by decide) HQ.out
                  | false =>
                    go_wp2_with fail
                    go_region_held3 (fun V => V.cell? ⟨b, o + k * 3 + 1, none⟩ = some (.bool true) ∧ V.cell? ⟨rb, 0, none⟩ = some (.slice (some ⟨b4, 0, none⟩) nr cr) ∧ V.cell? ⟨b4, k0 * 3 + 1, none⟩ = some (.bool false)) (first | (with_reducible exact HSD3.out _ GD2.out) | (with_reducible exact HSD3.out _ HG3.out) | (with_reducible exact HSD3.out _ HG4.out)) (first | ((with_reducible refine (HATS.out _ GD2.out).mono ?_); rintro e w3 ⟨rfl, hg⟩; have HG3 := Lib.hid (World.grownBy.trans GD2.out hg); clear hg) | ((with_reducible refine (HATS.out _ HG3.out).mono ?_); rintro e w4 ⟨rfl, hg⟩; have HG4 := Lib.hid (World.grownBy.trans HG3.out hg); clear hg))
                    have HOF2 : Hid (Q = if ¬ (addS M s g.nd).1 = 0 then addS M s g.nd else ofS ((nds Y).drop (k + 1)) (seen ++ [p]) (addS M s g.nd).2) := Lib.hid (by
                      have := HOF.out
                      rw [if_neg (by rw [HM.out, HDT.out]; simp)] at this
                      exact this)
                    obtain ⟨z, hz⟩ : ∃ z, (addS M s g.nd).1 = z := ⟨_, rfl⟩
                    obtain ⟨M', hM'⟩ : ∃ M', (addS M s g.nd).2 = M' := ⟨_, rfl⟩
                    have HAD : Hid (mkdirS M s = (z, M')) := Lib.hid (by
                      rw [← hz, ← hM']
                      unfold addS
                      rw [HGG.out.2]
                      simp only [if_true])
                    have HI2 : Hid (Inv M') := Lib.hid (by rw [← hM']; exact inv_add HI.out s g.nd)
                    have HOF3 : Hid (Q = if ¬ z = 0 then addS M s g.nd else ofS ((nds Y).drop (k + 1)) (seen ++ [p]) M') := Lib.hid (by have := HOF2.out; rw [hz, hM'] at this; exact this)
                    have HADD := Lib.hid hz
                    clear hz hM' HOF2
                    have HB5 : Hid (w.heap.size ≤ (w4.alloc (.cells #[.string p] 9)).heap.size ∧ seen.length + [p].length ≤ 8000000) := Lib.hid ⟨by rw [alloc_size]; have h1 := HK1.out.size; have h2 := HG4.out.size; omega, by rw [HSL.out]; simp; omega⟩
                    have HOA : Hid (OwnsS (w4.alloc (.cells #[.string p] 9)) w.heap.size (.slice aa k cc) seen) := Lib.hid ((HO1.out.stays HG4.out).alloc _)
                    have GAL : Hid (V1.grownBy (w4.alloc (.cells #[.string p] 9)) none) := Lib.hid (World.grownBy.trans HG4.out (World.grownBy_alloc _ _ _))
                    have HWB : Hid (w4.heap.size + 1 ≤ (w4.alloc (.cells #[.string p] 9)).heap.size) := Lib.hid (by rw [alloc_size]; exact Nat.le_refl _)
                    go_wp2_with (at_builtin; go_must (with_reducible refine app_str (o := ⟨some 72, _, _, _, _, _⟩) rfl _ _ rfl w.heap.size _ (.slice aa k cc) (.slice (some ⟨w4.heap.size, 0, none⟩) 1 1) seen [p] ?_ HOA.out ?_ (part_str w4 p _) HB5.out.2 HB5.out.1 ?_); go_must (exact rfl); go_must (exact rfl); (intro v5 w5 ho5 hg5; have HO5 := Lib.hid ho5; have HG5 := Lib.hid (OwnsS.grown HOA.out (World.grownBy.trans HK1.out.grown GAL.out) hg5); have HRA5 := Lib.hid ((HR1.out.stays GAL.out).str HOA.out hg5); obtain ⟨a5, c5, e5, hl5, hc5⟩ := ho5.form; rw [show (seen ++ [p]).length = k + 1 by rw [List.length_append, HSL.out]; rfl] at e5 hl5; subst e5; have HK5 : Hid (Since w.heap.size w w5) := Lib.hid (Since.of HG5.out); have q5 := HK5.out.cell HCC.out.1 HCC.out.2.2.2; have q6 := HK5.out.cell HCC.out.2.1 HCC.out.2.2.2; have q7 := HK5.out.cell HCC.out.2.2.1 HCC.out.2.2.2; clear ho5 hg5))
                    have HR5 : Hid (∀ i, Grow wr V1 R i → w.heap.size ≤ i) := Lib.hid fun i hi => hi.1.elim (HRR.out i) fun h => Nat.le_trans HKK.out.size h
                    have HL5 : Hid (k + 1 ≤ c5 ∧ c5 ≤ maxLen) := Lib.hid ⟨hl5, hc5⟩
                    try go_wp2_with fail
                    (with_reducible refine (refMkdir_any rb M _ s _ HRA5.out HI.out).mono ?_)
                    rw [HAD.out]
                    intro e w6 hp6
                    have HRA6 := Lib.hid hp6.2.1
                    have HK56 := Lib.hid hp6.2.2
                    have HO6 : Hid (OwnsS w6 w.heap.size (.slice a5 (k + 1) c5) (seen ++ [p])) := Lib.hid (HO5.out.keeps HK56.out (HO5.out.notRef HRA5.out))
                    have HK6 : Hid (Since w.heap.size w w6) := Lib.hid (HK5.out.trans HK56.out fun i e => .inr (by rw [e]; exact Nat.le_of_eq HRB.out))
                    have HGR : Hid (∀ i, Grow w5 w6 (Grow wr V1 R) i → w.heap.size ≤ i) := Lib.hid fun i hi => hi.1.elim (HR5.out i) fun h => Nat.le_trans HK5.out.size h
                    obtain rfl := hp6.1
                    clear hp6 q5 q6 q7
                    dsimp only
                    by_cases hz0 : z = 0
                    · subst hz0
                      have HNX : Hid (OfRAt w w6 rb (nds Y) Q (k + 1) (.slice a5 (k + 1) c5) (seen ++ [p])) := Lib.hid ⟨M', _, HK6.out, HRA6.out, HGR.out, HI2.out, HO6.out, by have h := HOF3.out; rw [if_neg (by simp)] at h; exact h⟩
                      have hcap : k + 1 ≤ c5 ∧ c5 ≤ 9223372036854775807 := ⟨HL5.out.1, by have := HL5.out.2; unfold maxLen at this; omega⟩
                      have HSL2 : Hid ((seen ++ [p]).length = k + 1) := Lib.hid (by rw [List.length_append, HSL.out]; rfl)
                      go_wp2_with fail
                      refine ⟨⟨k + 1, c5, a5, seen ++ [p], by omega, congrArg (Value.int IntKind.i64) (by omega), rfl, hcap.1, hcap.2, HNX, HSL2⟩, ?_⟩
                      simp only [intOf]
                      omega
                    · have d4 : (z != 0) = true := by simp [hz0]
                      have d5 : (z == 0) = false := by simp [hz0]
                      have HQ : Hid (Q.1 = z) := Lib.hid (by have h := HOF3.out; rw [if_pos hz0] at h; rw [h]; exact HADD.out)
                      go_wp2
                      go_ret2
                      exact OfRRet.no HK6.out hz0 HQ.out
      · rw [hc, if_pos hq] at hof
        have HC := Lib.hid hc
        have HQ : Hid (Q.1 = q) := Lib.hid (by rw [hof])
        have q4 : (q != 0) = true := by simp [hq]
        have q5 : (q == 0) = false := by simp [hq]
        clear hc hof
        go_wp2_with fail
        (with_reducible refine (refClean_at s E0 q HC.out _ hpos).mono ?_)
        rintro e V2 ⟨rfl, hg⟩
        have HK2 := Lib.hid (HKK.out.go (Since.of hg))
        clear hg q1
        dsimp only
        go_wp2
        go_ret2
        exact OfRRet.no HK2.out hq HQ.out
    · have e : k = n := by omega
      have HQ : Hid (Q = (0, M)) := Lib.hid (by rw [hof, List.drop_eq_nil_of_le (by rw [mapA_len, HN.out]; omega)]; rfl)
      clear hof HS hI hra hR hos hk1
      go_wp2
      go_ret2
      exact ⟨HKK.out.grown, .inl ⟨by rw [HQ.out], rb, R, rfl, by rw [HQ.out]; exact HRA.out, HRR.out⟩⟩
end Go.Proofs.YtichejodbohldaaGreatDoor
