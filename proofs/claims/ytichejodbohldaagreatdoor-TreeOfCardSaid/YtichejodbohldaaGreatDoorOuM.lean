/- LightFiles; TreeOf's law. -/
import Derived.Test.YtichejodbohldaaGreatDoorOsM
import Derived.Test.YtichejodbohldaaGreatDoorOoM
namespace Go.Proofs.YtichejodbohldaaGreatDoor
open Go.RowKit Go.Maps Go.Lib
set_option maxRecDepth 1000000
def LightF (Y : As Gn) : Prop := ∀ e ∈ Y, e.1.size ≤ 300 ∧ e.2.nd.b.length ≤ 500
theorem LightF.next {Y : As Gn} {j : Nat} {x : ByteArray × Gn} (h : LightF (Y.take j)) (hx : Y[j]? = some x) (h1 : x.1.size ≤ 300) (h2 : x.2.nd.b.length ≤ 500) : LightF (Y.take (j + 1)) := by
  rw [take_snocL Y j x hx]
  intro e he
  rcases List.mem_append.1 he with h3 | h3
  · exact h e h3
  · rw [List.mem_singleton.1 h3]; exact ⟨h1, h2⟩
def LightRet (n : Nat) (Y : As Gn) (w : World) (e : Ending) (w' : World) : Prop := ∃ r, e = .returned (.bool r) ∧ (r = true → n ≤ 20 ∧ LightF Y) ∧ w.grownBy w' none
set_option maxHeartbeats 8000000 in
theorem lightFiles_any (n c : Nat) (a : Option Addr) (B : Nat) (Y : As Gn) (w : World) (hn : Y.length = n) (hF : FilesB w B a Y) (hB : B ≤ w.heap.size) :
    Calls Tryz.prog 35 #[.slice a n c] w (LightRet n Y w) := by
  have HN := Lib.hid hn
  have HA := Lib.hid hF
  have HBB := Lib.hid hB
  clear hn hF hB
  by_cases h40 : 20 < n
  · have d1 : decide (20 < (n : Int)) = true := by simp; omega
    go_enter Tryz.func35, Tryz.ntmps35
    go_wp2
    go_ret
    exact ⟨false, rfl, fun h => (by cases h), World.grownBy.refl _ _⟩
  · have d1 : decide (20 < (n : Int)) = false := by simp; omega
    go_enter Tryz.func35, Tryz.ntmps35
    go_wp2_with fail
    go_loopw [3] (fun i wr => ∃ j : Nat, j ≤ n ∧ i = .int .i64 (j : Int) ∧ Hid (w.grownBy wr none ∧ LightF (Y.take j))) (fun i _ => n - (intOf i).toNat)
    case atStart => exact ⟨0, Nat.zero_le _, rfl, Lib.hid ⟨World.grownBy.refl _ _, fun e he => by simp at he⟩⟩
    case round =>
      obtain ⟨j, hj, rfl, HS⟩ := hrel
      by_cases hjn : j < n
      · obtain ⟨⟨s, g⟩, hx⟩ : ∃ x, Y[j]? = some x := ⟨Y[j]'(by rw [HN.out]; exact hjn), List.getElem?_eq_getElem _⟩
        obtain ⟨b, o, _, ha, hall⟩ := HA.out
        obtain ⟨⟨c1, c2, c3⟩, hsz, ⟨gx, gy, hgv⟩, hbl, _⟩ := hall j _ hx
        obtain rfl := ha (by rw [HN.out]; omega)
        dsimp only at c1 c2 c3 hsz hgv hbl
        obtain ⟨m, hm⟩ : ∃ m, g.nd.b.length = m := ⟨_, rfl⟩
        rw [hm] at hgv hbl
        rw [hgv] at c3
        have q1 := HS.out.1.cell c1 (by simp)
        have q3 := HS.out.1.cell c3 (by simp)
        have HX := Lib.hid (And.intro hx hm)
        unfold maxLen at hsz hbl
        clear c1 c2 c3 hgv hx hm hall ha
        by_cases h1 : 300 < s.size
        · have d2 : decide (300 < (s.size : Int)) = true := by simp; omega
          go_wp2
          go_ret
          exact ⟨false, rfl, fun h => (by cases h), HS.out.1⟩
        · have d2 : decide (300 < (s.size : Int)) = false := by simp; omega
          by_cases h2 : 500 < m
          · have d3 : decide (500 < (m : Int)) = true := by simp; omega
            go_wp2
            go_ret
            exact ⟨false, rfl, fun h => (by cases h), HS.out.1⟩
          · have d3 : decide (500 < (m : Int)) = false := by simp; omega
            have HF := Lib.hid (HS.out.2.next HX.out.1 (by show s.size ≤ 300; omega) (by show g.nd.b.length ≤ 500; rw [HX.out.2]; omega))
            go_wp2_with fail
            refine ⟨⟨j + 1, by omega, congrArg (Value.int IntKind.i64) (by omega), Lib.hid ⟨HS.out.1, HF.out⟩⟩, ?_⟩
            simp only [intOf]
            omega
      · have hjn' : j = n := by omega
        have HF : Hid (LightF Y) := Lib.hid (by have := HS.out.2; rw [hjn', List.take_of_length_le (by rw [HN.out]; exact Nat.le_refl _)] at this; exact this)
        go_wp2
        go_ret
        exact ⟨true, rfl, fun _ => ⟨by omega, HF.out⟩, HS.out.1⟩
theorem FilesB.le {w : World} {B C : Nat} {a : Option Addr} {Y : As Gn} (h : FilesB w B a Y) (hB : B ≤ C) : FilesB w C a Y := by
  obtain ⟨b, o, h1, h2, h3⟩ := h
  exact ⟨b, o, by omega, h2, fun j e hj => by
    obtain ⟨c, h5, h6, h7, h8⟩ := h3 j e hj
    exact ⟨c, h5, h6, h7, h8.le hB⟩⟩
theorem FilesB.up {w w' : World} {a : Option Addr} {Y : As Gn} (h : FilesB w w.heap.size a Y) (hg : w.grownBy w' none) : FilesB w' w'.heap.size a Y := (h.since (Since.of hg)).le hg.size
set_option maxHeartbeats 16000000 in
theorem of_law (m : Int) (n c : Nat) (a : Option Addr) (Y : As Gn) (w : World) (hm : w.cell? ⟨0, 0, none⟩ = some (.int .i64 m)) (hn : Y.length = n) (hF : FilesB w w.heap.size a Y) :
    Calls Tryz.prog 4 #[.slice a n c] w fun e w' => e = .returned (.bool true) ∧ w.grownBy w' none := by
  have h0 : 0 < w.heap.size := World.block_lt_of_cell? _ _ hm
  have HM : Hid (∀ V, w.grownBy V none → V.cell? ⟨0, 0, none⟩ = some (.int .i64 m)) := Lib.hid fun V hV => hV.cell hm (by simp)
  have HKN := Lib.hid (known_any m w hm)
  have H0 := Lib.hid h0
  have HN := Lib.hid hn
  have HF := Lib.hid hF
  clear hm h0 hn hF
  go_enter Tryz.func4, Tryz.ntmps4
  go_wp2_with fail
  (with_reducible refine HKN.out.mono ?_)
  rintro e w1 ⟨rfl, hg⟩
  have G1 := Lib.hid hg
  clear hg
  dsimp only
  go_wp2_with fail
  (with_reducible refine (lightFiles_any n c a w1.heap.size Y w1 HN.out (HF.out.up G1.out) (Nat.le_refl _)).mono ?_)
  rintro e w2 ⟨r, rfl, hr, hg⟩
  have G2 := Lib.hid (World.grownBy.trans G1.out hg)
  have HR := Lib.hid hr
  clear hg hr
  dsimp only
  cases r with
  | false =>
    go_wp2
    go_ret
    exact ⟨rfl, G2.out⟩
  | true =>
    have HL := Lib.hid (HR.out rfl)
    have HL5 : Hid (∀ e ∈ Y, e.2.nd.b.length ≤ 1000000) := Lib.hid fun e he => by have := (HL.out.2 e he).2; omega
    obtain ⟨Q, hQ⟩ : ∃ Q, ofS (nds Y) [] [] = Q := ⟨_, rfl⟩
    have HIQ : Hid (Inv Q.2) := Lib.hid (by rw [← hQ]; exact inv_of (nds Y) [] inv_nil)
    have HOF := Lib.hid (of_any m n c a Y w2 (HM.out _ G2.out) HN.out (by have := HL.out.1; omega) (HF.out.up G2.out) HL5.out)
    have HRO : Hid (∀ V, w.grownBy V none → Calls Tryz.prog 37 #[.slice a n c] V (OfRRet V Q)) := Lib.hid fun V hV => by
      rw [← hQ]
      exact refOf_any n c a Y V (by have h1 := hV.size; have h2 := H0.out; omega) HN.out (by have := HL.out.1; omega) (HF.out.up hV) HL5.out
    rw [hQ] at HOF
    clear hQ
    go_wp2_with fail
    (with_reducible refine HOF.out.mono ?_)
    rintro e w3 ⟨hg, hcase⟩
    have G3 := Lib.hid (World.grownBy.trans G2.out hg)
    clear hg
    rcases hcase with ⟨hz, t, S, rfl, hst⟩ | ⟨hz, rfl⟩
    · have HZ := Lib.hid hz
      have HST := Lib.hid hst
      clear hz hst
      dsimp only
      go_wp2_with fail
      (with_reducible refine (HRO.out _ G3.out).mono ?_)
      rintro e w4 ⟨hg, hcase⟩
      have G4 := Lib.hid (World.grownBy.trans G3.out hg)
      rcases hcase with ⟨_, rb, R, rfl, hra, hR⟩ | ⟨hz, rfl⟩
      · have HST4 := Lib.hid (HST.out.stays hg)
        have HRA := Lib.hid hra
        clear hg hra hR
        dsimp only
        have HFI : Hid (∀ V : World, w4.grownBy V none → Calls Tryz.prog 34 #[.pointer (some ⟨t, 0, none⟩)] V (FilesRet V Q.2)) := Lib.hid fun V hV => filesAt_any t Q.2 S V (HST4.out.stays hV).tree HIQ.out
        have HPOS : Hid (∀ V : World, w.grownBy V none → 0 < V.heap.size) := Lib.hid fun V hV => by have h1 := hV.size; have h2 := H0.out; omega
        have HOF2 : Hid (∀ (V V' : World) (az : Option Addr) (nz cz : Nat) (Z : As Gn), w4.grownBy V none → FR V' V.heap.size V'.heap.size (.slice az nz cz) Z → Z.length = nz → nds Z = Q.2 → V.grownBy V' none → Calls Tryz.prog 36 #[.slice az nz cz] V' (OfRet V' (0, Q.2))) := Lib.hid fun V V' az nz cz Z hV hfr hnz hz hVV => by
          have hI := HIQ.out
          have hb : ∀ e ∈ Z, e.1.size ≤ 1000000 ∧ e.2.nd.b.length ≤ 1000000 := fun e he => by
            have h1 := hI.key (e.1, e.2.nd) (by rw [← hz]; exact List.mem_map.2 ⟨e, he, rfl⟩)
            obtain ⟨⟨L, k, h2, h3, _⟩, h4, _⟩ := h1
            have h5 := h3.size
            dsimp only at h2 h4
            rw [← h2] at h5
            exact ⟨by omega, by omega⟩
          have hw := HPOS.out _ (World.grownBy.trans G4.out (World.grownBy.trans hV hVV))
          have h6 := of_any m nz cz az Z V' (HM.out _ (World.grownBy.trans G4.out (World.grownBy.trans hV hVV))) hnz (by have h7 := hI.len; rw [← hz, mapA_len] at h7; omega) (hfr.below hnz hw (fun e he => by have := (hb e he).1; unfold maxLen; omega) (fun e he => by have := (hb e he).2; unfold maxLen; omega)) (fun e he => (hb e he).2)
          rw [hz, of_files hI] at h6
          exact h6
        go_wp2_with fail
        (with_reducible refine (HFI.out _ (World.grownBy.refl _ _)).mono ?_)
        intro e w5 hf
        obtain ⟨v5, Z5, rfl, hr5, hz5, hg5, hl5⟩ := FR.of hf
        obtain ⟨nz, hnz⟩ : ∃ nz, Z5.length = nz := ⟨_, rfl⟩
        obtain ⟨az, cz, rfl⟩ := hr5.open hnz
        have HO5 := Lib.hid (HOF2.out _ _ az nz cz Z5 (World.grownBy.refl _ _) hr5 hnz hz5 hg5)
        have G45 := Lib.hid hg5
        clear hf hr5 hz5 hg5 hl5 hnz
        dsimp only
        go_wp2_with fail
        (with_reducible refine HO5.out.mono ?_)
        rintro e w6 ⟨hg, hcase⟩
        have G46 := Lib.hid (World.grownBy.trans G45.out hg)
        rcases hcase with ⟨_, u, S2, rfl, hst⟩ | ⟨hz, rfl⟩
        · have HSU := Lib.hid hst
          clear hg hst
          dsimp only
          have HFT : Hid (∀ V : World, w6.grownBy V none → Calls Tryz.prog 34 #[.pointer (some ⟨t, 0, none⟩)] V (FilesRet V Q.2)) := Lib.hid fun V hV => HFI.out V (World.grownBy.trans G46.out hV)
          have HFU : Hid (∀ V : World, w6.grownBy V none → Calls Tryz.prog 34 #[.pointer (some ⟨u, 0, none⟩)] V (FilesRet V Q.2)) := Lib.hid fun V hV => filesAt_any u Q.2 S2 V (HSU.out.stays hV).tree HIQ.out
          obtain ⟨ra, rn, rc, RY, hrn, hry, hrc, hrf, hrfs⟩ := (HRA.out.stays G46.out).read
          have GD2 : Hid (w6.grownBy w6.drew none) := Lib.hid ⟨rfl, rfl, rfl, Nat.le_refl _, fun _ _ _ => rfl⟩
          have HRC : Hid (∀ V : World, w6.grownBy V none → V.cell? ⟨rb, 0, none⟩ = some (.slice ra rn rc)) := Lib.hid fun V hV => hV.cell hrc (by simp)
          have HLZ : Hid (∀ Z : As Gn, nds Z = Q.2 → Z.length ≤ 1000000) := Lib.hid fun Z hz => by
            have h1 := HIQ.out.len
            rw [← hz, mapA_len] at h1
            omega
          have HRF : Hid (nds RY = Q.2 ∧ ∀ w', w6.grownBy w' none → RF w' (.slice ra rn rc) RY) := Lib.hid ⟨hry, hrfs⟩
          have HSAME : Hid (∀ (V V' : World) (az : Option Addr) (nz cz : Nat) (Z : As Gn), w6.grownBy V none → FR V' V.heap.size V'.heap.size (.slice az nz cz) Z → Z.length = nz → nds Z = Q.2 → V.grownBy V' none → Calls Tryz.prog 33 #[.slice az nz cz, .slice ra rn rc] V' fun e w' => e = .returned (.bool true) ∧ V'.grownBy w' none) := Lib.hid fun V V' az nz cz Z hV hfr hnz hz hVV =>
            sameFiles_any _ _ Z RY V' (hfr.rf hnz (HPOS.out _ (World.grownBy.trans G4.out (World.grownBy.trans G46.out (World.grownBy.trans hV hVV))))) (HRF.out.2 _ (World.grownBy.trans hV hVV)) (hz.trans HRF.out.1.symm) (HLZ.out Z hz)
          clear hrn hry hrc hrf hrfs
          go_wp2_with fail
          go_region_held3 (fun V => V.cell? ⟨rb, 0, none⟩ = some (.slice ra rn rc)) (first | (with_reducible exact HRC.out _ GD2.out) | (with_reducible exact HRC.out _ HG12.out) | (with_reducible exact HRC.out _ HG13.out) | (with_reducible exact HRC.out _ HG14.out) | (with_reducible exact HRC.out _ HG15.out)) (first | ((with_reducible refine (HFT.out _ GD2.out).mono ?_); intro e w12 hf; obtain ⟨v12, Z12, rfl, hr12, hz12, hg12, hl12⟩ := FR.of hf; obtain ⟨nz12, hnz12⟩ : ∃ q, Z12.length = q := ⟨_, rfl⟩; obtain ⟨az12, cz12, rfl⟩ := hr12.open hnz12; have HG12 := Lib.hid (World.grownBy.trans GD2.out hg12); have HS12 := Lib.hid (HSAME.out _ _ az12 nz12 cz12 Z12 GD2.out hr12 hnz12 hz12 hg12); clear hf hr12 hz12 hg12 hl12 hnz12) | ((with_reducible refine HS12.out.mono ?_); rintro e w13 ⟨rfl, hg⟩; have HG13 := Lib.hid (World.grownBy.trans HG12.out hg); clear hg) | ((with_reducible refine (HFU.out _ HG13.out).mono ?_); intro e w14 hf; obtain ⟨v14, Z14, rfl, hr14, hz14, hg14, hl14⟩ := FR.of hf; obtain ⟨nz14, hnz14⟩ : ∃ q, Z14.length = q := ⟨_, rfl⟩; obtain ⟨az14, cz14, rfl⟩ := hr14.open hnz14; have HG14 := Lib.hid (World.grownBy.trans HG13.out hg14); have HS14 := Lib.hid (HSAME.out _ _ az14 nz14 cz14 Z14 HG13.out hr14 hnz14 hz14 hg14); clear hf hr14 hz14 hg14 hl14 hnz14) | ((with_reducible refine HS14.out.mono ?_); rintro e w15 ⟨rfl, hg⟩; have HG15 := Lib.hid (World.grownBy.trans HG14.out hg); clear hg))
          go_wp2
          go_ret
          exact ⟨rfl, World.grownBy.trans G4.out (World.grownBy.trans G46.out HG15.out)⟩
        · exact absurd rfl hz
      · exact absurd HZ.out hz
    · have HZ := Lib.hid hz
      obtain ⟨z, hzz⟩ : ∃ z, Q.1 = z := ⟨_, rfl⟩
      rw [hzz] at hz
      rw [hzz]
      have HZZ := Lib.hid hzz
      clear hzz
      dsimp only
      have e1 : (z == 0) = false := by simp [hz]
      have e2 : (z != 0) = true := by simp [hz]
      go_wp2_with fail
      (with_reducible refine (HRO.out _ G3.out).mono ?_)
      rintro e w4 ⟨hg, hcase⟩
      have G4 := Lib.hid (World.grownBy.trans G3.out hg)
      clear hg
      rcases hcase with ⟨hz2, rb, R, rfl, hra, hR⟩ | ⟨_, rfl⟩
      · exact absurd hz2 HZ.out
      · rw [HZZ.out]
        dsimp only
        go_wp2
        go_ret
        exact ⟨rfl, G4.out⟩
end Go.Proofs.YtichejodbohldaaGreatDoor
