/- The reference's tree: Write. -/
import Derived.Test.YtichejodbohldaaGreatDoorOgM
namespace Go.Proofs.YtichejodbohldaaGreatDoor
open Go.RowKit Go.Maps Go.Lib
set_option maxRecDepth 1000000
theorem key_not_empty {M : Tr} (hI : Inv M) : getA M E0 = none := by
  cases h : getA M E0 with
  | none => rfl
  | some n =>
    obtain ⟨L, k, e, hL, hk⟩ := hI.key_of h
    have := hL.ne k (by omega)
    rw [← hk, upL_all, ← e] at this
    exact absurd rfl this
theorem refClean_at (s p : ByteArray) (q : Int) (h : Pth.cleanS s = (p, q)) (V : World) (hV : 0 < V.heap.size) : Calls Tryz.prog 38 #[.string s] V fun e w' => e = .returned (.tuple #[.string p, .int .i64 q]) ∧ V.grownBy w' none := by
  have := Pth.refClean_any s V hV
  rw [h] at this
  exact this
set_option maxHeartbeats 16000000 in
theorem refWrite_any (rb : Nat) (M : Tr) (R : Nat → Prop) (s : ByteArray) (ab : Option Addr) (nb cb : Nat) (lb : List UInt8) (w : World) (h : RefAt w rb M R) (hI : Inv M) (hb : Lie w R (.slice ab nb cb) lb) (hnb : lb.length = nb) (hn2 : nb ≤ 1000000) :
    Calls Tryz.prog 15 #[.pointer (some ⟨rb, 0, none⟩), .string s, .slice ab nb cb] w (RefRet rb (putS M s fun _ => lb) w R) := by
  obtain ⟨⟨a, c, Y, hr, rfl, ho⟩, hlt⟩ := h
  have HR := Lib.hid hr
  have HO := Lib.hid (And.intro ho hlt)
  have HB := Lib.hid hb
  have HNB := Lib.hid hnb
  have hY : Y.length ≤ 500 := by have := hI.len; rw [mapA_len] at this; exact this
  have hsz := hI.size
  have hpos : 0 < w.heap.size := Nat.lt_of_le_of_lt (Nat.zero_le _) (bk_size hr.head)
  obtain ⟨n, hn⟩ : ∃ n, Y.length = n := ⟨_, rfl⟩
  have HN := Lib.hid hn
  rw [hn] at hY
  rcases clean_ways s with ⟨L, hc, hL⟩ | ⟨q, hc, hq, _, _⟩
  · have HCL : Hid (∀ V : World, 0 < V.heap.size → Calls Tryz.prog 38 #[.string s] V fun e w' => e = .returned (.tuple #[.string (Pth.joinB L), .int .i64 0]) ∧ V.grownBy w' none) := Lib.hid fun V hV => refClean_at s _ 0 hc V hV
    have HL := Lib.hid hL
    have HI := Lib.hid hI
    have HPU : Hid (∀ (k : Nat), L.length = k + 1 → putS (nds Y) s (fun _ => lb) = if dirT (nds Y) (Pth.joinB L) = true ∨ fileK (nds Y) L k = true then (54, nds Y) else if fitsT (nds Y) L k nb = true then (0, putA (mkN (nds Y) L k) (Pth.joinB L) ⟨false, lb⟩) else (55, nds Y)) := Lib.hid fun k hk => by
      have hf := fileS_at (nds Y) s L hc hL
      have hfk := fileN_K (M := nds Y) hL k (by omega)
      unfold aheadT at hf
      rw [hk, hfk] at hf
      by_cases hcond : dirT (nds Y) (Pth.joinB L) = true ∨ fileK (nds Y) L k = true
      · rw [if_pos hcond]
        rw [if_pos (by rcases hcond with h | h <;> simp [h])] at hf
        exact putS_bad hf (by decide) _
      · rw [if_neg hcond]
        rw [if_neg (by simp only [Bool.or_eq_true]; exact hcond)] at hf
        have hup : upL L (k + 1) = Pth.joinB L := by rw [← hk, upL_all]
        rw [← hup] at hf ⊢
        rw [putS_at hf hL hk, ← hnb]
    have HP0 : Hid (L = [] → putS (nds Y) s (fun _ => lb) = (54, nds Y)) := Lib.hid fun h0 => by
      have hf := fileS_at (nds Y) s L hc hL
      rw [if_pos (by rw [h0]; unfold dirT; rw [show Pth.joinB [] = E0 from rfl]; simp)] at hf
      exact putS_bad hf (by decide) _
    obtain ⟨p, hp⟩ : ∃ p, Pth.joinB L = p := ⟨_, rfl⟩
    have hps := hL.size
    rw [hp] at HCL HPU hps
    have HP := Lib.hid hp
    clear hr ho hlt hb hnb hI hc hL hp hn
    go_enter Tryz.func15, Tryz.ntmps15
    go_wp2_with fail
    (with_reducible refine (HCL.out _ hpos).mono ?_)
    rintro e w1 ⟨rfl, hg⟩
    have HG1 := Lib.hid hg
    clear hg
    dsimp only
    go_wp2_with fail
    (with_reducible refine (refAt_any rb c Y a p _ (HR.out.stays HG1.out) (by rw [HN.out]; omega)).mono ?_)
    rintro e w2 ⟨z, rfl, hz, hg⟩
    have HG2 := Lib.hid (World.grownBy.trans HG1.out hg)
    clear hg
    dsimp only
    go_wp2_with fail
    (with_reducible refine (refAhead_any rb c Y a L p _ (HR.out.stays HG2.out) (by rw [HN.out]; omega) HL.out HP.out).mono ?_)
    rintro e w3 ⟨al, nl, cl, rfl, hg, hlack⟩
    have HG3 := Lib.hid (World.grownBy.trans HG2.out hg)
    have HLK := Lib.hid hlack
    clear hg hlack
    dsimp only
    obtain ⟨fk, hfk⟩ : ∃ fk, fileK (nds Y) L (L.length - 1) = fk := ⟨_, rfl⟩
    rw [hfk] at HLK ⊢
    have HFK := Lib.hid hfk
    clear hfk
    have HRET : Hid (∀ V q, w.grownBy V none → RefRet rb (q, nds Y) w R (.returned (.int .i64 q)) V) := Lib.hid fun V q hV => ⟨rfl, RefAt.start ⟨⟨a, c, Y, HR.out, rfl, HO.out.1⟩, HO.out.2⟩ hV, Kept.ofNone hV _⟩
    rcases empty_ways p with rfl | ⟨e1, e2, e3, e4⟩
    · have HE0 : Hid (putS (nds Y) s (fun _ => lb) = (54, nds Y)) := Lib.hid (by
        cases hL0 : L with
        | nil => exact HP0.out hL0
        | cons x rest => exact absurd (by
            have := HL.out.ne rest.length (by rw [hL0]; simp)
            rw [show rest.length + 1 = L.length by rw [hL0]; simp, upL_all, HP.out] at this
            exact this rfl) id)
      go_wp2
      go_ret
      rw [HE0.out]
      exact HRET.out _ _ HG3.out
    · obtain ⟨k, hk⟩ : ∃ k, L.length = k + 1 := by
        cases hL0 : L with
        | nil => exact absurd (by rw [← HP.out, hL0]; rfl) e1
        | cons x rest => exact ⟨rest.length, by simp⟩
      have HK := Lib.hid hk
      have HPU2 := Lib.hid (HPU.out k hk)
      rw [hk, show k + 1 - 1 = k by omega] at HLK HFK
      rw [HFK.out] at HPU2
      clear hk
      have c3 := (HR.out.stays HG3.out).cell.1
      rw [HN.out] at c3
      rcases hz with ⟨rfl, hz⟩ | ⟨k0, g0, rfl, hz1, hz2⟩
      · have hdir : dirT (nds Y) p = false := by unfold dirT; rw [nds_get, hz, decide_eq_false e1]; rfl
        rw [hdir] at HPU2
        have HZ := Lib.hid hz
        clear hz hdir
        cases fk with
        | true =>
          go_wp2
          go_ret
          rw [HPU2.out, if_pos (by simp)]
          exact HRET.out _ _ HG3.out
        | false =>
          have hl3 := HLK.out rfl
          have hnl : nl = lackN (nds Y) L k := by
            have := lackL_lack HI.out HL.out k (by rw [HK.out]; omega)
            rw [← this]; exact hl3.2.1.symm
          have hnl12 : nl ≤ 12 := by
            have h1 := lackN_le (nds Y) L k
            have h2 := HL.out.len
            have h3 := HK.out
            omega
          have hncl := hl3.2.2
          have HL3 := Lib.hid hl3
          have HCLM : Hid (nl ≤ cl ∧ cl ≤ 9223372036854775807) := Lib.hid ⟨hncl, by
            obtain ⟨_, _, e, _, h2⟩ := hl3.1.form
            have e2 := (Value.slice.inj e).2.2
            unfold maxLen at h2
            omega⟩
          obtain ⟨z, hz⟩ : ∃ z, sizeT (nds Y) = z := ⟨_, rfl⟩
          have HFIT : Hid (fitsT (nds Y) L k nb = (decide (nb ≤ 65536) && (decide (n + (nl + 1) ≤ 500) && decide ((z : Int) + ((nb : Int) - ((0 : Nat) : Int)) ≤ 1048576)))) := Lib.hid (by
            have hup : upL L (k + 1) = p := by rw [← HK.out, upL_all]; exact HP.out
            unfold fitsT moreT oldT
            unfold hasT
            rw [hup, hz, mapA_len, HN.out, ← hnl, nds_get, HZ.out, decide_eq_false e1]
            rfl)
          have HSZ : Hid (∀ V, w.grownBy V none → Calls Tryz.prog 32 #[.pointer (some ⟨rb, 0, none⟩)] V fun e w' => e = .returned (.int .i64 (z : Int)) ∧ V.grownBy w' none) := Lib.hid fun V hV => by
            have := refSize_any rb c Y _ V (HR.out.stays hV) (by rw [HN.out]; omega) (by omega)
            rw [hz] at this
            exact this
          have HOLD : Hid ((0 : Nat) ≤ z) := Lib.hid (Nat.zero_le _)
          have hold := HOLD.out
          rw [hz] at hsz
          rw [if_neg (by simp)] at HPU2
          clear hnl hz hl3
          by_cases h1 : 65536 < nb
          · have d1 : decide (65536 < (nb : Int)) = true := by simp; omega
            have HF : Hid (fitsT (nds Y) L k nb = false) := Lib.hid (by rw [HFIT.out, decide_eq_false (by omega)]; rfl)
            rw [HF.out, if_neg (by simp)] at HPU2
            go_wp2
            go_ret
            rw [HPU2.out]
            exact HRET.out _ _ HG3.out
          · have d1 : decide (65536 < (nb : Int)) = false := by simp; omega
            by_cases h2 : (1048576 : Int) < (z : Int) - ((0 : Nat) : Int) + (nb : Int)
            · have d2 : decide ((1048576 : Int) < (z : Int) - ((0 : Nat) : Int) + (nb : Int)) = true := by simpa using h2
              have HF : Hid (fitsT (nds Y) L k nb = false) := Lib.hid (by rw [HFIT.out, decide_eq_false (p := (z : Int) + ((nb : Int) - ((0 : Nat) : Int)) ≤ 1048576) (by omega), Bool.and_false, Bool.and_false])
              rw [HF.out, if_neg (by simp)] at HPU2
              go_wp2_with fail
              (with_reducible refine (HSZ.out _ HG3.out).mono ?_)
              rintro e w4 ⟨rfl, hg⟩
              have HG4 := Lib.hid (World.grownBy.trans HG3.out hg)
              clear hg
              dsimp only
              go_wp2
              go_ret
              rw [HPU2.out]
              exact HRET.out _ _ HG4.out
            · have d2 : decide ((1048576 : Int) < (z : Int) - ((0 : Nat) : Int) + (nb : Int)) = false := by simpa using h2
              by_cases h3 : 500 < n + 1 + nl
              · have HF : Hid (fitsT (nds Y) L k nb = false) := Lib.hid (by rw [HFIT.out, decide_eq_false (p := n + (nl + 1) ≤ 500) (by omega), Bool.false_and, Bool.and_false])
                have d3 : decide (500 < (n : Int) + ((1 : Nat) : Int) + (nl : Int)) = true := by simp; omega
                rw [HF.out, if_neg (by simp)] at HPU2
                go_wp2_with fail
                (with_reducible refine (HSZ.out _ HG3.out).mono ?_)
                rintro e w4 ⟨rfl, hg⟩
                have HG4 := Lib.hid (World.grownBy.trans HG3.out hg)
                have c4 := (HR.out.stays HG4.out).cell.1
                rw [HN.out] at c4
                clear hg
                dsimp only
                go_wp2
                go_ret
                rw [HPU2.out]
                exact HRET.out _ _ HG4.out
              · have HF : Hid (fitsT (nds Y) L k nb = true) := Lib.hid (by rw [HFIT.out, decide_eq_true (by omega), decide_eq_true (by omega), decide_eq_true (by omega)]; rfl)
                have d3 : decide (500 < (n : Int) + ((1 : Nat) : Int) + (nl : Int)) = false := by simp; omega
                rw [HF.out, if_pos rfl] at HPU2
                go_wp2_with fail
                (with_reducible refine (HSZ.out _ HG3.out).mono ?_)
                rintro e w4 ⟨rfl, hg⟩
                have HG4 := Lib.hid (World.grownBy.trans HG3.out hg)
                have HLK4 : Hid (OwnsS w4 w2.heap.size (.slice al nl cl) (lackL (nds Y) L k) ∧ (lackL (nds Y) L k).length = nl) := Lib.hid ⟨(HL3.out.1.stays (World.grownBy.refl _ _)).stays hg, HL3.out.2.1⟩
                have c4 := (HR.out.stays HG4.out).cell.1
                rw [HN.out] at c4
                clear hg
                dsimp only
                go_wp2_with fail
                have HX4 : Hid (RefX w4 rb Y R) := Lib.hid ⟨_, c, HR.out.stays HG4.out, HO.out.1⟩
                have HB4 : Hid (Lie w4 R (.slice ab nb cb) lb) := Lib.hid (HB.out.keeps (Kept.ofNone HG4.out fun _ => False) fun _ e => e.elim)
                (with_reducible refine (refMake_any rb Y R (lackL (nds Y) L k) al nl cl _ w4 HX4.out HR.out.asc (by rw [HN.out]; omega) HLK4.out.1 HLK4.out.2 (by omega)).mono ?_)
                rintro e w5 ⟨rfl, hx5, hk5⟩
                obtain ⟨Y5, hY5⟩ : ∃ Y5, putAll Y dirG (lackL (nds Y) L k) = Y5 := ⟨_, rfl⟩
                rw [hY5] at hx5
                have HY5 : Hid (nds Y5 = mkN (nds Y) L k ∧ Y5.length ≤ 1000 ∧ AscA Y5) := Lib.hid ⟨by rw [← hY5, nds_putAll]; exact make_same HI.out HL.out k (by rw [HK.out]; omega), by
                  rw [← hY5]
                  have := putAll_len dirG (lackL (nds Y) L k) Y HR.out.asc
                  rw [HLK4.out.2, HN.out] at this
                  omega, by rw [← hY5]; exact putAll_asc dirG _ _ HR.out.asc⟩
                have HX5 := Lib.hid hx5
                have HW45 := Lib.hid hk5.size
                have HK5 : Hid (Kept w w5 (· = rb)) := Lib.hid ((Kept.ofNone HG4.out _).trans hk5 fun i e => .inl e)
                have HB5 : Hid (Lie w5 R (.slice ab nb cb) lb) := Lib.hid (HB4.out.keeps hk5 fun k e => by rw [e]; exact HO.out.1 rb (.inl rfl))
                obtain ⟨PB, hPB⟩ := HB5.out.part
                have HPT := Lib.hid hPB
                have HNB8 : Hid (([] : List UInt8).length + lb.length ≤ 8000000) := Lib.hid (by rw [HNB.out]; simp; omega)
                clear hx5 hk5 hY5 c4 hPB
                dsimp only
                go_wp2_with (at_builtin; go_must (with_reducible refine app_loc (o := ⟨some 93, _, _, _, _, _⟩) rfl _ _ rfl w5.heap.size PB (.slice none 0 0) (.slice ab nb cb) [] lb ?_ (Owns.nil _ _) ?_ HPT.out HNB8.out (Nat.le_refl _) ?_); go_must (exact rfl); go_must (exact rfl); (intro v6 w6 ho6 hg6 _; obtain ⟨a6, c6, e6, _⟩ := ho6.open (m := nb) (by rw [List.nil_append]; exact HNB.out); subst e6; have HO6 := Lib.hid ho6; have HG6 : Hid (w5.grownBy w6 none) := Lib.hid hg6; clear ho6 hg6))
                rw [List.nil_append] at HO6
                obtain ⟨a5, c5, hr5, ho5⟩ := HX5.out
                have HX6 : Hid (RefX w6 rb Y5 (fun k => R k ∨ w4.heap.size ≤ k)) := Lib.hid (HX5.out.stays HG6.out)
                have HPUT := Lib.hid (refPut_any rb c5 Y5 a5 p ⟨⟨false, lb⟩, .slice a6 nb c6⟩ false a6 nb c6 w6 (hr5.stays HG6.out) (by have := HY5.out.2.1; omega) rfl rfl (HO6.out.mono (Nat.zero_le _)))
                clear hr5 ho5
                (with_reducible refine HPUT.out.mono ?_)
                intro e w7 hp
                obtain ⟨rfl, hx7, hk7⟩ := hp.x HX6.out (fun k hk => .inl (.inr (Nat.le_trans (by have := HG4.out.size; exact Nat.le_trans (Nat.le_refl _) HW45.out) (HO6.out.block_lt k hk).1)))
                have hfin : RefRet rb (0, putA (mkN (nds Y) L k) p ⟨false, lb⟩) w R (.returned (.int .i64 0)) w7 := by
                  obtain ⟨a7, c7, hr7, ho7⟩ := hx7
                  refine ⟨rfl, ⟨⟨a7, c7, _, hr7, by rw [nds_put, HY5.out.1], fun i hi => ⟨?_, hr7.own_lt hi⟩⟩, fun i hi => hi.2⟩, (HK5.out.trans (Kept.ofNone HG6.out _) fun i e => .inl e).trans hk7 fun i e => .inl e⟩
                  rcases ho7 i hi with (h | h) | h
                  · exact .inl h
                  · exact .inr (Nat.le_trans HG4.out.size h)
                  · exact .inr (Nat.le_trans HK5.out.size (Nat.le_trans HG6.out.size h))
                have HFIN := Lib.hid hfin
                clear hp hx7 hk7 hfin
                dsimp only
                go_wp2
                go_ret
                rw [HPU2.out]
                exact HFIN.out
      · have hk0 : k0 < n := by have := (List.getElem?_eq_some_iff.1 hz1).1; rw [HN.out] at this; exact this
        obtain ⟨b4, x4, y4, rfl, _, _, q2, q3⟩ := (HR.out.stays HG3.out).at k0 p g0 hz1
        have hdir : dirT (nds Y) p = g0.nd.dir := by unfold dirT; rw [nds_get, hz2, decide_eq_false e1]; rfl
        rw [hdir] at HPU2
        obtain ⟨mg, hmg⟩ : ∃ mg, g0.nd.b.length = mg := ⟨_, rfl⟩
        rw [hmg] at q3
        have HZ := Lib.hid (And.intro hz1 (And.intro hz2 hmg))
        cases hd0 : g0.nd.dir with
        | true =>
          rw [hd0] at q2 HPU2
          clear hz1 hz2 hmg hdir hd0
          go_wp2
          go_ret
          rw [HPU2.out, if_pos (by simp)]
          exact HRET.out _ _ HG3.out
        | false =>
          rw [hd0] at q2 HPU2
          clear hz1 hz2 hmg hdir hd0
          cases fk with
          | true =>
            go_wp2
            go_ret
            rw [HPU2.out, if_pos (by simp)]
            exact HRET.out _ _ HG3.out
          | false =>
            have hl3 := HLK.out rfl
            have hnl : nl = lackN (nds Y) L k := by
              have := lackL_lack HI.out HL.out k (by rw [HK.out]; omega)
              rw [← this]; exact hl3.2.1.symm
            have hnl12 : nl ≤ 12 := by
              have h1 := lackN_le (nds Y) L k
              have h2 := HL.out.len
              have h3 := HK.out
              omega
            have hncl := hl3.2.2
            have HL3 := Lib.hid hl3
            have HCLM : Hid (nl ≤ cl ∧ cl ≤ 9223372036854775807) := Lib.hid ⟨hncl, by
              obtain ⟨_, _, e, _, h2⟩ := hl3.1.form
              have e2 := (Value.slice.inj e).2.2
              unfold maxLen at h2
              omega⟩
            obtain ⟨z, hz⟩ : ∃ z, sizeT (nds Y) = z := ⟨_, rfl⟩
            have HFIT : Hid (fitsT (nds Y) L k nb = (decide (nb ≤ 65536) && (decide (n + (nl + 0) ≤ 500) && decide ((z : Int) + ((nb : Int) - ((mg : Nat) : Int)) ≤ 1048576)))) := Lib.hid (by
              have hup : upL L (k + 1) = p := by rw [← HK.out, upL_all]; exact HP.out
              unfold fitsT moreT oldT
              unfold hasT
              rw [hup, hz, mapA_len, HN.out, ← hnl, nds_get, HZ.out.2.1, ← HZ.out.2.2]
              rfl)
            have HSZ : Hid (∀ V, w.grownBy V none → Calls Tryz.prog 32 #[.pointer (some ⟨rb, 0, none⟩)] V fun e w' => e = .returned (.int .i64 (z : Int)) ∧ V.grownBy w' none) := Lib.hid fun V hV => by
              have := refSize_any rb c Y _ V (HR.out.stays hV) (by rw [HN.out]; omega) (by omega)
              rw [hz] at this
              exact this
            have HOLD : Hid ((mg : Nat) ≤ z) := Lib.hid (by
              have := old_le (nds Y) p
              rw [nds_get, HZ.out.2.1, hz] at this
              rw [← HZ.out.2.2]; exact this)
            have hold := HOLD.out
            rw [hz] at hsz
            rw [if_neg (by simp)] at HPU2
            clear hnl hz hl3
            by_cases h1 : 65536 < nb
            · have d1 : decide (65536 < (nb : Int)) = true := by simp; omega
              have HF : Hid (fitsT (nds Y) L k nb = false) := Lib.hid (by rw [HFIT.out, decide_eq_false (by omega)]; rfl)
              rw [HF.out, if_neg (by simp)] at HPU2
              go_wp2
              go_ret
              rw [HPU2.out]
              exact HRET.out _ _ HG3.out
            · have d1 : decide (65536 < (nb : Int)) = false := by simp; omega
              by_cases h2 : (1048576 : Int) < (z : Int) - ((mg : Nat) : Int) + (nb : Int)
              · have d2 : decide ((1048576 : Int) < (z : Int) - ((mg : Nat) : Int) + (nb : Int)) = true := by simpa using h2
                have HF : Hid (fitsT (nds Y) L k nb = false) := Lib.hid (by rw [HFIT.out, decide_eq_false (p := (z : Int) + ((nb : Int) - ((mg : Nat) : Int)) ≤ 1048576) (by omega), Bool.and_false, Bool.and_false])
                rw [HF.out, if_neg (by simp)] at HPU2
                go_wp2_with fail
                (with_reducible refine (HSZ.out _ HG3.out).mono ?_)
                rintro e w4 ⟨rfl, hg⟩
                have HG4 := Lib.hid (World.grownBy.trans HG3.out hg)
                clear hg
                dsimp only
                go_wp2
                go_ret
                rw [HPU2.out]
                exact HRET.out _ _ HG4.out
              · have d2 : decide ((1048576 : Int) < (z : Int) - ((mg : Nat) : Int) + (nb : Int)) = false := by simpa using h2
                by_cases h3 : 500 < n + 0 + nl
                · have HF : Hid (fitsT (nds Y) L k nb = false) := Lib.hid (by rw [HFIT.out, decide_eq_false (p := n + (nl + 0) ≤ 500) (by omega), Bool.false_and, Bool.and_false])
                  have d3 : decide (500 < (n : Int) + ((0 : Nat) : Int) + (nl : Int)) = true := by simp; omega
                  rw [HF.out, if_neg (by simp)] at HPU2
                  go_wp2_with fail
                  (with_reducible refine (HSZ.out _ HG3.out).mono ?_)
                  rintro e w4 ⟨rfl, hg⟩
                  have HG4 := Lib.hid (World.grownBy.trans HG3.out hg)
                  have c4 := (HR.out.stays HG4.out).cell.1
                  rw [HN.out] at c4
                  clear hg
                  dsimp only
                  go_wp2
                  go_ret
                  rw [HPU2.out]
                  exact HRET.out _ _ HG4.out
                · have HF : Hid (fitsT (nds Y) L k nb = true) := Lib.hid (by rw [HFIT.out, decide_eq_true (by omega), decide_eq_true (by omega), decide_eq_true (by omega)]; rfl)
                  have d3 : decide (500 < (n : Int) + ((0 : Nat) : Int) + (nl : Int)) = false := by simp; omega
                  rw [HF.out, if_pos rfl] at HPU2
                  go_wp2_with fail
                  (with_reducible refine (HSZ.out _ HG3.out).mono ?_)
                  rintro e w4 ⟨rfl, hg⟩
                  have HG4 := Lib.hid (World.grownBy.trans HG3.out hg)
                  have HLK4 : Hid (OwnsS w4 w2.heap.size (.slice al nl cl) (lackL (nds Y) L k) ∧ (lackL (nds Y) L k).length = nl) := Lib.hid ⟨(HL3.out.1.stays (World.grownBy.refl _ _)).stays hg, HL3.out.2.1⟩
                  have c4 := (HR.out.stays HG4.out).cell.1
                  rw [HN.out] at c4
                  clear hg
                  dsimp only
                  go_wp2_with fail
                  have HX4 : Hid (RefX w4 rb Y R) := Lib.hid ⟨_, c, HR.out.stays HG4.out, HO.out.1⟩
                  have HB4 : Hid (Lie w4 R (.slice ab nb cb) lb) := Lib.hid (HB.out.keeps (Kept.ofNone HG4.out fun _ => False) fun _ e => e.elim)
                  (with_reducible refine (refMake_any rb Y R (lackL (nds Y) L k) al nl cl _ w4 HX4.out HR.out.asc (by rw [HN.out]; omega) HLK4.out.1 HLK4.out.2 (by omega)).mono ?_)
                  rintro e w5 ⟨rfl, hx5, hk5⟩
                  obtain ⟨Y5, hY5⟩ : ∃ Y5, putAll Y dirG (lackL (nds Y) L k) = Y5 := ⟨_, rfl⟩
                  rw [hY5] at hx5
                  have HY5 : Hid (nds Y5 = mkN (nds Y) L k ∧ Y5.length ≤ 1000 ∧ AscA Y5) := Lib.hid ⟨by rw [← hY5, nds_putAll]; exact make_same HI.out HL.out k (by rw [HK.out]; omega), by
                    rw [← hY5]
                    have := putAll_len dirG (lackL (nds Y) L k) Y HR.out.asc
                    rw [HLK4.out.2, HN.out] at this
                    omega, by rw [← hY5]; exact putAll_asc dirG _ _ HR.out.asc⟩
                  have HX5 := Lib.hid hx5
                  have HW45 := Lib.hid hk5.size
                  have HK5 : Hid (Kept w w5 (· = rb)) := Lib.hid ((Kept.ofNone HG4.out _).trans hk5 fun i e => .inl e)
                  have HB5 : Hid (Lie w5 R (.slice ab nb cb) lb) := Lib.hid (HB4.out.keeps hk5 fun k e => by rw [e]; exact HO.out.1 rb (.inl rfl))
                  obtain ⟨PB, hPB⟩ := HB5.out.part
                  have HPT := Lib.hid hPB
                  have HNB8 : Hid (([] : List UInt8).length + lb.length ≤ 8000000) := Lib.hid (by rw [HNB.out]; simp; omega)
                  clear hx5 hk5 hY5 c4 hPB
                  dsimp only
                  go_wp2_with (at_builtin; go_must (with_reducible refine app_loc (o := ⟨some 93, _, _, _, _, _⟩) rfl _ _ rfl w5.heap.size PB (.slice none 0 0) (.slice ab nb cb) [] lb ?_ (Owns.nil _ _) ?_ HPT.out HNB8.out (Nat.le_refl _) ?_); go_must (exact rfl); go_must (exact rfl); (intro v6 w6 ho6 hg6 _; obtain ⟨a6, c6, e6, _⟩ := ho6.open (m := nb) (by rw [List.nil_append]; exact HNB.out); subst e6; have HO6 := Lib.hid ho6; have HG6 : Hid (w5.grownBy w6 none) := Lib.hid hg6; clear ho6 hg6))
                  rw [List.nil_append] at HO6
                  obtain ⟨a5, c5, hr5, ho5⟩ := HX5.out
                  have HX6 : Hid (RefX w6 rb Y5 (fun k => R k ∨ w4.heap.size ≤ k)) := Lib.hid (HX5.out.stays HG6.out)
                  have HPUT := Lib.hid (refPut_any rb c5 Y5 a5 p ⟨⟨false, lb⟩, .slice a6 nb c6⟩ false a6 nb c6 w6 (hr5.stays HG6.out) (by have := HY5.out.2.1; omega) rfl rfl (HO6.out.mono (Nat.zero_le _)))
                  clear hr5 ho5
                  (with_reducible refine HPUT.out.mono ?_)
                  intro e w7 hp
                  obtain ⟨rfl, hx7, hk7⟩ := hp.x HX6.out (fun k hk => .inl (.inr (Nat.le_trans (by have := HG4.out.size; exact Nat.le_trans (Nat.le_refl _) HW45.out) (HO6.out.block_lt k hk).1)))
                  have hfin : RefRet rb (0, putA (mkN (nds Y) L k) p ⟨false, lb⟩) w R (.returned (.int .i64 0)) w7 := by
                    obtain ⟨a7, c7, hr7, ho7⟩ := hx7
                    refine ⟨rfl, ⟨⟨a7, c7, _, hr7, by rw [nds_put, HY5.out.1], fun i hi => ⟨?_, hr7.own_lt hi⟩⟩, fun i hi => hi.2⟩, (HK5.out.trans (Kept.ofNone HG6.out _) fun i e => .inl e).trans hk7 fun i e => .inl e⟩
                    rcases ho7 i hi with (h | h) | h
                    · exact .inl h
                    · exact .inr (Nat.le_trans HG4.out.size h)
                    · exact .inr (Nat.le_trans HK5.out.size (Nat.le_trans HG6.out.size h))
                  have HFIN := Lib.hid hfin
                  clear hp hx7 hk7 hfin
                  dsimp only
                  go_wp2
                  go_ret
                  rw [HPU2.out]
                  exact HFIN.out
  · have HRET : Hid (∀ V, w.grownBy V none → RefRet rb (q, nds Y) w R (.returned (.int .i64 q)) V) := Lib.hid fun V hV => ⟨rfl, RefAt.start ⟨⟨a, c, Y, HR.out, rfl, HO.out.1⟩, HO.out.2⟩ hV, Kept.ofNone hV _⟩
    have HE : Hid (putS (nds Y) s (fun _ => lb) = (q, nds Y)) := Lib.hid (putS_bad (fileS_bad (nds Y) s q hc hq) hq _)
    have HCL : Hid (∀ V : World, 0 < V.heap.size → Calls Tryz.prog 38 #[.string s] V fun e w' => e = .returned (.tuple #[.string E0, .int .i64 q]) ∧ V.grownBy w' none) := Lib.hid fun V hV => refClean_at s _ q hc V hV
    have q4 : (q != 0) = true := by simp [hq]
    have q5 : (q == 0) = false := by simp [hq]
    clear hr ho hlt hb hnb hI hc hn
    go_enter Tryz.func15, Tryz.ntmps15
    go_wp2_with fail
    (with_reducible refine (HCL.out _ hpos).mono ?_)
    rintro e w1 ⟨rfl, hg⟩
    have HG1 := Lib.hid hg
    clear hg
    dsimp only
    go_wp2
    go_ret
    rw [HE.out]
    exact HRET.out _ HG1.out
end Go.Proofs.YtichejodbohldaaGreatDoor
