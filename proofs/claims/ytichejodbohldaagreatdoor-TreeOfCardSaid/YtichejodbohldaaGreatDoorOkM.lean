/- The reference's Mkdir. -/
import Derived.Test.YtichejodbohldaaGreatDoorOjM
namespace Go.Proofs.YtichejodbohldaaGreatDoor
open Go.RowKit Go.Maps Go.Lib
set_option maxRecDepth 1000000
set_option maxHeartbeats 16000000 in
theorem refMkdir_any (rb : Nat) (M : Tr) (R : Nat → Prop) (s : ByteArray) (w : World) (h : RefAt w rb M R) (hI : Inv M) :
    Calls Tryz.prog 19 #[.pointer (some ⟨rb, 0, none⟩), .string s] w (RefRet rb (mkdirS M s) w R) := by
  obtain ⟨⟨a, c, Y, hr, rfl, ho⟩, hlt⟩ := h
  have HR := Lib.hid hr
  have HO := Lib.hid (And.intro ho hlt)
  have hY : Y.length ≤ 500 := by have := hI.len; rw [mapA_len] at this; exact this
  have hpos : 0 < w.heap.size := Nat.lt_of_le_of_lt (Nat.zero_le _) (bk_size hr.head)
  obtain ⟨n, hn⟩ : ∃ n, Y.length = n := ⟨_, rfl⟩
  have HN := Lib.hid hn
  rw [hn] at hY
  have HRET : Hid (∀ V q, w.grownBy V none → RefRet rb (q, nds Y) w R (.returned (.int .i64 q)) V) := Lib.hid fun V q hV => ⟨rfl, RefAt.start ⟨⟨a, c, Y, HR.out, rfl, HO.out.1⟩, HO.out.2⟩ hV, Kept.ofNone hV _⟩
  rcases clean_ways s with ⟨L, hc, hL⟩ | ⟨q, hc, hq, _, _⟩
  · have HCL : Hid (∀ V : World, 0 < V.heap.size → Calls Tryz.prog 38 #[.string s] V fun e w' => e = .returned (.tuple #[.string (Pth.joinB L), .int .i64 0]) ∧ V.grownBy w' none) := Lib.hid fun V hV => refClean_at s _ 0 hc V hV
    have HL := Lib.hid hL
    have HI := Lib.hid hI
    have HPU := Lib.hid (mkdirS_at (M := nds Y) hc hL)
    obtain ⟨p, hp⟩ : ∃ p, Pth.joinB L = p := ⟨_, rfl⟩
    have hps := hL.size
    rw [hp] at HCL HPU hps
    rw [mapA_len, hn] at HPU
    have HP := Lib.hid hp
    rcases empty_ways p with rfl | ⟨e1, e2, e3, e4⟩
    · rw [if_pos (by unfold dirT; simp)] at HPU
      clear hr ho hlt hI hc hL hp hn
      go_enter Tryz.func19, Tryz.ntmps19
      go_wp2_with fail
      (with_reducible refine (HCL.out _ hpos).mono ?_)
      rintro e w1 ⟨rfl, hg⟩
      have HG1 := Lib.hid hg
      clear hg
      dsimp only
      go_wp2
      go_ret
      rw [HPU.out]
      exact HRET.out _ _ HG1.out
    · obtain ⟨k, hk⟩ : ∃ k, L.length = k + 1 := by
        cases hL0 : L with
        | nil => exact absurd (by rw [← hp, hL0]; rfl) e1
        | cons x rest => exact ⟨rest.length, by simp⟩
      have hup : upL L (k + 1) = p := by rw [← hk, upL_all, hp]
      have HK := Lib.hid (And.intro hk hup)
      have hah : aheadT (nds Y) L = fileK (nds Y) L k := by
        unfold aheadT
        rw [hk]
        exact fileN_K hL k (by omega)
      rw [hah, hk] at HPU
      clear hr ho hlt hI hc hL hp hn hk hup hah
      go_enter Tryz.func19, Tryz.ntmps19
      go_wp2_with fail
      (with_reducible refine (HCL.out _ hpos).mono ?_)
      rintro e w1 ⟨rfl, hg⟩
      have HG1 := Lib.hid hg
      clear hg
      dsimp only
      go_wp2_with fail
      (with_reducible refine (refAt_any rb c Y a p _ (HR.out.stays HG1.out) (by rw [HN.out]; omega)).mono ?_)
      rintro e w2 ⟨z, rfl, hz, hg⟩
      have HG2 := Lib.hid (World.grownBy.trans HG1.out hg)
      clear hg
      dsimp only
      go_wp2_with fail
      (with_reducible refine (refAhead_any rb c Y a L p _ (HR.out.stays HG2.out) (by rw [HN.out]; omega) HL.out HP.out).mono ?_)
      rintro e w3 ⟨al, nl, cl, rfl, hg, hlack⟩
      have HG3 := Lib.hid (World.grownBy.trans HG2.out hg)
      have HW23 := Lib.hid hg.size
      have HG23 := Lib.hid hg
      rw [HK.out.1, show k + 1 - 1 = k by omega] at hlack ⊢
      obtain ⟨fk, hfk⟩ : ∃ fk, fileK (nds Y) L k = fk := ⟨_, rfl⟩
      rw [hfk] at hlack HPU ⊢
      have HLK := Lib.hid hlack
      clear hg hlack hfk
      dsimp only
      have c3 := (HR.out.stays HG3.out).cell.1
      rw [HN.out] at c3
      rcases hz with ⟨rfl, hz⟩ | ⟨k0, g0, rfl, hz1, hz2⟩
      · have hdir : dirT (nds Y) p = false := by unfold dirT; rw [nds_get, hz, decide_eq_false e1]; rfl
        have hfile : fileT (nds Y) p = false := by unfold fileT hasT; rw [nds_get, hz, decide_eq_false e1]; rfl
        rw [hdir, hfile, if_neg (by simp)] at HPU
        have HZ := Lib.hid hz
        clear hz hdir hfile
        cases fk with
        | true =>
          rw [if_pos (by simp)] at HPU
          go_wp2
          go_ret
          rw [HPU.out]
          exact HRET.out _ _ HG3.out
        | false =>
          rw [if_neg (by simp)] at HPU
          have hl3 := HLK.out rfl
          have hlk : lackN (nds Y) L (k + 1) = nl + 1 := by
            have h1 := lackL_lack HI.out HL.out k (by rw [HK.out.1]; omega)
            rw [lackN, HK.out.2, if_neg (by unfold hasT; rw [nds_get, HZ.out, decide_eq_false e1]; simp), ← h1, hl3.2.1]
          have hnl12 : nl ≤ 12 := by
            have h1 := lackL_len (nds Y) L k
            have h2 := HL.out.len
            have h3 := HK.out.1
            have h4 := hl3.2.1
            omega
          have hncl : nl ≤ cl ∧ cl ≤ 9223372036854775807 := ⟨hl3.2.2, by
            obtain ⟨_, _, e, _, h2⟩ := hl3.1.form
            have e2 := (Value.slice.inj e).2.2
            unfold maxLen at h2
            omega⟩
          rw [hlk] at HPU
          have HL3 := Lib.hid hl3
          have HLK1 : Hid (lackL (nds Y) L (k + 1) = lackL (nds Y) L k ++ [p]) := Lib.hid (by rw [lackL, HK.out.2, nds_get, HZ.out]; rfl)
          clear hl3 hlk
          by_cases h3 : 500 < n + nl + 1
          · have d3 : decide (500 < (n : Int) + (nl : Int) + 1) = true := by simp; omega
            rw [if_neg (by omega)] at HPU
            go_wp2
            go_ret
            rw [HPU.out]
            exact HRET.out _ _ HG3.out
          · have d3 : decide (500 < (n : Int) + (nl : Int) + 1) = false := by simp; omega
            rw [if_pos (by omega)] at HPU
            have HB : Hid (w2.heap.size ≤ (w3.alloc (.cells #[.string p] 9)).heap.size ∧ (lackL (nds Y) L k).length + [p].length ≤ 8000000) := Lib.hid ⟨by rw [alloc_size]; exact Nat.le_succ_of_le HW23.out, by rw [HL3.out.2.1]; simp; omega⟩
            have HOA : Hid (OwnsS (w3.alloc (.cells #[.string p] 9)) w2.heap.size (.slice al nl cl) (lackL (nds Y) L k)) := Lib.hid (HL3.out.1.alloc _)
            go_wp2_with (at_builtin; go_must (with_reducible refine app_str (o := ⟨some 65, _, _, _, _, _⟩) rfl _ _ rfl w2.heap.size _ (.slice al nl cl) (.slice (some ⟨w3.heap.size, 0, none⟩) 1 1) (lackL (nds Y) L k) [p] ?_ HOA.out ?_ (part_str w3 p _) HB.out.2 HB.out.1 ?_); go_must (exact rfl); go_must (exact rfl); (intro v5 w5 ho5 hg5; have HO5 := Lib.hid ho5; have HG5 := Lib.hid (OwnsS.grown (w := w2) HOA.out (World.grownBy.trans HG23.out (World.grownBy_alloc _ _ _)) hg5); obtain ⟨a5, c5, e5, hl5, hc5⟩ := ho5.form; rw [show (lackL (nds Y) L k ++ [p]).length = nl + 1 by rw [List.length_append, HL3.out.2.1]; rfl] at e5 hl5; subst e5; clear ho5 hg5))
            rw [← HLK1.out] at HO5
            have HG5w := Lib.hid (World.grownBy.trans HG2.out HG5.out)
            have HX5 : Hid (RefX w5 rb Y R) := Lib.hid ⟨_, c, HR.out.stays HG5w.out, HO.out.1⟩
            have HLN : Hid ((lackL (nds Y) L (k + 1)).length = nl + 1) := Lib.hid (by rw [HLK1.out, List.length_append, HL3.out.2.1]; rfl)
            (with_reducible refine (refMake_any rb Y R (lackL (nds Y) L (k + 1)) a5 (nl + 1) c5 _ w5 HX5.out HR.out.asc (by rw [HN.out]; omega) HO5.out HLN.out (by omega)).mono ?_)
            rintro e w6 ⟨rfl, hx6, hk6⟩
            have hfin : RefRet rb (0, mkN (nds Y) L (k + 1)) w R (.returned (.int .i64 0)) w6 := by
              obtain ⟨a7, c7, hr7, ho7⟩ := hx6
              refine ⟨rfl, ⟨⟨a7, c7, _, hr7, by rw [nds_putAll]; exact make_same HI.out HL.out (k + 1) (by rw [HK.out.1]; exact Nat.le_refl _), fun i hi => ⟨?_, hr7.own_lt hi⟩⟩, fun i hi => hi.2⟩, (Kept.ofNone HG5w.out _).trans hk6 fun i e => .inl e⟩
              rcases ho7 i hi with h | h
              · exact .inl h
              · exact .inr (Nat.le_trans HG5w.out.size h)
            have HFIN := Lib.hid hfin
            clear hx6 hk6 hfin
            dsimp only
            go_wp2
            go_ret
            rw [HPU.out]
            exact HFIN.out
      · have hk0 : k0 < n := by have := (List.getElem?_eq_some_iff.1 hz1).1; rw [HN.out] at this; exact this
        obtain ⟨b4, x4, y4, rfl, _, _, q2, q3⟩ := (HR.out.stays HG3.out).at k0 p g0 hz1
        have hdir : dirT (nds Y) p = g0.nd.dir := by unfold dirT; rw [nds_get, hz2, decide_eq_false e1]; rfl
        have hfile : fileT (nds Y) p = !g0.nd.dir := by unfold fileT hasT; rw [hdir, nds_get, hz2]; rfl
        rw [hdir, hfile] at HPU
        cases hd0 : g0.nd.dir with
        | true =>
          rw [hd0] at q2 HPU
          rw [if_pos rfl] at HPU
          clear hz1 hz2 hdir hfile hd0
          go_wp2
          go_ret
          rw [HPU.out]
          exact HRET.out _ _ HG3.out
        | false =>
          rw [hd0] at q2 HPU
          rw [if_neg (by simp), if_pos (by simp)] at HPU
          clear hz1 hz2 hdir hfile hd0
          go_wp2
          go_ret
          rw [HPU.out]
          exact HRET.out _ _ HG3.out
  · have HE : Hid (mkdirS (nds Y) s = (q, nds Y)) := Lib.hid (mkdirS_bad hc hq)
    have HCL : Hid (∀ V : World, 0 < V.heap.size → Calls Tryz.prog 38 #[.string s] V fun e w' => e = .returned (.tuple #[.string E0, .int .i64 q]) ∧ V.grownBy w' none) := Lib.hid fun V hV => refClean_at s _ q hc V hV
    have q4 : (q != 0) = true := by simp [hq]
    have q5 : (q == 0) = false := by simp [hq]
    clear hr ho hlt hI hc hn
    go_enter Tryz.func19, Tryz.ntmps19
    go_wp2_with fail
    (with_reducible refine (HCL.out _ hpos).mono ?_)
    rintro e w1 ⟨rfl, hg⟩
    have HG1 := Lib.hid hg
    clear hg
    dsimp only
    go_wp2
    go_ret
    rw [HE.out]
    exact HRET.out _ _ HG1.out
end Go.Proofs.YtichejodbohldaaGreatDoor
