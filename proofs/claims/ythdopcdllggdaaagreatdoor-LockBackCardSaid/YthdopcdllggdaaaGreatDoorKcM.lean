/- The reference's LockOf: a text that opens and ends as a lockfile. -/
import Derived.Test.YthdopcdllggdaaaGreatDoorP9
namespace Go.Proofs.YthdopcdllggdaaaGreatDoor
open Go.RowKit
attribute [local irreducible] wpQuiet

set_option maxRecDepth 1000000
theorem less_empty (y : ByteArray) (h : ¬ y = ⟨#[]⟩) : lessB ⟨#[]⟩ y = true := by
  unfold lessB
  have h1 : (⟨#[]⟩ : ByteArray).toList = [] := eq_list _ [] rfl
  rw [h1]
  cases h2 : y.toList with
  | nil => exact absurd h2 (ne_list y [] h)
  | cons a l => rfl
/-- Where the last pin's name lies. -/
def AtLast (m : Nat) (ah : ByteArray) (L : List Pc) : Prop := (m = 0 ∧ ah = ⟨#[]⟩) ∨ ∃ p, 0 < m ∧ L[m - 1]? = some p ∧ p.name = ah
set_option maxHeartbeats 8000000 in
theorem lockOf_yes (m : Int) (s : ByteArray) (w : World) (hs : s.size ≤ 9223372036854775807) (ho : openB s = true) (hm : MaxAt m w) : Calls Tryz.prog 13 #[.string s] w (PkRet (lockS s) w) := by
  have hbg := begins_any s ⟨#[108, 111, 99, 107, 32, 49, 10]⟩
  rcases open_ways s with ⟨_, h5⟩ | ⟨_, _, h5⟩ | ⟨_, _, _, _, h5⟩ | ⟨h1, h2, h3, h4, _⟩
  · rw [ho] at h5; cases h5
  · rw [ho] at h5; cases h5
  · rw [ho] at h5; cases h5
  have h1i : ¬ (65536 : Int) < (s.size : Int) := by omega
  have hlt : s.size - 1 < s.size := by omega
  have hc2 : s[s.size - 1]'hlt = 10 := by rw [← byteAt_eq]; exact h4
  obtain ⟨t, ht⟩ : ∃ t, s.extract 7 s.size = t := ⟨_, rfl⟩
  have hts : t.size ≤ 65536 := by rw [← ht, ByteArray.size_extract]; omega
  have HL : Hid (lockS s = readS (linesS t) 0 ⟨#[]⟩ []) := Lib.hid (by unfold lockS; rw [ho, ht]; rfl)
  have hls := open_lines s ho
  rw [ht] at hls
  have HM := Lib.hid hm
  have HP0 := Lib.hid hm.pos
  rw [h2] at hbg
  clear h2 h4 ho hm ht
  have h65 : s.size ≤ 2000000 := by omega
  clear h3
  go_enter Tryz.func13, Tryz.ntmps13
  go_wp2_with fail
  (with_reducible refine (hbg _).mono ?_)
  rintro ee wx ⟨rfl, hwx⟩
  obtain rfl := hwx.symm
  clear hwx
  dsimp only
  go_wp2_with fail
  (with_reducible refine (refLines_any m s h65 _ HM.out).mono ?_)
  rintro ee w1 ⟨ad, n1, cp, rfl, hn, hP, hg⟩
  rw [hls] at hn hP
  obtain ⟨P, hPP⟩ : ∃ P, linesS t = P := ⟨_, rfl⟩
  have HSZ : Hid (∀ x ∈ P, x.size ≤ 1000000) := Lib.hid (fun x hx => by have := linesS_mem t x (by rw [hPP]; exact hx); omega)
  have hn1 : P.length ≤ 65537 := by rw [← hPP]; have := linesS_len t; omega
  rw [hPP] at HL hn hP
  obtain ⟨n, rfl⟩ : ∃ n, n1 = n + 1 := ⟨P.length, by rw [← hn]; rfl⟩
  have HN : Hid (P.length = n) := Lib.hid (by simpa using hn)
  have hn2 : n ≤ 65537 := by rw [← HN.out]; exact hn1
  have HPA := Lib.hid hP
  have HG1 := Lib.hid hg
  clear hPP hn hP hg hts h1i hls hn1 hbg hlt hc2 h65
  dsimp only
  go_wp2
  go_loopw [6, 7] (fun v i wr => ∃ (k m2 cp2 : Nat) (ad2 : Option Addr) (ah : ByteArray) (L : List Pc), k ≤ n ∧ i = .int .i64 ((k : Int) + 1) ∧ v = .slice ad2 m2 cp2 ∧ m2 ≤ 200 ∧ m2 ≤ cp2 ∧ cp2 ≤ 9223372036854775807 ∧ Hid (AtLast m2 ah L) ∧ Hid (RSt P w w1 wr k (.slice ad2 m2 cp2) m2 ah L (lockS s))) (fun _ i _ => n + 1 - (intOf i).toNat)
  case atStart => exact ⟨0, 0, 0, none, ⟨#[]⟩, [], Nat.zero_le _, rfl, rfl, by omega, Nat.le_refl _, by omega, Lib.hid (.inl ⟨rfl, rfl⟩), RSt.start HL.out HG1.out⟩
  case round =>
    obtain ⟨k, m2, cp2, ad2, ah, L, hk, rfl, rfl, hm2, hmc, hcm, HAL, HR⟩ := hrel
    by_cases hlt : k < n
    · obtain ⟨x, hx⟩ : ∃ x, P[k]? = some x := ⟨_, List.getElem?_eq_getElem (by rw [HN.out]; exact hlt)⟩
      obtain ⟨b, o, e, _, r1⟩ := (HPA.out.stays HR.out.g1).at (k + 1) x (by simpa using hx)
      subst e
      have HX := Lib.hid hx
      have hxs := HSZ.out x (List.mem_of_getElem? hx)
      have HM2 := Lib.hid (HM.out.stays HR.out.gw)
      have HST : Hid (lockS s = readS (x :: P.drop (k + 1)) k ah (L.map mp)) := Lib.hid (by rw [HR.out.eq, List.drop_eq_getElem_cons (by rw [HN.out]; exact hlt)]; rw [show P[k]'(by rw [HN.out]; exact hlt) = x from (List.getElem?_eq_some_iff.1 hx).2])
      have HF : Hid (¬ (lineB x = true ∧ lessB ah (lineN x) = true ∧ ¬ (L.map mp).length = 200) → ∀ W, wr.grownBy W none → PkRet (lockS s) w (.returned (.tuple #[.slice none 0 0, .int .i64 ((k : Int) + 1 + 1), .int .i64 63])) W) := Lib.hid (fun hno W hW => ⟨World.grownBy.trans HR.out.gw hW, .inl ⟨k + 2, by rw [HST.out, readS_step, if_neg hno], by rw [show ((k + 2 : Nat) : Int) = (k : Int) + 1 + 1 by omega]⟩⟩)
      clear hx
      have hp0 := HM2.out.pos
      go_wp2_with fail
      (with_reducible refine (refSplit_sp x (by omega) wr hp0).mono ?_)
      rintro ee w2 ⟨ad3, N, cp3, rfl, hN, hQ, hg2, hnw2⟩
      have HNW2 := Lib.hid hnw2
      clear hnw2
      clear hp0
      have HG2 := Lib.hid hg2
      have hN1 : N ≤ 1000001 := by have := pieces_le 32 x; omega
      dsimp only
      by_cases h3 : N = 3
      · subst h3
        obtain ⟨b3, o3, e, _, q0⟩ := hQ.at 0 _ (strAt_eq _ 0 (by omega))
        obtain ⟨_, _, e2, _, q1⟩ := hQ.at 1 _ (strAt_eq _ 1 (by omega))
        obtain ⟨rfl, rfl⟩ : _ ∧ _ := by rw [e] at e2; injection (Option.some.inj e2) with h1 h2 h3; exact ⟨h1, h2⟩
        obtain ⟨_, _, e2, _, q2⟩ := hQ.at 2 _ (strAt_eq _ 2 (by omega))
        obtain ⟨rfl, rfl⟩ : _ ∧ _ := by rw [e] at e2; injection (Option.some.inj e2) with h1 h2 h3; exact ⟨h1, h2⟩
        have hc3 := hQ.form
        obtain ⟨_, _, e4, hc3, _⟩ := hc3
        have hc3 : 3 ≤ cp3 := by rw [hN] at hc3; rw [(Value.slice.inj e4).2.2]; exact hc3
        subst e
        clear e2 e4
        obtain ⟨nm, hnm⟩ : ∃ nm, strAt (pieces 32 x) 0 = nm := ⟨_, rfl⟩
        obtain ⟨vt, hvt⟩ : ∃ vt, strAt (pieces 32 x) 1 = vt := ⟨_, rfl⟩
        obtain ⟨kt, hkt⟩ : ∃ kt, strAt (pieces 32 x) 2 = kt := ⟨_, rfl⟩
        rw [hnm] at q0
        rw [hvt] at q1
        rw [hkt] at q2
        rw [Nat.add_zero] at q0
        have hps := pieces_size 32 x
        have hn9 : nm.size ≤ 9223372036854775807 := by have := hps _ (List.mem_of_getElem? (strAt_eq (pieces 32 x) 0 (by omega))); rw [hnm] at this; omega
        have HVS : Hid (vt.size ≤ 2000000) := Lib.hid (by have := hps _ (List.mem_of_getElem? (strAt_eq (pieces 32 x) 1 (by omega))); rw [hvt] at this; omega)
        have HNS : Hid (nm.size ≤ 1000000) := Lib.hid (by have := hps _ (List.mem_of_getElem? (strAt_eq (pieces 32 x) 0 (by omega))); rw [hnm] at this; omega)
        have HLB : Hid (lineB x = (okName nm && decide ((parseS vt).2 = 0) && Sha.pb kt)) := Lib.hid (by unfold lineB lineN lineV lineK; rw [hnm, hvt, hkt, hN, decide_eq_true rfl, Bool.true_and])
        have HLN : Hid (lineN x = nm) := Lib.hid hnm
        have HMP : Hid (mpOf x = (nm, (parseS vt).1, Sha.pk kt)) := Lib.hid (by unfold mpOf lineN lineV lineK; rw [hnm, hvt, hkt])
        clear hQ hN hg2 hps hnm hvt hkt hN1
        cases hok : okName nm with
        | false =>
          have HNM : Hid (Calls Tryz.prog 31 #[.string nm] w2.drew fun e w' => e = .returned (.bool false) ∧ w' = w2.drew) := Lib.hid (by rw [← hok]; exact refName_any nm hn9 w2.drew)
          have hno : ¬ (lineB x = true ∧ lessB ah (lineN x) = true ∧ ¬ (L.map mp).length = 200) := fun h => by
            have h := h.1
            rw [HLB.out, hok] at h
            cases h
          have q0d : w2.drew.cell? ⟨b3, o3, none⟩ = some (.string nm) := q0
          clear q1 q2 HAL hok
          go_wp2
          refine wp_region_quiet (C := fun w' => w' = w2.drew) (by kernel_rfl) (by kernel_rfl) rfl ?_
          refine @wpQuiet_step _ _ _ _ _ _ _ (fun K hK => ?_)
          go_simp
          first | refine hK _ ?_ | refine ⟨_, HNM.out, hK _ ?_⟩
          clear hK K
          refine @wpQuiet_step _ _ _ _ _ _ _ (fun K hK => ?_)
          go_simp
          first | refine hK _ ?_ | refine ⟨_, HNM.out, hK _ ?_⟩
          clear hK K
          refine @wpQuiet_step _ _ _ _ _ _ _ (fun K hK => ?_)
          go_simp
          first | refine hK _ ?_ | refine ⟨_, HNM.out, hK _ ?_⟩
          clear hK K
          refine @wpQuiet_step _ _ _ _ _ _ _ (fun K hK => ?_)
          go_simp
          first | refine hK _ ?_ | refine ⟨_, HNM.out, hK _ ?_⟩
          clear hK K
          refine @wpQuiet_step _ _ _ _ _ _ _ (fun K hK => ?_)
          go_simp
          first | refine hK _ ?_ | refine ⟨_, HNM.out, hK _ ?_⟩
          clear hK K
          refine @wpQuiet_step _ _ _ _ _ _ _ (fun K hK => ?_)
          go_simp
          first | refine hK _ ?_ | refine ⟨_, HNM.out, hK _ ?_⟩
          clear hK K
          refine @wpQuiet_step _ _ _ _ _ _ _ (fun K hK => ?_)
          go_simp
          first | refine hK _ ?_ | refine ⟨_, HNM.out, hK _ ?_⟩
          clear hK K
          refine @wpQuiet_step _ _ _ _ _ _ _ (fun K hK => ?_)
          go_simp
          first | refine hK _ ?_ | refine ⟨_, HNM.out, hK _ ?_⟩
          clear hK K
          refine @wpQuiet_step _ _ _ _ _ _ _ (fun K hK => ?_)
          go_simp
          first | refine hK _ ?_ | refine ⟨_, HNM.out, hK _ ?_⟩
          clear hK K
          refine @wpQuiet_step _ _ _ _ _ _ _ (fun K hK => ?_)
          go_simp
          first | refine hK _ ?_ | refine ⟨_, HNM.out, hK _ ?_⟩
          clear hK K
          refine @wpQuiet_step _ _ _ _ _ _ _ (fun K hK => ?_)
          go_simp
          first | refine hK _ ?_ | refine ⟨_, HNM.out, hK _ ?_⟩
          clear hK K
          refine @wpQuiet_step _ _ _ _ _ _ _ (fun K hK => ?_)
          go_simp
          first | refine hK _ ?_ | refine ⟨_, HNM.out, hK _ ?_⟩
          clear hK K
          refine @wpQuiet_step _ _ _ _ _ _ _ (fun K hK => ?_)
          go_simp
          first | refine hK _ ?_ | refine ⟨_, HNM.out, hK _ ?_⟩
          clear hK K
          refine @wpQuiet_step _ _ _ _ _ _ _ (fun K hK => ?_)
          go_simp
          first | refine hK _ ?_ | refine ⟨_, HNM.out, hK _ ?_⟩
          clear hK K
          refine @wpQuiet_step _ _ _ _ _ _ _ (fun K hK => ?_)
          go_simp
          first | refine hK _ ?_ | refine ⟨_, HNM.out, hK _ ?_⟩
          clear hK K
          refine @wpQuiet_step _ _ _ _ _ _ _ (fun K hK => ?_)
          go_simp
          first | refine hK _ ?_ | refine ⟨_, HNM.out, hK _ ?_⟩
          clear hK K
          refine @wpQuiet_step _ _ _ _ _ _ _ (fun K hK => ?_)
          go_simp
          first | refine hK _ ?_ | refine ⟨_, HNM.out, hK _ ?_⟩
          clear hK K
          refine @wpQuiet_step _ _ _ _ _ _ _ (fun K hK => ?_)
          go_simp
          first | refine hK _ ?_ | refine ⟨_, HNM.out, hK _ ?_⟩
          clear hK K
          refine @wpQuiet_step _ _ _ _ _ _ _ (fun K hK => ?_)
          go_simp
          first | refine hK _ ?_ | refine ⟨_, HNM.out, hK _ ?_⟩
          clear hK K
          refine @wpQuiet_step _ _ _ _ _ _ _ (fun K hK => ?_)
          go_simp
          first | refine hK _ ?_ | refine ⟨_, HNM.out, hK _ ?_⟩
          clear hK K
          refine @wpQuiet_step _ _ _ _ _ _ _ (fun K hK => ?_)
          go_simp
          first | refine hK _ ?_ | refine ⟨_, HNM.out, hK _ ?_⟩
          clear hK K
          refine @wpQuiet_step _ _ _ _ _ _ _ (fun K hK => ?_)
          go_simp
          first | refine hK _ ?_ | refine ⟨_, HNM.out, hK _ ?_⟩
          clear hK K
          refine @wpQuiet_step _ _ _ _ _ _ _ (fun K hK => ?_)
          go_simp
          first | refine hK _ ?_ | refine ⟨_, HNM.out, hK _ ?_⟩
          clear hK K
          refine @wpQuiet_step _ _ _ _ _ _ _ (fun K hK => ?_)
          go_simp
          first | refine hK _ ?_ | refine ⟨_, HNM.out, hK _ ?_⟩
          clear hK K
          refine @wpQuiet_step _ _ _ _ _ _ _ (fun K hK => ?_)
          go_simp
          first | refine hK _ ?_ | refine ⟨_, HNM.out, hK _ ?_⟩
          clear hK K
          refine @wpQuiet_step _ _ _ _ _ _ _ (fun K hK => ?_)
          go_simp
          first | refine hK _ ?_ | refine ⟨_, HNM.out, hK _ ?_⟩
          clear hK K
          refine @wpQuiet_step _ _ _ _ _ _ _ (fun K hK => ?_)
          go_simp
          first | refine hK _ ?_ | refine ⟨_, HNM.out, hK _ ?_⟩
          clear hK K
          refine @wpQuiet_step _ _ _ _ _ _ _ (fun K hK => ?_)
          go_simp
          first | refine hK _ ?_ | refine ⟨_, HNM.out, hK _ ?_⟩
          clear hK K
          refine @wpQuiet_step _ _ _ _ _ _ _ (fun K hK => ?_)
          go_simp
          first | refine hK _ ?_ | refine ⟨_, HNM.out, hK _ ?_⟩
          clear hK K
          refine @wpQuiet_step _ _ _ _ _ _ _ (fun K hK => ?_)
          go_simp
          first | refine hK _ ?_ | refine ⟨_, HNM.out, hK _ ?_⟩
          clear hK K
          refine @wpQuiet_step _ _ _ _ _ _ _ (fun K hK => ?_)
          go_simp
          first | refine hK _ ?_ | refine ⟨_, HNM.out, hK _ ?_⟩
          clear hK K
          refine @wpQuiet_step _ _ _ _ _ _ _ (fun K hK => ?_)
          go_simp
          first | refine hK _ ?_ | refine ⟨_, HNM.out, hK _ ?_⟩
          clear hK K
          refine @wpQuiet_step _ _ _ _ _ _ _ (fun K hK => ?_)
          go_simp
          first | refine hK _ ?_ | refine ⟨_, HNM.out, hK _ ?_⟩
          clear hK K
          refine wpQuiet_nil ?_
          rintro w3 rfl
          go_wp2
          exact bodyPost_ret (by simp [results, Tryz.results13, go_sem]) rfl (HF.out hno _ (grown_drew 1 HG2.out))
        | true =>
          have HNM : Hid (Calls Tryz.prog 31 #[.string nm] w2.drew fun e w' => e = .returned (.bool true) ∧ w' = w2.drew) := Lib.hid (by rw [← hok]; exact refName_any nm hn9 w2.drew)
          have q0d : w2.drew.cell? ⟨b3, o3, none⟩ = some (.string nm) := q0
          have HOK := Lib.hid hok
          clear hok
          rcases HAL.out with ⟨h0, h1⟩ | ⟨p, h0, h1, h2⟩
          · have HLE : Hid (lessB ah nm = true) := Lib.hid (by rw [h1]; exact less_empty nm (okName_ne nm HOK.out))
            have HM200 : Hid (¬ m2 = 200) := Lib.hid (by omega)
            have m0 : ¬ 0 < (m2 : Int) := by omega
            have m0d : decide (0 < (m2 : Int)) = false := decide_eq_false m0
            have m1d : decide (200 ≤ (m2 : Int)) = false := decide_eq_false (by omega)
            have m2d : ¬ 0 < m2 := by omega
            have m3d : decide (0 < m2) = false := decide_eq_false m2d
            have m4d : decide (200 ≤ m2) = false := decide_eq_false (by omega)
            clear HAL h1 h0
            go_wp2
            refine wp_region_quiet (C := fun w' => w' = w2.drew) (by kernel_rfl) (by kernel_rfl) rfl ?_
            refine @wpQuiet_step _ _ _ _ _ _ _ (fun K hK => ?_)
            go_simp
            first | refine hK _ ?_ | refine ⟨_, HNM.out, hK _ ?_⟩
            clear hK K
            refine @wpQuiet_step _ _ _ _ _ _ _ (fun K hK => ?_)
            go_simp
            first | refine hK _ ?_ | refine ⟨_, HNM.out, hK _ ?_⟩
            clear hK K
            refine @wpQuiet_step _ _ _ _ _ _ _ (fun K hK => ?_)
            go_simp
            first | refine hK _ ?_ | refine ⟨_, HNM.out, hK _ ?_⟩
            clear hK K
            refine @wpQuiet_step _ _ _ _ _ _ _ (fun K hK => ?_)
            go_simp
            first | refine hK _ ?_ | refine ⟨_, HNM.out, hK _ ?_⟩
            clear hK K
            refine @wpQuiet_step _ _ _ _ _ _ _ (fun K hK => ?_)
            go_simp
            first | refine hK _ ?_ | refine ⟨_, HNM.out, hK _ ?_⟩
            clear hK K
            refine @wpQuiet_step _ _ _ _ _ _ _ (fun K hK => ?_)
            go_simp
            first | refine hK _ ?_ | refine ⟨_, HNM.out, hK _ ?_⟩
            clear hK K
            refine @wpQuiet_step _ _ _ _ _ _ _ (fun K hK => ?_)
            go_simp
            first | refine hK _ ?_ | refine ⟨_, HNM.out, hK _ ?_⟩
            clear hK K
            refine @wpQuiet_step _ _ _ _ _ _ _ (fun K hK => ?_)
            go_simp
            first | refine hK _ ?_ | refine ⟨_, HNM.out, hK _ ?_⟩
            clear hK K
            refine @wpQuiet_step _ _ _ _ _ _ _ (fun K hK => ?_)
            go_simp
            first | refine hK _ ?_ | refine ⟨_, HNM.out, hK _ ?_⟩
            clear hK K
            refine @wpQuiet_step _ _ _ _ _ _ _ (fun K hK => ?_)
            go_simp
            first | refine hK _ ?_ | refine ⟨_, HNM.out, hK _ ?_⟩
            clear hK K
            refine @wpQuiet_step _ _ _ _ _ _ _ (fun K hK => ?_)
            go_simp
            first | refine hK _ ?_ | refine ⟨_, HNM.out, hK _ ?_⟩
            clear hK K
            refine @wpQuiet_step _ _ _ _ _ _ _ (fun K hK => ?_)
            go_simp
            first | refine hK _ ?_ | refine ⟨_, HNM.out, hK _ ?_⟩
            clear hK K
            refine @wpQuiet_step _ _ _ _ _ _ _ (fun K hK => ?_)
            go_simp
            first | refine hK _ ?_ | refine ⟨_, HNM.out, hK _ ?_⟩
            clear hK K
            refine @wpQuiet_step _ _ _ _ _ _ _ (fun K hK => ?_)
            go_simp
            first | refine hK _ ?_ | refine ⟨_, HNM.out, hK _ ?_⟩
            clear hK K
            refine @wpQuiet_step _ _ _ _ _ _ _ (fun K hK => ?_)
            go_simp
            first | refine hK _ ?_ | refine ⟨_, HNM.out, hK _ ?_⟩
            clear hK K
            refine @wpQuiet_step _ _ _ _ _ _ _ (fun K hK => ?_)
            go_simp
            first | refine hK _ ?_ | refine ⟨_, HNM.out, hK _ ?_⟩
            clear hK K
            refine @wpQuiet_step _ _ _ _ _ _ _ (fun K hK => ?_)
            go_simp
            first | refine hK _ ?_ | refine ⟨_, HNM.out, hK _ ?_⟩
            clear hK K
            refine @wpQuiet_step _ _ _ _ _ _ _ (fun K hK => ?_)
            go_simp
            first | refine hK _ ?_ | refine ⟨_, HNM.out, hK _ ?_⟩
            clear hK K
            refine @wpQuiet_step _ _ _ _ _ _ _ (fun K hK => ?_)
            go_simp
            first | refine hK _ ?_ | refine ⟨_, HNM.out, hK _ ?_⟩
            clear hK K
            refine @wpQuiet_step _ _ _ _ _ _ _ (fun K hK => ?_)
            go_simp
            first | refine hK _ ?_ | refine ⟨_, HNM.out, hK _ ?_⟩
            clear hK K
            refine @wpQuiet_step _ _ _ _ _ _ _ (fun K hK => ?_)
            go_simp
            first | refine hK _ ?_ | refine ⟨_, HNM.out, hK _ ?_⟩
            clear hK K
            refine @wpQuiet_step _ _ _ _ _ _ _ (fun K hK => ?_)
            go_simp
            first | refine hK _ ?_ | refine ⟨_, HNM.out, hK _ ?_⟩
            clear hK K
            refine @wpQuiet_step _ _ _ _ _ _ _ (fun K hK => ?_)
            go_simp
            first | refine hK _ ?_ | refine ⟨_, HNM.out, hK _ ?_⟩
            clear hK K
            refine @wpQuiet_step _ _ _ _ _ _ _ (fun K hK => ?_)
            go_simp
            first | refine hK _ ?_ | refine ⟨_, HNM.out, hK _ ?_⟩
            clear hK K
            refine @wpQuiet_step _ _ _ _ _ _ _ (fun K hK => ?_)
            go_simp
            first | refine hK _ ?_ | refine ⟨_, HNM.out, hK _ ?_⟩
            clear hK K
            refine @wpQuiet_step _ _ _ _ _ _ _ (fun K hK => ?_)
            go_simp
            first | refine hK _ ?_ | refine ⟨_, HNM.out, hK _ ?_⟩
            clear hK K
            refine @wpQuiet_step _ _ _ _ _ _ _ (fun K hK => ?_)
            go_simp
            first | refine hK _ ?_ | refine ⟨_, HNM.out, hK _ ?_⟩
            clear hK K
            refine @wpQuiet_step _ _ _ _ _ _ _ (fun K hK => ?_)
            go_simp
            first | refine hK _ ?_ | refine ⟨_, HNM.out, hK _ ?_⟩
            clear hK K
            refine @wpQuiet_step _ _ _ _ _ _ _ (fun K hK => ?_)
            go_simp
            first | refine hK _ ?_ | refine ⟨_, HNM.out, hK _ ?_⟩
            clear hK K
            refine @wpQuiet_step _ _ _ _ _ _ _ (fun K hK => ?_)
            go_simp
            first | refine hK _ ?_ | refine ⟨_, HNM.out, hK _ ?_⟩
            clear hK K
            refine @wpQuiet_step _ _ _ _ _ _ _ (fun K hK => ?_)
            go_simp
            first | refine hK _ ?_ | refine ⟨_, HNM.out, hK _ ?_⟩
            clear hK K
            refine @wpQuiet_step _ _ _ _ _ _ _ (fun K hK => ?_)
            go_simp
            first | refine hK _ ?_ | refine ⟨_, HNM.out, hK _ ?_⟩
            clear hK K
            refine @wpQuiet_step _ _ _ _ _ _ _ (fun K hK => ?_)
            go_simp
            first | refine hK _ ?_ | refine ⟨_, HNM.out, hK _ ?_⟩
            clear hK K
            refine wpQuiet_nil ?_
            rintro w3 rfl
            have q1d : w2.drew.cell? ⟨b3, o3 + 1, none⟩ = some (.string vt) := q1
            go_wp2_with fail
            (with_reducible refine (refParse_new m vt w2.drew HVS.out).mono ?_)
            rintro ee w3 ⟨sl, rfl, hP3, hg3, hnw3⟩
            have HG3 := Lib.hid (World.grownBy.trans (grown_drew 1 HG2.out) hg3)
            have q2d : w3.cell? ⟨b3, o3 + 2, none⟩ = some (.string kt) := hg3.cell (show w2.drew.cell? ⟨b3, o3 + 2, none⟩ = some (.string kt) from q2) (by simp)
            have q0c : w3.cell? ⟨b3, o3, none⟩ = some (.string nm) := hg3.cell q0d (by simp)
            have HW3 := Lib.hid hnw3
            clear hg3 hnw3 q0 q1 q2 q0d q1d
            obtain ⟨v, ve, hv⟩ : ∃ v ve, parseS vt = (v, ve) := ⟨_, _, rfl⟩
            have HV := Lib.hid hv
            rw [hv] at hP3 ⊢
            have HP3 := Lib.hid hP3
            obtain ⟨sa, sc, hsl, _, _⟩ := hP3.form
            obtain ⟨sn, hsn⟩ : ∃ sn, v.pre.length = sn := ⟨_, rfl⟩
            rw [hsn] at hsl
            have HSN := Lib.hid hsn
            subst hsl
            clear hv hP3 hsn
            simp only [verV]
            obtain ⟨VA, hVA⟩ : ∃ VA : Array Value, #[.int .i64 v.maj, .int .i64 v.min, .int .i64 v.pat, .slice sa sn sc] = VA := ⟨_, rfl⟩
            have hvs : VA.size = 4 := by rw [← hVA]; rfl
            have hv1 : VA.all (·.oneCell') = true := by rw [← hVA]; simp [Value.oneCell']
            have HVA := Lib.hid hVA
            rw [hVA]
            obtain ⟨gv, hgv⟩ : ∃ gv, w3.heap.size = gv := ⟨_, rfl⟩
            have hk3 : (w3.alloc (.cells #[.int .i64 0, .int .i64 0, .int .i64 0, .slice none 0 0] 28)).heap[gv]? = some (.cells #[.int .i64 0, .int .i64 0, .int .i64 0, .slice none 0 0] 28 (0, 0)) := by rw [← hgv, heap_alloc_new]
            have hst := Sha.storeCells_row (w3.alloc (.cells #[.int .i64 0, .int .i64 0, .int .i64 0, .slice none 0 0] 28)) gv 28 28 #[.int .i64 0, .int .i64 0, .int .i64 0, .slice none 0 0] VA hk3 (by rw [hvs]; kernel_rfl) (by rw [hvs]; rfl) hv1
            have hg4 : w3.grownBy ((w3.alloc (.cells #[.int .i64 0, .int .i64 0, .int .i64 0, .slice none 0 0] 28)).setRow gv VA) none := Sha.grown_setRow (World.grownBy_alloc _ _ _) (Nat.le_of_eq hgv) _
            have hk4 := setRow_heap _ gv _ VA 28 _ hk3
            obtain ⟨w4, hw4⟩ : ∃ w4, (w3.alloc (.cells #[.int .i64 0, .int .i64 0, .int .i64 0, .slice none 0 0] 28)).setRow gv VA = w4 := ⟨_, rfl⟩
            rw [hw4] at hg4 hk4
            have HG4 := Lib.hid (World.grownBy.trans HG3.out hg4)
            have HK4 := Lib.hid hk4
            have HGV := Lib.hid hgv
            have q2e : w4.cell? ⟨b3, o3 + 2, none⟩ = some (.string kt) := hg4.cell q2d (by simp)
            have q0e : w4.cell? ⟨b3, o3, none⟩ = some (.string nm) := hg4.cell q0c (by simp)
            have HG34 := Lib.hid hg4
            clear q2d q0c hk3 hg4 hk4 hVA hv1
            try dsimp only
            go_wp2_with fail
            clear hst hw4 hgv hvs
            (with_reducible refine (Sha.refparse_any kt w4).mono ?_)
            rintro ee w5 ⟨rfl, hg5⟩
            try dsimp only
            obtain ⟨KA, hKA⟩ : ∃ KA, (Sha.pk kt).map Sha.encB = KA := ⟨_, rfl⟩
            have hks : KA.size = 32 := by rw [← hKA, Array.size_map, pk_size]
            have hk1 : KA.all (·.oneCell') = true := by rw [← hKA]; exact (by
              rw [Array.all_eq_true_iff_forall_mem]
              intro u hu
              obtain ⟨y, _, rfl⟩ := Array.mem_map.1 hu
              rfl)
            have HKA := Lib.hid hKA
            have HKS := Lib.hid hks
            rw [hKA]
            have HSZ5 := Lib.hid (show w4.heap.size ≤ w5.heap.size from hg5.size)
            obtain ⟨gk, hgk⟩ : ∃ gk, w5.heap.size = gk := ⟨_, rfl⟩
            have hk3 : (w5.alloc (.cells Sha.zero32A 33)).heap[gk]? = some (.cells Sha.zero32A 33 (0, 0)) := by rw [← hgk, heap_alloc_new]
            have hst := Sha.storeCells_row (w5.alloc (.cells Sha.zero32A 33)) gk 33 33 Sha.zero32A KA hk3 (by rw [hks]; kernel_rfl) (by rw [Sha.zero32A_size, hks]) hk1
            have hg6 : w5.grownBy ((w5.alloc (.cells Sha.zero32A 33)).setRow gk KA) none := Sha.grown_setRow (World.grownBy_alloc _ _ _) (Nat.le_of_eq hgk) _
            have hk6 := setRow_heap _ gk _ KA 33 _ hk3
            obtain ⟨w6, hw6⟩ : ∃ w6, (w5.alloc (.cells Sha.zero32A 33)).setRow gk KA = w6 := ⟨_, rfl⟩
            rw [hw6] at hg6 hk6
            have HG6 := Lib.hid (World.grownBy.trans (World.grownBy.trans HG4.out hg5) hg6)
            have HG46 := Lib.hid (World.grownBy.trans hg5 hg6)
            have HK6 := Lib.hid hk6
            have HV6 := Lib.hid (block_kept HK4.out HG46.out)
            have HGK := Lib.hid hgk
            have q0f : w6.cell? ⟨b3, o3, none⟩ = some (.string nm) := HG46.out.cell q0e (by simp)
            clear q0e q2e hk3 hk6 hKA hk1 hg5 hg6
            have hzk : ∀ W : World, (zeroValue 33).run Tryz.prog W = .ok (.agg Sha.zero32A) W := by intro W; kernel_rfl
            by_cases hve : ve = 0
            · subst hve
              cases hpb : Sha.pb kt with
              | false =>
                have hno : ¬ (lineB x = true ∧ lessB ah (lineN x) = true ∧ ¬ (L.map mp).length = 200) := fun h => by
                  have h := h.1
                  rw [HLB.out, HV.out, hpb, Bool.and_false] at h
                  cases h
                clear hpb
                go_wp2
                exact bodyPost_ret (by simp [results, Tryz.results13, go_sem]) rfl (HF.out hno _ HG6.out)
              | true =>
                have HPB := Lib.hid hpb
                clear hpb
                have HRead : Hid (Read vt v) := Lib.hid (parse_read _ _ HV.out)
                clear hks
                obtain ⟨R0, hR0⟩ : ∃ R0, (Value.slice ad2 m2 cp2).ownBlock = R0 := ⟨_, rfl⟩
                have HR0 := Lib.hid hR0
                have HRB : Hid (∀ q, R0 = some q → w1.heap.size ≤ q ∧ q < wr.heap.size) := Lib.hid (fun q hq => OwnsP.block_lt HR.out.own q (by rw [hR0]; exact hq))
                clear hR0
                have HB3 : Hid (R0 ≠ some b3) := Lib.hid (fun e => by
                  have h1 := (HRB.out b3 e).2
                  have h2 := HNW2.out b3 rfl
                  omega)
                have HBV : Hid (R0 ≠ some gv) := Lib.hid (fun e => by
                  have h1 := (HRB.out gv e).2
                  have h2 := HG3.out.size
                  have h3 := HGV.out
                  omega)
                have HBK : Hid (R0 ≠ some gk) := Lib.hid (fun e => by
                  have h1 := (HRB.out gk e).2
                  have h2 := HG4.out.size
                  have h3 := HGK.out
                  have h4 := HG46.out.size
                  have h5 := HG6.out.size
                  have h6 := HK6.out
                  have h7 := HSZ5.out
                  omega)
                have Q0 := Lib.hid q0f
                have HRV : Hid (w6.rangeAt gv 0 VA.toList) := Lib.hid (fun j v hj => by rw [Nat.zero_add, cell_in HV6.out]; simpa using hj)
                have HRK : Hid (w6.rangeAt gk 0 KA.toList) := Lib.hid (fun j v hj => by rw [Nat.zero_add, cell_in HK6.out]; simpa using hj)
                obtain ⟨p, hp⟩ : ∃ p : Pc, (⟨nm, v, sa, sc, Sha.pk kt, pk_size _⟩ : Pc) = p := ⟨_, rfl⟩
                have HPN : Hid (p.name = nm) := Lib.hid (by rw [← hp])
                have HPE : Hid (pinA nm v (.slice sa sn sc) KA = p.enc.toArray) := Lib.hid (by
                  rw [← hp, ← HKA.out, pinA_cells]
                  show _ = (Pc.enc ⟨nm, v, sa, sc, Sha.pk kt, pk_size _⟩).toArray
                  unfold Pc.enc cellsC Pc.sl
                  rw [HSN.out])
                have HPM : Hid (mp p = mpOf x) := Lib.hid (by rw [HMP.out, HV.out, ← hp]; rfl)
                have HPAT : Hid (PcAt w3 w3.heap.size p) := Lib.hid (by
                  rw [← hp]
                  refine ⟨HRead.out.at ?_, ?_⟩
                  · have h := HP3.out
                    rw [← HSN.out] at h
                    exact h
                  · have h := HNS.out
                    exact h)
                have HPNW : Hid (∀ q, p.sl.ownBlock = some q → wr.heap.size ≤ q) := Lib.hid (fun q hq => by
                  rw [← hp] at hq
                  have h1 := HW3.out q (by rw [← HSN.out]; exact hq)
                  have h2 := HG2.out.size
                  exact Nat.le_trans h2 h1)
                have HLB2 : Hid (lineB x = true) := Lib.hid (by rw [HLB.out, HOK.out, HV.out, HPB.out]; rfl)
                clear hp q0f
                go_wp2_with fail
                refine wp_region_noPanic ?_
                refine wp_region_held_drew (S := fun V => w6.grownBy V R0) (by kernel_rfl) ⟨rfl, rfl, rfl, Nat.le_refl _, fun _ _ _ => rfl⟩ (fun g0 => ?_)
                refine wpAnyH_take (i := 0) (v := .slice ad2 m2 cp2) rfl (by kernel_rfl) (by kernel_rfl) (by kernel_rfl) (fun _ _ _ h => h) (Or.inl ⟨by rfl, fun V' hV' => ?_⟩) g0 ?_
                · rfl
                try simp only [Act.put, List.getElem_toArray, List.getElem_cons_zero, List.setIfInBounds_toArray, List.set_cons_zero, List.set_cons_succ]
                refine wpAnyH_take (i := 1) (v := .slice (some ⟨b3, o3, none⟩) 3 cp3) rfl (by kernel_rfl) (by kernel_rfl) (by kernel_rfl) (fun _ _ _ h => h) (Or.inl ⟨by rfl, fun V' hV' => ?_⟩) g0 ?_
                · rfl
                try simp only [Act.put, List.getElem_toArray, List.getElem_cons_zero, List.getElem_cons_succ, List.setIfInBounds_toArray, List.set_cons_zero, List.set_cons_succ]
                refine wpAnyH_take (i := 2) (v := .pointer (some ⟨b3, o3, none⟩)) rfl (by kernel_rfl) (by kernel_rfl) (by kernel_rfl) (fun _ _ _ h => h) (Or.inl ⟨by rfl, fun V' hV' => ?_⟩) g0 ?_
                · go_simp
                try simp only [Act.put, List.getElem_toArray, List.getElem_cons_zero, List.getElem_cons_succ, List.setIfInBounds_toArray, List.set_cons_zero, List.set_cons_succ]
                refine wpAnyH_take (i := 3) (v := .string nm) rfl (by kernel_rfl) (by kernel_rfl) (by kernel_rfl) (fun _ _ _ h => h) (Or.inl ⟨by rfl, fun V' hV' => ?_⟩) g0 ?_
                · have hc := hV'.cell Q0.out (fun e => HB3.out e.symm)
                  go_simp
                try simp only [Act.put, List.getElem_toArray, List.getElem_cons_zero, List.getElem_cons_succ, List.setIfInBounds_toArray, List.set_cons_zero, List.set_cons_succ]
                refine wpAnyH_take (i := 4) (v := .agg VA.toList.toArray) rfl (by kernel_rfl) (by kernel_rfl) (by kernel_rfl) (fun _ _ _ h => h) (Or.inl ⟨by rfl, fun V' hV' => ?_⟩) g0 ?_
                · have h := run_loadAt_mid (P := Tryz.prog) V' gv 0 28 VA.toList _ (range_stays HRV.out hV' HBV.out) Tryz.underlying28 rfl (by rw [← HVA.out]; kernel_rfl)
                  simp [execOp, Act.eval, h, Result.andThen]
                try simp only [Act.put, List.getElem_toArray, List.getElem_cons_zero, List.getElem_cons_succ, List.setIfInBounds_toArray, List.set_cons_zero, List.set_cons_succ]
                refine wpAnyH_take (i := 5) (v := .agg KA.toList.toArray) rfl (by kernel_rfl) (by kernel_rfl) (by kernel_rfl) (fun _ _ _ h => h) (Or.inl ⟨by rfl, fun V' hV' => ?_⟩) g0 ?_
                · have h := run_loadAt_mid (P := Tryz.prog) V' gk 0 33 KA.toList _ (range_stays HRK.out hV' HBK.out) Tryz.underlying33 rfl (by rw [Array.length_toList, HKS.out]; kernel_rfl)
                  simp [execOp, Act.eval, h, Result.andThen]
                try simp only [Act.put, List.getElem_toArray, List.getElem_cons_zero, List.getElem_cons_succ, List.setIfInBounds_toArray, List.set_cons_zero, List.set_cons_succ]
                refine wpAnyH_take (i := 6) (v := .agg p.enc.toArray) rfl (by kernel_rfl) (by kernel_rfl) (by kernel_rfl) (fun _ _ _ h => h) (Or.inl ⟨by rfl, fun V' hV' => ?_⟩) g0 ?_
                · have h := built_pin nm v (.slice sa sn sc) KA HKS.out
                  rw [HPE.out, HVA.out] at h
                  simp [execOp, Act.eval, run_build _ _ _ _ h, Result.andThen]
                try simp only [Act.put, List.getElem_toArray, List.getElem_cons_zero, List.getElem_cons_succ, List.setIfInBounds_toArray, List.set_cons_zero, List.set_cons_succ]
                refine wpAnyH_ready (rs := [7]) (by kernel_rfl) (by simp) ?_
                refine AllReadyH.cons rfl (fun K hK => ?_) AllReadyH.nil
                rw [if_pos (by rfl)]
                refine op_slice_pin _ rfl p.enc.toArray (by rw [List.size_toArray, enc_len]) rfl ?_
                refine hK.out _ _ (World.grownBy.trans g0 (World.grownBy_alloc _ _ _)) (fun g1 => ?_)
                clear hK K
                try simp only [Act.put, List.getElem_toArray, List.getElem_cons_zero, List.getElem_cons_succ, List.setIfInBounds_toArray, List.set_cons_zero, List.set_cons_succ]
                obtain ⟨q8, hq8⟩ : ∃ q8, w6.drew.heap.size = q8 := ⟨_, rfl⟩
                have hb8 : (w6.drew.alloc (.cells p.enc.toArray 35)).heap[q8]? = some (.cells p.enc.toArray 35 (0, 0)) := by rw [← hq8]; exact alloc_block _ _
                rw [hq8]
                obtain ⟨V1, hV1⟩ : ∃ V1, w6.drew.alloc (.cells p.enc.toArray 35) = V1 := ⟨_, rfl⟩
                have HGV1 : Hid (w3.grownBy V1 none) := Lib.hid (by rw [← hV1]; exact grown_alloc _ (grown_drew 1 (World.grownBy.trans HG34.out HG46.out)))
                rw [hV1] at g1 hb8 ⊢
                have HRP : Hid (V1.rangeAt q8 0 p.enc) := Lib.hid (fun j v hj => by rw [Nat.zero_add, cell_in hb8]; simpa using hj)
                have HGR1 := Lib.hid (World.grownBy.trans HG3.out HGV1.out)
                have HOWV := Lib.hid (HR.out.own.stays HGR1.out)
                clear hq8 hb8 hV1
                refine wpAnyH_ready (rs := [8]) (by kernel_rfl) (by simp) ?_
                refine AllReadyH.cons rfl (fun K hK => ?_) AllReadyH.nil
                rw [if_pos (by rfl)]
                refine op_pin_at _ _ rfl w1.heap.size (.slice ad2 m2 cp2) L m2 HR.out.len p q8 rfl HOWV.out rfl HRP.out (by omega) (Nat.le_trans HR.out.g1.size HGR1.out.size) ?_
                intro ad5 cp5 w5' hc5 hm5 hown5 hg5 hat5
                have HRN := Lib.hid (HR.out.next HST.out HLB2.out HPM.out (by rw [HPN.out]; exact HLE.out) HM200.out HG3.out HGV1.out HPAT.out HPNW.out hg5 hown5 hat5)
                refine hK.out _ _ (World.grownBy.trans g1 (by rw [← HR0.out]; exact hg5)) (fun g2 => ?_)
                clear hK K hown5 hg5 hat5
                try simp only [Act.put, List.getElem_toArray, List.getElem_cons_zero, List.getElem_cons_succ, List.setIfInBounds_toArray, List.set_cons_zero, List.set_cons_succ]
                refine wpAnyH_ready (rs := [9]) (by kernel_rfl) (by simp) ?_
                refine AllReadyH.cons rfl (fun K hK => ?_) AllReadyH.nil
                rw [if_pos (by rfl)]
                go_simp
                refine hK.out _ _ g2 (fun gf => ?_)
                clear hK K
                try simp only [Act.put, List.getElem_toArray, List.getElem_cons_zero, List.getElem_cons_succ, List.setIfInBounds_toArray, List.set_cons_zero, List.set_cons_succ]
                refine wpAnyH_done (by kernel_rfl) ?_ _
                refine NoPanic.normal ?_
                clear g0 g1 g2 gf
                go_wp2
                go_roundw
                case rel => exact ⟨k + 1, m2 + 1, cp5, ad5, p.name, L ++ [p], by omega, by go_num, rfl, by omega, hc5, hm5, Lib.hid (.inr ⟨p, by omega, by rw [Nat.add_sub_cancel, ← HR.out.len, List.getElem?_append_right (Nat.le_refl _), Nat.sub_self]; rfl, rfl⟩), HRN⟩
                case measure => simp [intOf]; omega
            · have hno : ¬ (lineB x = true ∧ lessB ah (lineN x) = true ∧ ¬ (L.map mp).length = 200) := fun h => by
                have h := h.1
                rw [HLB.out, HV.out, decide_eq_false hve, Bool.and_false, Bool.false_and] at h
                cases h
              have v1 : (ve == 0) = false := by rw [beq_eq_false_iff_ne]; exact hve
              have v2 : (ve != 0) = true := by rw [bne, v1]; rfl
              go_wp2
              exact bodyPost_ret (by simp [results, Tryz.results13, go_sem]) rfl (HF.out hno _ HG6.out)
          · obtain ⟨m3, rfl⟩ : ∃ m3, m2 = m3 + 1 := ⟨m2 - 1, by omega⟩
            rw [Nat.add_sub_cancel] at h1
            obtain ⟨bq, oq, e, _, hrq⟩ := (HR.out.own.part HM2.out.pos).at m3 p h1
            subst e
            have c0 := HG2.out.cell (range_name hrq) (by simp)
            have c0d : w2.drew.cell? ⟨bq, oq + m3 * 37, none⟩ = some (.string ah) := by rw [← h2]; exact c0
            have m0 : (0 : Int) < (m3 : Int) + 1 := by omega
            have ml : (m3 : Int) < (m3 : Int) + 1 := by omega
            have mw : IntKind.i64.wrap (m3 : Int) = (m3 : Int) := IntWalk.i64_in _ (by omega)
            have m0d : decide ((0 : Int) < (m3 : Int) + 1) = true := decide_eq_true m0
            clear HAL h0 h1 h2 c0 hrq
            by_cases h200 : m3 = 199
            · have m1 : (200 : Int) ≤ (m3 : Int) + 1 := by omega
              have m1d : decide ((200 : Int) ≤ (m3 : Int) + 1) = true := decide_eq_true m1
              have m2d : 200 ≤ m3 + 1 := by omega
              have m3d : decide (200 ≤ m3 + 1) = true := decide_eq_true m2d
              have m4d : 199 ≤ m3 := by omega
              cases hle : lessB ah nm with
              | true =>
                have f1 : Op.bytesLess ah.toList nm.toList = true := hle
                have hno : ¬ (lineB x = true ∧ lessB ah (lineN x) = true ∧ ¬ (L.map mp).length = 200) := fun h => h.2.2 (by rw [List.length_map, HR.out.len]; omega)
                clear hle h200
                go_wp2
                refine wp_region_quiet (C := fun w' => w' = w2.drew) (by kernel_rfl) (by kernel_rfl) rfl ?_
                refine @wpQuiet_step _ _ _ _ _ _ _ (fun K hK => ?_)
                go_simp
                first | refine hK _ ?_ | refine ⟨_, HNM.out, hK _ ?_⟩
                clear hK K
                refine @wpQuiet_step _ _ _ _ _ _ _ (fun K hK => ?_)
                go_simp
                first | refine hK _ ?_ | refine ⟨_, HNM.out, hK _ ?_⟩
                clear hK K
                refine @wpQuiet_step _ _ _ _ _ _ _ (fun K hK => ?_)
                go_simp
                first | refine hK _ ?_ | refine ⟨_, HNM.out, hK _ ?_⟩
                clear hK K
                refine @wpQuiet_step _ _ _ _ _ _ _ (fun K hK => ?_)
                go_simp
                first | refine hK _ ?_ | refine ⟨_, HNM.out, hK _ ?_⟩
                clear hK K
                refine @wpQuiet_step _ _ _ _ _ _ _ (fun K hK => ?_)
                go_simp
                first | refine hK _ ?_ | refine ⟨_, HNM.out, hK _ ?_⟩
                clear hK K
                refine @wpQuiet_step _ _ _ _ _ _ _ (fun K hK => ?_)
                go_simp
                first | refine hK _ ?_ | refine ⟨_, HNM.out, hK _ ?_⟩
                clear hK K
                refine @wpQuiet_step _ _ _ _ _ _ _ (fun K hK => ?_)
                go_simp
                first | refine hK _ ?_ | refine ⟨_, HNM.out, hK _ ?_⟩
                clear hK K
                refine @wpQuiet_step _ _ _ _ _ _ _ (fun K hK => ?_)
                go_simp
                first | refine hK _ ?_ | refine ⟨_, HNM.out, hK _ ?_⟩
                clear hK K
                refine @wpQuiet_step _ _ _ _ _ _ _ (fun K hK => ?_)
                go_simp
                first | refine hK _ ?_ | refine ⟨_, HNM.out, hK _ ?_⟩
                clear hK K
                refine @wpQuiet_step _ _ _ _ _ _ _ (fun K hK => ?_)
                go_simp
                first | refine hK _ ?_ | refine ⟨_, HNM.out, hK _ ?_⟩
                clear hK K
                refine @wpQuiet_step _ _ _ _ _ _ _ (fun K hK => ?_)
                go_simp
                first | refine hK _ ?_ | refine ⟨_, HNM.out, hK _ ?_⟩
                clear hK K
                refine @wpQuiet_step _ _ _ _ _ _ _ (fun K hK => ?_)
                go_simp
                first | refine hK _ ?_ | refine ⟨_, HNM.out, hK _ ?_⟩
                clear hK K
                refine @wpQuiet_step _ _ _ _ _ _ _ (fun K hK => ?_)
                go_simp
                first | refine hK _ ?_ | refine ⟨_, HNM.out, hK _ ?_⟩
                clear hK K
                refine @wpQuiet_step _ _ _ _ _ _ _ (fun K hK => ?_)
                go_simp
                first | refine hK _ ?_ | refine ⟨_, HNM.out, hK _ ?_⟩
                clear hK K
                refine @wpQuiet_step _ _ _ _ _ _ _ (fun K hK => ?_)
                go_simp
                first | refine hK _ ?_ | refine ⟨_, HNM.out, hK _ ?_⟩
                clear hK K
                refine @wpQuiet_step _ _ _ _ _ _ _ (fun K hK => ?_)
                go_simp
                first | refine hK _ ?_ | refine ⟨_, HNM.out, hK _ ?_⟩
                clear hK K
                refine @wpQuiet_step _ _ _ _ _ _ _ (fun K hK => ?_)
                go_simp
                first | refine hK _ ?_ | refine ⟨_, HNM.out, hK _ ?_⟩
                clear hK K
                refine @wpQuiet_step _ _ _ _ _ _ _ (fun K hK => ?_)
                go_simp
                first | refine hK _ ?_ | refine ⟨_, HNM.out, hK _ ?_⟩
                clear hK K
                refine @wpQuiet_step _ _ _ _ _ _ _ (fun K hK => ?_)
                go_simp
                first | refine hK _ ?_ | refine ⟨_, HNM.out, hK _ ?_⟩
                clear hK K
                refine @wpQuiet_step _ _ _ _ _ _ _ (fun K hK => ?_)
                go_simp
                first | refine hK _ ?_ | refine ⟨_, HNM.out, hK _ ?_⟩
                clear hK K
                refine @wpQuiet_step _ _ _ _ _ _ _ (fun K hK => ?_)
                go_simp
                first | refine hK _ ?_ | refine ⟨_, HNM.out, hK _ ?_⟩
                clear hK K
                refine @wpQuiet_step _ _ _ _ _ _ _ (fun K hK => ?_)
                go_simp
                first | refine hK _ ?_ | refine ⟨_, HNM.out, hK _ ?_⟩
                clear hK K
                refine @wpQuiet_step _ _ _ _ _ _ _ (fun K hK => ?_)
                go_simp
                first | refine hK _ ?_ | refine ⟨_, HNM.out, hK _ ?_⟩
                clear hK K
                refine @wpQuiet_step _ _ _ _ _ _ _ (fun K hK => ?_)
                go_simp
                first | refine hK _ ?_ | refine ⟨_, HNM.out, hK _ ?_⟩
                clear hK K
                refine @wpQuiet_step _ _ _ _ _ _ _ (fun K hK => ?_)
                go_simp
                first | refine hK _ ?_ | refine ⟨_, HNM.out, hK _ ?_⟩
                clear hK K
                refine @wpQuiet_step _ _ _ _ _ _ _ (fun K hK => ?_)
                go_simp
                first | refine hK _ ?_ | refine ⟨_, HNM.out, hK _ ?_⟩
                clear hK K
                refine @wpQuiet_step _ _ _ _ _ _ _ (fun K hK => ?_)
                go_simp
                first | refine hK _ ?_ | refine ⟨_, HNM.out, hK _ ?_⟩
                clear hK K
                refine @wpQuiet_step _ _ _ _ _ _ _ (fun K hK => ?_)
                go_simp
                first | refine hK _ ?_ | refine ⟨_, HNM.out, hK _ ?_⟩
                clear hK K
                refine @wpQuiet_step _ _ _ _ _ _ _ (fun K hK => ?_)
                go_simp
                first | refine hK _ ?_ | refine ⟨_, HNM.out, hK _ ?_⟩
                clear hK K
                refine @wpQuiet_step _ _ _ _ _ _ _ (fun K hK => ?_)
                go_simp
                first | refine hK _ ?_ | refine ⟨_, HNM.out, hK _ ?_⟩
                clear hK K
                refine @wpQuiet_step _ _ _ _ _ _ _ (fun K hK => ?_)
                go_simp
                first | refine hK _ ?_ | refine ⟨_, HNM.out, hK _ ?_⟩
                clear hK K
                refine @wpQuiet_step _ _ _ _ _ _ _ (fun K hK => ?_)
                go_simp
                first | refine hK _ ?_ | refine ⟨_, HNM.out, hK _ ?_⟩
                clear hK K
                refine @wpQuiet_step _ _ _ _ _ _ _ (fun K hK => ?_)
                go_simp
                first | refine hK _ ?_ | refine ⟨_, HNM.out, hK _ ?_⟩
                clear hK K
                refine wpQuiet_nil ?_
                rintro w3 rfl
                go_wp2
                exact bodyPost_ret (by simp [results, Tryz.results13, go_sem]) rfl (HF.out hno _ (grown_drew 1 HG2.out))
              | false =>
                have f1 : Op.bytesLess ah.toList nm.toList = false := hle
                have hno : ¬ (lineB x = true ∧ lessB ah (lineN x) = true ∧ ¬ (L.map mp).length = 200) := fun h => h.2.2 (by rw [List.length_map, HR.out.len]; omega)
                clear hle h200
                go_wp2
                refine wp_region_quiet (C := fun w' => w' = w2.drew) (by kernel_rfl) (by kernel_rfl) rfl ?_
                refine @wpQuiet_step _ _ _ _ _ _ _ (fun K hK => ?_)
                go_simp
                first | refine hK _ ?_ | refine ⟨_, HNM.out, hK _ ?_⟩
                clear hK K
                refine @wpQuiet_step _ _ _ _ _ _ _ (fun K hK => ?_)
                go_simp
                first | refine hK _ ?_ | refine ⟨_, HNM.out, hK _ ?_⟩
                clear hK K
                refine @wpQuiet_step _ _ _ _ _ _ _ (fun K hK => ?_)
                go_simp
                first | refine hK _ ?_ | refine ⟨_, HNM.out, hK _ ?_⟩
                clear hK K
                refine @wpQuiet_step _ _ _ _ _ _ _ (fun K hK => ?_)
                go_simp
                first | refine hK _ ?_ | refine ⟨_, HNM.out, hK _ ?_⟩
                clear hK K
                refine @wpQuiet_step _ _ _ _ _ _ _ (fun K hK => ?_)
                go_simp
                first | refine hK _ ?_ | refine ⟨_, HNM.out, hK _ ?_⟩
                clear hK K
                refine @wpQuiet_step _ _ _ _ _ _ _ (fun K hK => ?_)
                go_simp
                first | refine hK _ ?_ | refine ⟨_, HNM.out, hK _ ?_⟩
                clear hK K
                refine @wpQuiet_step _ _ _ _ _ _ _ (fun K hK => ?_)
                go_simp
                first | refine hK _ ?_ | refine ⟨_, HNM.out, hK _ ?_⟩
                clear hK K
                refine @wpQuiet_step _ _ _ _ _ _ _ (fun K hK => ?_)
                go_simp
                first | refine hK _ ?_ | refine ⟨_, HNM.out, hK _ ?_⟩
                clear hK K
                refine @wpQuiet_step _ _ _ _ _ _ _ (fun K hK => ?_)
                go_simp
                first | refine hK _ ?_ | refine ⟨_, HNM.out, hK _ ?_⟩
                clear hK K
                refine @wpQuiet_step _ _ _ _ _ _ _ (fun K hK => ?_)
                go_simp
                first | refine hK _ ?_ | refine ⟨_, HNM.out, hK _ ?_⟩
                clear hK K
                refine @wpQuiet_step _ _ _ _ _ _ _ (fun K hK => ?_)
                go_simp
                first | refine hK _ ?_ | refine ⟨_, HNM.out, hK _ ?_⟩
                clear hK K
                refine @wpQuiet_step _ _ _ _ _ _ _ (fun K hK => ?_)
                go_simp
                first | refine hK _ ?_ | refine ⟨_, HNM.out, hK _ ?_⟩
                clear hK K
                refine @wpQuiet_step _ _ _ _ _ _ _ (fun K hK => ?_)
                go_simp
                first | refine hK _ ?_ | refine ⟨_, HNM.out, hK _ ?_⟩
                clear hK K
                refine @wpQuiet_step _ _ _ _ _ _ _ (fun K hK => ?_)
                go_simp
                first | refine hK _ ?_ | refine ⟨_, HNM.out, hK _ ?_⟩
                clear hK K
                refine @wpQuiet_step _ _ _ _ _ _ _ (fun K hK => ?_)
                go_simp
                first | refine hK _ ?_ | refine ⟨_, HNM.out, hK _ ?_⟩
                clear hK K
                refine @wpQuiet_step _ _ _ _ _ _ _ (fun K hK => ?_)
                go_simp
                first | refine hK _ ?_ | refine ⟨_, HNM.out, hK _ ?_⟩
                clear hK K
                refine @wpQuiet_step _ _ _ _ _ _ _ (fun K hK => ?_)
                go_simp
                first | refine hK _ ?_ | refine ⟨_, HNM.out, hK _ ?_⟩
                clear hK K
                refine @wpQuiet_step _ _ _ _ _ _ _ (fun K hK => ?_)
                go_simp
                first | refine hK _ ?_ | refine ⟨_, HNM.out, hK _ ?_⟩
                clear hK K
                refine @wpQuiet_step _ _ _ _ _ _ _ (fun K hK => ?_)
                go_simp
                first | refine hK _ ?_ | refine ⟨_, HNM.out, hK _ ?_⟩
                clear hK K
                refine @wpQuiet_step _ _ _ _ _ _ _ (fun K hK => ?_)
                go_simp
                first | refine hK _ ?_ | refine ⟨_, HNM.out, hK _ ?_⟩
                clear hK K
                refine @wpQuiet_step _ _ _ _ _ _ _ (fun K hK => ?_)
                go_simp
                first | refine hK _ ?_ | refine ⟨_, HNM.out, hK _ ?_⟩
                clear hK K
                refine @wpQuiet_step _ _ _ _ _ _ _ (fun K hK => ?_)
                go_simp
                first | refine hK _ ?_ | refine ⟨_, HNM.out, hK _ ?_⟩
                clear hK K
                refine @wpQuiet_step _ _ _ _ _ _ _ (fun K hK => ?_)
                go_simp
                first | refine hK _ ?_ | refine ⟨_, HNM.out, hK _ ?_⟩
                clear hK K
                refine @wpQuiet_step _ _ _ _ _ _ _ (fun K hK => ?_)
                go_simp
                first | refine hK _ ?_ | refine ⟨_, HNM.out, hK _ ?_⟩
                clear hK K
                refine @wpQuiet_step _ _ _ _ _ _ _ (fun K hK => ?_)
                go_simp
                first | refine hK _ ?_ | refine ⟨_, HNM.out, hK _ ?_⟩
                clear hK K
                refine @wpQuiet_step _ _ _ _ _ _ _ (fun K hK => ?_)
                go_simp
                first | refine hK _ ?_ | refine ⟨_, HNM.out, hK _ ?_⟩
                clear hK K
                refine @wpQuiet_step _ _ _ _ _ _ _ (fun K hK => ?_)
                go_simp
                first | refine hK _ ?_ | refine ⟨_, HNM.out, hK _ ?_⟩
                clear hK K
                refine @wpQuiet_step _ _ _ _ _ _ _ (fun K hK => ?_)
                go_simp
                first | refine hK _ ?_ | refine ⟨_, HNM.out, hK _ ?_⟩
                clear hK K
                refine @wpQuiet_step _ _ _ _ _ _ _ (fun K hK => ?_)
                go_simp
                first | refine hK _ ?_ | refine ⟨_, HNM.out, hK _ ?_⟩
                clear hK K
                refine @wpQuiet_step _ _ _ _ _ _ _ (fun K hK => ?_)
                go_simp
                first | refine hK _ ?_ | refine ⟨_, HNM.out, hK _ ?_⟩
                clear hK K
                refine @wpQuiet_step _ _ _ _ _ _ _ (fun K hK => ?_)
                go_simp
                first | refine hK _ ?_ | refine ⟨_, HNM.out, hK _ ?_⟩
                clear hK K
                refine @wpQuiet_step _ _ _ _ _ _ _ (fun K hK => ?_)
                go_simp
                first | refine hK _ ?_ | refine ⟨_, HNM.out, hK _ ?_⟩
                clear hK K
                refine @wpQuiet_step _ _ _ _ _ _ _ (fun K hK => ?_)
                go_simp
                first | refine hK _ ?_ | refine ⟨_, HNM.out, hK _ ?_⟩
                clear hK K
                refine wpQuiet_nil ?_
                rintro w3 rfl
                go_wp2
                exact bodyPost_ret (by simp [results, Tryz.results13, go_sem]) rfl (HF.out hno _ (grown_drew 1 HG2.out))
            · have m1 : ¬ (200 : Int) ≤ (m3 : Int) + 1 := by omega
              have m1d : decide ((200 : Int) ≤ (m3 : Int) + 1) = false := decide_eq_false m1
              have m2d : ¬ 200 ≤ m3 + 1 := by omega
              have m3d : decide (200 ≤ m3 + 1) = false := decide_eq_false m2d
              have m4d : ¬ 199 ≤ m3 := by omega
              have HM200 : Hid (¬ m3 + 1 = 200) := Lib.hid (by omega)
              cases hle : lessB ah nm with
              | true =>
                have f1 : Op.bytesLess ah.toList nm.toList = true := hle
                have HLE := Lib.hid hle
                clear hle h200
                go_wp2
                refine wp_region_quiet (C := fun w' => w' = w2.drew) (by kernel_rfl) (by kernel_rfl) rfl ?_
                refine @wpQuiet_step _ _ _ _ _ _ _ (fun K hK => ?_)
                go_simp
                first | refine hK _ ?_ | refine ⟨_, HNM.out, hK _ ?_⟩
                clear hK K
                refine @wpQuiet_step _ _ _ _ _ _ _ (fun K hK => ?_)
                go_simp
                first | refine hK _ ?_ | refine ⟨_, HNM.out, hK _ ?_⟩
                clear hK K
                refine @wpQuiet_step _ _ _ _ _ _ _ (fun K hK => ?_)
                go_simp
                first | refine hK _ ?_ | refine ⟨_, HNM.out, hK _ ?_⟩
                clear hK K
                refine @wpQuiet_step _ _ _ _ _ _ _ (fun K hK => ?_)
                go_simp
                first | refine hK _ ?_ | refine ⟨_, HNM.out, hK _ ?_⟩
                clear hK K
                refine @wpQuiet_step _ _ _ _ _ _ _ (fun K hK => ?_)
                go_simp
                first | refine hK _ ?_ | refine ⟨_, HNM.out, hK _ ?_⟩
                clear hK K
                refine @wpQuiet_step _ _ _ _ _ _ _ (fun K hK => ?_)
                go_simp
                first | refine hK _ ?_ | refine ⟨_, HNM.out, hK _ ?_⟩
                clear hK K
                refine @wpQuiet_step _ _ _ _ _ _ _ (fun K hK => ?_)
                go_simp
                first | refine hK _ ?_ | refine ⟨_, HNM.out, hK _ ?_⟩
                clear hK K
                refine @wpQuiet_step _ _ _ _ _ _ _ (fun K hK => ?_)
                go_simp
                first | refine hK _ ?_ | refine ⟨_, HNM.out, hK _ ?_⟩
                clear hK K
                refine @wpQuiet_step _ _ _ _ _ _ _ (fun K hK => ?_)
                go_simp
                first | refine hK _ ?_ | refine ⟨_, HNM.out, hK _ ?_⟩
                clear hK K
                refine @wpQuiet_step _ _ _ _ _ _ _ (fun K hK => ?_)
                go_simp
                first | refine hK _ ?_ | refine ⟨_, HNM.out, hK _ ?_⟩
                clear hK K
                refine @wpQuiet_step _ _ _ _ _ _ _ (fun K hK => ?_)
                go_simp
                first | refine hK _ ?_ | refine ⟨_, HNM.out, hK _ ?_⟩
                clear hK K
                refine @wpQuiet_step _ _ _ _ _ _ _ (fun K hK => ?_)
                go_simp
                first | refine hK _ ?_ | refine ⟨_, HNM.out, hK _ ?_⟩
                clear hK K
                refine @wpQuiet_step _ _ _ _ _ _ _ (fun K hK => ?_)
                go_simp
                first | refine hK _ ?_ | refine ⟨_, HNM.out, hK _ ?_⟩
                clear hK K
                refine @wpQuiet_step _ _ _ _ _ _ _ (fun K hK => ?_)
                go_simp
                first | refine hK _ ?_ | refine ⟨_, HNM.out, hK _ ?_⟩
                clear hK K
                refine @wpQuiet_step _ _ _ _ _ _ _ (fun K hK => ?_)
                go_simp
                first | refine hK _ ?_ | refine ⟨_, HNM.out, hK _ ?_⟩
                clear hK K
                refine @wpQuiet_step _ _ _ _ _ _ _ (fun K hK => ?_)
                go_simp
                first | refine hK _ ?_ | refine ⟨_, HNM.out, hK _ ?_⟩
                clear hK K
                refine @wpQuiet_step _ _ _ _ _ _ _ (fun K hK => ?_)
                go_simp
                first | refine hK _ ?_ | refine ⟨_, HNM.out, hK _ ?_⟩
                clear hK K
                refine @wpQuiet_step _ _ _ _ _ _ _ (fun K hK => ?_)
                go_simp
                first | refine hK _ ?_ | refine ⟨_, HNM.out, hK _ ?_⟩
                clear hK K
                refine @wpQuiet_step _ _ _ _ _ _ _ (fun K hK => ?_)
                go_simp
                first | refine hK _ ?_ | refine ⟨_, HNM.out, hK _ ?_⟩
                clear hK K
                refine @wpQuiet_step _ _ _ _ _ _ _ (fun K hK => ?_)
                go_simp
                first | refine hK _ ?_ | refine ⟨_, HNM.out, hK _ ?_⟩
                clear hK K
                refine @wpQuiet_step _ _ _ _ _ _ _ (fun K hK => ?_)
                go_simp
                first | refine hK _ ?_ | refine ⟨_, HNM.out, hK _ ?_⟩
                clear hK K
                refine @wpQuiet_step _ _ _ _ _ _ _ (fun K hK => ?_)
                go_simp
                first | refine hK _ ?_ | refine ⟨_, HNM.out, hK _ ?_⟩
                clear hK K
                refine @wpQuiet_step _ _ _ _ _ _ _ (fun K hK => ?_)
                go_simp
                first | refine hK _ ?_ | refine ⟨_, HNM.out, hK _ ?_⟩
                clear hK K
                refine @wpQuiet_step _ _ _ _ _ _ _ (fun K hK => ?_)
                go_simp
                first | refine hK _ ?_ | refine ⟨_, HNM.out, hK _ ?_⟩
                clear hK K
                refine @wpQuiet_step _ _ _ _ _ _ _ (fun K hK => ?_)
                go_simp
                first | refine hK _ ?_ | refine ⟨_, HNM.out, hK _ ?_⟩
                clear hK K
                refine @wpQuiet_step _ _ _ _ _ _ _ (fun K hK => ?_)
                go_simp
                first | refine hK _ ?_ | refine ⟨_, HNM.out, hK _ ?_⟩
                clear hK K
                refine @wpQuiet_step _ _ _ _ _ _ _ (fun K hK => ?_)
                go_simp
                first | refine hK _ ?_ | refine ⟨_, HNM.out, hK _ ?_⟩
                clear hK K
                refine @wpQuiet_step _ _ _ _ _ _ _ (fun K hK => ?_)
                go_simp
                first | refine hK _ ?_ | refine ⟨_, HNM.out, hK _ ?_⟩
                clear hK K
                refine @wpQuiet_step _ _ _ _ _ _ _ (fun K hK => ?_)
                go_simp
                first | refine hK _ ?_ | refine ⟨_, HNM.out, hK _ ?_⟩
                clear hK K
                refine @wpQuiet_step _ _ _ _ _ _ _ (fun K hK => ?_)
                go_simp
                first | refine hK _ ?_ | refine ⟨_, HNM.out, hK _ ?_⟩
                clear hK K
                refine @wpQuiet_step _ _ _ _ _ _ _ (fun K hK => ?_)
                go_simp
                first | refine hK _ ?_ | refine ⟨_, HNM.out, hK _ ?_⟩
                clear hK K
                refine @wpQuiet_step _ _ _ _ _ _ _ (fun K hK => ?_)
                go_simp
                first | refine hK _ ?_ | refine ⟨_, HNM.out, hK _ ?_⟩
                clear hK K
                refine @wpQuiet_step _ _ _ _ _ _ _ (fun K hK => ?_)
                go_simp
                first | refine hK _ ?_ | refine ⟨_, HNM.out, hK _ ?_⟩
                clear hK K
                refine wpQuiet_nil ?_
                rintro w3 rfl
                have q1d : w2.drew.cell? ⟨b3, o3 + 1, none⟩ = some (.string vt) := q1
                go_wp2_with fail
                (with_reducible refine (refParse_new m vt w2.drew HVS.out).mono ?_)
                rintro ee w3 ⟨sl, rfl, hP3, hg3, hnw3⟩
                have HG3 := Lib.hid (World.grownBy.trans (grown_drew 1 HG2.out) hg3)
                have q2d : w3.cell? ⟨b3, o3 + 2, none⟩ = some (.string kt) := hg3.cell (show w2.drew.cell? ⟨b3, o3 + 2, none⟩ = some (.string kt) from q2) (by simp)
                have q0c : w3.cell? ⟨b3, o3, none⟩ = some (.string nm) := hg3.cell q0d (by simp)
                have HW3 := Lib.hid hnw3
                clear hg3 hnw3 q0 q1 q2 q0d q1d
                obtain ⟨v, ve, hv⟩ : ∃ v ve, parseS vt = (v, ve) := ⟨_, _, rfl⟩
                have HV := Lib.hid hv
                rw [hv] at hP3 ⊢
                have HP3 := Lib.hid hP3
                obtain ⟨sa, sc, hsl, _, _⟩ := hP3.form
                obtain ⟨sn, hsn⟩ : ∃ sn, v.pre.length = sn := ⟨_, rfl⟩
                rw [hsn] at hsl
                have HSN := Lib.hid hsn
                subst hsl
                clear hv hP3 hsn
                simp only [verV]
                obtain ⟨VA, hVA⟩ : ∃ VA : Array Value, #[.int .i64 v.maj, .int .i64 v.min, .int .i64 v.pat, .slice sa sn sc] = VA := ⟨_, rfl⟩
                have hvs : VA.size = 4 := by rw [← hVA]; rfl
                have hv1 : VA.all (·.oneCell') = true := by rw [← hVA]; simp [Value.oneCell']
                have HVA := Lib.hid hVA
                rw [hVA]
                obtain ⟨gv, hgv⟩ : ∃ gv, w3.heap.size = gv := ⟨_, rfl⟩
                have hk3 : (w3.alloc (.cells #[.int .i64 0, .int .i64 0, .int .i64 0, .slice none 0 0] 28)).heap[gv]? = some (.cells #[.int .i64 0, .int .i64 0, .int .i64 0, .slice none 0 0] 28 (0, 0)) := by rw [← hgv, heap_alloc_new]
                have hst := Sha.storeCells_row (w3.alloc (.cells #[.int .i64 0, .int .i64 0, .int .i64 0, .slice none 0 0] 28)) gv 28 28 #[.int .i64 0, .int .i64 0, .int .i64 0, .slice none 0 0] VA hk3 (by rw [hvs]; kernel_rfl) (by rw [hvs]; rfl) hv1
                have hg4 : w3.grownBy ((w3.alloc (.cells #[.int .i64 0, .int .i64 0, .int .i64 0, .slice none 0 0] 28)).setRow gv VA) none := Sha.grown_setRow (World.grownBy_alloc _ _ _) (Nat.le_of_eq hgv) _
                have hk4 := setRow_heap _ gv _ VA 28 _ hk3
                obtain ⟨w4, hw4⟩ : ∃ w4, (w3.alloc (.cells #[.int .i64 0, .int .i64 0, .int .i64 0, .slice none 0 0] 28)).setRow gv VA = w4 := ⟨_, rfl⟩
                rw [hw4] at hg4 hk4
                have HG4 := Lib.hid (World.grownBy.trans HG3.out hg4)
                have HK4 := Lib.hid hk4
                have HGV := Lib.hid hgv
                have q2e : w4.cell? ⟨b3, o3 + 2, none⟩ = some (.string kt) := hg4.cell q2d (by simp)
                have q0e : w4.cell? ⟨b3, o3, none⟩ = some (.string nm) := hg4.cell q0c (by simp)
                have HG34 := Lib.hid hg4
                clear q2d q0c hk3 hg4 hk4 hVA hv1
                try dsimp only
                go_wp2_with fail
                clear hst hw4 hgv hvs
                (with_reducible refine (Sha.refparse_any kt w4).mono ?_)
                rintro ee w5 ⟨rfl, hg5⟩
                try dsimp only
                obtain ⟨KA, hKA⟩ : ∃ KA, (Sha.pk kt).map Sha.encB = KA := ⟨_, rfl⟩
                have hks : KA.size = 32 := by rw [← hKA, Array.size_map, pk_size]
                have hk1 : KA.all (·.oneCell') = true := by rw [← hKA]; exact (by
                  rw [Array.all_eq_true_iff_forall_mem]
                  intro u hu
                  obtain ⟨y, _, rfl⟩ := Array.mem_map.1 hu
                  rfl)
                have HKA := Lib.hid hKA
                have HKS := Lib.hid hks
                rw [hKA]
                have HSZ5 := Lib.hid (show w4.heap.size ≤ w5.heap.size from hg5.size)
                obtain ⟨gk, hgk⟩ : ∃ gk, w5.heap.size = gk := ⟨_, rfl⟩
                have hk3 : (w5.alloc (.cells Sha.zero32A 33)).heap[gk]? = some (.cells Sha.zero32A 33 (0, 0)) := by rw [← hgk, heap_alloc_new]
                have hst := Sha.storeCells_row (w5.alloc (.cells Sha.zero32A 33)) gk 33 33 Sha.zero32A KA hk3 (by rw [hks]; kernel_rfl) (by rw [Sha.zero32A_size, hks]) hk1
                have hg6 : w5.grownBy ((w5.alloc (.cells Sha.zero32A 33)).setRow gk KA) none := Sha.grown_setRow (World.grownBy_alloc _ _ _) (Nat.le_of_eq hgk) _
                have hk6 := setRow_heap _ gk _ KA 33 _ hk3
                obtain ⟨w6, hw6⟩ : ∃ w6, (w5.alloc (.cells Sha.zero32A 33)).setRow gk KA = w6 := ⟨_, rfl⟩
                rw [hw6] at hg6 hk6
                have HG6 := Lib.hid (World.grownBy.trans (World.grownBy.trans HG4.out hg5) hg6)
                have HG46 := Lib.hid (World.grownBy.trans hg5 hg6)
                have HK6 := Lib.hid hk6
                have HV6 := Lib.hid (block_kept HK4.out HG46.out)
                have HGK := Lib.hid hgk
                have q0f : w6.cell? ⟨b3, o3, none⟩ = some (.string nm) := HG46.out.cell q0e (by simp)
                clear q0e q2e hk3 hk6 hKA hk1 hg5 hg6
                have hzk : ∀ W : World, (zeroValue 33).run Tryz.prog W = .ok (.agg Sha.zero32A) W := by intro W; kernel_rfl
                by_cases hve : ve = 0
                · subst hve
                  cases hpb : Sha.pb kt with
                  | false =>
                    have hno : ¬ (lineB x = true ∧ lessB ah (lineN x) = true ∧ ¬ (L.map mp).length = 200) := fun h => by
                      have h := h.1
                      rw [HLB.out, HV.out, hpb, Bool.and_false] at h
                      cases h
                    clear hpb
                    go_wp2
                    exact bodyPost_ret (by simp [results, Tryz.results13, go_sem]) rfl (HF.out hno _ HG6.out)
                  | true =>
                    have HPB := Lib.hid hpb
                    clear hpb
                    have HRead : Hid (Read vt v) := Lib.hid (parse_read _ _ HV.out)
                    clear hks
                    obtain ⟨R0, hR0⟩ : ∃ R0, (Value.slice (some ⟨bq, oq, none⟩) (m3 + 1) cp2).ownBlock = R0 := ⟨_, rfl⟩
                    have HR0 := Lib.hid hR0
                    have HRB : Hid (∀ q, R0 = some q → w1.heap.size ≤ q ∧ q < wr.heap.size) := Lib.hid (fun q hq => OwnsP.block_lt HR.out.own q (by rw [hR0]; exact hq))
                    clear hR0
                    have HB3 : Hid (R0 ≠ some b3) := Lib.hid (fun e => by
                      have h1 := (HRB.out b3 e).2
                      have h2 := HNW2.out b3 rfl
                      omega)
                    have HBV : Hid (R0 ≠ some gv) := Lib.hid (fun e => by
                      have h1 := (HRB.out gv e).2
                      have h2 := HG3.out.size
                      have h3 := HGV.out
                      omega)
                    have HBK : Hid (R0 ≠ some gk) := Lib.hid (fun e => by
                      have h1 := (HRB.out gk e).2
                      have h2 := HG4.out.size
                      have h3 := HGK.out
                      have h4 := HG46.out.size
                      have h5 := HG6.out.size
                      have h6 := HK6.out
                      have h7 := HSZ5.out
                      omega)
                    have Q0 := Lib.hid q0f
                    have HRV : Hid (w6.rangeAt gv 0 VA.toList) := Lib.hid (fun j v hj => by rw [Nat.zero_add, cell_in HV6.out]; simpa using hj)
                    have HRK : Hid (w6.rangeAt gk 0 KA.toList) := Lib.hid (fun j v hj => by rw [Nat.zero_add, cell_in HK6.out]; simpa using hj)
                    obtain ⟨p, hp⟩ : ∃ p : Pc, (⟨nm, v, sa, sc, Sha.pk kt, pk_size _⟩ : Pc) = p := ⟨_, rfl⟩
                    have HPN : Hid (p.name = nm) := Lib.hid (by rw [← hp])
                    have HPE : Hid (pinA nm v (.slice sa sn sc) KA = p.enc.toArray) := Lib.hid (by
                      rw [← hp, ← HKA.out, pinA_cells]
                      show _ = (Pc.enc ⟨nm, v, sa, sc, Sha.pk kt, pk_size _⟩).toArray
                      unfold Pc.enc cellsC Pc.sl
                      rw [HSN.out])
                    have HPM : Hid (mp p = mpOf x) := Lib.hid (by rw [HMP.out, HV.out, ← hp]; rfl)
                    have HPAT : Hid (PcAt w3 w3.heap.size p) := Lib.hid (by
                      rw [← hp]
                      refine ⟨HRead.out.at ?_, ?_⟩
                      · have h := HP3.out
                        rw [← HSN.out] at h
                        exact h
                      · have h := HNS.out
                        exact h)
                    have HPNW : Hid (∀ q, p.sl.ownBlock = some q → wr.heap.size ≤ q) := Lib.hid (fun q hq => by
                      rw [← hp] at hq
                      have h1 := HW3.out q (by rw [← HSN.out]; exact hq)
                      have h2 := HG2.out.size
                      exact Nat.le_trans h2 h1)
                    have HLB2 : Hid (lineB x = true) := Lib.hid (by rw [HLB.out, HOK.out, HV.out, HPB.out]; rfl)
                    clear hp q0f
                    go_wp2_with fail
                    refine wp_region_noPanic ?_
                    refine wp_region_held_drew (S := fun V => w6.grownBy V R0) (by kernel_rfl) ⟨rfl, rfl, rfl, Nat.le_refl _, fun _ _ _ => rfl⟩ (fun g0 => ?_)
                    refine wpAnyH_take (i := 0) (v := .slice (some ⟨bq, oq, none⟩) (m3 + 1) cp2) rfl (by kernel_rfl) (by kernel_rfl) (by kernel_rfl) (fun _ _ _ h => h) (Or.inl ⟨by rfl, fun V' hV' => ?_⟩) g0 ?_
                    · rfl
                    try simp only [Act.put, List.getElem_toArray, List.getElem_cons_zero, List.setIfInBounds_toArray, List.set_cons_zero, List.set_cons_succ]
                    refine wpAnyH_take (i := 1) (v := .slice (some ⟨b3, o3, none⟩) 3 cp3) rfl (by kernel_rfl) (by kernel_rfl) (by kernel_rfl) (fun _ _ _ h => h) (Or.inl ⟨by rfl, fun V' hV' => ?_⟩) g0 ?_
                    · rfl
                    try simp only [Act.put, List.getElem_toArray, List.getElem_cons_zero, List.getElem_cons_succ, List.setIfInBounds_toArray, List.set_cons_zero, List.set_cons_succ]
                    refine wpAnyH_take (i := 2) (v := .pointer (some ⟨b3, o3, none⟩)) rfl (by kernel_rfl) (by kernel_rfl) (by kernel_rfl) (fun _ _ _ h => h) (Or.inl ⟨by rfl, fun V' hV' => ?_⟩) g0 ?_
                    · go_simp
                    try simp only [Act.put, List.getElem_toArray, List.getElem_cons_zero, List.getElem_cons_succ, List.setIfInBounds_toArray, List.set_cons_zero, List.set_cons_succ]
                    refine wpAnyH_take (i := 3) (v := .string nm) rfl (by kernel_rfl) (by kernel_rfl) (by kernel_rfl) (fun _ _ _ h => h) (Or.inl ⟨by rfl, fun V' hV' => ?_⟩) g0 ?_
                    · have hc := hV'.cell Q0.out (fun e => HB3.out e.symm)
                      go_simp
                    try simp only [Act.put, List.getElem_toArray, List.getElem_cons_zero, List.getElem_cons_succ, List.setIfInBounds_toArray, List.set_cons_zero, List.set_cons_succ]
                    refine wpAnyH_take (i := 4) (v := .agg VA.toList.toArray) rfl (by kernel_rfl) (by kernel_rfl) (by kernel_rfl) (fun _ _ _ h => h) (Or.inl ⟨by rfl, fun V' hV' => ?_⟩) g0 ?_
                    · have h := run_loadAt_mid (P := Tryz.prog) V' gv 0 28 VA.toList _ (range_stays HRV.out hV' HBV.out) Tryz.underlying28 rfl (by rw [← HVA.out]; kernel_rfl)
                      simp [execOp, Act.eval, h, Result.andThen]
                    try simp only [Act.put, List.getElem_toArray, List.getElem_cons_zero, List.getElem_cons_succ, List.setIfInBounds_toArray, List.set_cons_zero, List.set_cons_succ]
                    refine wpAnyH_take (i := 5) (v := .agg KA.toList.toArray) rfl (by kernel_rfl) (by kernel_rfl) (by kernel_rfl) (fun _ _ _ h => h) (Or.inl ⟨by rfl, fun V' hV' => ?_⟩) g0 ?_
                    · have h := run_loadAt_mid (P := Tryz.prog) V' gk 0 33 KA.toList _ (range_stays HRK.out hV' HBK.out) Tryz.underlying33 rfl (by rw [Array.length_toList, HKS.out]; kernel_rfl)
                      simp [execOp, Act.eval, h, Result.andThen]
                    try simp only [Act.put, List.getElem_toArray, List.getElem_cons_zero, List.getElem_cons_succ, List.setIfInBounds_toArray, List.set_cons_zero, List.set_cons_succ]
                    refine wpAnyH_take (i := 6) (v := .agg p.enc.toArray) rfl (by kernel_rfl) (by kernel_rfl) (by kernel_rfl) (fun _ _ _ h => h) (Or.inl ⟨by rfl, fun V' hV' => ?_⟩) g0 ?_
                    · have h := built_pin nm v (.slice sa sn sc) KA HKS.out
                      rw [HPE.out, HVA.out] at h
                      simp [execOp, Act.eval, run_build _ _ _ _ h, Result.andThen]
                    try simp only [Act.put, List.getElem_toArray, List.getElem_cons_zero, List.getElem_cons_succ, List.setIfInBounds_toArray, List.set_cons_zero, List.set_cons_succ]
                    refine wpAnyH_ready (rs := [7]) (by kernel_rfl) (by simp) ?_
                    refine AllReadyH.cons rfl (fun K hK => ?_) AllReadyH.nil
                    rw [if_pos (by rfl)]
                    refine op_slice_pin _ rfl p.enc.toArray (by rw [List.size_toArray, enc_len]) rfl ?_
                    refine hK.out _ _ (World.grownBy.trans g0 (World.grownBy_alloc _ _ _)) (fun g1 => ?_)
                    clear hK K
                    try simp only [Act.put, List.getElem_toArray, List.getElem_cons_zero, List.getElem_cons_succ, List.setIfInBounds_toArray, List.set_cons_zero, List.set_cons_succ]
                    obtain ⟨q8, hq8⟩ : ∃ q8, w6.drew.heap.size = q8 := ⟨_, rfl⟩
                    have hb8 : (w6.drew.alloc (.cells p.enc.toArray 35)).heap[q8]? = some (.cells p.enc.toArray 35 (0, 0)) := by rw [← hq8]; exact alloc_block _ _
                    rw [hq8]
                    obtain ⟨V1, hV1⟩ : ∃ V1, w6.drew.alloc (.cells p.enc.toArray 35) = V1 := ⟨_, rfl⟩
                    have HGV1 : Hid (w3.grownBy V1 none) := Lib.hid (by rw [← hV1]; exact grown_alloc _ (grown_drew 1 (World.grownBy.trans HG34.out HG46.out)))
                    rw [hV1] at g1 hb8 ⊢
                    have HRP : Hid (V1.rangeAt q8 0 p.enc) := Lib.hid (fun j v hj => by rw [Nat.zero_add, cell_in hb8]; simpa using hj)
                    have HGR1 := Lib.hid (World.grownBy.trans HG3.out HGV1.out)
                    have HOWV := Lib.hid (HR.out.own.stays HGR1.out)
                    clear hq8 hb8 hV1
                    refine wpAnyH_ready (rs := [8]) (by kernel_rfl) (by simp) ?_
                    refine AllReadyH.cons rfl (fun K hK => ?_) AllReadyH.nil
                    rw [if_pos (by rfl)]
                    refine op_pin_at _ _ rfl w1.heap.size (.slice (some ⟨bq, oq, none⟩) (m3 + 1) cp2) L (m3 + 1) HR.out.len p q8 rfl HOWV.out rfl HRP.out (by omega) (Nat.le_trans HR.out.g1.size HGR1.out.size) ?_
                    intro ad5 cp5 w5' hc5 hm5 hown5 hg5 hat5
                    have HRN := Lib.hid (HR.out.next HST.out HLB2.out HPM.out (by rw [HPN.out]; exact HLE.out) HM200.out HG3.out HGV1.out HPAT.out HPNW.out hg5 hown5 hat5)
                    refine hK.out _ _ (World.grownBy.trans g1 (by rw [← HR0.out]; exact hg5)) (fun g2 => ?_)
                    clear hK K hown5 hg5 hat5
                    try simp only [Act.put, List.getElem_toArray, List.getElem_cons_zero, List.getElem_cons_succ, List.setIfInBounds_toArray, List.set_cons_zero, List.set_cons_succ]
                    refine wpAnyH_ready (rs := [9]) (by kernel_rfl) (by simp) ?_
                    refine AllReadyH.cons rfl (fun K hK => ?_) AllReadyH.nil
                    rw [if_pos (by rfl)]
                    go_simp
                    refine hK.out _ _ g2 (fun gf => ?_)
                    clear hK K
                    try simp only [Act.put, List.getElem_toArray, List.getElem_cons_zero, List.getElem_cons_succ, List.setIfInBounds_toArray, List.set_cons_zero, List.set_cons_succ]
                    refine wpAnyH_done (by kernel_rfl) ?_ _
                    refine NoPanic.normal ?_
                    clear g0 g1 g2 gf
                    go_wp2
                    go_roundw
                    case rel => exact ⟨k + 1, (m3 + 1) + 1, cp5, ad5, p.name, L ++ [p], by omega, by go_num, rfl, by omega, hc5, hm5, Lib.hid (.inr ⟨p, by omega, by rw [Nat.add_sub_cancel, ← HR.out.len, List.getElem?_append_right (Nat.le_refl _), Nat.sub_self]; rfl, rfl⟩), HRN⟩
                    case measure => simp [intOf]; omega
                · have hno : ¬ (lineB x = true ∧ lessB ah (lineN x) = true ∧ ¬ (L.map mp).length = 200) := fun h => by
                    have h := h.1
                    rw [HLB.out, HV.out, decide_eq_false hve, Bool.and_false, Bool.false_and] at h
                    cases h
                  have v1 : (ve == 0) = false := by rw [beq_eq_false_iff_ne]; exact hve
                  have v2 : (ve != 0) = true := by rw [bne, v1]; rfl
                  go_wp2
                  exact bodyPost_ret (by simp [results, Tryz.results13, go_sem]) rfl (HF.out hno _ HG6.out)
              | false =>
                have f1 : Op.bytesLess ah.toList nm.toList = false := hle
                have hno : ¬ (lineB x = true ∧ lessB ah (lineN x) = true ∧ ¬ (L.map mp).length = 200) := fun h => by
                  have h := h.2.1
                  rw [HLN.out, hle] at h
                  cases h
                clear hle h200
                go_wp2
                refine wp_region_quiet (C := fun w' => w' = w2.drew) (by kernel_rfl) (by kernel_rfl) rfl ?_
                refine @wpQuiet_step _ _ _ _ _ _ _ (fun K hK => ?_)
                go_simp
                first | refine hK _ ?_ | refine ⟨_, HNM.out, hK _ ?_⟩
                clear hK K
                refine @wpQuiet_step _ _ _ _ _ _ _ (fun K hK => ?_)
                go_simp
                first | refine hK _ ?_ | refine ⟨_, HNM.out, hK _ ?_⟩
                clear hK K
                refine @wpQuiet_step _ _ _ _ _ _ _ (fun K hK => ?_)
                go_simp
                first | refine hK _ ?_ | refine ⟨_, HNM.out, hK _ ?_⟩
                clear hK K
                refine @wpQuiet_step _ _ _ _ _ _ _ (fun K hK => ?_)
                go_simp
                first | refine hK _ ?_ | refine ⟨_, HNM.out, hK _ ?_⟩
                clear hK K
                refine @wpQuiet_step _ _ _ _ _ _ _ (fun K hK => ?_)
                go_simp
                first | refine hK _ ?_ | refine ⟨_, HNM.out, hK _ ?_⟩
                clear hK K
                refine @wpQuiet_step _ _ _ _ _ _ _ (fun K hK => ?_)
                go_simp
                first | refine hK _ ?_ | refine ⟨_, HNM.out, hK _ ?_⟩
                clear hK K
                refine @wpQuiet_step _ _ _ _ _ _ _ (fun K hK => ?_)
                go_simp
                first | refine hK _ ?_ | refine ⟨_, HNM.out, hK _ ?_⟩
                clear hK K
                refine @wpQuiet_step _ _ _ _ _ _ _ (fun K hK => ?_)
                go_simp
                first | refine hK _ ?_ | refine ⟨_, HNM.out, hK _ ?_⟩
                clear hK K
                refine @wpQuiet_step _ _ _ _ _ _ _ (fun K hK => ?_)
                go_simp
                first | refine hK _ ?_ | refine ⟨_, HNM.out, hK _ ?_⟩
                clear hK K
                refine @wpQuiet_step _ _ _ _ _ _ _ (fun K hK => ?_)
                go_simp
                first | refine hK _ ?_ | refine ⟨_, HNM.out, hK _ ?_⟩
                clear hK K
                refine @wpQuiet_step _ _ _ _ _ _ _ (fun K hK => ?_)
                go_simp
                first | refine hK _ ?_ | refine ⟨_, HNM.out, hK _ ?_⟩
                clear hK K
                refine @wpQuiet_step _ _ _ _ _ _ _ (fun K hK => ?_)
                go_simp
                first | refine hK _ ?_ | refine ⟨_, HNM.out, hK _ ?_⟩
                clear hK K
                refine @wpQuiet_step _ _ _ _ _ _ _ (fun K hK => ?_)
                go_simp
                first | refine hK _ ?_ | refine ⟨_, HNM.out, hK _ ?_⟩
                clear hK K
                refine @wpQuiet_step _ _ _ _ _ _ _ (fun K hK => ?_)
                go_simp
                first | refine hK _ ?_ | refine ⟨_, HNM.out, hK _ ?_⟩
                clear hK K
                refine @wpQuiet_step _ _ _ _ _ _ _ (fun K hK => ?_)
                go_simp
                first | refine hK _ ?_ | refine ⟨_, HNM.out, hK _ ?_⟩
                clear hK K
                refine @wpQuiet_step _ _ _ _ _ _ _ (fun K hK => ?_)
                go_simp
                first | refine hK _ ?_ | refine ⟨_, HNM.out, hK _ ?_⟩
                clear hK K
                refine @wpQuiet_step _ _ _ _ _ _ _ (fun K hK => ?_)
                go_simp
                first | refine hK _ ?_ | refine ⟨_, HNM.out, hK _ ?_⟩
                clear hK K
                refine @wpQuiet_step _ _ _ _ _ _ _ (fun K hK => ?_)
                go_simp
                first | refine hK _ ?_ | refine ⟨_, HNM.out, hK _ ?_⟩
                clear hK K
                refine @wpQuiet_step _ _ _ _ _ _ _ (fun K hK => ?_)
                go_simp
                first | refine hK _ ?_ | refine ⟨_, HNM.out, hK _ ?_⟩
                clear hK K
                refine @wpQuiet_step _ _ _ _ _ _ _ (fun K hK => ?_)
                go_simp
                first | refine hK _ ?_ | refine ⟨_, HNM.out, hK _ ?_⟩
                clear hK K
                refine @wpQuiet_step _ _ _ _ _ _ _ (fun K hK => ?_)
                go_simp
                first | refine hK _ ?_ | refine ⟨_, HNM.out, hK _ ?_⟩
                clear hK K
                refine @wpQuiet_step _ _ _ _ _ _ _ (fun K hK => ?_)
                go_simp
                first | refine hK _ ?_ | refine ⟨_, HNM.out, hK _ ?_⟩
                clear hK K
                refine @wpQuiet_step _ _ _ _ _ _ _ (fun K hK => ?_)
                go_simp
                first | refine hK _ ?_ | refine ⟨_, HNM.out, hK _ ?_⟩
                clear hK K
                refine @wpQuiet_step _ _ _ _ _ _ _ (fun K hK => ?_)
                go_simp
                first | refine hK _ ?_ | refine ⟨_, HNM.out, hK _ ?_⟩
                clear hK K
                refine @wpQuiet_step _ _ _ _ _ _ _ (fun K hK => ?_)
                go_simp
                first | refine hK _ ?_ | refine ⟨_, HNM.out, hK _ ?_⟩
                clear hK K
                refine @wpQuiet_step _ _ _ _ _ _ _ (fun K hK => ?_)
                go_simp
                first | refine hK _ ?_ | refine ⟨_, HNM.out, hK _ ?_⟩
                clear hK K
                refine @wpQuiet_step _ _ _ _ _ _ _ (fun K hK => ?_)
                go_simp
                first | refine hK _ ?_ | refine ⟨_, HNM.out, hK _ ?_⟩
                clear hK K
                refine @wpQuiet_step _ _ _ _ _ _ _ (fun K hK => ?_)
                go_simp
                first | refine hK _ ?_ | refine ⟨_, HNM.out, hK _ ?_⟩
                clear hK K
                refine @wpQuiet_step _ _ _ _ _ _ _ (fun K hK => ?_)
                go_simp
                first | refine hK _ ?_ | refine ⟨_, HNM.out, hK _ ?_⟩
                clear hK K
                refine @wpQuiet_step _ _ _ _ _ _ _ (fun K hK => ?_)
                go_simp
                first | refine hK _ ?_ | refine ⟨_, HNM.out, hK _ ?_⟩
                clear hK K
                refine @wpQuiet_step _ _ _ _ _ _ _ (fun K hK => ?_)
                go_simp
                first | refine hK _ ?_ | refine ⟨_, HNM.out, hK _ ?_⟩
                clear hK K
                refine @wpQuiet_step _ _ _ _ _ _ _ (fun K hK => ?_)
                go_simp
                first | refine hK _ ?_ | refine ⟨_, HNM.out, hK _ ?_⟩
                clear hK K
                refine @wpQuiet_step _ _ _ _ _ _ _ (fun K hK => ?_)
                go_simp
                first | refine hK _ ?_ | refine ⟨_, HNM.out, hK _ ?_⟩
                clear hK K
                refine wpQuiet_nil ?_
                rintro w3 rfl
                go_wp2
                exact bodyPost_ret (by simp [results, Tryz.results13, go_sem]) rfl (HF.out hno _ (grown_drew 1 HG2.out))

      · have hno : ¬ (lineB x = true ∧ lessB ah (lineN x) = true ∧ ¬ (L.map mp).length = 200) := fun h => by
          have h := h.1
          unfold lineB at h
          rw [decide_eq_false (by rw [hN]; exact h3)] at h
          cases h
        have n3 : ((N : Int) == 3) = false := beq_no N 3 (by omega)
        have n3b : ((N : Int) != 3) = true := by rw [bne, n3]; rfl
        clear hQ hN hg2 HAL
        go_wp2
        refine wp_region_quiet (C := fun w' => w' = w2.drew) (by kernel_rfl) (by kernel_rfl) rfl ?_
        refine @wpQuiet_step _ _ _ _ _ _ _ (fun K hK => ?_)
        go_simp
        refine hK _ ?_
        clear hK K
        refine @wpQuiet_step _ _ _ _ _ _ _ (fun K hK => ?_)
        go_simp
        refine hK _ ?_
        clear hK K
        refine @wpQuiet_step _ _ _ _ _ _ _ (fun K hK => ?_)
        go_simp
        refine hK _ ?_
        clear hK K
        refine @wpQuiet_step _ _ _ _ _ _ _ (fun K hK => ?_)
        go_simp
        refine hK _ ?_
        clear hK K
        refine @wpQuiet_step _ _ _ _ _ _ _ (fun K hK => ?_)
        go_simp
        refine hK _ ?_
        clear hK K
        refine @wpQuiet_step _ _ _ _ _ _ _ (fun K hK => ?_)
        go_simp
        refine hK _ ?_
        clear hK K
        refine @wpQuiet_step _ _ _ _ _ _ _ (fun K hK => ?_)
        go_simp
        refine hK _ ?_
        clear hK K
        refine @wpQuiet_step _ _ _ _ _ _ _ (fun K hK => ?_)
        go_simp
        refine hK _ ?_
        clear hK K
        refine @wpQuiet_step _ _ _ _ _ _ _ (fun K hK => ?_)
        go_simp
        refine hK _ ?_
        clear hK K
        refine @wpQuiet_step _ _ _ _ _ _ _ (fun K hK => ?_)
        go_simp
        refine hK _ ?_
        clear hK K
        refine @wpQuiet_step _ _ _ _ _ _ _ (fun K hK => ?_)
        go_simp
        refine hK _ ?_
        clear hK K
        refine @wpQuiet_step _ _ _ _ _ _ _ (fun K hK => ?_)
        go_simp
        refine hK _ ?_
        clear hK K
        refine @wpQuiet_step _ _ _ _ _ _ _ (fun K hK => ?_)
        go_simp
        refine hK _ ?_
        clear hK K
        refine @wpQuiet_step _ _ _ _ _ _ _ (fun K hK => ?_)
        go_simp
        refine hK _ ?_
        clear hK K
        refine @wpQuiet_step _ _ _ _ _ _ _ (fun K hK => ?_)
        go_simp
        refine hK _ ?_
        clear hK K
        refine @wpQuiet_step _ _ _ _ _ _ _ (fun K hK => ?_)
        go_simp
        refine hK _ ?_
        clear hK K
        refine @wpQuiet_step _ _ _ _ _ _ _ (fun K hK => ?_)
        go_simp
        refine hK _ ?_
        clear hK K
        refine @wpQuiet_step _ _ _ _ _ _ _ (fun K hK => ?_)
        go_simp
        refine hK _ ?_
        clear hK K
        refine @wpQuiet_step _ _ _ _ _ _ _ (fun K hK => ?_)
        go_simp
        refine hK _ ?_
        clear hK K
        refine @wpQuiet_step _ _ _ _ _ _ _ (fun K hK => ?_)
        go_simp
        refine hK _ ?_
        clear hK K
        refine @wpQuiet_step _ _ _ _ _ _ _ (fun K hK => ?_)
        go_simp
        refine hK _ ?_
        clear hK K
        refine @wpQuiet_step _ _ _ _ _ _ _ (fun K hK => ?_)
        go_simp
        refine hK _ ?_
        clear hK K
        refine @wpQuiet_step _ _ _ _ _ _ _ (fun K hK => ?_)
        go_simp
        refine hK _ ?_
        clear hK K
        refine @wpQuiet_step _ _ _ _ _ _ _ (fun K hK => ?_)
        go_simp
        refine hK _ ?_
        clear hK K
        refine @wpQuiet_step _ _ _ _ _ _ _ (fun K hK => ?_)
        go_simp
        refine hK _ ?_
        clear hK K
        refine @wpQuiet_step _ _ _ _ _ _ _ (fun K hK => ?_)
        go_simp
        refine hK _ ?_
        clear hK K
        refine @wpQuiet_step _ _ _ _ _ _ _ (fun K hK => ?_)
        go_simp
        refine hK _ ?_
        clear hK K
        refine @wpQuiet_step _ _ _ _ _ _ _ (fun K hK => ?_)
        go_simp
        refine hK _ ?_
        clear hK K
        refine @wpQuiet_step _ _ _ _ _ _ _ (fun K hK => ?_)
        go_simp
        refine hK _ ?_
        clear hK K
        refine @wpQuiet_step _ _ _ _ _ _ _ (fun K hK => ?_)
        go_simp
        refine hK _ ?_
        clear hK K
        refine @wpQuiet_step _ _ _ _ _ _ _ (fun K hK => ?_)
        go_simp
        refine hK _ ?_
        clear hK K
        refine @wpQuiet_step _ _ _ _ _ _ _ (fun K hK => ?_)
        go_simp
        refine hK _ ?_
        clear hK K
        refine @wpQuiet_step _ _ _ _ _ _ _ (fun K hK => ?_)
        go_simp
        refine hK _ ?_
        clear hK K
        refine wpQuiet_nil ?_
        rintro w3 rfl
        go_wp2
        exact bodyPost_ret (by simp [results, Tryz.results13, go_sem]) rfl (HF.out hno _ (grown_drew 1 HG2.out))
    · obtain rfl : k = n := by omega
      have HE : Hid (PkRet (lockS s) w (.returned (.tuple #[.slice ad2 m2 cp2, .int .i64 0, .int .i64 0])) wr) := by
        have h := HR.out.done (Nat.le_of_eq HN.out)
        obtain ⟨hg, ⟨_, _, h2⟩ | ⟨v, L2, h1, h2, h3, h4⟩⟩ := h
        · cases h2
        · exact Lib.hid ⟨hg, .inr ⟨v, L2, h1, by rw [show v = .slice ad2 m2 cp2 by injection h2 with h2; exact h2.symm], h3, h4⟩⟩
      go_wp2
      exact bodyPost_ret (by simp [results, Tryz.results13, go_sem]) rfl HE.out
end Go.Proofs.YthdopcdllggdaaaGreatDoor
