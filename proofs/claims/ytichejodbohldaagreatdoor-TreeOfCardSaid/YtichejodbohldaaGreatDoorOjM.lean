/- Mkdir: the program's and the reference's. -/
import Derived.Test.YtichejodbohldaaGreatDoorOiM
namespace Go.Proofs.YtichejodbohldaaGreatDoor
open Go.RowKit Go.Maps Go.Lib
set_option maxRecDepth 1000000
/-- What Mkdir tells and leaves. -/
def mkdirS (M : Tr) (s : ByteArray) : Int × Tr :=
  if ¬ (Pth.cleanS s).2 = 0 then ((Pth.cleanS s).2, M) else
  if dirT M (Pth.cleanS s).1 = true then (0, M) else
  if fileT M (Pth.cleanS s).1 = true ∨ aheadT M (Pth.partsS (Pth.cleanS s).1) = true then (54, M) else
  if M.length + lackN M (Pth.partsS (Pth.cleanS s).1) (Pth.partsS (Pth.cleanS s).1).length ≤ 500 then (0, mkN M (Pth.partsS (Pth.cleanS s).1) (Pth.partsS (Pth.cleanS s).1).length) else (55, M)
theorem mkdirS_bad {M : Tr} {s : ByteArray} {q : Int} (h : Pth.cleanS s = (E0, q)) (hq : ¬ q = 0) : mkdirS M s = (q, M) := by unfold mkdirS; rw [h, if_pos hq]
theorem mkdirS_at {M : Tr} {s : ByteArray} {L : List ByteArray} (h : Pth.cleanS s = (Pth.joinB L, 0)) (hL : Parts L) : mkdirS M s = if dirT M (Pth.joinB L) = true then (0, M) else if fileT M (Pth.joinB L) = true ∨ aheadT M L = true then (54, M) else if M.length + lackN M L L.length ≤ 500 then (0, mkN M L L.length) else (55, M) := by
  unfold mkdirS
  rw [h, if_neg (by simp), Pth.parts_join L hL.part]
theorem inv_mk {M : Tr} (hI : Inv M) {L : List ByteArray} (hL : Parts L) (hf : fileN M L (L.length + 1) = false) (hfit : M.length + lackN M L L.length ≤ 500) : Inv (mkN M L L.length) := by
  refine ⟨mkN_asc L _ M hI.asc, by rw [mkN_len hL _ M hI.asc (Nat.le_refl _)]; exact hfit, by rw [mkN_size L _ M hI.asc]; exact hI.size, fun e he => ?_, fun L' i j hL' hij hj hi hs => mk_up hI hL L.length (Nat.le_refl _) hf L' i j hL' hij hj hi hs⟩
  rcases mk_mem L.length M e he with he | ⟨i, h1, h2, rfl⟩
  · exact hI.key e he
  · exact ⟨key_up hL i h1 h2, Nat.zero_le _, fun _ => rfl⟩
theorem inv_mkdir {M : Tr} (hI : Inv M) (s : ByteArray) : Inv (mkdirS M s).2 := by
  rcases clean_ways s with ⟨L, hc, hL⟩ | ⟨q, hc, hq, _, _⟩
  · rw [mkdirS_at hc hL]
    split
    · exact hI
    · split
      · exact hI
      · rename_i hd hf
        split
        · rename_i hfit
          refine inv_mk hI hL ?_ hfit
          unfold fileN
          rw [upL_all]
          have h1 : fileT M (Pth.joinB L) = false := by
            cases h : fileT M (Pth.joinB L) with
            | false => rfl
            | true => exact absurd (.inl h) hf
          have h2 : fileN M L L.length = false := by
            cases h : fileN M L L.length with
            | false => rfl
            | true => exact absurd (.inr h) hf
          rw [h1, h2]; rfl
        · exact hI
  · rw [mkdirS_bad hc hq]; exact hI
set_option maxHeartbeats 8000000 in
theorem mkdir_any (tb : Nat) (M : Tr) (S : Nat → Prop) (s : ByteArray) (m : Int) (w : World) (h : TreeAt w tb M S) (hI : Inv M) (hm : w.cell? ⟨0, 0, none⟩ = some (.int .i64 m)) :
    Calls Tryz.prog 18 #[.pointer (some ⟨tb, 0, none⟩), .string s] w (PutsRet tb (mkdirS M s) w S) := by
  obtain ⟨⟨mb, X, ht, rfl, h3⟩, h4⟩ := h
  have HT := Lib.hid ht
  have HM := Lib.hid hm
  have H3 := Lib.hid h3
  have H4 := Lib.hid h4
  have hx : X.length ≤ 500 := by have := hI.len; rw [mapA_len] at this; exact this
  have hsz := hI.size
  rcases clean_ways s with ⟨L, hc, hL⟩ | ⟨q, hc, hq, hq1, hq2⟩
  · have HC := Lib.hid hc
    have HPU := Lib.hid (mkdirS_at (M := nds X) hc hL)
    have hps := hL.size
    obtain ⟨p, hp⟩ : ∃ p, Pth.joinB L = p := ⟨_, rfl⟩
    have hup : upL L L.length = p := by rw [upL_all, hp]
    have HFA : Hid (∀ V, w.grownBy V none → Calls Tryz.prog 52 #[.pointer (some ⟨tb, 0, none⟩), .string p] V fun e w' => e = .returned (.bool (aheadT (nds X) L)) ∧ V.grownBy w' none) := Lib.hid fun V hV => by
      have := fileAhead_any tb mb X L V (ht.stays hV) hL L.length (Nat.le_refl _)
      rw [hup] at this
      exact this
    have hl12 := hL.len
    obtain ⟨lk, hlk⟩ : ∃ lk, lackN (nds X) L L.length = lk := ⟨_, rfl⟩
    have hlk12 : lk ≤ 12 := by rw [← hlk]; have := lackN_le (nds X) L L.length; omega
    have HLA : Hid (∀ V, w.grownBy V none → Calls Tryz.prog 54 #[.pointer (some ⟨tb, 0, none⟩), .string p] V fun e w1 => e = .returned (.int .i64 (lk : Int)) ∧ V.grownBy w1 none) := Lib.hid fun V hg => by
      rw [← hlk, ← hup]; exact lacking_any tb mb X L V (ht.stays hg) hL L.length (Nat.le_refl _)
    have HMK : Hid (∀ V, w.grownBy V none → Calls Tryz.prog 55 #[.pointer (some ⟨tb, 0, none⟩), .string p] V fun e w1 => e = .returned (.tuple #[]) ∧ TreeIn w1 tb mb (mkX X L L.length) ∧ Kept V w1 (fun k => k = tb ∨ k = mb)) := Lib.hid fun V hg => by
      rw [← hup]; exact makeDirs_any tb mb X L V (ht.stays hg) hL L.length (Nat.le_refl _) (by omega) (by omega)
    rw [hp] at HC HPU hps
    rw [hlk, mapA_len] at HPU
    clear ht hm h3 h4 hI hc hL hp hup hlk
    cases hd : dirT (nds X) p with
    | true =>
      have HD := Lib.hid hd
      rw [hd, if_pos rfl] at HPU
      clear hd
      go_enter Tryz.func18, Tryz.ntmps18
      go_wp2_with (first | ((with_reducible refine (clean_at m s p 0 _ HM.out HC.out).mono ?_); rintro e w1 ⟨rfl, hg⟩; dsimp only; have HG := Lib.hid hg; clear hg) | ((with_reducible refine (isDir_at tb mb X p _ true (HT.out.stays HG.out) (by omega) HD.out).mono ?_); rintro e w2 ⟨rfl, rfl⟩; dsimp only))
      go_ret
      rw [HPU.out]
      exact puts_same HT.out H3.out H4.out HG.out
    | false =>
      have HD := Lib.hid hd
      rw [hd, if_neg (by simp)] at HPU
      clear hd
      cases hf : fileT (nds X) p with
      | true =>
        have HF := Lib.hid hf
        rw [if_pos (.inl hf)] at HPU
        clear hf
        go_enter Tryz.func18, Tryz.ntmps18
        go_wp2_with (first | ((with_reducible refine (clean_at m s p 0 _ HM.out HC.out).mono ?_); rintro e w1 ⟨rfl, hg⟩; dsimp only; have HG := Lib.hid hg; clear hg) | ((with_reducible refine (isDir_at tb mb X p _ false (HT.out.stays HG.out) (by omega) HD.out).mono ?_); rintro e w2 ⟨rfl, rfl⟩; dsimp only) | ((with_reducible refine (isFile_any tb mb X p _ (HT.out.stays HG.out) (by omega) true HF.out).mono ?_); rintro e w3 ⟨rfl, hg⟩; dsimp only; have HG3 := Lib.hid (World.grownBy.trans HG.out hg); clear hg))
        go_ret
        rw [HPU.out]
        exact puts_same HT.out H3.out H4.out HG3.out
      | false =>
        have HF := Lib.hid hf
        cases ha : aheadT (nds X) L with
        | true =>
          rw [if_pos (.inr ha)] at HPU
          rw [ha] at HFA
          clear hf ha
          go_enter Tryz.func18, Tryz.ntmps18
          go_wp2_with (first | ((with_reducible refine (clean_at m s p 0 _ HM.out HC.out).mono ?_); rintro e w1 ⟨rfl, hg⟩; dsimp only; have HG := Lib.hid hg; clear hg) | ((with_reducible refine (isDir_at tb mb X p _ false (HT.out.stays HG.out) (by omega) HD.out).mono ?_); rintro e w2 ⟨rfl, rfl⟩; dsimp only) | ((with_reducible refine (isFile_any tb mb X p _ (HT.out.stays HG.out) (by omega) false HF.out).mono ?_); rintro e w3 ⟨rfl, hg⟩; dsimp only; have HG3 := Lib.hid (World.grownBy.trans HG.out hg); clear hg) | ((with_reducible refine (HFA.out _ HG3.out).mono ?_); rintro e w4 ⟨rfl, hg⟩; dsimp only; have HG4 := Lib.hid (World.grownBy.trans HG3.out hg); clear hg))
          go_ret
          rw [HPU.out]
          exact puts_same HT.out H3.out H4.out HG4.out
        | false =>
          rw [if_neg (by rw [hf, ha]; simp)] at HPU
          rw [ha] at HFA
          clear hf ha
          have HROOM : Hid (∀ (r : Bool), decide (X.length + lk ≤ 500) = r → ∀ V, w.grownBy V none → Calls Tryz.prog 53 #[.pointer (some ⟨tb, 0, none⟩), .int .i64 (lk : Int), .int .i64 0] V fun e w' => e = .returned (.bool r) ∧ V = w') := Lib.hid fun r hr V hV =>
            (room_any tb mb X lk 0 V (HT.out.stays hV) (by omega) (by omega) (by omega) (by omega) r (by rw [hr, decide_eq_true (by omega), Bool.and_true])).mono fun e w' h => ⟨h.1, h.2.symm⟩
          go_enter Tryz.func18, Tryz.ntmps18
          go_wp2_with fail
          (with_reducible refine (clean_at m s p 0 _ HM.out HC.out).mono ?_)
          rintro e w1 ⟨rfl, hg⟩
          dsimp only
          have HG := Lib.hid hg
          clear hg
          go_wp2_with fail
          (with_reducible refine (isDir_at tb mb X p _ false (HT.out.stays HG.out) (by omega) HD.out).mono ?_)
          rintro e w2 ⟨rfl, rfl⟩
          dsimp only
          go_wp2_with fail
          (with_reducible refine (isFile_any tb mb X p _ (HT.out.stays HG.out) (by omega) false HF.out).mono ?_)
          rintro e w3 ⟨rfl, hg⟩
          dsimp only
          have HG3 := Lib.hid (World.grownBy.trans HG.out hg)
          clear hg
          go_wp2_with fail
          (with_reducible refine (HFA.out _ HG3.out).mono ?_)
          rintro e w4 ⟨rfl, hg⟩
          dsimp only
          have HG4 := Lib.hid (World.grownBy.trans HG3.out hg)
          clear hg
          go_wp2_with fail
          (with_reducible refine (HLA.out _ HG4.out).mono ?_)
          rintro e w5 ⟨rfl, hg⟩
          dsimp only
          have HG5 := Lib.hid (World.grownBy.trans HG4.out hg)
          clear hg
          by_cases hr : X.length + lk ≤ 500
          · rw [if_pos hr] at HPU
            have HRO := Lib.hid (HROOM.out true (by simp [hr]))
            go_wp2_with fail
            (with_reducible refine (HRO.out _ HG5.out).mono ?_)
            rintro e w6 ⟨rfl, rfl⟩
            dsimp only
            go_wp2_with fail
            (with_reducible refine (HMK.out _ HG5.out).mono ?_)
            rintro e w7 ⟨rfl, ht7, hk7⟩
            have hf : PutsRet tb (0, mkN (nds X) L L.length) w S (.returned (.int .i64 0)) w7 := by
              refine ⟨rfl, ⟨⟨mb, _, ht7, by rw [nds_mk], fun i hi => ⟨?_, ht7.own_lt hi⟩⟩, fun i hi => hi.2⟩, (Kept.ofNone HG5.out S).trans (hk7.mono fun i _ e => H3.out i (two_own e)) fun i e => .inl e⟩
              rcases hi with h | h | ⟨e, he, h⟩
              · exact .inl (H3.out i (.inl h))
              · exact .inl (H3.out i (.inr (.inl h)))
              · rcases mem_mk L _ X e he with he | he
                · exact .inl (H3.out i (.inr (.inr ⟨e, he, h⟩)))
                · rw [he] at h; cases h
            have HFN := Lib.hid hf
            clear ht7 hk7 hf
            dsimp only
            go_wp2
            go_ret
            rw [HPU.out]
            exact HFN.out
          · rw [if_neg hr] at HPU
            have HRO := Lib.hid (HROOM.out false (by simp [hr]))
            go_wp2_with fail
            (with_reducible refine (HRO.out _ HG5.out).mono ?_)
            rintro e w6 ⟨rfl, rfl⟩
            dsimp only
            go_wp2
            go_ret
            rw [HPU.out]
            exact puts_same HT.out H3.out H4.out HG5.out
  · have HC := Lib.hid hc
    have HPU : Hid (mkdirS (nds X) s = (q, nds X)) := Lib.hid (mkdirS_bad hc hq)
    have q4 : (q != 0) = true := by simp [hq]
    have q5 : (q == 0) = false := by simp [hq]
    clear ht hm h3 h4 hI hc
    go_enter Tryz.func18, Tryz.ntmps18
    go_wp2_with ((with_reducible refine (clean_at m s E0 q _ HM.out HC.out).mono ?_); rintro e w1 ⟨rfl, hg⟩; dsimp only; have HG := Lib.hid hg; clear hg)
    go_ret
    rw [HPU.out]
    exact puts_same HT.out H3.out H4.out HG.out
end Go.Proofs.YtichejodbohldaaGreatDoor
