/- The law TreeMoves returns true. -/
import Derived.Test.YtichejodbohldaaGreatDoorHiM
namespace Go.Proofs.YtichejodbohldaaGreatDoor
open Go.RowKit Go.Maps
set_option maxRecDepth 1000000
/-- What is written, act by act. -/
def wrS (M : Tr) (l : List Ac) : Tr := l.foldl (fun M x => (putS M x.p fun _ => x.b).2) M
theorem wrS_snoc (M : Tr) (l : List Ac) (x : Ac) : wrS M (l ++ [x]) = (putS (wrS M l) x.p fun _ => x.b).2 := by unfold wrS; rw [List.foldl_append]; rfl
theorem inv_wrS {M : Tr} (hI : Inv M) : ∀ l : List Ac, Inv (wrS M l) := by
  intro l
  induction l generalizing M with
  | nil => exact hI
  | cons x r ih => exact ih (inv_puts hI x.p fun _ => x.b)
/-- What the law's loop keeps. -/
def MovAt (B : Nat) (w : World) (t : Nat) (l : List Ac) : Prop := ∃ S, St B w t (wrS [] l) S
/-- The tree, and the files that it had. -/
structure Mv (w0 : World) (bot top : Nat) (V : World) (t : Nat) (M : Tr) (S : Nat → Prop) (v : Value) (Y : As Gn) : Prop where
  st : St w0.heap.size V t M S
  files : FR V bot top v Y
  off : ∀ k, S k → k < bot ∨ top ≤ k
  top' : top ≤ V.heap.size
  pos : 0 < V.heap.size
  since : Since w0.heap.size w0 V
theorem Mv.stays {w0 : World} {bot top : Nat} {V V' : World} {t : Nat} {M : Tr} {S : Nat → Prop} {v : Value} {Y : As Gn} (h : Mv w0 bot top V t M S v Y) (hg : V.grownBy V' none) : Mv w0 bot top V' t M S v Y :=
  ⟨h.st.stays hg, h.files.stays hg, h.off, Nat.le_trans h.top' hg.size, Nat.lt_of_lt_of_le h.pos hg.size, h.since.go (Since.of hg)⟩
theorem Mv.puts {w0 : World} {bot top : Nat} {V V' : World} {t : Nat} {M : Tr} {S : Nat → Prop} {v : Value} {Y : As Gn} {R : Int × Tr} {e : Ending} (h : Mv w0 bot top V t M S v Y) (hp : PutsRet t R V S e V') : Mv w0 bot top V' t R.2 (Grow V V' S) v Y := by
  have hs := h.st.puts h.since.size hp
  refine ⟨hs.1, h.files.keeps hp.2.2 h.off, fun k hk => ?_, Nat.le_trans h.top' hp.2.2.size, Nat.lt_of_lt_of_le h.pos hp.2.2.size, h.since.go hs.2⟩
  rcases hk.1 with h1 | h1
  · exact h.off k h1
  · exact .inr (Nat.le_trans h.top' h1)
set_option maxHeartbeats 16000000 in
theorem moves_law (m : Int) (n cap : Nat) (a : Option Addr) (l : List Ac) (p q : ByteArray) (w : World) (hm : w.cell? ⟨0, 0, none⟩ = some (.int .i64 m)) (hn : l.length = n) (hl : ActsAt w w.heap.size a l) (hps : p.size ≤ maxLen) (hqs : q.size ≤ maxLen) :
    Calls Tryz.prog 5 #[.slice a n cap, .string p, .string q] w fun e w' => e = .returned (.bool true) ∧ w.grownBy w' none := by
  have h0 : 0 < w.heap.size := World.block_lt_of_cell? _ _ hm
  have HM : Hid (∀ V, Since w.heap.size w V → V.cell? ⟨0, 0, none⟩ = some (.int .i64 m)) := Lib.hid fun V hV => hV.cell hm h0
  have HKN := Lib.hid (known_any m w hm)
  have H0 := Lib.hid h0
  have HN := Lib.hid hn
  have HA := Lib.hid hl
  have HLI : Hid (∀ V, Since w.heap.size w V → Calls Tryz.prog 12 #[.slice a n cap] V fun e w' => e = .returned (.bool (lightS l)) ∧ V.grownBy w' none) := Lib.hid fun V hV => light_any a n cap w.heap.size l V hn (hl.since hV)
  unfold maxLen at hps hqs
  clear hm h0 hn hl
  cases hli : lightS l with
  | false =>
    rw [hli] at HLI
    clear hli
    go_enter Tryz.func5, Tryz.ntmps5
    go_wp2_with fail
    (with_reducible refine HKN.out.mono ?_)
    rintro e w1 ⟨rfl, hg⟩
    have G1 := Lib.hid hg
    clear hg
    dsimp only
    go_wp2_with fail
    (with_reducible refine (HLI.out _ (Since.of G1.out)).mono ?_)
    rintro e w2 ⟨rfl, hg⟩
    have G2 := Lib.hid (World.grownBy.trans G1.out hg)
    clear hg
    dsimp only
    go_wp2
    go_ret
    exact ⟨rfl, G2.out⟩
  | true =>
    rw [hli] at HLI
    have HLA : Hid (lightA l = true ∧ n ≤ 40) := Lib.hid (by
      unfold lightS at hli
      simp only [Bool.and_eq_true, decide_eq_true_eq] at hli
      exact ⟨hli.2, by have := hli.1; have := HN.out; omega⟩)
    clear hli
    have hways : (100 < p.size ∨ (¬ 100 < p.size ∧ 100 < q.size)) ∨ (¬ 100 < p.size ∧ ¬ 100 < q.size) := by omega
    rcases hways with hbig | ⟨hp100, hq100⟩
    · have d1 : (decide (100 < (p.size : Int)) = true) ∨ (decide (100 < (p.size : Int)) = false ∧ decide (100 < (q.size : Int)) = true) := by
        rcases hbig with h | ⟨h, h'⟩
        · exact .inl (by simp; omega)
        · exact .inr ⟨by simp; omega, by simp; omega⟩
      rcases d1 with d1 | ⟨d1, d2⟩
      all_goals
        go_enter Tryz.func5, Tryz.ntmps5
        go_wp2_with fail
        (with_reducible refine HKN.out.mono ?_)
        rintro e w1 ⟨rfl, hg⟩
        have G1 := Lib.hid hg
        clear hg
        dsimp only
        go_wp2_with fail
        (with_reducible refine (HLI.out _ (Since.of G1.out)).mono ?_)
        rintro e w2 ⟨rfl, hg⟩
        have G2 := Lib.hid (World.grownBy.trans G1.out hg)
        clear hg
        dsimp only
        go_wp2
        go_ret
        exact ⟨rfl, G2.out⟩
    · have d1 : decide (100 < (p.size : Int)) = false := by simp; omega
      have d2 : decide (100 < (q.size : Int)) = false := by simp; omega
      have hn40 := HLA.out.2
      go_enter Tryz.func5, Tryz.ntmps5
      go_wp2_with fail
      (with_reducible refine HKN.out.mono ?_)
      rintro e w1 ⟨rfl, hg⟩
      have G1 := Lib.hid hg
      clear hg
      dsimp only
      go_wp2_with fail
      (with_reducible refine (HLI.out _ (Since.of G1.out)).mono ?_)
      rintro e w1 ⟨rfl, hg⟩
      have G1 := Lib.hid (World.grownBy.trans G1.out hg)
      clear hg
      dsimp only
      go_wp2_with fail
      (with_reducible refine (new_any _).mono ?_)
      rintro e w2 ⟨t, rfl, _, ht2, hg2⟩
      have HS2 : Hid (Since w.heap.size w w2 ∧ MovAt w.heap.size w2 t []) := Lib.hid ⟨Since.of (World.grownBy.trans G1.out hg2), _, ht2, fun k hk => Nat.le_trans G1.out.size ((St.new ht2).from' k hk)⟩
      clear ht2 hg2 G1
      dsimp only
      go_wp2_with fail
      go_loopw [8] (fun i wr => ∃ k : Nat, k ≤ n ∧ i = .int .i64 (k : Int) ∧ Hid (Since w.heap.size w wr ∧ MovAt w.heap.size wr t (l.take k))) (fun i _ => n - (intOf i).toNat)
      case atStart => exact ⟨0, Nat.zero_le _, rfl, HS2⟩
      case round =>
        obtain ⟨k, hk, rfl, HS⟩ := hrel
        obtain ⟨S, hd⟩ := HS.out.2
        by_cases hlt : k < n
        · obtain ⟨x, hx⟩ : ∃ x, l[k]? = some x := ⟨l[k]'(by rw [HN.out]; exact hlt), List.getElem?_eq_getElem _⟩
          obtain ⟨b, o, hbw, ha, hall⟩ := HA.out
          obtain ⟨hc, _, _, _, ⟨av, cv, hv⟩, _, hpt⟩ := hall k x hx
          obtain rfl := ha (by rw [HN.out]; omega)
          obtain ⟨mm, hmm⟩ : ∃ mm, x.b.length = mm := ⟨_, rfl⟩
          have hlx := lightA_mem HLA.out.1 (List.mem_of_getElem? hx)
          rw [hmm] at hv hlx
          obtain ⟨P, hP⟩ : ∃ P, x.p = P := ⟨_, rfl⟩
          have c1 := hc 1 _ rfl
          have c3 := hc 3 _ rfl
          rw [hv] at c3 hpt
          rw [hP] at c1
          have HC : Hid (∀ V, Since w.heap.size w V → V.cell? ⟨b, o + k * 4 + 1, none⟩ = some (.string P) ∧ V.cell? ⟨b, o + k * 4 + 3, none⟩ = some (.slice av mm cv)) := Lib.hid fun V hV => ⟨hV.cell c1 hbw, hV.cell c3 hbw⟩
          have HP3 : Hid (∀ V, Since w.heap.size w V → Part V w.heap.size (.slice av mm cv) x.b) := Lib.hid fun V hV => hpt.keeps hV fun k e => e
          have HTX : Hid (wrS [] (l.take (k + 1)) = (putS (wrS [] (l.take k)) P fun _ => x.b).2) := Lib.hid (by rw [take_snocL _ _ _ hx, wrS_snoc, hP])
          have HMM := Lib.hid hmm
          have HD := Lib.hid hd
          have HK := Lib.hid HS.out.1
          have HI := Lib.hid (inv_wrS inv_nil (l.take k))
          have HDR : Hid (wr.grownBy wr.drew none) := Lib.hid ⟨rfl, rfl, rfl, Nat.le_refl _, fun _ _ _ => rfl⟩
          have HKD : Hid (Since w.heap.size w wr.drew) := Lib.hid (HK.out.go (Since.of HDR.out))
          obtain ⟨R, hR⟩ : ∃ R, (putS (wrS [] (l.take k)) P fun _ => x.b) = R := ⟨_, rfl⟩
          rw [hR] at HTX
          have HW : Hid (Calls Tryz.prog 14 #[.pointer (some ⟨t, 0, none⟩), .string P, .slice av mm cv] wr.drew (PutsRet t R wr.drew S)) := Lib.hid (by
            rw [← hR]
            exact write_any t _ S P m av mm cv x.b _ (HD.out.stays HDR.out).tree HI.out (HM.out _ HKD.out) ((HP3.out _ HKD.out).lie HD.out.from') HMM.out (by omega))
          clear hd hx hc hv hpt hmm hP c1 c3 ha hall hR
          go_wp2_with fail
          go_region_held3 (fun V => V.cell? ⟨b, o + k * 4 + 1, none⟩ = some (.string P) ∧ V.cell? ⟨b, o + k * 4 + 3, none⟩ = some (.slice av mm cv)) (first | (with_reducible exact HC.out _ HKD.out) | (with_reducible exact HC.out _ HK5.out)) (first | ((with_reducible refine HW.out.mono ?_); intro e w5 hp; have HS5 := Lib.hid ((HD.out.stays HDR.out).puts HKD.out.size hp); have HK5 := Lib.hid (HKD.out.go HS5.out.2); obtain rfl := hp.1; clear hp))
          go_wp2_with fail
          refine ⟨⟨k + 1, by omega, congrArg (Value.int IntKind.i64) (by omega), Lib.hid ⟨HK5.out, _, by rw [HTX.out]; exact HS5.out.1⟩⟩, ?_⟩
          simp only [intOf]
          omega
        · have e : k = n := by omega
          subst e
          have e1 : l.take k = l := List.take_of_length_le (by rw [HN.out]; exact Nat.le_refl _)
          rw [e1] at hd
          have hI0 := inv_wrS inv_nil l
          obtain ⟨M, hMM⟩ : ∃ M, wrS [] l = M := ⟨_, rfl⟩
          rw [hMM] at hd hI0
          have HD := Lib.hid hd
          have HK := Lib.hid HS.out.1
          have HI := Lib.hid hI0
          clear hd hI0 hMM e1 HS HS2
          go_wp2_with fail
          (with_reducible refine (filesAt_any t M S _ HD.out.tree HI.out).mono ?_)
          intro e w5 hf
          obtain ⟨v5, Y, rfl, hr5, hy5, hg5, hl5⟩ := FR.of hf
          obtain ⟨ny, hny⟩ : ∃ ny, Y.length = ny := ⟨_, rfl⟩
          obtain ⟨ay, cy, rfl⟩ := hr5.open hny
          obtain ⟨top, htop⟩ : ∃ top, w5.heap.size = top := ⟨_, rfl⟩
          obtain ⟨bot, hbot⟩ : ∃ bot, wr.heap.size = bot := ⟨_, rfl⟩
          rw [htop, hbot] at hr5
          have HR5 := Lib.hid hr5
          have HSB : Hid (∀ k, S k → k < bot) := Lib.hid fun k hk => by rw [← hbot]; exact HD.out.tree.lt k hk
          have HTP : Hid (bot ≤ top ∧ top ≤ w5.heap.size ∧ 0 < w5.heap.size) := Lib.hid ⟨by rw [← hbot, ← htop]; exact hg5.size, Nat.le_of_eq htop.symm, by have h1 := HK.out.size; have h2 := hg5.size; have h3 := H0.out; omega⟩
          have HY := Lib.hid (And.intro hy5 hny)
          have HD5 := Lib.hid (HD.out.stays hg5)
          have HK5 := Lib.hid (HK.out.go (Since.of hg5))
          clear hf hr5 hy5 hg5 hl5 hny HD HK htop hbot
          dsimp only
          go_wp2_with fail
          rcases clean_ways q with ⟨L, hcq, hL⟩ | ⟨q1, hcq, hq1, _, _⟩
          · have HCQ := Lib.hid hcq
            have HRC : Hid (∀ V : World, 0 < V.heap.size → Calls Tryz.prog 38 #[.string q] V fun e w' => e = .returned (.tuple #[.string (Pth.joinB L), .int .i64 0]) ∧ V.grownBy w' none) := Lib.hid fun V hV => by
              have := Pth.refClean_any q V hV
              rw [hcq] at this
              exact this
            have HLL := Lib.hid hL
            have hps := hL.size
            have hpt : Pth.partsS (Pth.joinB L) = L := Pth.parts_join L hL.part
            obtain ⟨d, hd⟩ : ∃ d, Pth.joinB L = d := ⟨_, rfl⟩
            rw [hd] at HCQ HRC hps hpt
            have HPT := Lib.hid hpt
            clear hcq hL hpt hd
            (with_reducible refine (HRC.out _ HTP.out.2.2).mono ?_)
            rintro e w6 ⟨rfl, hg⟩
            have HD6 := Lib.hid (HD5.out.stays hg)
            have HK6 := Lib.hid (HK5.out.go (Since.of hg))
            have HR6 := Lib.hid (HR5.out.stays hg)
            have HT6 : Hid (top ≤ w6.heap.size ∧ 0 < w6.heap.size) := Lib.hid ⟨Nat.le_trans HTP.out.2.1 hg.size, Nat.lt_of_lt_of_le HTP.out.2.2 hg.size⟩
            clear hg HD5 HK5 HR5
            dsimp only
            rcases empty_ways d with rfl | ⟨e1, e2, e3, e4⟩
            · go_wp2
              go_ret
              exact ⟨rfl, HK6.out.grown⟩
            · obtain ⟨r, hr⟩ : ∃ r, L.length = r := ⟨_, rfl⟩
              have hr1 : 1 ≤ r ∧ r ≤ 12 := ⟨by
                rw [← hr]
                cases L with
                | nil => exact absurd (by rw [← HPT.out] at HLL; exact (by have := HCQ.out; have h2 := clean_ways q; exact (by
                    rcases Pth.cleanS_zero q d HCQ.out with ⟨L2, h1, h3, _, _⟩
                    have h4 : Pth.partsS d = L2 := by rw [h1]; exact Pth.parts_join L2 h3
                    rw [HPT.out] at h4
                    subst h4
                    exact h1))) e1
                | cons x rest => simp, by rw [← hr]; exact HLL.out.len⟩
              obtain ⟨x0, hx0⟩ : ∃ x0, L[0]? = some x0 := ⟨L[0]'(by omega), List.getElem?_eq_getElem _⟩
              have hup : upL L 1 = x0 := by
                cases L with
                | nil => cases hx0
                | cons x rest =>
                  have : x = x0 := by simpa using hx0
                  subst this
                  show Pth.joinB [x] = x
                  exact Pth.joinB_one x
              have HUP := Lib.hid hup
              have HX0 := Lib.hid hx0
              have HR := Lib.hid hr
              have HPA : Hid (∀ V : World, 0 < V.heap.size → Calls Tryz.prog 39 #[.string d] V fun e w' => ∃ a cap, e = .returned (.slice a r cap) ∧ r ≤ cap ∧ cap ≤ 9223372036854775807 ∧ Pth.PartS w' w'.heap.size (.slice a r cap) L ∧ V.grownBy w' none) := Lib.hid fun V hV => Pth.refparts_at d L r (by omega) V hV HPT.out hr
              clear hup hx0 hr
              go_wp2_with fail
              (with_reducible refine (HPA.out _ HT6.out.2).mono ?_)
              rintro e w7 ⟨a7, c7, rfl, hc7, hc7', hp7, hg⟩
              obtain ⟨a8, cap8, b8, o8, h81, h82, h83, h84, h85, h86⟩ := hp7
              obtain ⟨rfl, _, rfl⟩ := Value.slice.inj h81
              obtain rfl := h85 (by have := HR.out; omega)
              have hx7 := h86 0 _ HX0.out
              rw [Nat.add_zero] at hx7
              have HD7 := Lib.hid (HD6.out.stays hg)
              have HK7 := Lib.hid (HK6.out.go (Since.of hg))
              have HR7 := Lib.hid (HR6.out.stays hg)
              have HT7 : Hid (top ≤ w7.heap.size ∧ 0 < w7.heap.size) := Lib.hid ⟨Nat.le_trans HT6.out.1 hg.size, Nat.lt_of_lt_of_le HT6.out.2 hg.size⟩
              clear hg h81 h82 h83 h84 h85 h86 HD6 HK6 HR6 HT6
              dsimp only
              go_wp2_with fail
              (with_reducible refine (exists_any t M _ x0 m _ HD7.out.tree (HM.out _ HK7.out)).mono ?_)
              rintro e w8 ⟨rfl, hg⟩
              have MV8 : Hid (Mv w bot top w8 t M S (.slice ay ny cy) Y) := Lib.hid ((⟨HD7.out, HR7.out, fun k hk => .inl (HSB.out k hk), HT7.out.1, HT7.out.2, HK7.out⟩ : Mv w bot top w7 t M S (.slice ay ny cy) Y).stays hg)
              clear hg HD7 HR7 HT7 HK7 hx7
              dsimp only
              cases hxe : existsS M x0 with
              | true =>
                go_wp2
                go_ret
                exact ⟨rfl, MV8.out.since.grown⟩
              | false =>
                have hmp := moves_pure HI.out p q d L HCQ.out HPT.out e1 (by rw [HUP.out]; exact hxe)
                clear hxe
                go_wp2_with fail
                (with_reducible refine (rename_any t M _ p q m _ MV8.out.st.tree HI.out (HM.out _ MV8.out.since)).mono ?_)
                intro e w9 hp
                rcases hmp with ⟨hno, hsame⟩ | ⟨R, N, hre, hIR, hb1, hb2, hb3, hIN, hb4, hb5⟩
                · have hmv := MV8.out.puts hp
                  rw [hsame] at hmv
                  have MV9 := Lib.hid hmv
                  obtain rfl := hp.1
                  obtain ⟨z, hz⟩ : ∃ z, (renameS M p q).1 = z := ⟨_, rfl⟩
                  rw [hz] at hno ⊢
                  have z1 : (z != 0) = true := by simp [hno]
                  have z2 : (z == 0) = false := by simp [hno]
                  clear hp hz hmv hsame MV8
                  dsimp only
                  go_wp2_with fail
                  (with_reducible refine (filesAt_any t M _ _ MV9.out.st.tree HI.out).mono ?_)
                  intro e w12 hf
                  obtain ⟨v12, Z, rfl, hr12, hz12, hg12, hl12⟩ := FR.of hf
                  obtain ⟨nz, hnz⟩ : ∃ nz, Z.length = nz := ⟨_, rfl⟩
                  obtain ⟨az, cz, rfl⟩ := hr12.open hnz
                  have MV12 := Lib.hid (MV9.out.stays hg12)
                  have HSF := Lib.hid (sameFiles_any _ _ Z Y w12 (hr12.rf hnz MV12.out.pos) (MV12.out.files.rf HY.out.2 MV12.out.pos) (hz12.trans HY.out.1.symm) (by have := HI.out.len; omega))
                  clear hf hr12 hz12 hg12 hl12 hnz MV9
                  dsimp only
                  go_wp2_with fail
                  (with_reducible refine HSF.out.mono ?_)
                  rintro e w13 ⟨rfl, hg⟩
                  have MV13 := Lib.hid (MV12.out.stays hg)
                  clear hg MV12 HSF
                  dsimp only
                  go_wp2_with fail
                  (with_reducible refine (copy_any t M _ p q m _ MV13.out.st.tree HI.out (HM.out _ MV13.out.since)).mono ?_)
                  intro e w14 hp
                  rcases copies_pure HI.out p q with hno | ⟨R3, N3, hc3, hi3, hx1, hx2, hx3, hx4⟩
                  · have MV14 := Lib.hid (MV13.out.puts hp)
                    obtain rfl := hp.1
                    obtain ⟨z, hz⟩ : ∃ z, (copyS M p q).1 = z := ⟨_, rfl⟩
                    rw [hz] at hno ⊢
                    have z1 : (z != 0) = true := by simp [hno]
                    have z2 : (z == 0) = false := by simp [hno]
                    clear hp hz
                    dsimp only
                    go_wp2
                    go_ret
                    exact ⟨rfl, MV14.out.since.grown⟩
                  · rw [hc3] at hp
                    have MV14 := Lib.hid (MV13.out.puts hp)
                    obtain rfl := hp.1
                    have HI3 := Lib.hid hi3
                    have HX := Lib.hid (And.intro hx1 (And.intro hx2 (And.intro hx3 hx4)))
                    clear hp hc3 hi3 hx1 hx2 hx3 hx4 MV13
                    dsimp only
                    go_wp2_with fail
                    (with_reducible refine (exists_any t R3 _ p m _ MV14.out.st.tree (HM.out _ MV14.out.since)).mono ?_)
                    rw [HX.out.1]
                    rintro e w15 ⟨rfl, hg⟩
                    have MV15 := Lib.hid (MV14.out.stays hg)
                    clear hg
                    dsimp only
                    go_wp2_with fail
                    (with_reducible refine (exists_any t R3 _ q m _ MV15.out.st.tree (HM.out _ MV15.out.since)).mono ?_)
                    rw [HX.out.2.1]
                    rintro e w16 ⟨rfl, hg⟩
                    have MV16 := Lib.hid (MV15.out.stays hg)
                    clear hg
                    dsimp only
                    go_wp2_with fail
                    (with_reducible refine (remove_any t R3 _ q m _ MV16.out.st.tree HI3.out (HM.out _ MV16.out.since)).mono ?_)
                    intro e w17 hp
                    rw [HX.out.2.2.1] at hp
                    have MV17 := Lib.hid (MV16.out.puts hp)
                    obtain rfl := hp.1
                    clear hp
                    dsimp only
                    go_wp2_with fail
                    (with_reducible refine (exists_any t N3 _ p m _ MV17.out.st.tree (HM.out _ MV17.out.since)).mono ?_)
                    rw [HX.out.2.2.2]
                    rintro e w18 ⟨rfl, hg⟩
                    have MV18 := Lib.hid (MV17.out.stays hg)
                    clear hg
                    dsimp only
                    go_wp2
                    go_ret
                    exact ⟨rfl, MV18.out.since.grown⟩
                · rw [hre] at hp
                  have MV9 := Lib.hid (MV8.out.puts hp)
                  obtain rfl := hp.1
                  have HIR := Lib.hid (And.intro hIR hIN)
                  have HBB := Lib.hid (And.intro hb1 (And.intro hb2 (And.intro hb3 (And.intro hb4 hb5))))
                  clear hp hre hIR hb1 hb2 hb3 hIN hb4 hb5 MV8
                  dsimp only
                  go_wp2_with fail
                  (with_reducible refine (exists_any t R _ p m _ MV9.out.st.tree (HM.out _ MV9.out.since)).mono ?_)
                  rw [HBB.out.1]
                  rintro e w10 ⟨rfl, hg⟩
                  have MV10 := Lib.hid (MV9.out.stays hg)
                  clear hg
                  dsimp only
                  go_wp2_with fail
                  (with_reducible refine (exists_any t R _ q m _ MV10.out.st.tree (HM.out _ MV10.out.since)).mono ?_)
                  rw [HBB.out.2.1]
                  rintro e w20 ⟨rfl, hg⟩
                  have MV20 := Lib.hid (MV10.out.stays hg)
                  clear hg
                  dsimp only
                  go_wp2_with fail
                  (with_reducible refine (rename_any t R _ q p m _ MV20.out.st.tree HIR.out.1 (HM.out _ MV20.out.since)).mono ?_)
                  rw [HBB.out.2.2.1]
                  intro e w21 hp
                  have MV21 := Lib.hid (MV20.out.puts hp)
                  obtain rfl := hp.1
                  clear hp MV9 MV10 MV20
                  dsimp only
                  go_wp2_with fail
                  (with_reducible refine (HRC.out _ MV21.out.pos).mono ?_)
                  rintro e w22 ⟨rfl, hg⟩
                  have MV22 := Lib.hid (MV21.out.stays hg)
                  clear hg MV21
                  dsimp only
                  have hsum : Pth.sumS L ≤ 100000 := by
                    have h1 := Pth.joinB_size L (by intro e; rw [e] at HR; have := HR.out; simp at this; omega)
                    have h2 := HLL.out.size
                    omega
                  have HPR : Hid (∀ V : World, 0 < V.heap.size → Calls Tryz.prog 40 #[.string d] V fun e w' => e = .returned (.string (Pth.joinB L.dropLast)) ∧ V.grownBy w' none) := Lib.hid fun V hV => Pth.refParent_clean L d HPT.out (by omega) HLL.out.len hsum V hV
                  clear hsum
                  by_cases hone : L.length = 1
                  · have HE0 : Hid (Pth.joinB L.dropLast = E0 ∧ N = M) := Lib.hid ⟨by
                      have : L.dropLast = [] := List.eq_nil_of_length_eq_zero (by rw [List.length_dropLast]; omega)
                      rw [this]; rfl, HBB.out.2.2.2.1 hone⟩
                    have hmv := MV22.out
                    rw [HE0.out.2] at hmv
                    have MV23 := Lib.hid hmv
                    clear hmv MV22
                    go_wp2_with fail
                    (with_reducible refine (HPR.out _ MV23.out.pos).mono ?_)
                    rw [HE0.out.1]
                    rintro e w24 ⟨rfl, hg⟩
                    have MV24 := Lib.hid (MV23.out.stays hg)
                    clear hg MV23
                    dsimp only
                    go_wp2_with fail
                    (with_reducible refine (filesAt_any t M _ _ MV24.out.st.tree HI.out).mono ?_)
                    intro e w12 hf
                    obtain ⟨v12, Z, rfl, hr12, hz12, hg12, hl12⟩ := FR.of hf
                    obtain ⟨nz, hnz⟩ : ∃ nz, Z.length = nz := ⟨_, rfl⟩
                    obtain ⟨az, cz, rfl⟩ := hr12.open hnz
                    have MV12 := Lib.hid (MV24.out.stays hg12)
                    have HSF := Lib.hid (sameFiles_any _ _ Z Y w12 (hr12.rf hnz MV12.out.pos) (MV12.out.files.rf HY.out.2 MV12.out.pos) (hz12.trans HY.out.1.symm) (by have := HI.out.len; omega))
                    clear hf hr12 hz12 hg12 hl12 hnz MV24
                    dsimp only
                    go_wp2_with fail
                    (with_reducible refine HSF.out.mono ?_)
                    rintro e w13 ⟨rfl, hg⟩
                    have MV13 := Lib.hid (MV12.out.stays hg)
                    clear hg MV12 HSF
                    dsimp only
                    go_wp2_with fail
                    (with_reducible refine (copy_any t M _ p q m _ MV13.out.st.tree HI.out (HM.out _ MV13.out.since)).mono ?_)
                    intro e w14 hp
                    rcases copies_pure HI.out p q with hno | ⟨R3, N3, hc3, hi3, hx1, hx2, hx3, hx4⟩
                    · have MV14 := Lib.hid (MV13.out.puts hp)
                      obtain rfl := hp.1
                      obtain ⟨z, hz⟩ : ∃ z, (copyS M p q).1 = z := ⟨_, rfl⟩
                      rw [hz] at hno ⊢
                      have z1 : (z != 0) = true := by simp [hno]
                      have z2 : (z == 0) = false := by simp [hno]
                      clear hp hz
                      dsimp only
                      go_wp2
                      go_ret
                      exact ⟨rfl, MV14.out.since.grown⟩
                    · rw [hc3] at hp
                      have MV14 := Lib.hid (MV13.out.puts hp)
                      obtain rfl := hp.1
                      have HI3 := Lib.hid hi3
                      have HX := Lib.hid (And.intro hx1 (And.intro hx2 (And.intro hx3 hx4)))
                      clear hp hc3 hi3 hx1 hx2 hx3 hx4 MV13
                      dsimp only
                      go_wp2_with fail
                      (with_reducible refine (exists_any t R3 _ p m _ MV14.out.st.tree (HM.out _ MV14.out.since)).mono ?_)
                      rw [HX.out.1]
                      rintro e w15 ⟨rfl, hg⟩
                      have MV15 := Lib.hid (MV14.out.stays hg)
                      clear hg
                      dsimp only
                      go_wp2_with fail
                      (with_reducible refine (exists_any t R3 _ q m _ MV15.out.st.tree (HM.out _ MV15.out.since)).mono ?_)
                      rw [HX.out.2.1]
                      rintro e w16 ⟨rfl, hg⟩
                      have MV16 := Lib.hid (MV15.out.stays hg)
                      clear hg
                      dsimp only
                      go_wp2_with fail
                      (with_reducible refine (remove_any t R3 _ q m _ MV16.out.st.tree HI3.out (HM.out _ MV16.out.since)).mono ?_)
                      intro e w17 hp
                      rw [HX.out.2.2.1] at hp
                      have MV17 := Lib.hid (MV16.out.puts hp)
                      obtain rfl := hp.1
                      clear hp
                      dsimp only
                      go_wp2_with fail
                      (with_reducible refine (exists_any t N3 _ p m _ MV17.out.st.tree (HM.out _ MV17.out.since)).mono ?_)
                      rw [HX.out.2.2.2]
                      rintro e w18 ⟨rfl, hg⟩
                      have MV18 := Lib.hid (MV17.out.stays hg)
                      clear hg
                      dsimp only
                      go_wp2
                      go_ret
                      exact ⟨rfl, MV18.out.since.grown⟩
                  · have hdl : L.dropLast ≠ [] := by
                      intro e
                      have := congrArg List.length e
                      rw [List.length_dropLast] at this
                      simp at this
                      have := HR.out
                      omega
                    obtain ⟨g, hg0⟩ : ∃ g, Pth.joinB L.dropLast = g := ⟨_, rfl⟩
                    have hgs : ¬ g = E0 := by
                      intro e
                      have h1 := Pth.joinB_size L.dropLast hdl
                      rw [hg0, e] at h1
                      have h2 : (⟨#[]⟩ : ByteArray).size = 0 := rfl
                      have hP1 : Parts (L.take (L.length - 1)) := Parts.takes HLL.out (L.length - 1) (by omega)
                      have h3 := HLL.out.ne (L.length - 2) (by omega)
                      have h4 : upL L (L.length - 2 + 1) = Pth.joinB L.dropLast := by
                        unfold upL
                        rw [show L.length - 2 + 1 = L.length - 1 by omega, List.dropLast_eq_take]
                      rw [h4, hg0] at h3
                      exact h3 e
                    rw [hg0] at HPR
                    obtain ⟨f1, f2, f3⟩ : ¬ g.toList = [] ∧ g.toList.isEmpty = false ∧ (g.toList == []) = false := ⟨ne_list g [] hgs, empty_no g hgs, nb_list g [] hgs⟩
                    have HRM : Hid (remS N x0 = (0, M)) := Lib.hid (by rw [← HUP.out]; exact HBB.out.2.2.2.2 hone)
                    clear hg0 hdl
                    go_wp2_with fail
                    (with_reducible refine (HPR.out _ MV22.out.pos).mono ?_)
                    rintro e w24 ⟨rfl, hg⟩
                    have MV24 := Lib.hid (MV22.out.stays hg)
                    clear hg MV22
                    dsimp only
                    go_wp2_with fail
                    (with_reducible refine (HPA.out _ MV24.out.pos).mono ?_)
                    rintro e w25 ⟨a7, c7, rfl, hc7, hc7', hp7, hg⟩
                    obtain ⟨a8, cap8, b8, o8, h81, h82, h83, h84, h85, h86⟩ := hp7
                    obtain ⟨rfl, _, rfl⟩ := Value.slice.inj h81
                    obtain rfl := h85 (by have := HR.out; omega)
                    have hx7 := h86 0 _ HX0.out
                    rw [Nat.add_zero] at hx7
                    have MV25 := Lib.hid (MV24.out.stays hg)
                    clear hg h81 h82 h83 h84 h85 h86 MV24
                    dsimp only
                    go_wp2_with fail
                    (with_reducible refine (remove_any t N _ x0 m _ MV25.out.st.tree HIR.out.2 (HM.out _ MV25.out.since)).mono ?_)
                    intro e w26 hp
                    rw [HRM.out] at hp
                    have MV26 := Lib.hid (MV25.out.puts hp)
                    obtain rfl := hp.1
                    clear hp MV25 hx7
                    dsimp only
                    go_wp2_with fail
                    (with_reducible refine (filesAt_any t M _ _ MV26.out.st.tree HI.out).mono ?_)
                    intro e w12 hf
                    obtain ⟨v12, Z, rfl, hr12, hz12, hg12, hl12⟩ := FR.of hf
                    obtain ⟨nz, hnz⟩ : ∃ nz, Z.length = nz := ⟨_, rfl⟩
                    obtain ⟨az, cz, rfl⟩ := hr12.open hnz
                    have MV12 := Lib.hid (MV26.out.stays hg12)
                    have HSF := Lib.hid (sameFiles_any _ _ Z Y w12 (hr12.rf hnz MV12.out.pos) (MV12.out.files.rf HY.out.2 MV12.out.pos) (hz12.trans HY.out.1.symm) (by have := HI.out.len; omega))
                    clear hf hr12 hz12 hg12 hl12 hnz MV26
                    dsimp only
                    go_wp2_with fail
                    (with_reducible refine HSF.out.mono ?_)
                    rintro e w13 ⟨rfl, hg⟩
                    have MV13 := Lib.hid (MV12.out.stays hg)
                    clear hg MV12 HSF
                    dsimp only
                    go_wp2_with fail
                    (with_reducible refine (copy_any t M _ p q m _ MV13.out.st.tree HI.out (HM.out _ MV13.out.since)).mono ?_)
                    intro e w14 hp
                    rcases copies_pure HI.out p q with hno | ⟨R3, N3, hc3, hi3, hx1, hx2, hx3, hx4⟩
                    · have MV14 := Lib.hid (MV13.out.puts hp)
                      obtain rfl := hp.1
                      obtain ⟨z, hz⟩ : ∃ z, (copyS M p q).1 = z := ⟨_, rfl⟩
                      rw [hz] at hno ⊢
                      have z1 : (z != 0) = true := by simp [hno]
                      have z2 : (z == 0) = false := by simp [hno]
                      clear hp hz
                      dsimp only
                      go_wp2
                      go_ret
                      exact ⟨rfl, MV14.out.since.grown⟩
                    · rw [hc3] at hp
                      have MV14 := Lib.hid (MV13.out.puts hp)
                      obtain rfl := hp.1
                      have HI3 := Lib.hid hi3
                      have HX := Lib.hid (And.intro hx1 (And.intro hx2 (And.intro hx3 hx4)))
                      clear hp hc3 hi3 hx1 hx2 hx3 hx4 MV13
                      dsimp only
                      go_wp2_with fail
                      (with_reducible refine (exists_any t R3 _ p m _ MV14.out.st.tree (HM.out _ MV14.out.since)).mono ?_)
                      rw [HX.out.1]
                      rintro e w15 ⟨rfl, hg⟩
                      have MV15 := Lib.hid (MV14.out.stays hg)
                      clear hg
                      dsimp only
                      go_wp2_with fail
                      (with_reducible refine (exists_any t R3 _ q m _ MV15.out.st.tree (HM.out _ MV15.out.since)).mono ?_)
                      rw [HX.out.2.1]
                      rintro e w16 ⟨rfl, hg⟩
                      have MV16 := Lib.hid (MV15.out.stays hg)
                      clear hg
                      dsimp only
                      go_wp2_with fail
                      (with_reducible refine (remove_any t R3 _ q m _ MV16.out.st.tree HI3.out (HM.out _ MV16.out.since)).mono ?_)
                      intro e w17 hp
                      rw [HX.out.2.2.1] at hp
                      have MV17 := Lib.hid (MV16.out.puts hp)
                      obtain rfl := hp.1
                      clear hp
                      dsimp only
                      go_wp2_with fail
                      (with_reducible refine (exists_any t N3 _ p m _ MV17.out.st.tree (HM.out _ MV17.out.since)).mono ?_)
                      rw [HX.out.2.2.2]
                      rintro e w18 ⟨rfl, hg⟩
                      have MV18 := Lib.hid (MV17.out.stays hg)
                      clear hg
                      dsimp only
                      go_wp2
                      go_ret
                      exact ⟨rfl, MV18.out.since.grown⟩
          · have HRC : Hid (∀ V : World, 0 < V.heap.size → Calls Tryz.prog 38 #[.string q] V fun e w' => e = .returned (.tuple #[.string E0, .int .i64 q1]) ∧ V.grownBy w' none) := Lib.hid fun V hV => by
              have := Pth.refClean_any q V hV
              rw [hcq] at this
              exact this
            have q4 : (q1 != 0) = true := by simp [hq1]
            have q5 : (q1 == 0) = false := by simp [hq1]
            clear hcq
            (with_reducible refine (HRC.out _ HTP.out.2.2).mono ?_)
            rintro e w6 ⟨rfl, hg⟩
            have HK6 := Lib.hid (HK5.out.go (Since.of hg))
            clear hg
            dsimp only
            go_wp2
            go_ret
            exact ⟨rfl, HK6.out.grown⟩
end Go.Proofs.YtichejodbohldaaGreatDoor
