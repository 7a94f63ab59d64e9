/- The law TreeAppends returns true: the walk. -/
import Derived.Test.YtichejodbohldaaGreatDoorIjM
namespace Go.Proofs.YtichejodbohldaaGreatDoor
open Go.RowKit Go.Maps
set_option maxRecDepth 1000000
/-- What the law's loop keeps. -/
def AppAt (B : Nat) (w : World) (ta tb : Nat) (l : List (List UInt8)) (k : Nat) (v : Value) : Prop :=
  ∃ Sa Sb, Duo B w ta (xM l k) tb (xM l k) v (l.take k).flatten Sa Sb
set_option maxHeartbeats 8000000 in
theorem appends_law (m : Int) (n cap : Nat) (a : Option Addr) (l : List (List UInt8)) (w : World) (hm : w.cell? ⟨0, 0, none⟩ = some (.int .i64 m)) (hn : l.length = n) (hcap : n ≤ cap) (hcm : cap ≤ maxLen) (hl : PartsB w w.heap.size a l) :
    Calls Tryz.prog 8 #[.slice a n cap] w fun e w' => e = .returned (.bool true) ∧ w.grownBy w' none := by
  have hmx : maxLen = 9223372036854775807 := by unfold maxLen; omega
  rw [hmx] at hcm
  clear hmx
  have h0 : 0 < w.heap.size := World.block_lt_of_cell? _ _ hm
  have HM : Hid (∀ V, Since w.heap.size w V → V.cell? ⟨0, 0, none⟩ = some (.int .i64 m)) := Lib.hid fun V hV => hV.cell hm h0
  have HKN := Lib.hid (known_any m w hm)
  have H0 := Lib.hid h0
  have HN := Lib.hid hn
  have HL := Lib.hid hl
  clear hm h0 hn hl
  by_cases h20 : 20 < n
  · have d1 : decide (20 < (n : Int)) = true := by simp; omega
    go_enter Tryz.func8, Tryz.ntmps8
    go_wp2_with fail
    (with_reducible refine HKN.out.mono ?_)
    rintro e w1 ⟨rfl, hg⟩
    have G1 := Lib.hid hg
    clear hg
    dsimp only
    go_wp2
    go_ret
    exact ⟨rfl, G1.out⟩
  · have d1 : decide (20 < (n : Int)) = false := by simp; omega
    go_enter Tryz.func8, Tryz.ntmps8
    go_wp2_with fail
    (with_reducible refine HKN.out.mono ?_)
    rintro e w1 ⟨rfl, hg⟩
    have G1 := Lib.hid hg
    clear hg
    dsimp only
    go_wp2_with fail
    (with_reducible refine (new_any _).mono ?_)
    rintro e w2 ⟨ta, rfl, _, ht2, hg2⟩
    have HT2 := Lib.hid ht2
    have HG2 := Lib.hid hg2
    clear ht2 hg2
    dsimp only
    go_wp2_with fail
    (with_reducible refine (new_any _).mono ?_)
    rintro e w3 ⟨tb, rfl, _, ht3, hg3⟩
    have HS3 : Hid (Since w.heap.size w w3 ∧ AppAt w.heap.size w3 ta tb l 0 (.slice none 0 0)) := Lib.hid ⟨Since.of (World.grownBy.trans G1.out (World.grownBy.trans HG2.out hg3)), _, _, Duo.new G1.out.size HT2.out ht3 HG2.out hg3⟩
    clear ht3 hg3 HT2 HG2 G1
    dsimp only
    go_wp2_with fail
    go_loopw [5, 6] (fun v i wr => ∃ (k nv cv : Nat) (av : Option Addr), k ≤ n ∧ i = .int .i64 (k : Int) ∧ v = .slice av nv cv ∧ nv ≤ 200 * k ∧ Hid ((l.take k).flatten.length = nv ∧ Since w.heap.size w wr ∧ AppAt w.heap.size wr ta tb l k (.slice av nv cv))) (fun _ i _ => n - (intOf i).toNat)
    case atStart => exact ⟨0, 0, 0, none, Nat.zero_le _, rfl, rfl, by omega, Lib.hid ⟨rfl, HS3.out.1, HS3.out.2⟩⟩
    case round =>
      obtain ⟨k, nv, cv, av, hk, rfl, rfl, hnv, HS⟩ := hrel
      by_cases hlt : k < n
      · obtain ⟨b, o, hb, ha, hcs⟩ := HL.out.since HS.out.2.1
        have hkl : k < l.length := by rw [HN.out]; exact hlt
        have ha' := ha (by omega)
        subst ha'
        obtain ⟨v, hc, hp⟩ := hcs k hkl
        obtain ⟨ap, cp, bp, op, rfl, hpl, _⟩ := id hp
        obtain ⟨np, hnp⟩ : ∃ np, l[k].length = np := ⟨_, rfl⟩
        have HP := Lib.hid hp
        rw [hnp] at hpl hc HP
        have HNP := Lib.hid hnp
        have hkn : IntKind.i64.wrap ((k : Int) + 1) = ((k + 1 : Nat) : Int) := by rw [IntWalk.i64_in _ (by omega)]; omega
        clear hcs ha hp hnp
        by_cases hbig : 200 < np
        · have d2 : decide (200 < (np : Int)) = true := by simp; omega
          go_wp2
          go_ret
          exact ⟨rfl, HS.out.2.1.grown⟩
        · have d2 : decide (200 < (np : Int)) = false := by simp; omega
          obtain ⟨Sa, Sb, hd⟩ := HS.out.2.2
          have HD := Lib.hid hd
          clear hd
          have HLN := Lib.hid HS.out.1
          have HKS := Lib.hid HS.out.2.1
          have HB := Lib.hid HKS.out.size
          go_wp2_with (at_builtin; go_must (with_reducible refine app_loc (o := ⟨some 31, _, _, _, _, _⟩) rfl _ _ rfl w.heap.size w.heap.size (.slice av nv cv) (.slice ap np cp) (l.take k).flatten l[k] ?_ HD.out.own ?_ HP.out ?_ ?_ ?_); go_must (exact rfl); go_must (exact rfl); go_must ((rw [HLN.out, HNP.out]; omega)); go_must (exact HB.out); (intro v2 w4 ho4 hg4 hloc; obtain ⟨a4, c4, rfl, _⟩ := ho4.open (m := nv + np) (by rw [List.length_append, HLN.out, HNP.out]); have HD4 := Lib.hid (HD.out.app ho4 hg4 hloc); have hc4 := HD4.out.2.cell hc hb; clear ho4 hg4 hloc))
          have HK4 := Lib.hid (HKS.out.go HD4.out.2)
          have HFL := Lib.hid (flat_next l k hkl)
          have HL4 : Hid ((l.take (k + 1)).flatten.length = nv + np) := Lib.hid (by rw [HFL.out, List.length_append, HLN.out, HNP.out])
          (with_reducible refine (append_any ta _ _ pXY m _ np cp l[k] _ HD4.out.1.a.tree (inv_x l k (by rw [HLN.out]; omega)) (HM.out _ HK4.out) ((HP.out.keeps HD4.out.2 fun k e => e).lie HD4.out.1.a.from') HNP.out (by omega)).mono ?_)
          rw [x_put l k _ HFL.out.symm (by rw [HL4.out]; omega)]
          intro e w5 hp
          have HD5 := Lib.hid (HD4.out.1.left HK4.out.size hp)
          obtain rfl := hp.1
          have HK5 := Lib.hid (HK4.out.go HD5.out.2)
          clear hp
          dsimp only
          go_wp2_with fail
          (with_reducible refine (write_any tb _ _ pXY m _ (nv + np) c4 (l.take (k + 1)).flatten _ HD5.out.1.b.tree (inv_x l k (by rw [HLN.out]; omega)) (HM.out _ HK5.out) (by have := HD5.out.1.own; rw [← HFL.out] at this; exact this.lie (fun j e => (HD5.out.1.va j e).2) HD5.out.1.b.tree.lt) HL4.out (by omega)).mono ?_)
          rw [x_put l k (fun _ => (l.take (k + 1)).flatten) rfl (by rw [HL4.out]; omega)]
          intro e w6 hp
          have HD6 := Lib.hid (HD5.out.1.right HK5.out.size hp)
          obtain rfl := hp.1
          have HK6 := Lib.hid (HK5.out.go HD6.out.2)
          clear hp hc4 hc
          dsimp only
          go_wp2_with fail
          refine ⟨⟨k + 1, nv + np, c4, a4, by omega, congrArg (Value.int IntKind.i64) (by omega), rfl, by omega, Lib.hid ⟨HL4.out, HK6.out, _, _, by have := HD6.out.1; rw [← HFL.out] at this; exact this⟩⟩, ?_⟩
          simp only [intOf]
          omega
      · have e : k = n := by omega
        subst e
        obtain ⟨Sa, Sb, hd⟩ := HS.out.2.2
        have HD := Lib.hid hd
        have HI := Lib.hid (inv_x l k (by rw [HS.out.1]; omega))
        clear hd
        go_wp2_with fail
        (with_reducible refine (filesAt_any ta _ _ _ HD.out.a.tree HI.out).mono ?_)
        intro e w5 hf
        have hsz : 0 < w5.heap.size := by
          obtain ⟨_, _, _, _, _, _, _, hg⟩ := hf
          have h1 := HS.out.2.1.size; have h2 := hg.size; have h3 := H0.out; omega
        obtain ⟨v5, Y5, rfl, hr5, hy5, hg5, hl5⟩ := hf.rf hsz
        have HR5 := Lib.hid hr5
        have HY5 := Lib.hid hy5
        have HG5 := Lib.hid hg5
        have HSZ := Lib.hid hsz
        have HLY := Lib.hid hl5
        clear hf hsz hr5 hy5 hg5 hl5
        dsimp only
        go_wp2_with fail
        (with_reducible refine (filesAt_any tb _ _ _ (HD.out.stays HG5.out).b.tree HI.out).mono ?_)
        intro e w6 hf
        have hsz : 0 < w6.heap.size := by
          obtain ⟨_, _, _, _, _, _, _, hg⟩ := hf
          have h2 := hg.size; have h3 := HSZ.out; omega
        obtain ⟨v6, Y6, rfl, hr6, hy6, hg6, hl6⟩ := hf.rf hsz
        have HSF := Lib.hid (sameFiles_any v5 v6 Y5 Y6 w6 (HR5.out.stays hg6) hr6 (HY5.out.trans hy6.symm) (by have := HI.out.len; rw [HLY.out]; omega))
        have HG6 := Lib.hid (World.grownBy.trans HG5.out hg6)
        clear hf hsz hr6 hy6 hg6 hl6
        dsimp only
        go_wp2_with fail
        (with_reducible refine HSF.out.mono ?_)
        rintro e w7 ⟨rfl, hg⟩
        have HG7 := Lib.hid (World.grownBy.trans HG6.out hg)
        clear hg
        dsimp only
        go_wp2
        go_ret
        exact ⟨rfl, World.grownBy.trans HS.out.2.1.grown HG7.out⟩
end Go.Proofs.YtichejodbohldaaGreatDoor
