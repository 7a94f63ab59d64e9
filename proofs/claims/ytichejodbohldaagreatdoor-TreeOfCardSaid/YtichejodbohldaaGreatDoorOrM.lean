/- The program's Of. -/
import Derived.Test.YtichejodbohldaaGreatDoorOqM
namespace Go.Proofs.YtichejodbohldaaGreatDoor
open Go.RowKit Go.Maps Go.Lib
set_option maxRecDepth 1000000
theorem zeroI (w : World) : (zeroValue 3).run Tryz.prog w = .ok (.int .i64 0) w := by kernel_rfl
/-- A look-up in a map of numbers. -/
theorem MapAt.lookOkI {w : World} {b : Nat} {E : As Value} (h : MapAt w b E) (p : ByteArray) (hp : p.size ≤ 1000000) :
    (Instr.lookup 96 (.map (some b)) (.string p) true).run Tryz.prog w = .ok (.tuple #[(getA E p).getD (.int .i64 0), .bool (getA E p).isSome]) w := by
  obtain ⟨v, ps, hrun, hv⟩ := h.1.look_ok (zd := .held (.int .i64 0)) (zp := []) lawS Tryz.underlying96 (zeroI w) rfl (WideMaps.keyOf_string_mk Tryz.underlying9 (s := p) (by unfold maxLen; omega))
  have e : (DataW.held v : DataW Value) = .held ((getA E p).getD (.int .i64 0)) := by
    rw [← encA_at]
    unfold RV at hv
    have := Option.some.inj hv
    exact (Prod.mk.inj this).1
  obtain rfl := DataW.held.inj e
  have := encA_has E p
  unfold keyL at this
  rw [this] at hrun
  exact hrun
theorem MapAt.updateI {w : World} {b : Nat} {E : As Value} (h : MapAt w b E) (p : ByteArray) (hp : p.size ≤ 1000000) (hE : E.length ≤ 1000000) (v : Value) :
    ∃ w', (Instr.mapUpdate 96 (.map (some b)) (.string p) v).run Tryz.prog w = .ok () w' ∧ MapAt w' b (putA E p v) ∧ w.grownBy w' (some b) ∧ w'.heap.size = w.heap.size := by
  obtain ⟨w', hrun, h1, h2⟩ := h.1.store (d := .held v) (ps := []) lawS Tryz.underlying96 (by unfold maxLen; omega) (WideMaps.keyOf_string_mk Tryz.underlying9 (s := p) (by unfold maxLen; omega)) rfl
  have e := encA_put h.2 p v
  unfold keyL at e
  rw [e] at h1
  refine ⟨w', hrun, ⟨ownsMap_tight h1, h.2.put p v⟩, h2.grown, ?_⟩
  obtain ⟨es, clock, es', clock', hb, rfl⟩ := h2
  simp [ChangeMaps.setBlock]
/-- What Of tells. -/
def OfRet (w : World) (Q : Int × Tr) (e : Ending) (w' : World) : Prop := w.grownBy w' none ∧ ((Q.1 = 0 ∧ ∃ t S, e = .returned (.tuple #[.pointer (some ⟨t, 0, none⟩), .int .i64 0]) ∧ St w.heap.size w' t Q.2 S) ∨ (¬ Q.1 = 0 ∧ e = .returned (.tuple #[.pointer none, .int .i64 Q.1])))
/-- How far Of has come. -/
def OfAt (w V : World) (t mb : Nat) (l : Tr) (Q : Int × Tr) (k : Nat) : Prop := ∃ M S E seen, Since w.heap.size w V ∧ St w.heap.size V t M S ∧ MapAt V mb E ∧ ¬ S mb ∧ w.heap.size ≤ mb ∧ Inv M ∧ (∀ p, (getA E p).isSome = memB seen p) ∧ E.length ≤ k ∧ Q = ofS (l.drop k) seen M
theorem isDirAt_any (t : Nat) (M : Tr) (S : Nat → Prop) (p : ByteArray) (w : World) (h : TreeAt w t M S) (hp : p.size ≤ 1000000) (b : Bool) (hb : dirT M p = b) : Calls Tryz.prog 50 #[.pointer (some ⟨t, 0, none⟩), .string p] w fun e w' => e = .returned (.bool b) ∧ w = w' := by
  obtain ⟨⟨mb, X, ht, rfl, _⟩, _⟩ := h
  exact (isDir_at t mb X p w b ht hp hb).mono fun e w' h => ⟨h.1, h.2.symm⟩
theorem OfRet.no {w V : World} {Q : Int × Tr} {z : Int} (hk : Since w.heap.size w V) (hz : ¬ z = 0) (h : Q.1 = z) : OfRet w Q (.returned (.tuple #[.pointer none, .int .i64 z])) V := ⟨hk.grown, .inr ⟨by rw [h]; exact hz, by rw [h]⟩⟩
set_option maxHeartbeats 16000000 in
theorem of_any (m : Int) (n c : Nat) (a : Option Addr) (Y : As Gn) (w : World) (hm : w.cell? ⟨0, 0, none⟩ = some (.int .i64 m)) (hn : Y.length = n) (hn2 : n ≤ 1000) (hF : FilesB w w.heap.size a Y) (hb : ∀ e ∈ Y, e.2.nd.b.length ≤ 1000000) :
    Calls Tryz.prog 36 #[.slice a n c] w (OfRet w (ofS (nds Y) [] [])) := by
  have h0 : 0 < w.heap.size := World.block_lt_of_cell? _ _ hm
  have HM : Hid (∀ V, Since w.heap.size w V → V.cell? ⟨0, 0, none⟩ = some (.int .i64 m)) := Lib.hid fun V hV => hV.cell hm h0
  have HN := Lib.hid hn
  have HFB := Lib.hid (And.intro hF hb)
  have hmm := @run_makeMap Tryz.prog
  obtain ⟨Q, hQ⟩ : ∃ Q, ofS (nds Y) [] [] = Q := ⟨_, rfl⟩
  rw [hQ]
  have HQ0 := Lib.hid hQ
  clear hQ
  clear hm h0 hn hF hb
  go_enter Tryz.func36, Tryz.ntmps36
  go_wp2_with fail
  (with_reducible refine (new_any _).mono ?_)
  rintro e w1 ⟨t, rfl, _, ht1, hg1⟩
  have HT1 := Lib.hid (St.new ht1)
  have HG1 := Lib.hid hg1
  clear ht1 hg1
  dsimp only
  go_wp2_with fail
  obtain ⟨mb, hmb⟩ : ∃ mb, w1.heap.size = mb := ⟨_, rfl⟩
  have GA : Hid (w1.grownBy (w1.alloc (.map #[] 0)) none) := Lib.hid (World.grownBy_alloc _ _ _)
  have HOF0 : Hid (OfAt w (w1.alloc (.map #[] 0)) t mb (nds Y) Q 0) := Lib.hid ⟨[], _, [], [], Since.of (World.grownBy.trans HG1.out GA.out), HT1.out.stays GA.out, by rw [← hmb]; exact map_made w1, fun e => by have := HT1.out.tree.lt mb e; omega, by rw [← hmb]; exact HG1.out.size, inv_nil, fun p => rfl, Nat.le_refl _, HQ0.out.symm⟩
  rw [hmb]
  clear hmb
  go_loopw [16] (fun i wr => ∃ k : Nat, k ≤ n ∧ i = .int .i64 (k : Int) ∧ Hid (OfAt w wr t mb (nds Y) Q k)) (fun i _ => n - (intOf i).toNat)
  case atStart => exact ⟨0, Nat.zero_le _, rfl, HOF0⟩
  case round =>
    obtain ⟨k, hk, rfl, HS⟩ := hrel
    obtain ⟨M, S, E, seen, hk1, hst, hmap, hns, hmw, hI, hE, hEl, hof⟩ := HS.out
    have HI := Lib.hid hI
    have HST := Lib.hid hst
    have HKK := Lib.hid hk1
    have HMP := Lib.hid (And.intro hmap (And.intro hns hmw))
    have HEE := Lib.hid (And.intro hE hEl)
    by_cases hkn : k < n
    · obtain ⟨⟨s, g⟩, hx⟩ : ∃ x, Y[k]? = some x := ⟨Y[k]'(by rw [HN.out]; exact hkn), List.getElem?_eq_getElem _⟩
      obtain ⟨b, o, hbB, ha, hall⟩ := HFB.out.1
      obtain ⟨⟨c1, c2, c3⟩, hsz, ⟨gx, gy, hgv⟩, _, hpt⟩ := hall k _ hx
      obtain rfl := ha (by rw [HN.out]; omega)
      dsimp only at c1 c2 c3 hsz hgv hpt
      have hbl := HFB.out.2 _ (List.mem_of_getElem? hx)
      dsimp only at hbl
      obtain ⟨mg, hmg⟩ : ∃ mg, g.nd.b.length = mg := ⟨_, rfl⟩
      obtain ⟨dg, hdg⟩ : ∃ dg, g.nd.dir = dg := ⟨_, rfl⟩
      rw [hmg] at hgv hbl
      rw [hgv] at c3 hpt
      rw [hdg] at c2
      have hdrop : (nds Y).drop k = (s, g.nd) :: (nds Y).drop (k + 1) := by
        have hkl : k < (nds Y).length := by rw [mapA_len, HN.out]; exact hkn
        rw [List.drop_eq_getElem_cons hkl]
        congr 1
        have h1 : (nds Y)[k]? = some (s, g.nd) := by show (Y.map fun e => (e.1, e.2.nd))[k]? = _; rw [List.getElem?_map, hx]; rfl
        exact (List.getElem?_eq_some_iff.1 h1).2
      rw [hdrop] at hof
      unfold ofS at hof
      have q1 := hk1.cell c1 hbB
      have q2 := hk1.cell c2 hbB
      have q3 := hk1.cell c3 hbB
      have HPT := Lib.hid hpt
      have HGG := Lib.hid (And.intro hmg hdg)
      unfold maxLen at hsz
      clear hx c1 c2 c3 hgv hpt hall ha hmg hdg hdrop HS hI hst hmap hns hmw hE hEl hk1
      obtain ⟨V1, hV1⟩ : ∃ V1, wr.alloc (.cells #[.string s, .bool dg, .slice gx mg gy] 68) = V1 := ⟨_, rfl⟩
      obtain ⟨bx, hbx⟩ : ∃ bx, wr.heap.size = bx := ⟨_, rfl⟩
      have HBW := Lib.hid hbx
      have G01 : Hid (wr.grownBy V1 none) := Lib.hid (by rw [← hV1]; exact World.grownBy_alloc _ _ _)
      have HBX : Hid (V1.heap[bx]? = some (.cells #[.string s, .bool dg, .slice gx mg gy] 68 (0, 0))) := Lib.hid (by rw [← hV1, ← hbx]; exact bk_alloc _ _)
      have HK1 := Lib.hid (HKK.out.go (Since.of G01.out))
      have b0 := (bk_cell HBX.out 0 _ rfl).1
      rcases clean_ways s with ⟨L, hc, hL⟩ | ⟨q, hc, hq, hq1, hq2⟩
      · have hcs := hc
        have hps := hL.size
        obtain ⟨p, hp⟩ : ∃ p, Pth.joinB L = p := ⟨_, rfl⟩
        rw [hp] at hc hcs hps
        rw [hc, if_neg (by simp)] at hof
        simp only at hof
        have HC := Lib.hid hc
        clear hc hL hp hcs
        go_wp2_with fail
        try rw [hV1]
        try rw [hbx]
        (with_reducible refine (clean_at m s p 0 _ (HM.out _ HK1.out) HC.out).mono ?_)
        rintro e V2 ⟨rfl, hg⟩
        have HG2 := Lib.hid (World.grownBy.trans G01.out hg)
        have HK2 := Lib.hid (HK1.out.go (Since.of hg))
        have HB2 := Lib.hid (bk_kept HBX.out hg)
        clear hg b0 q1 q2 q3
        dsimp only
        have hlk := (HMP.out.1.keeps (Kept.ofNone HG2.out fun _ => False) (fun e => e)).lookOkI p (by omega)
        rw [HEE.out.1 p] at hlk
        have c0' := (bk_cell HB2.out 1 _ rfl).1
        have c1' := (bk_cell HB2.out 2 _ rfl).1
        cases htw : memB seen p with
        | true =>
          rw [htw] at hlk
          rw [if_pos (.inl htw)] at hof
          have HQ : Hid (Q.1 = 53) := Lib.hid (by rw [hof])
          clear hof htw
          go_wp2
          go_ret2
          exact OfRet.no HK2.out (by decide) HQ.out
        | false =>
          rw [htw] at hlk
          have HTW := Lib.hid htw
          have HD2 := Lib.hid (HST.out.stays HG2.out)
          have HISD : Hid (∀ b, dirT M p = b → Calls Tryz.prog 50 #[.pointer (some ⟨t, 0, none⟩), .string p] V2 fun e w' => e = .returned (.bool b) ∧ V2 = w') := Lib.hid fun b hb => isDirAt_any t M S p V2 HD2.out.tree (by omega) b hb
          clear htw
          --REST
          have HM0 : Hid (AscA E) := Lib.hid HMP.out.1.2
          have HMB : Hid (mb < bx) := Lib.hid (by have := HMP.out.1.lt; have h2 := HBW.out; omega)
          cases dg with
          | true =>
            cases hdt : dirT M p with
            | true =>
              rw [if_pos (.inr ⟨HGG.out.2, hdt⟩)] at hof
              have HQ : Hid (Q.1 = 53) := Lib.hid (by rw [hof])
              have HIS := Lib.hid (HISD.out true hdt)
              clear hof hdt
              go_wp2_with fail
              (with_reducible refine HIS.out.mono ?_)
              rintro e V3 ⟨rfl, rfl⟩
              dsimp only
              go_wp2
              go_ret2
              exact OfRet.no HK2.out (by decide) HQ.out
            | false =>
              rw [if_neg (by rw [HTW.out, hdt]; simp)] at hof
              have HIS := Lib.hid (HISD.out false hdt)
              clear hdt
              go_wp2_with fail
              (with_reducible refine HIS.out.mono ?_)
              rintro e V3 ⟨rfl, rfl⟩
              dsimp only
              clear HIS
              obtain ⟨V3, hrun, hm3, hg3, _⟩ := (HMP.out.1.keeps (Kept.ofNone HG2.out fun _ => False) (fun e => e)).updateI p (by omega) (by have := HEE.out.2; omega) (.int .i64 (k : Int))
              have HM3 := Lib.hid hm3
              have HD3 : Hid (St w.heap.size V3 t M S) := Lib.hid ⟨HD2.out.tree.keeps (Kept.one hg3) fun i hi e => HMP.out.2.1 (e ▸ hi), HD2.out.from'⟩
              have HK3 : Hid (Since w.heap.size w V3) := Lib.hid (HK2.out.go (Kept.of hg3 _ fun i e => by rw [← Option.some.inj e]; exact HMP.out.2.2))
              have hb3 : V3.heap[bx]? = some (.cells #[.string s, .bool true, .slice gx mg gy] 68 (0, 0)) := (hg3.block bx (bk_size HB2.out) (fun e => by have h1 := Option.some.inj e; have h2 := HMB.out; omega)).trans HB2.out
              have c03 := (bk_cell hb3 1 _ rfl).1
              have c13 := (bk_cell hb3 2 _ rfl).1
              clear hm3 hg3 hb3
              obtain ⟨z, hz⟩ : ∃ z, (addS M s g.nd).1 = z := ⟨_, rfl⟩
              obtain ⟨M', hM'⟩ : ∃ M', (addS M s g.nd).2 = M' := ⟨_, rfl⟩
              have HAD : Hid (mkdirS M p = (z, M')) := Lib.hid (by
                rw [← hz, ← hM']
                unfold addS
                rw [HGG.out.2]
                simp only [if_true]
                rw [mkdir_clean HC.out])
              have HI2 : Hid (Inv M') := Lib.hid (by rw [← hM']; exact inv_add HI.out s g.nd)
              have HADD := Lib.hid hz
              rw [hz, hM'] at hof
              clear hz hM'
              go_wp2_with fail
              (with_reducible refine (mkdir_any t M S p m _ HD3.out.tree HI.out (HM.out _ HK3.out)).mono ?_)
              rw [HAD.out]
              intro e V4 hp
              have HP4 := Lib.hid (HD3.out.puts HK3.out.size hp)
              have HK4 := Lib.hid (HK3.out.go HP4.out.2)
              have HMP4 : Hid (MapAt V4 mb (putA E p (.int .i64 (k : Int))) ∧ ¬ Grow V3 V4 S mb) := Lib.hid ⟨HM3.out.keeps hp.2.2 HMP.out.2.1, fun e => by
                rcases e.1 with h | h
                · exact HMP.out.2.1 h
                · have := HM3.out.lt; omega⟩
              obtain rfl := hp.1
              clear hp hrun c03 c13
              dsimp only
              by_cases hz0 : z = 0
              · subst hz0
                rw [if_neg (by simp)] at hof
                have HNX : Hid (OfAt w V4 t mb (nds Y) Q (k + 1)) := Lib.hid ⟨M', _, putA E p (.int .i64 (k : Int)), seen ++ [p], HK4.out, HP4.out.1, HMP4.out.1, HMP4.out.2, HMP.out.2.2, HI2.out, fun x => by
                  rw [getA_put]
                  have e5 : memB (seen ++ [p]) x = (memB seen x || decide (p = x)) := by unfold memB; rw [List.any_append]; simp
                  rw [e5]
                  by_cases hx : p = x
                  · rw [if_pos hx, decide_eq_true hx, Bool.or_true]; rfl
                  · rw [if_neg hx, decide_eq_false hx, Bool.or_false]; exact HEE.out.1 x, by
                  have h1 := put_len HM0.out p (.int .i64 (k : Int))
                  have h2 := HEE.out.2
                  split at h1 <;> omega, hof⟩
                clear hof
                go_wp2_with fail
                refine ⟨⟨k + 1, by omega, congrArg (Value.int IntKind.i64) (by omega), HNX⟩, ?_⟩
                simp only [intOf]
                omega
              · have q4 : (z != 0) = true := by simp [hz0]
                have q5 : (z == 0) = false := by simp [hz0]
                rw [if_pos hz0] at hof
                have HQ : Hid (Q.1 = z) := Lib.hid (by rw [hof]; exact HADD.out)
                clear hof
                go_wp2
                go_ret2
                exact OfRet.no HK4.out hz0 HQ.out
          | false =>
            rw [if_neg (by rw [HTW.out, HGG.out.2]; simp)] at hof
            obtain ⟨V3, hrun, hm3, hg3, _⟩ := (HMP.out.1.keeps (Kept.ofNone HG2.out fun _ => False) (fun e => e)).updateI p (by omega) (by have := HEE.out.2; omega) (.int .i64 (k : Int))
            have HM3 := Lib.hid hm3
            have HD3 : Hid (St w.heap.size V3 t M S) := Lib.hid ⟨HD2.out.tree.keeps (Kept.one hg3) fun i hi e => HMP.out.2.1 (e ▸ hi), HD2.out.from'⟩
            have HK3 : Hid (Since w.heap.size w V3) := Lib.hid (HK2.out.go (Kept.of hg3 _ fun i e => by rw [← Option.some.inj e]; exact HMP.out.2.2))
            have hb3 : V3.heap[bx]? = some (.cells #[.string s, .bool false, .slice gx mg gy] 68 (0, 0)) := (hg3.block bx (bk_size HB2.out) (fun e => by have h1 := Option.some.inj e; have h2 := HMB.out; omega)).trans HB2.out
            have c03 := (bk_cell hb3 1 _ rfl).1
            have c13 := (bk_cell hb3 2 _ rfl).1
            clear hm3 hg3 hb3
            obtain ⟨z, hz⟩ : ∃ z, (addS M s g.nd).1 = z := ⟨_, rfl⟩
            obtain ⟨M', hM'⟩ : ∃ M', (addS M s g.nd).2 = M' := ⟨_, rfl⟩
            have HAD : Hid (putS M p (fun _ => g.nd.b) = (z, M')) := Lib.hid (by
              rw [← hz, ← hM']
              unfold addS
              rw [HGG.out.2]
              simp only [Bool.false_eq_true, if_false]
              rw [put_clean HC.out])
            have HI2 : Hid (Inv M') := Lib.hid (by rw [← hM']; exact inv_add HI.out s g.nd)
            have HADD := Lib.hid hz
            rw [hz, hM'] at hof
            clear hz hM'
            go_wp2_with fail
            (with_reducible refine (write_any t M S p m gx mg gy g.nd.b _ HD3.out.tree HI.out (HM.out _ HK3.out) ((HPT.out.keeps HK3.out fun i e => e).lie HD3.out.from') HGG.out.1 (by omega)).mono ?_)
            rw [HAD.out]
            intro e V4 hp
            have HP4 := Lib.hid (HD3.out.puts HK3.out.size hp)
            have HK4 := Lib.hid (HK3.out.go HP4.out.2)
            have HMP4 : Hid (MapAt V4 mb (putA E p (.int .i64 (k : Int))) ∧ ¬ Grow V3 V4 S mb) := Lib.hid ⟨HM3.out.keeps hp.2.2 HMP.out.2.1, fun e => by
              rcases e.1 with h | h
              · exact HMP.out.2.1 h
              · have := HM3.out.lt; omega⟩
            obtain rfl := hp.1
            clear hp hrun c03 c13
            dsimp only
            by_cases hz0 : z = 0
            · subst hz0
              rw [if_neg (by simp)] at hof
              have HNX : Hid (OfAt w V4 t mb (nds Y) Q (k + 1)) := Lib.hid ⟨M', _, putA E p (.int .i64 (k : Int)), seen ++ [p], HK4.out, HP4.out.1, HMP4.out.1, HMP4.out.2, HMP.out.2.2, HI2.out, fun x => by
                rw [getA_put]
                have e5 : memB (seen ++ [p]) x = (memB seen x || decide (p = x)) := by unfold memB; rw [List.any_append]; simp
                rw [e5]
                by_cases hx : p = x
                · rw [if_pos hx, decide_eq_true hx, Bool.or_true]; rfl
                · rw [if_neg hx, decide_eq_false hx, Bool.or_false]; exact HEE.out.1 x, by
                have h1 := put_len HM0.out p (.int .i64 (k : Int))
                have h2 := HEE.out.2
                split at h1 <;> omega, hof⟩
              clear hof
              go_wp2_with fail
              refine ⟨⟨k + 1, by omega, congrArg (Value.int IntKind.i64) (by omega), HNX⟩, ?_⟩
              simp only [intOf]
              omega
            · have q4 : (z != 0) = true := by simp [hz0]
              have q5 : (z == 0) = false := by simp [hz0]
              rw [if_pos hz0] at hof
              have HQ : Hid (Q.1 = z) := Lib.hid (by rw [hof]; exact HADD.out)
              clear hof
              go_wp2
              go_ret2
              exact OfRet.no HK4.out hz0 HQ.out
      · rw [hc, if_pos hq] at hof
        have HC := Lib.hid hc
        have HQ : Hid (Q.1 = q) := Lib.hid (by rw [hof])
        have q4 : (q != 0) = true := by simp [hq]
        have q5 : (q == 0) = false := by simp [hq]
        clear hc hof
        go_wp2_with fail
        try rw [hV1]
        try rw [hbx]
        (with_reducible refine (clean_at m s E0 q _ (HM.out _ HK1.out) HC.out).mono ?_)
        rintro e V2 ⟨rfl, hg⟩
        have HK2 := Lib.hid (HK1.out.go (Since.of hg))
        clear hg b0 q1 q2 q3
        dsimp only
        go_wp2
        go_ret2
        exact OfRet.no HK2.out hq HQ.out
    · have e : k = n := by omega
      have HQ : Hid (Q = (0, M)) := Lib.hid (by rw [hof, List.drop_eq_nil_of_le (by rw [mapA_len, HN.out]; omega)]; rfl)
      clear hof HS hI hst hmap hns hmw hE hEl hk1
      go_wp2
      go_ret2
      exact ⟨HKK.out.grown, .inl ⟨by rw [HQ.out], t, S, rfl, by rw [HQ.out]; exact HST.out⟩⟩
end Go.Proofs.YtichejodbohldaaGreatDoor
