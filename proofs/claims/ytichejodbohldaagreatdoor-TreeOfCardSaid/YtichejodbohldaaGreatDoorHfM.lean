/- A tree's Copy. -/
import Derived.Test.YtichejodbohldaaGreatDoorHdM
namespace Go.Proofs.YtichejodbohldaaGreatDoor
open Go.RowKit Go.Maps
set_option maxRecDepth 1000000
set_option maxHeartbeats 8000000 in
theorem copy_any (tb : Nat) (M : Tr) (S : Nat → Prop) (s t : ByteArray) (m : Int) (w : World) (h : TreeAt w tb M S) (hI : Inv M) (hm : w.cell? ⟨0, 0, none⟩ = some (.int .i64 m)) :
    Calls Tryz.prog 24 #[.pointer (some ⟨tb, 0, none⟩), .string s, .string t] w (PutsRet tb (copyS M s t) w S) := by
  obtain ⟨⟨mb, X, ht, rfl, h3⟩, h4⟩ := h
  have HT := Lib.hid ht
  have H3 := Lib.hid h3
  have H4 := Lib.hid h4
  have hx : X.length ≤ 500 := by have := hI.len; rw [mapA_len] at this; exact this
  have hsz := hI.size
  obtain ⟨W0, hW0⟩ : ∃ W0, w.alloc (.cells #[.pointer (some ⟨tb, 0, none⟩)] 25) = W0 := ⟨_, rfl⟩
  obtain ⟨b3, hb3⟩ : ∃ b3, w.heap.size = b3 := ⟨_, rfl⟩
  have G0 : Hid (w.grownBy W0 none) := Lib.hid (by rw [← hW0]; exact World.grownBy_alloc _ _ _)
  have HB3 : Hid (W0.heap[b3]? = some (.cells #[.pointer (some ⟨tb, 0, none⟩)] 25 (0, 0))) := Lib.hid (by rw [← hW0, ← hb3]; exact bk_alloc _ _)
  have hc3 := (bk_cell HB3.out 0 _ rfl).1
  rcases plan_any tb mb X s t m w ht hI hm with ⟨hp, hcall⟩ | ⟨hp, p, q, Lp, L, k, hM, hc1, hc2, hcall⟩
  · have HR : Hid (copyS (nds X) s t = (planE (nds X) s t, nds X)) := Lib.hid (by unfold copyS; rw [if_pos hp])
    obtain ⟨z, hz⟩ : ∃ z, planE (nds X) s t = z := ⟨_, rfl⟩
    rw [hz] at hp hcall HR
    have HC := Lib.hid hcall
    have q4 : (z != 0) = true := by simp [hp]
    have q5 : (z == 0) = false := by simp [hp]
    clear ht h3 h4 hI hm hcall hz
    go_enter Tryz.func24, Tryz.ntmps24
    go_wp2_with fail
    try rw [hW0]
    (with_reducible refine (HC.out _ G0.out).mono ?_)
    rintro e w1 ⟨rfl, hg⟩
    unfold noMove
    dsimp only
    have HG := Lib.hid (World.grownBy.trans G0.out hg)
    clear hg hc3 hW0 hb3
    go_wp2
    go_ret
    rw [HR.out]
    exact puts_same HT.out H3.out H4.out (World.grownBy.trans HG.out (World.grownBy_alloc _ _ _))
  · have hA : AscA (nds X) := ht.asc.map _
    have hpt : Pth.partsS q = L := by rw [← hM.eq]; exact Pth.parts_join L hM.pq.part
    have hR : copyS (nds X) s t = if roomC (nds X) p (lackN (nds X) L k) = true then (0, doneN (cpyN p q) (mkN (nds X) L k) (wkeys (nds X) p)) else (55, nds X) := by
      unfold copyS
      rw [if_neg (by rw [hp]; simp), hc1, hc2, hpt, hM.len]
      rfl
    have hk12 : k ≤ 11 := by have := hM.pq.len; have := hM.len; omega
    have hlk12 := lackN_le (nds X) L k
    have hby := byK_le hA p
    have hbt := fun j => byK_take (nds X) (wkeys (nds X) p) j
    obtain ⟨lk, hlk⟩ : ∃ lk, lackN (nds X) L k = lk := ⟨_, rfl⟩
    have HST : Hid (∀ j x, (wkeys (nds X) p)[j]? = some x → ∃ nd, getA (doneN (cpyN p q) (mkN (nds X) L k) ((wkeys (nds X) p).take j)) x = some nd ∧ nd.b.length ≤ 1000000) := Lib.hid hM.ceach
    have HBD : Hid (∀ j, (doneN (cpyN p q) (mkN (nds X) L k) ((wkeys (nds X) p).take j)).length ≤ 100000 ∧ sizeT (doneN (cpyN p q) (mkN (nds X) L k) ((wkeys (nds X) p).take j)) ≤ 10000000) := Lib.hid fun j => hM.cbound j
    have HKS : Hid (∀ x ∈ wkeys (nds X) p, p.size ≤ x.size ∧ x.size ≤ 200 ∧ q.size ≤ 200) := Lib.hid fun x hx => by
      have h1 := wkeys_size hI p x hx
      exact ⟨within_size h1.1, h1.2, by rw [← hM.eq]; exact hM.pq.size⟩
    have HIN : Hid (∀ x ∈ wkeys (nds X) p, ∃ g, getA X x = some g) := Lib.hid fun x hx => by
      obtain ⟨n, hn⟩ := (wkeys_mem hx).2
      have h1 := hA.get hn
      rw [nds_get] at h1
      cases hg : getA X x with
      | none => rw [hg] at h1; cases h1
      | some g => exact ⟨g, rfl⟩
    have hroomE : roomC (nds X) p (lackN (nds X) L k) = (decide (X.length + (lackN (nds X) L k + (wkeys (nds X) p).length) ≤ 500) && decide (((sizeT (nds X) : Nat) : Int) + (byK (nds X) (wkeys (nds X) p) : Nat) ≤ 1048576)) := by
      unfold roomC
      rw [mapA_len]
    obtain ⟨ks, hks⟩ : ∃ ks, wkeys (nds X) p = ks := ⟨_, rfl⟩
    obtain ⟨n, hn⟩ : ∃ n, ks.length = n := ⟨_, rfl⟩
    have hn2 : n ≤ 500 := by
      rw [← hn, ← hks]
      have h1 := wkeys_len (nds X) p
      rw [mapA_len] at h1
      omega
    have HMV := Lib.hid hM
    have HN := Lib.hid hn
    unfold YesPlan at hcall
    rw [hks, hlk, hn] at hroomE
    rw [hks] at HST HBD HKS HIN hby hbt
    rw [hlk] at hR hcall hlk12
    rw [hks] at hR hcall
    rw [hn] at hcall
    obtain ⟨r, hr⟩ : ∃ r, roomC (nds X) p lk = r := ⟨_, rfl⟩
    rw [hr] at hroomE hR
    have HC := Lib.hid hcall
    have HR := Lib.hid hR
    have HBT : Hid (∀ j, byK (nds X) (ks.take j) ≤ 1048576) := Lib.hid fun j => by have := hbt j; omega
    obtain ⟨by', hby'⟩ : ∃ by', byK (nds X) ks = by' := ⟨_, rfl⟩
    have hbl : by' ≤ 1048576 := by omega
    rw [hby'] at hroomE
    have HRO : Hid (∀ V, w.grownBy V none → Calls Tryz.prog 53 #[.pointer (some ⟨tb, 0, none⟩), .int .i64 ((lk : Int) + (n : Int)), .int .i64 (by' : Int)] V fun e w' => e = .returned (.bool r) ∧ V = w') := Lib.hid fun V hV => by
      rw [← Int.natCast_add]
      exact (room_any tb mb X (lk + n) by' V (HT.out.stays hV) (by omega) (by omega) (by omega) (by omega) r (by rw [hroomE])).mono fun e w' h => ⟨h.1, h.2.symm⟩
    have HBY := Lib.hid hby'
    clear ht h3 h4 hI hm hcall hlk hks hn hM hc1 hc2 hp hpt hA hR hroomE hr hby hbt hby'
    go_enter Tryz.func24, Tryz.ntmps24
    go_wp2_with fail
    try rw [hW0]
    (with_reducible refine (HC.out _ G0.out).mono ?_)
    rintro e w1 ⟨a, c, rfl, ho, hg⟩
    dsimp only
    have HG := Lib.hid (World.grownBy.trans G0.out hg)
    have HB1 := Lib.hid (bk_kept HB3.out hg)
    have HO1 := Lib.hid ho
    obtain ⟨W2, hW2⟩ : ∃ W2, w1.alloc (.cells #[.pointer (some ⟨tb, 0, none⟩), .string p, .string q, .slice a n c, .int .i64 (lk : Int)] 85) = W2 := ⟨_, rfl⟩
    obtain ⟨bt, hbt⟩ : ∃ bt, w1.heap.size = bt := ⟨_, rfl⟩
    have G2 : Hid (w1.grownBy W2 none) := Lib.hid (by rw [← hW2]; exact World.grownBy_alloc _ _ _)
    have HBT2 : Hid (W2.heap[bt]? = some (.cells #[.pointer (some ⟨tb, 0, none⟩), .string p, .string q, .slice a n c, .int .i64 (lk : Int)] 85 (0, 0))) := Lib.hid (by rw [← hW2, ← hbt]; exact bk_alloc _ _)
    clear hg hc3 hW0 hb3 ho
    have hc3 := (bk_cell (bk_kept HB1.out G2.out) 0 _ rfl).1
    obtain ⟨⟨d0, d1, d2, d3, d4⟩, _⟩ := cellsM HBT2.out
    go_wp2_with fail
    try rw [hW2]
    try rw [hbt]
    have HL : Hid (∀ V, W2.grownBy V none → V.heap[bt]? = some (.cells #[.pointer (some ⟨tb, 0, none⟩), .string p, .string q, .slice a n c, .int .i64 (lk : Int)] 85 (0, 0)) ∧ V.heap[b3]? = some (.cells #[.pointer (some ⟨tb, 0, none⟩)] 25 (0, 0)) ∧ OwnsS V 0 (.slice a n c) ks ∧ TreeIn V tb mb X ∧ w.grownBy V none) := Lib.hid fun V hV =>
      ⟨bk_kept HBT2.out hV, bk_kept (bk_kept HB1.out G2.out) hV, ((HO1.out.stays G2.out).mono (Nat.zero_le _)).stays hV, HT.out.stays (World.grownBy.trans (World.grownBy.trans HG.out G2.out) hV), World.grownBy.trans (World.grownBy.trans HG.out G2.out) hV⟩
    clear hW2 hbt hc3 d0 d1 d2 d3 d4
    go_loopw [9, 25] (fun v i wr => ∃ j : Nat, j ≤ n ∧ i = .int .i64 (j : Int) ∧ v = .int .i64 (byK (nds X) (ks.take j) : Nat) ∧ Hid (W2.grownBy wr none)) (fun _ i _ => n - (intOf i).toNat)
    case atStart => exact ⟨0, Nat.zero_le _, rfl, rfl, Lib.hid (World.grownBy.refl _ _)⟩
    case round =>
      obtain ⟨j, hj, rfl, rfl, HS⟩ := hrel
      have HV := Lib.hid (HL.out wr HS.out)
      by_cases hjn : j < n
      · obtain ⟨x, hx⟩ : ∃ x, ks[j]? = some x := ⟨ks[j]'(by rw [HN.out]; exact hjn), List.getElem?_eq_getElem _⟩
        obtain ⟨g0, hag, hcell⟩ := HV.out.2.2.1.cellAt j x hx
        subst hag
        have hxm : x ∈ ks := List.mem_of_getElem? hx
        obtain ⟨g, hg⟩ := HIN.out x hxm
        obtain ⟨ag, cg, hgv⟩ := HV.out.2.2.2.1.slice hg
        obtain ⟨mg, hmg⟩ : ∃ mg, g.nd.b.length = mg := ⟨_, rfl⟩
        obtain ⟨dg, hdg⟩ : ∃ dg, g.nd.dir = dg := ⟨_, rfl⟩
        have HSUM : Hid (byK (nds X) (ks.take (j + 1)) = byK (nds X) (ks.take j) + mg) := Lib.hid (by
          rw [take_snocL ks j x hx]
          unfold byK
          rw [List.map_append, List.sum_append, List.map_cons, List.map_nil, List.sum_cons, List.sum_nil]
          unfold lenT
          rw [nds_get, hg, ← hmg]
          rfl)
        have hb1 := HBT.out (j + 1)
        rw [HSUM.out] at hb1
        obtain ⟨z, hz⟩ : ∃ z, byK (nds X) (ks.take j) = z := ⟨_, rfl⟩
        rw [hz] at HSUM hb1 ⊢
        have hlo : (Instr.lookup 70 (.map (some mb)) (.string x) false).run Tryz.prog wr = .ok (.agg #[.bool dg, .slice ag mg cg]) wr := by
          have h2 := (HKS.out x hxm).2.1
          rw [HV.out.2.2.2.1.look x (by omega), hg]
          simp only [Option.map_some, Option.getD_some, Gn.val, hgv, hdg, hmg]
        obtain ⟨t0, _, _, _⟩ := HV.out.2.2.2.1.cells
        have e3 := (bk_cell HV.out.2.1 0 _ rfl).1
        have F1 := field1
        clear hx hxm hg hgv hmg hdg hz
        go_wp2_with fail
        refine ⟨⟨j + 1, by omega, congrArg (Value.int IntKind.i64) (by omega), congrArg (Value.int IntKind.i64) (by rw [HSUM.out]; omega), HS⟩, ?_⟩
        simp only [intOf]
        omega
      · have hjn' : j = n := by omega
        have e1 : ks.take j = ks := by rw [hjn']; exact List.take_of_length_le (by rw [HN.out]; exact Nat.le_refl _)
        rw [e1, HBY.out]
        obtain ⟨⟨d0, d1, d2, d3, d4⟩, _⟩ := cellsM HV.out.1
        have e3 := (bk_cell HV.out.2.1 0 _ rfl).1
        clear e1
        cases r with
        | false =>
          rw [if_neg (by simp)] at HR
          go_wp2_with fail
          (with_reducible refine (HRO.out _ HV.out.2.2.2.2).mono ?_)
          rintro e w3 ⟨rfl, rfl⟩
          dsimp only
          go_wp2
          go_ret
          rw [HR.out]
          exact puts_same HT.out H3.out H4.out HV.out.2.2.2.2
        | true =>
          rw [if_pos rfl] at HR
          have HDO : Hid (Calls Tryz.prog 60 #[.agg #[.pointer (some ⟨tb, 0, none⟩), .string p, .string q, .slice a n c, .int .i64 (lk : Int)], .func (.func 64) #[] #[.pointer (some ⟨b3, 0, none⟩)]] wr fun e w' => e = .returned (.tuple #[]) ∧
              ∃ X', TreeIn w' tb mb X' ∧ nds X' = doneN (cpyN p q) (mkN (nds X) L k) ks ∧ Kept wr w' (Own tb mb X) ∧ ∀ j, Own tb mb X' j → Own tb mb X j ∨ wr.heap.size ≤ j) := Lib.hid
            (do_any 64 b3 tb mb X p q L k HMV.out.len HMV.out.pq HMV.out.eq a n c ks lk (cpyN p q) wr (fun args w => by kernel_rfl) (copy_each b3 tb mb p q) HV.out.2.2.2.1 HV.out.2.1
              HV.out.2.2.1 HN.out (by omega) (by omega) (by omega) HKS.out HST.out (fun j _ => HBD.out j))
          go_wp2_with fail
          (with_reducible refine (HRO.out _ HV.out.2.2.2.2).mono ?_)
          rintro e w3 ⟨rfl, rfl⟩
          dsimp only
          go_wp2_with fail
          (with_reducible refine HDO.out.mono ?_)
          rintro e w4 ⟨rfl, X', ht4, hn4, hk4, ho4⟩
          dsimp only
          have hf : PutsRet tb (0, doneN (cpyN p q) (mkN (nds X) L k) ks) w S (.returned (.int .i64 0)) w4 := by
            have g2 := HV.out.2.2.2.2
            refine ⟨rfl, ⟨⟨mb, X', ht4, hn4, fun i hi => ⟨?_, ht4.own_lt hi⟩⟩, fun i hi => hi.2⟩, (Kept.ofNone g2 S).trans (hk4.mono fun i _ e => H3.out i e) fun i e => .inl e⟩
            rcases ho4 i hi with h | h
            · exact .inl (H3.out i h)
            · exact .inr (Nat.le_trans g2.size h)
          have HF := Lib.hid hf
          clear ht4 hn4 hk4 ho4 hf d0 d1 d2 d3 d4 e3
          go_wp2
          go_ret
          rw [HR.out]
          exact HF.out
end Go.Proofs.YtichejodbohldaaGreatDoor
