/- The reference's clean behind a base, and its Join. -/
import Derived.Test.YtghfnmnjomdacaaDoorV
import Derived.Test.YtghfnmnjomdacaaDoorI
import Derived.OwnWalk
namespace Go.Proofs.YtghfnmnjomdacaaDoor
open Go.RowKit

theorem OwnsS.block_lt {w : World} {base : Nat} {v : Value} {L : List ByteArray} (h : OwnsS w base v L) (k : Nat) (e : v.ownBlock = some k) : base ≤ k ∧ k < w.heap.size := World.ownsRow.lt h k e
theorem OwnsS.stays {w w1 : World} {base : Nat} {v : Value} {L : List ByteArray} (h : OwnsS w base v L) (hg : w.grownBy w1 none) : OwnsS w1 base v L :=
  World.ownsRow.kept h hg (by cases v.ownBlock with
    | none => exact .inl rfl
    | some k => exact .inr (by simp))
/-- append of one text to texts that the call owns: another block than kb stays another one. -/
theorem app_apart {w : World} {ops : Array Oper} {rest : List Oper} {o : Oper} {a : Act} {Q : Exit → Act → World → Prop} (hgd : o.guard = none) (s x : Operand)
    (ho : o.op = .call { callee := .builtin .append, args := #[s, x], argTypes := #[29, 29] }) (base B kb : Nat) (v xv : Value) (L : List ByteArray) (y : ByteArray) (hs : a.eval s = v) (hown : OwnsS w base v L)
    (hx : a.eval x = xv) (hp : PartS w B xv [y]) (hb : L.length + 1 ≤ 1000000) (hbase : base ≤ w.heap.size) (hk : v.ownBlock ≠ some kb) (hkw : kb < w.heap.size)
    (h : ∀ v' w', OwnsS w' base v' (L ++ [y]) → w.grownBy w' v.ownBlock → v'.ownBlock ≠ some kb → wpList Tryd.prog ops Q rest (a.put o.dst v') w') : wpList Tryd.prog ops Q (o :: rest) a w := by
  obtain ⟨i0, hi, hz0, hz1, hz2⟩ := info_parts info9
  obtain ⟨ap, cap, b, of, h1, h2, h6, h3, h4, h5⟩ := hp
  have hap := h4 (by simp)
  subst hap
  have hnews : ∀ j u, [Value.string y][j]? = some u → w.cell? ((⟨b, of, none⟩ : Addr).add j) = some u := by
    intro j u hu
    have hj : j = 0 := by have := (List.getElem?_eq_some_iff.1 hu).1; simpa using this
    subst hj
    have hu' : Value.string y = u := by simpa using hu
    rw [Addr.add_mid, h5 0 y rfl, hu']
  have hone : ∀ u ∈ [Value.string y], u.oneCell' = true := by
    intro u hu
    rw [List.mem_singleton.1 hu]; rfl
  have fin : ∀ v' w', w'.ownsRow w.heap.size 9 1 v' (L.length + 1) (L.map Value.string ++ [Value.string y]) → w.grownBy w' none → wpList Tryd.prog ops Q rest (a.put o.dst v') w' := by
    intro v' w' h7 h8
    have h9 : OwnsS w' w.heap.size v' (L ++ [y]) := by
      show World.ownsRow _ _ _ _ _ _ _
      rw [List.length_append, List.map_append]
      exact h7
    refine h v' w' (h9.mono hbase) ⟨h8.os, h8.tape, h8.output, h8.size, fun j hj _ => h8.block j hj (by simp)⟩ ?_
    intro e
    have := (h9.block_lt kb e).1
    omega
  have hown' := hown
  rcases hown.2 with ⟨g1, g2⟩ | ⟨g, cp, cur, g1, g2, g3, g4, g5, g6, g7⟩
  · have hL : L = [] := List.eq_nil_of_length_eq_zero g2
    subst hL
    refine wpList_append_own w hgd s x 29 ho w.heap.size 9 i0 (.string ByteArray.empty) 1 16 Tryd.underlying29 hi hz0 hz1 hz2 rfl (by decide) (.slice none 0 0) 0 [] (hs.trans g1) (World.ownsRow_nil _ _ _ _) ⟨b, of, none⟩ 1 cap [.string y] (by rw [hx, h1]; rfl) rfl hnews hone (by unfold maxLen; omega) (by omega) (Nat.le_refl _) ?_
    intro v' w' h7 h8 _
    exact fin v' w' h7 h8
  · by_cases hr : L.length + 1 ≤ cp
    · refine wpList_append_fits w hgd s x 29 ho base 9 i0 1 Tryd.underlying29 hi hz1 g L.length cp (L.map Value.string) (hs.trans g1) (by rw [← g1]; exact hown') ⟨b, of, none⟩ 1 cap [.string y] (by rw [hx, h1]; rfl) rfl hnews hone hr ?_
      intro w' h7 h8
      have hg : v.ownBlock = some g := by rw [g1]; rfl
      refine h _ w' ?_ (by rw [hg]; exact h8) (by rw [hg] at hk; exact hk)
      show World.ownsRow _ _ _ _ _ _ _
      rw [List.length_append, List.map_append]
      exact h7
    · refine wpList_append_grows w hgd s x 29 ho 9 i0 (.string ByteArray.empty) 1 16 Tryd.underlying29 hi hz0 hz1 hz2 rfl (by decide) (some ⟨g, 0, none⟩) L.length cp (L.map Value.string) (hs.trans g1) (fun e => by simp at e) (by simp) ?_
        ⟨b, of, none⟩ 1 cap [.string y] (by rw [hx, h1]; rfl) rfl hnews hone (by omega) (by unfold maxLen; omega) (by omega) fin
      intro b3 hb3 j u hu
      have hj : j < L.length := by have := (List.getElem?_eq_some_iff.1 hu).1; simpa using this
      rw [← Option.some.inj hb3, Addr.add_mid, Nat.zero_add]
      simp only [World.cell?, g3]
      have e : (L.map Value.string)[j]? = cur[j]? := by
        rw [← g7, List.getElem?_take, if_pos (by omega), Array.getElem?_toList]
      simpa [← e] using hu

/-- Texts P that lie in block kb. -/
def LieS (w : World) (kb o : Nat) (P : List ByteArray) : Prop := ∀ j x, P[j]? = some x → w.cell? ⟨kb, o + j, none⟩ = some (.string x)
theorem LieS.grown {w w' : World} {kb o : Nat} {P : List ByteArray} {r : Option Nat} (h : LieS w kb o P) (hg : w.grownBy w' r) (hr : r ≠ some kb) : LieS w' kb o P :=
  fun j x hj => hg.cell (h j x hj) (fun e => hr e.symm)

set_option maxRecDepth 1000000
set_option maxHeartbeats 8000000 in
theorem refwalk_base (s : ByteArray) (root : List ByteArray) (r rc B0 : Nat) (ra : Option Addr) (w : World) (hw0 : 0 < w.heap.size) (hr : root.length = r) (hr2 : r ≤ 1000) (hsum : sumS root ≤ 100000) (hpr : PartS w B0 (.slice ra r rc) root)
    (hl : ¬ 200 < s.size) (hp : Lib.hasPrefix s.data.toList slash.data.toList = false) : Calls Tryd.prog 24 #[.string s, .slice ra r rc] w (WalkRet w (walkS root s)) := by
  obtain ⟨P, hP⟩ : ∃ P, pieces s = P := ⟨_, rfl⟩
  obtain ⟨N, hPN⟩ : ∃ N, P.length = N := ⟨_, rfl⟩
  have hNs : N ≤ 201 := by rw [← hPN, ← hP]; have := pieces_le s; omega
  have hN0 : 0 < N := by rw [← hPN, ← hP, pieces_len]; omega
  have hsz : ∀ p ∈ P, p.size ≤ 200 := fun p hp => by rw [← hP] at hp; exact Nat.le_trans (pieces_size s p hp) (by omega)
  have e : Hid (walkS root s = if (walkL r root P).1 ≠ 0 then (⟨#[]⟩, (walkL r root P).1) else if 12 < (walkL r root P).2.length then (⟨#[]⟩, 50) else (joinB (walkL r root P).2, 0)) := by
    show _ = _; unfold walkS; rw [if_neg (by simp [hp]), hP, hr]
  have hss : s.size ≤ 200 := by omega
  have h2 : decide (200 < (s.size : Int)) = false := by simp; omega
  have HPP := Lib.hid hP
  have HPN := Lib.hid hPN
  have HSZ := Lib.hid hsz
  have HR := Lib.hid hr
  rw [prefix_byte] at hp
  have hs0 : s.size = 0 ∨ ∃ h : 0 < s.size, ∃ c : UInt8, s[0]'h = c ∧ ((c.toNat : Int) == 47) = false := by
    by_cases h : 0 < s.size
    · refine .inr ⟨h, s[0]'h, rfl, ?_⟩
      rw [decide_eq_true h, Bool.true_and, byteAt_eq s 0 h] at hp
      refine beq_no _ _ fun e => ?_
      have : (s[0]'h) = 47 := by apply UInt8.toNat_inj.1; show _ = 47; omega
      rw [this] at hp; simp at hp
    · exact .inl (by omega)
  have HW0 := Lib.hid hw0
  have HS5 := Lib.hid (show s.size ≤ 100000 by omega)
  have HPR := Lib.hid hpr
  clear hp hP hPN hsz hl hw0 hr hpr
  rcases hs0 with h0 | ⟨h0, c, hc, hc47⟩
  · have h3 : decide (0 < (s.size : Int)) = false := by rw [h0]; rfl
    go_enter Tryd.func24, Tryd.ntmps24
    go_wp2_with (at_builtin; go_must (with_reducible refine app_str (o := ⟨some 21, _, _, _, _, _⟩) rfl _ _ rfl w.heap.size B0 (.slice none 0 0) _ [] root ?_ (OwnsS.nil _ _) ?_ HPR.out ?_ (Nat.le_refl _) ?_); go_must (exact rfl); go_must (exact rfl); go_must ((have := HR.out; simp; omega)); (intro vb wb hob hgb); have HOB := Lib.hid hob; have HGB := Lib.hid hgb; clear hob hgb)
    (with_reducible refine (refsplit_any s HS5.out _).mono ?_)
    rintro ee w1 ⟨lv, rfl, hlo, hlg⟩
    dsimp only
    rw [HPP.out] at hlo
    obtain ⟨la, lcap, hlf, hlc, hlm⟩ := hlo.form
    rw [HPN.out] at hlf hlc
    subst hlf
    obtain ⟨kb, hkb, hkb1, hkb2, hlie⟩ : ∃ kb, la = some ⟨kb, 0, none⟩ ∧ wb.heap.size ≤ kb ∧ kb < w1.heap.size ∧ LieS w1 kb 0 P := by
      rcases hlo.2 with ⟨g1, g2⟩ | ⟨g, cp, cur, g1, g2, g3, g4, g5, g6, g7⟩
      · have := HPN.out; omega
      · refine ⟨g, (Value.slice.inj g1).1, g2, (hlo.block_lt g (by rw [g1]; rfl)).2, fun j x hj => ?_⟩
        rw [Nat.zero_add]
        simp only [World.cell?, g3]
        have hjl := (List.getElem?_eq_some_iff.1 hj).1
        have e : (P.map Value.string)[j]? = cur[j]? := by
          rw [← g7, List.getElem?_take, if_pos (by omega), Array.getElem?_toList]
        rw [List.getElem?_map, hj] at e
        simpa using e.symm
    subst hkb
    have hvb : vb.ownBlock ≠ some kb := by
      intro e2
      have := (HOB.out.block_lt kb e2).2
      omega
    have hvb2 : OwnsS w1 w.heap.size vb root := OwnsS.stays HOB.out hlg
    have HVB := Lib.hid hvb
    have HVB2 := Lib.hid hvb2
    have HLI := Lib.hid hlie
    have HLG := Lib.hid (show w.grownBy w1 none from World.grownBy.trans (OwnsS.grown (OwnsS.nil w w.heap.size) (World.grownBy.refl _ _) HGB.out) hlg)
    obtain ⟨va, vcap, hvf, hvc, hvm⟩ := HVB2.out.form
    subst hvf
    have HL1 := Lib.hid hlg.size
    have HGS := Lib.hid HGB.out.size
    clear hlo hlg hvb hvb2 hlie
    go_wp2
    go_loopw [6, 8] (fun v i wr => ∃ (k n cp : Nat) (ad : Option Addr) (out : List ByteArray), k ≤ N ∧ i = .int .i64 k ∧ v = .slice ad n cp ∧ n = out.length ∧ cp ≤ 9223372036854775807 ∧ WalkAt r root P out k ∧ OwnsS wr w.heap.size v out ∧ v.ownBlock ≠ some kb ∧ LieS wr kb 0 P ∧ w.grownBy wr none ∧ w1.heap.size ≤ wr.heap.size) (fun _ i _ => N - (intOf i).toNat)
    case atStart => exact ⟨0, root.length, vcap, va, root, by omega, rfl, rfl, rfl, hvm, ⟨rfl, by rw [HR.out]; exact Nat.le_refl _, by rw [HR.out]; exact Nat.le_refl _, by omega⟩, HVB2.out, HVB.out, HLI.out, HLG.out, Nat.le_refl _⟩
    case round =>
      obtain ⟨k, n, cp, ad, out, hk, rfl, rfl, hn, hcp, hat, hown, hne, hli, hgw, hws⟩ := hrel
      have hnr : r ≤ n := by rw [hn]; exact hat.least
      have hnk : n ≤ r + k := by rw [hn]; exact hat.most
      have hncp : n ≤ cp := by
        obtain ⟨a', cap', h2, h3, h4⟩ := hown.form
        have := Value.slice.inj h2; omega
      have HN := Lib.hid hn
      have HAT := Lib.hid hat
      have HO := Lib.hid hown
      have HG := Lib.hid hgw
      have HNE := Lib.hid hne
      have HLR := Lib.hid hli
      have HWS := Lib.hid hws
      clear hn hat hown hgw hne hli hws
      by_cases hlt : k < N
      · obtain ⟨x, hx⟩ : ∃ x, strAt P k = x := ⟨_, rfl⟩
        have hPk : P[k]? = some x := by rw [← hx]; exact strAt_eq P k (by rw [HPN.out]; exact hlt)
        have hcx : wr.cell? ⟨kb, k, none⟩ = some (.string x) := by have := HLR.out k x hPk; rwa [Nat.zero_add] at this
        have hx1 : x.size ≤ 200 := HSZ.out x (List.mem_of_getElem? hPk)
        have hdrop := Lib.hid (show P.drop k = x :: P.drop (k + 1) by
          have hl := (List.getElem?_eq_some_iff.1 hPk)
          obtain ⟨hl1, hl2⟩ := hl
          rw [List.drop_eq_getElem_cons hl1, hl2])
        clear hx hPk
        by_cases h1 : x = ⟨#[]⟩ ∨ x = dot
        · have hnext := Lib.hid (show WalkAt r root P out (k + 1) from ⟨by rw [HAT.out.same, hdrop.out, walkL_none _ _ _ _ h1], HAT.out.least, by have := HAT.out.most; omega, by have := HAT.out.sum; omega⟩)
          rcases h1 with rfl | rfl
          · go_wp2
            go_roundw
            case rel => exact ⟨k + 1, n, cp, ad, out, by omega, by go_num, rfl, HN.out, hcp, hnext.out, HO.out, HNE.out, HLR.out, HG.out, HWS.out⟩
            case measure => simp [intOf]; omega
          · unfold dot at hcx
            go_wp2
            go_roundw
            case rel => exact ⟨k + 1, n, cp, ad, out, by omega, by go_num, rfl, HN.out, hcp, hnext.out, HO.out, HNE.out, HLR.out, HG.out, HWS.out⟩
            case measure => simp [intOf]; omega
        · by_cases h2 : x = dots
          · subst h2
            clear h1
            by_cases h3 : n = r
            · have he : Hid (walkS root s = (⟨#[]⟩, 51)) := by
                show _ = _
                rw [e.out, HAT.out.same, hdrop.out, walkL_out r out _ (by rw [← HN.out]; exact h3)]
                rfl
              unfold dots at hcx
              subst h3
              go_wp2
              go_ret2
              exact ⟨by rw [he.out]; rfl, HG.out⟩
            · have hsh := Lib.hid (HO.out.shorter HN.out.symm (by omega))
              have hnext := Lib.hid (show WalkAt r root P out.dropLast (k + 1) from ⟨by rw [HAT.out.same, hdrop.out, walkL_up r out _ (by rw [← HN.out]; exact h3)], by rw [List.length_dropLast, ← HN.out]; omega, by rw [List.length_dropLast, ← HN.out]; omega, by have := HAT.out.sum; have := sumS_drop out; omega⟩)
              have hne9 : Hid ((Value.slice ad (n - 1) cp).ownBlock ≠ some kb) := by
                have := HNE.out
                cases ad <;> exact this
              unfold dots at hcx
              have hne : decide (n ≤ r) = false := by simp; omega
              have hne2 : r < n := by omega
              have hne3 : 0 < (n : Int) := by omega
              go_wp2
              go_roundw
              case rel =>
                refine ⟨k + 1, n - 1, cp, ad, out.dropLast, by omega, by go_num, rfl, by rw [List.length_dropLast, HN.out], hcp, hnext.out, hsh.out, hne9.out, HLR.out, HG.out, HWS.out⟩
              case measure => simp [intOf]; omega
          · have b1 : ¬ x = ⟨#[]⟩ := fun e => h1 (.inl e)
            have b2 : ¬ x = ⟨#[46]⟩ := fun e => h1 (.inr e)
            have b3 : ¬ x = ⟨#[46, 46]⟩ := h2
            have d1 := ne_list x [] b1
            have d2 := ne_list x [46] b2
            have d3 := ne_list x [46, 46] b3
            have c1 : x.toList.isEmpty = false := by
              cases hl : x.toList with
              | nil => exact absurd hl d1
              | cons _ _ => rfl
            have c2 := nb_list x [46] b2
            have c3 := nb_list x [46, 46] b3
            have H1 := Lib.hid b1
            have H2 := Lib.hid b2
            have H3 := Lib.hid b3
            clear h1 h2 b1 b2 b3
            go_wp2_with fail
            (with_reducible refine (bad_any x (by omega) _).mono ?_)
            rintro ee w' ⟨rfl, hw'⟩
            rw [hw']
            clear hw' w'
            dsimp only
            by_cases hg : okPart x = true
            · rw [hg]
              have hsum2 := sumS_snoc out x
              have hnext := Lib.hid (show WalkAt r root P (out ++ [x]) (k + 1) from ⟨by rw [HAT.out.same, hdrop.out, walkL_good r out x _ H1.out H2.out H3.out hg], by rw [List.length_append, ← HN.out]; omega, by rw [List.length_append, ← HN.out]; simp; omega, by rw [hsum2]; have := HAT.out.sum; omega⟩)
              clear hsum2 hg
              go_wp2_with (at_builtin; go_must (with_reducible refine app_apart (o := ⟨some 36, _, _, _, _, _⟩) rfl _ _ rfl w.heap.size (wr.heap.size + 1) kb (.slice ad n cp) _ out x ?_ (HO.out.alloc _) ?_ (part_str wr _ 9) ?_ ?_ HNE.out ?_ ?_); go_must (exact rfl); go_must (exact rfl); go_must ((have := HN.out; omega)); go_must ((have := HG.out.size; rw [alloc_size]; omega)); go_must ((have := HWS.out; rw [alloc_size]; omega)); (intro v2 w2 ho2 hg2 hn2); have HO2 := Lib.hid ho2; have HG2 := Lib.hid (HO.out.alloc (.cells #[.string x] 9) |>.grown (World.grownBy.trans HG.out (World.grownBy_alloc _ _ _)) hg2); have HN2 := Lib.hid hn2; have HL2 := Lib.hid ((HLR.out.grown (World.grownBy_alloc wr (.cells #[.string x] 9) none) (by simp)).grown hg2 HNE.out); have HW2 := Lib.hid (show w1.heap.size ≤ w2.heap.size by have := HWS.out; have := hg2.size; rw [alloc_size] at this; omega); clear ho2 hg2 hn2)
              go_roundw
              case rel =>
                obtain ⟨ad2, cp2, e1, e2, e3⟩ := HO2.out.form
                exact ⟨k + 1, _, cp2, ad2, out ++ [x], by omega, by go_num, e1, rfl, e3, hnext.out, HO2.out, HN2.out, HL2.out, HG2.out, HW2.out⟩
              case measure => simp [intOf]; omega
            · have hg' : okPart x = false := by simpa using hg
              rw [hg']
              have he : Hid (walkS root s = (⟨#[]⟩, 50)) := by
                show _ = _
                rw [e.out, HAT.out.same, hdrop.out, walkL_bad r out x _ H1.out H2.out H3.out hg']
                rfl
              clear hg hg'
              go_wp2
              go_ret2
              exact ⟨by rw [he.out]; rfl, HG.out⟩
      · have hkN : k = N := by omega
        subst hkN
        clear hlt hk
        have hw : Hid (walkL r root P = (0, out)) := by
          show _ = _
          rw [HAT.out.same, List.drop_of_length_le (by rw [HPN.out]; exact Nat.le_refl _)]
          rfl
        have hpart : Hid (PartS wr wr.heap.size (.slice ad n cp) out) := HO.out.part (by have := HG.out.size; have := HW0.out; omega)
        by_cases h12 : 12 < n
        · have he : Hid (walkS root s = (⟨#[]⟩, 50)) := by
            show _ = _
            rw [e.out, hw.out, if_neg (by simp), if_pos (by rw [← HN.out]; exact h12)]
          have h13 : 12 < (n : Int) := by omega
          clear h12
          go_wp2
          go_ret2
          exact ⟨by rw [he.out]; rfl, HG.out⟩
        · have he : Hid (walkS root s = (joinB out, 0)) := by
            show _ = _
            rw [e.out, hw.out, if_neg (by simp), if_neg (by rw [← HN.out]; exact h12)]
          have h13 : decide (12 < (n : Int)) = false := by simp; omega
          have hsm : sumS out ≤ 100000000 := by have := HAT.out.sum; omega
          have HSM := Lib.hid hsm
          clear hsm
          go_wp2_with fail
          (with_reducible refine (glue_any wr.heap.size n cp ad out _ HN.out.symm (by omega) HSM.out hpart.out).mono ?_)
          rintro ee w' ⟨rfl, hw'⟩
          rw [hw']
          clear hw' w'
          dsimp only
          go_wp2
          go_ret2
          exact ⟨by rw [he.out]; rfl, HG.out⟩
  · have h3 : 0 < (s.size : Int) := by omega
    go_enter Tryd.func24, Tryd.ntmps24
    go_wp2_with (at_builtin; go_must (with_reducible refine app_str (o := ⟨some 21, _, _, _, _, _⟩) rfl _ _ rfl w.heap.size B0 (.slice none 0 0) _ [] root ?_ (OwnsS.nil _ _) ?_ HPR.out ?_ (Nat.le_refl _) ?_); go_must (exact rfl); go_must (exact rfl); go_must ((have := HR.out; simp; omega)); (intro vb wb hob hgb); have HOB := Lib.hid hob; have HGB := Lib.hid hgb; clear hob hgb)
    (with_reducible refine (refsplit_any s HS5.out _).mono ?_)
    rintro ee w1 ⟨lv, rfl, hlo, hlg⟩
    dsimp only
    rw [HPP.out] at hlo
    obtain ⟨la, lcap, hlf, hlc, hlm⟩ := hlo.form
    rw [HPN.out] at hlf hlc
    subst hlf
    obtain ⟨kb, hkb, hkb1, hkb2, hlie⟩ : ∃ kb, la = some ⟨kb, 0, none⟩ ∧ wb.heap.size ≤ kb ∧ kb < w1.heap.size ∧ LieS w1 kb 0 P := by
      rcases hlo.2 with ⟨g1, g2⟩ | ⟨g, cp, cur, g1, g2, g3, g4, g5, g6, g7⟩
      · have := HPN.out; omega
      · refine ⟨g, (Value.slice.inj g1).1, g2, (hlo.block_lt g (by rw [g1]; rfl)).2, fun j x hj => ?_⟩
        rw [Nat.zero_add]
        simp only [World.cell?, g3]
        have hjl := (List.getElem?_eq_some_iff.1 hj).1
        have e : (P.map Value.string)[j]? = cur[j]? := by
          rw [← g7, List.getElem?_take, if_pos (by omega), Array.getElem?_toList]
        rw [List.getElem?_map, hj] at e
        simpa using e.symm
    subst hkb
    have hvb : vb.ownBlock ≠ some kb := by
      intro e2
      have := (HOB.out.block_lt kb e2).2
      omega
    have hvb2 : OwnsS w1 w.heap.size vb root := OwnsS.stays HOB.out hlg
    have HVB := Lib.hid hvb
    have HVB2 := Lib.hid hvb2
    have HLI := Lib.hid hlie
    have HLG := Lib.hid (show w.grownBy w1 none from World.grownBy.trans (OwnsS.grown (OwnsS.nil w w.heap.size) (World.grownBy.refl _ _) HGB.out) hlg)
    obtain ⟨va, vcap, hvf, hvc, hvm⟩ := HVB2.out.form
    subst hvf
    have HL1 := Lib.hid hlg.size
    have HGS := Lib.hid HGB.out.size
    clear hlo hlg hvb hvb2 hlie
    go_wp2
    go_loopw [6, 8] (fun v i wr => ∃ (k n cp : Nat) (ad : Option Addr) (out : List ByteArray), k ≤ N ∧ i = .int .i64 k ∧ v = .slice ad n cp ∧ n = out.length ∧ cp ≤ 9223372036854775807 ∧ WalkAt r root P out k ∧ OwnsS wr w.heap.size v out ∧ v.ownBlock ≠ some kb ∧ LieS wr kb 0 P ∧ w.grownBy wr none ∧ w1.heap.size ≤ wr.heap.size) (fun _ i _ => N - (intOf i).toNat)
    case atStart => exact ⟨0, root.length, vcap, va, root, by omega, rfl, rfl, rfl, hvm, ⟨rfl, by rw [HR.out]; exact Nat.le_refl _, by rw [HR.out]; exact Nat.le_refl _, by omega⟩, HVB2.out, HVB.out, HLI.out, HLG.out, Nat.le_refl _⟩
    case round =>
      obtain ⟨k, n, cp, ad, out, hk, rfl, rfl, hn, hcp, hat, hown, hne, hli, hgw, hws⟩ := hrel
      have hnr : r ≤ n := by rw [hn]; exact hat.least
      have hnk : n ≤ r + k := by rw [hn]; exact hat.most
      have hncp : n ≤ cp := by
        obtain ⟨a', cap', h2, h3, h4⟩ := hown.form
        have := Value.slice.inj h2; omega
      have HN := Lib.hid hn
      have HAT := Lib.hid hat
      have HO := Lib.hid hown
      have HG := Lib.hid hgw
      have HNE := Lib.hid hne
      have HLR := Lib.hid hli
      have HWS := Lib.hid hws
      clear hn hat hown hgw hne hli hws
      by_cases hlt : k < N
      · obtain ⟨x, hx⟩ : ∃ x, strAt P k = x := ⟨_, rfl⟩
        have hPk : P[k]? = some x := by rw [← hx]; exact strAt_eq P k (by rw [HPN.out]; exact hlt)
        have hcx : wr.cell? ⟨kb, k, none⟩ = some (.string x) := by have := HLR.out k x hPk; rwa [Nat.zero_add] at this
        have hx1 : x.size ≤ 200 := HSZ.out x (List.mem_of_getElem? hPk)
        have hdrop := Lib.hid (show P.drop k = x :: P.drop (k + 1) by
          have hl := (List.getElem?_eq_some_iff.1 hPk)
          obtain ⟨hl1, hl2⟩ := hl
          rw [List.drop_eq_getElem_cons hl1, hl2])
        clear hx hPk
        by_cases h1 : x = ⟨#[]⟩ ∨ x = dot
        · have hnext := Lib.hid (show WalkAt r root P out (k + 1) from ⟨by rw [HAT.out.same, hdrop.out, walkL_none _ _ _ _ h1], HAT.out.least, by have := HAT.out.most; omega, by have := HAT.out.sum; omega⟩)
          rcases h1 with rfl | rfl
          · go_wp2
            go_roundw
            case rel => exact ⟨k + 1, n, cp, ad, out, by omega, by go_num, rfl, HN.out, hcp, hnext.out, HO.out, HNE.out, HLR.out, HG.out, HWS.out⟩
            case measure => simp [intOf]; omega
          · unfold dot at hcx
            go_wp2
            go_roundw
            case rel => exact ⟨k + 1, n, cp, ad, out, by omega, by go_num, rfl, HN.out, hcp, hnext.out, HO.out, HNE.out, HLR.out, HG.out, HWS.out⟩
            case measure => simp [intOf]; omega
        · by_cases h2 : x = dots
          · subst h2
            clear h1
            by_cases h3 : n = r
            · have he : Hid (walkS root s = (⟨#[]⟩, 51)) := by
                show _ = _
                rw [e.out, HAT.out.same, hdrop.out, walkL_out r out _ (by rw [← HN.out]; exact h3)]
                rfl
              unfold dots at hcx
              subst h3
              go_wp2
              go_ret2
              exact ⟨by rw [he.out]; rfl, HG.out⟩
            · have hsh := Lib.hid (HO.out.shorter HN.out.symm (by omega))
              have hnext := Lib.hid (show WalkAt r root P out.dropLast (k + 1) from ⟨by rw [HAT.out.same, hdrop.out, walkL_up r out _ (by rw [← HN.out]; exact h3)], by rw [List.length_dropLast, ← HN.out]; omega, by rw [List.length_dropLast, ← HN.out]; omega, by have := HAT.out.sum; have := sumS_drop out; omega⟩)
              have hne9 : Hid ((Value.slice ad (n - 1) cp).ownBlock ≠ some kb) := by
                have := HNE.out
                cases ad <;> exact this
              unfold dots at hcx
              have hne : decide (n ≤ r) = false := by simp; omega
              have hne2 : r < n := by omega
              have hne3 : 0 < (n : Int) := by omega
              go_wp2
              go_roundw
              case rel =>
                refine ⟨k + 1, n - 1, cp, ad, out.dropLast, by omega, by go_num, rfl, by rw [List.length_dropLast, HN.out], hcp, hnext.out, hsh.out, hne9.out, HLR.out, HG.out, HWS.out⟩
              case measure => simp [intOf]; omega
          · have b1 : ¬ x = ⟨#[]⟩ := fun e => h1 (.inl e)
            have b2 : ¬ x = ⟨#[46]⟩ := fun e => h1 (.inr e)
            have b3 : ¬ x = ⟨#[46, 46]⟩ := h2
            have d1 := ne_list x [] b1
            have d2 := ne_list x [46] b2
            have d3 := ne_list x [46, 46] b3
            have c1 : x.toList.isEmpty = false := by
              cases hl : x.toList with
              | nil => exact absurd hl d1
              | cons _ _ => rfl
            have c2 := nb_list x [46] b2
            have c3 := nb_list x [46, 46] b3
            have H1 := Lib.hid b1
            have H2 := Lib.hid b2
            have H3 := Lib.hid b3
            clear h1 h2 b1 b2 b3
            go_wp2_with fail
            (with_reducible refine (bad_any x (by omega) _).mono ?_)
            rintro ee w' ⟨rfl, hw'⟩
            rw [hw']
            clear hw' w'
            dsimp only
            by_cases hg : okPart x = true
            · rw [hg]
              have hsum2 := sumS_snoc out x
              have hnext := Lib.hid (show WalkAt r root P (out ++ [x]) (k + 1) from ⟨by rw [HAT.out.same, hdrop.out, walkL_good r out x _ H1.out H2.out H3.out hg], by rw [List.length_append, ← HN.out]; omega, by rw [List.length_append, ← HN.out]; simp; omega, by rw [hsum2]; have := HAT.out.sum; omega⟩)
              clear hsum2 hg
              go_wp2_with (at_builtin; go_must (with_reducible refine app_apart (o := ⟨some 36, _, _, _, _, _⟩) rfl _ _ rfl w.heap.size (wr.heap.size + 1) kb (.slice ad n cp) _ out x ?_ (HO.out.alloc _) ?_ (part_str wr _ 9) ?_ ?_ HNE.out ?_ ?_); go_must (exact rfl); go_must (exact rfl); go_must ((have := HN.out; omega)); go_must ((have := HG.out.size; rw [alloc_size]; omega)); go_must ((have := HWS.out; rw [alloc_size]; omega)); (intro v2 w2 ho2 hg2 hn2); have HO2 := Lib.hid ho2; have HG2 := Lib.hid (HO.out.alloc (.cells #[.string x] 9) |>.grown (World.grownBy.trans HG.out (World.grownBy_alloc _ _ _)) hg2); have HN2 := Lib.hid hn2; have HL2 := Lib.hid ((HLR.out.grown (World.grownBy_alloc wr (.cells #[.string x] 9) none) (by simp)).grown hg2 HNE.out); have HW2 := Lib.hid (show w1.heap.size ≤ w2.heap.size by have := HWS.out; have := hg2.size; rw [alloc_size] at this; omega); clear ho2 hg2 hn2)
              go_roundw
              case rel =>
                obtain ⟨ad2, cp2, e1, e2, e3⟩ := HO2.out.form
                exact ⟨k + 1, _, cp2, ad2, out ++ [x], by omega, by go_num, e1, rfl, e3, hnext.out, HO2.out, HN2.out, HL2.out, HG2.out, HW2.out⟩
              case measure => simp [intOf]; omega
            · have hg' : okPart x = false := by simpa using hg
              rw [hg']
              have he : Hid (walkS root s = (⟨#[]⟩, 50)) := by
                show _ = _
                rw [e.out, HAT.out.same, hdrop.out, walkL_bad r out x _ H1.out H2.out H3.out hg']
                rfl
              clear hg hg'
              go_wp2
              go_ret2
              exact ⟨by rw [he.out]; rfl, HG.out⟩
      · have hkN : k = N := by omega
        subst hkN
        clear hlt hk
        have hw : Hid (walkL r root P = (0, out)) := by
          show _ = _
          rw [HAT.out.same, List.drop_of_length_le (by rw [HPN.out]; exact Nat.le_refl _)]
          rfl
        have hpart : Hid (PartS wr wr.heap.size (.slice ad n cp) out) := HO.out.part (by have := HG.out.size; have := HW0.out; omega)
        by_cases h12 : 12 < n
        · have he : Hid (walkS root s = (⟨#[]⟩, 50)) := by
            show _ = _
            rw [e.out, hw.out, if_neg (by simp), if_pos (by rw [← HN.out]; exact h12)]
          have h13 : 12 < (n : Int) := by omega
          clear h12
          go_wp2
          go_ret2
          exact ⟨by rw [he.out]; rfl, HG.out⟩
        · have he : Hid (walkS root s = (joinB out, 0)) := by
            show _ = _
            rw [e.out, hw.out, if_neg (by simp), if_neg (by rw [← HN.out]; exact h12)]
          have h13 : decide (12 < (n : Int)) = false := by simp; omega
          have hsm : sumS out ≤ 100000000 := by have := HAT.out.sum; omega
          have HSM := Lib.hid hsm
          clear hsm
          go_wp2_with fail
          (with_reducible refine (glue_any wr.heap.size n cp ad out _ HN.out.symm (by omega) HSM.out hpart.out).mono ?_)
          rintro ee w' ⟨rfl, hw'⟩
          rw [hw']
          clear hw' w'
          dsimp only
          go_wp2
          go_ret2
          exact ⟨by rw [he.out]; rfl, HG.out⟩
end Go.Proofs.YtghfnmnjomdacaaDoor
