/- Texts of one ground, in one file: QJ QI QK QL. -/
import Derived.Test.YtichejodbohldaaGreatDoorP4
import Derived.BigRegion
namespace Go.Proofs.YtichejodbohldaaGreatDoor.Pth
open Go.RowKit

/-- The document's clean path, or why there is none. -/
def cleanS (s : ByteArray) : ByteArray × Int := if 200 < s.size then (⟨#[]⟩, 50) else walkS [] s

theorem full_nil (w : World) (h : 0 < w.heap.size) : FullS w (.slice none 0 0) [] := ⟨⟨none, rfl, fun _ => rfl⟩, w.heap.size, Nat.le_refl _, (OwnsS.nil w 0).part h⟩
theorem walk_nil (m : Int) (s : ByteArray) (w : World) (hs : s.size ≤ 100000) (hm : w.cell? ⟨0, 0, none⟩ = some (.int .i64 m)) :
    Calls Tryz.prog 73 #[.slice none 0 0, .string s] w (WalkRet w (walkS [] s)) :=
  walk_any m 0 none [] s w rfl (by omega) (full_nil w (World.block_lt_of_cell? _ _ hm)) hs (Nat.zero_le _) hm

set_option maxRecDepth 1000000
set_option maxHeartbeats 1000000 in
theorem clean_any (m : Int) (s : ByteArray) (w : World) (hm : w.cell? ⟨0, 0, none⟩ = some (.int .i64 m)) :
    Calls Tryz.prog 49 #[.string s] w (WalkRet w (cleanS s)) := by
  by_cases hl : 200 < s.size
  · have e : Hid (cleanS s = (⟨#[]⟩, 50)) := by show _ = _; unfold cleanS; rw [if_pos hl]
    have h2 : 200 < (s.size : Int) := by omega
    clear hl
    go_enter Tryz.func49, Tryz.ntmps49
    go_wp2
    go_ret2
    exact ⟨by rw [e.out]; rfl, World.grownBy.refl _ _⟩
  · have e : Hid (cleanS s = walkS [] s) := by show _ = _; unfold cleanS; rw [if_neg hl]
    have h2 : decide (200 < (s.size : Int)) = false := by simp; omega
    have hs : s.size ≤ 100000 := by omega
    have HM := Lib.hid hm
    clear hl hm
    go_enter Tryz.func49, Tryz.ntmps49
    go_wp2_with fail
    (with_reducible refine (walk_nil m s _ hs HM.out).mono ?_)
    rintro ee w' ⟨rfl, hg⟩
    dsimp only
    have HG := Lib.hid hg
    clear hg
    go_wp2
    go_ret2
    exact ⟨by rw [e.out]; rfl, HG.out⟩

theorem empty_no (x : ByteArray) (h : ¬ x = ⟨#[]⟩) : x.toList.isEmpty = false := by
  cases hl : x.toList with
  | nil => exact absurd hl (ne_list x [] h)
  | cons _ _ => rfl
/-- A path's parts. -/
def partsS (s : ByteArray) : List ByteArray := if s = ⟨#[]⟩ then [] else pieces s
def PartsRet (w : World) (L : List ByteArray) (e : Ending) (w' : World) : Prop := ∃ a, e = .returned (.slice a L.length L.length) ∧ FullS w' (.slice a L.length L.length) L ∧ w.grownBy w' none

end Go.Proofs.YtichejodbohldaaGreatDoor.Pth
namespace Go.Proofs.YtichejodbohldaaGreatDoor.Pth
open Go.RowKit

theorem prefix_byte (s : ByteArray) : Lib.hasPrefix s.data.toList slash.data.toList = (decide (0 < s.size) && (byteAt s 0 == 47)) := by
  unfold byteAt Lib.hasPrefix slash
  have h : s.size = s.data.toList.length := by simp
  rw [h]
  cases s.data.toList with
  | nil => rfl
  | cons a l => simp [List.isPrefixOf]; exact Bool.beq_comm

set_option maxRecDepth 1000000
set_option maxHeartbeats 1000000 in
theorem refclean_long (s : ByteArray) (w : World) (hl : 200 < s.size) : Calls Tryz.prog 69 #[.string s, .slice none 0 0] w (WalkRet w (cleanS s)) := by
  have e : Hid (cleanS s = (⟨#[]⟩, 50)) := by show _ = _; unfold cleanS; rw [if_pos hl]
  have h2 : 200 < (s.size : Int) := by omega
  clear hl
  go_enter Tryz.func69, Tryz.ntmps69
  go_wp2
  go_ret2
  exact ⟨by rw [e.out]; rfl, World.grownBy.refl _ _⟩

set_option maxRecDepth 1000000
set_option maxHeartbeats 1000000 in
theorem refclean_yes (s : ByteArray) (w : World) (hl : ¬ 200 < s.size) (hp : Lib.hasPrefix s.data.toList slash.data.toList = true) : Calls Tryz.prog 69 #[.string s, .slice none 0 0] w (WalkRet w (cleanS s)) := by
  have e : Hid (cleanS s = (⟨#[]⟩, 51)) := by show _ = _; unfold cleanS walkS; rw [if_neg hl, if_pos hp]
  have h2 : decide (200 < (s.size : Int)) = false := by simp; omega
  rw [prefix_byte, Bool.and_eq_true, decide_eq_true_eq] at hp
  obtain ⟨h0, hb⟩ := hp
  have hb2 : s[0]'h0 = 47 := by rw [← byteAt_eq]; exact eq_of_beq hb
  have h3 : 0 < (s.size : Int) := by omega
  clear hl hb
  go_enter Tryz.func69, Tryz.ntmps69
  go_wp2
  go_ret2
  exact ⟨by rw [e.out]; rfl, World.grownBy.refl _ _⟩

set_option maxRecDepth 1000000
set_option maxHeartbeats 8000000 in
theorem refclean_no (s : ByteArray) (w : World) (hw0 : 0 < w.heap.size) (hl : ¬ 200 < s.size) (hp : Lib.hasPrefix s.data.toList slash.data.toList = false) : Calls Tryz.prog 69 #[.string s, .slice none 0 0] w (WalkRet w (cleanS s)) := by
  obtain ⟨P, hP⟩ : ∃ P, pieces s = P := ⟨_, rfl⟩
  obtain ⟨N, hPN⟩ : ∃ N, P.length = N := ⟨_, rfl⟩
  have hNs : N ≤ 201 := by rw [← hPN, ← hP]; have := pieces_le s; omega
  have hN0 : 0 < N := by rw [← hPN, ← hP, pieces_len]; omega
  have hsz : ∀ p ∈ P, p.size ≤ 200 := fun p hp => by rw [← hP] at hp; exact Nat.le_trans (pieces_size s p hp) (by omega)
  have e : Hid (cleanS s = if (walkL 0 [] P).1 ≠ 0 then (⟨#[]⟩, (walkL 0 [] P).1) else if 12 < (walkL 0 [] P).2.length then (⟨#[]⟩, 50) else (joinB (walkL 0 [] P).2, 0)) := by
    show _ = _; unfold cleanS walkS; rw [if_neg hl, if_neg (by simp [hp]), hP]; rfl
  have hss : s.size ≤ 200 := by omega
  have h2 : decide (200 < (s.size : Int)) = false := by simp; omega
  have HPP := Lib.hid hP
  have HPN := Lib.hid hPN
  have HSZ := Lib.hid hsz
  rw [prefix_byte] at hp
  have hs0 : s.size = 0 ∨ ∃ h : 0 < s.size, ∃ c : UInt8, s[0]'h = c ∧ ((c.toNat : Int) == 47) = false := by
    by_cases h : 0 < s.size
    · refine .inr ⟨h, s[0]'h, rfl, ?_⟩
      rw [decide_eq_true h, Bool.true_and, byteAt_eq s 0 h] at hp
      refine beq_no _ _ fun e => ?_
      have : (s[0]'h) = 47 := by apply UInt8.toNat_inj.1; show _ = 47; omega
      rw [this] at hp; simp at hp
    · exact .inl (by omega)
  have HW0 := Lib.hid hw0
  have HS5 := Lib.hid (show s.size ≤ 100000 by omega)
  clear hp hP hPN hsz hl hw0
  have hpn : Hid (∀ W : World, 0 < W.heap.size → PartS W W.heap.size (.slice none 0 0) []) := fun W h => (OwnsS.nil W 0).part h
  rcases hs0 with h0 | ⟨h0, c, hc, hc47⟩
  · have h3 : decide (0 < (s.size : Int)) = false := by rw [h0]; rfl
    go_enter Tryz.func69, Tryz.ntmps69
    go_wp2_with fail
    (with_reducible refine (refsplit_any s HS5.out _).mono ?_)
    rintro ee w1 ⟨lv, rfl, hlo, hlg⟩
    dsimp only
    rw [HPP.out] at hlo
    obtain ⟨la, lcap, hlf, hlc, hlm⟩ := hlo.form
    rw [HPN.out] at hlf hlc
    have hlp := hlo.part (by have := hlg.size; have := HW0.out; omega)
    subst hlf
    obtain ⟨a', cap', b, o, f1, f2, f3, f4, f5, f6⟩ := hlp
    have he := Value.slice.inj f1
    have hla := f5 (by rw [HPN.out]; exact hN0)
    rw [← he.1] at hla
    subst hla
    have HB := Lib.hid f4
    have HF := Lib.hid f6
    have HLG := Lib.hid hlg
    clear hlo hlg f1 f2 f3 f4 f5 f6 he
    go_wp2
    go_loopw [6, 8] (fun v i wr => ∃ (k n cp : Nat) (ad : Option Addr) (out : List ByteArray), k ≤ N ∧ i = .int .i64 k ∧ v = .slice ad n cp ∧ n = out.length ∧ cp ≤ 9223372036854775807 ∧ WalkAt 0 [] P out k ∧ OwnsS wr w1.heap.size v out ∧ w1.grownBy wr none) (fun _ i _ => N - (intOf i).toNat)
    case atStart => exact ⟨0, 0, 0, none, [], by omega, rfl, rfl, rfl, by omega, ⟨rfl, Nat.le_refl _, Nat.le_refl _, Nat.zero_le _⟩, OwnsS.nil _ _, World.grownBy.refl _ _⟩
    case round =>
      obtain ⟨k, n, cp, ad, out, hk, rfl, rfl, hn, hcp, hat, hown, hgw⟩ := hrel
      have hnk : n ≤ 0 + k := by rw [hn]; exact hat.most
      have hncp : n ≤ cp := by
        obtain ⟨a', cap', h2, h3, h4⟩ := hown.form
        have := Value.slice.inj h2; omega
      have HN := Lib.hid hn
      have HAT := Lib.hid hat
      have HO := Lib.hid hown
      have HG := Lib.hid hgw
      clear hn hat hown hgw
      by_cases hlt : k < N
      · obtain ⟨x, hx⟩ : ∃ x, strAt P k = x := ⟨_, rfl⟩
        have hPk : P[k]? = some x := by rw [← hx]; exact strAt_eq P k (by rw [HPN.out]; exact hlt)
        have hcx : wr.cell? ⟨b, o + k, none⟩ = some (.string x) := HG.out.cell (HF.out k x hPk) (by simp)
        have hx1 : x.size ≤ 200 := HSZ.out x (List.mem_of_getElem? hPk)
        have hdrop := Lib.hid (show P.drop k = x :: P.drop (k + 1) by
          have hl := (List.getElem?_eq_some_iff.1 hPk)
          obtain ⟨hl1, hl2⟩ := hl
          rw [List.drop_eq_getElem_cons hl1, hl2])
        clear hx hPk
        by_cases h1 : x = ⟨#[]⟩ ∨ x = dot
        · have hnext := Lib.hid (show WalkAt 0 [] P out (k + 1) from ⟨by rw [HAT.out.same, hdrop.out, walkL_none _ _ _ _ h1], HAT.out.least, by have := HAT.out.most; omega, by have := HAT.out.sum; omega⟩)
          rcases h1 with rfl | rfl
          · go_wp2
            go_roundw
            case rel => exact ⟨k + 1, n, cp, ad, out, by omega, by go_num, rfl, HN.out, hcp, hnext.out, HO.out, HG.out⟩
            case measure => simp [intOf]; omega
          · unfold dot at hcx
            go_wp2
            go_roundw
            case rel => exact ⟨k + 1, n, cp, ad, out, by omega, by go_num, rfl, HN.out, hcp, hnext.out, HO.out, HG.out⟩
            case measure => simp [intOf]; omega
        · by_cases h2 : x = dots
          · subst h2
            clear h1
            by_cases h3 : n = 0
            · have he : Hid (cleanS s = (⟨#[]⟩, 51)) := by
                show _ = _
                rw [e.out, HAT.out.same, hdrop.out, walkL_out 0 out _ (by rw [← HN.out]; exact h3)]
                rfl
              unfold dots at hcx
              subst h3
              go_wp2
              go_ret2
              exact ⟨by rw [he.out]; rfl, World.grownBy.trans HLG.out HG.out⟩
            · have hsh := Lib.hid (HO.out.shorter HN.out.symm (by omega))
              have hnext := Lib.hid (show WalkAt 0 [] P out.dropLast (k + 1) from ⟨by rw [HAT.out.same, hdrop.out, walkL_up 0 out _ (by rw [← HN.out]; exact h3)], Nat.zero_le _, by rw [List.length_dropLast, ← HN.out]; omega, by have := HAT.out.sum; have := sumS_drop out; omega⟩)
              unfold dots at hcx
              have hne : decide ((n : Int) ≤ 0) = false := by simp; omega
              have hne2 : 0 < (n : Int) := by omega
              go_wp2
              go_roundw
              case rel =>
                refine ⟨k + 1, n - 1, cp, ad, out.dropLast, by omega, by go_num, rfl, by rw [List.length_dropLast, HN.out], hcp, hnext.out, hsh.out, HG.out⟩
              case measure => simp [intOf]; omega
          · have b1 : ¬ x = ⟨#[]⟩ := fun e => h1 (.inl e)
            have b2 : ¬ x = ⟨#[46]⟩ := fun e => h1 (.inr e)
            have b3 : ¬ x = ⟨#[46, 46]⟩ := h2
            have d1 := ne_list x [] b1
            have d2 := ne_list x [46] b2
            have d3 := ne_list x [46, 46] b3
            have c1 : x.toList.isEmpty = false := by
              cases hl : x.toList with
              | nil => exact absurd hl d1
              | cons _ _ => rfl
            have c2 := nb_list x [46] b2
            have c3 := nb_list x [46, 46] b3
            have H1 := Lib.hid b1
            have H2 := Lib.hid b2
            have H3 := Lib.hid b3
            clear h1 h2 b1 b2 b3
            go_wp2_with fail
            (with_reducible refine (bad_any x (by omega) _).mono ?_)
            rintro ee w' ⟨rfl, hw'⟩
            rw [hw']
            clear hw' w'
            dsimp only
            by_cases hg : okPart x = true
            · rw [hg]
              have hsum2 := sumS_snoc out x
              have hnext := Lib.hid (show WalkAt 0 [] P (out ++ [x]) (k + 1) from ⟨by rw [HAT.out.same, hdrop.out, walkL_good 0 out x _ H1.out H2.out H3.out hg], Nat.zero_le _, by rw [List.length_append, ← HN.out]; simp; omega, by rw [hsum2]; have := HAT.out.sum; omega⟩)
              clear hsum2 hg
              go_wp2_with (at_builtin; go_must (with_reducible refine app_str (o := ⟨some 36, _, _, _, _, _⟩) rfl _ _ rfl w1.heap.size (wr.heap.size + 1) (.slice ad n cp) _ out [x] ?_ (HO.out.alloc _) ?_ (part_str wr _ 9) ?_ ?_ ?_); go_must (exact rfl); go_must (exact rfl); go_must ((have := HN.out; simp; omega)); go_must ((have := HG.out.size; rw [alloc_size]; omega)); (intro v2 w2 ho2 hg2); have HO2 := Lib.hid ho2; have HG2 := Lib.hid (HO.out.alloc (.cells #[.string x] 9) |>.grown (World.grownBy.trans HG.out (World.grownBy_alloc _ _ _)) hg2); clear ho2 hg2)
              go_roundw
              case rel =>
                obtain ⟨ad2, cp2, e1, e2, e3⟩ := HO2.out.form
                exact ⟨k + 1, _, cp2, ad2, out ++ [x], by omega, by go_num, e1, rfl, e3, hnext.out, HO2.out, HG2.out⟩
              case measure => simp [intOf]; omega
            · have hg' : okPart x = false := by simpa using hg
              rw [hg']
              have he : Hid (cleanS s = (⟨#[]⟩, 50)) := by
                show _ = _
                rw [e.out, HAT.out.same, hdrop.out, walkL_bad 0 out x _ H1.out H2.out H3.out hg']
                rfl
              clear hg hg'
              go_wp2
              go_ret2
              exact ⟨by rw [he.out]; rfl, World.grownBy.trans HLG.out HG.out⟩
      · have hkN : k = N := by omega
        subst hkN
        clear hlt hk
        have hw : Hid (walkL 0 [] P = (0, out)) := by
          show _ = _
          rw [HAT.out.same, List.drop_of_length_le (by rw [HPN.out]; exact Nat.le_refl _)]
          rfl
        have hpart : Hid (PartS wr wr.heap.size (.slice ad n cp) out) := HO.out.part (by have := HG.out.size; have := HLG.out.size; have := HW0.out; omega)
        by_cases h12 : 12 < n
        · have he : Hid (cleanS s = (⟨#[]⟩, 50)) := by
            show _ = _
            rw [e.out, hw.out, if_neg (by simp), if_pos (by rw [← HN.out]; exact h12)]
          have h13 : 12 < (n : Int) := by omega
          clear h12
          go_wp2
          go_ret2
          exact ⟨by rw [he.out]; rfl, World.grownBy.trans HLG.out HG.out⟩
        · have he : Hid (cleanS s = (joinB out, 0)) := by
            show _ = _
            rw [e.out, hw.out, if_neg (by simp), if_neg (by rw [← HN.out]; exact h12)]
          have h13 : decide (12 < (n : Int)) = false := by simp; omega
          have hsm : sumS out ≤ 100000000 := by have := HAT.out.sum; omega
          have HSM := Lib.hid hsm
          clear hsm
          go_wp2_with fail
          (with_reducible refine (glue_any wr.heap.size n cp ad out _ HN.out.symm (by omega) HSM.out hpart.out).mono ?_)
          rintro ee w' ⟨rfl, hw'⟩
          rw [hw']
          clear hw' w'
          dsimp only
          go_wp2
          go_ret2
          exact ⟨by rw [he.out]; rfl, World.grownBy.trans HLG.out HG.out⟩
  · have h3 : 0 < (s.size : Int) := by omega
    go_enter Tryz.func69, Tryz.ntmps69
    go_wp2_with fail
    (with_reducible refine (refsplit_any s HS5.out _).mono ?_)
    rintro ee w1 ⟨lv, rfl, hlo, hlg⟩
    dsimp only
    rw [HPP.out] at hlo
    obtain ⟨la, lcap, hlf, hlc, hlm⟩ := hlo.form
    rw [HPN.out] at hlf hlc
    have hlp := hlo.part (by have := hlg.size; have := HW0.out; omega)
    subst hlf
    obtain ⟨a', cap', b, o, f1, f2, f3, f4, f5, f6⟩ := hlp
    have he := Value.slice.inj f1
    have hla := f5 (by rw [HPN.out]; exact hN0)
    rw [← he.1] at hla
    subst hla
    have HB := Lib.hid f4
    have HF := Lib.hid f6
    have HLG := Lib.hid hlg
    clear hlo hlg f1 f2 f3 f4 f5 f6 he
    go_wp2
    go_loopw [6, 8] (fun v i wr => ∃ (k n cp : Nat) (ad : Option Addr) (out : List ByteArray), k ≤ N ∧ i = .int .i64 k ∧ v = .slice ad n cp ∧ n = out.length ∧ cp ≤ 9223372036854775807 ∧ WalkAt 0 [] P out k ∧ OwnsS wr w1.heap.size v out ∧ w1.grownBy wr none) (fun _ i _ => N - (intOf i).toNat)
    case atStart => exact ⟨0, 0, 0, none, [], by omega, rfl, rfl, rfl, by omega, ⟨rfl, Nat.le_refl _, Nat.le_refl _, Nat.zero_le _⟩, OwnsS.nil _ _, World.grownBy.refl _ _⟩
    case round =>
      obtain ⟨k, n, cp, ad, out, hk, rfl, rfl, hn, hcp, hat, hown, hgw⟩ := hrel
      have hnk : n ≤ 0 + k := by rw [hn]; exact hat.most
      have hncp : n ≤ cp := by
        obtain ⟨a', cap', h2, h3, h4⟩ := hown.form
        have := Value.slice.inj h2; omega
      have HN := Lib.hid hn
      have HAT := Lib.hid hat
      have HO := Lib.hid hown
      have HG := Lib.hid hgw
      clear hn hat hown hgw
      by_cases hlt : k < N
      · obtain ⟨x, hx⟩ : ∃ x, strAt P k = x := ⟨_, rfl⟩
        have hPk : P[k]? = some x := by rw [← hx]; exact strAt_eq P k (by rw [HPN.out]; exact hlt)
        have hcx : wr.cell? ⟨b, o + k, none⟩ = some (.string x) := HG.out.cell (HF.out k x hPk) (by simp)
        have hx1 : x.size ≤ 200 := HSZ.out x (List.mem_of_getElem? hPk)
        have hdrop := Lib.hid (show P.drop k = x :: P.drop (k + 1) by
          have hl := (List.getElem?_eq_some_iff.1 hPk)
          obtain ⟨hl1, hl2⟩ := hl
          rw [List.drop_eq_getElem_cons hl1, hl2])
        clear hx hPk
        by_cases h1 : x = ⟨#[]⟩ ∨ x = dot
        · have hnext := Lib.hid (show WalkAt 0 [] P out (k + 1) from ⟨by rw [HAT.out.same, hdrop.out, walkL_none _ _ _ _ h1], HAT.out.least, by have := HAT.out.most; omega, by have := HAT.out.sum; omega⟩)
          rcases h1 with rfl | rfl
          · go_wp2
            go_roundw
            case rel => exact ⟨k + 1, n, cp, ad, out, by omega, by go_num, rfl, HN.out, hcp, hnext.out, HO.out, HG.out⟩
            case measure => simp [intOf]; omega
          · unfold dot at hcx
            go_wp2
            go_roundw
            case rel => exact ⟨k + 1, n, cp, ad, out, by omega, by go_num, rfl, HN.out, hcp, hnext.out, HO.out, HG.out⟩
            case measure => simp [intOf]; omega
        · by_cases h2 : x = dots
          · subst h2
            clear h1
            by_cases h3 : n = 0
            · have he : Hid (cleanS s = (⟨#[]⟩, 51)) := by
                show _ = _
                rw [e.out, HAT.out.same, hdrop.out, walkL_out 0 out _ (by rw [← HN.out]; exact h3)]
                rfl
              unfold dots at hcx
              subst h3
              go_wp2
              go_ret2
              exact ⟨by rw [he.out]; rfl, World.grownBy.trans HLG.out HG.out⟩
            · have hsh := Lib.hid (HO.out.shorter HN.out.symm (by omega))
              have hnext := Lib.hid (show WalkAt 0 [] P out.dropLast (k + 1) from ⟨by rw [HAT.out.same, hdrop.out, walkL_up 0 out _ (by rw [← HN.out]; exact h3)], Nat.zero_le _, by rw [List.length_dropLast, ← HN.out]; omega, by have := HAT.out.sum; have := sumS_drop out; omega⟩)
              unfold dots at hcx
              have hne : decide ((n : Int) ≤ 0) = false := by simp; omega
              have hne2 : 0 < (n : Int) := by omega
              go_wp2
              go_roundw
              case rel =>
                refine ⟨k + 1, n - 1, cp, ad, out.dropLast, by omega, by go_num, rfl, by rw [List.length_dropLast, HN.out], hcp, hnext.out, hsh.out, HG.out⟩
              case measure => simp [intOf]; omega
          · have b1 : ¬ x = ⟨#[]⟩ := fun e => h1 (.inl e)
            have b2 : ¬ x = ⟨#[46]⟩ := fun e => h1 (.inr e)
            have b3 : ¬ x = ⟨#[46, 46]⟩ := h2
            have d1 := ne_list x [] b1
            have d2 := ne_list x [46] b2
            have d3 := ne_list x [46, 46] b3
            have c1 : x.toList.isEmpty = false := by
              cases hl : x.toList with
              | nil => exact absurd hl d1
              | cons _ _ => rfl
            have c2 := nb_list x [46] b2
            have c3 := nb_list x [46, 46] b3
            have H1 := Lib.hid b1
            have H2 := Lib.hid b2
            have H3 := Lib.hid b3
            clear h1 h2 b1 b2 b3
            go_wp2_with fail
            (with_reducible refine (bad_any x (by omega) _).mono ?_)
            rintro ee w' ⟨rfl, hw'⟩
            rw [hw']
            clear hw' w'
            dsimp only
            by_cases hg : okPart x = true
            · rw [hg]
              have hsum2 := sumS_snoc out x
              have hnext := Lib.hid (show WalkAt 0 [] P (out ++ [x]) (k + 1) from ⟨by rw [HAT.out.same, hdrop.out, walkL_good 0 out x _ H1.out H2.out H3.out hg], Nat.zero_le _, by rw [List.length_append, ← HN.out]; simp; omega, by rw [hsum2]; have := HAT.out.sum; omega⟩)
              clear hsum2 hg
              go_wp2_with (at_builtin; go_must (with_reducible refine app_str (o := ⟨some 36, _, _, _, _, _⟩) rfl _ _ rfl w1.heap.size (wr.heap.size + 1) (.slice ad n cp) _ out [x] ?_ (HO.out.alloc _) ?_ (part_str wr _ 9) ?_ ?_ ?_); go_must (exact rfl); go_must (exact rfl); go_must ((have := HN.out; simp; omega)); go_must ((have := HG.out.size; rw [alloc_size]; omega)); (intro v2 w2 ho2 hg2); have HO2 := Lib.hid ho2; have HG2 := Lib.hid (HO.out.alloc (.cells #[.string x] 9) |>.grown (World.grownBy.trans HG.out (World.grownBy_alloc _ _ _)) hg2); clear ho2 hg2)
              go_roundw
              case rel =>
                obtain ⟨ad2, cp2, e1, e2, e3⟩ := HO2.out.form
                exact ⟨k + 1, _, cp2, ad2, out ++ [x], by omega, by go_num, e1, rfl, e3, hnext.out, HO2.out, HG2.out⟩
              case measure => simp [intOf]; omega
            · have hg' : okPart x = false := by simpa using hg
              rw [hg']
              have he : Hid (cleanS s = (⟨#[]⟩, 50)) := by
                show _ = _
                rw [e.out, HAT.out.same, hdrop.out, walkL_bad 0 out x _ H1.out H2.out H3.out hg']
                rfl
              clear hg hg'
              go_wp2
              go_ret2
              exact ⟨by rw [he.out]; rfl, World.grownBy.trans HLG.out HG.out⟩
      · have hkN : k = N := by omega
        subst hkN
        clear hlt hk
        have hw : Hid (walkL 0 [] P = (0, out)) := by
          show _ = _
          rw [HAT.out.same, List.drop_of_length_le (by rw [HPN.out]; exact Nat.le_refl _)]
          rfl
        have hpart : Hid (PartS wr wr.heap.size (.slice ad n cp) out) := HO.out.part (by have := HG.out.size; have := HLG.out.size; have := HW0.out; omega)
        by_cases h12 : 12 < n
        · have he : Hid (cleanS s = (⟨#[]⟩, 50)) := by
            show _ = _
            rw [e.out, hw.out, if_neg (by simp), if_pos (by rw [← HN.out]; exact h12)]
          have h13 : 12 < (n : Int) := by omega
          clear h12
          go_wp2
          go_ret2
          exact ⟨by rw [he.out]; rfl, World.grownBy.trans HLG.out HG.out⟩
        · have he : Hid (cleanS s = (joinB out, 0)) := by
            show _ = _
            rw [e.out, hw.out, if_neg (by simp), if_neg (by rw [← HN.out]; exact h12)]
          have h13 : decide (12 < (n : Int)) = false := by simp; omega
          have hsm : sumS out ≤ 100000000 := by have := HAT.out.sum; omega
          have HSM := Lib.hid hsm
          clear hsm
          go_wp2_with fail
          (with_reducible refine (glue_any wr.heap.size n cp ad out _ HN.out.symm (by omega) HSM.out hpart.out).mono ?_)
          rintro ee w' ⟨rfl, hw'⟩
          rw [hw']
          clear hw' w'
          dsimp only
          go_wp2
          go_ret2
          exact ⟨by rw [he.out]; rfl, World.grownBy.trans HLG.out HG.out⟩

/-- THE REFERENCE's CLEAN, NO BASE. -/
theorem refclean_nil (s : ByteArray) (w : World) (hw0 : 0 < w.heap.size) : Calls Tryz.prog 69 #[.string s, .slice none 0 0] w (WalkRet w (cleanS s)) := by
  by_cases hl : 200 < s.size
  · exact refclean_long s w hl
  · cases hp : Lib.hasPrefix s.data.toList slash.data.toList with
    | true => exact refclean_yes s w hl hp
    | false => exact refclean_no s w hw0 hl hp

set_option maxRecDepth 1000000
set_option maxHeartbeats 1000000 in
theorem refClean_any (s : ByteArray) (w : World) (hw0 : 0 < w.heap.size) : Calls Tryz.prog 38 #[.string s] w (WalkRet w (cleanS s)) := by
  have HW := Lib.hid hw0
  clear hw0
  go_enter Tryz.func38, Tryz.ntmps38
  go_wp2_with fail
  (with_reducible refine (refclean_nil s _ HW.out).mono ?_)
  rintro ee w' ⟨rfl, hg⟩
  dsimp only
  have HG := Lib.hid hg
  clear hg
  go_wp2
  go_ret2
  exact ⟨rfl, HG.out⟩
end Go.Proofs.YtichejodbohldaaGreatDoor.Pth
namespace Go.Proofs.YtichejodbohldaaGreatDoor.Pth
open Go.RowKit

theorem sumS_le (L : List ByteArray) (c : Nat) (h : ∀ p ∈ L, p.size ≤ c) : sumS L ≤ L.length * (c + 1) := by
  induction L with
  | nil => simp [sumS]
  | cons x r ih =>
    have h1 := h x (by simp)
    have h2 := ih fun p hp => h p (by simp [hp])
    simp only [sumS, List.length_cons, Nat.add_mul]
    omega
theorem parts_size (s : ByteArray) : ∀ p ∈ partsS s, p.size ≤ s.size := by
  unfold partsS
  split
  · simp
  · exact pieces_size s
theorem parts_len (s : ByteArray) : (partsS s).length ≤ s.size + 1 := by
  unfold partsS
  split
  · simp
  · exact pieces_le s

/-- The document's path of s below dir. -/
def joinS (dir s : ByteArray) : ByteArray × Int :=
  if 200 < (if dir = ⟨#[]⟩ then s.size else dir.size + 1 + s.size) then (⟨#[]⟩, 50) else walkS (partsS dir) s

/-- A path's parent, and its base, by its last slash. -/
def lastSlash (p : ByteArray) : Int := Lib.lastIndexByte p 47
end Go.Proofs.YtichejodbohldaaGreatDoor.Pth
namespace Go.Proofs.YtichejodbohldaaGreatDoor.Pth
open Go.RowKit

theorem last_any (s : ByteArray) (q : Int) (w : World) (hs : s.size ≤ 100000) (hq : Lib.lastIndexByte s 47 = q) : Calls Tryz.prog 82 #[.string s, .int .u8 47] w fun e w' => e = .returned (.int .i64 q) ∧ w' = w := by
  subst hq; exact Tryz.strings_LastIndexByte s 47 (by omega) w

set_option maxRecDepth 1000000
set_option maxHeartbeats 1000000 in
theorem parent_known (w : World) : Calls Tryz.prog 72 #[.string ⟨#[97, 47, 98, 47, 99]⟩] w fun e w' => e = .returned (.string ⟨#[97, 47, 98]⟩) ∧ w' = w := by
  go_enter Tryz.func72, Tryz.ntmps72
  go_wp2_with fail
  (with_reducible refine (last_any ⟨#[97, 47, 98, 47, 99]⟩ 3 _ (by decide) (by decide)).mono ?_)
  rintro ee w' ⟨rfl, hw'⟩
  rw [hw']
  clear hw' w'
  dsimp only
  go_wp2
  go_ret
  exact ⟨rfl, rfl⟩

theorem has_at (s p : ByteArray) (b : Bool) (w : World) (hp : Lib.hasPrefix s.data.toList p.data.toList = b) :
    Calls Tryz.prog 83 #[.string s, .string p] w fun e w' => e = .returned (.bool b) ∧ w' = w := by
  rw [← hp]; exact Tryz.strings_HasPrefix s p w

set_option maxRecDepth 1000000
set_option maxHeartbeats 1000000 in
theorem within_yes (w : World) : Calls Tryz.prog 74 #[.string ⟨#[97, 47, 98]⟩, .string ⟨#[97]⟩] w fun e w' => e = .returned (.bool true) ∧ w' = w := by
  go_enter Tryz.func74, Tryz.ntmps74
  go_wp2_with fail
  (with_reducible refine (has_at ⟨#[97, 47, 98]⟩ (⟨#[97]⟩ ++ ⟨#[47]⟩) true _ (by decide)).mono ?_)
  rintro ee w' ⟨rfl, hw'⟩
  rw [hw']
  clear hw' w'
  dsimp only
  go_wp2
  go_ret
  exact ⟨rfl, rfl⟩

set_option maxRecDepth 1000000
set_option maxHeartbeats 1000000 in
theorem within_no (w : World) : Calls Tryz.prog 74 #[.string ⟨#[97, 98]⟩, .string ⟨#[97]⟩] w fun e w' => e = .returned (.bool false) ∧ w' = w := by
  go_enter Tryz.func74, Tryz.ntmps74
  go_wp2_with fail
  (with_reducible refine (has_at ⟨#[97, 98]⟩ (⟨#[97]⟩ ++ ⟨#[47]⟩) false _ (by decide)).mono ?_)
  rintro ee w' ⟨rfl, hw'⟩
  rw [hw']
  clear hw' w'
  dsimp only
  go_wp2
  go_ret
  exact ⟨rfl, rfl⟩

/-! The chapter's example, by the functions of lists. -/
theorem kn1 : cleanS ⟨#[97, 47, 46, 47, 98, 47, 46, 46, 47, 99]⟩ = (⟨#[97, 47, 99]⟩, 0) := by decide +kernel
theorem kn2 : cleanS ⟨#[46, 46, 47, 97]⟩ = (⟨#[]⟩, 51) := by decide +kernel
theorem kn3 : joinS ⟨#[97, 47, 98]⟩ ⟨#[46, 46, 47, 99]⟩ = (⟨#[]⟩, 51) := by decide +kernel
theorem kn4 : joinS ⟨#[97]⟩ ⟨#[120, 47, 47, 121]⟩ = (⟨#[97, 47, 120, 47, 121]⟩, 0) := by decide +kernel
theorem kn5 : partsS ⟨#[97, 47, 98]⟩ = [⟨#[97]⟩, ⟨#[98]⟩] := by decide +kernel
end Go.Proofs.YtichejodbohldaaGreatDoor.Pth
