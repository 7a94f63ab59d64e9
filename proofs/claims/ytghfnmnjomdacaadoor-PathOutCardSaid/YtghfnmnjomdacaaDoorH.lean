/- The program's walk: the way of a path below a root. -/
import Derived.Test.YtghfnmnjomdacaaDoorG
namespace Go.Proofs.YtghfnmnjomdacaaDoor
open Go.RowKit

def WalkRet (w : World) (R : ByteArray × Int) (e : Ending) (w' : World) : Prop := e = .returned (.tuple #[.string R.1, .int .i64 R.2]) ∧ w.grownBy w' none

theorem walkL_none (nb : Nat) (out : List ByteArray) (p : ByteArray) (ps : List ByteArray) (h : p = ⟨#[]⟩ ∨ p = dot) : walkL nb out (p :: ps) = walkL nb out ps := by rw [walkL, if_pos h]
theorem walkL_out (nb : Nat) (out ps : List ByteArray) (h : out.length = nb) : walkL nb out (dots :: ps) = (51, []) := by
  rw [walkL, if_neg (by decide), if_pos rfl, if_pos h]
theorem walkL_up (nb : Nat) (out ps : List ByteArray) (h : ¬ out.length = nb) : walkL nb out (dots :: ps) = walkL nb out.dropLast ps := by
  rw [walkL, if_neg (by decide), if_pos rfl, if_neg h]
theorem walkL_bad (nb : Nat) (out : List ByteArray) (p : ByteArray) (ps : List ByteArray) (h1 : ¬ p = ⟨#[]⟩) (h2 : ¬ p = dot) (h3 : ¬ p = dots) (h : okPart p = false) : walkL nb out (p :: ps) = (50, []) := by
  rw [walkL, if_neg (by simp [h1, h2]), if_neg h3, if_neg (by simp [h])]
theorem walkL_good (nb : Nat) (out : List ByteArray) (p : ByteArray) (ps : List ByteArray) (h1 : ¬ p = ⟨#[]⟩) (h2 : ¬ p = dot) (h3 : ¬ p = dots) (h : okPart p = true) : walkL nb out (p :: ps) = walkL nb (out ++ [p]) ps := by
  rw [walkL, if_neg (by simp [h1, h2]), if_neg h3, if_pos h]
theorem sumS_drop (L : List ByteArray) : sumS L.dropLast ≤ sumS L := by
  rw [List.dropLast_eq_take]; exact sumS_take _ _

theorem has_any (s : ByteArray) (b : Bool) (w : World) (hp : Lib.hasPrefix s.data.toList slash.data.toList = b) :
    Calls Tryd.prog 29 #[.string s, .string ⟨#[47]⟩] w fun e w' => e = .returned (.bool b) ∧ w' = w := by
  rw [← hp]; exact Tryd.strings_HasPrefix s slash w
theorem split_any (s : ByteArray) (m : Int) (N : Nat) (P : List ByteArray) (w : World) (hs : s.size ≤ 100000) (hm : w.cell? ⟨0, 0, none⟩ = some (.int .i64 m)) (hP : pieces s = P) (hN : P.length = N) :
    Calls Tryd.prog 25 #[.string s, .string ⟨#[47]⟩] w fun e w' => e = .returned (.slice (some ⟨w.heap.size, 0, none⟩) N N) ∧ w' = w.alloc (.cells (P.map Value.string).toArray 9) := by
  have e : Lib.countB s slash + 1 = N := by rw [← hN, ← hP, pieces_len]
  rw [← e, ← hP]
  exact Tryd.strings_Split s slash m w (by omega) hm (by decide)
theorem join_any (B n cap : Nat) (a : Option Addr) (L : List ByteArray) (w : World) (hn : L.length = n) (hL : n ≤ 1000000) (hS : sumS L ≤ 140737488355328) (hB : B ≤ w.heap.size) (hP : PartS w B (.slice a n cap) L) :
    Calls Tryd.prog 31 #[.slice a n cap, .string ⟨#[47]⟩] w fun e w' => e = .returned (.string (joinB L)) ∧ Below w.heap.size w w' := by
  subst hn
  obtain ⟨a', cap', b, o, h1, h2, h3, h4, h5, h6⟩ := hP
  have he := Value.slice.inj h1
  by_cases h0 : L.length = 0
  · obtain rfl : L = [] := List.eq_nil_of_length_eq_zero h0
    exact (Tryd.strings_Join_none a cap slash w).mono fun e w' h => ⟨h.1, by rw [h.2]; exact Below.refl _ _⟩
  · have ha := h5 (by omega)
    rw [he.1, ha]
    exact Tryd.strings_Join b o cap L slash w (fun j x hj => h6 j x hj) (by omega) (by omega) (by rw [he.2.2]; exact h2) (Nat.le_trans (joinB_le L) hS)

theorem ne_list (x : ByteArray) (l : List UInt8) (h : ¬ x = ⟨l.toArray⟩) : ¬ x.toList = l := by
  intro e
  apply h
  rw [ByteArray.toList_eq] at e
  apply ByteArray.ext
  apply Array.ext'
  rw [e]
theorem nb_list (x : ByteArray) (l : List UInt8) (h : ¬ x = ⟨l.toArray⟩) : (x.toList == l) = false := by
  rw [beq_eq_false_iff_ne]; exact ne_list x l h

/-- How far the program's loop has come. -/
structure WalkAt (r : Nat) (root P out : List ByteArray) (k : Nat) : Prop where
  same : walkL r root P = walkL r out (P.drop k)
  least : r ≤ out.length
  most : out.length ≤ r + k
  sum : sumS out ≤ 100000 + k * 100001

set_option maxRecDepth 1000000
set_option maxHeartbeats 1000000 in
theorem walk_yes (r : Nat) (ra : Option Addr) (root : List ByteArray) (s : ByteArray) (w : World) (hp : Lib.hasPrefix s.data.toList slash.data.toList = true) :
    Calls Tryd.prog 23 #[.slice ra r r, .string s] w (WalkRet w (walkS root s)) := by
  have e : Hid (walkS root s = (⟨#[]⟩, 51)) := by show _ = _; unfold walkS; rw [if_pos hp]
  have HP := Lib.hid hp
  clear hp
  go_enter Tryd.func23, Tryd.ntmps23
  go_wp2_with fail
  (with_reducible refine (has_any s true _ HP.out).mono ?_)
  rintro ee w1 ⟨rfl, rfl⟩
  dsimp only
  go_wp2
  go_ret2
  exact ⟨by rw [e.out]; rfl, World.grownBy.refl _ _⟩

set_option maxRecDepth 1000000
set_option maxHeartbeats 1000000 in
theorem walk_no (m : Int) (r : Nat) (ra : Option Addr) (root : List ByteArray) (s : ByteArray) (w : World) (hr : root.length = r) (hr2 : r ≤ 1000) (hroot : FullS w (.slice ra r r) root) (hs : s.size ≤ 100000)
    (hsum : sumS root ≤ 100000) (hm : w.cell? ⟨0, 0, none⟩ = some (.int .i64 m)) (hp : Lib.hasPrefix s.data.toList slash.data.toList = false) :
    Calls Tryd.prog 23 #[.slice ra r r, .string s] w (WalkRet w (walkS root s)) := by
  obtain ⟨P, hP⟩ : ∃ P, pieces s = P := ⟨_, rfl⟩
  obtain ⟨N, hPN⟩ : ∃ N, P.length = N := ⟨_, rfl⟩
  have hNs : N ≤ 100001 := by rw [← hPN, ← hP]; have := pieces_le s; omega
  have hsz : ∀ p ∈ P, p.size ≤ 100000 := fun p hp => by rw [← hP] at hp; exact Nat.le_trans (pieces_size s p hp) hs
  have e : Hid (walkS root s = if (walkL r root P).1 ≠ 0 then (⟨#[]⟩, (walkL r root P).1) else if 12 < (walkL r root P).2.length then (⟨#[]⟩, 50) else (joinB (walkL r root P).2, 0)) := by
    show _ = _; unfold walkS; rw [if_neg (by simp [hp]), hP, hr]
  have HP := Lib.hid hp
  have HPP := Lib.hid hP
  have HPN := Lib.hid hPN
  have HSZ := Lib.hid hsz
  have HR := Lib.hid hr
  have HRO := Lib.hid hroot
  have HM := Lib.hid hm
  have hwpos : 0 < w.heap.size := World.block_lt_of_cell? _ _ hm
  have hga : w.grownBy (w.alloc (.cells (P.map Value.string).toArray 9)) none := World.grownBy_alloc _ _ _
  have hcell : Hid (∀ j x, P[j]? = some x → (w.alloc (.cells (P.map Value.string).toArray 9)).cell? ⟨w.heap.size, j, none⟩ = some (.string x)) := by
    intro j x hj
    rw [alloc_cell]; simp [hj]
  have hsz1 : (w.alloc (.cells (P.map Value.string).toArray 9)).heap.size = w.heap.size + 1 := alloc_size _ _
  obtain ⟨w1, hw1⟩ : ∃ w1, w.alloc (.cells (P.map Value.string).toArray 9) = w1 := ⟨_, rfl⟩
  rw [hw1] at hga hcell hsz1
  have HGA := Lib.hid hga
  have HS1 := Lib.hid hsz1
  have HW1 := Lib.hid hw1
  clear hp hP hPN hsz hr hroot hm hga hsz1 hw1
  go_enter Tryd.func23, Tryd.ntmps23
  go_wp2_with fail
  (with_reducible refine (has_any s false _ HP.out).mono ?_)
  rintro ee w' ⟨rfl, hw'⟩
  rw [hw']
  clear hw' w'
  dsimp only
  go_wp2_with fail
  (with_reducible refine (split_any s m N P _ hs HM.out HPP.out HPN.out).mono ?_)
  rintro ee w' ⟨rfl, hw'⟩
  rw [hw', HW1.out]
  clear hw' w'
  dsimp only
  go_wp2
  go_loopw [6, 15] (fun v i wr => ∃ (k n cp : Nat) (ad : Option Addr) (out : List ByteArray), k ≤ N ∧ i = .int .i64 k ∧ v = .slice ad n cp ∧ n = out.length ∧ cp ≤ 9223372036854775807 ∧ WalkAt r root P out k ∧ ((v = .slice ra r r ∧ out = root) ∨ OwnsS wr w1.heap.size v out) ∧ w1.grownBy wr none) (fun _ i _ => N - (intOf i).toNat)
  case atStart => exact ⟨0, r, r, ra, root, by omega, rfl, rfl, HR.out.symm, by omega, ⟨rfl, by rw [HR.out]; exact Nat.le_refl _, by rw [HR.out]; exact Nat.le_refl _, by omega⟩, .inl ⟨rfl, rfl⟩, World.grownBy.refl _ _⟩
  case round =>
    obtain ⟨k, n, cp, ad, out, hk, rfl, rfl, hn, hcp, hat, hown, hgw⟩ := hrel
    have hnr : r ≤ n := by rw [hn]; exact hat.least
    have hnk : n ≤ r + k := by rw [hn]; exact hat.most
    have hncp : n ≤ cp := by
      rcases hown with ⟨h1, h2⟩ | h1
      · have := Value.slice.inj h1; omega
      · obtain ⟨a', cap', h2, h3, h4⟩ := h1.form
        have := Value.slice.inj h2; omega
    have HN := Lib.hid hn
    have HAT := Lib.hid hat
    have HO := Lib.hid hown
    have HG := Lib.hid hgw
    clear hn hat hown hgw
    by_cases hlt : k < N
    · obtain ⟨x, hx⟩ : ∃ x, strAt P k = x := ⟨_, rfl⟩
      have hPk : P[k]? = some x := by rw [← hx]; exact strAt_eq P k (by rw [HPN.out]; exact hlt)
      have hcx : wr.cell? ⟨w.heap.size, k, none⟩ = some (.string x) := HG.out.cell (hcell.out k x hPk) (by simp)
      have hx1 : x.size ≤ 100000 := HSZ.out x (List.mem_of_getElem? hPk)
      have hdrop := Lib.hid (show P.drop k = x :: P.drop (k + 1) by
        have hl := (List.getElem?_eq_some_iff.1 hPk)
        obtain ⟨hl1, hl2⟩ := hl
        rw [List.drop_eq_getElem_cons hl1, hl2])
      clear hx hPk
      by_cases h1 : x = ⟨#[]⟩ ∨ x = dot
      · have hnext := Lib.hid (show WalkAt r root P out (k + 1) from ⟨by rw [HAT.out.same, hdrop.out, walkL_none _ _ _ _ h1], HAT.out.least, by have := HAT.out.most; omega, by have := HAT.out.sum; omega⟩)
        rcases h1 with rfl | rfl
        · go_wp2
          go_roundw
          case rel => exact ⟨k + 1, n, cp, ad, out, by omega, by go_num, rfl, HN.out, hcp, hnext.out, HO.out, HG.out⟩
          case measure => simp [intOf]; omega
        · unfold dot at hcx
          go_wp2
          go_roundw
          case rel => exact ⟨k + 1, n, cp, ad, out, by omega, by go_num, rfl, HN.out, hcp, hnext.out, HO.out, HG.out⟩
          case measure => simp [intOf]; omega
      · by_cases h2 : x = dots
        · subst h2
          clear h1
          by_cases h3 : n = r
          · have he : Hid (walkS root s = (⟨#[]⟩, 51)) := by
              show _ = _
              rw [e.out, HAT.out.same, hdrop.out, walkL_out r out _ (by rw [← HN.out]; exact h3)]
              rfl
            unfold dots at hcx
            subst h3
            go_wp2
            go_ret2
            exact ⟨by rw [he.out]; rfl, World.grownBy.trans HGA.out HG.out⟩
          · have hown2 : OwnsS wr w1.heap.size (.slice ad n cp) out := by
              rcases HO.out with ⟨q1, q2⟩ | q
              · exact absurd (Value.slice.inj q1).2.1 h3
              · exact q
            have hsh := Lib.hid (hown2.shorter HN.out.symm (by omega))
            have hnext := Lib.hid (show WalkAt r root P out.dropLast (k + 1) from ⟨by rw [HAT.out.same, hdrop.out, walkL_up r out _ (by rw [← HN.out]; exact h3)], by rw [List.length_dropLast, ← HN.out]; omega, by rw [List.length_dropLast, ← HN.out]; omega, by have := HAT.out.sum; have := sumS_drop out; omega⟩)
            clear hown2
            unfold dots at hcx
            have hne : ¬ (n : Int) = (r : Int) := by omega
            go_wp2
            go_roundw
            case rel =>
              refine ⟨k + 1, n - 1, cp, ad, out.dropLast, by omega, by go_num, rfl, by rw [List.length_dropLast, HN.out], hcp, hnext.out, .inr hsh.out, HG.out⟩
            case measure => simp [intOf]; omega
        · have b1 : ¬ x = ⟨#[]⟩ := fun e => h1 (.inl e)
          have b2 : ¬ x = ⟨#[46]⟩ := fun e => h1 (.inr e)
          have b3 : ¬ x = ⟨#[46, 46]⟩ := h2
          have d1 := ne_list x [] b1
          have d2 := ne_list x [46] b2
          have d3 := ne_list x [46, 46] b3
          have c1 : x.toList.isEmpty = false := by
            cases hl : x.toList with
            | nil => exact absurd hl d1
            | cons _ _ => rfl
          have c2 := nb_list x [46] b2
          have c3 := nb_list x [46, 46] b3
          have H1 := Lib.hid b1
          have H2 := Lib.hid b2
          have H3 := Lib.hid b3
          clear h1 h2 b1 b2 b3
          go_wp2_with fail
          (with_reducible refine (good_any x (by omega) _).mono ?_)
          rintro ee w' ⟨rfl, hw'⟩
          rw [hw']
          clear hw' w'
          dsimp only
          by_cases hg : okPart x = true
          · rw [hg]
            have hsum2 := sumS_snoc out x
            have hnext := Lib.hid (show WalkAt r root P (out ++ [x]) (k + 1) from ⟨by rw [HAT.out.same, hdrop.out, walkL_good r out x _ H1.out H2.out H3.out hg], by rw [List.length_append, ← HN.out]; simp; omega, by rw [List.length_append, ← HN.out]; simp; omega, by rw [hsum2]; have := HAT.out.sum; omega⟩)
            have hga2 := Lib.hid (World.grownBy.trans HG.out (World.grownBy_alloc wr (.cells #[.string x] 9) none))
            have hfo : Hid (FullS (wr.alloc (.cells #[.string x] 9)) (.slice ad n cp) out ∨ OwnsS (wr.alloc (.cells #[.string x] 9)) w1.heap.size (.slice ad n cp) out) := by
              rcases HO.out with ⟨q1, q2⟩ | q
              · refine .inl ?_
                obtain ⟨⟨a2, f1, f2⟩, B2, f4, f3⟩ := HRO.out
                rw [q1, q2]
                refine ⟨⟨a2, f1, f2⟩, B2, Nat.le_trans f4 (Nat.le_trans HGA.out.size hga2.out.size), ?_⟩
                refine PartS.grown f3 ((World.grownBy.trans (World.grownBy.trans HGA.out HG.out) (World.grownBy_alloc wr _ none))) (fun k hk => by simp at hk)
              · exact .inr (q.alloc _)
            clear hsum2 hg
            go_wp2_with (at_builtin; go_must (with_reducible refine app_out (o := ⟨some 22, _, _, _, _, _⟩) (w1 := w1) rfl _ _ rfl (wr.heap.size + 1) (.slice ad n cp) _ out x ?_ hfo.out ?_ (part_str wr _ 9) ?_ hga2.out ?_); go_must (exact rfl); go_must (exact rfl); go_must ((have := HN.out; omega)); (intro v2 w2 ho2 hg2); have HO2 := Lib.hid ho2; have HG2 := Lib.hid hg2; clear ho2 hg2)
            go_roundw
            case rel =>
              obtain ⟨ad2, cp2, e1, e2, e3⟩ := HO2.out.form
              exact ⟨k + 1, _, cp2, ad2, out ++ [x], by omega, by go_num, e1, rfl, e3, hnext.out, .inr HO2.out, HG2.out⟩
            case measure => simp [intOf]; omega
          · have hg' : okPart x = false := by simpa using hg
            rw [hg']
            have he : Hid (walkS root s = (⟨#[]⟩, 50)) := by
              show _ = _
              rw [e.out, HAT.out.same, hdrop.out, walkL_bad r out x _ H1.out H2.out H3.out hg']
              rfl
            clear hg hg'
            go_wp2
            go_ret2
            exact ⟨by rw [he.out]; rfl, World.grownBy.trans HGA.out HG.out⟩
    · have hkN : k = N := by omega
      subst hkN
      clear hlt hk
      have hw : Hid (walkL r root P = (0, out)) := by
        show _ = _
        rw [HAT.out.same, List.drop_of_length_le (by rw [HPN.out]; exact Nat.le_refl _)]
        rfl
      have hpart : Hid (PartS wr wr.heap.size (.slice ad n cp) out) := by
        rcases HO.out with ⟨q1, q2⟩ | q
        · obtain ⟨_, B2, f5, f3⟩ := HRO.out
          have f4 := PartS.grown f3 (World.grownBy.trans HGA.out HG.out) (fun k hk => by simp at hk)
          rw [q1, q2]
          exact f4.le (Nat.le_trans f5 (Nat.le_trans HGA.out.size HG.out.size))
        · exact q.part (by have := HG.out.size; have := HS1.out; omega)
      by_cases h12 : 12 < n
      · have he : Hid (walkS root s = (⟨#[]⟩, 50)) := by
          show _ = _
          rw [e.out, hw.out, if_neg (by simp), if_pos (by rw [← HN.out]; exact h12)]
        have h13 : 12 < (n : Int) := by omega
        clear h12
        go_wp2
        go_ret2
        exact ⟨by rw [he.out]; rfl, World.grownBy.trans HGA.out HG.out⟩
      · have he : Hid (walkS root s = (joinB out, 0)) := by
          show _ = _
          rw [e.out, hw.out, if_neg (by simp), if_neg (by rw [← HN.out]; exact h12)]
        have h13 : decide (12 < (n : Int)) = false := by simp; omega
        have hsm := Lib.hid HAT.out.sum
        go_wp2_with fail
        (with_reducible refine (join_any wr.heap.size n cp ad out _ HN.out.symm (by omega) (by have := hsm.out; omega) (Nat.le_refl _) hpart.out).mono ?_)
        rintro ee w' ⟨rfl, hb⟩
        dsimp only
        have hg3 := Lib.hid (Lib.grownBy_below (World.grownBy.trans HGA.out HG.out) hb)
        clear hb
        go_wp2
        go_ret2
        exact ⟨by rw [he.out]; rfl, hg3.out⟩

/-- THE PROGRAM's WALK. -/
theorem walk_any (m : Int) (r : Nat) (ra : Option Addr) (root : List ByteArray) (s : ByteArray) (w : World) (hr : root.length = r) (hr2 : r ≤ 1000) (hroot : FullS w (.slice ra r r) root) (hs : s.size ≤ 100000)
    (hsum : sumS root ≤ 100000) (hm : w.cell? ⟨0, 0, none⟩ = some (.int .i64 m)) :
    Calls Tryd.prog 23 #[.slice ra r r, .string s] w (WalkRet w (walkS root s)) := by
  cases hp : Lib.hasPrefix s.data.toList slash.data.toList with
  | true => exact walk_yes r ra root s w hp
  | false => exact walk_no m r ra root s w hr hr2 hroot hs hsum hm hp
end Go.Proofs.YtghfnmnjomdacaaDoor
