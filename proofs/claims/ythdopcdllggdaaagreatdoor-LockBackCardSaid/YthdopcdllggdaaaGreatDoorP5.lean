/- Texts of one ground, in one file: Ll Lm Ln. -/
import Derived.Test.YthdopcdllggdaaaGreatDoorP4
import Derived.Deep.RegionHeld3
namespace Go.Proofs.YthdopcdllggdaaaGreatDoor
open Go.RowKit

theorem less_tri (l m : List UInt8) : Op.bytesLess l m = (!(Op.bytesLess m l) && !(l == m)) := by
  induction l generalizing m with
  | nil => cases m <;> simp [Op.bytesLess]
  | cons a l ih =>
    cases m with
    | nil => simp [Op.bytesLess]
    | cons b m =>
      simp only [Op.bytesLess, List.cons_beq_cons]
      rw [ih m]
      by_cases h1 : a < b
      · have h2 : ¬ b < a := by rw [UInt8.lt_iff_toNat_lt] at *; omega
        have h3 : ¬ a = b := fun e => by rw [e] at h1; rw [UInt8.lt_iff_toNat_lt] at h1; omega
        have h4 : ¬ b = a := fun e => h3 e.symm
        simp [h1, h2, h3, h4]
      · by_cases h2 : b < a
        · have h3 : ¬ a = b := fun e => by rw [e] at h2; rw [UInt8.lt_iff_toNat_lt] at h2; omega
          simp [h1, h2, h3]
        · have h3 : a = b := UInt8.toNat_inj.1 (by rw [UInt8.lt_iff_toNat_lt] at *; omega)
          subst h3
          simp [h1]
/-- The three ways in which two texts stand. -/
theorem less_ways (x y : ByteArray) : (lessB x y = true ∧ Op.bytesLess y.toList x.toList = false ∧ (y.toList == x.toList) = false ∧ ¬ y.toList = x.toList) ∨ (lessB x y = false ∧ Op.bytesLess y.toList x.toList = true) ∨ (lessB x y = false ∧ x = y) := by
  unfold lessB
  by_cases he : x = y
  · subst he
    exact .inr (.inr ⟨less_self _, rfl⟩)
  · have h1 := less_tri x.toList y.toList
    have h3 := nb_lists x y he
    have h4 := nb_lists y x (fun e => he e.symm)
    have h5 := ne_lists y x (fun e => he e.symm)
    rw [h3] at h1
    cases hy : Op.bytesLess y.toList x.toList with
    | true => rw [hy] at h1; exact .inr (.inl ⟨by simpa using h1, rfl⟩)
    | false => rw [hy] at h1; exact .inl ⟨by simpa using h1, rfl, h4, h5⟩
theorem rins_app (x : Pc) (B R : List Pc) (h : ∀ y ∈ B, lessP x y = true) : rins x (B ++ R) = B ++ rins x R := by
  induction B with
  | nil => rfl
  | cons y B ih =>
    rw [List.cons_append]
    have e : rins x (y :: (B ++ R)) = if lessP x y = true then y :: rins x (B ++ R) else x :: y :: (B ++ R) := rfl
    rw [e, if_pos (h y (by simp)), ih (fun z hz => h z (by simp [hz])), List.cons_append]
/-- Where a pin goes: behind j, ahead of all that are above it. -/
theorem insP_at (A : List Pc) (x : Pc) (j : Nat) (hj : j ≤ A.length) (h1 : ∀ i y, j ≤ i → A[i]? = some y → lessP x y = true) (h2 : ∀ y, 0 < j → A[j - 1]? = some y → lessP x y = false) : insP A x = A.take j ++ x :: A.drop j := by
  have e : A.reverse = (A.drop j).reverse ++ (A.take j).reverse := by rw [← List.reverse_append, List.take_append_drop]
  unfold insP
  rw [e, rins_app x _ _ (fun y hy => by
    rw [List.mem_reverse] at hy
    obtain ⟨i, hi, e⟩ := List.mem_iff_getElem.1 hy
    rw [List.length_drop] at hi
    refine h1 (j + i) y (by omega) ?_
    rw [← e, List.getElem_drop, List.getElem?_eq_getElem (by omega)])]
  have e2 : rins x (A.take j).reverse = x :: (A.take j).reverse := by
    cases hr : (A.take j).reverse with
    | nil => rfl
    | cons y r =>
      unfold rins
      have hy : A[j - 1]? = some y := by
        have h3 : (A.take j).reverse.head? = some y := by rw [hr]; rfl
        rw [List.head?_reverse, List.getLast?_eq_getElem?, List.length_take, Nat.min_eq_left hj] at h3
        rw [List.getElem?_take] at h3
        split at h3
        · exact h3
        · cases h3
      have hj0 : 0 < j := by
        rcases Nat.eq_zero_or_pos j with h | h
        · subst h; simp at hr
        · exact h
      rw [if_neg (by rw [h2 y hj0 hy]; simp)]
  rw [e2]
  simp
theorem run_append_zero {P : Program} (w : World) (t ty e : TypeId) (i : TypeInfo) (ht : P.underlying t = some (.slice e)) (hi : P.info? e = some i) (a xa : Option Addr) (n cap c : Nat) (h : n ≤ cap) :
    (Builtin.append_ #[t, t] ty #[.slice a n cap, .slice xa 0 c]).run P w = .ok (.slice a n cap) w := by
  cases a <;> cases xa <;> simp [Builtin.append_, run_underlying ht, sizeOf, typeInfo, hi, Builtin.lenOf, Builtin.firstCells, h, storeCells, loadCells, loadCellsFrom]
section
variable {P : Program} {a : Act} {w : World} {o : Oper} {K : Act → World → Prop} {Q : Exit → Act → World → Prop}
theorem op_append_zero (s x : Operand) (t e : TypeId) (i : TypeInfo) (ho : o.op = .call { callee := .builtin .append, args := #[s, x], argTypes := #[t, t] }) (ht : P.underlying t = some (.slice e)) (hi : P.info? e = some i)
    (sa xa : Option Addr) (n cap c : Nat) (hs : a.eval s = .slice sa n cap) (hx : a.eval x = .slice xa 0 c) (hn : n ≤ cap) (h : K (a.put o.dst (.slice sa n cap)) w) : o.wp P a w K Q := by
  have hrun := run_append_zero (P := P) w t o.type e i ht hi sa xa n cap c hn
  unfold Oper.wp
  simp [execOp, ho, resolve, invoke, builtin, hs, hx, hrun, Result.andThen]
  exact h
theorem op_append_grows (s x : Operand) (t : TypeId) (ho : o.op = .call { callee := .builtin .append, args := #[s, x], argTypes := #[t, t] })
    (e : TypeId) (i : TypeInfo) (z : Value) (size bytes : Nat) (h1 : P.underlying t = some (.slice e)) (h2 : P.info? e = some i) (h3 : i.zero = some z) (h4 : i.size = size) (h5 : i.bytes = bytes) (h6 : z.cells.size = size) (h7 : 0 < size)
    (ao : Option Addr) (n cap : Nat) (olds : List Value) (hs : a.eval s = .slice ao n cap) (hnone : ao = none → n = 0 ∧ cap = 0) (hlo : olds.length = n * size) (holds : ∀ b, ao = some b → ∀ j u, olds[j]? = some u → w.cell? (b.add j) = some u)
    (ad : Addr) (m c : Nat) (news : List Value) (hx : a.eval x = .slice (some ad) m c) (hn : news.length = m * size) (hc : ∀ j u, news[j]? = some u → w.cell? (ad.add j) = some u) (h1c : ∀ u ∈ news, u.oneCell' = true)
    (hfull : cap < n + m) (b1 : n + m ≤ maxLen) (b2 : (n + m) * bytes ≤ 140737488355328)
    (hK : ∀ v' w', w'.ownsRow w.heap.size e size v' (n + m) (olds ++ news) → w.grownBy w' none → K (a.put o.dst v') w') : o.wp P a w K Q := by
  cases ao with
  | some b =>
    obtain ⟨v', w', hrun, r1, r2⟩ := run_append_arg_grows (P := P) w t o.type e i z size bytes h1 h2 h3 h4 h5 h6 h7 b n cap olds hlo (holds b rfl) ad m c news hn hc hfull b1 b2
    unfold Oper.wp
    simp [execOp, ho, resolve, invoke, builtin, hs, hx, hrun, Result.andThen]
    exact hK _ _ r1 r2
  | none =>
    obtain ⟨rfl, rfl⟩ := hnone rfl
    have hol : olds = [] := List.eq_nil_of_length_eq_zero (by simpa using hlo)
    subst hol
    obtain ⟨v', w', hrun, r1, r2, _⟩ := run_append_own (P := P) w w.heap.size t o.type e i z size bytes h1 h2 h3 h4 h5 h6 h7 (.slice none 0 0) 0 [] (World.ownsRow_nil w _ e size) ad m c news hn hc h1c b1 b2 (Nat.le_refl _)
    unfold Oper.wp
    simp [execOp, ho, resolve, invoke, builtin, hs, hx, hrun, Result.andThen]
    exact hK _ _ r1 r2
/-- A slice of one pin, in a region that draws its order. -/
theorem op_slice_pin {a : Act} {w : World} {o : Oper} {K : Act → World → Prop} {Q : Exit → Act → World → Prop} (x : Operand) (ho : o.op = .buildSlice 25 1 #[(0, x)]) (C : Array Value) (hC : C.size = 37) (hx : a.eval x = .agg C)
    (h : K (a.put o.dst (.slice (some ⟨w.heap.size, 0, none⟩) 1 1)) (w.alloc (.cells C 35))) : o.wp Tryz.prog a w K Q := by
  obtain ⟨i0, hi, hz0, hz1, hz2⟩ := info_parts infoP
  refine wp_buildSlice 25 35 1 #[(0, x)] ho C i0 _ Tryz.underlying25 hi hz0 (by rw [hz1]; decide) (by rw [hz1]; decide) ?_ h
  rw [hz1]
  simp only [List.map_toArray, List.map_cons, List.map_nil, hx]
  exact fill_one 37 _ C (by simp) hC
end
end Go.Proofs.YthdopcdllggdaaaGreatDoor
namespace Go.Proofs.YthdopcdllggdaaaGreatDoor
open Go.RowKit

/-- What has been put in order of the first k. -/
def putK (L : List Pc) (k : Nat) : List Pc := (L.take k).foldl insP []
theorem putK_len (L : List Pc) (k : Nat) (h : k ≤ L.length) : (putK L k).length = k := by unfold putK; rw [fold_len, List.length_take]; simp; omega
theorem putK_succ (L : List Pc) (k : Nat) (x : Pc) (h : L[k]? = some x) : putK L (k + 1) = insP (putK L k) x := by
  unfold putK; rw [List.take_add_one, h]; simp
theorem putK_all (L : List Pc) (n : Nat) (h : L.length = n) : putK L n = sortP L := by unfold putK sortP; rw [List.take_of_length_le (by omega)]
theorem part_owns {w : World} {base g n cap : Nat} {L : List Pc} (h : OwnsP w base (.slice (some ⟨g, 0, none⟩) n cap) L) (k : Nat) (p : Pc) (hk : L[k]? = some p) : w.rangeAt g (k * 37) p.enc := by
  rcases h.2 with ⟨h1, h2⟩ | ⟨g', cap', cur, h1, h2, h3, h4, h5, h6, h7⟩
  · cases h1
  · obtain rfl : g = g' := by have := (Value.slice.inj h1).1; simpa using this
    exact row_range h3 h7 k p hk
theorem owns_row {w : World} {base n cap : Nat} {ao : Option Addr} {A : List Pc} (h : OwnsP w base (.slice ao n cap) A) (b : Addr) (e : ao = some b) : ∃ g, b = ⟨g, 0, none⟩ ∧ ∀ t u, (rowsC A)[t]? = some u → w.cell? ⟨g, t, none⟩ = some u := by
  subst e
  rcases h.2 with ⟨h1, h2⟩ | ⟨g, cap', cur, h1, h2, h3, h4, h5, h6, h7⟩
  · cases h1
  · refine ⟨g, Option.some.inj (Value.slice.inj h1).1, fun t u hu => ?_⟩
    rw [cell_in h3]
    rw [← h7, List.getElem?_take] at hu
    split at hu
    · simpa using hu
    · cases hu
theorem owns_take {w : World} {base n cap : Nat} {ao : Option Addr} {A : List Pc} (h : OwnsP w base (.slice ao n cap) A) (j : Nat) : ∀ b, ao = some b → ∀ t u, (rowsC (A.take j))[t]? = some u → w.cell? (b.add t) = some u := by
  intro b e t u hu
  obtain ⟨g, rfl, hc⟩ := owns_row h b e
  rw [Addr.add_mid, Nat.zero_add]
  refine hc t u ?_
  have hl := (List.getElem?_eq_some_iff.1 hu).1
  rw [← List.take_append_drop j A, rowsC_app, List.getElem?_append_left hl]
  exact hu
theorem owns_drop {w : World} {base n cap g : Nat} {A : List Pc} (h : OwnsP w base (.slice (some ⟨g, 0, none⟩) n cap) A) (j : Nat) (hj : j ≤ n) (hn : A.length = n) : ∀ t u, (rowsC (A.drop j))[t]? = some u → w.cell? ((⟨g, j * 37, none⟩ : Addr).add t) = some u := by
  intro t u hu
  obtain ⟨g', hg, hc⟩ := owns_row h _ rfl
  obtain rfl : g = g' := by cases hg; rfl
  rw [Addr.add_mid]
  refine hc (j * 37 + t) u ?_
  have hl : (rowsC (A.take j)).length = j * 37 := by rw [rowsC_len, List.length_take, hn, Nat.min_eq_left hj]
  rw [← List.take_append_drop j A, rowsC_app, List.getElem?_append_right (by omega), hl, Nat.add_sub_cancel_left]
  exact hu
theorem owns_nil {w : World} {base n cap j : Nat} {ao : Option Addr} {A : List Pc} (h : OwnsP w base (.slice ao n cap) A) (hn : A.length = n) (hj : j ≤ n) : ao = none → j = 0 ∧ j = 0 := by
  intro e
  subst e
  rcases h.2 with ⟨h1, h2⟩ | ⟨g, cap', cur, h1, _⟩
  · omega
  · cases h1
theorem owns_cut {w : World} {base n cap : Nat} {ao : Option Addr} {A : List Pc} (h : OwnsP w base (.slice ao n cap) A) (hn : A.length = n) (j : Nat) (hc : n ≤ cap) : 0 < n - j → ∃ g, ao = some ⟨g, 0, none⟩ ∧ (if cap = j then ao else Option.map (fun x => Addr.add x (j * 37)) ao) = some ⟨g, j * 37, none⟩ := by
  intro hr
  rcases h.2 with ⟨h1, h2⟩ | ⟨g, cap', cur, h1, _⟩
  · omega
  · have e := (Value.slice.inj h1).1
    subst e
    refine ⟨g, rfl, ?_⟩
    rw [if_neg (by omega)]
    show some (Addr.add _ _) = _
    rw [Addr.add_mid, Nat.zero_add]
set_option maxRecDepth 1000000
set_option maxHeartbeats 8000000 in
theorem refPins_any (n cap : Nat) (a : Option Addr) (L : List Pc) (w : World) (hn : L.length = n) (hn2 : n ≤ 1000) (hP : PartP w w.heap.size (.slice a n cap) L) (hp : 0 < w.heap.size) :
    Calls Tryz.prog 11 #[.slice a n cap] w (SortedTo w L) := by
  have HN := Lib.hid hn
  have HP := Lib.hid hP
  have HW := Lib.hid hp
  clear hn hP hp
  go_enter Tryz.func11, Tryz.ntmps11
  go_wp2
  go_loopw [3, 4, 5] (fun v i _ wr => ∃ (k cp : Nat) (ao : Option Addr), k ≤ n ∧ i = .int .i64 k ∧ v = .slice ao k cp ∧ k ≤ cp ∧ cp ≤ 9223372036854775807 ∧ Hid (OwnsP wr w.heap.size (.slice ao k cp) (putK L k)) ∧ Hid (w.grownBy wr none)) (fun _ i _ _ => n - (intOf i).toNat)
  case atStart => exact ⟨0, 0, none, Nat.zero_le _, rfl, rfl, Nat.le_refl _, by omega, OwnsP.nil _ _, World.grownBy.refl _ _⟩
  case round =>
    obtain ⟨k, cp, ao, hk, rfl, rfl, hkc, hcp, HO, HG⟩ := hrel
    by_cases hlt : k < n
    · obtain ⟨x, hx⟩ : ∃ x, L[k]? = some x := ⟨_, List.getElem?_eq_getElem (by rw [HN.out]; exact hlt)⟩
      obtain ⟨b, o, hab, hb, hrg⟩ := (HP.out.stays HG.out).at k x hx
      subst hab
      have HX := Lib.hid hx
      have HRG := Lib.hid hrg
      have HSU := Lib.hid (putK_succ L k x hx)
      have HLN : Hid ((putK L k).length = k) := Lib.hid (putK_len L k (by rw [HN.out]; exact hk))
      clear hx hrg
      obtain ⟨A, hA⟩ : ∃ A, putK L k = A := ⟨_, rfl⟩
      have HA := Lib.hid hA
      rw [hA] at HO HSU HLN
      clear hA
      obtain ⟨wo, rfl⟩ : ∃ wo : World, wo = wr := ⟨_, rfl⟩
      have hxn := range_name HRG.out
      go_wp2_with fail
      go_loopw [5] (fun i wi => ∃ j : Nat, j ≤ k ∧ i = .int .i64 j ∧ Hid (∀ i y, j ≤ i → A[i]? = some y → lessP x y = true) ∧ Hid (∃ q, wi = wo.drewN q)) (fun i _ => (intOf i).toNat)
      case atStart => exact ⟨k, Nat.le_refl _, rfl, Lib.hid (fun i y hi hy => by have := (List.getElem?_eq_some_iff.1 hy).1; have := HLN.out; omega), Lib.hid ⟨0, rfl⟩⟩
      case round =>
        obtain ⟨j, hj, rfl, HGT, HWI⟩ := hrel
        have HEXIT : Hid ((∀ y, 0 < j → A[j - 1]? = some y → lessP x y = false) → insP A x = A.take j ++ x :: A.drop j) := Lib.hid (fun h => insP_at A x j (by rw [HLN.out]; exact hj) HGT.out h)
        by_cases h0 : j = 0
        · have HE := Lib.hid (HEXIT.out (fun y h => by omega))
          clear HEXIT HGT
          have hd : decide ((j : Int) > 0) = false := by simp; omega
          have hd2 : decide (0 < (j : Int)) = false := by simp; omega
          have hd3 : ¬ 0 < j := by omega
          have hd4 : decide (0 < j) = false := by simp; omega
          clear h0
          go_wp2_with fail
          go_quiet (fail)
          go_wp2_with fail
          clear hd hd2 hd3 hd4
          obtain ⟨q, hq⟩ := HWI.out
          have HQ : Hid (wr = wo.drewN q) := Lib.hid hq
          clear hq
          obtain ⟨W1, hW1⟩ : ∃ W1, wr.drewN nq = W1 := ⟨_, rfl⟩
          have HW1 : Hid (W1 = wo.drewN (q + nq)) := Lib.hid (by rw [← hW1, HQ.out, World.drewN_drewN])
          rw [hW1]
          clear hW1
          have g01 : wo.grownBy W1 none := by rw [HW1.out]; exact grown_drew _ (World.grownBy.refl _ _)
          have G01 := Lib.hid g01
          have HOW := Lib.hid (HO.out.stays g01)
          have HRW := Lib.hid (range_stays HRG.out g01 (by simp))
          have HI : Hid ((Tryz.prog.info? 35).map (·.size) = some x.enc.length) := Lib.hid (by rw [enc_len]; exact infoP_size)
          have HSZX : Hid (x.enc.toArray.size = 37) := Lib.hid (by rw [List.size_toArray, enc_len])
          have HA43 := Lib.hid (owns_cut HO.out HLN.out j (by omega))
          clear g01 HQ HWI
          refine wp_region_noPanic ?_
          refine wp_region_held_drew (S := fun V => W1.grownBy V none) (by kernel_rfl) (grown_drew 1 (World.grownBy.refl _ _)) (fun g0 => ?_)
          refine wpAnyH_take (i := 0) (v := .slice ao k cp) rfl (by kernel_rfl) (by kernel_rfl) (by kernel_rfl) (fun _ _ _ h => h) (Or.inl ⟨by rfl, fun V' hV' => by rfl⟩) g0 ?_
          try simp only [Act.put, List.getElem_toArray, List.getElem_cons_zero, List.setIfInBounds_toArray, List.set_cons_zero, List.set_cons_succ]
          refine wpAnyH_take (i := 1) (v := .int .i64 j) rfl (by kernel_rfl) (by kernel_rfl) (by kernel_rfl) (fun _ _ _ h => h) (Or.inl ⟨by rfl, fun V' hV' => by rfl⟩) g0 ?_
          try simp only [Act.put, List.getElem_toArray, List.getElem_cons_zero, List.getElem_cons_succ, List.setIfInBounds_toArray, List.set_cons_zero, List.set_cons_succ]
          refine wpAnyH_take (i := 2) (v := .int .i64 j) rfl (by kernel_rfl) (by kernel_rfl) (by kernel_rfl) (fun _ _ _ h => h) (Or.inl ⟨by rfl, fun V' hV' => by rfl⟩) g0 ?_
          try simp only [Act.put, List.getElem_toArray, List.getElem_cons_zero, List.getElem_cons_succ, List.setIfInBounds_toArray, List.set_cons_zero, List.set_cons_succ]
          refine wpAnyH_take (i := 3) (v := .slice ao j j) rfl (by kernel_rfl) (by kernel_rfl) (by kernel_rfl) (fun _ _ _ h => h) (Or.inl ⟨by rfl, fun V' hV' => ?_⟩) g0 ?_
          · go_simp
            intro hcj
            exact absurd hcj (by omega)
          try simp only [Act.put, List.getElem_toArray, List.getElem_cons_zero, List.getElem_cons_succ, List.setIfInBounds_toArray, List.set_cons_zero, List.set_cons_succ]
          refine wpAnyH_take (i := 4) (v := .slice (some ⟨b, o, none⟩) n cap) rfl (by kernel_rfl) (by kernel_rfl) (by kernel_rfl) (fun _ _ _ h => h) (Or.inl ⟨by rfl, fun V' hV' => by rfl⟩) g0 ?_
          try simp only [Act.put, List.getElem_toArray, List.getElem_cons_zero, List.getElem_cons_succ, List.setIfInBounds_toArray, List.set_cons_zero, List.set_cons_succ]
          refine wpAnyH_take (i := 5) (v := .int .i64 k) rfl (by kernel_rfl) (by kernel_rfl) (by kernel_rfl) (fun _ _ _ h => h) (Or.inl ⟨by rfl, fun V' hV' => by rfl⟩) g0 ?_
          try simp only [Act.put, List.getElem_toArray, List.getElem_cons_zero, List.getElem_cons_succ, List.setIfInBounds_toArray, List.set_cons_zero, List.set_cons_succ]
          refine wpAnyH_take (i := 6) (v := .pointer (some ⟨b, o + k * 37, none⟩)) rfl (by kernel_rfl) (by kernel_rfl) (by kernel_rfl) (fun _ _ _ h => h) (Or.inl ⟨by rfl, fun V' hV' => ?_⟩) g0 ?_
          · go_simp
          try simp only [Act.put, List.getElem_toArray, List.getElem_cons_zero, List.getElem_cons_succ, List.setIfInBounds_toArray, List.set_cons_zero, List.set_cons_succ]
          refine wpAnyH_take (i := 7) (v := .agg x.enc.toArray) rfl (by kernel_rfl) (by kernel_rfl) (by kernel_rfl) (fun _ _ _ h => h) (Or.inl ⟨by rfl, fun V' hV' => ?_⟩) g0 ?_
          · have h := run_loadAt_mid (P := Tryz.prog) V' b (o + k * 37) 35 x.enc _ (range_stays HRW.out hV' (by simp)) Tryz.underlying35 rfl HI.out
            simp [execOp, Act.eval, h, Result.andThen]
          try simp only [Act.put, List.getElem_toArray, List.getElem_cons_zero, List.getElem_cons_succ, List.setIfInBounds_toArray, List.set_cons_zero, List.set_cons_succ]
          refine wpAnyH_take (i := 9) (v := .slice ao k cp) rfl (by kernel_rfl) (by kernel_rfl) (by kernel_rfl) (fun _ _ _ h => h) (Or.inl ⟨by rfl, fun V' hV' => by rfl⟩) g0 ?_
          try simp only [Act.put, List.getElem_toArray, List.getElem_cons_zero, List.getElem_cons_succ, List.setIfInBounds_toArray, List.set_cons_zero, List.set_cons_succ]
          refine wpAnyH_take (i := 10) (v := .int .i64 j) rfl (by kernel_rfl) (by kernel_rfl) (by kernel_rfl) (fun _ _ _ h => h) (Or.inl ⟨by rfl, fun V' hV' => by rfl⟩) g0 ?_
          try simp only [Act.put, List.getElem_toArray, List.getElem_cons_zero, List.getElem_cons_succ, List.setIfInBounds_toArray, List.set_cons_zero, List.set_cons_succ]
          refine wpAnyH_take (i := 11) (v := .slice (if cp = j then ao else Option.map (fun x => Addr.add x (j * 37)) ao) (k - j) (cp - j)) rfl (by kernel_rfl) (by kernel_rfl) (by kernel_rfl) (fun _ _ _ h => h) (Or.inl ⟨by rfl, fun V' hV' => ?_⟩) g0 ?_
          · go_simp
          try simp only [Act.put, List.getElem_toArray, List.getElem_cons_zero, List.getElem_cons_succ, List.setIfInBounds_toArray, List.set_cons_zero, List.set_cons_succ]
          obtain ⟨a43, ha43⟩ : ∃ a43, (if cp = j then ao else Option.map (fun x => Addr.add x (j * 37)) ao) = a43 := ⟨_, rfl⟩
          rw [ha43] at HA43 ⊢
          clear ha43
          obtain ⟨r, hr⟩ : ∃ r, k - j = r := ⟨_, rfl⟩
          have HR := Lib.hid hr
          rw [hr] at HA43 ⊢
          clear hr
          obtain ⟨c43, hc43⟩ : ∃ c43, cp - j = c43 := ⟨_, rfl⟩
          rw [hc43]
          clear hc43
          obtain ⟨i0, hi, hz0, hz1, hz2⟩ := info_parts infoP
          have HI0 := Lib.hid (And.intro hi (And.intro hz0 (And.intro hz1 hz2)))
          clear hi hz0 hz1 hz2
          refine wpAnyH_ready (rs := [8]) (by kernel_rfl) (by simp) ?_
          refine AllReadyH.cons rfl (fun K hK => ?_) AllReadyH.nil
          rw [if_pos (by rfl)]
          refine op_slice_pin _ rfl x.enc.toArray HSZX.out rfl ?_
          refine hK.out _ _ (World.grownBy.trans g0 (World.grownBy_alloc _ _ _)) (fun g1 => ?_)
          clear hK K
          try simp only [Act.put, List.getElem_toArray, List.getElem_cons_zero, List.getElem_cons_succ, List.setIfInBounds_toArray, List.set_cons_zero, List.set_cons_succ]
          obtain ⟨q8, hq8⟩ : ∃ q8, W1.drew.heap.size = q8 := ⟨_, rfl⟩
          have hb8 : (W1.drew.alloc (.cells x.enc.toArray 35)).heap[q8]? = some (.cells x.enc.toArray 35 (0, 0)) := by rw [← hq8]; exact alloc_block _ _
          rw [hq8]
          obtain ⟨V1, hV1⟩ : ∃ V1, W1.drew.alloc (.cells x.enc.toArray 35) = V1 := ⟨_, rfl⟩
          rw [hV1] at g1 hb8 ⊢
          have HB8 : Hid (∀ V, V1.grownBy V none → ∀ t u, x.enc[t]? = some u → V.cell? ((⟨q8, 0, none⟩ : Addr).add t) = some u) := Lib.hid (fun V hV t u hu => by
            rw [Addr.add_mid, Nat.zero_add]
            refine hV.cell ?_ (by simp)
            rw [cell_in hb8]; simpa using hu)
          have HG1 := Lib.hid g1
          clear hq8 hb8 hV1
          refine wpAnyH_ready (rs := [12]) (by kernel_rfl) (by simp) ?_
          refine AllReadyH.cons rfl (fun K hK => ?_) AllReadyH.nil
          rw [if_pos (by rfl)]
          rcases Nat.eq_zero_or_pos r with hr0 | hr0
          · subst hr0
            refine op_append_zero _ _ 25 35 i0 rfl Tryz.underlying25 HI0.out.1 (some ⟨q8, 0, none⟩) a43 1 1 c43 rfl rfl (Nat.le_refl _) ?_
            refine hK.out _ _ g1 (fun g2 => ?_)
            clear hK K
            try simp only [Act.put, List.getElem_toArray, List.getElem_cons_zero, List.getElem_cons_succ, List.setIfInBounds_toArray, List.set_cons_zero, List.set_cons_succ]
            refine wpAnyH_ready (rs := [13]) (by kernel_rfl) (by simp) ?_
            refine AllReadyH.cons rfl (fun K hK => ?_) AllReadyH.nil
            rw [if_pos (by rfl)]
            refine op_append_grows _ _ 25 rfl 35 i0 _ 37 96 Tryz.underlying25 HI0.out.1 HI0.out.2.1 HI0.out.2.2.1 HI0.out.2.2.2 zeroP_cells (by decide) ao j j (rowsC (A.take j)) rfl (owns_nil HO.out HLN.out hj) (by rw [rowsC_len, List.length_take, HLN.out, Nat.min_eq_left hj]) (owns_take (HOW.out.stays g1) j) ⟨q8, 0, none⟩ 1 1 x.enc rfl (by rw [enc_len]) (HB8.out V1 (World.grownBy.refl _ _)) (enc_one x) (by omega) (by unfold maxLen; omega) (by omega) (fun v' w' hown hg => ?_)
            have hg2 := World.grownBy.trans g1 hg
            have HG2 := Lib.hid hg2
            have HOWN := Lib.hid hown
            obtain ⟨g', c', rfl⟩ := ownsRow_succ hown
            refine hK.out _ _ hg2 (fun g3 => ?_)
            clear hK K hown hg hg2
            try simp only [Act.put, List.getElem_toArray, List.getElem_cons_zero, List.getElem_cons_succ, List.setIfInBounds_toArray, List.set_cons_zero, List.set_cons_succ]
            refine wpAnyH_ready (rs := [14]) (by kernel_rfl) (by simp) ?_
            refine AllReadyH.cons rfl (fun K hK => ?_) AllReadyH.nil
            rw [if_pos (by rfl)]
            go_simp
            refine hK.out _ _ g3 (fun gf => ?_)
            clear hK K
            try simp only [Act.put, List.getElem_toArray, List.getElem_cons_zero, List.getElem_cons_succ, List.setIfInBounds_toArray, List.set_cons_zero, List.set_cons_succ]
            refine wpAnyH_done (by kernel_rfl) ?_ _
            refine NoPanic.normal ?_
            have hjk : j = k := by have := HR.out; omega
            have HOF : Hid (OwnsP w' w.heap.size (.slice (some ⟨g', 0, none⟩) (k + 1) c') (putK L (k + 1))) := Lib.hid (by
              have h := HOWN.out
              subst hjk
              refine OwnsP.mono (b := V1.heap.size) ?_ (Nat.le_trans (Nat.le_trans HG.out.size G01.out.size) HG1.out.size)
              show World.ownsRow _ _ _ _ _ _ _
              rw [HSU.out, HE.out, List.length_append, List.length_take, List.length_cons, List.length_drop, rowsC_app, HLN.out, Nat.min_self, Nat.sub_self]
              have e : rowsC (x :: A.drop j) = x.enc := by rw [List.drop_eq_nil_of_le (by rw [HLN.out]; exact Nat.le_refl _)]; simp [rowsC]
              rw [e]
              exact h)
            have HGF := Lib.hid (World.grownBy.trans HG.out (World.grownBy.trans G01.out HG2.out))
            have hc' : k + 1 ≤ c' ∧ c' ≤ 9223372036854775807 := by
              obtain ⟨_, _, e, h1, h2⟩ := HOF.out.form
              have e2 := (Value.slice.inj e).2
              unfold maxLen at h2
              omega
            subst hjk
            go_wp2
            go_roundw
            case rel => exact ⟨j + 1, c', some ⟨g', 0, none⟩, by omega, by go_num, rfl, hc'.1, hc'.2, HOF, HGF⟩
            case measure => simp [intOf]; omega
          · have hrk : r ≤ 1000 := by have := HR.out; omega
            obtain ⟨g, rfl, rfl⟩ := HA43.out hr0
            refine op_append_grows _ _ 25 rfl 35 i0 _ 37 96 Tryz.underlying25 HI0.out.1 HI0.out.2.1 HI0.out.2.2.1 HI0.out.2.2.2 zeroP_cells (by decide) (some ⟨q8, 0, none⟩) 1 1 x.enc rfl (fun e => by cases e) (by rw [enc_len]) (fun b' e => by cases e; exact HB8.out V1 (World.grownBy.refl _ _)) ⟨g, j * 37, none⟩ r c43 (rowsC (A.drop j)) rfl (by rw [rowsC_len, List.length_drop, HLN.out, HR.out]) (owns_drop (HOW.out.stays g1) j hj HLN.out) (rowsC_one _) (by omega) (by unfold maxLen; omega) (by omega) (fun v' w' hown hg => ?_)
            have hg2 := World.grownBy.trans g1 hg
            have HG2 := Lib.hid hg2
            obtain ⟨g4, c4, rfl⟩ : ∃ g4 c4, v' = .slice (some ⟨g4, 0, none⟩) (1 + r) c4 := by
              rcases hown.2 with ⟨_, h0⟩ | ⟨g4, c4, _, rfl, _⟩
              · omega
              · exact ⟨g4, c4, rfl⟩
            have HOWN := Lib.hid hown
            refine hK.out _ _ hg2 (fun g3 => ?_)
            clear hK K hown hg hg2
            try simp only [Act.put, List.getElem_toArray, List.getElem_cons_zero, List.getElem_cons_succ, List.setIfInBounds_toArray, List.set_cons_zero, List.set_cons_succ]
            refine wpAnyH_ready (rs := [13]) (by kernel_rfl) (by simp) ?_
            refine AllReadyH.cons rfl (fun K hK => ?_) AllReadyH.nil
            rw [if_pos (by rfl)]
            refine op_append_grows _ _ 25 rfl 35 i0 _ 37 96 Tryz.underlying25 HI0.out.1 HI0.out.2.1 HI0.out.2.2.1 HI0.out.2.2.2 zeroP_cells (by decide) (some ⟨g, 0, none⟩) j j (rowsC (A.take j)) rfl (fun e => by cases e) (by rw [rowsC_len, List.length_take, HLN.out, Nat.min_eq_left hj]) (owns_take (HOW.out.stays g3) j) ⟨g4, 0, none⟩ (1 + r) c4 (x.enc ++ rowsC (A.drop j)) rfl (by rw [List.length_append, enc_len, rowsC_len, List.length_drop, HLN.out, HR.out]; omega) (World.ownsRow.cells HOWN.out rfl) (fun u hu => (List.mem_append.1 hu).elim (enc_one x u) (rowsC_one _ u)) (by omega) (by unfold maxLen; omega) (by omega) (fun v5 w5 hown5 hg5 => ?_)
            have hg6 := World.grownBy.trans g3 hg5
            have HG6 := Lib.hid hg6
            obtain ⟨g6, c6, rfl⟩ : ∃ g6 c6, v5 = .slice (some ⟨g6, 0, none⟩) (j + (1 + r)) c6 := by
              rcases hown5.2 with ⟨_, h0⟩ | ⟨g6, c6, _, rfl, _⟩
              · omega
              · exact ⟨g6, c6, rfl⟩
            have HOW5 := Lib.hid hown5
            refine hK.out _ _ hg6 (fun g7 => ?_)
            clear hK K hown5 hg5 hg6
            try simp only [Act.put, List.getElem_toArray, List.getElem_cons_zero, List.getElem_cons_succ, List.setIfInBounds_toArray, List.set_cons_zero, List.set_cons_succ]
            refine wpAnyH_ready (rs := [14]) (by kernel_rfl) (by simp) ?_
            refine AllReadyH.cons rfl (fun K hK => ?_) AllReadyH.nil
            rw [if_pos (by rfl)]
            go_simp
            refine hK.out _ _ g7 (fun gf => ?_)
            clear hK K
            try simp only [Act.put, List.getElem_toArray, List.getElem_cons_zero, List.getElem_cons_succ, List.setIfInBounds_toArray, List.set_cons_zero, List.set_cons_succ]
            refine wpAnyH_done (by kernel_rfl) ?_ _
            refine NoPanic.normal ?_
            have hjk : j + (1 + r) = k + 1 := by have := HR.out; omega
            rw [hjk] at HOW5 ⊢
            have HOF : Hid (OwnsP w5 w.heap.size (.slice (some ⟨g6, 0, none⟩) (k + 1) c6) (putK L (k + 1))) := Lib.hid (by
              have h := HOW5.out
              refine OwnsP.mono (b := w'.heap.size) ?_ (Nat.le_trans (Nat.le_trans HG.out.size G01.out.size) HG2.out.size)
              show World.ownsRow _ _ _ _ _ _ _
              rw [HSU.out, HE.out, List.length_append, List.length_take, List.length_cons, List.length_drop, rowsC_app, HLN.out, Nat.min_eq_left hj, show j + (k - j + 1) = k + 1 by omega]
              exact h)
            have HGF := Lib.hid (World.grownBy.trans HG.out (World.grownBy.trans G01.out HG6.out))
            have hc' : k + 1 ≤ c6 ∧ c6 ≤ 9223372036854775807 := by
              obtain ⟨_, _, e, h1, h2⟩ := HOF.out.form
              have e2 := (Value.slice.inj e).2
              unfold maxLen at h2
              omega
            clear hjk
            go_wp2
            go_roundw
            case rel => exact ⟨k + 1, c6, some ⟨g6, 0, none⟩, by omega, by go_num, rfl, hc'.1, hc'.2, HOF, HGF⟩
            case measure => simp [intOf]; omega
        · obtain ⟨jp, rfl⟩ : ∃ jp, j = jp + 1 := ⟨j - 1, by omega⟩
          obtain ⟨y, hy⟩ : ∃ y, A[jp]? = some y := ⟨_, List.getElem?_eq_getElem (by rw [HLN.out]; omega)⟩
          obtain ⟨g, hao⟩ : ∃ g, ao = some ⟨g, 0, none⟩ := by
            rcases HO.out.2 with ⟨_, h2⟩ | ⟨g, _, _, h1, _⟩
            · rw [HLN.out] at h2; omega
            · exact ⟨g, (Value.slice.inj h1).1⟩
          subst hao
          obtain ⟨q, hq⟩ := HWI.out
          have hyn : wr.cell? ⟨g, jp * 37, none⟩ = some (.string y.name) := by rw [hq]; exact range_name (part_owns HO.out jp y hy)
          have hxn2 : wr.cell? ⟨b, o + k * 37, none⟩ = some (.string x.name) := by rw [hq]; exact hxn
          have HQ := Lib.hid hq
          have HY := Lib.hid hy
          have hwp : IntKind.i64.wrap (jp : Int) = (jp : Int) := by rw [IntKind.wrap_i64]; omega
          have hwp2 : IntKind.i64.wrap ((jp : Int) + 1 - 1) = (jp : Int) := by rw [IntKind.wrap_i64]; omega
          have hjp0 : (0 : Int) < (jp : Int) + 1 := by omega
          have e0 : (((jp + 1 : Nat)) : Int) = (jp : Int) + 1 := by omega
          rw [e0]
          clear hq hy h0
          rcases less_ways x.name y.name with ⟨h1, h2, h3, h4⟩ | ⟨h1, h2⟩ | ⟨h1, h2⟩
          · have HL := Lib.hid h1
            clear h1
            go_wp2_with fail
            go_quiet (fail)
            go_wp2_with fail
            refine ⟨⟨jp, by omega, rfl, Lib.hid (fun i z hi hz => ?_), Lib.hid ⟨q + nq, by rw [HQ.out, World.drewN_drewN]⟩⟩, by simp [intOf]⟩
            rcases Nat.lt_or_ge jp i with h | h
            · exact HGT.out i z (by omega) hz
            · obtain rfl : i = jp := by omega
              obtain rfl : y = z := Option.some.inj (HY.out.symm.trans hz)
              exact HL.out
          · have HE := Lib.hid (HEXIT.out (fun z _ hz => by
              rw [Nat.add_sub_cancel] at hz
              obtain rfl : y = z := Option.some.inj (HY.out.symm.trans hz)
              exact h1))
            clear h1 HEXIT HGT
            go_wp2_with fail
            go_quiet (fail)
            go_wp2_with fail
            clear hyn hxn2 hwp hwp2 hjp0 h2
            rw [← e0]
            clear e0
            obtain ⟨j, hjj⟩ : ∃ j, jp + 1 = j := ⟨_, rfl⟩
            rw [hjj] at HE hj ⊢
            clear hjj
            obtain ⟨ao, hao⟩ : ∃ ao : Option Addr, some ⟨g, 0, none⟩ = ao := ⟨_, rfl⟩
            rw [hao] at HO ⊢
            clear hao
            obtain ⟨W1, hW1⟩ : ∃ W1, wr.drewN nq = W1 := ⟨_, rfl⟩
            have HW1 : Hid (W1 = wo.drewN (q + nq)) := Lib.hid (by rw [← hW1, HQ.out, World.drewN_drewN])
            rw [hW1]
            clear hW1
            have g01 : wo.grownBy W1 none := by rw [HW1.out]; exact grown_drew _ (World.grownBy.refl _ _)
            have G01 := Lib.hid g01
            have HOW := Lib.hid (HO.out.stays g01)
            have HRW := Lib.hid (range_stays HRG.out g01 (by simp))
            have HI : Hid ((Tryz.prog.info? 35).map (·.size) = some x.enc.length) := Lib.hid (by rw [enc_len]; exact infoP_size)
            have HSZX : Hid (x.enc.toArray.size = 37) := Lib.hid (by rw [List.size_toArray, enc_len])
            have HA43 := Lib.hid (owns_cut HO.out HLN.out j (by omega))
            clear g01 HQ HWI
            refine wp_region_noPanic ?_
            refine wp_region_held_drew (S := fun V => W1.grownBy V none) (by kernel_rfl) (grown_drew 1 (World.grownBy.refl _ _)) (fun g0 => ?_)
            refine wpAnyH_take (i := 0) (v := .slice ao k cp) rfl (by kernel_rfl) (by kernel_rfl) (by kernel_rfl) (fun _ _ _ h => h) (Or.inl ⟨by rfl, fun V' hV' => by rfl⟩) g0 ?_
            try simp only [Act.put, List.getElem_toArray, List.getElem_cons_zero, List.setIfInBounds_toArray, List.set_cons_zero, List.set_cons_succ]
            refine wpAnyH_take (i := 1) (v := .int .i64 j) rfl (by kernel_rfl) (by kernel_rfl) (by kernel_rfl) (fun _ _ _ h => h) (Or.inl ⟨by rfl, fun V' hV' => by rfl⟩) g0 ?_
            try simp only [Act.put, List.getElem_toArray, List.getElem_cons_zero, List.getElem_cons_succ, List.setIfInBounds_toArray, List.set_cons_zero, List.set_cons_succ]
            refine wpAnyH_take (i := 2) (v := .int .i64 j) rfl (by kernel_rfl) (by kernel_rfl) (by kernel_rfl) (fun _ _ _ h => h) (Or.inl ⟨by rfl, fun V' hV' => by rfl⟩) g0 ?_
            try simp only [Act.put, List.getElem_toArray, List.getElem_cons_zero, List.getElem_cons_succ, List.setIfInBounds_toArray, List.set_cons_zero, List.set_cons_succ]
            refine wpAnyH_take (i := 3) (v := .slice ao j j) rfl (by kernel_rfl) (by kernel_rfl) (by kernel_rfl) (fun _ _ _ h => h) (Or.inl ⟨by rfl, fun V' hV' => ?_⟩) g0 ?_
            · go_simp
              intro hcj
              exact absurd hcj (by omega)
            try simp only [Act.put, List.getElem_toArray, List.getElem_cons_zero, List.getElem_cons_succ, List.setIfInBounds_toArray, List.set_cons_zero, List.set_cons_succ]
            refine wpAnyH_take (i := 4) (v := .slice (some ⟨b, o, none⟩) n cap) rfl (by kernel_rfl) (by kernel_rfl) (by kernel_rfl) (fun _ _ _ h => h) (Or.inl ⟨by rfl, fun V' hV' => by rfl⟩) g0 ?_
            try simp only [Act.put, List.getElem_toArray, List.getElem_cons_zero, List.getElem_cons_succ, List.setIfInBounds_toArray, List.set_cons_zero, List.set_cons_succ]
            refine wpAnyH_take (i := 5) (v := .int .i64 k) rfl (by kernel_rfl) (by kernel_rfl) (by kernel_rfl) (fun _ _ _ h => h) (Or.inl ⟨by rfl, fun V' hV' => by rfl⟩) g0 ?_
            try simp only [Act.put, List.getElem_toArray, List.getElem_cons_zero, List.getElem_cons_succ, List.setIfInBounds_toArray, List.set_cons_zero, List.set_cons_succ]
            refine wpAnyH_take (i := 6) (v := .pointer (some ⟨b, o + k * 37, none⟩)) rfl (by kernel_rfl) (by kernel_rfl) (by kernel_rfl) (fun _ _ _ h => h) (Or.inl ⟨by rfl, fun V' hV' => ?_⟩) g0 ?_
            · go_simp
            try simp only [Act.put, List.getElem_toArray, List.getElem_cons_zero, List.getElem_cons_succ, List.setIfInBounds_toArray, List.set_cons_zero, List.set_cons_succ]
            refine wpAnyH_take (i := 7) (v := .agg x.enc.toArray) rfl (by kernel_rfl) (by kernel_rfl) (by kernel_rfl) (fun _ _ _ h => h) (Or.inl ⟨by rfl, fun V' hV' => ?_⟩) g0 ?_
            · have h := run_loadAt_mid (P := Tryz.prog) V' b (o + k * 37) 35 x.enc _ (range_stays HRW.out hV' (by simp)) Tryz.underlying35 rfl HI.out
              simp [execOp, Act.eval, h, Result.andThen]
            try simp only [Act.put, List.getElem_toArray, List.getElem_cons_zero, List.getElem_cons_succ, List.setIfInBounds_toArray, List.set_cons_zero, List.set_cons_succ]
            refine wpAnyH_take (i := 9) (v := .slice ao k cp) rfl (by kernel_rfl) (by kernel_rfl) (by kernel_rfl) (fun _ _ _ h => h) (Or.inl ⟨by rfl, fun V' hV' => by rfl⟩) g0 ?_
            try simp only [Act.put, List.getElem_toArray, List.getElem_cons_zero, List.getElem_cons_succ, List.setIfInBounds_toArray, List.set_cons_zero, List.set_cons_succ]
            refine wpAnyH_take (i := 10) (v := .int .i64 j) rfl (by kernel_rfl) (by kernel_rfl) (by kernel_rfl) (fun _ _ _ h => h) (Or.inl ⟨by rfl, fun V' hV' => by rfl⟩) g0 ?_
            try simp only [Act.put, List.getElem_toArray, List.getElem_cons_zero, List.getElem_cons_succ, List.setIfInBounds_toArray, List.set_cons_zero, List.set_cons_succ]
            refine wpAnyH_take (i := 11) (v := .slice (if cp = j then ao else Option.map (fun x => Addr.add x (j * 37)) ao) (k - j) (cp - j)) rfl (by kernel_rfl) (by kernel_rfl) (by kernel_rfl) (fun _ _ _ h => h) (Or.inl ⟨by rfl, fun V' hV' => ?_⟩) g0 ?_
            · go_simp
            try simp only [Act.put, List.getElem_toArray, List.getElem_cons_zero, List.getElem_cons_succ, List.setIfInBounds_toArray, List.set_cons_zero, List.set_cons_succ]
            obtain ⟨a43, ha43⟩ : ∃ a43, (if cp = j then ao else Option.map (fun x => Addr.add x (j * 37)) ao) = a43 := ⟨_, rfl⟩
            rw [ha43] at HA43 ⊢
            clear ha43
            obtain ⟨r, hr⟩ : ∃ r, k - j = r := ⟨_, rfl⟩
            have HR := Lib.hid hr
            rw [hr] at HA43 ⊢
            clear hr
            obtain ⟨c43, hc43⟩ : ∃ c43, cp - j = c43 := ⟨_, rfl⟩
            rw [hc43]
            clear hc43
            obtain ⟨i0, hi, hz0, hz1, hz2⟩ := info_parts infoP
            have HI0 := Lib.hid (And.intro hi (And.intro hz0 (And.intro hz1 hz2)))
            clear hi hz0 hz1 hz2
            refine wpAnyH_ready (rs := [8]) (by kernel_rfl) (by simp) ?_
            refine AllReadyH.cons rfl (fun K hK => ?_) AllReadyH.nil
            rw [if_pos (by rfl)]
            refine op_slice_pin _ rfl x.enc.toArray HSZX.out rfl ?_
            refine hK.out _ _ (World.grownBy.trans g0 (World.grownBy_alloc _ _ _)) (fun g1 => ?_)
            clear hK K
            try simp only [Act.put, List.getElem_toArray, List.getElem_cons_zero, List.getElem_cons_succ, List.setIfInBounds_toArray, List.set_cons_zero, List.set_cons_succ]
            obtain ⟨q8, hq8⟩ : ∃ q8, W1.drew.heap.size = q8 := ⟨_, rfl⟩
            have hb8 : (W1.drew.alloc (.cells x.enc.toArray 35)).heap[q8]? = some (.cells x.enc.toArray 35 (0, 0)) := by rw [← hq8]; exact alloc_block _ _
            rw [hq8]
            obtain ⟨V1, hV1⟩ : ∃ V1, W1.drew.alloc (.cells x.enc.toArray 35) = V1 := ⟨_, rfl⟩
            rw [hV1] at g1 hb8 ⊢
            have HB8 : Hid (∀ V, V1.grownBy V none → ∀ t u, x.enc[t]? = some u → V.cell? ((⟨q8, 0, none⟩ : Addr).add t) = some u) := Lib.hid (fun V hV t u hu => by
              rw [Addr.add_mid, Nat.zero_add]
              refine hV.cell ?_ (by simp)
              rw [cell_in hb8]; simpa using hu)
            have HG1 := Lib.hid g1
            clear hq8 hb8 hV1
            refine wpAnyH_ready (rs := [12]) (by kernel_rfl) (by simp) ?_
            refine AllReadyH.cons rfl (fun K hK => ?_) AllReadyH.nil
            rw [if_pos (by rfl)]
            rcases Nat.eq_zero_or_pos r with hr0 | hr0
            · subst hr0
              refine op_append_zero _ _ 25 35 i0 rfl Tryz.underlying25 HI0.out.1 (some ⟨q8, 0, none⟩) a43 1 1 c43 rfl rfl (Nat.le_refl _) ?_
              refine hK.out _ _ g1 (fun g2 => ?_)
              clear hK K
              try simp only [Act.put, List.getElem_toArray, List.getElem_cons_zero, List.getElem_cons_succ, List.setIfInBounds_toArray, List.set_cons_zero, List.set_cons_succ]
              refine wpAnyH_ready (rs := [13]) (by kernel_rfl) (by simp) ?_
              refine AllReadyH.cons rfl (fun K hK => ?_) AllReadyH.nil
              rw [if_pos (by rfl)]
              refine op_append_grows _ _ 25 rfl 35 i0 _ 37 96 Tryz.underlying25 HI0.out.1 HI0.out.2.1 HI0.out.2.2.1 HI0.out.2.2.2 zeroP_cells (by decide) ao j j (rowsC (A.take j)) rfl (owns_nil HO.out HLN.out hj) (by rw [rowsC_len, List.length_take, HLN.out, Nat.min_eq_left hj]) (owns_take (HOW.out.stays g1) j) ⟨q8, 0, none⟩ 1 1 x.enc rfl (by rw [enc_len]) (HB8.out V1 (World.grownBy.refl _ _)) (enc_one x) (by omega) (by unfold maxLen; omega) (by omega) (fun v' w' hown hg => ?_)
              have hg2 := World.grownBy.trans g1 hg
              have HG2 := Lib.hid hg2
              have HOWN := Lib.hid hown
              obtain ⟨g', c', rfl⟩ := ownsRow_succ hown
              refine hK.out _ _ hg2 (fun g3 => ?_)
              clear hK K hown hg hg2
              try simp only [Act.put, List.getElem_toArray, List.getElem_cons_zero, List.getElem_cons_succ, List.setIfInBounds_toArray, List.set_cons_zero, List.set_cons_succ]
              refine wpAnyH_ready (rs := [14]) (by kernel_rfl) (by simp) ?_
              refine AllReadyH.cons rfl (fun K hK => ?_) AllReadyH.nil
              rw [if_pos (by rfl)]
              go_simp
              refine hK.out _ _ g3 (fun gf => ?_)
              clear hK K
              try simp only [Act.put, List.getElem_toArray, List.getElem_cons_zero, List.getElem_cons_succ, List.setIfInBounds_toArray, List.set_cons_zero, List.set_cons_succ]
              refine wpAnyH_done (by kernel_rfl) ?_ _
              refine NoPanic.normal ?_
              have hjk : j = k := by have := HR.out; omega
              have HOF : Hid (OwnsP w' w.heap.size (.slice (some ⟨g', 0, none⟩) (k + 1) c') (putK L (k + 1))) := Lib.hid (by
                have h := HOWN.out
                subst hjk
                refine OwnsP.mono (b := V1.heap.size) ?_ (Nat.le_trans (Nat.le_trans HG.out.size G01.out.size) HG1.out.size)
                show World.ownsRow _ _ _ _ _ _ _
                rw [HSU.out, HE.out, List.length_append, List.length_take, List.length_cons, List.length_drop, rowsC_app, HLN.out, Nat.min_self, Nat.sub_self]
                have e : rowsC (x :: A.drop j) = x.enc := by rw [List.drop_eq_nil_of_le (by rw [HLN.out]; exact Nat.le_refl _)]; simp [rowsC]
                rw [e]
                exact h)
              have HGF := Lib.hid (World.grownBy.trans HG.out (World.grownBy.trans G01.out HG2.out))
              have hc' : k + 1 ≤ c' ∧ c' ≤ 9223372036854775807 := by
                obtain ⟨_, _, e, h1, h2⟩ := HOF.out.form
                have e2 := (Value.slice.inj e).2
                unfold maxLen at h2
                omega
              subst hjk
              go_wp2
              go_roundw
              case rel => exact ⟨j + 1, c', some ⟨g', 0, none⟩, by omega, by go_num, rfl, hc'.1, hc'.2, HOF, HGF⟩
              case measure => simp [intOf]; omega
            · have hrk : r ≤ 1000 := by have := HR.out; omega
              obtain ⟨g, rfl, rfl⟩ := HA43.out hr0
              refine op_append_grows _ _ 25 rfl 35 i0 _ 37 96 Tryz.underlying25 HI0.out.1 HI0.out.2.1 HI0.out.2.2.1 HI0.out.2.2.2 zeroP_cells (by decide) (some ⟨q8, 0, none⟩) 1 1 x.enc rfl (fun e => by cases e) (by rw [enc_len]) (fun b' e => by cases e; exact HB8.out V1 (World.grownBy.refl _ _)) ⟨g, j * 37, none⟩ r c43 (rowsC (A.drop j)) rfl (by rw [rowsC_len, List.length_drop, HLN.out, HR.out]) (owns_drop (HOW.out.stays g1) j hj HLN.out) (rowsC_one _) (by omega) (by unfold maxLen; omega) (by omega) (fun v' w' hown hg => ?_)
              have hg2 := World.grownBy.trans g1 hg
              have HG2 := Lib.hid hg2
              obtain ⟨g4, c4, rfl⟩ : ∃ g4 c4, v' = .slice (some ⟨g4, 0, none⟩) (1 + r) c4 := by
                rcases hown.2 with ⟨_, h0⟩ | ⟨g4, c4, _, rfl, _⟩
                · omega
                · exact ⟨g4, c4, rfl⟩
              have HOWN := Lib.hid hown
              refine hK.out _ _ hg2 (fun g3 => ?_)
              clear hK K hown hg hg2
              try simp only [Act.put, List.getElem_toArray, List.getElem_cons_zero, List.getElem_cons_succ, List.setIfInBounds_toArray, List.set_cons_zero, List.set_cons_succ]
              refine wpAnyH_ready (rs := [13]) (by kernel_rfl) (by simp) ?_
              refine AllReadyH.cons rfl (fun K hK => ?_) AllReadyH.nil
              rw [if_pos (by rfl)]
              refine op_append_grows _ _ 25 rfl 35 i0 _ 37 96 Tryz.underlying25 HI0.out.1 HI0.out.2.1 HI0.out.2.2.1 HI0.out.2.2.2 zeroP_cells (by decide) (some ⟨g, 0, none⟩) j j (rowsC (A.take j)) rfl (fun e => by cases e) (by rw [rowsC_len, List.length_take, HLN.out, Nat.min_eq_left hj]) (owns_take (HOW.out.stays g3) j) ⟨g4, 0, none⟩ (1 + r) c4 (x.enc ++ rowsC (A.drop j)) rfl (by rw [List.length_append, enc_len, rowsC_len, List.length_drop, HLN.out, HR.out]; omega) (World.ownsRow.cells HOWN.out rfl) (fun u hu => (List.mem_append.1 hu).elim (enc_one x u) (rowsC_one _ u)) (by omega) (by unfold maxLen; omega) (by omega) (fun v5 w5 hown5 hg5 => ?_)
              have hg6 := World.grownBy.trans g3 hg5
              have HG6 := Lib.hid hg6
              obtain ⟨g6, c6, rfl⟩ : ∃ g6 c6, v5 = .slice (some ⟨g6, 0, none⟩) (j + (1 + r)) c6 := by
                rcases hown5.2 with ⟨_, h0⟩ | ⟨g6, c6, _, rfl, _⟩
                · omega
                · exact ⟨g6, c6, rfl⟩
              have HOW5 := Lib.hid hown5
              refine hK.out _ _ hg6 (fun g7 => ?_)
              clear hK K hown5 hg5 hg6
              try simp only [Act.put, List.getElem_toArray, List.getElem_cons_zero, List.getElem_cons_succ, List.setIfInBounds_toArray, List.set_cons_zero, List.set_cons_succ]
              refine wpAnyH_ready (rs := [14]) (by kernel_rfl) (by simp) ?_
              refine AllReadyH.cons rfl (fun K hK => ?_) AllReadyH.nil
              rw [if_pos (by rfl)]
              go_simp
              refine hK.out _ _ g7 (fun gf => ?_)
              clear hK K
              try simp only [Act.put, List.getElem_toArray, List.getElem_cons_zero, List.getElem_cons_succ, List.setIfInBounds_toArray, List.set_cons_zero, List.set_cons_succ]
              refine wpAnyH_done (by kernel_rfl) ?_ _
              refine NoPanic.normal ?_
              have hjk : j + (1 + r) = k + 1 := by have := HR.out; omega
              rw [hjk] at HOW5 ⊢
              have HOF : Hid (OwnsP w5 w.heap.size (.slice (some ⟨g6, 0, none⟩) (k + 1) c6) (putK L (k + 1))) := Lib.hid (by
                have h := HOW5.out
                refine OwnsP.mono (b := w'.heap.size) ?_ (Nat.le_trans (Nat.le_trans HG.out.size G01.out.size) HG2.out.size)
                show World.ownsRow _ _ _ _ _ _ _
                rw [HSU.out, HE.out, List.length_append, List.length_take, List.length_cons, List.length_drop, rowsC_app, HLN.out, Nat.min_eq_left hj, show j + (k - j + 1) = k + 1 by omega]
                exact h)
              have HGF := Lib.hid (World.grownBy.trans HG.out (World.grownBy.trans G01.out HG6.out))
              have hc' : k + 1 ≤ c6 ∧ c6 ≤ 9223372036854775807 := by
                obtain ⟨_, _, e, h1, h2⟩ := HOF.out.form
                have e2 := (Value.slice.inj e).2
                unfold maxLen at h2
                omega
              clear hjk
              go_wp2
              go_roundw
              case rel => exact ⟨k + 1, c6, some ⟨g6, 0, none⟩, by omega, by go_num, rfl, hc'.1, hc'.2, HOF, HGF⟩
              case measure => simp [intOf]; omega
          · have HE := Lib.hid (HEXIT.out (fun z _ hz => by
              rw [Nat.add_sub_cancel] at hz
              obtain rfl : y = z := Option.some.inj (HY.out.symm.trans hz)
              exact h1))
            clear h1 HEXIT HGT
            rw [← h2] at hyn
            have h3 := less_self x.name.toList
            go_wp2_with fail
            go_quiet (fail)
            go_wp2_with fail
            clear hyn hxn2 hwp hwp2 hjp0 h2 h3
            rw [← e0]
            clear e0
            obtain ⟨j, hjj⟩ : ∃ j, jp + 1 = j := ⟨_, rfl⟩
            rw [hjj] at HE hj ⊢
            clear hjj
            obtain ⟨ao, hao⟩ : ∃ ao : Option Addr, some ⟨g, 0, none⟩ = ao := ⟨_, rfl⟩
            rw [hao] at HO ⊢
            clear hao
            obtain ⟨W1, hW1⟩ : ∃ W1, wr.drewN nq = W1 := ⟨_, rfl⟩
            have HW1 : Hid (W1 = wo.drewN (q + nq)) := Lib.hid (by rw [← hW1, HQ.out, World.drewN_drewN])
            rw [hW1]
            clear hW1
            have g01 : wo.grownBy W1 none := by rw [HW1.out]; exact grown_drew _ (World.grownBy.refl _ _)
            have G01 := Lib.hid g01
            have HOW := Lib.hid (HO.out.stays g01)
            have HRW := Lib.hid (range_stays HRG.out g01 (by simp))
            have HI : Hid ((Tryz.prog.info? 35).map (·.size) = some x.enc.length) := Lib.hid (by rw [enc_len]; exact infoP_size)
            have HSZX : Hid (x.enc.toArray.size = 37) := Lib.hid (by rw [List.size_toArray, enc_len])
            have HA43 := Lib.hid (owns_cut HO.out HLN.out j (by omega))
            clear g01 HQ HWI
            refine wp_region_noPanic ?_
            refine wp_region_held_drew (S := fun V => W1.grownBy V none) (by kernel_rfl) (grown_drew 1 (World.grownBy.refl _ _)) (fun g0 => ?_)
            refine wpAnyH_take (i := 0) (v := .slice ao k cp) rfl (by kernel_rfl) (by kernel_rfl) (by kernel_rfl) (fun _ _ _ h => h) (Or.inl ⟨by rfl, fun V' hV' => by rfl⟩) g0 ?_
            try simp only [Act.put, List.getElem_toArray, List.getElem_cons_zero, List.setIfInBounds_toArray, List.set_cons_zero, List.set_cons_succ]
            refine wpAnyH_take (i := 1) (v := .int .i64 j) rfl (by kernel_rfl) (by kernel_rfl) (by kernel_rfl) (fun _ _ _ h => h) (Or.inl ⟨by rfl, fun V' hV' => by rfl⟩) g0 ?_
            try simp only [Act.put, List.getElem_toArray, List.getElem_cons_zero, List.getElem_cons_succ, List.setIfInBounds_toArray, List.set_cons_zero, List.set_cons_succ]
            refine wpAnyH_take (i := 2) (v := .int .i64 j) rfl (by kernel_rfl) (by kernel_rfl) (by kernel_rfl) (fun _ _ _ h => h) (Or.inl ⟨by rfl, fun V' hV' => by rfl⟩) g0 ?_
            try simp only [Act.put, List.getElem_toArray, List.getElem_cons_zero, List.getElem_cons_succ, List.setIfInBounds_toArray, List.set_cons_zero, List.set_cons_succ]
            refine wpAnyH_take (i := 3) (v := .slice ao j j) rfl (by kernel_rfl) (by kernel_rfl) (by kernel_rfl) (fun _ _ _ h => h) (Or.inl ⟨by rfl, fun V' hV' => ?_⟩) g0 ?_
            · go_simp
              intro hcj
              exact absurd hcj (by omega)
            try simp only [Act.put, List.getElem_toArray, List.getElem_cons_zero, List.getElem_cons_succ, List.setIfInBounds_toArray, List.set_cons_zero, List.set_cons_succ]
            refine wpAnyH_take (i := 4) (v := .slice (some ⟨b, o, none⟩) n cap) rfl (by kernel_rfl) (by kernel_rfl) (by kernel_rfl) (fun _ _ _ h => h) (Or.inl ⟨by rfl, fun V' hV' => by rfl⟩) g0 ?_
            try simp only [Act.put, List.getElem_toArray, List.getElem_cons_zero, List.getElem_cons_succ, List.setIfInBounds_toArray, List.set_cons_zero, List.set_cons_succ]
            refine wpAnyH_take (i := 5) (v := .int .i64 k) rfl (by kernel_rfl) (by kernel_rfl) (by kernel_rfl) (fun _ _ _ h => h) (Or.inl ⟨by rfl, fun V' hV' => by rfl⟩) g0 ?_
            try simp only [Act.put, List.getElem_toArray, List.getElem_cons_zero, List.getElem_cons_succ, List.setIfInBounds_toArray, List.set_cons_zero, List.set_cons_succ]
            refine wpAnyH_take (i := 6) (v := .pointer (some ⟨b, o + k * 37, none⟩)) rfl (by kernel_rfl) (by kernel_rfl) (by kernel_rfl) (fun _ _ _ h => h) (Or.inl ⟨by rfl, fun V' hV' => ?_⟩) g0 ?_
            · go_simp
            try simp only [Act.put, List.getElem_toArray, List.getElem_cons_zero, List.getElem_cons_succ, List.setIfInBounds_toArray, List.set_cons_zero, List.set_cons_succ]
            refine wpAnyH_take (i := 7) (v := .agg x.enc.toArray) rfl (by kernel_rfl) (by kernel_rfl) (by kernel_rfl) (fun _ _ _ h => h) (Or.inl ⟨by rfl, fun V' hV' => ?_⟩) g0 ?_
            · have h := run_loadAt_mid (P := Tryz.prog) V' b (o + k * 37) 35 x.enc _ (range_stays HRW.out hV' (by simp)) Tryz.underlying35 rfl HI.out
              simp [execOp, Act.eval, h, Result.andThen]
            try simp only [Act.put, List.getElem_toArray, List.getElem_cons_zero, List.getElem_cons_succ, List.setIfInBounds_toArray, List.set_cons_zero, List.set_cons_succ]
            refine wpAnyH_take (i := 9) (v := .slice ao k cp) rfl (by kernel_rfl) (by kernel_rfl) (by kernel_rfl) (fun _ _ _ h => h) (Or.inl ⟨by rfl, fun V' hV' => by rfl⟩) g0 ?_
            try simp only [Act.put, List.getElem_toArray, List.getElem_cons_zero, List.getElem_cons_succ, List.setIfInBounds_toArray, List.set_cons_zero, List.set_cons_succ]
            refine wpAnyH_take (i := 10) (v := .int .i64 j) rfl (by kernel_rfl) (by kernel_rfl) (by kernel_rfl) (fun _ _ _ h => h) (Or.inl ⟨by rfl, fun V' hV' => by rfl⟩) g0 ?_
            try simp only [Act.put, List.getElem_toArray, List.getElem_cons_zero, List.getElem_cons_succ, List.setIfInBounds_toArray, List.set_cons_zero, List.set_cons_succ]
            refine wpAnyH_take (i := 11) (v := .slice (if cp = j then ao else Option.map (fun x => Addr.add x (j * 37)) ao) (k - j) (cp - j)) rfl (by kernel_rfl) (by kernel_rfl) (by kernel_rfl) (fun _ _ _ h => h) (Or.inl ⟨by rfl, fun V' hV' => ?_⟩) g0 ?_
            · go_simp
            try simp only [Act.put, List.getElem_toArray, List.getElem_cons_zero, List.getElem_cons_succ, List.setIfInBounds_toArray, List.set_cons_zero, List.set_cons_succ]
            obtain ⟨a43, ha43⟩ : ∃ a43, (if cp = j then ao else Option.map (fun x => Addr.add x (j * 37)) ao) = a43 := ⟨_, rfl⟩
            rw [ha43] at HA43 ⊢
            clear ha43
            obtain ⟨r, hr⟩ : ∃ r, k - j = r := ⟨_, rfl⟩
            have HR := Lib.hid hr
            rw [hr] at HA43 ⊢
            clear hr
            obtain ⟨c43, hc43⟩ : ∃ c43, cp - j = c43 := ⟨_, rfl⟩
            rw [hc43]
            clear hc43
            obtain ⟨i0, hi, hz0, hz1, hz2⟩ := info_parts infoP
            have HI0 := Lib.hid (And.intro hi (And.intro hz0 (And.intro hz1 hz2)))
            clear hi hz0 hz1 hz2
            refine wpAnyH_ready (rs := [8]) (by kernel_rfl) (by simp) ?_
            refine AllReadyH.cons rfl (fun K hK => ?_) AllReadyH.nil
            rw [if_pos (by rfl)]
            refine op_slice_pin _ rfl x.enc.toArray HSZX.out rfl ?_
            refine hK.out _ _ (World.grownBy.trans g0 (World.grownBy_alloc _ _ _)) (fun g1 => ?_)
            clear hK K
            try simp only [Act.put, List.getElem_toArray, List.getElem_cons_zero, List.getElem_cons_succ, List.setIfInBounds_toArray, List.set_cons_zero, List.set_cons_succ]
            obtain ⟨q8, hq8⟩ : ∃ q8, W1.drew.heap.size = q8 := ⟨_, rfl⟩
            have hb8 : (W1.drew.alloc (.cells x.enc.toArray 35)).heap[q8]? = some (.cells x.enc.toArray 35 (0, 0)) := by rw [← hq8]; exact alloc_block _ _
            rw [hq8]
            obtain ⟨V1, hV1⟩ : ∃ V1, W1.drew.alloc (.cells x.enc.toArray 35) = V1 := ⟨_, rfl⟩
            rw [hV1] at g1 hb8 ⊢
            have HB8 : Hid (∀ V, V1.grownBy V none → ∀ t u, x.enc[t]? = some u → V.cell? ((⟨q8, 0, none⟩ : Addr).add t) = some u) := Lib.hid (fun V hV t u hu => by
              rw [Addr.add_mid, Nat.zero_add]
              refine hV.cell ?_ (by simp)
              rw [cell_in hb8]; simpa using hu)
            have HG1 := Lib.hid g1
            clear hq8 hb8 hV1
            refine wpAnyH_ready (rs := [12]) (by kernel_rfl) (by simp) ?_
            refine AllReadyH.cons rfl (fun K hK => ?_) AllReadyH.nil
            rw [if_pos (by rfl)]
            rcases Nat.eq_zero_or_pos r with hr0 | hr0
            · subst hr0
              refine op_append_zero _ _ 25 35 i0 rfl Tryz.underlying25 HI0.out.1 (some ⟨q8, 0, none⟩) a43 1 1 c43 rfl rfl (Nat.le_refl _) ?_
              refine hK.out _ _ g1 (fun g2 => ?_)
              clear hK K
              try simp only [Act.put, List.getElem_toArray, List.getElem_cons_zero, List.getElem_cons_succ, List.setIfInBounds_toArray, List.set_cons_zero, List.set_cons_succ]
              refine wpAnyH_ready (rs := [13]) (by kernel_rfl) (by simp) ?_
              refine AllReadyH.cons rfl (fun K hK => ?_) AllReadyH.nil
              rw [if_pos (by rfl)]
              refine op_append_grows _ _ 25 rfl 35 i0 _ 37 96 Tryz.underlying25 HI0.out.1 HI0.out.2.1 HI0.out.2.2.1 HI0.out.2.2.2 zeroP_cells (by decide) ao j j (rowsC (A.take j)) rfl (owns_nil HO.out HLN.out hj) (by rw [rowsC_len, List.length_take, HLN.out, Nat.min_eq_left hj]) (owns_take (HOW.out.stays g1) j) ⟨q8, 0, none⟩ 1 1 x.enc rfl (by rw [enc_len]) (HB8.out V1 (World.grownBy.refl _ _)) (enc_one x) (by omega) (by unfold maxLen; omega) (by omega) (fun v' w' hown hg => ?_)
              have hg2 := World.grownBy.trans g1 hg
              have HG2 := Lib.hid hg2
              have HOWN := Lib.hid hown
              obtain ⟨g', c', rfl⟩ := ownsRow_succ hown
              refine hK.out _ _ hg2 (fun g3 => ?_)
              clear hK K hown hg hg2
              try simp only [Act.put, List.getElem_toArray, List.getElem_cons_zero, List.getElem_cons_succ, List.setIfInBounds_toArray, List.set_cons_zero, List.set_cons_succ]
              refine wpAnyH_ready (rs := [14]) (by kernel_rfl) (by simp) ?_
              refine AllReadyH.cons rfl (fun K hK => ?_) AllReadyH.nil
              rw [if_pos (by rfl)]
              go_simp
              refine hK.out _ _ g3 (fun gf => ?_)
              clear hK K
              try simp only [Act.put, List.getElem_toArray, List.getElem_cons_zero, List.getElem_cons_succ, List.setIfInBounds_toArray, List.set_cons_zero, List.set_cons_succ]
              refine wpAnyH_done (by kernel_rfl) ?_ _
              refine NoPanic.normal ?_
              have hjk : j = k := by have := HR.out; omega
              have HOF : Hid (OwnsP w' w.heap.size (.slice (some ⟨g', 0, none⟩) (k + 1) c') (putK L (k + 1))) := Lib.hid (by
                have h := HOWN.out
                subst hjk
                refine OwnsP.mono (b := V1.heap.size) ?_ (Nat.le_trans (Nat.le_trans HG.out.size G01.out.size) HG1.out.size)
                show World.ownsRow _ _ _ _ _ _ _
                rw [HSU.out, HE.out, List.length_append, List.length_take, List.length_cons, List.length_drop, rowsC_app, HLN.out, Nat.min_self, Nat.sub_self]
                have e : rowsC (x :: A.drop j) = x.enc := by rw [List.drop_eq_nil_of_le (by rw [HLN.out]; exact Nat.le_refl _)]; simp [rowsC]
                rw [e]
                exact h)
              have HGF := Lib.hid (World.grownBy.trans HG.out (World.grownBy.trans G01.out HG2.out))
              have hc' : k + 1 ≤ c' ∧ c' ≤ 9223372036854775807 := by
                obtain ⟨_, _, e, h1, h2⟩ := HOF.out.form
                have e2 := (Value.slice.inj e).2
                unfold maxLen at h2
                omega
              subst hjk
              go_wp2
              go_roundw
              case rel => exact ⟨j + 1, c', some ⟨g', 0, none⟩, by omega, by go_num, rfl, hc'.1, hc'.2, HOF, HGF⟩
              case measure => simp [intOf]; omega
            · have hrk : r ≤ 1000 := by have := HR.out; omega
              obtain ⟨g, rfl, rfl⟩ := HA43.out hr0
              refine op_append_grows _ _ 25 rfl 35 i0 _ 37 96 Tryz.underlying25 HI0.out.1 HI0.out.2.1 HI0.out.2.2.1 HI0.out.2.2.2 zeroP_cells (by decide) (some ⟨q8, 0, none⟩) 1 1 x.enc rfl (fun e => by cases e) (by rw [enc_len]) (fun b' e => by cases e; exact HB8.out V1 (World.grownBy.refl _ _)) ⟨g, j * 37, none⟩ r c43 (rowsC (A.drop j)) rfl (by rw [rowsC_len, List.length_drop, HLN.out, HR.out]) (owns_drop (HOW.out.stays g1) j hj HLN.out) (rowsC_one _) (by omega) (by unfold maxLen; omega) (by omega) (fun v' w' hown hg => ?_)
              have hg2 := World.grownBy.trans g1 hg
              have HG2 := Lib.hid hg2
              obtain ⟨g4, c4, rfl⟩ : ∃ g4 c4, v' = .slice (some ⟨g4, 0, none⟩) (1 + r) c4 := by
                rcases hown.2 with ⟨_, h0⟩ | ⟨g4, c4, _, rfl, _⟩
                · omega
                · exact ⟨g4, c4, rfl⟩
              have HOWN := Lib.hid hown
              refine hK.out _ _ hg2 (fun g3 => ?_)
              clear hK K hown hg hg2
              try simp only [Act.put, List.getElem_toArray, List.getElem_cons_zero, List.getElem_cons_succ, List.setIfInBounds_toArray, List.set_cons_zero, List.set_cons_succ]
              refine wpAnyH_ready (rs := [13]) (by kernel_rfl) (by simp) ?_
              refine AllReadyH.cons rfl (fun K hK => ?_) AllReadyH.nil
              rw [if_pos (by rfl)]
              refine op_append_grows _ _ 25 rfl 35 i0 _ 37 96 Tryz.underlying25 HI0.out.1 HI0.out.2.1 HI0.out.2.2.1 HI0.out.2.2.2 zeroP_cells (by decide) (some ⟨g, 0, none⟩) j j (rowsC (A.take j)) rfl (fun e => by cases e) (by rw [rowsC_len, List.length_take, HLN.out, Nat.min_eq_left hj]) (owns_take (HOW.out.stays g3) j) ⟨g4, 0, none⟩ (1 + r) c4 (x.enc ++ rowsC (A.drop j)) rfl (by rw [List.length_append, enc_len, rowsC_len, List.length_drop, HLN.out, HR.out]; omega) (World.ownsRow.cells HOWN.out rfl) (fun u hu => (List.mem_append.1 hu).elim (enc_one x u) (rowsC_one _ u)) (by omega) (by unfold maxLen; omega) (by omega) (fun v5 w5 hown5 hg5 => ?_)
              have hg6 := World.grownBy.trans g3 hg5
              have HG6 := Lib.hid hg6
              obtain ⟨g6, c6, rfl⟩ : ∃ g6 c6, v5 = .slice (some ⟨g6, 0, none⟩) (j + (1 + r)) c6 := by
                rcases hown5.2 with ⟨_, h0⟩ | ⟨g6, c6, _, rfl, _⟩
                · omega
                · exact ⟨g6, c6, rfl⟩
              have HOW5 := Lib.hid hown5
              refine hK.out _ _ hg6 (fun g7 => ?_)
              clear hK K hown5 hg5 hg6
              try simp only [Act.put, List.getElem_toArray, List.getElem_cons_zero, List.getElem_cons_succ, List.setIfInBounds_toArray, List.set_cons_zero, List.set_cons_succ]
              refine wpAnyH_ready (rs := [14]) (by kernel_rfl) (by simp) ?_
              refine AllReadyH.cons rfl (fun K hK => ?_) AllReadyH.nil
              rw [if_pos (by rfl)]
              go_simp
              refine hK.out _ _ g7 (fun gf => ?_)
              clear hK K
              try simp only [Act.put, List.getElem_toArray, List.getElem_cons_zero, List.getElem_cons_succ, List.setIfInBounds_toArray, List.set_cons_zero, List.set_cons_succ]
              refine wpAnyH_done (by kernel_rfl) ?_ _
              refine NoPanic.normal ?_
              have hjk : j + (1 + r) = k + 1 := by have := HR.out; omega
              rw [hjk] at HOW5 ⊢
              have HOF : Hid (OwnsP w5 w.heap.size (.slice (some ⟨g6, 0, none⟩) (k + 1) c6) (putK L (k + 1))) := Lib.hid (by
                have h := HOW5.out
                refine OwnsP.mono (b := w'.heap.size) ?_ (Nat.le_trans (Nat.le_trans HG.out.size G01.out.size) HG2.out.size)
                show World.ownsRow _ _ _ _ _ _ _
                rw [HSU.out, HE.out, List.length_append, List.length_take, List.length_cons, List.length_drop, rowsC_app, HLN.out, Nat.min_eq_left hj, show j + (k - j + 1) = k + 1 by omega]
                exact h)
              have HGF := Lib.hid (World.grownBy.trans HG.out (World.grownBy.trans G01.out HG6.out))
              have hc' : k + 1 ≤ c6 ∧ c6 ≤ 9223372036854775807 := by
                obtain ⟨_, _, e, h1, h2⟩ := HOF.out.form
                have e2 := (Value.slice.inj e).2
                unfold maxLen at h2
                omega
              clear hjk
              go_wp2
              go_roundw
              case rel => exact ⟨k + 1, c6, some ⟨g6, 0, none⟩, by omega, by go_num, rfl, hc'.1, hc'.2, HOF, HGF⟩
              case measure => simp [intOf]; omega
    · obtain rfl : k = n := by omega
      have HS : Hid (putK L k = sortP L) := Lib.hid (putK_all L k HN.out)
      go_wp2
      go_ret
      exact ⟨ao, cp, by rw [HN.out]; rfl, by rw [← HS.out, HN.out]; exact HO.out, HG.out⟩
end Go.Proofs.YthdopcdllggdaaaGreatDoor
namespace Go.Proofs.YthdopcdllggdaaaGreatDoor
open Go.RowKit Go.Sort

set_option maxRecDepth 1000000
set_option maxHeartbeats 8000000 in
theorem refLockText_any (n cap : Nat) (a : Option Addr) (L : List Pc) (w : World) (hp : 0 < w.heap.size) (hn : L.length = n) (hn2 : n ≤ 1000) (hP : PartP w w.heap.size (.slice a n cap) L) (hA : AllAt w w.heap.size L) :
    Calls Tryz.prog 14 #[.slice a n cap] w fun e w' => e = .returned (.string ⟨(lockT L).toArray⟩) ∧ w.grownBy w' none := by
  have hlen : ∀ p ∈ sortP L, (pinL p).length ≤ 9000200 := fun p hp => by
    have h := hA p ((sortP_mem L p).1 hp)
    exact pinL_len p (textS_size p.v h.ver.maj.2 h.ver.min.2 h.ver.pat.2 h.ver.sum) h.name
  have HLEN := Lib.hid hlen
  have HN := Lib.hid hn
  have HP := Lib.hid hP
  have HA := Lib.hid hA
  have HW := Lib.hid hp
  have HSN : Hid ((sortP L).length = n) := Lib.hid (by rw [sortP_len, hn])
  clear hlen hn hP hA hp
  go_enter Tryz.func14, Tryz.ntmps14
  go_wp2_with fail
  (with_reducible refine (refPins_any n cap a L w HN.out hn2 HP.out HW.out).mono ?_)
  rintro ee w3 ⟨a3, c3, rfl, hO3, hg3⟩
  rw [HN.out] at hO3 ⊢
  have HG3 := Lib.hid hg3
  have HO3 := Lib.hid hO3
  obtain ⟨LS, hLS⟩ : ∃ LS, sortP L = LS := ⟨_, rfl⟩
  have HLS := Lib.hid hLS
  rw [hLS] at HO3 HLEN HSN
  have HMEM : Hid (∀ p ∈ LS, PcAt w w.heap.size p) := Lib.hid (fun p hp => HA.out p ((sortP_mem L p).1 (by rw [hLS]; exact hp)))
  clear hO3 hg3 hLS
  have HH : Hid (toB (rowT (LS.take 0)) = ⟨#[108, 111, 99, 107, 32, 49, 10]⟩) := Lib.hid (by rfl)
  dsimp only
  go_wp2_with fail
  go_loopw [3, 5] (fun s i wr => ∃ k : Nat, k ≤ n ∧ i = .int .i64 k ∧ s = .string (toB (rowT (LS.take k))) ∧ Hid (w3.grownBy wr none)) (fun _ i _ => n - (intOf i).toNat)
  case atStart => exact ⟨0, Nat.zero_le _, rfl, by rw [HH.out], World.grownBy.refl _ _⟩
  case round =>
    obtain ⟨k, hk, rfl, rfl, HG⟩ := hrel
    by_cases hlt : k < n
    · obtain ⟨x, hx⟩ : ∃ x, LS[k]? = some x := ⟨_, List.getElem?_eq_getElem (by rw [HSN.out]; exact hlt)⟩
      obtain ⟨g, o, hag, _, hrg⟩ := ((HO3.out.part (by have := HG3.out.size; have := HW.out; omega)).stays HG.out).at k x hx
      subst hag
      have hnm : wr.cell? ⟨g, o + k * 37, none⟩ = some (.string x.name) := range_name hrg
      have HVR := Lib.hid (range_ver hrg)
      have HKR := Lib.hid (range_key hrg)
      have HXM := Lib.hid (HMEM.out x (List.mem_of_getElem? hx))
      have HSN2 : Hid (rowT (LS.take (k + 1)) = rowT (LS.take k) ++ pinL x) := Lib.hid (rowT_snoc LS k x hx)
      have hbl := rowT_len LS k HLEN.out
      have hpl := HLEN.out x (List.mem_of_getElem? hx)
      have HGW := Lib.hid (World.grownBy.trans HG3.out HG.out)
      clear hrg hx
      obtain ⟨S, hS⟩ : ∃ S, toB (rowT (LS.take k)) = S := ⟨_, rfl⟩
      have HSS : Hid (S.data.toList = rowT (LS.take k)) := Lib.hid (by rw [← hS, data_toB])
      have hss : S.size = (rowT (LS.take k)).length := by rw [← data_len, HSS.out]
      have hss2 : S.size ≤ 7 + 9000200 * k := by omega
      rw [hS]
      clear hS hss hbl
      have hcv : ∀ W, wr.grownBy W none → Calls Tryz.prog 33 #[.agg (verC x.v x.sl).toArray] W fun e w' => e = .returned (.string (textS x.v)) ∧ wr.grownBy w' none := fun W hW =>
        (refText_any w.heap.size x.v x.sl W (World.grownBy.trans HGW.out hW).size ((HXM.out.stays (World.grownBy.trans HGW.out hW)).ver)).mono fun e w' h => ⟨h.1, World.grownBy.trans hW h.2⟩
      have hch : ∀ W, wr.grownBy W none → Calls Tryz.prog 34 #[.agg (keyC x.key).toArray] W fun e w' => e = .returned (.string (toB (Sha.hexL x.key.toList))) ∧ wr.grownBy w' none := fun W hW => by
        rw [keyC_arr]
        exact (Sha.refhex_any x.key W x.hk).mono fun e w' h => ⟨h.1, World.grownBy.trans hW h.2⟩
      have hts : (textS x.v).size ≤ 8000100 := textS_size x.v HXM.out.ver.maj.2 HXM.out.ver.min.2 HXM.out.ver.pat.2 HXM.out.ver.sum
      have hns := HXM.out.name
      go_wp2_with fail
      have hC0 : wr.grownBy { wr with drawn := wr.drawn + 1 } none := ⟨rfl, rfl, rfl, Nat.le_refl _, fun _ _ _ => rfl⟩
      refine wp_region_quiet (C := fun w' => wr.grownBy w' none) (by kernel_rfl) (by kernel_rfl) hC0 ?_
      refine wpQuiet_step (fun K hK => ?_)
      go_simp
      first | refine hK _ ?_ | refine ⟨_, fun W hW => rfl, hK _ ?_⟩ | refine ⟨_, fun W hW => ⟨rfl, rfl⟩, hK _ ?_⟩
      clear hK K
      refine wpQuiet_step (fun K hK => ?_)
      go_simp
      first | refine hK _ ?_ | refine ⟨_, fun W hW => rfl, hK _ ?_⟩ | refine ⟨_, fun W hW => ⟨rfl, rfl⟩, hK _ ?_⟩
      clear hK K
      refine wpQuiet_step (fun K hK => ?_)
      go_simp
      first | refine hK _ ?_ | refine ⟨_, fun W hW => rfl, hK _ ?_⟩ | refine ⟨_, fun W hW => ⟨rfl, rfl⟩, hK _ ?_⟩
      clear hK K
      refine wpQuiet_step (fun K hK => ?_)
      go_simp
      first | refine hK _ ?_ | refine ⟨_, fun W hW => rfl, hK _ ?_⟩ | refine ⟨_, fun W hW => ⟨rfl, rfl⟩, hK _ ?_⟩
      clear hK K
      refine wpQuiet_step (fun K hK => ?_)
      go_simp
      first | refine hK _ ?_ | refine ⟨_, fun W hW => rfl, hK _ ?_⟩ | refine ⟨_, fun W hW => ⟨rfl, rfl⟩, hK _ ?_⟩
      clear hK K
      refine wpQuiet_step (fun K hK => ?_)
      go_simp
      refine ⟨.string x.name, fun W hW => ?_, hK _ ?_⟩
      · rw [hW.cell hnm (by simp)]; exact ⟨rfl, rfl⟩
      clear hK K
      refine wpQuiet_step (fun K hK => ?_)
      go_simp
      refine ⟨.string (S ++ x.name), fun W hW => ?_, hK _ ?_⟩
      · rw [if_neg (by omega)]; exact ⟨rfl, rfl⟩
      clear hK K
      refine wpQuiet_step (fun K hK => ?_)
      go_simp
      refine ⟨.string (S ++ x.name ++ ⟨#[32]⟩), fun W hW => ?_, hK _ ?_⟩
      · rw [if_neg (by omega)]; exact ⟨rfl, rfl⟩
      clear hK K
      refine wpQuiet_step (fun K hK => ?_)
      go_simp
      first | refine hK _ ?_ | refine ⟨_, fun W hW => rfl, hK _ ?_⟩ | refine ⟨_, fun W hW => ⟨rfl, rfl⟩, hK _ ?_⟩
      clear hK K
      refine wpQuiet_step (fun K hK => ?_)
      go_simp
      first | refine hK _ ?_ | refine ⟨_, fun W hW => rfl, hK _ ?_⟩ | refine ⟨_, fun W hW => ⟨rfl, rfl⟩, hK _ ?_⟩
      clear hK K
      refine wpQuiet_step (fun K hK => ?_)
      go_simp
      first | refine hK _ ?_ | refine ⟨_, fun W hW => rfl, hK _ ?_⟩ | refine ⟨_, fun W hW => ⟨rfl, rfl⟩, hK _ ?_⟩
      clear hK K
      refine wpQuiet_step (fun K hK => ?_)
      go_simp
      first | refine hK _ ?_ | refine ⟨_, fun W hW => rfl, hK _ ?_⟩ | refine ⟨_, fun W hW => ⟨rfl, rfl⟩, hK _ ?_⟩
      clear hK K
      refine quiet_mid rfl 28 _ rfl g (o + k * 37 + 1) rfl (verC x.v x.sl) _ (fun W hW => range_stays HVR.out hW (by simp)) Tryz.underlying28 rfl infoV_size ?_
      refine wpQuiet_step (fun K hK => ?_)
      go_simp
      refine ⟨.string (textS x.v), fun W hW => hcv W hW, hK _ ?_⟩
      clear hK K
      obtain ⟨T, hT⟩ : ∃ T, textS x.v = T := ⟨_, rfl⟩
      obtain ⟨X, hX⟩ : ∃ X, toB (Sha.hexL x.key.toList) = X := ⟨_, rfl⟩
      obtain ⟨Nm, hNm⟩ : ∃ Nm, x.name = Nm := ⟨_, rfl⟩
      have hxs : X.size = 64 := by rw [← hX, ← data_len, data_toB, Sha.hexL_len, Array.length_toList, x.hk]
      have HLN : Hid (S ++ Nm ++ ⟨#[32]⟩ ++ T ++ ⟨#[32]⟩ ++ X ++ ⟨#[10]⟩ = toB (rowT (LS.take (k + 1)))) := Lib.hid (by
        apply bytes_ext
        rw [HSN2.out]
        unfold pinL
        rw [data_toB, hNm, hT, ← hX, ← HSS.out]
        simp [toB])
      rw [hT] at hts ⊢
      rw [hX] at hch
      rw [hNm] at hns ⊢
      clear hT hX hNm hcv
      refine wpQuiet_step (fun K hK => ?_)
      go_simp
      refine ⟨.string (S ++ Nm ++ ⟨#[32]⟩ ++ T), fun W hW => ?_, hK _ ?_⟩
      · rw [if_neg (by omega)]; exact ⟨rfl, rfl⟩
      clear hK K
      refine wpQuiet_step (fun K hK => ?_)
      go_simp
      refine ⟨.string (S ++ Nm ++ ⟨#[32]⟩ ++ T ++ ⟨#[32]⟩), fun W hW => ?_, hK _ ?_⟩
      · rw [if_neg (by omega)]; exact ⟨rfl, rfl⟩
      clear hK K
      refine wpQuiet_step (fun K hK => ?_)
      go_simp
      first | refine hK _ ?_ | refine ⟨_, fun W hW => rfl, hK _ ?_⟩ | refine ⟨_, fun W hW => ⟨rfl, rfl⟩, hK _ ?_⟩
      clear hK K
      refine wpQuiet_step (fun K hK => ?_)
      go_simp
      first | refine hK _ ?_ | refine ⟨_, fun W hW => rfl, hK _ ?_⟩ | refine ⟨_, fun W hW => ⟨rfl, rfl⟩, hK _ ?_⟩
      clear hK K
      refine wpQuiet_step (fun K hK => ?_)
      go_simp
      first | refine hK _ ?_ | refine ⟨_, fun W hW => rfl, hK _ ?_⟩ | refine ⟨_, fun W hW => ⟨rfl, rfl⟩, hK _ ?_⟩
      clear hK K
      refine wpQuiet_step (fun K hK => ?_)
      go_simp
      first | refine hK _ ?_ | refine ⟨_, fun W hW => rfl, hK _ ?_⟩ | refine ⟨_, fun W hW => ⟨rfl, rfl⟩, hK _ ?_⟩
      clear hK K
      refine quiet_mid rfl 33 _ rfl g (o + k * 37 + 5) rfl (keyC x.key) _ (fun W hW => range_stays HKR.out hW (by simp)) Tryz.underlying33 rfl (by rw [keyC_len]; exact infoK_size) ?_
      refine wpQuiet_step (fun K hK => ?_)
      go_simp
      refine ⟨.string X, fun W hW => hch W hW, hK _ ?_⟩
      clear hK K
      clear hch
      refine wpQuiet_step (fun K hK => ?_)
      go_simp
      refine ⟨.string (S ++ Nm ++ ⟨#[32]⟩ ++ T ++ ⟨#[32]⟩ ++ X), fun W hW => ?_, hK _ ?_⟩
      · rw [if_neg (by omega)]; exact ⟨rfl, rfl⟩
      clear hK K
      refine wpQuiet_step (fun K hK => ?_)
      go_simp
      refine ⟨.string (S ++ Nm ++ ⟨#[32]⟩ ++ T ++ ⟨#[32]⟩ ++ X ++ ⟨#[10]⟩), fun W hW => ?_, hK _ ?_⟩
      · rw [if_neg (by omega)]; exact ⟨rfl, rfl⟩
      clear hK K
      refine wpQuiet_step (fun K hK => ?_)
      go_simp
      first | refine hK _ ?_ | refine ⟨_, fun W hW => rfl, hK _ ?_⟩ | refine ⟨_, fun W hW => ⟨rfl, rfl⟩, hK _ ?_⟩
      clear hK K
      refine wpQuiet_nil ?_
      intro W hW
      rw [HLN.out]
      have HGE := Lib.hid (World.grownBy.trans HG.out hW)
      clear hW hC0 hnm
      go_wp2
      go_roundw
      case rel => exact ⟨k + 1, by omega, by go_num, rfl, HGE⟩
      case measure => simp [intOf]; omega
    · obtain rfl : k = n := by omega
      have HE : Hid (toB (rowT (LS.take k)) = ⟨(lockT L).toArray⟩) := Lib.hid (by
        rw [List.take_of_length_le (by rw [HSN.out]; exact Nat.le_refl _)]
        unfold lockT
        rw [HLS.out]
        rfl)
      go_wp2
      go_ret
      exact ⟨by rw [← HE.out]; rfl, World.grownBy.trans HG3.out HG.out⟩
end Go.Proofs.YthdopcdllggdaaaGreatDoor
