/- Texts of one ground, in one file: Ia Ib Ic Id. -/
import Derived.Test.YtichejodbohldaaGreatDoorP13
namespace Go.Proofs.YtichejodbohldaaGreatDoor
open Go.RowKit
/-! ### paths within paths -/
abbrev sl : ByteArray := Pth.slash
theorem cat_data (a b : ByteArray) : (a ++ b).data.toList = a.data.toList ++ b.data.toList := by simp
theorem within_iff (k p : ByteArray) : Pth.withinS k p = true ↔ p = E0 ∨ k = p ∨ ∃ z, k = p ++ sl ++ z := by
  unfold Pth.withinS
  simp only [Bool.or_eq_true, decide_eq_true_eq, or_assoc]
  refine or_congr Iff.rfl (or_congr Iff.rfl ?_)
  constructor
  · intro h
    obtain ⟨t, ht⟩ := List.isPrefixOf_iff_prefix.1 h
    exact ⟨toB t, bytes_ext (by rw [cat_data, data_toB]; exact ht.symm)⟩
  · rintro ⟨z, rfl⟩
    refine List.isPrefixOf_iff_prefix.2 ⟨z.data.toList, ?_⟩
    simp only [cat_data]
theorem within_self (p : ByteArray) : Pth.withinS p p = true := (within_iff p p).2 (.inr (.inl rfl))
theorem within_trans {a b c : ByteArray} (h1 : Pth.withinS a b = true) (h2 : Pth.withinS b c = true) : Pth.withinS a c = true := by
  rw [within_iff] at *
  rcases h2 with h2 | rfl | ⟨z, rfl⟩
  · exact .inl h2
  · exact h1
  · rcases h1 with h1 | rfl | ⟨y, rfl⟩
    · exfalso
      have := congrArg ByteArray.size h1
      rw [ByteArray.size_append, ByteArray.size_append] at this
      have e : (E0 : ByteArray).size = 0 := rfl
      have e2 : sl.size = 1 := rfl
      omega
    · exact .inr (.inr ⟨z, rfl⟩)
    · exact .inr (.inr ⟨z ++ sl ++ y, by simp only [ByteArray.append_assoc]⟩)
theorem empty_size {p : ByteArray} (h : p.size = 0) : p = E0 := by
  apply bytes_ext
  have : p.data.toList.length = 0 := by rw [data_len]; exact h
  rw [List.eq_nil_of_length_eq_zero this]
/-- The parts of a path below another. -/
theorem up_of_below {Lp Lq : List ByteArray} (hp : Parts Lp) (hq : Parts Lq) (hq0 : Lq ≠ []) (z : ByteArray) (h : Pth.joinB Lp = Pth.joinB Lq ++ sl ++ z) : 0 < Lq.length ∧ Lq.length < Lp.length ∧ Pth.joinB Lq = upL Lp Lq.length := by
  have hp0 : Lp ≠ [] := by
    rintro rfl
    have := congrArg ByteArray.size h
    rw [ByteArray.size_append, ByteArray.size_append] at this
    have e : (Pth.joinB []).size = 0 := rfl
    have e2 : sl.size = 1 := rfl
    omega
  have h1 := Pth.pieces_join Lp hp0 fun p hm => (hp.part p hm).ns
  have h2 := Pth.pieces_join Lq hq0 fun p hm => (hq.part p hm).ns
  have h3 : Pth.pieces (Pth.joinB Lq ++ sl ++ z) = Pth.pieces (Pth.joinB Lq) ++ Pth.pieces z := pieces_app 47 _ _
  rw [← h, h1, h2] at h3
  have hz : 0 < (Pth.pieces z).length := by rw [Pth.pieces_len]; omega
  refine ⟨List.length_pos_iff.2 hq0, by rw [h3, List.length_append]; omega, ?_⟩
  unfold upL
  rw [h3, List.take_left]
theorem upL_join {L : List ByteArray} (i j : Nat) (hi : 0 < i) (hij : i < j) (hj : j ≤ L.length) : ∃ z, upL L j = upL L i ++ sl ++ z := by
  refine ⟨Pth.joinB ((L.take j).drop i), ?_⟩
  have e : L.take j = L.take i ++ (L.take j).drop i := by
    have := List.take_append_drop i (L.take j)
    rw [List.take_take, Nat.min_eq_left (Nat.le_of_lt hij)] at this
    exact this.symm
  unfold upL
  conv => lhs; rw [e]
  have h0 : L.take i ≠ [] := by
    intro e; have := congrArg List.length e; rw [List.length_take, List.length_nil] at this; omega
  have h1 : (L.take j).drop i ≠ [] := by
    intro e; have := congrArg List.length e; rw [List.length_drop, List.length_take, List.length_nil] at this; omega
  exact Pth.joinB_app _ _ h0 h1
theorem within_up {L : List ByteArray} {p : ByteArray} (i j : Nat) (hi : 0 < i) (hij : i ≤ j) (hj : j ≤ L.length) (h : Pth.withinS (upL L i) p = true) : Pth.withinS (upL L j) p = true := by
  by_cases e : i = j
  · rw [← e]; exact h
  · obtain ⟨z, hz⟩ := upL_join (L := L) i j hi (by omega) hj
    exact within_trans ((within_iff _ _).2 (.inr (.inr ⟨z, hz⟩))) h
/-- A target is not within what is moved. -/
theorem targ_out {M : Tr} (hI : Inv M) {Lp Lq : List ByteArray} {p q y : ByteArray} (hp : Parts Lp) (hq : Parts Lq) (ep : Pth.joinB Lp = p) (eq : Pth.joinB Lq = q) (hhp : hasT M p = true) (hn : Pth.withinS q p = false) (hhq : hasT M q = false) (hy : Pth.withinS y p = true) :
    Pth.withinS (targS p q y) p = false := by
  have hp0 : ¬ p = E0 := by
    intro e
    have : Pth.withinS q p = true := (within_iff _ _).2 (.inl e)
    rw [this] at hn; cases hn
  have hq0 : ¬ q = E0 := by
    intro e
    have : hasT M q = true := by unfold hasT; rw [e]; simp
    rw [this] at hhq; cases hhq
  have hLq : Lq ≠ [] := by rintro rfl; exact hq0 eq.symm
  have hanc : ∀ z, ¬ p = q ++ sl ++ z := by
    intro z hz
    obtain ⟨h1, h2, h3⟩ := up_of_below hp hq hLq z (by rw [ep, eq]; exact hz)
    have h4 : (getA M (upL Lp Lp.length)).isSome = true := by
      rw [upL_all, ep]
      unfold hasT at hhp
      simpa [hp0] using hhp
    obtain ⟨n, hn, _⟩ := hI.up Lp Lq.length Lp.length hp h2 (Nat.le_refl _) h1 h4
    rw [← h3, eq] at hn
    unfold hasT at hhq
    rw [hn] at hhq; cases hhq
  have hnn : ¬ (q = p ∨ ∃ z, q = p ++ sl ++ z) := by
    intro h
    have : Pth.withinS q p = true := (within_iff _ _).2 (.inr h)
    rw [this] at hn; cases hn
  rw [← Bool.not_eq_true]
  intro hw
  rw [within_iff] at hw hy
  have hr : targS p q y = q ∨ ∃ z, targS p q y = q ++ sl ++ z := by
    unfold targS
    rcases hy with h | rfl | ⟨z, rfl⟩
    · exact absurd h hp0
    · left
      apply bytes_ext
      simp
    · right
      refine ⟨z, ?_⟩
      have e : (p ++ sl ++ z).extract p.size (p ++ sl ++ z).size = sl ++ z := by
        rw [ByteArray.append_assoc]; exact Pth.extract_right _ _
      rw [e, ByteArray.append_assoc]
  rcases hr with hr | ⟨z, hr⟩
  · rw [hr] at hw
    rcases hw with h | h
    · exact hp0 h
    · exact hnn h
  · rw [hr] at hw
    rcases hw with h | h | ⟨s, h⟩
    · exact hp0 h
    · exact hanc z h.symm
    · have hd := congrArg (fun b : ByteArray => b.data.toList) h
      simp only [cat_data] at hd
      have e47 : sl.data.toList = [47] := rfl
      rw [e47] at hd
      rw [List.append_assoc, List.append_assoc] at hd
      rcases List.append_eq_append_iff.1 hd with ⟨u, h1, h2⟩ | ⟨u, h1, h2⟩
      · -- p = q ++ u
        cases u with
        | nil =>
          rw [List.append_nil] at h1
          exact hnn (.inl (bytes_ext h1.symm))
        | cons b t =>
          rw [List.cons_append, List.cons_append, List.nil_append] at h2
          injection h2 with h3 h4
          refine hanc (toB t) (bytes_ext ?_)
          rw [h1, cat_data, cat_data, data_toB, e47, ← h3, List.append_assoc]
          rfl
      · -- q = p ++ u
        cases u with
        | nil =>
          rw [List.append_nil] at h1
          exact hnn (.inl (bytes_ext h1))
        | cons b t =>
          rw [List.cons_append, List.cons_append, List.nil_append] at h2
          injection h2 with h3 h4
          refine hnn (.inr ⟨toB t, bytes_ext ?_⟩)
          rw [h1, cat_data, cat_data, data_toB, e47, ← h3, List.append_assoc]
          rfl
end Go.Proofs.YtichejodbohldaaGreatDoor
namespace Go.Proofs.YtichejodbohldaaGreatDoor
open Go.RowKit
theorem movA_asc {M : Tr} (hM : AscA M) (k q : ByteArray) : AscA (movA M k q) := by
  unfold movA
  split
  · exact hM
  · exact (hM.del k).put q _
theorem movA_len {M : Tr} (hM : AscA M) (k q : ByteArray) : (movA M k q).length ≤ M.length := by
  unfold movA
  split
  · exact Nat.le_refl _
  · rename_i n h
    have h1 := del_len hM k
    rw [h] at h1
    simp at h1
    rw [put_len (hM.del k)]
    split <;> omega
theorem movA_size {M : Tr} (hM : AscA M) (k q : ByteArray) : sizeT (movA M k q) ≤ sizeT M := by
  unfold movA
  split
  · exact Nat.le_refl _
  · rename_i n h
    have h1 := size_put (delA M k) (hM.del k) q n
    have h2 := size_del M hM k
    rw [h] at h2
    simp at h2
    omega
theorem movA_get {M : Tr} (k q x : ByteArray) (h : ¬ k = x) (h2 : ¬ q = x) : getA (movA M k q) x = getA M x := by
  unfold movA
  split
  · rfl
  · rw [getA_put_other _ _ _ _ h2, getA_del, if_neg h]
/-- Rename's step. -/
abbrev renN (p q : ByteArray) (M : Tr) (x : ByteArray) : Tr := movA M x (targS p q x)
theorem ren_asc {p q : ByteArray} : ∀ (ks : List ByteArray) (M : Tr), AscA M → AscA (doneN (renN p q) M ks)
  | [], _, h => h
  | k :: r, _, h => ren_asc r _ (movA_asc h k _)
theorem ren_len {p q : ByteArray} : ∀ (ks : List ByteArray) (M : Tr), AscA M → (doneN (renN p q) M ks).length ≤ M.length
  | [], _, _ => Nat.le_refl _
  | k :: r, _, h => Nat.le_trans (ren_len r _ (movA_asc h k _)) (movA_len h k _)
theorem ren_size {p q : ByteArray} : ∀ (ks : List ByteArray) (M : Tr), AscA M → sizeT (doneN (renN p q) M ks) ≤ sizeT M
  | [], _, _ => Nat.le_refl _
  | k :: r, _, h => Nat.le_trans (ren_size r _ (movA_asc h k _)) (movA_size h k _)
theorem ren_get {p q x : ByteArray} : ∀ (ks : List ByteArray) (M : Tr), (∀ k ∈ ks, ¬ k = x ∧ ¬ targS p q k = x) → getA (doneN (renN p q) M ks) x = getA M x
  | [], _, _ => rfl
  | k :: r, M, h => by
    show getA (doneN (renN p q) (movA M k (targS p q k)) r) x = _
    rw [ren_get r _ fun y hy => h y (List.mem_cons_of_mem _ hy), movA_get _ _ _ (h k List.mem_cons_self).1 (h k List.mem_cons_self).2]
/-- What stands in the way of a move, or what it leaves. -/
structure Mov (M : Tr) (p q : ByteArray) (Lp L : List ByteArray) (k : Nat) : Prop where
  inv : Inv M
  pp : Parts Lp
  pq : Parts L
  ep : Pth.joinB Lp = p
  eq : Pth.joinB L = q
  len : L.length = k + 1
  hp : hasT M p = true
  nw : Pth.withinS q p = false
  hq : hasT M q = false
theorem wkeys_nodup {M : Tr} (hM : AscA M) (p : ByteArray) : (wkeys M p).Nodup := (hM.filter _).nodup
theorem wkeys_mem {M : Tr} {p x : ByteArray} (h : x ∈ wkeys M p) : Pth.withinS x p = true ∧ ∃ n, (x, n) ∈ M := by
  unfold wkeys at h
  obtain ⟨e, he, rfl⟩ := List.mem_map.1 h
  have h1 := List.mem_filter.1 he
  exact ⟨by simpa using h1.2, e.2, h1.1⟩
theorem Mov.up {M : Tr} {p q : ByteArray} {Lp L : List ByteArray} {k : Nat} (h : Mov M p q Lp L k) {x : ByteArray} (hx : Pth.withinS x p = true) : ∀ i, 1 ≤ i → i ≤ k → ¬ upL L i = x := by
  intro i h1 h2 e
  have h3 := within_up (L := L) (p := p) i L.length h1 (by rw [h.len]; omega) (Nat.le_refl _) (by rw [e]; exact hx)
  rw [upL_all, h.eq, h.nw] at h3
  cases h3
theorem Mov.mkget {M : Tr} {p q : ByteArray} {Lp L : List ByteArray} {k : Nat} (h : Mov M p q Lp L k) {x : ByteArray} (hx : Pth.withinS x p = true) : getA (mkN M L k) x = getA M x := mkN_get k M fun i h1 h2 => h.up hx i h1 h2
theorem Mov.step {M : Tr} {p q : ByteArray} {Lp L : List ByteArray} {k : Nat} (h : Mov M p q Lp L k) (j : Nat) (x : ByteArray) (hx : (wkeys M p)[j]? = some x) : getA (doneN (renN p q) (mkN M L k) ((wkeys M p).take j)) x = getA M x := by
  have hm := List.mem_of_getElem? hx
  have hxw := (wkeys_mem hm).1
  rw [ren_get _ _ fun y hy => ?_, h.mkget hxw]
  have hym := List.mem_of_mem_take hy
  refine ⟨?_, ?_⟩
  · rintro rfl
    obtain ⟨i, hi, e⟩ := List.getElem_of_mem hy
    rw [List.length_take] at hi
    rw [List.getElem_take] at e
    have hj := (List.getElem?_eq_some_iff.1 hx)
    obtain ⟨hj1, hj2⟩ := hj
    have := (List.pairwise_iff_getElem.1 (wkeys_nodup h.inv.asc p)) i j (by omega) hj1 (by omega)
    exact this (by rw [e, hj2])
  · intro e
    have := targ_out h.inv h.pp h.pq h.ep h.eq h.hp h.nw h.hq (wkeys_mem hym).1
    rw [e, hxw] at this
    cases this
theorem Mov.each {M : Tr} {p q : ByteArray} {Lp L : List ByteArray} {k : Nat} (h : Mov M p q Lp L k) (j : Nat) (x : ByteArray) (hx : (wkeys M p)[j]? = some x) : ∃ nd, getA (doneN (renN p q) (mkN M L k) ((wkeys M p).take j)) x = some nd ∧ nd.b.length ≤ 1000000 := by
  rw [h.step j x hx]
  obtain ⟨n, hn⟩ := (wkeys_mem (List.mem_of_getElem? hx)).2
  exact ⟨n, h.inv.asc.get hn, by have := (h.inv.key _ hn).2.1; dsimp only at this; omega⟩
theorem Mov.bound {M : Tr} {p q : ByteArray} {Lp L : List ByteArray} {k : Nat} (h : Mov M p q Lp L k) (ks : List ByteArray) : (doneN (renN p q) (mkN M L k) ks).length ≤ 100000 ∧ sizeT (doneN (renN p q) (mkN M L k) ks) ≤ 10000000 := by
  have h1 := mkN_asc L k M h.inv.asc
  have h2 := ren_len (p := p) (q := q) ks _ h1
  have h3 := ren_size (p := p) (q := q) ks _ h1
  have h4 := mkN_len h.pq k M h.inv.asc (by have := h.len; omega)
  have h5 := mkN_size L k M h.inv.asc
  have h6 := lackN_le M L k
  have h7 := h.pq.len
  have h8 := h.len
  have h9 := h.inv.len
  have h10 := h.inv.size
  exact ⟨by omega, by omega⟩
/-- What Rename tells and leaves. -/
def renameS (M : Tr) (s t : ByteArray) : Int × Tr :=
  if ¬ planE M s t = 0 then (planE M s t, M) else
  if decide (M.length + lackN M (Pth.partsS (Pth.cleanS t).1) ((Pth.partsS (Pth.cleanS t).1).length - 1) ≤ 500) = true then
    (0, doneN (renN (Pth.cleanS s).1 (Pth.cleanS t).1) (mkN M (Pth.partsS (Pth.cleanS t).1) ((Pth.partsS (Pth.cleanS t).1).length - 1)) (wkeys M (Pth.cleanS s).1)) else (55, M)
end Go.Proofs.YtichejodbohldaaGreatDoor
namespace Go.Proofs.YtichejodbohldaaGreatDoor
open Go.RowKit Go.Maps
set_option maxRecDepth 1000000
abbrev PlanCall (tb : Nat) (s t : ByteArray) (V : World) (R : Ending → World → Prop) : Prop := Calls Tryz.prog 59 #[.pointer (some ⟨tb, 0, none⟩), .string s, .string t] V R
theorem plan_any (tb mb : Nat) (X : As Gn) (s t : ByteArray) (m : Int) (w : World) (h : TreeIn w tb mb X) (hI : Inv (nds X)) (hm : w.cell? ⟨0, 0, none⟩ = some (.int .i64 m)) :
    (¬ planE (nds X) s t = 0 ∧ ∀ V, w.grownBy V none → PlanCall tb s t V (NoPlan (planE (nds X) s t) V)) ∨
    (planE (nds X) s t = 0 ∧ ∃ p q Lp L k, Mov (nds X) p q Lp L k ∧ Pth.cleanS s = (p, 0) ∧ Pth.cleanS t = (q, 0) ∧ ∀ V, w.grownBy V none → PlanCall tb s t V (YesPlan tb (nds X) p q (lackN (nds X) L k) V)) := by
  have hmv : ∀ V, w.grownBy V none → V.cell? ⟨0, 0, none⟩ = some (.int .i64 m) := fun V hV => hV.cell hm (by simp)
  rcases clean_ways s with ⟨Lp, hc1, hLp⟩ | ⟨q1, hc1, hq1, _, _⟩
  · rcases clean_ways t with ⟨L, hc2, hL⟩ | ⟨q2, hc2, hq2, _, _⟩
    · obtain ⟨p, hp⟩ : ∃ p, Pth.joinB Lp = p := ⟨_, rfl⟩
      obtain ⟨q, hq⟩ : ∃ q, Pth.joinB L = q := ⟨_, rfl⟩
      rw [hp] at hc1
      rw [hq] at hc2
      have hps : p.size ≤ 200 := by rw [← hp]; exact hLp.size
      have hqs : q.size ≤ 200 := by rw [← hq]; exact hL.size
      have hpt : Pth.partsS q = L := by rw [← hq]; exact Pth.parts_join L hL.part
      have e0 : planE (nds X) s t = if hasT (nds X) p = false then 52 else if Pth.withinS q p = true then 54 else if hasT (nds X) q = true then 53 else if aheadT (nds X) L = true then 54 else if targsOk (wkeys (nds X) p) p q = true then 0 else 50 := by
        unfold planE
        rw [hc1, hc2, if_neg (by simp), if_neg (by simp), hpt]
      cases hf : hasT (nds X) p with
      | false =>
        rw [hf, if_pos rfl] at e0
        rw [e0]
        exact .inl ⟨by decide, fun V hV => plan_no3 tb mb X s t m V (h.stays hV) (hmv V hV) p q hc1 hc2 hps hqs hf⟩
      | true =>
        rw [hf, if_neg (by simp)] at e0
        cases hd : Pth.withinS q p with
        | true =>
          rw [hd, if_pos rfl] at e0
          rw [e0]
          exact .inl ⟨by decide, fun V hV => plan_no4 tb mb X s t m V (h.stays hV) (hmv V hV) p q hc1 hc2 hps hqs hf hd⟩
        | false =>
          rw [hd, if_neg (by simp)] at e0
          cases he : hasT (nds X) q with
          | true =>
            rw [he, if_pos rfl] at e0
            rw [e0]
            exact .inl ⟨by decide, fun V hV => plan_no5 tb mb X s t m V (h.stays hV) (hmv V hV) p q hc1 hc2 hps hqs hf hd he⟩
          | false =>
            rw [he, if_neg (by simp)] at e0
            cases ha : aheadT (nds X) L with
            | true =>
              rw [ha, if_pos rfl] at e0
              rw [e0]
              exact .inl ⟨by decide, fun V hV => plan_no6 tb mb X s t m V (h.stays hV) (hmv V hV) p q hc1 hc2 hps hqs L hq hL hf hd he ha⟩
            | false =>
              rw [ha, if_neg (by simp)] at e0
              obtain ⟨k, hk⟩ : ∃ k, L.length = k + 1 := by
                cases L with
                | nil =>
                  exfalso
                  have : hasT (nds X) q = true := by unfold hasT; rw [← hq]; simp [Pth.joinB_nil]; exact .inr rfl
                  rw [this] at he; cases he
                | cons x r => exact ⟨r.length, rfl⟩
              have hcall := fun V hV => plan_may tb mb X s t m V (h.stays hV) (hmv V hV) p q hc1 hc2 hps hqs L hq hL k hk hI hf hd he ha
              cases ht : targsOk (wkeys (nds X) p) p q with
              | true =>
                rw [ht, if_pos rfl] at e0
                refine .inr ⟨e0, p, q, Lp, L, k, ⟨hI, hLp, hL, hp, hq, hk, hf, hd, he⟩, hc1, hc2, fun V hV => (hcall V hV).mono fun e w' hr => ?_⟩
                rcases hr with ⟨_, hr⟩ | ⟨hr, _⟩
                · exact hr
                · rw [ht] at hr; cases hr
              | false =>
                rw [ht, if_neg (by simp)] at e0
                rw [e0]
                refine .inl ⟨by decide, fun V hV => (hcall V hV).mono fun e w' hr => ?_⟩
                rcases hr with ⟨hr, _⟩ | ⟨_, hr⟩
                · rw [ht] at hr; cases hr
                · exact hr
    · have e0 : planE (nds X) s t = q2 := by unfold planE; rw [hc1, hc2, if_neg (by simp), if_pos hq2]
      rw [e0]
      exact .inl ⟨hq2, fun V hV => plan_bad2 tb mb X s t m V (h.stays hV) (hmv V hV) _ q2 hc1 hc2 hq2⟩
  · have e0 : planE (nds X) s t = q1 := by unfold planE; rw [hc1, if_pos hq1]
    rw [e0]
    exact .inl ⟨hq1, fun V hV => plan_bad1 tb mb X s t m V (h.stays hV) (hmv V hV) q1 hc1 hq1⟩
set_option maxHeartbeats 8000000 in
theorem rename_any (tb : Nat) (M : Tr) (S : Nat → Prop) (s t : ByteArray) (m : Int) (w : World) (h : TreeAt w tb M S) (hI : Inv M) (hm : w.cell? ⟨0, 0, none⟩ = some (.int .i64 m)) :
    Calls Tryz.prog 22 #[.pointer (some ⟨tb, 0, none⟩), .string s, .string t] w (PutsRet tb (renameS M s t) w S) := by
  obtain ⟨⟨mb, X, ht, rfl, h3⟩, h4⟩ := h
  have HT := Lib.hid ht
  have H3 := Lib.hid h3
  have H4 := Lib.hid h4
  have hx : X.length ≤ 500 := by have := hI.len; rw [mapA_len] at this; exact this
  have hsz := hI.size
  obtain ⟨W0, hW0⟩ : ∃ W0, w.alloc (.cells #[.pointer (some ⟨tb, 0, none⟩)] 25) = W0 := ⟨_, rfl⟩
  obtain ⟨b3, hb3⟩ : ∃ b3, w.heap.size = b3 := ⟨_, rfl⟩
  have G0 : Hid (w.grownBy W0 none) := Lib.hid (by rw [← hW0]; exact World.grownBy_alloc _ _ _)
  have HB3 : Hid (W0.heap[b3]? = some (.cells #[.pointer (some ⟨tb, 0, none⟩)] 25 (0, 0))) := Lib.hid (by rw [← hW0, ← hb3]; exact bk_alloc _ _)
  have hc3 := (bk_cell HB3.out 0 _ rfl).1
  rcases plan_any tb mb X s t m w ht hI hm with ⟨hp, hcall⟩ | ⟨hp, p, q, Lp, L, k, hM, hc1, hc2, hcall⟩
  · have HR : Hid (renameS (nds X) s t = (planE (nds X) s t, nds X)) := Lib.hid (by unfold renameS; rw [if_pos hp])
    obtain ⟨z, hz⟩ : ∃ z, planE (nds X) s t = z := ⟨_, rfl⟩
    rw [hz] at hp hcall HR
    have HC := Lib.hid hcall
    have q4 : (z != 0) = true := by simp [hp]
    have q5 : (z == 0) = false := by simp [hp]
    clear ht h3 h4 hI hm hcall hz
    go_enter Tryz.func22, Tryz.ntmps22
    go_wp2_with fail
    try rw [hW0]
    (with_reducible refine (HC.out _ G0.out).mono ?_)
    rintro e w1 ⟨rfl, hg⟩
    unfold noMove
    dsimp only
    have HG := Lib.hid (World.grownBy.trans G0.out hg)
    clear hg hc3 hW0 hb3
    go_wp2
    go_ret
    rw [HR.out]
    exact puts_same HT.out H3.out H4.out (World.grownBy.trans HG.out (World.grownBy_alloc _ _ _))
  · have hA : AscA (nds X) := ht.asc.map _
    have hpt : Pth.partsS q = L := by rw [← hM.eq]; exact Pth.parts_join L hM.pq.part
    have hR : renameS (nds X) s t = if decide ((nds X).length + lackN (nds X) L k ≤ 500) = true then (0, doneN (renN p q) (mkN (nds X) L k) (wkeys (nds X) p)) else (55, nds X) := by
      unfold renameS
      rw [if_neg (by rw [hp]; simp), hc1, hc2, hpt, hM.len]
      rfl
    have hk12 : k ≤ 11 := by have := hM.pq.len; have := hM.len; omega
    have hlk12 := lackN_le (nds X) L k
    obtain ⟨lk, hlk⟩ : ∃ lk, lackN (nds X) L k = lk := ⟨_, rfl⟩
    obtain ⟨ks, hks⟩ : ∃ ks, wkeys (nds X) p = ks := ⟨_, rfl⟩
    obtain ⟨n, hn⟩ : ∃ n, ks.length = n := ⟨_, rfl⟩
    have hn2 : n ≤ 500 := by
      rw [← hn, ← hks]; unfold wkeys
      rw [List.length_map]
      have h1 := List.length_filter_le (fun e : ByteArray × Nd => Pth.withinS e.1 p) (nds X)
      rw [mapA_len] at h1
      omega
    have HKS : Hid (∀ x ∈ ks, p.size ≤ x.size ∧ x.size ≤ 200 ∧ q.size ≤ 200) := Lib.hid fun x hx => by
      have h1 := wkeys_size hI p x (by rw [hks]; exact hx)
      exact ⟨within_size h1.1, h1.2, by rw [← hM.eq]; exact hM.pq.size⟩
    have HST : Hid (∀ j x, ks[j]? = some x → ∃ nd, getA (doneN (renN p q) (mkN (nds X) L k) (ks.take j)) x = some nd ∧ nd.b.length ≤ 1000000) := Lib.hid fun j x hx => by
      have := hM.each j x (by rw [hks]; exact hx)
      rw [hks] at this; exact this
    have HBD : Hid (∀ j, j ≤ n → (doneN (renN p q) (mkN (nds X) L k) (ks.take j)).length ≤ 100000 ∧ sizeT (doneN (renN p q) (mkN (nds X) L k) (ks.take j)) ≤ 10000000) := Lib.hid fun j _ => hM.bound _
    have HMV := Lib.hid hM
    have HN := Lib.hid hn
    rw [hlk] at hR hcall hlk12
    unfold YesPlan at hcall
    rw [hks] at hR hcall
    rw [hn] at hcall
    have hlen : (nds X).length = X.length := mapA_len _ _
    rw [hlen] at hR
    have HC := Lib.hid hcall
    have HR := Lib.hid hR
    cases hroom : decide (X.length + lk ≤ 500) with
    | false =>
      rw [hroom, if_neg (by simp)] at HR
      have HRO : Hid (∀ V, w.grownBy V none → Calls Tryz.prog 53 #[.pointer (some ⟨tb, 0, none⟩), .int .i64 (lk : Int), .int .i64 0] V fun e w' => e = .returned (.bool false) ∧ V = w') := Lib.hid fun V hV =>
        (room_any tb mb X lk 0 V (HT.out.stays hV) (by omega) (by omega) (by omega) (by omega) false (by rw [hroom]; rfl)).mono fun e w' h => ⟨h.1, h.2.symm⟩
      clear ht h3 h4 hI hm hcall hlk hks hn hM hc1 hc2 hp hpt hA hR hroom hlen
      go_enter Tryz.func22, Tryz.ntmps22
      go_wp2_with fail
      try rw [hW0]
      (with_reducible refine (HC.out _ G0.out).mono ?_)
      rintro e w1 ⟨a, c, rfl, ho, hg⟩
      dsimp only
      have HG := Lib.hid (World.grownBy.trans G0.out hg)
      have HB1 := Lib.hid (bk_kept HB3.out hg)
      obtain ⟨W2, hW2⟩ : ∃ W2, w1.alloc (.cells #[.pointer (some ⟨tb, 0, none⟩), .string p, .string q, .slice a n c, .int .i64 (lk : Int)] 85) = W2 := ⟨_, rfl⟩
      obtain ⟨bt, hbt⟩ : ∃ bt, w1.heap.size = bt := ⟨_, rfl⟩
      have G2 : Hid (w1.grownBy W2 none) := Lib.hid (by rw [← hW2]; exact World.grownBy_alloc _ _ _)
      have HBT : Hid (W2.heap[bt]? = some (.cells #[.pointer (some ⟨tb, 0, none⟩), .string p, .string q, .slice a n c, .int .i64 (lk : Int)] 85 (0, 0))) := Lib.hid (by rw [← hW2, ← hbt]; exact bk_alloc _ _)
      clear hg hc3 hW0 hb3 ho
      have hc3 := (bk_cell (bk_kept HB1.out G2.out) 0 _ rfl).1
      obtain ⟨⟨d0, d1, d2, d3, d4⟩, _⟩ := cellsM HBT.out
      go_wp2_with fail
      (with_reducible refine (HRO.out _ (World.grownBy.trans HG.out G2.out)).mono ?_)
      rintro e w3 ⟨rfl, rfl⟩
      dsimp only
      go_wp2
      go_ret
      rw [HR.out]
      exact puts_same HT.out H3.out H4.out (World.grownBy.trans HG.out G2.out)
    | true =>
      rw [hroom, if_pos rfl] at HR
      have HRO : Hid (∀ V, w.grownBy V none → Calls Tryz.prog 53 #[.pointer (some ⟨tb, 0, none⟩), .int .i64 (lk : Int), .int .i64 0] V fun e w' => e = .returned (.bool true) ∧ V = w') := Lib.hid fun V hV =>
        (room_any tb mb X lk 0 V (HT.out.stays hV) (by omega) (by omega) (by omega) (by omega) true (by rw [hroom]; simp; omega)).mono fun e w' h => ⟨h.1, h.2.symm⟩
      clear ht h3 h4 hI hm hcall hlk hks hn hM hc1 hc2 hp hpt hA hR hroom hlen
      go_enter Tryz.func22, Tryz.ntmps22
      go_wp2_with fail
      try rw [hW0]
      (with_reducible refine (HC.out _ G0.out).mono ?_)
      rintro e w1 ⟨a, c, rfl, ho, hg⟩
      dsimp only
      have HG := Lib.hid (World.grownBy.trans G0.out hg)
      have HB1 := Lib.hid (bk_kept HB3.out hg)
      have HO1 := Lib.hid ho
      obtain ⟨W2, hW2⟩ : ∃ W2, w1.alloc (.cells #[.pointer (some ⟨tb, 0, none⟩), .string p, .string q, .slice a n c, .int .i64 (lk : Int)] 85) = W2 := ⟨_, rfl⟩
      obtain ⟨bt, hbt⟩ : ∃ bt, w1.heap.size = bt := ⟨_, rfl⟩
      have G2 : Hid (w1.grownBy W2 none) := Lib.hid (by rw [← hW2]; exact World.grownBy_alloc _ _ _)
      have HBT : Hid (W2.heap[bt]? = some (.cells #[.pointer (some ⟨tb, 0, none⟩), .string p, .string q, .slice a n c, .int .i64 (lk : Int)] 85 (0, 0))) := Lib.hid (by rw [← hW2, ← hbt]; exact bk_alloc _ _)
      clear hg hc3 hW0 hb3 ho
      have hc3 := (bk_cell (bk_kept HB1.out G2.out) 0 _ rfl).1
      obtain ⟨⟨d0, d1, d2, d3, d4⟩, _⟩ := cellsM HBT.out
      have HDO : Hid (Calls Tryz.prog 60 #[.agg #[.pointer (some ⟨tb, 0, none⟩), .string p, .string q, .slice a n c, .int .i64 (lk : Int)], .func (.func 61) #[] #[.pointer (some ⟨b3, 0, none⟩)]] W2 fun e w' => e = .returned (.tuple #[]) ∧
          ∃ X', TreeIn w' tb mb X' ∧ nds X' = doneN (renN p q) (mkN (nds X) L k) ks ∧ Kept W2 w' (Own tb mb X) ∧ ∀ j, Own tb mb X' j → Own tb mb X j ∨ W2.heap.size ≤ j) := Lib.hid
        (do_any 61 b3 tb mb X p q L k HMV.out.len HMV.out.pq HMV.out.eq a n c ks lk (renN p q) W2 (fun args w => by kernel_rfl) (rename_each b3 tb mb p q) (HT.out.stays (World.grownBy.trans HG.out G2.out)) (bk_kept HB1.out G2.out)
          ((HO1.out.stays G2.out).mono (Nat.zero_le _)) HN.out (by omega) (by omega) (by omega) HKS.out HST.out HBD.out)
      go_wp2_with fail
      (with_reducible refine (HRO.out _ (World.grownBy.trans HG.out G2.out)).mono ?_)
      rintro e w3 ⟨rfl, rfl⟩
      dsimp only
      try clear hW2
      go_wp2_with fail
      (with_reducible refine HDO.out.mono ?_)
      rintro e w4 ⟨rfl, X', ht4, hn4, hk4, ho4⟩
      dsimp only
      have hf : PutsRet tb (0, doneN (renN p q) (mkN (nds X) L k) ks) w S (.returned (.int .i64 0)) w4 := by
        have g2 := World.grownBy.trans HG.out G2.out
        refine ⟨rfl, ⟨⟨mb, X', ht4, hn4, fun i hi => ⟨?_, ht4.own_lt hi⟩⟩, fun i hi => hi.2⟩, (Kept.ofNone g2 S).trans (hk4.mono fun i _ e => H3.out i e) fun i e => .inl e⟩
        rcases ho4 i hi with h | h
        · exact .inl (H3.out i h)
        · exact .inr (Nat.le_trans g2.size h)
      have HF := Lib.hid hf
      clear ht4 hn4 hk4 ho4 hf hc3 d0 d1 d2 d3 d4
      go_wp2
      go_ret
      rw [HR.out]
      exact HF.out
end Go.Proofs.YtichejodbohldaaGreatDoor
namespace Go.Proofs.YtichejodbohldaaGreatDoor
open Go.RowKit
theorem Parts.takes {L : List ByteArray} (h : Parts L) (i : Nat) (hi : i ≤ L.length) : Parts (L.take i) :=
  ⟨h.take i, by have := h.len; rw [List.length_take]; omega, h.small i hi⟩
theorem upL_inj {L L' : List ByteArray} (h : Parts L) (h' : Parts L') {i j : Nat} (hi : 0 < i) (hj : 0 < j) (hi2 : i ≤ L.length) (hj2 : j ≤ L'.length) (e : upL L i = upL L' j) : i = j ∧ ∀ t, t ≤ i → upL L t = upL L' t := by
  have n1 : L.take i ≠ [] := by intro e; have := congrArg List.length e; rw [List.length_take, List.length_nil] at this; omega
  have n2 : L'.take j ≠ [] := by intro e; have := congrArg List.length e; rw [List.length_take, List.length_nil] at this; omega
  have h1 := Pth.pieces_join (L.take i) n1 fun p hm => (h.take i p hm).ns
  have h2 := Pth.pieces_join (L'.take j) n2 fun p hm => (h'.take j p hm).ns
  unfold upL at e
  rw [e, h2] at h1
  have hl := congrArg List.length h1
  rw [List.length_take, List.length_take] at hl
  refine ⟨by omega, fun t ht => ?_⟩
  unfold upL
  have h3 := congrArg (List.take t) h1
  rw [List.take_take, List.take_take, Nat.min_eq_left (by omega), Nat.min_eq_left (by omega)] at h3
  rw [h3]
/-- The least part that is there. -/
theorem lack_has (M : Tr) (L : List ByteArray) : ∀ k, hasT M (upL L (k - lackN M L k)) = true
  | 0 => by rw [Nat.zero_sub]; unfold hasT; rw [upL_zero]; simp
  | k + 1 => by
    unfold lackN
    split
    · assumption
    · rw [show k + 1 - (lackN M L k + 1) = k - lackN M L k by omega]; exact lack_has M L k
theorem mk_new {L : List ByteArray} (hL : Parts L) : ∀ (k : Nat) (M : Tr), k ≤ L.length → ∀ i, k - lackN M L k < i → i ≤ k → getA (mkN M L k) (upL L i) = some dirN
  | 0, _, _, i, h1, h2 => by omega
  | k + 1, M, hk, i, h1, h2 => by
    unfold lackN at h1
    unfold mkN
    split at h1
    · omega
    · rename_i h
      rw [if_neg h]
      by_cases hi : i = k + 1
      · subst hi
        rw [mkN_get k _ (fun j h3 h4 => hL.apart (by omega) hk), getA_put_same]
      · refine mk_new hL k _ (by omega) i ?_ (by omega)
        rw [lackN_put hL hk dirN k (by omega)]
        omega
theorem mk_old {L : List ByteArray} (hL : Parts L) (x : ByteArray) : ∀ (k : Nat) (M : Tr), k ≤ L.length → (∀ i, k - lackN M L k < i → i ≤ k → ¬ upL L i = x) → getA (mkN M L k) x = getA M x
  | 0, _, _, _ => rfl
  | k + 1, M, hk, h => by
    unfold lackN at h
    unfold mkN
    split at h
    · rename_i h0; rw [if_pos h0]
    · rename_i h0
      rw [if_neg h0, mk_old hL x k _ (by omega) (fun i h1 h2 => h i (by rw [lackN_put hL hk dirN k (by omega)] at h1; omega) (by omega)), getA_put_other _ _ _ _ (h (k + 1) (by omega) (Nat.le_refl _))]
theorem mk_keep {L : List ByteArray} {x : ByteArray} {n : Nd} : ∀ (k : Nat) (M : Tr), getA M x = some n → ¬ x = E0 → getA (mkN M L k) x = some n
  | 0, _, h, _ => h
  | k + 1, M, h, hx => by
    unfold mkN
    split
    · exact h
    · rename_i h0
      refine mk_keep k _ ?_ hx
      rw [getA_put_other _ _ _ _ fun e => ?_]
      · exact h
      · apply h0
        unfold hasT
        rw [e, h]; rfl
/-- Where no file stands ahead, the directories ahead are there. -/
theorem mk_dirs {M : Tr} (hI : Inv M) {L : List ByteArray} (hL : Parts L) (k : Nat) (hk : k ≤ L.length) (hf : fileN M L (k + 1) = false) (i : Nat) (h1 : 1 ≤ i) (h2 : i ≤ k) : ∃ n, getA (mkN M L k) (upL L i) = some n ∧ n.dir = true := by
  by_cases hi : k - lackN M L k < i
  · exact ⟨dirN, mk_new hL k M hk i hi h2, rfl⟩
  · have hlk := lackN_le M L k
    obtain ⟨t, ht⟩ : ∃ t, k - lackN M L k = t := ⟨_, rfl⟩
    have hh := lack_has M L k
    rw [ht] at hh
    have hfi : ∀ j r, j ≤ r → fileN M L (r + 1) = false → fileT M (upL L j) = false := by
      intro j r
      induction r with
      | zero => intro hj hr; unfold fileN at hr; simp at hr; rw [show j = 0 by omega]; exact hr.1
      | succ r ih =>
        intro hj hr
        rw [fileN] at hr
        simp at hr
        by_cases e : j = r + 1
        · rw [e]; exact hr.1
        · exact ih (by omega) hr.2
    have hne : ∀ j, 1 ≤ j → j ≤ L.length → ¬ upL L j = E0 := fun j a b => by
      rw [show j = (j - 1) + 1 by omega]; exact hL.ne (j - 1) (by omega)
    have hd : ∃ n, getA M (upL L i) = some n ∧ n.dir = true := by
      by_cases e : i = t
      · have hf2 := hfi i k h2 hf
        subst e
        have hn := hne i h1 (by omega)
        unfold fileT at hf2
        rw [hh] at hf2
        unfold hasT at hh
        obtain ⟨n, hn2⟩ : ∃ n, getA M (upL L i) = some n := Option.isSome_iff_exists.1 (by simpa [hn] using hh)
        refine ⟨n, hn2, ?_⟩
        unfold dirT at hf2
        rw [hn2] at hf2
        simpa [hn] using hf2
      · have hn := hne t (by omega) (by omega)
        unfold hasT at hh
        exact hI.up L i t hL (by omega) (by omega) h1 (by simpa [hn] using hh)
    obtain ⟨n, hn1, hn2⟩ := hd
    exact ⟨n, mk_keep k M hn1 (hne i h1 (by omega)), hn2⟩
theorem mk_mem {L : List ByteArray} : ∀ (k : Nat) (M : Tr) (e : ByteArray × Nd), e ∈ mkN M L k → e ∈ M ∨ (∃ i, 1 ≤ i ∧ i ≤ k ∧ e = (upL L i, dirN))
  | 0, _, _, h => .inl h
  | k + 1, M, e, h => by
    unfold mkN at h
    split at h
    · exact .inl h
    · rcases mk_mem k _ e h with h | ⟨i, h1, h2, h3⟩
      · rcases mem_put h with rfl | h
        · exact .inr ⟨k + 1, by omega, Nat.le_refl _, rfl⟩
        · exact .inl h
      · exact .inr ⟨i, h1, by omega, h3⟩
theorem key_up {L : List ByteArray} (hL : Parts L) (i : Nat) (h1 : 1 ≤ i) (h2 : i ≤ L.length) : ∃ L' k, upL L i = Pth.joinB L' ∧ Parts L' ∧ L'.length = k + 1 :=
  ⟨L.take i, i - 1, rfl, hL.takes i h2, by rw [List.length_take]; omega⟩
/-- What stands above a node that is there, or was made. -/
theorem mk_up {M : Tr} (hI : Inv M) {L : List ByteArray} (hL : Parts L) (k : Nat) (hk : k ≤ L.length) (hf : fileN M L (k + 1) = false) (L' : List ByteArray) (i j : Nat) (hL' : Parts L') (hij : i < j) (hj : j ≤ L'.length) (hi : 0 < i) (hs : (getA (mkN M L k) (upL L' j)).isSome = true) :
    ∃ n, getA (mkN M L k) (upL L' i) = some n ∧ n.dir = true := by
  obtain ⟨n, hn⟩ := Option.isSome_iff_exists.1 hs
  rcases mk_mem k M _ (mem_get hn) with h | ⟨i0, h1, h2, h3⟩
  · obtain ⟨n2, hn2, hd2⟩ := hI.up L' i j hL' hij hj hi (by rw [hI.asc.get h]; rfl)
    exact ⟨n2, mk_keep k M hn2 (by rw [show i = (i - 1) + 1 by omega]; exact hL'.ne (i - 1) (by omega)), hd2⟩
  · have e := (Prod.mk.inj h3).1
    obtain ⟨e1, e2⟩ := upL_inj hL' hL (by omega) h1 hj (by omega) e
    rw [e2 i (by omega)]
    exact mk_dirs hI hL k hk hf i hi (by omega)
theorem inv_put {M : Tr} (hI : Inv M) {L : List ByteArray} (hL : Parts L) (k : Nat) (hk : L.length = k + 1) (hd : dirT M (upL L (k + 1)) = false) (hf : fileN M L (k + 1) = false) (b : List UInt8) (hfit : fitsT M L k b.length = true) : Inv (putA (mkN M L k) (upL L (k + 1)) ⟨false, b⟩) := by
  have hA := mkN_asc L k M hI.asc
  have hlen := mkN_len hL k M hI.asc (by omega)
  have hsz := mkN_size L k M hI.asc
  have hget : getA (mkN M L k) (upL L (k + 1)) = getA M (upL L (k + 1)) := mkN_get k M fun i h1 h2 => hL.apart (by omega) (by omega)
  have hne : ¬ upL L (k + 1) = E0 := hL.ne k (by omega)
  unfold fitsT at hfit
  simp only [Bool.and_eq_true, decide_eq_true_eq] at hfit
  obtain ⟨f1, f2, f3⟩ := hfit
  have hnd : ∀ n, getA M (upL L (k + 1)) = some n → n.dir = false := by
    intro n hn
    unfold dirT at hd
    rw [hn] at hd
    simpa [hne] using hd
  refine ⟨hA.put _ _, ?_, ?_, fun e he => ?_, fun L' i j hL' hij hj hi hs => ?_⟩
  · rw [put_len hA, hget, hlen]
    unfold moreT hasT at f2
    simp only [hne, decide_false, Bool.or_false] at f2
    split <;> simp_all <;> omega
  · have := size_put (mkN M L k) hA (upL L (k + 1)) ⟨false, b⟩
    rw [hsz, hget] at this
    unfold oldT at f3
    dsimp only at this
    omega
  · rcases mem_put he with rfl | he
    · exact ⟨key_up hL (k + 1) (by omega) (by omega), f1, fun h => by cases h⟩
    · rcases mk_mem k M e he with he | ⟨i, h1, h2, rfl⟩
      · exact hI.key e he
      · exact ⟨key_up hL i h1 (by omega), Nat.zero_le _, fun _ => rfl⟩
  · have hup : ∃ n, getA (mkN M L k) (upL L' i) = some n ∧ n.dir = true := by
      by_cases e : upL L (k + 1) = upL L' j
      · obtain ⟨e1, e2⟩ := upL_inj hL' hL (by omega) (by omega) hj (by omega) e.symm
        rw [e2 i (by omega)]
        exact mk_dirs hI hL k (by omega) hf i hi (by omega)
      · rw [getA_put_other _ _ _ _ e] at hs
        exact mk_up hI hL k (by omega) hf L' i j hL' hij hj hi hs
    obtain ⟨n, hn, hdn⟩ := hup
    refine ⟨n, ?_, hdn⟩
    rw [getA_put_other _ _ _ _ fun e => ?_]
    · exact hn
    · rw [← e, hget] at hn
      rw [hnd n hn] at hdn; cases hdn
theorem inv_puts {M : Tr} (hI : Inv M) (s : ByteArray) (f : List UInt8 → List UInt8) : Inv (putS M s f).2 := by
  rcases file_ways M s with ⟨L, k, hf, hL, hk, hd, hfn⟩ | ⟨q, hf, hq, _, _⟩
  · rw [putS_at hf hL hk]
    split
    · rename_i hfit
      exact inv_put hI hL k hk hd hfn _ hfit
    · exact hI
  · rw [putS_bad hf hq]; exact hI
theorem inv_nil : Inv [] := ⟨List.Pairwise.nil, Nat.zero_le _, Nat.zero_le _, (fun e he => by cases he), (fun L i j _ _ _ _ h => by cases h)⟩
end Go.Proofs.YtichejodbohldaaGreatDoor
