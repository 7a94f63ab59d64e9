/- What a copy leaves: pure. -/
import Derived.Test.YtichejodbohldaaGreatDoorHcM
namespace Go.Proofs.YtichejodbohldaaGreatDoor
open Go.RowKit
theorem cpyA_asc {M : Tr} (hM : AscA M) (k q : ByteArray) : AscA (cpyA M k q) := by
  unfold cpyA
  split
  · exact hM
  · exact hM.put q _
def lenT (M : Tr) (k : ByteArray) : Nat := ((getA M k).map fun n => n.b.length).getD 0
def byK (M : Tr) (ks : List ByteArray) : Nat := (ks.map (lenT M)).sum
theorem cpyA_len {M : Tr} (hM : AscA M) (k q : ByteArray) : (cpyA M k q).length ≤ M.length + 1 := by
  unfold cpyA
  split
  · omega
  · rw [put_len hM]
    split <;> omega
theorem cpyA_size {M : Tr} (hM : AscA M) (k q : ByteArray) : sizeT (cpyA M k q) ≤ sizeT M + lenT M k := by
  unfold cpyA lenT
  split
  · omega
  · rename_i n h
    have h1 := size_put M hM q n
    rw [h]
    simp only [Option.map_some, Option.getD_some]
    omega
theorem cpyA_get {M : Tr} (k q x : ByteArray) (h2 : ¬ q = x) : getA (cpyA M k q) x = getA M x := by
  unfold cpyA
  split
  · rfl
  · rw [getA_put_other _ _ _ _ h2]
theorem cp_asc {p q : ByteArray} : ∀ (ks : List ByteArray) (M : Tr), AscA M → AscA (doneN (cpyN p q) M ks)
  | [], _, h => h
  | k :: r, _, h => cp_asc r _ (cpyA_asc h k _)
theorem cp_len {p q : ByteArray} : ∀ (ks : List ByteArray) (M : Tr), AscA M → (doneN (cpyN p q) M ks).length ≤ M.length + ks.length
  | [], _, _ => Nat.le_refl _
  | k :: r, M, h => by
    have h1 := cp_len (p := p) (q := q) r _ (cpyA_asc h k (targS p q k))
    have h2 := cpyA_len h k (targS p q k)
    show (doneN (cpyN p q) (cpyA M k (targS p q k)) r).length ≤ _
    rw [List.length_cons]
    omega
theorem byK_congr {M N : Tr} : ∀ (ks : List ByteArray), (∀ y ∈ ks, getA M y = getA N y) → byK M ks = byK N ks
  | [], _ => rfl
  | k :: r, h => by
    have ih := byK_congr r fun y hy => h y (List.mem_cons_of_mem _ hy)
    unfold byK at ih ⊢
    rw [List.map_cons, List.map_cons, List.sum_cons, List.sum_cons, ih]
    unfold lenT
    rw [h k List.mem_cons_self]
theorem cp_size {p q : ByteArray} : ∀ (ks : List ByteArray) (M : Tr), AscA M → (∀ y ∈ ks, ∀ z ∈ ks, ¬ targS p q y = z) → sizeT (doneN (cpyN p q) M ks) ≤ sizeT M + byK M ks
  | [], _, _, _ => Nat.le_refl _
  | k :: r, M, h, hn => by
    have h1 := cp_size (p := p) (q := q) r _ (cpyA_asc h k (targS p q k)) fun y hy z hz => hn y (List.mem_cons_of_mem _ hy) z (List.mem_cons_of_mem _ hz)
    have h2 := cpyA_size h k (targS p q k)
    have h3 : byK (cpyA M k (targS p q k)) r = byK M r := byK_congr r fun y hy => cpyA_get _ _ _ (hn k List.mem_cons_self y (List.mem_cons_of_mem _ hy))
    show sizeT (doneN (cpyN p q) (cpyA M k (targS p q k)) r) ≤ _
    have h4 : byK M (k :: r) = lenT M k + byK M r := by unfold byK; rw [List.map_cons, List.sum_cons]
    omega
theorem cp_get {p q x : ByteArray} : ∀ (ks : List ByteArray) (M : Tr), (∀ k ∈ ks, ¬ targS p q k = x) → getA (doneN (cpyN p q) M ks) x = getA M x
  | [], _, _ => rfl
  | k :: r, M, h => by
    show getA (doneN (cpyN p q) (cpyA M k (targS p q k)) r) x = _
    rw [cp_get r _ fun y hy => h y (List.mem_cons_of_mem _ hy), cpyA_get _ _ _ (h k List.mem_cons_self)]
/-- What a copy leaves at a path. -/
def cpAt (p q : ByteArray) (M : Tr) (ks : List ByteArray) (x : ByteArray) : Option Nd := match ks.find? fun y => decide (targS p q y = x) with
  | some y => getA M y
  | none => getA M x
theorem cp_at {p q x : ByteArray} : ∀ (ks : List ByteArray) (M : Tr), ks.Nodup → (∀ y ∈ ks, ∀ z ∈ ks, ¬ targS p q y = z) → (∀ y ∈ ks, ∀ z ∈ ks, targS p q y = targS p q z → y = z) → (∀ y ∈ ks, (getA M y).isSome = true) →
    getA (doneN (cpyN p q) M ks) x = cpAt p q M ks x
  | [], M, _, _, _, _ => by unfold cpAt; simp [doneN]
  | k :: r, M, hn, h1, h2, h3 => by
    obtain ⟨n, hk⟩ := Option.isSome_iff_exists.1 (h3 k List.mem_cons_self)
    have hM1 : cpyA M k (targS p q k) = putA M (targS p q k) n := by unfold cpyA; rw [hk]
    have hkr : k ∉ r := (List.nodup_cons.1 hn).1
    have hget : ∀ y, y ∈ r → getA (cpyA M k (targS p q k)) y = getA M y := fun y hy => cpyA_get _ _ _ (h1 k List.mem_cons_self y (List.mem_cons_of_mem _ hy))
    have ih := cp_at (x := x) r (cpyA M k (targS p q k)) (List.nodup_cons.1 hn).2 (fun y hy z hz => h1 y (List.mem_cons_of_mem _ hy) z (List.mem_cons_of_mem _ hz)) (fun y hy z hz => h2 y (List.mem_cons_of_mem _ hy) z (List.mem_cons_of_mem _ hz)) (fun y hy => by rw [hget y hy]; exact h3 y (List.mem_cons_of_mem _ hy))
    show getA (doneN (cpyN p q) (cpyA M k (targS p q k)) r) x = _
    rw [ih]
    unfold cpAt
    rw [List.find?_cons]
    cases hf : r.find? fun y => decide (targS p q y = x) with
    | some y =>
      have hy := List.mem_of_find?_eq_some hf
      have hyx : targS p q y = x := by simpa using List.find?_some hf
      have hkx : ¬ targS p q k = x := by
        intro e
        have := h2 k List.mem_cons_self y (List.mem_cons_of_mem _ hy) (by rw [e, hyx])
        subst this; exact hkr hy
      simp only [hkx, decide_false]
      exact hget y hy
    | none =>
      by_cases hkx : targS p q k = x
      · subst hkx
        simp only [decide_true]
        rw [hM1, getA_put_same, hk]
      · simp only [hkx, decide_false]
        rw [hM1, getA_put_other _ _ _ _ hkx]
section
variable {M : Tr} {p q : ByteArray} {Lp L : List ByteArray} {k : Nat}
theorem Mov.targ_no (h : Mov M p q Lp L k) {y z : ByteArray} (hy : y ∈ wkeys M p) (hz : z ∈ wkeys M p) : ¬ targS p q y = z := fun e => by
  have := targ_out h.inv h.pp h.pq h.ep h.eq h.hp h.nw h.hq (wkeys_mem hy).1
  rw [e, (wkeys_mem hz).1] at this; cases this
theorem Mov.cat (h : Mov M p q Lp L k) (x : ByteArray) : getA (doneN (cpyN p q) (mkN M L k) (wkeys M p)) x = cpAt p q (mkN M L k) (wkeys M p) x := by
  refine cp_at _ _ (wkeys_nodup h.inv.asc p) (fun y hy z hz => h.targ_no hy hz) (fun y hy z hz => targ_inj h.pne (wkeys_mem hy).1 (wkeys_mem hz).1) fun y hy => ?_
  rw [h.mkget (wkeys_mem hy).1]
  obtain ⟨n, hn⟩ := (wkeys_mem hy).2
  rw [h.inv.asc.get hn]; rfl
theorem Mov.cways (h : Mov M p q Lp L k) (x : ByteArray) (n : Nd) (hn : getA (doneN (cpyN p q) (mkN M L k) (wkeys M p)) x = some n) :
    (∃ y, y ∈ wkeys M p ∧ x = targS p q y ∧ getA M y = some n) ∨ ((∀ y ∈ wkeys M p, ¬ targS p q y = x) ∧ getA (mkN M L k) x = some n) := by
  rw [h.cat] at hn
  unfold cpAt at hn
  split at hn
  · rename_i y hf
    have hy := List.mem_of_find?_eq_some hf
    left
    refine ⟨y, hy, ?_, ?_⟩
    · have := List.find?_some hf; simp at this; exact this.symm
    · rw [← h.mkget (wkeys_mem hy).1]; exact hn
  · rename_i hf
    right
    refine ⟨fun y hy => ?_, hn⟩
    have := List.find?_eq_none.1 hf y hy
    simpa using this
theorem Mov.cgoes (h : Mov M p q Lp L k) (y : ByteArray) (n : Nd) (hy : getA M y = some n) (hw : Pth.withinS y p = true) : getA (doneN (cpyN p q) (mkN M L k) (wkeys M p)) (targS p q y) = some n := by
  have hm := mem_wkeys hy hw
  rw [h.cat]
  unfold cpAt
  cases hf : (wkeys M p).find? fun z => decide (targS p q z = targS p q y) with
  | none => have := List.find?_eq_none.1 hf y hm; simp at this
  | some z =>
    have hz := List.mem_of_find?_eq_some hf
    have e : targS p q z = targS p q y := by simpa using List.find?_some hf
    have := targ_inj h.pne (wkeys_mem hz).1 hw e
    subst this
    simp only
    rw [h.mkget hw, hy]
theorem Mov.cstays (h : Mov M p q Lp L k) (x : ByteArray) (n : Nd) (hx : getA (mkN M L k) x = some n) (h1 : ∀ y ∈ wkeys M p, ¬ targS p q y = x) : getA (doneN (cpyN p q) (mkN M L k) (wkeys M p)) x = some n := by
  rw [h.cat]
  unfold cpAt
  cases hf : (wkeys M p).find? fun z => decide (targS p q z = x) with
  | some z => exact absurd (by simpa using List.find?_some hf) (h1 z (List.mem_of_find?_eq_some hf))
  | none => exact hx
theorem Mov.cstep (h : Mov M p q Lp L k) (j : Nat) (x : ByteArray) (hx : (wkeys M p)[j]? = some x) : getA (doneN (cpyN p q) (mkN M L k) ((wkeys M p).take j)) x = getA M x := by
  have hm := List.mem_of_getElem? hx
  rw [cp_get _ _ fun y hy => h.targ_no (List.mem_of_mem_take hy) hm, h.mkget (wkeys_mem hm).1]
theorem Mov.ceach (h : Mov M p q Lp L k) (j : Nat) (x : ByteArray) (hx : (wkeys M p)[j]? = some x) : ∃ nd, getA (doneN (cpyN p q) (mkN M L k) ((wkeys M p).take j)) x = some nd ∧ nd.b.length ≤ 1000000 := by
  rw [h.cstep j x hx]
  obtain ⟨n, hn⟩ := (wkeys_mem (List.mem_of_getElem? hx)).2
  exact ⟨n, h.inv.asc.get hn, by have := (h.inv.key _ hn).2.1; dsimp only at this; omega⟩
/-- The bytes of what goes. -/
theorem byK_filter (hM : AscA M) (f : ByteArray × Nd → Bool) : byK M ((M.filter f).map (·.1)) = sizeT (M.filter f) := by
  have key : ∀ N : Tr, (∀ e ∈ N, e ∈ M) → byK M (N.map (·.1)) = sizeT N := by
    intro N
    induction N with
    | nil => intro _; rfl
    | cons e r ih =>
      intro h
      have ih := ih fun x hx => h x (List.mem_cons_of_mem _ hx)
      unfold byK sizeT at ih ⊢
      rw [List.map_cons, List.map_cons, List.sum_cons, ih]
      unfold lenT
      rw [hM.get (p := e.1) (x := e.2) (h e List.mem_cons_self)]
      rfl
  exact key _ fun e he => (List.mem_filter.1 he).1
theorem size_filter_le (f : ByteArray × Nd → Bool) : ∀ M : Tr, sizeT (M.filter f) ≤ sizeT M
  | [] => Nat.le_refl _
  | e :: r => by
    have ih := size_filter_le f r
    unfold sizeT at ih ⊢
    rw [List.filter_cons]
    split
    · simp only [sumA] at ih ⊢; omega
    · simp only [sumA] at ih ⊢; omega
theorem byK_le (hM : AscA M) (p : ByteArray) : byK M (wkeys M p) ≤ sizeT M := by
  unfold wkeys
  rw [byK_filter hM]
  exact size_filter_le _ M
theorem byK_take (M : Tr) : ∀ (ks : List ByteArray) (j : Nat), byK M (ks.take j) ≤ byK M ks
  | [], j => by rw [List.take_nil]; exact Nat.le_refl _
  | k :: r, 0 => Nat.zero_le _
  | k :: r, j + 1 => by
    have := byK_take M r j
    unfold byK at this ⊢
    rw [List.take_succ_cons, List.map_cons, List.map_cons, List.sum_cons, List.sum_cons]
    omega
theorem wkeys_len (M : Tr) (p : ByteArray) : (wkeys M p).length ≤ M.length := by
  unfold wkeys
  rw [List.length_map]
  exact List.length_filter_le _ _
theorem Mov.cbound (h : Mov M p q Lp L k) (j : Nat) : (doneN (cpyN p q) (mkN M L k) ((wkeys M p).take j)).length ≤ 100000 ∧ sizeT (doneN (cpyN p q) (mkN M L k) ((wkeys M p).take j)) ≤ 10000000 := by
  have h1 := mkN_asc L k M h.inv.asc
  have h2 := cp_len (p := p) (q := q) ((wkeys M p).take j) _ h1
  have h3 := cp_size (p := p) (q := q) ((wkeys M p).take j) _ h1 fun y hy z hz => h.targ_no (List.mem_of_mem_take hy) (List.mem_of_mem_take hz)
  have h4 := mkN_len h.pq k M h.inv.asc (by have := h.len; omega)
  have h5 := mkN_size L k M h.inv.asc
  have h6 := lackN_le M L k
  have h7 := h.pq.len
  have h8 := h.len
  have h9 := h.inv.len
  have h10 := h.inv.size
  have h11 := wkeys_len M p
  have h12 : byK (mkN M L k) ((wkeys M p).take j) = byK M ((wkeys M p).take j) := byK_congr _ fun y hy => h.mkget (wkeys_mem (List.mem_of_mem_take hy)).1
  have h13 := byK_take M (wkeys M p) j
  have h14 := byK_le h.inv.asc p
  rw [List.length_take] at h2
  exact ⟨by omega, by omega⟩
end
/-- Whether there is room for a copy. -/
def roomC (M : Tr) (p : ByteArray) (lk : Nat) : Bool := decide (M.length + (lk + (wkeys M p).length) ≤ 500) && decide (((sizeT M : Nat) : Int) + (byK M (wkeys M p) : Nat) ≤ 1048576)
/-- What Copy tells and leaves. -/
def copyS (M : Tr) (s t : ByteArray) : Int × Tr :=
  if ¬ planE M s t = 0 then (planE M s t, M) else
  if roomC M (Pth.cleanS s).1 (lackN M (Pth.partsS (Pth.cleanS t).1) ((Pth.partsS (Pth.cleanS t).1).length - 1)) = true then
    (0, doneN (cpyN (Pth.cleanS s).1 (Pth.cleanS t).1) (mkN M (Pth.partsS (Pth.cleanS t).1) ((Pth.partsS (Pth.cleanS t).1).length - 1)) (wkeys M (Pth.cleanS s).1)) else (55, M)
theorem inv_copied {M : Tr} {p q : ByteArray} {Lp L : List ByteArray} {k : Nat} (h : Mov M p q Lp L k) (hf : fileN M L (k + 1) = false) (ht : targsOk (wkeys M p) p q = true) (hr : roomC M p (lackN M L k) = true) : Inv (doneN (cpyN p q) (mkN M L k) (wkeys M p)) := by
  have hlen := h.len
  have hA := mkN_asc L k M h.inv.asc
  have hl := mkN_len h.pq k M h.inv.asc (by omega)
  have hsz := mkN_size L k M h.inv.asc
  have hL0 : L ≠ [] := by intro e; rw [e] at hlen; cases hlen
  have hasc := cp_asc (p := p) (q := q) (wkeys M p) _ hA
  unfold roomC at hr
  simp only [Bool.and_eq_true, decide_eq_true_eq] at hr
  obtain ⟨hr1, hr2⟩ := hr
  have hbk : byK (mkN M L k) (wkeys M p) = byK M (wkeys M p) := byK_congr _ fun y hy => h.mkget (wkeys_mem hy).1
  have hpT : ∀ {y : ByteArray} {R : List ByteArray}, y ∈ wkeys M p → (∀ r ∈ R, Pth.Part r) → targS p q y = Pth.joinB (L ++ R) → Parts (L ++ R) := by
    intro y R hy hR e
    refine clean_parts (L ++ R) (fun r hr => ?_) (by simp [hL0]) ?_
    · rcases List.mem_append.1 hr with hr | hr
      · exact h.pq.part r hr
      · exact hR r hr
    · rw [← e]
      have := List.all_eq_true.1 ht y hy
      simpa using this
  refine ⟨hasc, by have := cp_len (p := p) (q := q) (wkeys M p) _ hA; omega, by have := cp_size (p := p) (q := q) (wkeys M p) _ hA fun y hy z hz => h.targ_no hy hz; omega, fun e he => ?_, fun L' i j hL' hij hj hi hs => ?_⟩
  · have hg := hasc.get (p := e.1) (x := e.2) he
    rcases h.cways e.1 e.2 hg with ⟨y, hy, hx, hn⟩ | ⟨_, hn⟩
    · obtain ⟨R, hR, _, _, eT⟩ := h.parts hy
      have hk := h.inv.key (y, e.2) (mem_get hn)
      refine ⟨⟨L ++ R, k + R.length, by rw [hx, eT], hpT hy hR eT, by rw [List.length_append, hlen]; omega⟩, hk.2⟩
    · rcases mk_mem k M _ (mem_get hn) with hm | ⟨i, h1, h2, h3⟩
      · exact h.inv.key e hm
      · obtain ⟨e1, e2⟩ := Prod.mk.inj h3
        rw [e1, e2]
        exact ⟨key_up h.pq i h1 (by omega), Nat.zero_le _, fun _ => rfl⟩
  · obtain ⟨n, hn⟩ := Option.isSome_iff_exists.1 hs
    have hdirs : ∀ t, 1 ≤ t → t ≤ k → ∃ n, getA (doneN (cpyN p q) (mkN M L k) (wkeys M p)) (upL L t) = some n ∧ n.dir = true := by
      intro t h1 h2
      obtain ⟨n, hn, hd⟩ := mk_dirs h.inv h.pq k (by omega) hf t h1 h2
      refine ⟨n, h.cstays _ n hn (fun y hy e => ?_), hd⟩
      have s1 := h.targ_size (wkeys_mem hy).1
      rw [e] at s1
      have s2 := h.pq.step t (by omega)
      have s3 := h.pq.mono (k + 1 - (t + 1)) (t + 1) (by omega)
      rw [show t + 1 + (k + 1 - (t + 1)) = k + 1 by omega, h.q_up] at s3
      omega
    rcases h.cways _ n hn with ⟨y, hy, hx, hny⟩ | ⟨hnt, hnm⟩
    · obtain ⟨R, hR, hPy, ey, eT⟩ := h.parts hy
      have hPT := hpT hy hR eT
      have hPl : (L ++ R).length = k + 1 + R.length := by rw [List.length_append, hlen]
      rw [eT, ← upL_all (L ++ R)] at hx
      obtain ⟨e1, e2⟩ := upL_inj hL' hPT (by omega) (by rw [hPl]; omega) hj (Nat.le_refl _) hx
      rw [e2 i (by omega)]
      by_cases hik : i ≤ k
      · rw [upL_left L R i (by omega)]
        exact hdirs i hi hik
      · obtain ⟨t, rfl⟩ : ∃ t, i = L.length + t := ⟨i - L.length, by omega⟩
        have hRt : t < R.length := by omega
        rw [upL_right]
        have hLp : Lp ≠ [] := by rintro rfl; exact h.pne h.ep.symm
        have hyu : y = upL (Lp ++ R) (Lp.length + R.length) := by rw [← List.length_append, upL_all]; exact ey
        obtain ⟨n2, hn2, hd2⟩ := h.inv.up (Lp ++ R) (Lp.length + t) (Lp.length + R.length) hPy (by omega) (by rw [List.length_append]; exact Nat.le_refl _) (by have := List.length_pos_iff.2 hLp; omega) (by rw [← hyu, hny]; rfl)
        rw [upL_right] at hn2
        have hw2 : Pth.withinS (Pth.joinB (Lp ++ R.take t)) p = true := by
          rw [within_iff]
          by_cases h0 : R.take t = []
          · rw [h0, List.append_nil, h.ep]; exact .inr (.inl rfl)
          · rw [Pth.joinB_app Lp _ hLp h0, h.ep]; exact .inr (.inr ⟨_, rfl⟩)
        have hg := h.cgoes _ n2 hn2 hw2
        have eT2 : targS p q (Pth.joinB (Lp ++ R.take t)) = Pth.joinB (L ++ R.take t) := by
          obtain ⟨r, e3, e4⟩ := below_ways h.pne hw2
          rw [e4]
          by_cases h0 : R.take t = []
          · rw [h0, List.append_nil] at e3 ⊢
            rw [h.ep] at e3
            have : r = E0 := by
              have := congrArg ByteArray.size e3
              rw [ByteArray.size_append] at this
              exact empty_size (by omega)
            rw [this, h.eq]
            apply bytes_ext
            rw [cat_data]; simp
          · rw [Pth.joinB_app Lp _ hLp h0, h.ep, ByteArray.append_assoc] at e3
            rw [← cat_cancel e3, Pth.joinB_app L _ hL0 h0, h.eq, ByteArray.append_assoc]
        rw [eT2] at hg
        exact ⟨n2, hg, hd2⟩
    · obtain ⟨n2, hn2, hd2⟩ := mk_up h.inv h.pq k (by omega) hf L' i j hL' hij hj hi (by rw [hnm]; rfl)
      refine ⟨n2, h.cstays _ n2 hn2 (fun y hy e => ?_), hd2⟩
      obtain ⟨R, hR, _, _, eT⟩ := h.parts hy
      have hPT := hpT hy hR eT
      rw [eT, ← upL_all (L ++ R)] at e
      have hPl : (L ++ R).length = k + 1 + R.length := by rw [List.length_append, hlen]
      obtain ⟨e1, e2⟩ := upL_inj hPT hL' (by omega) hi (Nat.le_refl _) (by omega) e
      refine h.none_below L' j (k + 1) hL' (by omega) (by omega) hj (by rw [hnm]; rfl) ?_
      rw [← e2 (k + 1) (by omega), upL_left L R (k + 1) (by omega), h.q_up]
/-- A plan that nothing is in the way of. -/
theorem plan_zero {M : Tr} (hI : Inv M) {s t : ByteArray} (hp : planE M s t = 0) : ∃ p q Lp L k, Mov M p q Lp L k ∧ Pth.cleanS s = (p, 0) ∧ Pth.cleanS t = (q, 0) ∧ Pth.partsS q = L ∧ fileN M L (k + 1) = false ∧ targsOk (wkeys M p) p q = true := by
  unfold planE at hp
  split at hp
  · rename_i hc; exact absurd hp hc
  · rename_i hc1
    split at hp
    · rename_i hc; exact absurd hp hc
    · rename_i hc2
      rcases clean_ways s with ⟨Lp, e1, hLp⟩ | ⟨q1, e1, hq1, _, _⟩
      · rcases clean_ways t with ⟨L, e2, hL⟩ | ⟨q2, e2, hq2, _, _⟩
        · rw [e1, e2] at hp
          simp only at hp
          have hpt : Pth.partsS (Pth.joinB L) = L := Pth.parts_join L hL.part
          rw [hpt] at hp
          split at hp
          · cases hp
          · rename_i hf
            split at hp
            · cases hp
            · rename_i hw
              split at hp
              · cases hp
              · rename_i hq
                split at hp
                · cases hp
                · rename_i ha
                  split at hp
                  · rename_i htg
                    obtain ⟨k, hk⟩ : ∃ k, L.length = k + 1 := by
                      cases L with
                      | nil => exact absurd (by unfold hasT; rw [Pth.joinB_nil]; simp; exact .inr rfl) hq
                      | cons x r => exact ⟨r.length, rfl⟩
                    unfold aheadT at ha
                    rw [hk] at ha
                    exact ⟨_, _, Lp, L, k, ⟨hI, hLp, hL, rfl, rfl, hk, by simpa using hf, by simpa using hw, by simpa using hq⟩, e1, e2, hpt, by simpa using ha, htg⟩
                  · cases hp
        · rw [e2] at hc2; exact absurd hq2 hc2
      · rw [e1] at hc1; exact absurd hq1 hc1
theorem inv_copy {M : Tr} (hI : Inv M) (s t : ByteArray) : Inv (copyS M s t).2 := by
  unfold copyS
  split
  · exact hI
  · rename_i hp
    obtain ⟨p, q, Lp, L, k, hM, e1, e2, e3, hf, ht⟩ := plan_zero hI (by simpa using hp)
    rw [e1, e2]
    simp only [e3]
    rw [show L.length - 1 = k by have := hM.len; omega]
    split
    · rename_i hr
      exact inv_copied hM hf ht hr
    · exact hI
end Go.Proofs.YtichejodbohldaaGreatDoor
