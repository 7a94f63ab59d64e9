/- A move and its way back, a copy: pure. -/
import Derived.Test.YtichejodbohldaaGreatDoorHfM
import Derived.Test.YtichejodbohldaaGreatDoorIrM
namespace Go.Proofs.YtichejodbohldaaGreatDoor
open Go.RowKit
theorem Inv.key_of {M : Tr} (hI : Inv M) {y : ByteArray} {n : Nd} (h : getA M y = some n) : ∃ L k, y = Pth.joinB L ∧ Parts L ∧ L.length = k + 1 := (hI.key (y, n) (mem_get h)).1
/-- What is below a path that isn't there isn't there. -/
theorem Inv.down {M : Tr} (hI : Inv M) {y d : ByteArray} {Ld : List ByteArray} (hLd : Parts Ld) (ed : Pth.joinB Ld = d) (hd0 : ¬ d = E0) {n : Nd} (hy : getA M y = some n) (hw : Pth.withinS y d = true) : hasT M d = true := by
  obtain ⟨L, k, e, hL, hk⟩ := hI.key_of hy
  rw [within_iff] at hw
  rcases hw with h | rfl | ⟨z, hz⟩
  · exact absurd h hd0
  · unfold hasT; rw [hy]; rfl
  · have hne : Ld ≠ [] := by rintro rfl; exact hd0 ed.symm
    obtain ⟨h1, h2, h3⟩ := up_of_below hL hLd hne z (by rw [← e, ed]; exact hz)
    obtain ⟨n2, hn2, _⟩ := hI.up L Ld.length L.length hL h2 (Nat.le_refl _) h1 (by rw [upL_all, ← e, hy]; rfl)
    rw [← h3, ed] at hn2
    unfold hasT; rw [hn2]; rfl
theorem targ_within {p q y : ByteArray} (hp : ¬ p = E0) (hy : Pth.withinS y p = true) : Pth.withinS (targS p q y) q = true := by
  have hy2 := hy
  rw [within_iff] at hy
  rcases hy with h | rfl | ⟨z, rfl⟩
  · exact absurd h hp
  · have e : targS y q y = q := by unfold targS; apply bytes_ext; simp
    rw [e]; exact within_self q
  · have e : targS p q (p ++ sl ++ z) = q ++ sl ++ z := by
      unfold targS
      have e : (p ++ sl ++ z).extract p.size (p ++ sl ++ z).size = sl ++ z := by
        rw [ByteArray.append_assoc]; exact Pth.extract_right _ _
      rw [e, ByteArray.append_assoc]
    rw [e]; exact (within_iff _ _).2 (.inr (.inr ⟨z, rfl⟩))
theorem targ_back {p q y : ByteArray} (hp : ¬ p = E0) (hq : ¬ q = E0) (hy : Pth.withinS y p = true) : targS q p (targS p q y) = y := by
  obtain ⟨r, e1, e2⟩ := below_ways hp hy
  obtain ⟨s, e3, e4⟩ := below_ways hq (targ_within (q := q) hp hy)
  rw [e4]
  rw [e2] at e3
  rw [← cat_cancel e3, ← e1]
section
variable {M : Tr} {p q : ByteArray} {Lp L : List ByteArray} {k : Nat}
theorem Mov.qne (h : Mov M p q Lp L k) : ¬ q = E0 := fun e => by
  have : hasT M q = true := by unfold hasT; rw [e]; simp
  rw [h.hq] at this; cases this
theorem Mov.pn (h : Mov M p q Lp L k) : ∃ n, getA M p = some n := by
  have := h.hp
  unfold hasT at this
  simp only [h.pne, decide_false, Bool.or_false] at this
  exact Option.isSome_iff_exists.1 this
theorem Mov.below_no (h : Mov M p q Lp L k) {x : ByteArray} {n : Nd} (hx : getA M x = some n) : Pth.withinS x q = false := by
  cases hw : Pth.withinS x q with
  | false => rfl
  | true =>
    have := h.inv.down h.pq h.eq h.qne hx hw
    rw [h.hq] at this; cases this
theorem Mov.up_no (h : Mov M p q Lp L k) {i : Nat} (_h1 : 1 ≤ i) (h2 : i ≤ k) : Pth.withinS (upL L i) q = false := by
  cases hw : Pth.withinS (upL L i) q with
  | false => rfl
  | true =>
    have s1 := within_size hw
    have hlen := h.len
    have s2 := h.pq.step i (by omega)
    have s3 := h.pq.mono (k + 1 - (i + 1)) (i + 1) (by omega)
    rw [show i + 1 + (k + 1 - (i + 1)) = k + 1 by omega, h.q_up] at s3
    omega
/-- Nothing that is in the way's tree lies within where it goes. -/
theorem Mov.mk_no (h : Mov M p q Lp L k) {x : ByteArray} {n : Nd} (hx : getA (mkN M L k) x = some n) : Pth.withinS x q = false := by
  rcases mk_mem k M _ (mem_get hx) with hm | ⟨i, h1, h2, h3⟩
  · exact h.below_no (h.inv.asc.get hm)
  · rw [(Prod.mk.inj h3).1]; exact h.up_no h1 h2
/-- The tree behind a move. -/
abbrev renT (M : Tr) (p q : ByteArray) (L : List ByteArray) (k : Nat) : Tr := doneN (renN p q) (mkN M L k) (wkeys M p)
theorem Mov.gone (h : Mov M p q Lp L k) : hasT (renT M p q L k) p = false := by
  cases hh : hasT (renT M p q L k) p with
  | false => rfl
  | true =>
    unfold hasT at hh
    simp only [h.pne, decide_false, Bool.or_false] at hh
    obtain ⟨n, hn⟩ := Option.isSome_iff_exists.1 hh
    obtain ⟨n0, hn0⟩ := h.pn
    have hpk := mem_wkeys hn0 (within_self p)
    rcases h.ways p n hn with ⟨y, hy, e, _⟩ | ⟨_, h2, _⟩
    · exact absurd e.symm (h.targ_no hy hpk)
    · exact absurd hpk h2
theorem targ_top (p q : ByteArray) : targS p q p = q := by unfold targS; apply bytes_ext; simp
theorem Mov.there (h : Mov M p q Lp L k) : hasT (renT M p q L k) q = true := by
  obtain ⟨n0, hn0⟩ := h.pn
  have := h.goes p n0 hn0 (within_self p)
  rw [targ_top] at this
  unfold hasT
  rw [this]; rfl
theorem Mov.plen (h : Mov M p q Lp L k) : ∃ kp, Lp.length = kp + 1 := by
  cases hL : Lp with
  | nil => exact absurd (by rw [← h.ep, hL]; rfl) h.pne
  | cons x r => exact ⟨r.length, rfl⟩
theorem Mov.p_up (h : Mov M p q Lp L k) {kp : Nat} (hk : Lp.length = kp + 1) : upL Lp (kp + 1) = p := by rw [← hk, upL_all, h.ep]
/-- What is ahead of what goes stays. -/
theorem Mov.ahead (h : Mov M p q Lp L k) {kp : Nat} (hk : Lp.length = kp + 1) (i : Nat) (h1 : 1 ≤ i) (h2 : i ≤ kp) : ∃ n, getA (renT M p q L k) (upL Lp i) = some n ∧ n.dir = true := by
  obtain ⟨n0, hn0⟩ := h.pn
  obtain ⟨n, hn, hd⟩ := h.inv.up Lp i (kp + 1) h.pp (by omega) (by omega) h1 (by rw [h.p_up hk, hn0]; rfl)
  refine ⟨n, h.stays _ n (mk_keep k M hn ?_) (fun y hy e => ?_) (fun hm => ?_), hd⟩
  · rw [show i = (i - 1) + 1 by omega]; exact h.pp.ne (i - 1) (by omega)
  · have h3 := targ_within (q := q) h.pne (wkeys_mem hy).1
    rw [e, h.below_no hn] at h3; cases h3
  · have s1 := within_size (wkeys_mem hm).1
    have s2 := h.pp.step i (by omega)
    have s3 := h.pp.mono (kp + 1 - (i + 1)) (i + 1) (by omega)
    rw [show i + 1 + (kp + 1 - (i + 1)) = kp + 1 by omega, h.p_up hk] at s3
    omega
theorem Mov.back (h : Mov M p q Lp L k) (hI : Inv (renT M p q L k)) {kp : Nat} (hk : Lp.length = kp + 1) : Mov (renT M p q L k) q p L Lp kp := by
  refine ⟨hI, h.pq, h.pp, h.eq, h.ep, hk, h.there, ?_, h.gone⟩
  obtain ⟨n0, hn0⟩ := h.pn
  exact h.below_no hn0
theorem Mov.lack0 (h : Mov M p q Lp L k) {kp : Nat} (hk : Lp.length = kp + 1) : lackN (renT M p q L k) Lp kp = 0 ∧ mkN (renT M p q L k) Lp kp = renT M p q L k := by
  cases kp with
  | zero => exact ⟨rfl, rfl⟩
  | succ j =>
    obtain ⟨n, hn, _⟩ := h.ahead hk (j + 1) (by omega) (Nat.le_refl _)
    have hh : hasT (renT M p q L k) (upL Lp (j + 1)) = true := by unfold hasT; rw [hn]; rfl
    exact ⟨by rw [lackN, if_pos hh], by rw [mkN, if_pos hh]⟩
theorem fileN_none {M : Tr} {L : List ByteArray} : ∀ n, (∀ i, i < n → fileT M (upL L i) = false) → fileN M L n = false
  | 0, _ => rfl
  | n + 1, h => by
    unfold fileN
    rw [h n (by omega), fileN_none n fun i hi => h i (by omega)]; rfl
theorem Mov.file0 (h : Mov M p q Lp L k) {kp : Nat} (hk : Lp.length = kp + 1) : fileN (renT M p q L k) Lp (kp + 1) = false := by
  refine fileN_none _ fun i hi => ?_
  by_cases h0 : i = 0
  · subst h0; rw [upL_zero]; unfold fileT dirT; simp
  · obtain ⟨n, hn, hd⟩ := h.ahead hk i (by omega) (by omega)
    unfold fileT dirT
    rw [hn]
    simp [hd]
theorem Mov.wback (h : Mov M p q Lp L k) (x : ByteArray) : x ∈ wkeys (renT M p q L k) q ↔ ∃ y ∈ wkeys M p, x = targS p q y := by
  constructor
  · intro hx
    obtain ⟨hw, n, hn⟩ := wkeys_mem hx
    have hg : getA (renT M p q L k) x = some n := (ren_asc (p := p) (q := q) (wkeys M p) _ (mkN_asc L k M h.inv.asc)).get hn
    rcases h.ways x n hg with ⟨y, hy, e, _⟩ | ⟨_, _, h3⟩
    · exact ⟨y, hy, e⟩
    · rw [h.mk_no h3] at hw; cases hw
  · rintro ⟨y, hy, rfl⟩
    obtain ⟨hw, n, hn⟩ := wkeys_mem hy
    exact mem_wkeys (h.goes y n (h.inv.asc.get hn) hw) (targ_within h.pne hw)
theorem clean_key {M : Tr} (hI : Inv M) {y : ByteArray} {n : Nd} (h : getA M y = some n) : Pth.cleanS y = (y, 0) := by
  obtain ⟨L, k, e, hL, _⟩ := hI.key_of h
  rw [e]
  exact Pth.clean_join L hL.part hL.len hL.size
theorem Mov.targs0 (h : Mov M p q Lp L k) : targsOk (wkeys (renT M p q L k) q) q p = true := by
  unfold targsOk
  refine List.all_eq_true.2 fun x hx => ?_
  obtain ⟨y, hy, rfl⟩ := (h.wback x).1 hx
  obtain ⟨hw, n, hn⟩ := wkeys_mem hy
  rw [targ_back h.pne h.qne hw, clean_key h.inv (h.inv.asc.get hn)]
  simp
/-- There and back again. -/
theorem Mov.again (h : Mov M p q Lp L k) (hI : Inv (renT M p q L k)) {kp : Nat} (hk : Lp.length = kp + 1) : renT (renT M p q L k) q p Lp kp = mkN M L k := by
  have hb := h.back hI hk
  have h0 := (h.lack0 hk).2
  have hA := mkN_asc L k M h.inv.asc
  have hAR := ren_asc (p := p) (q := q) (wkeys M p) _ hA
  have hne := h.pne
  have hqe := h.qne
  refine ascA_ext (ren_asc (wkeys (renT M p q L k) q) _ (by rw [h0]; exact hAR)) hA fun x => ?_
  apply Option.ext
  intro n
  constructor
  · intro hn
    rcases hb.ways x n hn with ⟨y', hy', e, hg⟩ | ⟨hnt, hnk, hg⟩
    · obtain ⟨y, hy, rfl⟩ := (h.wback y').1 hy'
      obtain ⟨hw, n2, hn2⟩ := wkeys_mem hy
      rw [targ_back hne hqe hw] at e
      subst e
      have h3 := h.goes x n2 (h.inv.asc.get hn2) hw
      rw [h3] at hg
      rw [h.mkget hw, h.inv.asc.get hn2]; exact hg
    · rw [h0] at hg
      rcases h.ways x n hg with ⟨y, hy, e, _⟩ | ⟨_, _, h3⟩
      · exact absurd ((h.wback x).2 ⟨y, hy, e⟩) hnk
      · exact h3
  · intro hn
    by_cases hm : x ∈ wkeys M p
    · obtain ⟨hw, n2, hn2⟩ := wkeys_mem hm
      have h3 := h.inv.asc.get hn2
      rw [h.mkget hw, h3] at hn
      obtain rfl := Option.some.inj hn
      have h4 := hb.goes _ n2 (h.goes x n2 h3 hw) (targ_within hne hw)
      rw [targ_back hne hqe hw] at h4
      exact h4
    · have hxq := h.mk_no hn
      have h3 : getA (renT M p q L k) x = some n := h.stays x n hn (fun y hy e => by
        have h5 := targ_within (q := q) hne (wkeys_mem hy).1
        rw [e, hxq] at h5; cases h5) hm
      refine hb.stays x n (by rw [h0]; exact h3) (fun y' hy' e => ?_) (fun hx => ?_)
      · obtain ⟨y, hy, rfl⟩ := (h.wback y').1 hy'
        rw [targ_back hne hqe (wkeys_mem hy).1] at e
        exact hm (e ▸ hy)
      · have h5 := (wkeys_mem hx).1
        rw [hxq] at h5; cases h5
/-- Directories that were made for it, taken away. -/
theorem mk_filter (hI : Inv M) (hL : Parts L) (hk : L.length = k + 1) (h1 : hasT M (upL L 1) = false) (hk1 : 1 ≤ k) : ((mkN M L k).filter fun e => !Pth.withinS e.1 (upL L 1)) = M := by
  refine ascA_ext ((mkN_asc L k M hI.asc).filter _) hI.asc fun x => ?_
  rw [getA_filter (mkN M L k) (fun x => !Pth.withinS x (upL L 1)) x]
  have hP1 : Parts (L.take 1) := Parts.takes hL 1 (by omega)
  cases hw : Pth.withinS x (upL L 1) with
  | true =>
    simp only [Bool.not_true, Bool.false_eq_true, if_false]
    cases hx : getA M x with
    | none => rfl
    | some n =>
      have := hI.down hP1 rfl (hL.ne 0 (by omega)) hx hw
      rw [show Pth.joinB (L.take 1) = upL L 1 from rfl, h1] at this; cases this
  | false =>
    simp only [Bool.not_false, if_true]
    refine mkN_get k M fun i hi1 hi2 e => ?_
    have := within_up (L := L) (p := upL L 1) 1 i (by omega) hi1 (by omega) (within_self _)
    rw [e, hw] at this; cases this
end
theorem plan_of {M : Tr} {s t p q : ByteArray} {Lp L : List ByteArray} {k : Nat} (h : Mov M p q Lp L k) (hs : Pth.cleanS s = (p, 0)) (ht : Pth.cleanS t = (q, 0)) (hf : fileN M L (k + 1) = false) (hto : targsOk (wkeys M p) p q = true) : planE M s t = 0 := by
  have hpt : Pth.partsS q = L := by rw [← h.eq]; exact Pth.parts_join L h.pq.part
  unfold planE
  rw [hs, ht]
  simp only [hpt]
  unfold aheadT
  rw [if_neg (by simp), if_neg (by simp), if_neg (by rw [h.hp]; simp), if_neg (by rw [h.nw]; simp), if_neg (by rw [h.hq]; simp), if_neg (by rw [h.len, hf]; simp), if_pos hto]
theorem rename_at {M : Tr} {s t p q : ByteArray} {Lp L : List ByteArray} {k : Nat} (h : Mov M p q Lp L k) (hs : Pth.cleanS s = (p, 0)) (ht : Pth.cleanS t = (q, 0)) (hp : planE M s t = 0) : renameS M s t = if decide (M.length + lackN M L k ≤ 500) = true then (0, renT M p q L k) else (55, M) := by
  have hpt : Pth.partsS q = L := by rw [← h.eq]; exact Pth.parts_join L h.pq.part
  unfold renameS
  rw [if_neg (by rw [hp]; simp), hs, ht]
  simp only [hpt, h.len]
  rfl
theorem exists_at {M : Tr} {s p : ByteArray} (h : Pth.cleanS s = (p, 0)) : existsS M s = hasT M p := by unfold existsS; rw [h]; simp
/-- What the law TreeMoves asks of a move. -/
theorem moves_pure {M : Tr} (hI : Inv M) (s t d : ByteArray) (L : List ByteArray) (ht : Pth.cleanS t = (d, 0)) (hL : Pth.partsS d = L) (hd : ¬ d = E0) (hx : existsS M (upL L 1) = false) :
    (¬ (renameS M s t).1 = 0 ∧ (renameS M s t).2 = M) ∨
    ∃ R N, renameS M s t = (0, R) ∧ Inv R ∧ existsS R s = false ∧ existsS R t = true ∧ renameS R t s = (0, N) ∧ Inv N ∧ (L.length = 1 → N = M) ∧ (¬ L.length = 1 → remS N (upL L 1) = (0, M)) := by
  by_cases hp : planE M s t = 0
  · obtain ⟨p, q, Lp, L', k, hm, hs, ht', hpq, hf, hto⟩ := plan_zero hI hp
    rw [ht] at ht'
    obtain rfl : d = q := (Prod.mk.inj ht').1
    obtain rfl : L = L' := hL.symm.trans hpq
    rw [rename_at hm hs ht hp]
    cases hr : decide (M.length + lackN M L k ≤ 500) with
    | false => left; exact ⟨by simp, by simp⟩
    | true =>
      right
      have hroom : M.length + lackN M L k ≤ 500 := by simpa using hr
      have hIR := inv_move hm hf hto hroom
      obtain ⟨kp, hk⟩ := hm.plen
      have hb := hm.back hIR hk
      have hf0 := hm.file0 hk
      have hto0 := hm.targs0
      have hp2 := plan_of hb ht hs hf0 hto0
      have hroom2 : (renT M p d L k).length + lackN (renT M p d L k) Lp kp ≤ 500 := by rw [(hm.lack0 hk).1]; exact hIR.len
      have hIN := inv_move hb hf0 hto0 hroom2
      have hag := hm.again hIR hk
      refine ⟨renT M p d L k, mkN M L k, by rw [if_pos rfl], hIR, ?_, ?_, ?_, ?_, ?_, ?_⟩
      · rw [exists_at hs]; exact hm.gone
      · rw [exists_at ht]; exact hm.there
      · rw [rename_at hb ht hs hp2, decide_eq_true hroom2, if_pos rfl, hag]
      · rw [← hag]; exact hIN
      · intro h1
        have : k = 0 := by have := hm.len; omega
        subst this; rfl
      · intro h1
        have hk1 : 1 ≤ k := by have := hm.len; omega
        have hlen := hm.len
        have hP1 : Parts (L.take 1) := Parts.takes hm.pq 1 (by omega)
        have hc : Pth.cleanS (upL L 1) = (upL L 1, 0) := Pth.clean_join _ hP1.part hP1.len hP1.size
        have h10 : hasT M (upL L 1) = false := by rw [← exists_at hc]; exact hx
        unfold remS
        rw [hc]
        simp only
        rw [if_neg (by simp), if_neg (hm.pq.ne 0 (by omega))]
        obtain ⟨n, hn, _⟩ := mk_dirs hI hm.pq k (by omega) hf 1 (Nat.le_refl _) hk1
        rw [if_neg (by unfold hasT; rw [hn]; simp), mk_filter hI hm.pq hlen h10 hk1]
  · left
    unfold renameS
    rw [if_pos hp]
    exact ⟨hp, rfl⟩
/-- What the law asks of a copy. -/
theorem copies_pure {M : Tr} (hI : Inv M) (s t : ByteArray) :
    ¬ (copyS M s t).1 = 0 ∨ ∃ R N, copyS M s t = (0, R) ∧ Inv R ∧ existsS R s = true ∧ existsS R t = true ∧ remS R t = (0, N) ∧ existsS N s = true := by
  by_cases hp : planE M s t = 0
  · obtain ⟨p, q, Lp, L, k, hm, hs, ht, hpq, hf, hto⟩ := plan_zero hI hp
    have hE : copyS M s t = if roomC M p (lackN M L k) = true then (0, doneN (cpyN p q) (mkN M L k) (wkeys M p)) else (55, M) := by
      unfold copyS
      rw [if_neg (by rw [hp]; simp), hs, ht]
      simp only [hpq, hm.len]
      rfl
    rw [hE]
    cases hr : roomC M p (lackN M L k) with
    | false => left; simp
    | true =>
      right
      have hIR := inv_copied hm hf hto hr
      obtain ⟨n0, hn0⟩ := hm.pn
      have hpk := mem_wkeys hn0 (within_self p)
      have h1 : getA (doneN (cpyN p q) (mkN M L k) (wkeys M p)) p = some n0 := hm.cstays p n0 (by rw [hm.mkget (within_self p)]; exact hn0) fun y hy => hm.targ_no hy hpk
      have h2 := hm.cgoes p n0 hn0 (within_self p)
      rw [targ_top] at h2
      have hwp : Pth.withinS p q = false := hm.below_no hn0
      refine ⟨_, (doneN (cpyN p q) (mkN M L k) (wkeys M p)).filter fun e => !Pth.withinS e.1 q, by rw [if_pos rfl], hIR, ?_, ?_, ?_, ?_⟩
      · rw [exists_at hs]; unfold hasT; rw [h1]; rfl
      · rw [exists_at ht]; unfold hasT; rw [h2]; rfl
      · unfold remS
        rw [ht]
        simp only
        rw [if_neg (by simp), if_neg hm.qne, if_neg (by unfold hasT; rw [h2]; simp)]
      · rw [exists_at hs]
        unfold hasT
        rw [getA_filter _ (fun x => !Pth.withinS x q) p, hwp]
        simp [h1]
  · left
    unfold copyS
    rw [if_pos hp]
    exact hp
end Go.Proofs.YtichejodbohldaaGreatDoor
