/- Of: what it comes to (pure); lists of files that lie below. -/
import Derived.Test.YtichejodbohldaaGreatDoorOmM
namespace Go.Proofs.YtichejodbohldaaGreatDoor
open Go.RowKit Go.Maps Go.Lib
set_option maxRecDepth 1000000
/-- What one file makes of a tree. -/
def addS (M : Tr) (s : ByteArray) (n : Nd) : Int × Tr := if n.dir = true then mkdirS M s else putS M s fun _ => n.b
/-- What Of comes to. -/
def ofS : Tr → List ByteArray → Tr → Int × Tr
  | [], _, M => (0, M)
  | (s, n) :: r, seen, M =>
    if ¬ (Pth.cleanS s).2 = 0 then ((Pth.cleanS s).2, M) else
    if memB seen (Pth.cleanS s).1 = true ∨ (n.dir = true ∧ dirT M (Pth.cleanS s).1 = true) then (53, M) else
    if ¬ (addS M s n).1 = 0 then addS M s n else ofS r (seen ++ [(Pth.cleanS s).1]) (addS M s n).2
theorem inv_add {M : Tr} (hI : Inv M) (s : ByteArray) (n : Nd) : Inv (addS M s n).2 := by
  unfold addS
  split
  · exact inv_mkdir hI s
  · exact inv_puts hI s _
theorem inv_of : ∀ (l : Tr) (seen : List ByteArray) {M : Tr}, Inv M → Inv (ofS l seen M).2
  | [], _, _, h => h
  | (s, n) :: r, seen, M, h => by
    unfold ofS
    split
    · exact h
    · split
      · exact h
      · split
        · exact inv_add h s n
        · exact inv_of r _ (inv_add h s n)
theorem clean_again {s p : ByteArray} (h : Pth.cleanS s = (p, 0)) : Pth.cleanS p = (p, 0) := by
  obtain ⟨L, e, hp, hl, hs⟩ := Pth.cleanS_zero s p h
  rw [e] at hs ⊢
  exact Pth.clean_join L hp hl hs
theorem mkdir_clean {M : Tr} {s p : ByteArray} (h : Pth.cleanS s = (p, 0)) : mkdirS M p = mkdirS M s := by
  unfold mkdirS
  rw [clean_again h, h]
theorem put_clean {M : Tr} {s p : ByteArray} (h : Pth.cleanS s = (p, 0)) (f : List UInt8 → List UInt8) : putS M p f = putS M s f := by
  have e : fileS M p = fileS M s := by unfold fileS; rw [clean_again h, h]
  unfold putS
  rw [e]
/-! ### A tree's own list is read as it -/
theorem take_asc {M : Tr} (h : AscA M) (k : Nat) : AscA (M.take k) := List.Pairwise.sublist (List.take_sublist k M) h
theorem take_low {M : Tr} (h : AscA M) {k : Nat} {p q : ByteArray} {n : Nd} {x : Nd} (hk : M[k]? = some (p, n)) (hq : getA M q = some x) (hl : lessA q p = true) : getA (M.take k) q = some x := by
  obtain ⟨i, hi, he⟩ := List.getElem_of_mem (mem_get hq)
  have hkl := List.getElem?_eq_some_iff.1 hk
  obtain ⟨hk1, hk2⟩ := hkl
  have hik : i < k := by
    refine Nat.lt_of_not_le fun hle => ?_
    by_cases e : i = k
    · subst e
      rw [hk2] at he
      rw [← (Prod.mk.inj he).1, lessA_self] at hl; cases hl
    · have := List.pairwise_iff_getElem.1 h k i hk1 hi (by omega)
      rw [hk2, he] at this
      rw [lessA_asymm this] at hl; cases hl
  refine (take_asc h k).get (List.mem_iff_getElem.2 ⟨i, by rw [List.length_take]; omega, ?_⟩)
  rw [List.getElem_take, he]
theorem take_none {M : Tr} (h : AscA M) {k : Nat} {p : ByteArray} {n : Nd} (hk : M[k]? = some (p, n)) : getA (M.take k) p = none := by
  refine get_of_none fun e he e2 => ?_
  obtain ⟨i, hi, e3⟩ := List.getElem_of_mem he
  rw [List.length_take] at hi
  rw [List.getElem_take] at e3
  obtain ⟨hk1, hk2⟩ := List.getElem?_eq_some_iff.1 hk
  have := List.pairwise_iff_getElem.1 h i k (by omega) hk1 (by omega)
  rw [hk2, e3, e2, lessA_self] at this; cases this
theorem put_last {M : Tr} : ∀ (N : Tr) (p : ByteArray) (x : Nd), (∀ e ∈ N, lessA e.1 p = true) → putA N p x = N ++ [(p, x)]
  | [], _, _, _ => rfl
  | (q, y) :: r, p, x, h => by
    have hq := h (q, y) List.mem_cons_self
    dsimp only at hq
    rw [putA_cons, if_neg (lessA_ne hq), if_neg (by rw [lessA_asymm hq]; simp), put_last (M := M) r p x fun e he => h e (List.mem_cons_of_mem _ he)]
    rfl
theorem take_put {M : Tr} (h : AscA M) {k : Nat} {p : ByteArray} {n : Nd} (hk : M[k]? = some (p, n)) : putA (M.take k) p n = M.take (k + 1) := by
  rw [put_last (M := M) (M.take k) p n fun e he => ?_, take_snocL M k (p, n) hk]
  obtain ⟨i, hi, e3⟩ := List.getElem_of_mem he
  rw [List.length_take] at hi
  rw [List.getElem_take] at e3
  obtain ⟨hk1, hk2⟩ := List.getElem?_eq_some_iff.1 hk
  have := List.pairwise_iff_getElem.1 h i k (by omega) hk1 (by omega)
  rw [hk2, e3] at this; exact this
theorem up_less {L : List ByteArray} (hL : Parts L) {i j : Nat} (h0 : 0 < i) (h : i < j) (hj : j ≤ L.length) : lessA (upL L i) (upL L j) = true := by
  obtain ⟨z, hz⟩ := upL_join (L := L) i j h0 h hj
  rw [hz, lessA_lt, decide_eq_true_eq]
  rw [cat_data, cat_data, List.append_assoc]
  have key : ∀ a b : List UInt8, b ≠ [] → a < a ++ b := by
    intro a b hb
    induction a with
    | nil => cases b with
      | nil => exact absurd rfl hb
      | cons x r => simp
    | cons x r ih => simpa using ih
  refine key _ _ ?_
  have e47 : sl.data.toList = [47] := rfl
  rw [e47]
  simp
theorem size_takeT (M : Tr) (k : Nat) : sizeT (M.take k) ≤ sizeT M := by
  have h := size_app (M.take k) (M.drop k)
  rw [List.take_append_drop] at h
  omega
theorem inv_take {M : Tr} (hI : Inv M) (k : Nat) : Inv (M.take k) := by
  have hsz : sizeT (M.take k) ≤ sizeT M := size_takeT M k
  refine ⟨take_asc hI.asc k, by rw [List.length_take]; have := hI.len; omega, Nat.le_trans hsz hI.size, fun e he => hI.key e (List.mem_of_mem_take he), fun L i j hL hij hj hi hs => ?_⟩
  obtain ⟨n, hn⟩ := Option.isSome_iff_exists.1 hs
  have hm := mem_get hn
  obtain ⟨t, ht, e⟩ := List.getElem_of_mem hm
  rw [List.length_take] at ht
  rw [List.getElem_take] at e
  have hmM := hI.asc.get (List.mem_of_mem_take hm)
  obtain ⟨n2, hn2, hd2⟩ := hI.up L i j hL hij hj hi (by rw [hmM]; rfl)
  have hlow := take_low hI.asc (k := t) (p := upL L j) (n := n) (by rw [List.getElem?_eq_getElem (by omega), e]) hn2 (up_less hL hi hij hj)
  refine ⟨n2, ?_, hd2⟩
  have hm2 := mem_get hlow
  have : M.take t = (M.take k).take t := by rw [List.take_take, Nat.min_eq_left (by omega)]
  rw [this] at hm2
  exact (take_asc hI.asc k).get (List.mem_of_mem_take hm2)
theorem add_next {M : Tr} (hI : Inv M) {k : Nat} {p : ByteArray} {n : Nd} (hk : M[k]? = some (p, n)) : Pth.cleanS p = (p, 0) ∧ dirT (M.take k) p = false ∧ addS (M.take k) p n = (0, M.take (k + 1)) := by
  have hg := hI.asc.get (List.mem_of_getElem? hk)
  have hc := clean_key hI hg
  obtain ⟨L, t, e, hL, ht⟩ := hI.key_of hg
  have hup : upL L (t + 1) = p := by rw [← ht, upL_all, e]
  have h0 : ¬ p = E0 := by rw [← hup]; exact hL.ne t (by omega)
  have hn := take_none hI.asc hk
  have hd : dirT (M.take k) p = false := by unfold dirT; rw [hn, decide_eq_false h0]; rfl
  have hT := inv_take hI k
  have hkl := (List.getElem?_eq_some_iff.1 hk).1
  have hahead : ∀ i, 1 ≤ i → i ≤ t → ∃ x, getA (M.take k) (upL L i) = some x ∧ x.dir = true := fun i h1 h2 => by
    obtain ⟨x, hx, hxd⟩ := hI.up L i (t + 1) hL (by omega) (by omega) h1 (by rw [hup, hg]; rfl)
    exact ⟨x, take_low hI.asc hk hx (by rw [← hup]; exact up_less hL h1 (by omega) (by omega)), hxd⟩
  have hfN : fileN (M.take k) L (t + 1) = false := fileN_none _ fun i hi => by
    by_cases h0 : i = 0
    · subst h0; rw [upL_zero]; unfold fileT dirT; simp
    · obtain ⟨x, hx, hxd⟩ := hahead i (by omega) (by omega)
      unfold fileT dirT; rw [hx]; simp [hxd]
  have hlack : lackN (M.take k) L t = 0 ∧ mkN (M.take k) L t = M.take k := by
    cases t with
    | zero => exact ⟨rfl, rfl⟩
    | succ u =>
      obtain ⟨x, hx, _⟩ := hahead (u + 1) (by omega) (Nat.le_refl _)
      have hh : hasT (M.take k) (upL L (u + 1)) = true := by unfold hasT; rw [hx]; rfl
      exact ⟨by rw [lackN, if_pos hh], by rw [mkN, if_pos hh]⟩
  have hno : hasT (M.take k) p = false := by unfold hasT; rw [hn, decide_eq_false h0]; rfl
  have hkey := hI.key (p, n) (List.mem_of_getElem? hk)
  have hlen : (M.take k).length = k := by rw [List.length_take]; omega
  have h500 := hI.len
  have hnext : sizeT (M.take (k + 1)) ≤ sizeT M := size_takeT M (k + 1)
  have hsnoc : sizeT (M.take (k + 1)) = sizeT (M.take k) + n.b.length := by
    rw [take_snocL M k (p, n) hk, size_app]; rfl
  have hs1 := hI.size
  refine ⟨hc, hd, ?_⟩
  unfold addS
  cases hnd : n.dir with
  | true =>
    have hnb : n = dirN := by
      obtain ⟨d, b⟩ := n
      dsimp only at hnd
      have := hkey.2.2
      dsimp only at this
      rw [hnd] at *
      rw [this rfl]; rfl
    rw [if_pos rfl, mkdirS_at (by rw [← e]; exact hc) hL, ← e]
    have hft : fileT (M.take k) p = false := by unfold fileT; rw [hno]; rfl
    have hah : aheadT (M.take k) L = false := by unfold aheadT; rw [ht]; exact hfN
    rw [if_neg (by rw [hd]; simp), if_neg (by rw [hft, hah]; simp), ht]
    have hl1 : lackN (M.take k) L (t + 1) = 1 := by rw [lackN, hup, if_neg (by rw [hno]; simp), hlack.1]
    have hm1 : mkN (M.take k) L (t + 1) = putA (M.take k) p dirN := by
      refine ascA_ext (mkN_asc L _ _ hT.asc) (hT.asc.put _ _) fun x => ?_
      rw [getA_put]
      by_cases hx : p = x
      · rw [if_pos hx, ← hx, ← hup]
        exact mk_new hL (t + 1) _ (by omega) (t + 1) (by rw [hl1]; omega) (Nat.le_refl _)
      · rw [if_neg hx]
        refine mk_old hL x (t + 1) _ (by omega) fun i h1 h2 e3 => hx ?_
        rw [hl1] at h1
        rw [← hup, show t + 1 = i by omega, e3]
    rw [hl1, if_pos (by omega), hm1, ← hnb, take_put hI.asc hk]
  | false =>
    rw [if_neg (by simp)]
    have hah : aheadT (M.take k) L = false := by unfold aheadT; rw [ht]; exact hfN
    have hf : fileS (M.take k) p = (upL L (t + 1), 0) := by
      rw [fileS_at (M.take k) p L (by rw [← e]; exact hc) hL, ← e, hd, hah, hup]; simp
    have hfit : fitsT (M.take k) L t n.b.length = true := by
      unfold fitsT moreT oldT
      rw [hup, hno, hn, hlack.1, decide_eq_true hkey.2.1]
      simp only [Bool.false_eq_true, if_false, Option.map_none, Option.getD_none, Bool.true_and, Bool.and_eq_true, decide_eq_true_eq]
      exact ⟨by omega, by omega⟩
    rw [putS_at hf hL ht, if_pos hfit, hlack.2, hup]
    have hnb : (⟨false, n.b⟩ : Nd) = n := by rw [← hnd]
    rw [hnb, take_put hI.asc hk]
theorem of_own {M : Tr} (hI : Inv M) : ∀ (d k : Nat) (seen : List ByteArray), k + d = M.length → (∀ p, memB seen p = true → ∃ i n, i < k ∧ M[i]? = some (p, n)) → ofS (M.drop k) seen (M.take k) = (0, M)
  | 0, k, seen, hk, _ => by
    rw [List.drop_eq_nil_of_le (by omega), List.take_of_length_le (by omega)]; rfl
  | d + 1, k, seen, hk, hs => by
    have hkl : k < M.length := by omega
    obtain ⟨p, n⟩ : ByteArray × Nd := M[k]
    obtain ⟨⟨p, n⟩, hx⟩ : ∃ x, M[k]? = some x := ⟨M[k], List.getElem?_eq_getElem hkl⟩
    obtain ⟨hc, hd, ha⟩ := add_next hI hx
    have hdrop : M.drop k = (p, n) :: M.drop (k + 1) := by
      rw [List.drop_eq_getElem_cons hkl]
      have := (List.getElem?_eq_some_iff.1 hx).2
      rw [this]
    rw [hdrop]
    unfold ofS
    rw [hc]
    simp only
    have hns : memB seen p = false := by
      cases h : memB seen p with
      | false => rfl
      | true =>
        obtain ⟨i, x, hi, hix⟩ := hs p h
        have := take_none hI.asc hx
        have hm : (p, x) ∈ M.take k := List.mem_iff_getElem?.2 ⟨i, by rw [List.getElem?_take_of_lt hi]; exact hix⟩
        rw [(take_asc hI.asc k).get hm] at this; cases this
    rw [if_neg (by simp), if_neg (by rw [hns, hd]; simp), ha, if_neg (by simp)]
    refine of_own hI d (k + 1) (seen ++ [p]) (by omega) fun q hq => ?_
    unfold memB at hq
    rw [List.any_append, Bool.or_eq_true] at hq
    rcases hq with hq | hq
    · obtain ⟨i, x, hi, hix⟩ := hs q hq
      exact ⟨i, x, by omega, hix⟩
    · have : p = q := by simpa using hq
      subst this
      exact ⟨k, n, by omega, hx⟩
theorem of_files {M : Tr} (hI : Inv M) : ofS M [] [] = (0, M) := by
  have := of_own hI M.length 0 [] (by omega) fun p hp => by cases hp
  simpa using this
/-! ### Files that lie below -/
/-- Files in blocks below B. -/
def FilesB (w : World) (B : Nat) (a : Option Addr) (Y : As Gn) : Prop :=
  ∃ b o : Nat, b < B ∧ (0 < Y.length → a = some ⟨b, o, none⟩) ∧ ∀ j e, Y[j]? = some e → (w.cell? ⟨b, o + j * 3, none⟩ = some (.string e.1) ∧ w.cell? ⟨b, o + j * 3 + 1, none⟩ = some (.bool e.2.nd.dir) ∧ w.cell? ⟨b, o + j * 3 + 2, none⟩ = some e.2.v) ∧ e.1.size ≤ maxLen ∧ (∃ a c, e.2.v = .slice a e.2.nd.b.length c) ∧ e.2.nd.b.length ≤ maxLen ∧ Part w B e.2.v e.2.nd.b
theorem FilesB.since {w w' : World} {B : Nat} {a : Option Addr} {Y : As Gn} (h : FilesB w B a Y) (hk : Since B w w') : FilesB w' B a Y := by
  obtain ⟨b, o, h1, h2, h3⟩ := h
  refine ⟨b, o, h1, h2, fun j e hj => ?_⟩
  obtain ⟨⟨c1, c2, c3⟩, h5, h6, h7, h8⟩ := h3 j e hj
  exact ⟨⟨hk.cell c1 h1, hk.cell c2 h1, hk.cell c3 h1⟩, h5, h6, h7, h8.keeps hk fun k e => e⟩
/-- What a tree's Files tells, lies below. -/
theorem FR.below {w : World} {base top n c : Nat} {a : Option Addr} {Y : As Gn} (h : FR w base top (.slice a n c) Y) (hn : Y.length = n) (hw : 0 < w.heap.size) (hk : ∀ e ∈ Y, e.1.size ≤ maxLen) (hb : ∀ e ∈ Y, e.2.nd.b.length ≤ maxLen) : FilesB w w.heap.size a Y := by
  by_cases h0 : n = 0
  · refine ⟨0, 0, hw, fun h => by omega, fun j e hj => ?_⟩
    have := (List.getElem?_eq_some_iff.1 hj).1; omega
  · obtain ⟨b, cur, ha, _, h3⟩ := h.own.at (by omega)
    refine ⟨b, 0, bk_size h3, fun _ => ha, fun j e hj => ?_⟩
    obtain ⟨p, g⟩ := e
    obtain ⟨b2, x, y, hb2, hv, c1, c2, c3⟩ := h.at hn hw j p g hj
    have hm := List.mem_of_getElem? hj
    rw [ha] at hb2
    have : b = b2 := by
      have := Option.some.inj hb2
      injection this
    subst this
    rw [Nat.zero_add]
    exact ⟨⟨c1, c2, by show _ = some g.v; rw [hv]; exact c3⟩, hk _ hm, ⟨x, y, hv⟩, hb _ hm, (h.bytes _ hm).part hw⟩
end Go.Proofs.YtichejodbohldaaGreatDoor
