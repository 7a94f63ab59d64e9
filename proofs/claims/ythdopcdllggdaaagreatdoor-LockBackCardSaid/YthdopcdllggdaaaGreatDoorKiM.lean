/- Pins in order by name: sorted whatever their order was (pure); pins that are made of numbers. -/
import Derived.Test.YthdopcdllggdaaaGreatDoorKdM
namespace Go.Proofs.YthdopcdllggdaaaGreatDoor
open Go.RowKit

theorem less_trans (a b c : List UInt8) (h1 : Op.bytesLess a b = true) (h2 : Op.bytesLess b c = true) : Op.bytesLess a c = true := by
  induction a generalizing b c with
  | nil =>
    cases b with
    | nil => simp [Op.bytesLess] at h1
    | cons y b =>
      cases c with
      | nil => simp [Op.bytesLess] at h2
      | cons z c => rfl
  | cons x a ih =>
    cases b with
    | nil => simp [Op.bytesLess] at h1
    | cons y b =>
      cases c with
      | nil => simp [Op.bytesLess] at h2
      | cons z c =>
        simp only [Op.bytesLess, Bool.or_eq_true, Bool.and_eq_true, decide_eq_true_eq, beq_iff_eq] at h1 h2 ⊢
        rcases h1 with h1 | ⟨rfl, h1⟩
        · rcases h2 with h2 | ⟨rfl, h2⟩
          · exact .inl (UInt8.lt_trans h1 h2)
          · exact .inl h1
        · rcases h2 with h2 | ⟨rfl, h2⟩
          · exact .inl h2
          · exact .inr ⟨rfl, ih b c h1 h2⟩
/-- x is not below y. -/
def GeP (x y : Pc) : Prop := lessP x y = false
theorem lessP_asym {x y : Pc} (h : lessP x y = true) : lessP y x = false := by
  have h1 := less_tri x.name.toList y.name.toList
  unfold lessP lessB at h ⊢
  rw [h] at h1
  cases h2 : Op.bytesLess y.name.toList x.name.toList with
  | false => rfl
  | true => rw [h2] at h1; cases h1
theorem ge_eq {x y : Pc} (h1 : lessP x y = false) (h2 : lessP y x = false) : x.name = y.name := by
  rcases less_ways x.name y.name with ⟨h, _⟩ | ⟨_, h⟩ | ⟨_, h⟩
  · rw [show lessB x.name y.name = lessP x y from rfl, h1] at h; cases h
  · rw [show Op.bytesLess y.name.toList x.name.toList = lessP y x from rfl, h2] at h; cases h
  · exact h
theorem ge_trans {x y z : Pc} (h1 : GeP x y) (h2 : GeP y z) : GeP x z := by
  unfold GeP at *
  cases h : lessP x z with
  | false => rfl
  | true =>
    cases h3 : lessP y x with
    | true =>
      have := less_trans _ _ _ h3 h
      rw [show Op.bytesLess y.name.toList z.name.toList = lessP y z from rfl, h2] at this
      cases this
    | false =>
      have e := ge_eq h1 h3
      unfold lessP at h h2
      rw [e, h2] at h
      cases h
theorem rins_pair (x : Pc) (R : List Pc) (h : R.Pairwise GeP) : (rins x R).Pairwise GeP := by
  induction R with
  | nil => simp [rins]
  | cons y r ih =>
    have hp := List.pairwise_cons.1 h
    unfold rins
    split
    · rename_i hl
      refine List.pairwise_cons.2 ⟨fun z hz => ?_, ih hp.2⟩
      have : ∀ r, z ∈ rins x r → z = x ∨ z ∈ r := by
        intro r
        induction r with
        | nil => intro h; exact .inl (by simpa [rins] using h)
        | cons w r ih2 =>
          intro h
          unfold rins at h
          split at h
          · rcases List.mem_cons.1 h with rfl | h
            · exact .inr (by simp)
            · exact (ih2 h).elim .inl fun h => .inr (by simp [h])
          · rcases List.mem_cons.1 h with rfl | h
            · exact .inl rfl
            · exact .inr h
      rcases this r hz with rfl | hz
      · exact lessP_asym hl
      · exact hp.1 z hz
    · rename_i hl
      have hl : GeP x y := by simpa [GeP] using hl
      refine List.pairwise_cons.2 ⟨fun z hz => ?_, h⟩
      rcases List.mem_cons.1 hz with rfl | hz
      · exact hl
      · exact ge_trans hl (hp.1 z hz)
theorem sortP_pair (L : List Pc) : (sortP L).Pairwise (fun x y => GeP y x) := by
  have : ∀ (R A : List Pc), A.Pairwise (fun x y => GeP y x) → (R.foldl insP A).Pairwise (fun x y => GeP y x) := by
    intro R
    induction R with
    | nil => intro A h; exact h
    | cons x R ih =>
      intro A h
      refine ih (insP A x) ?_
      unfold insP
      rw [List.pairwise_reverse]
      exact rins_pair x A.reverse (by rw [List.pairwise_reverse]; exact h)
  exact this L [] List.Pairwise.nil
/-- Pins of different names have one order. -/
theorem sort_same (L M : List Pc) (h : L.Perm M) (hi : ∀ x ∈ L, ∀ y ∈ L, x.name = y.name → x = y) : sortP L = sortP M := by
  refine List.Perm.eq_of_pairwise (le := fun x y => GeP y x) ?_ (sortP_pair L) (sortP_pair M) ((sortP_perm L).trans (h.trans (sortP_perm M).symm))
  intro a b ha hb h1 h2
  exact hi a ((sortP_mem L a).1 ha) b (h.mem_iff.2 ((sortP_mem M b).1 hb)) (ge_eq h2 h1)
theorem asc_of (L : List Pc) : L.Pairwise (fun a b => GeP b a ∧ a.name ≠ b.name) → ∀ ah, (∀ p ∈ L, lessB ah p.name = true) → Asc ah L := by
  induction L with
  | nil => intro _ _ _; trivial
  | cons p r ih =>
    intro hp ah ha
    have hp := List.pairwise_cons.1 hp
    refine ⟨ha p (by simp), ih hp.2 p.name fun q hq => ?_⟩
    obtain ⟨h1, h2⟩ := hp.1 q hq
    rcases less_ways p.name q.name with ⟨h, _⟩ | ⟨_, h⟩ | ⟨_, h⟩
    · exact h
    · rw [show Op.bytesLess q.name.toList p.name.toList = lessP q p from rfl, h1] at h; cases h
    · exact absurd h h2
theorem asc_sort (L : List Pc) (hn : (L.map (·.name)).Nodup) (hg : ∀ p ∈ L, okName p.name = true) : Asc ⟨#[]⟩ (sortP L) := by
  refine asc_of _ ?_ _ (fun p hp => less_empty p.name (okName_ne _ (hg p ((sortP_mem L p).1 hp))))
  have h1 := sortP_pair L
  have h2 : ((sortP L).map (·.name)).Nodup := ((sortP_perm L).map _).nodup_iff.2 hn
  have h3 : (sortP L).Pairwise (fun a b => a.name ≠ b.name) := by
    unfold List.Nodup at h2
    rw [List.pairwise_map] at h2
    exact h2
  exact List.Pairwise.and h1 h3
/-- A list turned by t. -/
theorem turned_perm (L : List Pc) (t : Nat) (n : Nat) (hn : L.length = n) (M : List Pc) (hM : M.length = n) (h : ∀ i, i < n → M[i]? = L[(i + t) % n]?) : M.Perm L := by
  by_cases h0 : n = 0
  · subst h0
    rw [List.eq_nil_of_length_eq_zero hn, List.eq_nil_of_length_eq_zero hM]
  have hr : t % n < n := Nat.mod_lt _ (by omega)
  have e : M = L.drop (t % n) ++ L.take (t % n) := by
    apply List.ext_getElem?
    intro i
    by_cases hi : i < n
    · rw [h i hi, Nat.add_mod, Nat.mod_eq_of_lt hi]
      by_cases hc : i + t % n < n
      · rw [Nat.mod_eq_of_lt hc, List.getElem?_append_left (by rw [List.length_drop]; omega), List.getElem?_drop, Nat.add_comm]
      · rw [Nat.mod_eq_sub_mod (by omega), Nat.mod_eq_of_lt (by omega), List.getElem?_append_right (by rw [List.length_drop]; omega), List.length_drop, hn, List.getElem?_take_of_lt (by omega)]
        congr 1
        omega
    · rw [List.getElem?_eq_none (by omega), List.getElem?_eq_none (by rw [List.length_append, List.length_drop, List.length_take]; omega)]
  rw [e]
  refine List.perm_append_comm.trans ?_
  rw [List.take_append_drop]
/-- A key that begins with a byte. -/
def keyN (n : Nat) : Array UInt8 := (Array.replicate 32 0).setIfInBounds 0 (UInt8.ofNat n)
theorem keyN_size (n : Nat) : (keyN n).size = 32 := by simp [keyN]
def nameN (c : UInt8) (n : Nat) : ByteArray := toB (c :: (decS (n : Int)).data.toList)
/-- A number's pin. -/
def pinN (n : Nat) : Pc := ⟨nameN 110 n, ⟨(n : Int), 0, 0, []⟩, none, 0, keyN n, keyN_size n⟩
theorem nameN_inj (c : UInt8) (n m : Nat) (hn : n ≤ 255) (hm : m ≤ 255) (h : nameN c n = nameN c m) : n = m := by
  have h1 := congrArg (fun s : ByteArray => s.data.toList) h
  unfold nameN at h1
  simp only [data_toB] at h1
  have h2 := (List.cons.inj h1).2
  have h3 : decS (n : Int) = decS (m : Int) := bytes_ext h2
  have a := (decS_ok (n : Int) (by omega) (by omega)).2
  have b := (decS_ok (m : Int) (by omega) (by omega)).2
  rw [h3, b] at a
  omega
theorem dec_short (n : Nat) (h : n ≤ 255) : (decS (n : Int)).size ≤ 3 := by
  have := dec_len 2 n (by omega)
  unfold decS
  rw [size_toB, Int.toNat_natCast]
  exact this
theorem nameN_ok (c : UInt8) (hc : lowB c = true) (n : Nat) (hn : n ≤ 255) : okName (nameN c n) = true := by
  have hs : (nameN c n).size = (decS (n : Int)).size + 1 := by unfold nameN; rw [size_toB, List.length_cons, data_len]
  have h3 := dec_short n hn
  unfold okName
  have h0 : byteAt (nameN c n) 0 = c := by unfold nameN; rw [byteAt_toB]; rfl
  rw [h0, hc, decide_eq_true (by omega : 0 < (nameN c n).size), decide_eq_true (by omega : (nameN c n).size ≤ 32)]
  simp only [Bool.true_and]
  have : ∀ k, k ≤ (nameN c n).size → allTo nameB (nameN c n) k = true := by
    intro k
    induction k with
    | zero => intro _; rfl
    | succ k ih =>
      intro hk
      rw [allTo, ih (by omega), Bool.true_and]
      cases k with
      | zero => rw [h0]; exact nameB_low c hc
      | succ k =>
        have h1 : byteAt (nameN c n) (k + 1) = byteAt (decS (n : Int)) k := by
          unfold nameN byteAt
          rw [data_toB, List.getD_cons_succ]
        rw [h1]
        have hd := (dec_in (n : Int).toNat).1
        have hl : (Lib.decDigits (n : Int).toNat).length = (decS (n : Int)).size := by unfold decS; rw [size_toB]
        rw [hl] at hd
        have h2 := allTo_at isDig _ _ hd k (by omega)
        have h4 : isDig (byteAt (decS (n : Int)) k) = true := h2
        simp only [isDig, decide_eq_true_eq] at h4
        simp only [nameB, decide_eq_true_eq]
        omega
  exact this _ (Nat.le_refl _)
theorem good_pinN (n : Nat) (h : n ≤ 255) : Good (pinN n) := good_nums (pinN n) (nameN_ok 110 (by decide) n h) (n : Int) 0 0 rfl (by omega) (by omega) (by omega)
theorem line_len (p : Pc) (h1 : p.name.size ≤ 32) (h2 : (textS p.v).size ≤ 100) : (pinL p).length ≤ 200 := by
  have hk : (Sha.hexL p.key.toList).length = 64 := by rw [Sha.hexL_len, Array.length_toList, p.hk]
  have e1 := data_len p.name
  have e2 := data_len (textS p.v)
  rw [pinL_line]
  unfold lineW
  simp only [List.length_append, List.length_cons, List.length_nil, hk]
  omega
theorem row_len (L : List Pc) (h : ∀ p ∈ L, (pinL p).length ≤ 200) : (rowT L).length ≤ 7 + 200 * L.length := by
  unfold rowT
  have : (L.flatMap pinL).length ≤ 200 * L.length := by
    induction L with
    | nil => simp
    | cons p r ih =>
      rw [List.flatMap_cons, List.length_append, List.length_cons]
      have h1 := h p (by simp)
      have h2 := ih (fun q hq => h q (by simp [hq]))
      omega
  rw [List.length_append]
  show 7 + _ ≤ _
  omega
theorem text_short (n : Nat) (h : n ≤ 255) : (textS (pinN n).v).size ≤ 100 := by
  have e : textS (pinN n).v = numsS (n : Int) 0 0 := by rw [numsS_eq]; rfl
  have h0 : (decS 0).size ≤ 3 := dec_short 0 (by omega)
  have h1 := dec_short n h
  have hd : dotB.size = 1 := rfl
  rw [e, numsS_eq]
  simp only [ByteArray.size_append]
  omega
/-- What the list of numbers' pins is read as. -/
theorem lock_nums (L : List Nat) (h : ∀ n ∈ L, n ≤ 255) (hd : L.Nodup) (hl : L.length ≤ 10) : lockS (toB (lockT (L.map pinN))) = .inr ((sortP (L.map pinN)).map mp) := by
  have hmem : ∀ p ∈ sortP (L.map pinN), ∃ n ∈ L, pinN n = p := fun p hp => List.mem_map.1 ((sortP_mem _ p).1 hp)
  unfold lockT
  refine lock_back _ (fun p hp => ?_) (asc_sort _ ?_ ?_) (by rw [sortP_len, List.length_map]; omega) ?_
  · obtain ⟨n, hn, rfl⟩ := hmem p hp
    exact good_pinN n (h n hn)
  · rw [List.map_map]
    unfold List.Nodup at hd ⊢
    rw [List.pairwise_map]
    refine List.Pairwise.imp_of_mem ?_ hd
    intro a b ha hb hab e
    exact hab (nameN_inj 110 a b (h a ha) (h b hb) e)
  · intro p hp
    obtain ⟨n, hn, rfl⟩ := List.mem_map.1 hp
    exact (good_pinN n (h n hn)).name
  · have := row_len (sortP (L.map pinN)) (fun p hp => by
      obtain ⟨n, hn, rfl⟩ := hmem p hp
      refine line_len _ ?_ (text_short n (h n hn))
      have hs : (nameN 110 n).size = (decS (n : Int)).size + 1 := by unfold nameN; rw [size_toB, List.length_cons, data_len]
      have h3 := dec_short n (h n hn)
      show (nameN 110 n).size ≤ 32
      omega)
    rw [sortP_len, List.length_map] at this
    omega
/-- A number put behind, once. -/
def addN (L : List Nat) (n : Nat) : List Nat := if n ∈ L then L else L ++ [n]
theorem addN_fold (R : List Nat) : ∀ (L : List Nat), L.Nodup → (R.foldl addN L).Nodup ∧ (R.foldl addN L).length ≤ L.length + R.length ∧ ∀ n ∈ R.foldl addN L, n ∈ L ∨ n ∈ R := by
  induction R with
  | nil => intro L h; exact ⟨h, by simp, fun n hn => .inl hn⟩
  | cons x R ih =>
    intro L h
    have h2 : (addN L x).Nodup := by
      unfold addN
      split
      · exact h
      · rename_i hx
        rw [List.nodup_append]
        exact ⟨h, by simp, fun a ha b hb => by
          rw [List.mem_singleton.1 hb]
          exact fun e => hx (e ▸ ha)⟩
    obtain ⟨a, b, c⟩ := ih (addN L x) h2
    have hl : (addN L x).length ≤ L.length + 1 := by
      unfold addN
      split
      · omega
      · simp
    refine ⟨a, by rw [List.foldl_cons, List.length_cons]; omega, fun n hn => ?_⟩
    rcases c n hn with h | h
    · unfold addN at h
      split at h
      · exact .inl h
      · rcases List.mem_append.1 h with h | h
        · exact .inl h
        · exact .inr (by rw [List.mem_singleton.1 h]; simp)
    · exact .inr (by simp [h])
end Go.Proofs.YthdopcdllggdaaaGreatDoor
