/- Clean paths: what the way of a clean path comes to; how parts and what stands between slashes belong together. Laws on lists, no program. -/
import Derived.Test.YtghfnmnjomdacaaDoorR
namespace Go.Proofs.YtghfnmnjomdacaaDoor
open Go.RowKit

/-- Bytes with slashes between. -/
def jl (L : List (List UInt8)) : List UInt8 := Lib.join L [47]
theorem jl_one (x : List UInt8) : jl [x] = x := Lib.join_one x _
theorem jl_cons (x y : List UInt8) (r : List (List UInt8)) : jl (x :: y :: r) = x ++ 47 :: jl (y :: r) := by
  unfold jl
  rw [Lib.join_cons, Lib.join_cons]
  simp [Lib.joinTail]
theorem joinB_jl (L : List ByteArray) : joinB L = toB (jl (L.map (·.data.toList))) := rfl
theorem joinB_data (L : List ByteArray) : (joinB L).data.toList = jl (L.map (·.data.toList)) := by
  rw [joinB_jl]; simp [toB]
theorem jl_cut (l : List UInt8) : jl (cutL l) = l := by
  induction l with
  | nil => rfl
  | cons c r ih =>
    unfold cutL
    cases h : cutL r with
    | nil => exact absurd h (cutL_ne r)
    | cons x t =>
      rw [h] at ih
      by_cases hc : c = 47
      · rw [if_pos hc, jl_cons, ih, hc]; rfl
      · rw [if_neg hc]
        show jl ((c :: x) :: t) = _
        cases t with
        | nil => rw [jl_one] at ih ⊢; rw [ih]
        | cons y t => rw [jl_cons] at ih ⊢; rw [← ih]; rfl
theorem map_data_toB (L : List (List UInt8)) : (L.map toB).map (·.data.toList) = L := by
  rw [List.map_map]
  have h3 : ((fun x : ByteArray => x.data.toList) ∘ toB) = id := by
    funext l
    simp [toB]
  rw [h3, List.map_id]
theorem joinB_pieces (s : ByteArray) : joinB (pieces s) = s := by
  rw [pieces_cut _ s (Nat.le_refl _), joinB_jl, map_data_toB, jl_cut, toB_data]
theorem cut_jl (L : List (List UInt8)) (h0 : L ≠ []) (h : ∀ x ∈ L, ∀ c ∈ x, c ≠ 47) : cutL (jl L) = L := by
  induction L with
  | nil => exact absurd rfl h0
  | cons x t ih =>
    cases t with
    | nil => rw [jl_one, cutL_plain _ (h x (by simp))]
    | cons y t =>
      rw [jl_cons, cutL_at _ _ (h x (by simp)), ih (by simp) fun z hz => h z (by simp [hz])]
/-- No slash in it. -/
def NS (p : ByteArray) : Prop := ∀ c ∈ p.data.toList, c ≠ 47
theorem pieces_join (L : List ByteArray) (h0 : L ≠ []) (h : ∀ p ∈ L, NS p) : pieces (joinB L) = L := by
  refine pieces_of_cut _ _ ?_
  rw [joinB_data]
  refine cut_jl _ (by simpa using h0) ?_
  intro x hx
  obtain ⟨p, hp, rfl⟩ := List.mem_map.1 hx
  exact h p hp
theorem cutL_ns (l : List UInt8) : ∀ x ∈ cutL l, ∀ c ∈ x, c ≠ 47 := by
  induction l with
  | nil => intro x hx; simp [cutL] at hx; subst hx; simp
  | cons c r ih =>
    unfold cutL
    split
    · intro x hx
      rcases List.mem_cons.1 hx with rfl | hx
      · simp
      · exact ih x hx
    · rename_i hc
      cases h : cutL r with
      | nil => exact absurd h (cutL_ne r)
      | cons y t =>
        rw [h] at ih
        intro x hx
        rcases List.mem_cons.1 hx with rfl | hx
        · intro d hd
          rcases List.mem_cons.1 hd with rfl | hd
          · exact hc
          · exact ih y (by simp) d hd
        · exact ih x (by simp [hx])
theorem pieces_ns (s : ByteArray) : ∀ p ∈ pieces s, NS p := by
  intro p hp
  rw [pieces_cut _ s (Nat.le_refl _)] at hp
  obtain ⟨x, hx, rfl⟩ := List.mem_map.1 hp
  have := cutL_ns _ x hx
  unfold NS
  simpa [toB] using this
theorem pieces_ne (s : ByteArray) : pieces s ≠ [] := by
  intro h
  have := pieces_len s
  rw [h] at this
  simp at this
theorem joinB_size (L : List ByteArray) (h : L ≠ []) : (joinB L).size + 1 = sumS L := by
  cases L with
  | nil => exact absurd rfl h
  | cons y r =>
    have h : ∀ (r : List ByteArray), (Lib.joinTail slash.data.toList (r.map (·.data.toList))).length = sumS r := by
      intro r
      induction r with
      | nil => rfl
      | cons z r ih =>
        simp only [Lib.joinTail, List.map_cons, List.flatten_cons, List.length_append, sumS] at ih ⊢
        rw [ih]; simp [slash]; omega
    show (Lib.join _ _).toArray.size + 1 = _
    rw [List.map_cons, Lib.join_cons, List.size_toArray, List.length_append, h]
    simp [sumS]; omega
theorem sumS_pieces (s : ByteArray) : sumS (pieces s) = s.size + 1 := by
  rw [← joinB_size _ (pieces_ne s), joinB_pieces]
theorem sumS_app (L M : List ByteArray) : sumS (L ++ M) = sumS L + sumS M := by
  induction L with
  | nil => simp [sumS]
  | cons x r ih => simp only [List.cons_append, sumS, ih]; omega

/-- A part of a clean path. -/
structure Part (p : ByteArray) : Prop where
  some : ¬ p = ⟨#[]⟩
  one : ¬ p = dot
  two : ¬ p = dots
  ok : okPart p = true
  ns : NS p
theorem walkL_root (root : List ByteArray) : ∀ (ps M res : List ByteArray), (∀ p ∈ M, Part p) → (∀ p ∈ ps, NS p) → walkL root.length (root ++ M) ps = (0, res) → ∃ M', res = root ++ M' ∧ (∀ p ∈ M', Part p) ∧ sumS res ≤ sumS (root ++ M) + sumS ps := by
  intro ps
  induction ps with
  | nil =>
    intro M res hM _ h
    refine ⟨M, ?_, hM, ?_⟩
    · exact (congrArg Prod.snd h).symm
    · have e : root ++ M = res := congrArg Prod.snd h
      rw [e]; simp [sumS]
  | cons p ps ih =>
    intro M res hM hps h
    have hp := hps p (by simp)
    have hps' : ∀ q ∈ ps, NS q := fun q hq => hps q (by simp [hq])
    by_cases h1 : p = ⟨#[]⟩ ∨ p = dot
    · rw [walkL_none _ _ _ _ h1] at h
      obtain ⟨M', a, b, c⟩ := ih M res hM hps' h
      exact ⟨M', a, b, by simp only [sumS]; omega⟩
    · by_cases h2 : p = dots
      · subst h2
        by_cases h3 : (root ++ M).length = root.length
        · rw [walkL_out _ _ _ h3] at h
          exact absurd (congrArg Prod.fst h) (by simp)
        · rw [walkL_up _ _ _ h3] at h
          have hne : M ≠ [] := by
            intro e; apply h3; rw [e]; simp
          rw [List.dropLast_append_of_ne_nil hne] at h
          obtain ⟨M', a, b, c⟩ := ih M.dropLast res (fun q hq => hM q (List.dropLast_subset _ hq)) hps' h
          refine ⟨M', a, b, ?_⟩
          have := sumS_drop M
          rw [sumS_app] at c ⊢
          simp only [sumS]; omega
      · have b1 : ¬ p = ⟨#[]⟩ := fun e => h1 (.inl e)
        have b2 : ¬ p = dot := fun e => h1 (.inr e)
        by_cases hg : okPart p = true
        · rw [walkL_good _ _ _ _ b1 b2 h2 hg, List.append_assoc] at h
          obtain ⟨M', a, b, c⟩ := ih (M ++ [p]) res (fun q hq => by
            rcases List.mem_append.1 hq with hq | hq
            · exact hM q hq
            · rw [List.mem_singleton.1 hq]; exact ⟨b1, b2, h2, hg, hp⟩) hps' h
          refine ⟨M', a, b, ?_⟩
          rw [← List.append_assoc, sumS_snoc] at c
          simp only [sumS]; omega
        · rw [walkL_bad _ _ _ _ b1 b2 h2 (by simpa using hg)] at h
          exact absurd (congrArg Prod.fst h) (by simp)
theorem walkL_parts (nb : Nat) : ∀ (ps out : List ByteArray), (∀ p ∈ ps, Part p) → walkL nb out ps = (0, out ++ ps) := by
  intro ps
  induction ps with
  | nil => intro out _; rw [List.append_nil]; rfl
  | cons p ps ih =>
    intro out h
    have hp := h p (by simp)
    rw [walkL_good _ _ _ _ hp.some hp.one hp.two hp.ok, ih _ fun q hq => h q (by simp [hq]), List.append_assoc]; rfl
/-- What a walk that goes well comes to. -/
theorem walkS_zero (root : List ByteArray) (s p : ByteArray) (h : walkS root s = (p, 0)) : ∃ M, p = joinB (root ++ M) ∧ (∀ q ∈ M, Part q) ∧ (root ++ M).length ≤ 12 ∧ sumS (root ++ M) ≤ sumS root + s.size + 1 := by
  unfold walkS at h
  split at h
  · exact absurd (congrArg Prod.snd h) (by simp)
  · split at h
    · rename_i h1 h2
      exact absurd (congrArg Prod.snd h) h2
    · split at h
      · exact absurd (congrArg Prod.snd h) (by simp)
      · rename_i h1 h2 h3
        have e : walkL root.length root (pieces s) = (0, (walkL root.length root (pieces s)).2) := Prod.ext (by simpa using h2) rfl
        have e2 := e
        conv at e2 => lhs; arg 2; rw [← List.append_nil root]
        obtain ⟨M, a, b, c⟩ := walkL_root root (pieces s) [] _ (by simp) (pieces_ns s) e2
        rw [List.append_nil, sumS_pieces, a] at c
        rw [a] at h3 h
        exact ⟨M, (congrArg Prod.fst h).symm, b, by omega, by omega⟩
theorem Part.pos {p : ByteArray} (h : Part p) : 0 < p.size := by
  rcases Nat.eq_zero_or_pos p.size with h0 | h0
  · exact absurd (ByteArray.size_eq_zero_iff.1 h0) h.some
  · exact h0
theorem joinB_head (p : ByteArray) (L : List ByteArray) (h : Part p) : Lib.hasPrefix (joinB (p :: L)).data.toList slash.data.toList = false := by
  have hp := h.pos
  have hl : p.data.toList.length = p.size := by simp
  rw [joinB_data]
  unfold jl
  rw [List.map_cons, Lib.join_cons]
  cases hd : p.data.toList with
  | nil => rw [hd] at hl; simp at hl; omega
  | cons c r =>
    have hc := h.ns c (by rw [hd]; simp)
    simp [Lib.hasPrefix, slash, List.isPrefixOf]
    exact fun e => hc e.symm
/-- A clean path is clean. -/
theorem clean_join (L : List ByteArray) (h : ∀ p ∈ L, Part p) (hl : L.length ≤ 12) (hs : (joinB L).size ≤ 200) : cleanS (joinB L) = (joinB L, 0) := by
  cases L with
  | nil => decide +kernel
  | cons p r =>
    have hp := pieces_join (p :: r) (by simp) fun q hq => (h q hq).ns
    unfold cleanS walkS
    rw [if_neg (by omega), if_neg (by rw [joinB_head p r (h p (by simp))]; simp), hp, show ([] : List ByteArray).length = 0 from rfl, walkL_parts 0 _ _ h]
    simp only [List.nil_append]
    rw [if_neg (by simp), if_neg (by omega)]
/-- What a clean path is. -/
theorem cleanS_zero (s p : ByteArray) (h : cleanS s = (p, 0)) : ∃ L, p = joinB L ∧ (∀ q ∈ L, Part q) ∧ L.length ≤ 12 ∧ p.size ≤ 200 := by
  unfold cleanS at h
  split at h
  · exact absurd (congrArg Prod.snd h) (by simp)
  · rename_i h0
    obtain ⟨M, a, b, c, d⟩ := walkS_zero [] s p h
    rw [List.nil_append] at a c d
    refine ⟨M, a, b, c, ?_⟩
    cases M with
    | nil => rw [a]; exact Nat.zero_le _
    | cons q r =>
      have := joinB_size (q :: r) (by simp)
      rw [a]
      simp only [show sumS [] = 0 from rfl] at d
      omega
theorem parts_join (L : List ByteArray) (h : ∀ p ∈ L, Part p) : partsS (joinB L) = L := by
  cases L with
  | nil => rfl
  | cons p r =>
    unfold partsS
    rw [if_neg, pieces_join (p :: r) (by simp) fun q hq => (h q hq).ns]
    intro e
    have h1 := joinB_size (p :: r) (by simp)
    rw [e] at h1
    have h2 := (h p (by simp)).pos
    have h3 : (⟨#[]⟩ : ByteArray).size = 0 := rfl
    simp only [sumS] at h1; omega
theorem joinB_app (A B : List ByteArray) (ha : A ≠ []) (hb : B ≠ []) : joinB (A ++ B) = joinB A ++ slash ++ joinB B := by
  obtain ⟨y, r, rfl⟩ : ∃ y r, A = y :: r := List.exists_cons_of_ne_nil ha
  obtain ⟨z, t, rfl⟩ : ∃ y r, B = y :: r := List.exists_cons_of_ne_nil hb
  unfold joinB
  apply ByteArray.ext
  apply Array.ext'
  simp only [List.cons_append, List.map_cons, Lib.join_cons, List.map_append]
  simp [Lib.joinTail, slash]

/-- Whether p is d, or below it. -/
def withinS (p d : ByteArray) : Bool := decide (d = ⟨#[]⟩) || decide (p = d) || Lib.hasPrefix p.data.toList (d ++ slash).data.toList
theorem within_join (dir s p : ByteArray) (h : joinS dir s = (p, 0)) : withinS p dir = true := by
  unfold joinS at h
  by_cases h9 : 200 < (if dir = ⟨#[]⟩ then s.size else dir.size + 1 + s.size)
  · rw [if_pos h9] at h
    exact absurd (congrArg Prod.snd h) (by simp)
  · rw [if_neg h9] at h
    by_cases h0 : dir = ⟨#[]⟩
    · unfold withinS; simp [h0]
    · obtain ⟨M, a, b, c, _⟩ := walkS_zero _ s p h
      have e : partsS dir = pieces dir := by unfold partsS; rw [if_neg h0]
      rw [e] at a
      cases M with
      | nil =>
        rw [List.append_nil, joinB_pieces] at a
        unfold withinS; simp [a]
      | cons q r =>
        rw [joinB_app _ _ (pieces_ne dir) (by simp), joinB_pieces] at a
        unfold withinS
        rw [a]
        have : Lib.hasPrefix (dir ++ slash ++ joinB (q :: r)).data.toList (dir ++ slash).data.toList = true := by
          rw [Lib.hasPrefix, List.isPrefixOf_iff_prefix, show (dir ++ slash ++ joinB (q :: r)).data.toList = (dir ++ slash).data.toList ++ (joinB (q :: r)).data.toList by simp]
          exact List.prefix_append _ _
        rw [this, Bool.or_true]
theorem within_none (p : ByteArray) : withinS p ⟨#[]⟩ = true := by unfold withinS; simp
end Go.Proofs.YtghfnmnjomdacaaDoor
