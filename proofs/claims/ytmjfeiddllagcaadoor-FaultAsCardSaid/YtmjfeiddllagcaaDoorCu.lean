/- What stands between the bytes d of a text: laws on lists, no program. -/
import Derived.Test.YtmjfeiddllagcaaDoorBa
namespace Go.Proofs.YtmjfeiddllagcaaDoor
open Go.RowKit

/-- What stands between the ds of a list of bytes. -/
def cutL (d : UInt8) : List UInt8 → List (List UInt8)
  | [] => [[]]
  | c :: r => if c = d then [] :: cutL d r else match cutL d r with
    | [] => [[c]]
    | h :: t => (c :: h) :: t
theorem cutL_ne (d : UInt8) (l : List UInt8) : cutL d l ≠ [] := by
  cases l with
  | nil => simp [cutL]
  | cons c r =>
    unfold cutL
    split
    · simp
    · split <;> simp
theorem cutL_plain (d : UInt8) (l : List UInt8) (h : ∀ c ∈ l, c ≠ d) : cutL d l = [l] := by
  induction l with
  | nil => rfl
  | cons c r ih =>
    rw [cutL, if_neg (h c (by simp)), ih fun e he => h e (by simp [he])]
theorem cutL_at (d : UInt8) (a b : List UInt8) (h : ∀ c ∈ a, c ≠ d) : cutL d (a ++ d :: b) = a :: cutL d b := by
  induction a with
  | nil => simp [cutL]
  | cons c r ih =>
    rw [List.cons_append, cutL, if_neg (h c (by simp)), ih fun e he => h e (by simp [he])]
theorem cutL_app (d : UInt8) (a b : List UInt8) : cutL d (a ++ d :: b) = cutL d a ++ cutL d b := by
  induction a with
  | nil => simp [cutL]
  | cons c r ih =>
    rw [List.cons_append, cutL, cutL, ih]
    split
    · rfl
    · cases h : cutL d r with
      | nil => exact absurd h (cutL_ne d r)
      | cons x t => rfl
theorem cutL_ns (d : UInt8) (l : List UInt8) : ∀ x ∈ cutL d l, ∀ c ∈ x, c ≠ d := by
  induction l with
  | nil => intro x hx; simp [cutL] at hx; subst hx; simp
  | cons c r ih =>
    unfold cutL
    split
    · intro x hx
      rcases List.mem_cons.1 hx with rfl | hx
      · simp
      · exact ih x hx
    · rename_i hc
      cases h : cutL d r with
      | nil => exact absurd h (cutL_ne d r)
      | cons y t =>
        rw [h] at ih
        intro x hx
        rcases List.mem_cons.1 hx with rfl | hx
        · intro e he
          rcases List.mem_cons.1 he with rfl | he
          · exact hc
          · exact ih y (by simp) e he
        · exact ih x (by simp [hx])

/-- What stands between the ds of a text. -/
def pieces (d : UInt8) (s : ByteArray) : List ByteArray := Lib.splitB ⟨#[d]⟩ 0 (Lib.countB s ⟨#[d]⟩) s
theorem occ_d (d : UInt8) (s : ByteArray) (i : Nat) (h : i < s.size) : Lib.occAt s.data.toList [d] i = (byteAt s i == d) := by
  unfold Lib.occAt byteAt
  have hl : i < s.data.toList.length := by simpa using h
  rw [List.drop_eq_getElem_cons hl, List.getD_eq_getElem?_getD, List.getElem?_eq_getElem hl]
  simp only [List.isPrefixOf, Bool.and_true, Option.getD_some]
  exact Bool.beq_comm
theorem index_d (d : UInt8) (s : ByteArray) (i : Nat) (h : i < s.size) (h1 : byteAt s i = d) (h2 : ∀ j, j < i → byteAt s j ≠ d) : Lib.indexB s ⟨#[d]⟩ = i := by
  refine Lib.index_first (s := s.data.toList) (sub := [d]) (by simpa using Nat.le_of_lt h) ?_ ?_
  · rw [occ_d d s i h, h1]; exact beq_self_eq_true d
  · intro j hj
    rw [occ_d d s j (by omega)]
    simpa using h2 j hj
theorem noindex_d (d : UInt8) (s : ByteArray) (h2 : ∀ j, j < s.size → byteAt s j ≠ d) : Lib.indexB s ⟨#[d]⟩ = -1 := by
  refine Lib.index_none (s := s.data.toList) (sub := [d]) ?_
  intro j hj
  by_cases h : j < s.size
  · rw [occ_d d s j h]
    simpa using h2 j h
  · have e : s.data.toList.drop j = [] := List.drop_eq_nil_of_le (by simp; omega)
    unfold Lib.occAt
    rw [e]; rfl
theorem pieces_none (d : UInt8) (s : ByteArray) (h2 : ∀ j, j < s.size → byteAt s j ≠ d) : pieces d s = [s] :=
  Lib.splitB_miss _ _ _ _ (noindex_d d s h2)
theorem pieces_hit (d : UInt8) (s : ByteArray) (i : Nat) (h : i < s.size) (h1 : byteAt s i = d) (h2 : ∀ j, j < i → byteAt s j ≠ d) :
    pieces d s = s.extract 0 i :: pieces d (s.extract (i + 1) s.size) := by
  have e := index_d d s i h h1 h2
  have c := Lib.countB_hit s ⟨#[d]⟩ i (Nat.le_refl 1) e
  unfold pieces
  rw [c, Nat.add_comm, Lib.splitB_hit _ _ _ _ i e]
  rfl
theorem pieces_from (d : UInt8) (s : ByteArray) (f i : Nat) (hf : f ≤ i) (h : i < s.size) (h1 : byteAt s i = d) (h2 : ∀ j, f ≤ j → j < i → byteAt s j ≠ d) :
    pieces d (s.extract f s.size) = s.extract f i :: pieces d (s.extract (i + 1) s.size) := by
  have hz : (s.extract f s.size).size = s.size - f := by rw [ByteArray.size_extract]; omega
  rw [pieces_hit d _ (i - f) (by omega) (by rw [byteAt_extract _ _ _ (by omega), show f + (i - f) = i by omega]; exact h1) (fun j hj => by rw [byteAt_extract _ _ _ (by omega)]; exact h2 _ (by omega) (by omega))]
  rw [hz, ByteArray.extract_extract, ByteArray.extract_extract]
  congr 2
  · omega
  · congr 1 <;> omega
theorem pieces_last (d : UInt8) (s : ByteArray) (f : Nat) (h2 : ∀ j, f ≤ j → j < s.size → byteAt s j ≠ d) :
    pieces d (s.extract f s.size) = [s.extract f s.size] :=
  pieces_none d _ fun j hj => by
    rw [ByteArray.size_extract] at hj
    rw [byteAt_extract _ _ _ (by omega)]
    exact h2 _ (by omega) (by omega)
theorem pieces_len (d : UInt8) (s : ByteArray) : (pieces d s).length = Lib.countB s ⟨#[d]⟩ + 1 := Lib.splitB_all ⟨#[d]⟩ (Nat.le_refl 1) 0 _ s rfl
theorem count_le (d : UInt8) (s : ByteArray) : Lib.countB s ⟨#[d]⟩ ≤ s.size := Lib.countB_le ⟨#[d]⟩ (Nat.le_refl 1) s.size s (Nat.le_refl _)
theorem pieces_le (d : UInt8) (s : ByteArray) : (pieces d s).length ≤ s.size + 1 := by rw [pieces_len]; have := count_le d s; omega
theorem pieces_ne (d : UInt8) (s : ByteArray) : pieces d s ≠ [] := by
  intro h
  have := pieces_len d s
  rw [h] at this
  simp at this
theorem first_d (d : UInt8) (s : ByteArray) : ∀ k, k ≤ s.size → (∀ j, j < k → byteAt s j ≠ d) ∨ ∃ i, i < k ∧ byteAt s i = d ∧ ∀ j, j < i → byteAt s j ≠ d := by
  intro k
  induction k with
  | zero => intro _; exact .inl fun j h => by omega
  | succ k ih =>
    intro h
    rcases ih (by omega) with h1 | ⟨i, h1, h2, h3⟩
    · by_cases hb : byteAt s k = d
      · exact .inr ⟨k, by omega, hb, h1⟩
      · refine .inl fun j hj => ?_
        by_cases e : j = k
        · rw [e]; exact hb
        · exact h1 j (by omega)
    · exact .inr ⟨i, by omega, h2, h3⟩
theorem byteAt_take (d : UInt8) (s : ByteArray) (n : Nat) (hn : n ≤ s.size) (h : ∀ j, j < n → byteAt s j ≠ d) : ∀ c ∈ s.data.toList.take n, c ≠ d := by
  intro c hc
  obtain ⟨j, hj, rfl⟩ := List.mem_iff_getElem.1 hc
  have hl := data_len s
  rw [List.length_take] at hj
  have h1 := h j (by omega)
  unfold byteAt at h1
  rw [List.getD_eq_getElem?_getD, List.getElem?_eq_getElem (by omega)] at h1
  rw [List.getElem_take]
  simpa using h1
theorem byteAt_list (s : ByteArray) (i : Nat) (h : i < s.size) : s.data.toList = s.data.toList.take i ++ byteAt s i :: s.data.toList.drop (i + 1) := by
  have hl := data_len s
  have h4 : s.data.toList[i]'(by omega) = byteAt s i := by
    unfold byteAt
    rw [List.getD_eq_getElem?_getD, List.getElem?_eq_getElem (by omega)]; rfl
  rw [← h4, ← List.drop_eq_getElem_cons, List.take_append_drop]
theorem extract_head (s : ByteArray) (i : Nat) : (s.extract 0 i).data.toList = s.data.toList.take i := Lib.extract_from_zero s i
theorem extract_tail (s : ByteArray) (i : Nat) : (s.extract i s.size).data.toList = s.data.toList.drop i := by
  have hl := data_len s
  rw [ByteArray.data_extract, Array.toList_extract, List.extract_eq_take_drop]
  exact List.take_of_length_le (by rw [List.length_drop]; omega)
theorem pieces_cut (d : UInt8) (n : Nat) : ∀ s : ByteArray, s.size ≤ n → pieces d s = (cutL d s.data.toList).map toB := by
  induction n with
  | zero =>
    intro s hs
    rw [pieces_none d s (fun j hj => by omega)]
    have hl := data_len s
    have h : s.data.toList = [] := List.eq_nil_of_length_eq_zero (by omega)
    have h2 := toB_data s
    rw [h] at h2 ⊢
    simp [cutL, h2]
  | succ n ih =>
    intro s hs
    have hl := data_len s
    rcases first_d d s s.size (Nat.le_refl _) with h1 | ⟨i, h1, h2, h3⟩
    · rw [pieces_none d s h1, cutL_plain d _ (by have := byteAt_take d s s.size (Nat.le_refl _) h1; rwa [List.take_of_length_le (by omega)] at this)]
      simp [toB_data]
    · rw [pieces_hit d s i h1 h2 h3, ih _ (by rw [ByteArray.size_extract]; omega)]
      have e := byteAt_list s i h1
      rw [h2] at e
      rw [e, cutL_at d _ _ (byteAt_take d s i (by omega) h3), List.map_cons, ← extract_head, ← extract_tail, toB_data]
theorem pieces_of (d : UInt8) (s : ByteArray) : pieces d s = (cutL d s.data.toList).map toB := pieces_cut d _ s (Nat.le_refl _)
/-- No d in it. -/
def NoB (d : UInt8) (p : ByteArray) : Prop := ∀ c ∈ p.data.toList, c ≠ d
theorem pieces_no (d : UInt8) (s : ByteArray) : ∀ p ∈ pieces d s, NoB d p := by
  intro p hp
  rw [pieces_of] at hp
  obtain ⟨x, hx, rfl⟩ := List.mem_map.1 hp
  have := cutL_ns d _ x hx
  unfold NoB
  rw [data_toB]
  exact this
theorem pieces_app (d : UInt8) (a b : ByteArray) : pieces d (a ++ ⟨#[d]⟩ ++ b) = pieces d a ++ pieces d b := by
  rw [pieces_of, pieces_of d a, pieces_of d b, ← List.map_append, ← cutL_app]
  congr 2
  simp
theorem joinB_pieces (d : UInt8) (s : ByteArray) : joinB ⟨#[d]⟩ (pieces d s) = s := by
  have H : ∀ l : List UInt8, Lib.join (cutL d l) [d] = l := by
    intro l
    induction l with
    | nil => rfl
    | cons c r ih =>
      unfold cutL
      cases h : cutL d r with
      | nil => exact absurd h (cutL_ne d r)
      | cons x t =>
        rw [h] at ih
        by_cases hc : c = d
        · rw [if_pos hc]
          show Lib.join ([] :: x :: t) [d] = _
          rw [Lib.join_cons] at ih ⊢
          rw [← ih, hc]
          simp [Lib.joinTail]
        · rw [if_neg hc]
          show Lib.join ((c :: x) :: t) [d] = _
          rw [Lib.join_cons] at ih ⊢
          rw [← ih]; rfl
  refine bytes_ext ?_
  unfold joinB
  rw [pieces_of, List.map_map]
  have h3 : ((fun x : ByteArray => x.data.toList) ∘ toB) = id := by
    funext l
    simp [toB]
  rw [h3, List.map_id]
  exact H _
theorem pieces_join (d : UInt8) (L : List ByteArray) (h0 : L ≠ []) (h : ∀ p ∈ L, NoB d p) : pieces d (joinB ⟨#[d]⟩ L) = L := by
  induction L with
  | nil => exact absurd rfl h0
  | cons x t ih =>
    cases t with
    | nil =>
      rw [joinB_one]
      refine pieces_none d x fun j hj => ?_
      exact h x (by simp) _ (byteAt_mem x j hj)
    | cons y t =>
      have e : joinB ⟨#[d]⟩ (x :: y :: t) = x ++ ⟨#[d]⟩ ++ joinB ⟨#[d]⟩ (y :: t) := by
        have := joinB_app ⟨#[d]⟩ [x] (y :: t) (by simp) (by simp)
        rw [joinB_one] at this
        exact this
      rw [e, pieces_app, ih (by simp) fun z hz => h z (by simp [hz]), pieces_none d x fun j hj => h x (by simp) _ (byteAt_mem x j hj)]
      rfl
theorem sumS_pieces (d : UInt8) (s : ByteArray) : sumS (pieces d s) = s.size + 1 := by
  rw [← joinB_size d _ (pieces_ne d s), joinB_pieces]
theorem size_of_sum (L : List ByteArray) (p : ByteArray) (h : p ∈ L) : p.size + 1 ≤ sumS L := by
  induction L with
  | nil => simp at h
  | cons x r ih =>
    rcases List.mem_cons.1 h with rfl | h
    · simp only [sumS]; omega
    · simp only [sumS]; have := ih h; omega
theorem pieces_size (d : UInt8) (s : ByteArray) : ∀ p ∈ pieces d s, p.size ≤ s.size := by
  intro p hp
  have := size_of_sum _ p hp
  rw [sumS_pieces] at this
  omega

/-- How far a loop over the bytes has come: out holds what is done. -/
def SplitAt (d : UInt8) (s : ByteArray) (i f : Nat) (out : List ByteArray) : Prop :=
  (i ≤ s.size ∧ f ≤ i ∧ (∀ j, f ≤ j → j < i → byteAt s j ≠ d) ∧ pieces d s = out ++ pieces d (s.extract f s.size)) ∨ (i = s.size + 1 ∧ pieces d s = out)
theorem SplitAt.len {d : UInt8} {s : ByteArray} {i f : Nat} {out : List ByteArray} (h : SplitAt d s i f out) : out.length ≤ s.size + 1 := by
  have hl := pieces_le d s
  rcases h with ⟨_, _, _, h⟩ | ⟨_, h⟩
  · rw [h, List.length_append] at hl; omega
  · rw [← h]; exact hl
theorem SplitAt.start (d : UInt8) (s : ByteArray) : SplitAt d s 0 0 [] :=
  .inl ⟨Nat.zero_le _, Nat.le_refl _, fun j _ h => by omega, by rw [List.nil_append, ByteArray.extract_zero_size]⟩
theorem SplitAt.skip {d : UInt8} {s : ByteArray} {i f : Nat} {out : List ByteArray} (h : SplitAt d s i f out) (hi : i < s.size) (hb : byteAt s i ≠ d) : SplitAt d s (i + 1) f out := by
  rcases h with ⟨h1, h2, h3, h4⟩ | ⟨h1, _⟩
  · refine .inl ⟨by omega, by omega, fun j hj hj2 => ?_, h4⟩
    by_cases e : j = i
    · rw [e]; exact hb
    · exact h3 j hj (by omega)
  · omega
theorem SplitAt.cut {d : UInt8} {s : ByteArray} {i f : Nat} {out : List ByteArray} (h : SplitAt d s i f out) (hi : i < s.size) (hb : byteAt s i = d) : f ≤ i ∧ SplitAt d s (i + 1) (i + 1) (out ++ [s.extract f i]) := by
  rcases h with ⟨h1, h2, h3, h4⟩ | ⟨h1, _⟩
  · refine ⟨h2, .inl ⟨by omega, Nat.le_refl _, fun j hj hj2 => by omega, ?_⟩⟩
    rw [h4, pieces_from d s f i h2 hi hb h3, List.append_assoc]; rfl
  · omega
theorem SplitAt.last {d : UInt8} {s : ByteArray} {f : Nat} {out : List ByteArray} (h : SplitAt d s s.size f out) : f ≤ s.size ∧ pieces d s = out ++ [s.extract f s.size] := by
  rcases h with ⟨h1, h2, h3, h4⟩ | ⟨h1, _⟩
  · exact ⟨h2, by rw [h4, pieces_last d s f h3]⟩
  · omega
end Go.Proofs.YtmjfeiddllagcaaDoor
