/- Texts of one ground, in one file: QR QU QV QW. -/
import Derived.Test.YtichejodbohldaaGreatDoorP5
import Derived.OwnWalk
namespace Go.Proofs.YtichejodbohldaaGreatDoor.Pth
open Go.RowKit

/-- What stands between the slashes of a list of bytes. -/
def cutL : List UInt8 → List (List UInt8)
  | [] => [[]]
  | c :: r => if c = 47 then [] :: cutL r else match cutL r with
    | [] => [[c]]
    | h :: t => (c :: h) :: t
theorem cutL_ne (l : List UInt8) : cutL l ≠ [] := by
  cases l with
  | nil => simp [cutL]
  | cons c r =>
    unfold cutL
    split
    · simp
    · split <;> simp
theorem cutL_plain (l : List UInt8) (h : ∀ c ∈ l, c ≠ 47) : cutL l = [l] := by
  induction l with
  | nil => rfl
  | cons c r ih =>
    rw [cutL, if_neg (h c (by simp)), ih fun d hd => h d (by simp [hd])]
theorem cutL_at (a b : List UInt8) (h : ∀ c ∈ a, c ≠ 47) : cutL (a ++ 47 :: b) = a :: cutL b := by
  induction a with
  | nil => simp [cutL]
  | cons c r ih =>
    rw [List.cons_append, cutL, if_neg (h c (by simp)), ih fun d hd => h d (by simp [hd])]
theorem cutL_slash (l : List UInt8) : cutL (l ++ [47]) = cutL l ++ [[]] := by
  induction l with
  | nil => simp [cutL]
  | cons c r ih =>
    rw [List.cons_append, cutL, cutL, ih]
    split
    · rfl
    · cases h : cutL r with
      | nil => exact absurd h (cutL_ne r)
      | cons x t => rfl
theorem cutL_push (l : List UInt8) (c : UInt8) (hc : c ≠ 47) (A : List (List UInt8)) (t : List UInt8) (h : cutL l = A ++ [t]) : cutL (l ++ [c]) = A ++ [t ++ [c]] := by
  induction l generalizing A t with
  | nil =>
    have h1 : [[]] = A ++ [t] := h
    cases A with
    | nil =>
      have h2 : [] = t := by simpa using h1
      subst h2
      simp [cutL, hc]
    | cons x r => simp at h1
  | cons d r ih =>
    rw [List.cons_append]
    unfold cutL at h ⊢
    by_cases hd : d = 47
    · rw [if_pos hd] at h ⊢
      cases A with
      | nil =>
        have := cutL_ne r
        simp at h
        exact absurd h.2 this
      | cons x A' =>
        rw [List.cons_append, List.cons.injEq] at h
        rw [ih A' t h.2, ← h.1]; rfl
    · rw [if_neg hd] at h ⊢
      cases hr : cutL r with
      | nil => exact absurd hr (cutL_ne r)
      | cons x T =>
        rw [hr] at h
        simp only at h
        cases A with
        | nil =>
          have h2 : T = [] ∧ t = d :: x := by
            rw [List.nil_append, List.cons.injEq] at h
            exact ⟨h.2, h.1.symm⟩
          obtain ⟨rfl, rfl⟩ := h2
          rw [ih [] x (by rw [hr]; rfl)]; rfl
        | cons y A' =>
          rw [List.cons_append, List.cons.injEq] at h
          rw [ih (x :: A') t (by rw [hr, h.2]; rfl), ← h.1]; rfl

def toB (l : List UInt8) : ByteArray := ⟨l.toArray⟩
theorem toB_data (s : ByteArray) : toB s.data.toList = s := by
  apply ByteArray.ext; simp [toB]
theorem first_slash (s : ByteArray) : ∀ k, k ≤ s.size → (∀ j, j < k → byteAt s j ≠ 47) ∨ ∃ i, i < k ∧ byteAt s i = 47 ∧ ∀ j, j < i → byteAt s j ≠ 47 := by
  intro k
  induction k with
  | zero => intro _; exact .inl fun j h => by omega
  | succ k ih =>
    intro h
    rcases ih (by omega) with h1 | ⟨i, h1, h2, h3⟩
    · by_cases hb : byteAt s k = 47
      · exact .inr ⟨k, by omega, hb, h1⟩
      · refine .inl fun j hj => ?_
        by_cases e : j = k
        · rw [e]; exact hb
        · exact h1 j (by omega)
    · exact .inr ⟨i, by omega, h2, h3⟩
theorem byteAt_mem (s : ByteArray) (n : Nat) (hn : n ≤ s.size) (h : ∀ j, j < n → byteAt s j ≠ 47) : ∀ c ∈ s.data.toList.take n, c ≠ 47 := by
  intro c hc
  obtain ⟨j, hj, rfl⟩ := List.mem_iff_getElem.1 hc
  have hl : s.data.toList.length = s.size := by simp
  rw [List.length_take] at hj
  have h1 := h j (by omega)
  unfold byteAt at h1
  rw [List.getD_eq_getElem?_getD, List.getElem?_eq_getElem (by omega)] at h1
  rw [List.getElem_take]
  simpa using h1
theorem pieces_cut (n : Nat) : ∀ s : ByteArray, s.size ≤ n → pieces s = (cutL s.data.toList).map toB := by
  induction n with
  | zero =>
    intro s hs
    rw [pieces_none s (fun j hj => by omega)]
    have h : s.data.toList = [] := List.eq_nil_of_length_eq_zero (by have : s.data.toList.length = s.size := by simp
                                                                     omega)
    have h2 := toB_data s
    rw [h] at h2 ⊢
    simp [cutL, h2]
  | succ n ih =>
    intro s hs
    have hl : s.data.toList.length = s.size := by simp
    rcases first_slash s s.size (Nat.le_refl _) with h1 | ⟨i, h1, h2, h3⟩
    · rw [pieces_none s h1, cutL_plain _ (by have := byteAt_mem s s.size (Nat.le_refl _) h1; rwa [List.take_of_length_le (by omega)] at this)]
      simp [toB_data]
    · rw [pieces_hit s i h1 h2 h3, ih _ (by rw [ByteArray.size_extract]; omega)]
      have e : s.data.toList = s.data.toList.take i ++ 47 :: s.data.toList.drop (i + 1) := by
        have h4 : s.data.toList[i]'(by omega) = 47 := by
          unfold byteAt at h2
          rw [List.getD_eq_getElem?_getD, List.getElem?_eq_getElem (by omega)] at h2
          simpa using h2
        rw [← h4, ← List.drop_eq_getElem_cons, List.take_append_drop]
      have d1 : (s.extract 0 i).data.toList = s.data.toList.take i := Lib.extract_from_zero s i
      have d2 : (s.extract (i + 1) s.size).data.toList = s.data.toList.drop (i + 1) := by
        rw [ByteArray.data_extract, Array.toList_extract, List.extract_eq_take_drop]
        exact List.take_of_length_le (by rw [List.length_drop]; omega)
      rw [e, cutL_at _ _ (byteAt_mem s i (by omega) h3), List.map_cons, ← d1, ← d2, toB_data]

/-! Steps: down (a/) or up (../). -/
def aB : ByteArray := ⟨#[97]⟩
def stepB (b : Bool) : ByteArray := if b then aB else dots
/-- Whether the way leads out, from d deep on. -/
def outOf : Nat → List Bool → Bool
  | _, [] => false
  | d, true :: r => outOf (d + 1) r
  | 0, false :: _ => true
  | d + 1, false :: r => outOf d r
/-- How deep it ends, where it doesn't lead out. -/
def endOf : Nat → List Bool → Nat
  | d, [] => d
  | d, true :: r => endOf (d + 1) r
  | 0, false :: _ => 0
  | d + 1, false :: r => endOf d r
theorem endOf_le (d : Nat) (L : List Bool) : endOf d L ≤ d + L.length := by
  induction L generalizing d with
  | nil => simp [endOf]
  | cons b r ih =>
    cases b with
    | true => have := ih (d + 1); simp only [endOf, List.length_cons]; omega
    | false => cases d with
      | zero => simp [endOf]
      | succ d => have := ih d; simp only [endOf, List.length_cons]; omega
theorem outOf_snoc (d : Nat) (L : List Bool) (b : Bool) : outOf d (L ++ [b]) = (outOf d L || (decide (endOf d L = 0) && !b)) := by
  induction L generalizing d with
  | nil => cases b <;> cases d <;> simp [outOf, endOf]
  | cons x r ih =>
    cases x with
    | true => simp only [List.cons_append, outOf, endOf]; exact ih (d + 1)
    | false => cases d with
      | zero => simp [outOf]
      | succ d => simp only [List.cons_append, outOf, endOf]; exact ih d
theorem endOf_snoc (d : Nat) (L : List Bool) (b : Bool) (h : outOf d L = false) : endOf d (L ++ [b]) = if b then endOf d L + 1 else endOf d L - 1 := by
  induction L generalizing d with
  | nil => cases b <;> cases d <;> simp [endOf]
  | cons x r ih =>
    cases x with
    | true => simp only [List.cons_append, outOf, endOf] at h ⊢; exact ih (d + 1) h
    | false => cases d with
      | zero => simp [outOf] at h
      | succ d => simp only [List.cons_append, outOf, endOf] at h ⊢; exact ih d h
theorem walk_steps (d : Nat) (L : List Bool) : walkL 0 (List.replicate d aB) (L.map stepB ++ [⟨#[]⟩]) = if outOf d L then (51, []) else (0, List.replicate (endOf d L) aB) := by
  induction L generalizing d with
  | nil => simp [outOf, endOf, walkL]
  | cons b r ih =>
    cases b with
    | true =>
      have e : walkL 0 (List.replicate d aB) (aB :: (r.map stepB ++ [⟨#[]⟩])) = walkL 0 (List.replicate d aB ++ [aB]) (r.map stepB ++ [⟨#[]⟩]) :=
        walkL_good 0 _ aB _ (by decide) (by decide) (by decide) (by decide)
      show walkL 0 (List.replicate d aB) (aB :: (r.map stepB ++ [⟨#[]⟩])) = _
      rw [e, ← List.replicate_succ', ih]
      rfl
    | false =>
      show walkL 0 (List.replicate d aB) (dots :: (r.map stepB ++ [⟨#[]⟩])) = _
      cases d with
      | zero => rw [walkL_out 0 _ _ rfl]; rfl
      | succ d =>
        rw [walkL_up 0 _ _ (by simp), List.replicate_succ', List.dropLast_concat, ih]
        rfl
theorem steps_parts (d : Nat) (h : d ≤ 12) : (partsS (joinB (List.replicate d aB))).length = d := by
  have H : ∀ d : Fin 13, (partsS (joinB (List.replicate d.val aB))).length = d.val := by decide +kernel
  exact H ⟨d, by omega⟩
theorem cut_of_pieces (s : ByteArray) (P : List ByteArray) (h : pieces s = P ++ [⟨#[]⟩]) : cutL s.data.toList = P.map (·.data.toList) ++ [[]] := by
  have h1 := pieces_cut _ s (Nat.le_refl _)
  rw [h] at h1
  have h2 := congrArg (List.map fun x : ByteArray => x.data.toList) h1
  rw [List.map_map] at h2
  have h3 : ((fun x : ByteArray => x.data.toList) ∘ toB) = id := by
    funext l
    simp [toB]
  rw [h3, List.map_id, List.map_append] at h2
  exact h2.symm
theorem pieces_of_cut (s : ByteArray) (P : List ByteArray) (h : cutL s.data.toList = P.map (·.data.toList)) : pieces s = P := by
  rw [pieces_cut _ s (Nat.le_refl _), h, List.map_map]
  have h3 : (toB ∘ fun x : ByteArray => x.data.toList) = id := by
    funext x
    exact toB_data x
  rw [h3, List.map_id]
theorem pieces_down (s : ByteArray) (L : List Bool) (h : pieces s = L.map stepB ++ [⟨#[]⟩]) : pieces (s ++ ⟨#[97, 47]⟩) = (L ++ [true]).map stepB ++ [⟨#[]⟩] := by
  have h1 := cut_of_pieces s _ h
  have h2 := cutL_slash (s.data.toList ++ [97])
  rw [cutL_push _ 97 (by decide) _ _ h1] at h2
  refine pieces_of_cut _ _ ?_
  have e : (s ++ ⟨#[97, 47]⟩).data.toList = s.data.toList ++ [97] ++ [47] := by simp
  rw [e, h2]
  simp [stepB, aB]
theorem pieces_up (s : ByteArray) (L : List Bool) (h : pieces s = L.map stepB ++ [⟨#[]⟩]) : pieces (s ++ ⟨#[46, 46, 47]⟩) = (L ++ [false]).map stepB ++ [⟨#[]⟩] := by
  have h1 := cut_of_pieces s _ h
  have h2 := cutL_slash (s.data.toList ++ [46] ++ [46])
  rw [cutL_push _ 46 (by decide) _ _ (cutL_push _ 46 (by decide) _ _ h1)] at h2
  refine pieces_of_cut _ _ ?_
  have e : (s ++ ⟨#[46, 46, 47]⟩).data.toList = s.data.toList ++ [46] ++ [46] ++ [47] := by simp
  rw [e, h2]
  simp [stepB, dots]
/-- A text of steps is no text that begins with a slash, and its clean path is this. -/
theorem clean_steps (s : ByteArray) (L : List Bool) (h : pieces s = L.map stepB ++ [⟨#[]⟩]) (hs : s.size ≤ 200) (h0 : s.size = 0 ∨ byteAt s 0 ≠ 47) :
    cleanS s = if outOf 0 L then (⟨#[]⟩, 51) else if 12 < endOf 0 L then (⟨#[]⟩, 50) else (joinB (List.replicate (endOf 0 L) aB), 0) := by
  have hp : ¬ Lib.hasPrefix s.data.toList slash.data.toList = true := by
    rw [prefix_byte]
    rcases h0 with h0 | h0
    · simp [h0]
    · simp [h0]
  unfold cleanS walkS
  have hw := walk_steps 0 L
  rw [← h] at hw
  simp only [List.replicate_zero] at hw
  rw [if_neg (by omega), if_neg hp, show ([] : List ByteArray).length = 0 from rfl, hw]
  cases outOf 0 L with
  | true => rfl
  | false =>
    simp
end Go.Proofs.YtichejodbohldaaGreatDoor.Pth
namespace Go.Proofs.YtichejodbohldaaGreatDoor.Pth
open Go.RowKit

/-- Bytes with slashes between. -/
def jl (L : List (List UInt8)) : List UInt8 := Lib.join L [47]
theorem jl_one (x : List UInt8) : jl [x] = x := Lib.join_one x _
theorem jl_cons (x y : List UInt8) (r : List (List UInt8)) : jl (x :: y :: r) = x ++ 47 :: jl (y :: r) := by
  unfold jl
  rw [Lib.join_cons, Lib.join_cons]
  simp [Lib.joinTail]
theorem joinB_jl (L : List ByteArray) : joinB L = toB (jl (L.map (·.data.toList))) := rfl
theorem joinB_data (L : List ByteArray) : (joinB L).data.toList = jl (L.map (·.data.toList)) := by
  rw [joinB_jl]; simp [toB]
theorem jl_cut (l : List UInt8) : jl (cutL l) = l := by
  induction l with
  | nil => rfl
  | cons c r ih =>
    unfold cutL
    cases h : cutL r with
    | nil => exact absurd h (cutL_ne r)
    | cons x t =>
      rw [h] at ih
      by_cases hc : c = 47
      · rw [if_pos hc, jl_cons, ih, hc]; rfl
      · rw [if_neg hc]
        show jl ((c :: x) :: t) = _
        cases t with
        | nil => rw [jl_one] at ih ⊢; rw [ih]
        | cons y t => rw [jl_cons] at ih ⊢; rw [← ih]; rfl
theorem map_data_toB (L : List (List UInt8)) : (L.map toB).map (·.data.toList) = L := by
  rw [List.map_map]
  have h3 : ((fun x : ByteArray => x.data.toList) ∘ toB) = id := by
    funext l
    simp [toB]
  rw [h3, List.map_id]
theorem joinB_pieces (s : ByteArray) : joinB (pieces s) = s := by
  rw [pieces_cut _ s (Nat.le_refl _), joinB_jl, map_data_toB, jl_cut, toB_data]
theorem cut_jl (L : List (List UInt8)) (h0 : L ≠ []) (h : ∀ x ∈ L, ∀ c ∈ x, c ≠ 47) : cutL (jl L) = L := by
  induction L with
  | nil => exact absurd rfl h0
  | cons x t ih =>
    cases t with
    | nil => rw [jl_one, cutL_plain _ (h x (by simp))]
    | cons y t =>
      rw [jl_cons, cutL_at _ _ (h x (by simp)), ih (by simp) fun z hz => h z (by simp [hz])]
/-- No slash in it. -/
def NS (p : ByteArray) : Prop := ∀ c ∈ p.data.toList, c ≠ 47
theorem pieces_join (L : List ByteArray) (h0 : L ≠ []) (h : ∀ p ∈ L, NS p) : pieces (joinB L) = L := by
  refine pieces_of_cut _ _ ?_
  rw [joinB_data]
  refine cut_jl _ (by simpa using h0) ?_
  intro x hx
  obtain ⟨p, hp, rfl⟩ := List.mem_map.1 hx
  exact h p hp
theorem cutL_ns (l : List UInt8) : ∀ x ∈ cutL l, ∀ c ∈ x, c ≠ 47 := by
  induction l with
  | nil => intro x hx; simp [cutL] at hx; subst hx; simp
  | cons c r ih =>
    unfold cutL
    split
    · intro x hx
      rcases List.mem_cons.1 hx with rfl | hx
      · simp
      · exact ih x hx
    · rename_i hc
      cases h : cutL r with
      | nil => exact absurd h (cutL_ne r)
      | cons y t =>
        rw [h] at ih
        intro x hx
        rcases List.mem_cons.1 hx with rfl | hx
        · intro d hd
          rcases List.mem_cons.1 hd with rfl | hd
          · exact hc
          · exact ih y (by simp) d hd
        · exact ih x (by simp [hx])
theorem pieces_ns (s : ByteArray) : ∀ p ∈ pieces s, NS p := by
  intro p hp
  rw [pieces_cut _ s (Nat.le_refl _)] at hp
  obtain ⟨x, hx, rfl⟩ := List.mem_map.1 hp
  have := cutL_ns _ x hx
  unfold NS
  simpa [toB] using this
theorem pieces_ne (s : ByteArray) : pieces s ≠ [] := by
  intro h
  have := pieces_len s
  rw [h] at this
  simp at this
theorem joinB_size (L : List ByteArray) (h : L ≠ []) : (joinB L).size + 1 = sumS L := by
  cases L with
  | nil => exact absurd rfl h
  | cons y r =>
    have h : ∀ (r : List ByteArray), (Lib.joinTail slash.data.toList (r.map (·.data.toList))).length = sumS r := by
      intro r
      induction r with
      | nil => rfl
      | cons z r ih =>
        simp only [Lib.joinTail, List.map_cons, List.flatten_cons, List.length_append, sumS] at ih ⊢
        rw [ih]; simp [slash]; omega
    show (Lib.join _ _).toArray.size + 1 = _
    rw [List.map_cons, Lib.join_cons, List.size_toArray, List.length_append, h]
    simp [sumS]; omega
theorem sumS_pieces (s : ByteArray) : sumS (pieces s) = s.size + 1 := by
  rw [← joinB_size _ (pieces_ne s), joinB_pieces]
theorem sumS_app (L M : List ByteArray) : sumS (L ++ M) = sumS L + sumS M := by
  induction L with
  | nil => simp [sumS]
  | cons x r ih => simp only [List.cons_append, sumS, ih]; omega

/-- A part of a clean path. -/
structure Part (p : ByteArray) : Prop where
  some : ¬ p = ⟨#[]⟩
  one : ¬ p = dot
  two : ¬ p = dots
  ok : okPart p = true
  ns : NS p
theorem walkL_root (root : List ByteArray) : ∀ (ps M res : List ByteArray), (∀ p ∈ M, Part p) → (∀ p ∈ ps, NS p) → walkL root.length (root ++ M) ps = (0, res) → ∃ M', res = root ++ M' ∧ (∀ p ∈ M', Part p) ∧ sumS res ≤ sumS (root ++ M) + sumS ps := by
  intro ps
  induction ps with
  | nil =>
    intro M res hM _ h
    refine ⟨M, ?_, hM, ?_⟩
    · exact (congrArg Prod.snd h).symm
    · have e : root ++ M = res := congrArg Prod.snd h
      rw [e]; simp [sumS]
  | cons p ps ih =>
    intro M res hM hps h
    have hp := hps p (by simp)
    have hps' : ∀ q ∈ ps, NS q := fun q hq => hps q (by simp [hq])
    by_cases h1 : p = ⟨#[]⟩ ∨ p = dot
    · rw [walkL_none _ _ _ _ h1] at h
      obtain ⟨M', a, b, c⟩ := ih M res hM hps' h
      exact ⟨M', a, b, by simp only [sumS]; omega⟩
    · by_cases h2 : p = dots
      · subst h2
        by_cases h3 : (root ++ M).length = root.length
        · rw [walkL_out _ _ _ h3] at h
          exact absurd (congrArg Prod.fst h) (by simp)
        · rw [walkL_up _ _ _ h3] at h
          have hne : M ≠ [] := by
            intro e; apply h3; rw [e]; simp
          rw [List.dropLast_append_of_ne_nil hne] at h
          obtain ⟨M', a, b, c⟩ := ih M.dropLast res (fun q hq => hM q (List.dropLast_subset _ hq)) hps' h
          refine ⟨M', a, b, ?_⟩
          have := sumS_drop M
          rw [sumS_app] at c ⊢
          simp only [sumS]; omega
      · have b1 : ¬ p = ⟨#[]⟩ := fun e => h1 (.inl e)
        have b2 : ¬ p = dot := fun e => h1 (.inr e)
        by_cases hg : okPart p = true
        · rw [walkL_good _ _ _ _ b1 b2 h2 hg, List.append_assoc] at h
          obtain ⟨M', a, b, c⟩ := ih (M ++ [p]) res (fun q hq => by
            rcases List.mem_append.1 hq with hq | hq
            · exact hM q hq
            · rw [List.mem_singleton.1 hq]; exact ⟨b1, b2, h2, hg, hp⟩) hps' h
          refine ⟨M', a, b, ?_⟩
          rw [← List.append_assoc, sumS_snoc] at c
          simp only [sumS]; omega
        · rw [walkL_bad _ _ _ _ b1 b2 h2 (by simpa using hg)] at h
          exact absurd (congrArg Prod.fst h) (by simp)
theorem walkL_parts (nb : Nat) : ∀ (ps out : List ByteArray), (∀ p ∈ ps, Part p) → walkL nb out ps = (0, out ++ ps) := by
  intro ps
  induction ps with
  | nil => intro out _; rw [List.append_nil]; rfl
  | cons p ps ih =>
    intro out h
    have hp := h p (by simp)
    rw [walkL_good _ _ _ _ hp.some hp.one hp.two hp.ok, ih _ fun q hq => h q (by simp [hq]), List.append_assoc]; rfl
/-- What a walk that goes well comes to. -/
theorem walkS_zero (root : List ByteArray) (s p : ByteArray) (h : walkS root s = (p, 0)) : ∃ M, p = joinB (root ++ M) ∧ (∀ q ∈ M, Part q) ∧ (root ++ M).length ≤ 12 ∧ sumS (root ++ M) ≤ sumS root + s.size + 1 := by
  unfold walkS at h
  split at h
  · exact absurd (congrArg Prod.snd h) (by simp)
  · split at h
    · rename_i h1 h2
      exact absurd (congrArg Prod.snd h) h2
    · split at h
      · exact absurd (congrArg Prod.snd h) (by simp)
      · rename_i h1 h2 h3
        have e : walkL root.length root (pieces s) = (0, (walkL root.length root (pieces s)).2) := Prod.ext (by simpa using h2) rfl
        have e2 := e
        conv at e2 => lhs; arg 2; rw [← List.append_nil root]
        obtain ⟨M, a, b, c⟩ := walkL_root root (pieces s) [] _ (by simp) (pieces_ns s) e2
        rw [List.append_nil, sumS_pieces, a] at c
        rw [a] at h3 h
        exact ⟨M, (congrArg Prod.fst h).symm, b, by omega, by omega⟩
theorem Part.pos {p : ByteArray} (h : Part p) : 0 < p.size := by
  rcases Nat.eq_zero_or_pos p.size with h0 | h0
  · exact absurd (ByteArray.size_eq_zero_iff.1 h0) h.some
  · exact h0
theorem joinB_head (p : ByteArray) (L : List ByteArray) (h : Part p) : Lib.hasPrefix (joinB (p :: L)).data.toList slash.data.toList = false := by
  have hp := h.pos
  have hl : p.data.toList.length = p.size := by simp
  rw [joinB_data]
  unfold jl
  rw [List.map_cons, Lib.join_cons]
  cases hd : p.data.toList with
  | nil => rw [hd] at hl; simp at hl; omega
  | cons c r =>
    have hc := h.ns c (by rw [hd]; simp)
    simp [Lib.hasPrefix, slash, List.isPrefixOf]
    exact fun e => hc e.symm
/-- A clean path is clean. -/
theorem clean_join (L : List ByteArray) (h : ∀ p ∈ L, Part p) (hl : L.length ≤ 12) (hs : (joinB L).size ≤ 200) : cleanS (joinB L) = (joinB L, 0) := by
  cases L with
  | nil => decide +kernel
  | cons p r =>
    have hp := pieces_join (p :: r) (by simp) fun q hq => (h q hq).ns
    unfold cleanS walkS
    rw [if_neg (by omega), if_neg (by rw [joinB_head p r (h p (by simp))]; simp), hp, show ([] : List ByteArray).length = 0 from rfl, walkL_parts 0 _ _ h]
    simp only [List.nil_append]
    rw [if_neg (by simp), if_neg (by omega)]
/-- What a clean path is. -/
theorem cleanS_zero (s p : ByteArray) (h : cleanS s = (p, 0)) : ∃ L, p = joinB L ∧ (∀ q ∈ L, Part q) ∧ L.length ≤ 12 ∧ p.size ≤ 200 := by
  unfold cleanS at h
  split at h
  · exact absurd (congrArg Prod.snd h) (by simp)
  · rename_i h0
    obtain ⟨M, a, b, c, d⟩ := walkS_zero [] s p h
    rw [List.nil_append] at a c d
    refine ⟨M, a, b, c, ?_⟩
    cases M with
    | nil => rw [a]; exact Nat.zero_le _
    | cons q r =>
      have := joinB_size (q :: r) (by simp)
      rw [a]
      simp only [show sumS [] = 0 from rfl] at d
      omega
theorem parts_join (L : List ByteArray) (h : ∀ p ∈ L, Part p) : partsS (joinB L) = L := by
  cases L with
  | nil => rfl
  | cons p r =>
    unfold partsS
    rw [if_neg, pieces_join (p :: r) (by simp) fun q hq => (h q hq).ns]
    intro e
    have h1 := joinB_size (p :: r) (by simp)
    rw [e] at h1
    have h2 := (h p (by simp)).pos
    have h3 : (⟨#[]⟩ : ByteArray).size = 0 := rfl
    simp only [sumS] at h1; omega
theorem joinB_app (A B : List ByteArray) (ha : A ≠ []) (hb : B ≠ []) : joinB (A ++ B) = joinB A ++ slash ++ joinB B := by
  obtain ⟨y, r, rfl⟩ : ∃ y r, A = y :: r := List.exists_cons_of_ne_nil ha
  obtain ⟨z, t, rfl⟩ : ∃ y r, B = y :: r := List.exists_cons_of_ne_nil hb
  unfold joinB
  apply ByteArray.ext
  apply Array.ext'
  simp only [List.cons_append, List.map_cons, Lib.join_cons, List.map_append]
  simp [Lib.joinTail, slash]

/-- Whether p is d, or below it. -/
def withinS (p d : ByteArray) : Bool := decide (d = ⟨#[]⟩) || decide (p = d) || Lib.hasPrefix p.data.toList (d ++ slash).data.toList
theorem within_join (dir s p : ByteArray) (h : joinS dir s = (p, 0)) : withinS p dir = true := by
  unfold joinS at h
  by_cases h9 : 200 < (if dir = ⟨#[]⟩ then s.size else dir.size + 1 + s.size)
  · rw [if_pos h9] at h
    exact absurd (congrArg Prod.snd h) (by simp)
  · rw [if_neg h9] at h
    by_cases h0 : dir = ⟨#[]⟩
    · unfold withinS; simp [h0]
    · obtain ⟨M, a, b, c, _⟩ := walkS_zero _ s p h
      have e : partsS dir = pieces dir := by unfold partsS; rw [if_neg h0]
      rw [e] at a
      cases M with
      | nil =>
        rw [List.append_nil, joinB_pieces] at a
        unfold withinS; simp [a]
      | cons q r =>
        rw [joinB_app _ _ (pieces_ne dir) (by simp), joinB_pieces] at a
        unfold withinS
        rw [a]
        have : Lib.hasPrefix (dir ++ slash ++ joinB (q :: r)).data.toList (dir ++ slash).data.toList = true := by
          rw [Lib.hasPrefix, List.isPrefixOf_iff_prefix, show (dir ++ slash ++ joinB (q :: r)).data.toList = (dir ++ slash).data.toList ++ (joinB (q :: r)).data.toList by simp]
          exact List.prefix_append _ _
        rw [this, Bool.or_true]
theorem within_none (p : ByteArray) : withinS p ⟨#[]⟩ = true := by unfold withinS; simp
end Go.Proofs.YtichejodbohldaaGreatDoor.Pth
namespace Go.Proofs.YtichejodbohldaaGreatDoor.Pth
open Go.RowKit

theorem eq_list (x : ByteArray) (l : List UInt8) (h : x = ⟨l.toArray⟩) : x.toList = l := by
  rw [h, ByteArray.toList_eq]
theorem ne_lists (x y : ByteArray) (h : ¬ x = y) : ¬ x.toList = y.toList := by
  intro e
  apply h
  rw [ByteArray.toList_eq, ByteArray.toList_eq] at e
  apply ByteArray.ext
  apply Array.ext'
  rw [e]
theorem nb_lists (x y : ByteArray) (h : ¬ x = y) : (x.toList == y.toList) = false := by
  rw [beq_eq_false_iff_ne]; exact ne_lists x y h

set_option maxRecDepth 1000000
set_option maxHeartbeats 1000000 in
theorem within_any (p d : ByteArray) (hd : d.size ≤ 100000) (w : World) :
    Calls Tryz.prog 74 #[.string p, .string d] w fun e w' => e = .returned (.bool (withinS p d)) ∧ w' = w := by
  by_cases h0 : d = ⟨#[]⟩
  · have e : Hid (withinS p d = true) := by show _ = _; unfold withinS; simp [h0]
    subst h0
    go_enter Tryz.func74, Tryz.ntmps74
    go_wp2
    go_ret
    exact ⟨by rw [e.out]; rfl, rfl⟩
  · have c1 := empty_no d h0
    have d1 := ne_list d [] h0
    by_cases h1 : p = d
    · have e : Hid (withinS p d = true) := by show _ = _; unfold withinS; simp [h1]
      subst h1
      clear h0
      go_enter Tryz.func74, Tryz.ntmps74
      go_wp2
      go_ret
      exact ⟨by rw [e.out]; rfl, rfl⟩
    · obtain ⟨b, hb⟩ : ∃ b, Lib.hasPrefix p.data.toList (d ++ slash).data.toList = b := ⟨_, rfl⟩
      have e : Hid (withinS p d = b) := by show _ = _; unfold withinS; simp [h0, h1, ← hb]
      have c2 := nb_lists p d h1
      have d2 := ne_lists p d h1
      have HB := Lib.hid hb
      have q1 : d.size + 1 ≤ 9223372036854775807 := by omega
      clear h0 h1 hb
      go_enter Tryz.func74, Tryz.ntmps74
      go_wp2_with fail
      (with_reducible refine (has_at p (d ++ ⟨#[47]⟩) b _ HB.out).mono ?_)
      rintro ee w' ⟨rfl, hw'⟩
      rw [hw']
      clear hw' w'
      dsimp only
      go_wp2
      go_ret
      exact ⟨by rw [e.out]; rfl, rfl⟩

theorem below_eq (p d : ByteArray) (h : d.size < p.size) : Lib.hasPrefix p.data.toList (d ++ slash).data.toList = (decide (p.extract 0 d.size = d) && (byteAt p d.size == 47)) := by
  have hd : (d ++ slash).data.toList = d.data.toList ++ [47] := by simp [slash]
  have hl : p.data.toList.length = p.size := by simp
  have hm : d.data.toList.length = d.size := by simp
  have hb : p.data.toList[d.size]'(by omega) = byteAt p d.size := by
    unfold byteAt
    rw [List.getD_eq_getElem?_getD, List.getElem?_eq_getElem (by omega)]; rfl
  rw [← Lib.hasPrefix_of_take, hd, List.length_append, hm, hl]
  rw [show ([47] : List UInt8).length = 1 from rfl, decide_eq_true (by omega), Bool.true_and, List.take_succ_eq_append_getElem (by omega), hb]
  have he : p.extract 0 d.size = d ↔ p.data.toList.take d.size = d.data.toList := by
    rw [← Lib.extract_from_zero]
    constructor
    · intro e; rw [e]
    · intro e
      apply ByteArray.ext
      exact Array.ext' e
  rw [Bool.eq_iff_iff, beq_iff_eq, Bool.and_eq_true, decide_eq_true_eq, beq_iff_eq, he]
  constructor
  · intro e
    have := List.append_inj e (by rw [List.length_take]; omega)
    exact ⟨this.1, by simpa using this.2⟩
  · rintro ⟨e1, e2⟩
    rw [e1, e2]
theorem below_no (p d : ByteArray) (h : ¬ d.size < p.size) : Lib.hasPrefix p.data.toList (d ++ slash).data.toList = false := by
  rw [← Lib.hasPrefix_of_take]
  have hd : (d ++ slash).data.toList.length = d.size + 1 := by simp [slash]
  have hl : p.data.toList.length = p.size := by simp
  rw [decide_eq_false (by omega), Bool.false_and]

set_option maxRecDepth 1000000
set_option maxHeartbeats 1000000 in
theorem refwithin_any (p d : ByteArray) (_hp : p.size ≤ 100000) (hd : d.size ≤ 100000) (w : World) :
    Calls Tryz.prog 42 #[.string p, .string d] w fun e w' => e = .returned (.bool (withinS p d)) ∧ w' = w := by
  by_cases h0 : d = ⟨#[]⟩
  · have e : Hid (withinS p d = true) := by show _ = _; unfold withinS; simp [h0]
    subst h0
    go_enter Tryz.func42, Tryz.ntmps42
    go_wp2
    go_ret
    exact ⟨by rw [e.out]; rfl, rfl⟩
  · have c1 := empty_no d h0
    have d1 := ne_list d [] h0
    by_cases h1 : p = d
    · have e : Hid (withinS p d = true) := by show _ = _; unfold withinS; simp [h1]
      subst h1
      clear h0
      go_enter Tryz.func42, Tryz.ntmps42
      go_wp2
      go_ret
      exact ⟨by rw [e.out]; rfl, rfl⟩
    · have c2 := nb_lists p d h1
      have d2 := ne_lists p d h1
      by_cases h2 : d.size < p.size
      · have h3 : (d.size : Int) < (p.size : Int) := by omega
        by_cases h4 : p.extract 0 d.size = d
        · obtain ⟨c, hc⟩ : ∃ c, byteAt p d.size = c := ⟨_, rfl⟩
          have e : Hid (withinS p d = (c == 47)) := by
            show _ = _; unfold withinS; rw [below_eq p d h2]; simp [h0, h1, h4, hc]
          have hc2 : p[d.size]'h2 = c := by rw [← byteAt_eq]; exact hc
          have HC := Lib.hid hc
          by_cases hb : c = 47
          · subst hb
            clear h0 h1 hc
            go_enter Tryz.func42, Tryz.ntmps42
            go_wp2
            go_ret
            exact ⟨by rw [e.out]; rfl, rfl⟩
          · have hb' : ¬ (c.toNat : Int) = 47 := by
              intro e; apply hb; apply UInt8.toNat_inj.1; show c.toNat = 47; omega
            have b1 := beq_no c.toNat 47 hb'
            have e2 : Hid (withinS p d = false) := by show _ = _; rw [e.out]; simpa using hb
            clear h0 h1 hc hb e
            go_enter Tryz.func42, Tryz.ntmps42
            go_wp2
            go_ret
            exact ⟨by rw [e2.out]; rfl, rfl⟩
        · have e : Hid (withinS p d = false) := by
            show _ = _; unfold withinS; rw [below_eq p d h2]; simp [h0, h1, h4]
          have c3 := nb_lists _ _ h4
          have d3 := ne_lists _ _ h4
          clear h0 h1 h2 h4
          go_enter Tryz.func42, Tryz.ntmps42
          go_wp2
          go_ret
          exact ⟨by rw [e.out]; rfl, rfl⟩
      · have h3 : decide (d.size < p.size) = false := by simp; omega
        have e : Hid (withinS p d = false) := by
          show _ = _; unfold withinS; rw [below_no p d h2]; simp [h0, h1]
        clear h0 h1 h2
        go_enter Tryz.func42, Tryz.ntmps42
        go_wp2
        go_ret
        exact ⟨by rw [e.out]; rfl, rfl⟩
end Go.Proofs.YtichejodbohldaaGreatDoor.Pth
namespace Go.Proofs.YtichejodbohldaaGreatDoor.Pth
open Go.RowKit

theorem OwnsS.block_lt {w : World} {base : Nat} {v : Value} {L : List ByteArray} (h : OwnsS w base v L) (k : Nat) (e : v.ownBlock = some k) : base ≤ k ∧ k < w.heap.size := World.ownsRow.lt h k e
theorem OwnsS.stays {w w1 : World} {base : Nat} {v : Value} {L : List ByteArray} (h : OwnsS w base v L) (hg : w.grownBy w1 none) : OwnsS w1 base v L :=
  World.ownsRow.kept h hg (by cases v.ownBlock with
    | none => exact .inl rfl
    | some k => exact .inr (by simp))
/-- append of one text to texts that the call owns: another block than kb stays another one. -/
theorem app_apart {w : World} {ops : Array Oper} {rest : List Oper} {o : Oper} {a : Act} {Q : Exit → Act → World → Prop} (hgd : o.guard = none) (s x : Operand)
    (ho : o.op = .call { callee := .builtin .append, args := #[s, x], argTypes := #[56, 56] }) (base B kb : Nat) (v xv : Value) (L : List ByteArray) (y : ByteArray) (hs : a.eval s = v) (hown : OwnsS w base v L)
    (hx : a.eval x = xv) (hp : PartS w B xv [y]) (hb : L.length + 1 ≤ 1000000) (hbase : base ≤ w.heap.size) (hk : v.ownBlock ≠ some kb) (hkw : kb < w.heap.size)
    (h : ∀ v' w', OwnsS w' base v' (L ++ [y]) → w.grownBy w' v.ownBlock → v'.ownBlock ≠ some kb → wpList Tryz.prog ops Q rest (a.put o.dst v') w') : wpList Tryz.prog ops Q (o :: rest) a w := by
  obtain ⟨i0, hi, hz0, hz1, hz2⟩ := info_parts info9
  obtain ⟨ap, cap, b, of, h1, h2, h6, h3, h4, h5⟩ := hp
  have hap := h4 (by simp)
  subst hap
  have hnews : ∀ j u, [Value.string y][j]? = some u → w.cell? ((⟨b, of, none⟩ : Addr).add j) = some u := by
    intro j u hu
    have hj : j = 0 := by have := (List.getElem?_eq_some_iff.1 hu).1; simpa using this
    subst hj
    have hu' : Value.string y = u := by simpa using hu
    rw [Addr.add_mid, h5 0 y rfl, hu']
  have hone : ∀ u ∈ [Value.string y], u.oneCell' = true := by
    intro u hu
    rw [List.mem_singleton.1 hu]; rfl
  have fin : ∀ v' w', w'.ownsRow w.heap.size 9 1 v' (L.length + 1) (L.map Value.string ++ [Value.string y]) → w.grownBy w' none → wpList Tryz.prog ops Q rest (a.put o.dst v') w' := by
    intro v' w' h7 h8
    have h9 : OwnsS w' w.heap.size v' (L ++ [y]) := by
      show World.ownsRow _ _ _ _ _ _ _
      rw [List.length_append, List.map_append]
      exact h7
    refine h v' w' (h9.mono hbase) ⟨h8.os, h8.tape, h8.output, h8.size, fun j hj _ => h8.block j hj (by simp)⟩ ?_
    intro e
    have := (h9.block_lt kb e).1
    omega
  have hown' := hown
  rcases hown.2 with ⟨g1, g2⟩ | ⟨g, cp, cur, g1, g2, g3, g4, g5, g6, g7⟩
  · have hL : L = [] := List.eq_nil_of_length_eq_zero g2
    subst hL
    refine wpList_append_own w hgd s x 56 ho w.heap.size 9 i0 (.string ByteArray.empty) 1 16 Tryz.underlying56 hi hz0 hz1 hz2 rfl (by decide) (.slice none 0 0) 0 [] (hs.trans g1) (World.ownsRow_nil _ _ _ _) ⟨b, of, none⟩ 1 cap [.string y] (by rw [hx, h1]; rfl) rfl hnews hone (by unfold maxLen; omega) (by omega) (Nat.le_refl _) ?_
    intro v' w' h7 h8 _
    exact fin v' w' h7 h8
  · by_cases hr : L.length + 1 ≤ cp
    · refine wpList_append_fits w hgd s x 56 ho base 9 i0 1 Tryz.underlying56 hi hz1 g L.length cp (L.map Value.string) (hs.trans g1) (by rw [← g1]; exact hown') ⟨b, of, none⟩ 1 cap [.string y] (by rw [hx, h1]; rfl) rfl hnews hone hr ?_
      intro w' h7 h8
      have hg : v.ownBlock = some g := by rw [g1]; rfl
      refine h _ w' ?_ (by rw [hg]; exact h8) (by rw [hg] at hk; exact hk)
      show World.ownsRow _ _ _ _ _ _ _
      rw [List.length_append, List.map_append]
      exact h7
    · refine wpList_append_grows w hgd s x 56 ho 9 i0 (.string ByteArray.empty) 1 16 Tryz.underlying56 hi hz0 hz1 hz2 rfl (by decide) (some ⟨g, 0, none⟩) L.length cp (L.map Value.string) (hs.trans g1) (fun e => by simp at e) (by simp) ?_
        ⟨b, of, none⟩ 1 cap [.string y] (by rw [hx, h1]; rfl) rfl hnews hone (by omega) (by unfold maxLen; omega) (by omega) fin
      intro b3 hb3 j u hu
      have hj : j < L.length := by have := (List.getElem?_eq_some_iff.1 hu).1; simpa using this
      rw [← Option.some.inj hb3, Addr.add_mid, Nat.zero_add]
      simp only [World.cell?, g3]
      have e : (L.map Value.string)[j]? = cur[j]? := by
        rw [← g7, List.getElem?_take, if_pos (by omega), Array.getElem?_toList]
      simpa [← e] using hu

/-- Texts P that lie in block kb. -/
def LieS (w : World) (kb o : Nat) (P : List ByteArray) : Prop := ∀ j x, P[j]? = some x → w.cell? ⟨kb, o + j, none⟩ = some (.string x)
theorem LieS.grown {w w' : World} {kb o : Nat} {P : List ByteArray} {r : Option Nat} (h : LieS w kb o P) (hg : w.grownBy w' r) (hr : r ≠ some kb) : LieS w' kb o P :=
  fun j x hj => hg.cell (h j x hj) (fun e => hr e.symm)

set_option maxRecDepth 1000000
set_option maxHeartbeats 8000000 in
theorem refwalk_base (s : ByteArray) (root : List ByteArray) (r rc B0 : Nat) (ra : Option Addr) (w : World) (hw0 : 0 < w.heap.size) (hr : root.length = r) (hr2 : r ≤ 1000) (hsum : sumS root ≤ 100000) (hpr : PartS w B0 (.slice ra r rc) root)
    (hl : ¬ 200 < s.size) (hp : Lib.hasPrefix s.data.toList slash.data.toList = false) : Calls Tryz.prog 69 #[.string s, .slice ra r rc] w (WalkRet w (walkS root s)) := by
  obtain ⟨P, hP⟩ : ∃ P, pieces s = P := ⟨_, rfl⟩
  obtain ⟨N, hPN⟩ : ∃ N, P.length = N := ⟨_, rfl⟩
  have hNs : N ≤ 201 := by rw [← hPN, ← hP]; have := pieces_le s; omega
  have hN0 : 0 < N := by rw [← hPN, ← hP, pieces_len]; omega
  have hsz : ∀ p ∈ P, p.size ≤ 200 := fun p hp => by rw [← hP] at hp; exact Nat.le_trans (pieces_size s p hp) (by omega)
  have e : Hid (walkS root s = if (walkL r root P).1 ≠ 0 then (⟨#[]⟩, (walkL r root P).1) else if 12 < (walkL r root P).2.length then (⟨#[]⟩, 50) else (joinB (walkL r root P).2, 0)) := by
    show _ = _; unfold walkS; rw [if_neg (by simp [hp]), hP, hr]
  have hss : s.size ≤ 200 := by omega
  have h2 : decide (200 < (s.size : Int)) = false := by simp; omega
  have HPP := Lib.hid hP
  have HPN := Lib.hid hPN
  have HSZ := Lib.hid hsz
  have HR := Lib.hid hr
  rw [prefix_byte] at hp
  have hs0 : s.size = 0 ∨ ∃ h : 0 < s.size, ∃ c : UInt8, s[0]'h = c ∧ ((c.toNat : Int) == 47) = false := by
    by_cases h : 0 < s.size
    · refine .inr ⟨h, s[0]'h, rfl, ?_⟩
      rw [decide_eq_true h, Bool.true_and, byteAt_eq s 0 h] at hp
      refine beq_no _ _ fun e => ?_
      have : (s[0]'h) = 47 := by apply UInt8.toNat_inj.1; show _ = 47; omega
      rw [this] at hp; simp at hp
    · exact .inl (by omega)
  have HW0 := Lib.hid hw0
  have HS5 := Lib.hid (show s.size ≤ 100000 by omega)
  have HPR := Lib.hid hpr
  clear hp hP hPN hsz hl hw0 hr hpr
  rcases hs0 with h0 | ⟨h0, c, hc, hc47⟩
  · have h3 : decide (0 < (s.size : Int)) = false := by rw [h0]; rfl
    go_enter Tryz.func69, Tryz.ntmps69
    go_wp2_with (at_builtin; go_must (with_reducible refine app_str (o := ⟨some 21, _, _, _, _, _⟩) rfl _ _ rfl w.heap.size B0 (.slice none 0 0) _ [] root ?_ (OwnsS.nil _ _) ?_ HPR.out ?_ (Nat.le_refl _) ?_); go_must (exact rfl); go_must (exact rfl); go_must ((have := HR.out; simp; omega)); (intro vb wb hob hgb); have HOB := Lib.hid hob; have HGB := Lib.hid hgb; clear hob hgb)
    (with_reducible refine (refsplit_any s HS5.out _).mono ?_)
    rintro ee w1 ⟨lv, rfl, hlo, hlg⟩
    dsimp only
    rw [HPP.out] at hlo
    obtain ⟨la, lcap, hlf, hlc, hlm⟩ := hlo.form
    rw [HPN.out] at hlf hlc
    subst hlf
    obtain ⟨kb, hkb, hkb1, hkb2, hlie⟩ : ∃ kb, la = some ⟨kb, 0, none⟩ ∧ wb.heap.size ≤ kb ∧ kb < w1.heap.size ∧ LieS w1 kb 0 P := by
      rcases hlo.2 with ⟨g1, g2⟩ | ⟨g, cp, cur, g1, g2, g3, g4, g5, g6, g7⟩
      · have := HPN.out; omega
      · refine ⟨g, (Value.slice.inj g1).1, g2, (hlo.block_lt g (by rw [g1]; rfl)).2, fun j x hj => ?_⟩
        rw [Nat.zero_add]
        simp only [World.cell?, g3]
        have hjl := (List.getElem?_eq_some_iff.1 hj).1
        have e : (P.map Value.string)[j]? = cur[j]? := by
          rw [← g7, List.getElem?_take, if_pos (by omega), Array.getElem?_toList]
        rw [List.getElem?_map, hj] at e
        simpa using e.symm
    subst hkb
    have hvb : vb.ownBlock ≠ some kb := by
      intro e2
      have := (HOB.out.block_lt kb e2).2
      omega
    have hvb2 : OwnsS w1 w.heap.size vb root := OwnsS.stays HOB.out hlg
    have HVB := Lib.hid hvb
    have HVB2 := Lib.hid hvb2
    have HLI := Lib.hid hlie
    have HLG := Lib.hid (show w.grownBy w1 none from World.grownBy.trans (OwnsS.grown (OwnsS.nil w w.heap.size) (World.grownBy.refl _ _) HGB.out) hlg)
    obtain ⟨va, vcap, hvf, hvc, hvm⟩ := HVB2.out.form
    subst hvf
    have HL1 := Lib.hid hlg.size
    have HGS := Lib.hid HGB.out.size
    clear hlo hlg hvb hvb2 hlie
    go_wp2
    go_loopw [6, 8] (fun v i wr => ∃ (k n cp : Nat) (ad : Option Addr) (out : List ByteArray), k ≤ N ∧ i = .int .i64 k ∧ v = .slice ad n cp ∧ n = out.length ∧ cp ≤ 9223372036854775807 ∧ WalkAt r root P out k ∧ OwnsS wr w.heap.size v out ∧ v.ownBlock ≠ some kb ∧ LieS wr kb 0 P ∧ w.grownBy wr none ∧ w1.heap.size ≤ wr.heap.size) (fun _ i _ => N - (intOf i).toNat)
    case atStart => exact ⟨0, root.length, vcap, va, root, by omega, rfl, rfl, rfl, hvm, ⟨rfl, by rw [HR.out]; exact Nat.le_refl _, by rw [HR.out]; exact Nat.le_refl _, by omega⟩, HVB2.out, HVB.out, HLI.out, HLG.out, Nat.le_refl _⟩
    case round =>
      obtain ⟨k, n, cp, ad, out, hk, rfl, rfl, hn, hcp, hat, hown, hne, hli, hgw, hws⟩ := hrel
      have hnr : r ≤ n := by rw [hn]; exact hat.least
      have hnk : n ≤ r + k := by rw [hn]; exact hat.most
      have hncp : n ≤ cp := by
        obtain ⟨a', cap', h2, h3, h4⟩ := hown.form
        have := Value.slice.inj h2; omega
      have HN := Lib.hid hn
      have HAT := Lib.hid hat
      have HO := Lib.hid hown
      have HG := Lib.hid hgw
      have HNE := Lib.hid hne
      have HLR := Lib.hid hli
      have HWS := Lib.hid hws
      clear hn hat hown hgw hne hli hws
      by_cases hlt : k < N
      · obtain ⟨x, hx⟩ : ∃ x, strAt P k = x := ⟨_, rfl⟩
        have hPk : P[k]? = some x := by rw [← hx]; exact strAt_eq P k (by rw [HPN.out]; exact hlt)
        have hcx : wr.cell? ⟨kb, k, none⟩ = some (.string x) := by have := HLR.out k x hPk; rwa [Nat.zero_add] at this
        have hx1 : x.size ≤ 200 := HSZ.out x (List.mem_of_getElem? hPk)
        have hdrop := Lib.hid (show P.drop k = x :: P.drop (k + 1) by
          have hl := (List.getElem?_eq_some_iff.1 hPk)
          obtain ⟨hl1, hl2⟩ := hl
          rw [List.drop_eq_getElem_cons hl1, hl2])
        clear hx hPk
        by_cases h1 : x = ⟨#[]⟩ ∨ x = dot
        · have hnext := Lib.hid (show WalkAt r root P out (k + 1) from ⟨by rw [HAT.out.same, hdrop.out, walkL_none _ _ _ _ h1], HAT.out.least, by have := HAT.out.most; omega, by have := HAT.out.sum; omega⟩)
          rcases h1 with rfl | rfl
          · go_wp2
            go_roundw
            case rel => exact ⟨k + 1, n, cp, ad, out, by omega, by go_num, rfl, HN.out, hcp, hnext.out, HO.out, HNE.out, HLR.out, HG.out, HWS.out⟩
            case measure => simp [intOf]; omega
          · unfold dot at hcx
            go_wp2
            go_roundw
            case rel => exact ⟨k + 1, n, cp, ad, out, by omega, by go_num, rfl, HN.out, hcp, hnext.out, HO.out, HNE.out, HLR.out, HG.out, HWS.out⟩
            case measure => simp [intOf]; omega
        · by_cases h2 : x = dots
          · subst h2
            clear h1
            by_cases h3 : n = r
            · have he : Hid (walkS root s = (⟨#[]⟩, 51)) := by
                show _ = _
                rw [e.out, HAT.out.same, hdrop.out, walkL_out r out _ (by rw [← HN.out]; exact h3)]
                rfl
              unfold dots at hcx
              subst h3
              go_wp2
              go_ret2
              exact ⟨by rw [he.out]; rfl, HG.out⟩
            · have hsh := Lib.hid (HO.out.shorter HN.out.symm (by omega))
              have hnext := Lib.hid (show WalkAt r root P out.dropLast (k + 1) from ⟨by rw [HAT.out.same, hdrop.out, walkL_up r out _ (by rw [← HN.out]; exact h3)], by rw [List.length_dropLast, ← HN.out]; omega, by rw [List.length_dropLast, ← HN.out]; omega, by have := HAT.out.sum; have := sumS_drop out; omega⟩)
              have hne9 : Hid ((Value.slice ad (n - 1) cp).ownBlock ≠ some kb) := by
                have := HNE.out
                cases ad <;> exact this
              unfold dots at hcx
              have hne : decide (n ≤ r) = false := by simp; omega
              have hne2 : r < n := by omega
              have hne3 : 0 < (n : Int) := by omega
              go_wp2
              go_roundw
              case rel =>
                refine ⟨k + 1, n - 1, cp, ad, out.dropLast, by omega, by go_num, rfl, by rw [List.length_dropLast, HN.out], hcp, hnext.out, hsh.out, hne9.out, HLR.out, HG.out, HWS.out⟩
              case measure => simp [intOf]; omega
          · have b1 : ¬ x = ⟨#[]⟩ := fun e => h1 (.inl e)
            have b2 : ¬ x = ⟨#[46]⟩ := fun e => h1 (.inr e)
            have b3 : ¬ x = ⟨#[46, 46]⟩ := h2
            have d1 := ne_list x [] b1
            have d2 := ne_list x [46] b2
            have d3 := ne_list x [46, 46] b3
            have c1 : x.toList.isEmpty = false := by
              cases hl : x.toList with
              | nil => exact absurd hl d1
              | cons _ _ => rfl
            have c2 := nb_list x [46] b2
            have c3 := nb_list x [46, 46] b3
            have H1 := Lib.hid b1
            have H2 := Lib.hid b2
            have H3 := Lib.hid b3
            clear h1 h2 b1 b2 b3
            go_wp2_with fail
            (with_reducible refine (bad_any x (by omega) _).mono ?_)
            rintro ee w' ⟨rfl, hw'⟩
            rw [hw']
            clear hw' w'
            dsimp only
            by_cases hg : okPart x = true
            · rw [hg]
              have hsum2 := sumS_snoc out x
              have hnext := Lib.hid (show WalkAt r root P (out ++ [x]) (k + 1) from ⟨by rw [HAT.out.same, hdrop.out, walkL_good r out x _ H1.out H2.out H3.out hg], by rw [List.length_append, ← HN.out]; omega, by rw [List.length_append, ← HN.out]; simp; omega, by rw [hsum2]; have := HAT.out.sum; omega⟩)
              clear hsum2 hg
              go_wp2_with (at_builtin; go_must (with_reducible refine app_apart (o := ⟨some 36, _, _, _, _, _⟩) rfl _ _ rfl w.heap.size (wr.heap.size + 1) kb (.slice ad n cp) _ out x ?_ (HO.out.alloc _) ?_ (part_str wr _ 9) ?_ ?_ HNE.out ?_ ?_); go_must (exact rfl); go_must (exact rfl); go_must ((have := HN.out; omega)); go_must ((have := HG.out.size; rw [alloc_size]; omega)); go_must ((have := HWS.out; rw [alloc_size]; omega)); (intro v2 w2 ho2 hg2 hn2); have HO2 := Lib.hid ho2; have HG2 := Lib.hid (HO.out.alloc (.cells #[.string x] 9) |>.grown (World.grownBy.trans HG.out (World.grownBy_alloc _ _ _)) hg2); have HN2 := Lib.hid hn2; have HL2 := Lib.hid ((HLR.out.grown (World.grownBy_alloc wr (.cells #[.string x] 9) none) (by simp)).grown hg2 HNE.out); have HW2 := Lib.hid (show w1.heap.size ≤ w2.heap.size by have := HWS.out; have := hg2.size; rw [alloc_size] at this; omega); clear ho2 hg2 hn2)
              go_roundw
              case rel =>
                obtain ⟨ad2, cp2, e1, e2, e3⟩ := HO2.out.form
                exact ⟨k + 1, _, cp2, ad2, out ++ [x], by omega, by go_num, e1, rfl, e3, hnext.out, HO2.out, HN2.out, HL2.out, HG2.out, HW2.out⟩
              case measure => simp [intOf]; omega
            · have hg' : okPart x = false := by simpa using hg
              rw [hg']
              have he : Hid (walkS root s = (⟨#[]⟩, 50)) := by
                show _ = _
                rw [e.out, HAT.out.same, hdrop.out, walkL_bad r out x _ H1.out H2.out H3.out hg']
                rfl
              clear hg hg'
              go_wp2
              go_ret2
              exact ⟨by rw [he.out]; rfl, HG.out⟩
      · have hkN : k = N := by omega
        subst hkN
        clear hlt hk
        have hw : Hid (walkL r root P = (0, out)) := by
          show _ = _
          rw [HAT.out.same, List.drop_of_length_le (by rw [HPN.out]; exact Nat.le_refl _)]
          rfl
        have hpart : Hid (PartS wr wr.heap.size (.slice ad n cp) out) := HO.out.part (by have := HG.out.size; have := HW0.out; omega)
        by_cases h12 : 12 < n
        · have he : Hid (walkS root s = (⟨#[]⟩, 50)) := by
            show _ = _
            rw [e.out, hw.out, if_neg (by simp), if_pos (by rw [← HN.out]; exact h12)]
          have h13 : 12 < (n : Int) := by omega
          clear h12
          go_wp2
          go_ret2
          exact ⟨by rw [he.out]; rfl, HG.out⟩
        · have he : Hid (walkS root s = (joinB out, 0)) := by
            show _ = _
            rw [e.out, hw.out, if_neg (by simp), if_neg (by rw [← HN.out]; exact h12)]
          have h13 : decide (12 < (n : Int)) = false := by simp; omega
          have hsm : sumS out ≤ 100000000 := by have := HAT.out.sum; omega
          have HSM := Lib.hid hsm
          clear hsm
          go_wp2_with fail
          (with_reducible refine (glue_any wr.heap.size n cp ad out _ HN.out.symm (by omega) HSM.out hpart.out).mono ?_)
          rintro ee w' ⟨rfl, hw'⟩
          rw [hw']
          clear hw' w'
          dsimp only
          go_wp2
          go_ret2
          exact ⟨by rw [he.out]; rfl, HG.out⟩
  · have h3 : 0 < (s.size : Int) := by omega
    go_enter Tryz.func69, Tryz.ntmps69
    go_wp2_with (at_builtin; go_must (with_reducible refine app_str (o := ⟨some 21, _, _, _, _, _⟩) rfl _ _ rfl w.heap.size B0 (.slice none 0 0) _ [] root ?_ (OwnsS.nil _ _) ?_ HPR.out ?_ (Nat.le_refl _) ?_); go_must (exact rfl); go_must (exact rfl); go_must ((have := HR.out; simp; omega)); (intro vb wb hob hgb); have HOB := Lib.hid hob; have HGB := Lib.hid hgb; clear hob hgb)
    (with_reducible refine (refsplit_any s HS5.out _).mono ?_)
    rintro ee w1 ⟨lv, rfl, hlo, hlg⟩
    dsimp only
    rw [HPP.out] at hlo
    obtain ⟨la, lcap, hlf, hlc, hlm⟩ := hlo.form
    rw [HPN.out] at hlf hlc
    subst hlf
    obtain ⟨kb, hkb, hkb1, hkb2, hlie⟩ : ∃ kb, la = some ⟨kb, 0, none⟩ ∧ wb.heap.size ≤ kb ∧ kb < w1.heap.size ∧ LieS w1 kb 0 P := by
      rcases hlo.2 with ⟨g1, g2⟩ | ⟨g, cp, cur, g1, g2, g3, g4, g5, g6, g7⟩
      · have := HPN.out; omega
      · refine ⟨g, (Value.slice.inj g1).1, g2, (hlo.block_lt g (by rw [g1]; rfl)).2, fun j x hj => ?_⟩
        rw [Nat.zero_add]
        simp only [World.cell?, g3]
        have hjl := (List.getElem?_eq_some_iff.1 hj).1
        have e : (P.map Value.string)[j]? = cur[j]? := by
          rw [← g7, List.getElem?_take, if_pos (by omega), Array.getElem?_toList]
        rw [List.getElem?_map, hj] at e
        simpa using e.symm
    subst hkb
    have hvb : vb.ownBlock ≠ some kb := by
      intro e2
      have := (HOB.out.block_lt kb e2).2
      omega
    have hvb2 : OwnsS w1 w.heap.size vb root := OwnsS.stays HOB.out hlg
    have HVB := Lib.hid hvb
    have HVB2 := Lib.hid hvb2
    have HLI := Lib.hid hlie
    have HLG := Lib.hid (show w.grownBy w1 none from World.grownBy.trans (OwnsS.grown (OwnsS.nil w w.heap.size) (World.grownBy.refl _ _) HGB.out) hlg)
    obtain ⟨va, vcap, hvf, hvc, hvm⟩ := HVB2.out.form
    subst hvf
    have HL1 := Lib.hid hlg.size
    have HGS := Lib.hid HGB.out.size
    clear hlo hlg hvb hvb2 hlie
    go_wp2
    go_loopw [6, 8] (fun v i wr => ∃ (k n cp : Nat) (ad : Option Addr) (out : List ByteArray), k ≤ N ∧ i = .int .i64 k ∧ v = .slice ad n cp ∧ n = out.length ∧ cp ≤ 9223372036854775807 ∧ WalkAt r root P out k ∧ OwnsS wr w.heap.size v out ∧ v.ownBlock ≠ some kb ∧ LieS wr kb 0 P ∧ w.grownBy wr none ∧ w1.heap.size ≤ wr.heap.size) (fun _ i _ => N - (intOf i).toNat)
    case atStart => exact ⟨0, root.length, vcap, va, root, by omega, rfl, rfl, rfl, hvm, ⟨rfl, by rw [HR.out]; exact Nat.le_refl _, by rw [HR.out]; exact Nat.le_refl _, by omega⟩, HVB2.out, HVB.out, HLI.out, HLG.out, Nat.le_refl _⟩
    case round =>
      obtain ⟨k, n, cp, ad, out, hk, rfl, rfl, hn, hcp, hat, hown, hne, hli, hgw, hws⟩ := hrel
      have hnr : r ≤ n := by rw [hn]; exact hat.least
      have hnk : n ≤ r + k := by rw [hn]; exact hat.most
      have hncp : n ≤ cp := by
        obtain ⟨a', cap', h2, h3, h4⟩ := hown.form
        have := Value.slice.inj h2; omega
      have HN := Lib.hid hn
      have HAT := Lib.hid hat
      have HO := Lib.hid hown
      have HG := Lib.hid hgw
      have HNE := Lib.hid hne
      have HLR := Lib.hid hli
      have HWS := Lib.hid hws
      clear hn hat hown hgw hne hli hws
      by_cases hlt : k < N
      · obtain ⟨x, hx⟩ : ∃ x, strAt P k = x := ⟨_, rfl⟩
        have hPk : P[k]? = some x := by rw [← hx]; exact strAt_eq P k (by rw [HPN.out]; exact hlt)
        have hcx : wr.cell? ⟨kb, k, none⟩ = some (.string x) := by have := HLR.out k x hPk; rwa [Nat.zero_add] at this
        have hx1 : x.size ≤ 200 := HSZ.out x (List.mem_of_getElem? hPk)
        have hdrop := Lib.hid (show P.drop k = x :: P.drop (k + 1) by
          have hl := (List.getElem?_eq_some_iff.1 hPk)
          obtain ⟨hl1, hl2⟩ := hl
          rw [List.drop_eq_getElem_cons hl1, hl2])
        clear hx hPk
        by_cases h1 : x = ⟨#[]⟩ ∨ x = dot
        · have hnext := Lib.hid (show WalkAt r root P out (k + 1) from ⟨by rw [HAT.out.same, hdrop.out, walkL_none _ _ _ _ h1], HAT.out.least, by have := HAT.out.most; omega, by have := HAT.out.sum; omega⟩)
          rcases h1 with rfl | rfl
          · go_wp2
            go_roundw
            case rel => exact ⟨k + 1, n, cp, ad, out, by omega, by go_num, rfl, HN.out, hcp, hnext.out, HO.out, HNE.out, HLR.out, HG.out, HWS.out⟩
            case measure => simp [intOf]; omega
          · unfold dot at hcx
            go_wp2
            go_roundw
            case rel => exact ⟨k + 1, n, cp, ad, out, by omega, by go_num, rfl, HN.out, hcp, hnext.out, HO.out, HNE.out, HLR.out, HG.out, HWS.out⟩
            case measure => simp [intOf]; omega
        · by_cases h2 : x = dots
          · subst h2
            clear h1
            by_cases h3 : n = r
            · have he : Hid (walkS root s = (⟨#[]⟩, 51)) := by
                show _ = _
                rw [e.out, HAT.out.same, hdrop.out, walkL_out r out _ (by rw [← HN.out]; exact h3)]
                rfl
              unfold dots at hcx
              subst h3
              go_wp2
              go_ret2
              exact ⟨by rw [he.out]; rfl, HG.out⟩
            · have hsh := Lib.hid (HO.out.shorter HN.out.symm (by omega))
              have hnext := Lib.hid (show WalkAt r root P out.dropLast (k + 1) from ⟨by rw [HAT.out.same, hdrop.out, walkL_up r out _ (by rw [← HN.out]; exact h3)], by rw [List.length_dropLast, ← HN.out]; omega, by rw [List.length_dropLast, ← HN.out]; omega, by have := HAT.out.sum; have := sumS_drop out; omega⟩)
              have hne9 : Hid ((Value.slice ad (n - 1) cp).ownBlock ≠ some kb) := by
                have := HNE.out
                cases ad <;> exact this
              unfold dots at hcx
              have hne : decide (n ≤ r) = false := by simp; omega
              have hne2 : r < n := by omega
              have hne3 : 0 < (n : Int) := by omega
              go_wp2
              go_roundw
              case rel =>
                refine ⟨k + 1, n - 1, cp, ad, out.dropLast, by omega, by go_num, rfl, by rw [List.length_dropLast, HN.out], hcp, hnext.out, hsh.out, hne9.out, HLR.out, HG.out, HWS.out⟩
              case measure => simp [intOf]; omega
          · have b1 : ¬ x = ⟨#[]⟩ := fun e => h1 (.inl e)
            have b2 : ¬ x = ⟨#[46]⟩ := fun e => h1 (.inr e)
            have b3 : ¬ x = ⟨#[46, 46]⟩ := h2
            have d1 := ne_list x [] b1
            have d2 := ne_list x [46] b2
            have d3 := ne_list x [46, 46] b3
            have c1 : x.toList.isEmpty = false := by
              cases hl : x.toList with
              | nil => exact absurd hl d1
              | cons _ _ => rfl
            have c2 := nb_list x [46] b2
            have c3 := nb_list x [46, 46] b3
            have H1 := Lib.hid b1
            have H2 := Lib.hid b2
            have H3 := Lib.hid b3
            clear h1 h2 b1 b2 b3
            go_wp2_with fail
            (with_reducible refine (bad_any x (by omega) _).mono ?_)
            rintro ee w' ⟨rfl, hw'⟩
            rw [hw']
            clear hw' w'
            dsimp only
            by_cases hg : okPart x = true
            · rw [hg]
              have hsum2 := sumS_snoc out x
              have hnext := Lib.hid (show WalkAt r root P (out ++ [x]) (k + 1) from ⟨by rw [HAT.out.same, hdrop.out, walkL_good r out x _ H1.out H2.out H3.out hg], by rw [List.length_append, ← HN.out]; omega, by rw [List.length_append, ← HN.out]; simp; omega, by rw [hsum2]; have := HAT.out.sum; omega⟩)
              clear hsum2 hg
              go_wp2_with (at_builtin; go_must (with_reducible refine app_apart (o := ⟨some 36, _, _, _, _, _⟩) rfl _ _ rfl w.heap.size (wr.heap.size + 1) kb (.slice ad n cp) _ out x ?_ (HO.out.alloc _) ?_ (part_str wr _ 9) ?_ ?_ HNE.out ?_ ?_); go_must (exact rfl); go_must (exact rfl); go_must ((have := HN.out; omega)); go_must ((have := HG.out.size; rw [alloc_size]; omega)); go_must ((have := HWS.out; rw [alloc_size]; omega)); (intro v2 w2 ho2 hg2 hn2); have HO2 := Lib.hid ho2; have HG2 := Lib.hid (HO.out.alloc (.cells #[.string x] 9) |>.grown (World.grownBy.trans HG.out (World.grownBy_alloc _ _ _)) hg2); have HN2 := Lib.hid hn2; have HL2 := Lib.hid ((HLR.out.grown (World.grownBy_alloc wr (.cells #[.string x] 9) none) (by simp)).grown hg2 HNE.out); have HW2 := Lib.hid (show w1.heap.size ≤ w2.heap.size by have := HWS.out; have := hg2.size; rw [alloc_size] at this; omega); clear ho2 hg2 hn2)
              go_roundw
              case rel =>
                obtain ⟨ad2, cp2, e1, e2, e3⟩ := HO2.out.form
                exact ⟨k + 1, _, cp2, ad2, out ++ [x], by omega, by go_num, e1, rfl, e3, hnext.out, HO2.out, HN2.out, HL2.out, HG2.out, HW2.out⟩
              case measure => simp [intOf]; omega
            · have hg' : okPart x = false := by simpa using hg
              rw [hg']
              have he : Hid (walkS root s = (⟨#[]⟩, 50)) := by
                show _ = _
                rw [e.out, HAT.out.same, hdrop.out, walkL_bad r out x _ H1.out H2.out H3.out hg']
                rfl
              clear hg hg'
              go_wp2
              go_ret2
              exact ⟨by rw [he.out]; rfl, HG.out⟩
      · have hkN : k = N := by omega
        subst hkN
        clear hlt hk
        have hw : Hid (walkL r root P = (0, out)) := by
          show _ = _
          rw [HAT.out.same, List.drop_of_length_le (by rw [HPN.out]; exact Nat.le_refl _)]
          rfl
        have hpart : Hid (PartS wr wr.heap.size (.slice ad n cp) out) := HO.out.part (by have := HG.out.size; have := HW0.out; omega)
        by_cases h12 : 12 < n
        · have he : Hid (walkS root s = (⟨#[]⟩, 50)) := by
            show _ = _
            rw [e.out, hw.out, if_neg (by simp), if_pos (by rw [← HN.out]; exact h12)]
          have h13 : 12 < (n : Int) := by omega
          clear h12
          go_wp2
          go_ret2
          exact ⟨by rw [he.out]; rfl, HG.out⟩
        · have he : Hid (walkS root s = (joinB out, 0)) := by
            show _ = _
            rw [e.out, hw.out, if_neg (by simp), if_neg (by rw [← HN.out]; exact h12)]
          have h13 : decide (12 < (n : Int)) = false := by simp; omega
          have hsm : sumS out ≤ 100000000 := by have := HAT.out.sum; omega
          have HSM := Lib.hid hsm
          clear hsm
          go_wp2_with fail
          (with_reducible refine (glue_any wr.heap.size n cp ad out _ HN.out.symm (by omega) HSM.out hpart.out).mono ?_)
          rintro ee w' ⟨rfl, hw'⟩
          rw [hw']
          clear hw' w'
          dsimp only
          go_wp2
          go_ret2
          exact ⟨by rw [he.out]; rfl, HG.out⟩
end Go.Proofs.YtichejodbohldaaGreatDoor.Pth
