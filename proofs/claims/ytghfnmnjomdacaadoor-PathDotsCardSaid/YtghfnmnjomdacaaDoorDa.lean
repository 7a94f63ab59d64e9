/- Empty parts, dots, a way there and back: laws on lists, no program. -/
import Derived.Test.YtghfnmnjomdacaaDoorZ
import Derived.Test.YtghfnmnjomdacaaDoorS
namespace Go.Proofs.YtghfnmnjomdacaaDoor
open Go.RowKit

theorem cutL_app (a b : List UInt8) : cutL (a ++ 47 :: b) = cutL a ++ cutL b := by
  induction a with
  | nil => simp [cutL]
  | cons c r ih =>
    rw [List.cons_append, cutL, cutL, ih]
    split
    · rfl
    · cases h : cutL r with
      | nil => exact absurd h (cutL_ne r)
      | cons x t => rfl
theorem pieces_app (a b : ByteArray) : pieces (a ++ slash ++ b) = pieces a ++ pieces b := by
  rw [pieces_cut _ _ (Nat.le_refl _), pieces_cut _ a (Nat.le_refl _), pieces_cut _ b (Nat.le_refl _), ← List.map_append, ← cutL_app]
  congr 2
  simp [slash]
theorem walkL_app (nb : Nat) (A B : List ByteArray) : ∀ (out o : List ByteArray), walkL nb out A = (0, o) → walkL nb out (A ++ B) = walkL nb o B := by
  induction A with
  | nil =>
    intro out o h
    have e : out = o := congrArg Prod.snd h
    rw [e]; rfl
  | cons p ps ih =>
    intro out o h
    rw [List.cons_append]
    by_cases h1 : p = ⟨#[]⟩ ∨ p = dot
    · rw [walkL_none _ _ _ _ h1] at h ⊢
      exact ih _ _ h
    · by_cases h2 : p = dots
      · subst h2
        by_cases h3 : out.length = nb
        · rw [walkL_out _ _ _ h3] at h
          exact absurd (congrArg Prod.fst h) (by simp)
        · rw [walkL_up _ _ _ h3] at h ⊢
          exact ih _ _ h
      · have b1 : ¬ p = ⟨#[]⟩ := fun e => h1 (.inl e)
        have b2 : ¬ p = dot := fun e => h1 (.inr e)
        by_cases hg : okPart p = true
        · rw [walkL_good _ _ _ _ b1 b2 h2 hg] at h ⊢
          exact ih _ _ h
        · rw [walkL_bad _ _ _ _ b1 b2 h2 (by simpa using hg)] at h
          exact absurd (congrArg Prod.fst h) (by simp)

/-- The n-th letter. -/
def letB (c : Nat) : ByteArray := (⟨#[97, 98, 99, 100, 101, 102, 103, 104]⟩ : ByteArray).extract c (c + 1)
/-- What says nothing ahead of it. -/
def sayB : Nat → ByteArray
  | 0 => ⟨#[]⟩
  | 1 => ⟨#[46, 47]⟩
  | 2 => ⟨#[47]⟩
  | 3 => ⟨#[120, 47, 46, 46, 47]⟩
  | _ => ⟨#[121, 47, 122, 47, 46, 46, 47, 46, 46, 47]⟩
def xB : ByteArray := ⟨#[120]⟩
def yB : ByteArray := ⟨#[121]⟩
def zB : ByteArray := ⟨#[122]⟩
def sayP : Nat → List ByteArray
  | 0 => []
  | 1 => [dot]
  | 2 => [⟨#[]⟩]
  | 3 => [xB, dots]
  | _ => [yB, zB, dots, dots]
theorem say_pieces (h c : Nat) (hh : h < 5) (hc : c < 8) : pieces (sayB h ++ letB c) = sayP h ++ [letB c] := by
  have H : ∀ (h : Fin 5) (c : Fin 8), pieces (sayB h.val ++ letB c.val) = sayP h.val ++ [letB c.val] := by decide +kernel
  exact H ⟨h, hh⟩ ⟨c, hc⟩
theorem let_part (c : Nat) (hc : c < 8) : Part (letB c) ∧ (letB c).size = 1 := by
  have H : ∀ (c : Fin 8), (¬ letB c.val = ⟨#[]⟩) ∧ (¬ letB c.val = dot) ∧ (¬ letB c.val = dots) ∧ okPart (letB c.val) = true ∧ (∀ x ∈ (letB c.val).data.toList, x ≠ 47) ∧ (letB c.val).size = 1 := by decide +kernel
  obtain ⟨a, b, c, d, e, f⟩ := H ⟨c, hc⟩
  exact ⟨⟨a, b, c, d, e⟩, f⟩
theorem say_head (h c : Nat) (hh : h < 5) (hc : c < 8) : 0 < (sayB h ++ letB c).size ∧ (sayB h ++ letB c).size ≤ 11 ∧ (h = 2 → byteAt (sayB h ++ letB c) 0 = 47) ∧ (¬ h = 2 → byteAt (sayB h ++ letB c) 0 ≠ 47) := by
  have H : ∀ (h : Fin 5) (c : Fin 8), 0 < (sayB h.val ++ letB c.val).size ∧ (sayB h.val ++ letB c.val).size ≤ 11 ∧ (h.val = 2 → byteAt (sayB h.val ++ letB c.val) 0 = 47) ∧ (¬ h.val = 2 → byteAt (sayB h.val ++ letB c.val) 0 ≠ 47) := by decide +kernel
  exact H ⟨h, hh⟩ ⟨c, hc⟩
theorem walk_say (out : List ByteArray) (h c : Nat) (hh : h < 5) (hc : c < 8) : walkL 0 out (pieces (sayB h ++ letB c)) = (0, out ++ [letB c]) := by
  rw [say_pieces h c hh hc]
  have hp := (let_part c hc).1
  have hend : ∀ o : List ByteArray, walkL 0 o [letB c] = (0, o ++ [letB c]) := fun o => walkL_good 0 o _ _ hp.some hp.one hp.two hp.ok
  match h, hh with
  | 0, _ => exact hend out
  | 1, _ => exact (walkL_none 0 out dot _ (.inr rfl)).trans (hend out)
  | 2, _ => exact (walkL_none 0 out ⟨#[]⟩ _ (.inl rfl)).trans (hend out)
  | 3, _ =>
    show walkL 0 out (xB :: dots :: [letB c]) = _
    rw [walkL_good 0 out xB _ (by decide) (by decide) (by decide) (by decide), walkL_up 0 _ _ (by simp), List.dropLast_concat]
    exact hend out
  | 4, _ =>
    show walkL 0 out (yB :: zB :: dots :: dots :: [letB c]) = _
    rw [walkL_good 0 out yB _ (by decide) (by decide) (by decide) (by decide), walkL_good 0 _ zB _ (by decide) (by decide) (by decide) (by decide), walkL_up 0 _ _ (by simp), List.dropLast_concat, walkL_up 0 _ _ (by simp), List.dropLast_concat]
    exact hend out

/-- How far the law's loop has come: h is the first way. -/
structure DotsAt (C : List Nat) (h0 : Nat) (pl s : ByteArray) (k : Nat) : Prop where
  plain : pl = joinB ((C.take k).map letB)
  psize : pl.size ≤ 2 * k
  size : s.size ≤ 12 * k
  none : k = 0 → s = ⟨#[]⟩
  pos : 0 < k → 0 < s.size
  lead : 0 < k → h0 = 2 → byteAt s 0 = 47
  head : 0 < k → ¬ h0 = 2 → byteAt s 0 ≠ 47 ∧ walkL 0 [] (pieces s) = (0, (C.take k).map letB)
theorem DotsAt.start (C : List Nat) (h0 : Nat) : DotsAt C h0 ⟨#[]⟩ ⟨#[]⟩ 0 :=
  ⟨rfl, Nat.le_refl _, Nat.le_refl _, fun _ => rfl, fun h => by omega, fun h => by omega, fun h => by omega⟩
theorem DotsAt.first {C : List Nat} {h0 c : Nat} (hc : C[0]? = some c) (hc8 : c < 8) (hh : h0 < 5) : DotsAt C h0 (⟨#[]⟩ ++ letB c) (⟨#[]⟩ ++ sayB h0 ++ letB c) 1 := by
  have e := take_snocL C 0 c hc
  have e1 : (⟨#[]⟩ : ByteArray) ++ letB c = letB c := ByteArray.empty_append
  have e2 : (⟨#[]⟩ : ByteArray) ++ sayB h0 = sayB h0 := ByteArray.empty_append
  have hz := (let_part c hc8).2
  obtain ⟨p1, p2, p3, p4⟩ := say_head h0 c hh hc8
  rw [Nat.zero_add, List.take_zero, List.nil_append] at e
  rw [e1, e2]
  refine ⟨by rw [e, List.map_cons, List.map_nil, joinB_one], by omega, by omega, fun h => by omega, fun _ => p1, fun _ h => p3 h, fun _ h => ⟨p4 h, ?_⟩⟩
  rw [walk_say [] h0 c hh hc8, e]; rfl
theorem DotsAt.next {C : List Nat} {h0 c h : Nat} {pl s : ByteArray} {k : Nat} (hd : DotsAt C h0 pl s k) (hk : 0 < k) (hc : C[k]? = some c) (hc8 : c < 8) (hh : h < 5) :
    DotsAt C h0 (pl ++ slash ++ letB c) (s ++ slash ++ sayB h ++ letB c) (k + 1) := by
  have e := take_snocL C k c hc
  have hz := (let_part c hc8).2
  obtain ⟨p1, p2, p3, p4⟩ := say_head h c hh hc8
  have hlen : s ++ slash ++ sayB h ++ letB c = s ++ slash ++ (sayB h ++ letB c) := ByteArray.append_assoc
  have hsl : slash.size = 1 := rfl
  have hb : byteAt (s ++ slash ++ (sayB h ++ letB c)) 0 = byteAt s 0 := by
    rw [byteAt_app _ _ (by rw [ByteArray.size_append]; have := hd.pos hk; omega), byteAt_app _ _ (hd.pos hk)]
  rw [hlen]
  refine ⟨?_, ?_, ?_, fun h => by omega, fun _ => ?_, fun _ h => by rw [hb]; exact hd.lead hk h, fun _ h => ⟨by rw [hb]; exact (hd.head hk h).1, ?_⟩⟩
  · rw [e, List.map_append, List.map_cons, List.map_nil, joinB_snoc _ _ (by
      intro e2
      have h1 := congrArg List.length e2
      have h2 : k < C.length := (List.getElem?_eq_some_iff.1 hc).1
      rw [List.length_map, List.length_take, List.length_nil] at h1
      omega), ← hd.plain]
  · rw [ByteArray.size_append, ByteArray.size_append]; have := hd.psize; omega
  · rw [ByteArray.size_append, ByteArray.size_append]; have := hd.size; omega
  · rw [ByteArray.size_append, ByteArray.size_append]; have := hd.pos hk; omega
  · rw [pieces_app, walkL_app 0 _ _ _ _ (hd.head hk h).2, walk_say _ _ c hh hc8, e, List.map_append]; rfl
theorem letters_part (C : List Nat) (h : ∀ c ∈ C, c < 8) : ∀ p ∈ C.map letB, Part p := by
  intro p hp
  obtain ⟨c, hc, rfl⟩ := List.mem_map.1 hp
  exact (let_part c (h c hc)).1
/-- It leads out from the start. -/
theorem DotsAt.out {C : List Nat} {h0 : Nat} {pl s : ByteArray} {k : Nat} (hd : DotsAt C h0 pl s k) (hk : 0 < k) (h : h0 = 2) (h8 : k ≤ 8) : cleanS s = (⟨#[]⟩, 51) := by
  unfold cleanS walkS
  have := hd.size
  rw [if_neg (by omega), if_pos]
  rw [prefix_byte, hd.lead hk h, decide_eq_true (hd.pos hk)]; rfl
theorem walkS_of (s : ByteArray) (L : List ByteArray) (hs : s.size ≤ 200) (h0 : s.size = 0 ∨ byteAt s 0 ≠ 47) (hl : L.length ≤ 12) (hw : walkL 0 [] (pieces s) = (0, L)) : cleanS s = (joinB L, 0) := by
  have hp : ¬ Lib.hasPrefix s.data.toList slash.data.toList = true := by
    rw [prefix_byte]
    rcases h0 with h0 | h0
    · simp [h0]
    · simp [h0]
  unfold cleanS walkS
  rw [if_neg (by omega), if_neg hp, show ([] : List ByteArray).length = 0 from rfl, hw]
  simp only
  rw [if_neg (by simp), if_neg (by omega)]
/-- What says nothing is gone. -/
theorem DotsAt.clean {C : List Nat} {h0 : Nat} {pl s : ByteArray} {k : Nat} (hd : DotsAt C h0 pl s k) (hn : C.length = k) (h : 0 < k → ¬ h0 = 2) (h8 : k ≤ 8) : cleanS s = (pl, 0) := by
  rcases Nat.eq_zero_or_pos k with h1 | h1
  · have e1 := hd.none h1
    have e2 := hd.plain
    rw [h1, List.take_zero] at e2
    rw [e1, e2]; decide +kernel
  · have hw := hd.head h1 (h h1)
    rw [List.take_of_length_le (by omega)] at hw
    have e2 := hd.plain
    rw [List.take_of_length_le (by omega)] at e2
    rw [e2]
    exact walkS_of s _ (by have := hd.size; omega) (.inr hw.1) (by rw [List.length_map]; omega) hw.2
theorem pieces_slash (s : ByteArray) : pieces (s ++ slash) = pieces s ++ [⟨#[]⟩] := by
  have h := pieces_app s ⟨#[]⟩
  have e : s ++ slash ++ (⟨#[]⟩ : ByteArray) = s ++ slash := ByteArray.append_empty
  rw [e] at h
  rw [h]; rfl
theorem plain_slash (L : List ByteArray) (h : ∀ p ∈ L, Part p) (h0 : L ≠ []) (hl : L.length ≤ 12) (hs : (joinB L).size ≤ 190) : cleanS (joinB L ++ slash) = (joinB L, 0) := by
  have hp := pieces_join L h0 fun q hq => (h q hq).ns
  have hz : (joinB L ++ slash).size = (joinB L).size + 1 := by rw [ByteArray.size_append]; rfl
  have hpos : 0 < (joinB L).size := by
    obtain ⟨x, r, rfl⟩ : ∃ y r, L = y :: r := List.exists_cons_of_ne_nil h0
    have h1 := joinB_size (x :: r) (by simp)
    have h2 := (h x (by simp)).pos
    simp only [sumS] at h1; omega
  refine walkS_of _ L (by omega) (.inr ?_) hl ?_
  · rw [byteAt_app _ _ hpos]
    obtain ⟨x, r, rfl⟩ : ∃ y r, L = y :: r := List.exists_cons_of_ne_nil h0
    have := joinB_head x r (h x (by simp))
    rw [prefix_byte, decide_eq_true hpos, Bool.true_and] at this
    simpa using this
  · rw [pieces_slash, hp, walkL_app 0 _ _ _ _ (walkL_parts 0 L [] h)]
    rfl
theorem joinB_pos (L : List ByteArray) (h : ∀ p ∈ L, Part p) (h0 : L ≠ []) : ¬ joinB L = ⟨#[]⟩ := by
  intro e
  obtain ⟨x, r, rfl⟩ : ∃ y r, L = y :: r := List.exists_cons_of_ne_nil h0
  have h1 := joinB_size (x :: r) (by simp)
  rw [e] at h1
  have h2 := (h x (by simp)).pos
  have h3 : (⟨#[]⟩ : ByteArray).size = 0 := rfl
  simp only [sumS] at h1; omega
end Go.Proofs.YtghfnmnjomdacaaDoor
