/- What was read as a lockfile is its pins' text (pure). -/
import Derived.Test.YthdopcdllggdaaaGreatDoorKiM
namespace Go.Proofs.YthdopcdllggdaaaGreatDoor
open Go.RowKit

theorem hex_pair : ∀ x, x < 16 → ∀ y, y < 16 → ((UInt8.ofNat x <<< 4) ||| UInt8.ofNat y).toNat = 16 * x + y := by decide +kernel
theorem hex_digit : ∀ n, n < 256 → Sha.isHex (UInt8.ofNat n) = true → Sha.dgN (Sha.hv (UInt8.ofNat n)).toNat = UInt8.ofNat n := by decide +kernel
theorem hex_two (a b : UInt8) (ha : Sha.isHex a = true) (hb : Sha.isHex b = true) : Sha.dgN (((Sha.hv a <<< 4) ||| Sha.hv b).toNat / 16) = a ∧ Sha.dgN (((Sha.hv a <<< 4) ||| Sha.hv b).toNat % 16) = b := by
  have h1 := Sha.hv_lt a
  have h2 := Sha.hv_lt b
  have e := hex_pair _ h1 _ h2
  rw [UInt8.ofNat_toNat, UInt8.ofNat_toNat] at e
  rw [e, show (16 * (Sha.hv a).toNat + (Sha.hv b).toNat) / 16 = (Sha.hv a).toNat by omega, show (16 * (Sha.hv a).toNat + (Sha.hv b).toNat) % 16 = (Sha.hv b).toNat by omega]
  have e1 := hex_digit a.toNat a.toNat_lt
  have e2 := hex_digit b.toNat b.toNat_lt
  rw [UInt8.ofNat_toNat] at e1 e2
  exact ⟨e1 ha, e2 hb⟩
/-- A sum's text is its digits. -/
theorem hex_text (s : ByteArray) (h : Sha.pb s = true) : Sha.hexL (Sha.pk s).toList = s.data.toList := by
  have hl := data_len s
  unfold Sha.pb at h
  rw [Bool.and_eq_true, decide_eq_true_eq] at h
  obtain ⟨hs, hg⟩ := h
  have hpb : Sha.pb s = true := by unfold Sha.pb; rw [decide_eq_true hs, hg]; rfl
  have hK : (Sha.pk s).size = 32 := pk_size s
  have hlen : (Sha.hexL (Sha.pk s).toList).length = 64 := by rw [Sha.hexL_len, Array.length_toList, hK]
  have good : ∀ j, j < 64 → Sha.isHex (byteAt s j) = true := fun j hj => by
    unfold Sha.goodTo at hg
    rw [List.all_eq_true] at hg
    exact hg j (List.mem_range.2 hj)
  have at_ : ∀ j, j < 64 → s.data.toList[j]? = some (byteAt s j) := fun j hj => by
    unfold byteAt
    rw [List.getD_eq_getElem?_getD, List.getElem?_eq_getElem (by omega)]; rfl
  apply List.ext_getElem?
  intro i
  by_cases hi : i < 64
  · obtain ⟨j, hj, hij⟩ : ∃ j, j < 32 ∧ (i = 2 * j ∨ i = 2 * j + 1) := ⟨i / 2, by omega, by omega⟩
    have hjl : j < (Sha.pk s).toList.length := by rw [Array.length_toList, hK]; exact hj
    obtain ⟨e1, e2⟩ := hex_at (Sha.pk s).toList j hjl
    have hk : (Sha.pk s).toList[j] = ((Sha.hv (byteAt s (2 * j)) <<< 4) ||| Sha.hv (byteAt s (2 * j + 1))) := by
      have h1 := keyP_at s 32 (Nat.le_refl _) j hj
      rw [← Sha.pk_yes s hpb] at h1
      have h2 : (Sha.pk s).toList[j]? = some ((Sha.hv (byteAt s (2 * j)) <<< 4) ||| Sha.hv (byteAt s (2 * j + 1))) := by rw [Array.getElem?_toList]; exact h1
      rw [List.getElem?_eq_getElem hjl] at h2
      exact Option.some.inj h2
    obtain ⟨f1, f2⟩ := hex_two (byteAt s (2 * j)) (byteAt s (2 * j + 1)) (good _ (by omega)) (good _ (by omega))
    rw [hk] at e1 e2
    rw [f1] at e1
    rw [f2] at e2
    rcases hij with rfl | rfl
    · rw [e1, at_ _ (by omega)]
    · rw [e2, at_ _ (by omega)]
  · rw [List.getElem?_eq_none (by omega), List.getElem?_eq_none (by omega)]
theorem three_join32 (a b c : ByteArray) : (joinB ⟨#[32]⟩ [a, b, c]).data.toList = a.data.toList ++ 32 :: (b.data.toList ++ 32 :: c.data.toList) := by
  have h1 := joinB_snoc ⟨#[32]⟩ [a, b] c (by simp)
  have h2 := joinB_snoc ⟨#[32]⟩ [a] b (by simp)
  rw [joinB_one] at h2
  have e : ([a, b] : List ByteArray) ++ [c] = [a, b, c] := rfl
  have e2 : ([a] : List ByteArray) ++ [b] = [a, b] := rfl
  rw [e] at h1
  rw [e2] at h2
  rw [h1, h2]
  simp
/-- A line that was read is its pin's. -/
theorem line_back (l : ByteArray) (p : Pc) (hb : lineB l = true) (hp : mp p = mpOf l) : lineW p = l.data.toList := by
  unfold lineB at hb
  simp only [Bool.and_eq_true, decide_eq_true_eq] at hb
  obtain ⟨⟨⟨h3, hn⟩, hv⟩, hk⟩ := hb
  obtain ⟨a, b, c, hP⟩ : ∃ a b c, pieces 32 l = [a, b, c] := by
    match hq : pieces 32 l, h3 with
    | [a, b, c], _ => exact ⟨a, b, c, rfl⟩
  have e0 : lineN l = a := by unfold lineN; rw [hP]; rfl
  have e1 : lineV l = parseS b := by unfold lineV; rw [hP]; rfl
  have e2 : lineK l = c := by unfold lineK; rw [hP]; rfl
  have n1 : p.name = a := (congrArg (·.1) hp).trans e0
  have n2 : p.v = (parseS b).1 := (congrArg (·.2.1) hp).trans (by show (lineV l).1 = _; rw [e1])
  have n3 : p.key = Sha.pk c := (congrArg (·.2.2) hp).trans (by show Sha.pk (lineK l) = _; rw [e2])
  rw [e1] at hv
  rw [e2] at hk
  have hr : Read b (parseS b).1 := parse_read _ _ (by rw [← hv])
  have hj := joinB_pieces 32 l
  rw [hP] at hj
  rw [← hj, three_join32]
  unfold lineW
  rw [n1, n2, n3, hr.text, hex_text c hk]
/-- Names stand in order. -/
def AscN : ByteArray → List ByteArray → Prop
  | _, [] => True
  | ah, x :: r => lessB ah x = true ∧ AscN x r
theorem read_inv (P : List ByteArray) : ∀ (i : Nat) (ah : ByteArray) (out M : List Mp), readS P i ah out = .inr M → M = out ++ P.map mpOf ∧ (∀ l ∈ P, lineB l = true) ∧ AscN ah (P.map lineN) := by
  induction P with
  | nil =>
    intro i ah out M h
    have e : out = M := Sum.inr.inj h
    exact ⟨by rw [← e]; simp, (fun l hl => by cases hl), trivial⟩
  | cons l P ih =>
    intro i ah out M h
    rw [readS_step] at h
    split at h
    · rename_i hc
      obtain ⟨a, b, c⟩ := ih _ _ _ _ h
      refine ⟨by rw [a]; simp, fun x hx => ?_, hc.2.1, c⟩
      rcases List.mem_cons.1 hx with rfl | hx
      · exact hc.1
      · exact b x hx
    · cases h
theorem cut_writ2 (u : List UInt8) : writ (cutL 10 u) = u ++ [10] := by
  induction u with
  | nil => rfl
  | cons c u ih =>
    by_cases h : c = 10
    · subst h
      have e : cutL 10 (10 :: u) = [] :: cutL 10 u := cutL_at 10 [] u (fun _ h => by cases h)
      rw [e]
      show [10] ++ writ (cutL 10 u) = _
      rw [ih]; rfl
    · have hne := cutL_ne 10 u
      cases hq : cutL 10 u with
      | nil => exact absurd hq hne
      | cons x r =>
        have e : cutL 10 (c :: u) = (c :: x) :: r := by
          unfold cutL
          rw [hq]
          simp [h]
        rw [e]
        rw [hq] at ih
        show (c :: x) ++ [10] ++ writ r = _
        have e2 : writ (x :: r) = x ++ [10] ++ writ r := rfl
        rw [e2] at ih
        rw [List.cons_append, List.cons_append, ih]
        rfl
theorem lines_join (t : ByteArray) (h : t.data.toList = [] ∨ ∃ u, t.data.toList = u ++ [10]) : writ ((linesS t).map fun l => l.data.toList) = t.data.toList := by
  unfold linesS
  rw [pieces_of]
  rcases h with h | ⟨u, h⟩
  · rw [h]; rfl
  · have e : cutL 10 t.data.toList = cutL 10 u ++ [[]] := by rw [h]; exact cutL_app 10 u []
    rw [e, List.map_append, List.getLast?_append]
    have e2 : (([[]] : List (List UInt8)).map toB).getLast? = some ⟨#[]⟩ := rfl
    rw [e2]
    simp only [Option.some_or, if_true]
    rw [show ([[]] : List (List UInt8)).map toB = [⟨#[]⟩] from rfl, List.dropLast_concat, List.map_map]
    have e3 : (cutL 10 u).map ((fun l : ByteArray => l.data.toList) ∘ toB) = cutL 10 u := by
      rw [show ((fun l : ByteArray => l.data.toList) ∘ toB) = id from by funext l; exact data_toB l, List.map_id]
    rw [e3, cut_writ2, h]
/-- A TEXT THAT WAS READ IS ITS PINS' TEXT, line by line. -/
theorem lock_text (s : ByteArray) (L : List Pc) (h : lockS s = .inr (L.map mp)) : rowT L = s.data.toList ∧ AscN ⟨#[]⟩ (L.map (·.name)) := by
  unfold lockS at h
  split at h
  · rename_i ho
    obtain ⟨h1, h2, h3⟩ := read_inv _ _ _ _ _ h
    rw [List.nil_append] at h1
    obtain ⟨hbb, hb2⟩ := Bool.and_eq_true_iff.1 ho
    obtain ⟨hb0, hb1⟩ := Bool.and_eq_true_iff.1 hbb
    obtain ⟨t, ht⟩ := List.isPrefixOf_iff_prefix.1 hb1
    have hx : (s.extract 7 s.size).data.toList = t := by rw [extract_tail, ← ht]; rfl
    have hend : t = [] ∨ ∃ u, t = u ++ [10] := by
      rcases List.eq_nil_or_concat t with rfl | ⟨u, c, rfl⟩
      · exact .inl rfl
      · refine .inr ⟨u, ?_⟩
        obtain ⟨v, hv⟩ := List.isSuffixOf_iff_suffix.1 hb2
        rw [← ht, List.concat_eq_append, ← List.append_assoc] at hv
        rw [List.concat_eq_append, (List.append_inj' hv rfl).2]
    have hj := lines_join (s.extract 7 s.size) (by rw [hx]; exact hend)
    rw [hx] at hj
    have hlen : L.length = (linesS (s.extract 7 s.size)).length := by have := congrArg List.length h1; simpa using this
    have hw : L.map lineW = (linesS (s.extract 7 s.size)).map fun l => l.data.toList := by
      apply List.ext_getElem?
      intro i
      rw [List.getElem?_map, List.getElem?_map]
      have hi := congrArg (fun M => M[i]?) h1
      simp only [List.getElem?_map] at hi
      cases hp : L[i]? with
      | none =>
        have : (linesS (s.extract 7 s.size))[i]? = none := by
          rw [List.getElem?_eq_none_iff] at hp ⊢
          omega
        rw [this]; rfl
      | some p =>
        cases hl : (linesS (s.extract 7 s.size))[i]? with
        | none => rw [hp, hl] at hi; cases hi
        | some l =>
          rw [hp, hl] at hi
          have hi := Option.some.inj hi
          rw [Option.map_some, Option.map_some, line_back l p (h2 l (List.mem_of_getElem? hl)) hi]
    refine ⟨by rw [rowT_writ, hw, hj]; exact ht, ?_⟩
    have hnm : L.map (·.name) = (linesS (s.extract 7 s.size)).map lineN := by
      have := congrArg (fun M : List Mp => M.map (·.1)) h1
      simp only [List.map_map] at this
      exact this
    rw [hnm]
    exact h3
  · cases h
theorem ascN_less (L : List ByteArray) : ∀ ah, AscN ah L → ∀ x ∈ L, lessB ah x = true := by
  induction L with
  | nil => intro _ _ x hx; cases hx
  | cons y r ih =>
    intro ah h x hx
    rcases List.mem_cons.1 hx with rfl | hx
    · exact h.1
    · exact less_trans _ _ _ h.1 (ih y h.2 x hx)
theorem ascN_ord (L : List Pc) : ∀ ah, AscN ah (L.map (·.name)) → OrdP L := by
  induction L with
  | nil => intro _ _ i j x y _ hi; simp at hi
  | cons p r ih =>
    intro ah h i j x y hij hi hj
    cases j with
    | zero => omega
    | succ j =>
      cases i with
      | zero =>
        obtain rfl : p = x := by simpa using hi
        have hy : y ∈ r := List.mem_of_getElem? (by simpa using hj)
        exact lessP_asym (ascN_less _ _ h.2 y.name (List.mem_map.2 ⟨y, hy, rfl⟩))
      | succ i => exact ih _ h.2 i j x y (by omega) (by simpa using hi) (by simpa using hj)
theorem lock_told (s : ByteArray) (L : List Pc) (h : lockS s = .inr (L.map mp)) : toB (lockT L) = s ∧ OrdP L := by
  obtain ⟨h1, h2⟩ := lock_text s L h
  have ho := ascN_ord L _ h2
  refine ⟨?_, ho⟩
  unfold lockT
  rw [sortP_ord L ho, h1, toB_data]
/-- A pin's line is not short. -/
theorem pinL_long (p : Pc) : 64 ≤ (pinL p).length := by
  have hk : (Sha.hexL p.key.toList).length = 64 := by rw [Sha.hexL_len, Array.length_toList, p.hk]
  rw [pinL_line]
  unfold lineW
  simp only [List.length_append, List.length_cons, List.length_nil, hk]
  omega
theorem lock_few (s : ByteArray) (L : List Pc) (h : lockS s = .inr (L.map mp)) : 64 * L.length ≤ s.size := by
  have h1 := (lock_text s L h).1
  have hl := data_len s
  rw [← h1] at hl
  have : ∀ M : List Pc, 64 * M.length ≤ (M.flatMap pinL).length := by
    intro M
    induction M with
    | nil => simp
    | cons p r ih =>
      have := pinL_long p
      rw [List.flatMap_cons, List.length_append, List.length_cons]
      omega
  have h2 := this L
  unfold rowT at hl
  rw [List.length_append] at hl
  omega
end Go.Proofs.YthdopcdllggdaaaGreatDoor
