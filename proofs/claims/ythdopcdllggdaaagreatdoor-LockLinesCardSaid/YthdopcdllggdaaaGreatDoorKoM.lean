/- Lockfiles written line by line, one line of them spoilt (pure). -/
import Derived.Test.YthdopcdllggdaaaGreatDoorKjM
import Derived.Test.YthdopcdllggdaaaGreatDoorKeM
namespace Go.Proofs.YthdopcdllggdaaaGreatDoor
open Go.RowKit

/-- The last name of pins, or the one ahead. -/
def lastN : ByteArray → List Pc → ByteArray
  | ah, [] => ah
  | _, p :: r => lastN p.name r
theorem read_pre (L : List Pc) : ∀ (i : Nat) (ah : ByteArray) (out : List Mp) (R : List ByteArray), (∀ p ∈ L, Good p) → Asc ah L → out.length + L.length ≤ 200 → readS ((L.map fun p => toB (lineW p)) ++ R) i ah out = readS R (i + L.length) (lastN ah L) (out ++ L.map mp) := by
  induction L with
  | nil => intro i ah out R _ _ _; simp [lastN]
  | cons p L ih =>
    intro i ah out R hg ha hn
    obtain ⟨h1, h2, h3⟩ := (hg p (by simp)).reads
    rw [List.length_cons] at hn
    rw [List.map_cons, List.cons_append, readS_step, if_pos ⟨h1, by rw [h3]; exact ha.1, by omega⟩, h2, h3, ih _ _ _ _ (fun q hq => hg q (by simp [hq])) ha.2 (by rw [List.length_append]; simp; omega)]
    simp only [lastN, List.length_cons, List.map_cons, List.append_assoc, List.cons_append, List.nil_append]
    congr 1
    omega
/-- A text of the head and of lines. -/
theorem lock_rows (P : List (List UInt8)) (hP : ∀ x ∈ P, ∀ c ∈ x, c ≠ 10) (hs : (headL ++ writ P).length ≤ 65536) : lockS (toB (headL ++ writ P)) = readS (P.map toB) 0 ⟨#[]⟩ [] := by
  have ho : openB (toB (headL ++ writ P)) = true := by
    unfold openB
    rw [size_toB, decide_eq_true hs, data_toB]
    have h1 : Lib.hasPrefix (headL ++ writ P) headL = true := List.isPrefixOf_iff_prefix.2 ⟨_, rfl⟩
    have h2 : Lib.hasSuffix (headL ++ writ P) [10] = true := by
      refine List.isSuffixOf_iff_suffix.2 ?_
      rcases List.eq_nil_or_concat P with rfl | ⟨M, x, rfl⟩
      · exact ⟨[108, 111, 99, 107, 32, 49], rfl⟩
      · refine ⟨headL ++ (writ M ++ x), ?_⟩
        rw [List.concat_eq_append, writ_snoc]
        simp
    rw [h1, h2]
    rfl
  unfold lockS
  rw [if_pos ho]
  have e : (toB (headL ++ writ P)).extract 7 (toB (headL ++ writ P)).size = toB (writ P) := by
    refine bytes_ext ?_
    rw [extract_tail, data_toB, data_toB]
    rfl
  rw [e, lines_writ P hP]
def nameJ (j : Nat) : ByteArray := ⟨#[112, UInt8.ofNat (97 + j)]⟩
/-- The pin of line j. -/
def pinJ (j : Nat) : Pc := ⟨nameJ j, verOne, none, 0, zeroK, zeroK_size⟩
def zerosL : List UInt8 := List.replicate 64 48
def lineJ (j : Nat) : List UInt8 := [112, UInt8.ofNat (97 + j)] ++ [32, 49, 46, 48, 46, 48, 32] ++ zerosL
theorem hex_zero : Sha.hexL zeroK.toList = zerosL := by decide +kernel
theorem text_one : textS verOne = ⟨#[49, 46, 48, 46, 48]⟩ := by decide +kernel
theorem lineJ_eq (j : Nat) : lineW (pinJ j) = lineJ j := by
  unfold lineW
  show (nameJ j).data.toList ++ 32 :: ((textS verOne).data.toList ++ 32 :: Sha.hexL zeroK.toList) = lineJ j
  rw [hex_zero, text_one]
  rfl
theorem okJ : ∀ j, j < 8 → okName (nameJ j) = true := by decide +kernel
theorem good_pinJ (j : Nat) (hj : j < 8) : Good (pinJ j) := good_nums (pinJ j) (okJ j hj) 1 0 0 rfl (by omega) (by omega) (by omega)
theorem lessJ : ∀ j, j < 8 → lessB (nameJ j) (nameJ (j + 1)) = true ∧ lessB (nameJ j) (nameJ j) = false ∧ lessB ⟨#[]⟩ (nameJ j) = true := by decide +kernel
/-- The first k pins. -/
def pinsJ (k : Nat) : List Pc := (List.range k).map pinJ
theorem pinsJ_succ (k : Nat) : pinsJ (k + 1) = pinsJ k ++ [pinJ k] := by unfold pinsJ; rw [List.range_succ, List.map_append]; rfl
theorem pinsJ_len (k : Nat) : (pinsJ k).length = k := by simp [pinsJ]
theorem pinsJ_good (k : Nat) (hk : k ≤ 8) : ∀ p ∈ pinsJ k, Good p := fun p hp => by
  obtain ⟨j, hj, rfl⟩ := List.mem_map.1 hp
  exact good_pinJ j (by have := List.mem_range.1 hj; omega)
theorem asc_snoc (L : List Pc) : ∀ ah p, Asc ah L → lessB (lastN ah L) p.name = true → Asc ah (L ++ [p]) := by
  induction L with
  | nil => intro ah p _ h; exact ⟨h, trivial⟩
  | cons q r ih => intro ah p h1 h2; exact ⟨h1.1, ih q.name p h1.2 h2⟩
theorem last_snoc (L : List Pc) : ∀ ah p, lastN ah (L ++ [p]) = p.name := by
  induction L with
  | nil => intro ah p; rfl
  | cons q r ih => intro ah p; exact ih q.name p
theorem pinsJ_last (k : Nat) : lastN ⟨#[]⟩ (pinsJ (k + 1)) = nameJ k := by rw [pinsJ_succ, last_snoc]; rfl
theorem pinsJ_asc (k : Nat) (hk : k ≤ 8) : Asc ⟨#[]⟩ (pinsJ k) := by
  induction k with
  | zero => trivial
  | succ k ih =>
    rw [pinsJ_succ]
    refine asc_snoc _ _ _ (ih (by omega)) ?_
    cases k with
    | zero => exact (lessJ 0 (by omega)).2.2
    | succ k => rw [pinsJ_last]; exact (lessJ k (by omega)).1
def rowsJ (k : Nat) : List (List UInt8) := (List.range k).map lineJ
theorem rowsJ_succ (k : Nat) : rowsJ (k + 1) = rowsJ k ++ [lineJ k] := by unfold rowsJ; rw [List.range_succ, List.map_append]; rfl
theorem rowsJ_pins (k : Nat) : (rowsJ k).map toB = (pinsJ k).map fun p => toB (lineW p) := by
  unfold rowsJ pinsJ
  rw [List.map_map, List.map_map]
  apply List.map_congr_left
  intro j _
  show toB (lineJ j) = toB (lineW (pinJ j))
  rw [lineJ_eq]
theorem lineJ_no (j : Nat) (hj : j < 8) : ∀ c ∈ lineJ j, c ≠ 10 := by
  rw [← lineJ_eq]
  exact (good_pinJ j hj).line_no
theorem lineJ_len (j : Nat) : (lineJ j).length = 73 := by simp [lineJ, zerosL]
/-- What stands in line i's place. -/
def badJ (h i : Nat) : List (List UInt8) := match h with
  | 0 => [lineJ i, lineJ i]
  | 1 => [(lineJ i).dropLast]
  | 2 => [lineJ i ++ [32]]
  | 3 => [[]]
  | 4 => [35 :: lineJ i]
  | _ => [lineJ i]
/-- The first j lines, line i otherwise. -/
def linesH (h i : Nat) : Nat → List (List UInt8)
  | 0 => []
  | j + 1 => linesH h i j ++ if j = i then badJ h i else [lineJ j]
theorem linesH_before (h i j : Nat) (hj : j ≤ i) : linesH h i j = rowsJ j := by
  induction j with
  | zero => rfl
  | succ j ih => rw [linesH, ih (by omega), if_neg (by omega), rowsJ_succ]
theorem linesH_behind (h i j : Nat) (hj : i < j) : ∃ R, linesH h i j = rowsJ i ++ badJ h i ++ R ∧ ∀ x ∈ R, ∃ q, q < j ∧ x = lineJ q := by
  induction j with
  | zero => omega
  | succ j ih =>
    by_cases hi : j = i
    · subst hi
      exact ⟨[], by rw [linesH, if_pos rfl, linesH_before h j j (Nat.le_refl _)]; simp, fun x hx => by cases hx⟩
    · obtain ⟨R, h1, h2⟩ := ih (by omega)
      refine ⟨R ++ [lineJ j], by rw [linesH, if_neg hi, h1]; simp, fun x hx => ?_⟩
      rcases List.mem_append.1 hx with hx | hx
      · obtain ⟨q, hq, rfl⟩ := h2 x hx
        exact ⟨q, by omega, rfl⟩
      · exact ⟨j, by omega, List.mem_singleton.1 hx⟩
theorem badJ_in (h i : Nat) (x : List UInt8) (hx : x ∈ badJ h i) (c : UInt8) (hc : c ∈ x) : c ∈ lineJ i ∨ c = 32 ∨ c = 35 := by
  unfold badJ at hx
  split at hx <;> simp only [List.mem_cons, List.not_mem_nil, or_false, or_self] at hx
  · subst hx; exact .inl hc
  · subst hx; exact .inl ((List.dropLast_sublist _).subset hc)
  · subst hx
    rcases List.mem_append.1 hc with h | h
    · exact .inl h
    · exact .inr (.inl (List.mem_singleton.1 h))
  · subst hx; cases hc
  · subst hx
    rcases List.mem_cons.1 hc with h | h
    · exact .inr (.inr h)
    · exact .inl h
  · subst hx; exact .inl hc
theorem linesH_in (h i : Nat) (hi : i < 8) : ∀ j, j ≤ 8 → ∀ x ∈ linesH h i j, ∀ c ∈ x, c ≠ 10 := by
  intro j
  induction j with
  | zero => intro _ x hx; cases hx
  | succ j ih =>
    intro hj x hx c hc
    rw [linesH] at hx
    rcases List.mem_append.1 hx with hx | hx
    · exact ih (by omega) x hx c hc
    · split at hx
      · rcases badJ_in h i x hx c hc with h | rfl | rfl
        · exact lineJ_no i hi c h
        · decide
        · decide
      · rw [List.mem_singleton.1 hx] at hc
        exact lineJ_no j (by omega) c hc
theorem writ_app (A B : List (List UInt8)) : writ (A ++ B) = writ A ++ writ B := by simp [writ]
theorem badJ_len (h i : Nat) : (writ (badJ h i)).length ≤ 200 := by
  have hl := lineJ_len i
  unfold badJ
  split <;> simp [writ, hl]
theorem linesH_len (h i : Nat) : ∀ j, (writ (linesH h i j)).length ≤ 200 * j := by
  intro j
  induction j with
  | zero => simp [linesH, writ]
  | succ j ih =>
    rw [linesH, writ_app, List.length_append]
    have h1 := badJ_len h i
    have h2 : (writ [lineJ j]).length ≤ 200 := by simp [writ, lineJ_len]
    split <;> omega
theorem bad_short (i : Nat) (hi : i < 8) : lineB (toB (lineJ i).dropLast) = false := by
  have hg := good_pinJ i hi
  have e : (lineJ i).dropLast = (nameJ i).data.toList ++ 32 :: ((textS verOne).data.toList ++ 32 :: List.replicate 63 48) := by
    rw [text_one]
    unfold lineJ
    rw [List.dropLast_append_of_ne_nil (by decide)]
    rfl
  have hp : pieces 32 (toB (lineJ i).dropLast) = [nameJ i, textS verOne, toB (List.replicate 63 48)] := by
    rw [pieces_of, data_toB, e, cutL_at 32 _ _ (name_no (nameJ i) 32 hg.name (by decide)), cutL_at 32 _ _ (show NoB 32 (textS verOne) from hg.n32), cutL_plain 32 _ (by intro c hc; rw [List.eq_of_mem_replicate hc]; decide)]
    simp [toB_data]
  have hk : Sha.pb (toB (List.replicate 63 48)) = false := by
    unfold Sha.pb
    rw [size_toB]
    rfl
  unfold lineB lineK
  rw [hp]
  show (_ && Sha.pb (toB (List.replicate 63 48))) = false
  rw [hk, Bool.and_false]
theorem bad_blank (i : Nat) (hi : i < 8) : lineB (toB (lineJ i ++ [32])) = false := by
  have hg := good_pinJ i hi
  have e : lineJ i ++ [32] = (nameJ i).data.toList ++ 32 :: ((textS verOne).data.toList ++ 32 :: (zerosL ++ 32 :: [])) := by
    rw [text_one]
    unfold lineJ
    simp [nameJ]
  have hp : (pieces 32 (toB (lineJ i ++ [32]))).length = 4 := by
    rw [pieces_of, data_toB, e, cutL_at 32 _ _ (name_no (nameJ i) 32 hg.name (by decide)), cutL_at 32 _ _ (show NoB 32 (textS verOne) from hg.n32), cutL_at 32 _ _ (by intro c hc; rw [List.eq_of_mem_replicate hc]; decide), cutL_plain 32 [] (by simp)]
    rfl
  unfold lineB
  rw [hp]
  rfl
theorem bad_empty : lineB (toB []) = false := by
  unfold lineB
  rw [pieces_of, data_toB, cutL_plain 32 [] (by simp)]
  rfl
theorem bad_mark (i : Nat) : lineB (toB (35 :: lineJ i)) = false := by
  have e : 35 :: lineJ i = [35, 112, UInt8.ofNat (97 + i)] ++ 32 :: ([49, 46, 48, 46, 48, 32] ++ zerosL) := by simp [lineJ]
  by_cases h32 : UInt8.ofNat (97 + i) = 32
  · have e2 : 35 :: lineJ i = [35, 112] ++ 32 :: (32 :: ([49, 46, 48, 46, 48, 32] ++ zerosL)) := by rw [e, h32]; rfl
    have hn : lineN (toB (35 :: lineJ i)) = toB [35, 112] := by
      unfold lineN
      rw [pieces_of, data_toB, e2, cutL_at 32 _ _ (by simp)]
      rfl
    unfold lineB
    rw [hn]
    have : okName (toB [35, 112]) = false := by decide
    rw [this, Bool.and_false, Bool.false_and, Bool.false_and]
  · have hn : lineN (toB (35 :: lineJ i)) = toB [35, 112, UInt8.ofNat (97 + i)] := by
      unfold lineN
      rw [pieces_of, data_toB, e, cutL_at 32 _ _ (by
        intro c hc
        simp only [List.mem_cons, List.not_mem_nil, or_false] at hc
        rcases hc with rfl | rfl | rfl
        · decide
        · decide
        · exact h32)]
      rfl
    have ho : okName (toB [35, 112, UInt8.ofNat (97 + i)]) = false := okName_low _ (by rw [byteAt_toB]; rfl)
    unfold lineB
    rw [hn, ho, Bool.and_false, Bool.false_and, Bool.false_and]
/-- WHAT IS READ where line i is otherwise. -/
theorem lock_spoilt (h i k : Nat) (hh : h < 6) (hi : i < k) (hk : k ≤ 8) : lockS (toB (headL ++ writ (linesH h i k))) = if h = 5 then .inr ((pinsJ k).map mp) else .inl (i + 2 + if h = 0 then 1 else 0) := by
  have hs : (headL ++ writ (linesH h i k)).length ≤ 65536 := by
    have := linesH_len h i k
    rw [List.length_append]
    show 7 + _ ≤ _
    omega
  rw [lock_rows _ (linesH_in h i (by omega) k hk) hs]
  obtain ⟨R, hR, hR2⟩ := linesH_behind h i k hi
  have base : ∀ X : List ByteArray, readS ((rowsJ i).map toB ++ X) 0 ⟨#[]⟩ [] = readS X i (lastN ⟨#[]⟩ (pinsJ i)) ((pinsJ i).map mp) := fun X => by
    rw [rowsJ_pins, read_pre (pinsJ i) 0 ⟨#[]⟩ [] X (pinsJ_good i (by omega)) (pinsJ_asc i (by omega)) (by rw [pinsJ_len]; simp; omega), pinsJ_len]
    simp
  have no : ∀ (x : List UInt8) (Y : List ByteArray), lineB (toB x) = false → readS (toB x :: Y) i (lastN ⟨#[]⟩ (pinsJ i)) ((pinsJ i).map mp) = .inl (i + 2) := fun x Y hx => by
    rw [readS_step, if_neg (by rw [hx]; simp)]
  by_cases h5 : h = 5
  · subst h5
    rw [if_pos rfl]
    have e : linesH 5 i k = rowsJ k := by
      have : ∀ j, linesH 5 i j = rowsJ j := by
        intro j
        induction j with
        | zero => rfl
        | succ j ih =>
          rw [linesH, ih, rowsJ_succ]
          split
          · rename_i hj; subst hj; rfl
          · rfl
      exact this k
    rw [e, rowsJ_pins]
    have := read_good (pinsJ k) 0 ⟨#[]⟩ [] (pinsJ_good k hk) (pinsJ_asc k hk) (by rw [pinsJ_len]; simp; omega)
    simpa using this
  · rw [if_neg h5, hR, List.map_append, List.map_append, List.append_assoc, base]
    rcases (by omega : h = 0 ∨ h = 1 ∨ h = 2 ∨ h = 3 ∨ h = 4) with rfl | rfl | rfl | rfl | rfl
    · show readS (toB (lineJ i) :: toB (lineJ i) :: R.map toB) i (lastN ⟨#[]⟩ (pinsJ i)) ((pinsJ i).map mp) = .inl (i + 2 + 1)
      obtain ⟨g1, g2, g3⟩ := (good_pinJ i (by omega)).reads
      rw [lineJ_eq] at g1 g2 g3
      have hl : lessB (lastN ⟨#[]⟩ (pinsJ i)) (nameJ i) = true := by
        cases i with
        | zero => exact (lessJ 0 (by omega)).2.2
        | succ i => rw [pinsJ_last]; exact (lessJ i (by omega)).1
      rw [readS_step, if_pos ⟨g1, by rw [g3]; exact hl, by rw [List.length_map, pinsJ_len]; omega⟩, g3, readS_step, if_neg (by
        rw [g3]
        intro hc
        have := (lessJ i (by omega)).2.1
        rw [show (pinJ i).name = nameJ i from rfl, this] at hc
        exact absurd hc.2.1 (by simp))]
    · exact no _ _ (bad_short i (by omega))
    · exact no _ _ (bad_blank i (by omega))
    · exact no _ _ bad_empty
    · exact no _ _ (bad_mark i)
end Go.Proofs.YthdopcdllggdaaaGreatDoor
