/- ScriptQuotes: texts in quotes, written and read (pure). -/
import Derived.Test.YtmjdkgbblccpgaaDoorUv
namespace Go.Proofs.YtmjdkgbblccpgaaDoor
open Go.RowKit

theorem quote_esc (t r : List UInt8) : quoteL (escL t ++ 34 :: r) = some (t, r) := by
  induction t with
  | nil =>
    show quoteL (34 :: r) = _
    rw [quoteL.eq_def]
    simp
  | cons c t ih =>
    have e : escL (c :: t) = escC c ++ escL t := rfl
    rw [e]
    unfold escC
    by_cases h : c = 34 ∨ c = 92
    · rw [if_pos h]
      have hb : escB c = some c := by unfold escB; rw [if_pos h]
      show quoteL (92 :: c :: (escL t ++ 34 :: r)) = _
      rw [quoteL.eq_def]
      simp only
      rw [if_neg (by decide), if_pos trivial, hb]
      simp only
      rw [ih]; rfl
    · rw [if_neg h]
      by_cases h2 : c = 10
      · subst h2
        rw [if_pos rfl]
        show quoteL (92 :: 110 :: (escL t ++ 34 :: r)) = _
        rw [quoteL.eq_def]
        simp only
        rw [if_neg (by decide), if_pos trivial, show escB 110 = some 10 by decide]
        simp only
        rw [ih]; rfl
      · rw [if_neg h2]
        show quoteL (c :: (escL t ++ 34 :: r)) = _
        rw [quoteL.eq_def]
        simp only
        rw [if_neg (fun e => h (.inl e)), if_neg (fun e => h (.inr e)), ih]; rfl
theorem esc_no (t : List UInt8) : ∀ c ∈ escL t, c ≠ 10 := by
  intro c hc
  unfold escL at hc
  obtain ⟨d, _, hd⟩ := List.mem_flatMap.1 hc
  unfold escC at hd
  split at hd
  · rename_i h
    rcases List.mem_cons.1 hd with rfl | hd
    · decide
    · obtain rfl := List.mem_singleton.1 hd
      rcases h with rfl | rfl <;> decide
  · split at hd
    · rcases List.mem_cons.1 hd with rfl | hd
      · decide
      · obtain rfl := List.mem_singleton.1 hd; decide
    · rename_i h
      obtain rfl := List.mem_singleton.1 hd
      exact h
def wHead : List UInt8 := [119, 114, 105, 116, 101, 32, 102, 32, 34]
def wqL (t : List UInt8) : List UInt8 := wHead ++ escL t ++ [34]
theorem wq_no (t : List UInt8) : ∀ c ∈ wqL t, c ≠ 10 := by
  intro c hc
  unfold wqL at hc
  rcases List.mem_append.1 hc with hc | hc
  · rcases List.mem_append.1 hc with hc | hc
    · unfold wHead at hc
      intro e
      subst e
      revert hc
      decide
    · exact esc_no t c hc
  · obtain rfl := List.mem_singleton.1 hc; decide
theorem wq_len (t : List UInt8) (h : t.length ≤ 200) : (wqL t).length ≤ 410 := by
  have := escL_len t
  unfold wqL wHead
  simp only [List.length_append, List.length_cons, List.length_nil]
  omega
theorem trim_32 (r : List UInt8) : trimB (32 :: r) = trimB r := by unfold trimB; rw [List.dropWhile_cons]; rfl
theorem wq_words (t : List UInt8) : wordsL (wqL t) = some [[119, 114, 105, 116, 101], [102], 34 :: t] := by
  have e : wqL t = 119 :: 114 :: 105 :: 116 :: 101 :: 32 :: 102 :: 32 :: 34 :: (escL t ++ [34]) := by unfold wqL wHead; simp
  rw [e, wordsL_plain 119 _ (by decide) (by decide)]
  have p1 : plainW (119 :: 114 :: 105 :: 116 :: 101 :: 32 :: 102 :: 32 :: 34 :: (escL t ++ [34])) = [119, 114, 105, 116, 101] := by simp [plainW, blk]
  have r1 : plainR (119 :: 114 :: 105 :: 116 :: 101 :: 32 :: 102 :: 32 :: 34 :: (escL t ++ [34])) = 32 :: 102 :: 32 :: 34 :: (escL t ++ [34]) := by simp [plainR, blk]
  have t1 : trimB (32 :: 102 :: 32 :: 34 :: (escL t ++ [34])) = 102 :: 32 :: 34 :: (escL t ++ [34]) := by simp [trimB, blk]
  have p2 : plainW (102 :: 32 :: 34 :: (escL t ++ [34])) = [102] := by simp [plainW, blk]
  have r2 : plainR (102 :: 32 :: 34 :: (escL t ++ [34])) = 32 :: 34 :: (escL t ++ [34]) := by simp [plainR, blk]
  have t2 : trimB (32 :: 34 :: (escL t ++ [34])) = 34 :: (escL t ++ [34]) := by simp [trimB, blk]
  rw [p1, r1, wordsL_trim, t1, wordsL_plain 102 _ (by decide) (by decide), p2, r2, wordsL_trim, t2, wordsL_quote, quote_esc]
  simp only
  rw [if_pos (by rfl), wordsL_nil]
  rfl
def wqLn (t : List UInt8) : Ln := ⟨1, ⟨#[102]⟩, E0, toB t, 0, false⟩
theorem wq_read (t : List UInt8) : readS (toB (wqL t)) = some (some (wqLn t)) := by
  have hc : cmtL (wqL t) = false := by
    have e : wqL t = 119 :: 114 :: 105 :: 116 :: 101 :: 32 :: 102 :: 32 :: 34 :: (escL t ++ [34]) := by unfold wqL wHead; simp
    rw [e]
    simp [cmtL, trimB, blk]
  unfold readS
  rw [data_toB, hc, wq_words]
  have hk : kindS (toB [119, 114, 105, 116, 101]) = 1 := by kernel_rfl
  have hq : isQ (toB [102]) = false := by kernel_rfl
  have hq2 : isQ (toB (34 :: t)) = true := by
    unfold isQ
    rw [data_toB]
    exact (prefix_one 34 34 t).trans (by decide)
  have hu : unQ (toB (34 :: t)) = toB t := by
    unfold unQ
    rw [data_toB]
    unfold Lib.trimPrefix
    rw [show Lib.hasPrefix (34 :: t) (⟨#[34]⟩ : ByteArray).data.toList = true from (prefix_one 34 34 t).trans (by decide)]
    rfl
  simp only [Bool.false_eq_true, if_false, readW, List.map_cons, List.map_nil, lineOf, hk]
  unfold lineK
  rw [if_neg (by decide), if_pos (by decide)]
  simp only
  rw [if_pos ⟨hq, hq2⟩, hu]
  rfl
theorem wq_text (t : List UInt8) : (lineT (wqLn t)).data.toList = wqL t := by
  unfold lineT lineW wqLn
  simp only
  rw [if_neg (by decide), if_pos (by decide)]
  have hk : keyK 1 = ⟨#[119, 114, 105, 116, 101]⟩ := by rfl
  rw [hk]
  unfold joinB quotedB quotedL
  rw [data_toB]
  simp only [List.cons_append, List.nil_append, List.map_cons, List.map_nil, Lib.join_cons]
  simp [Lib.joinTail, wqL, wHead, data_toB]
theorem wq_texts (L : List (List UInt8)) : textS (L.map wqLn) 0 = writ (L.map wqL) := by
  induction L with
  | nil => rfl
  | cons t r ih =>
    have e1 : textS ((t :: r).map wqLn) 0 = oneT (wqLn t) 0 ++ textS (r.map wqLn) (nextO 1 0) := rfl
    have e2 : nextO 1 0 = 0 := by decide
    have e3 : tabsO (wqLn t).kind 0 = 0 := by show tabsO 1 0 = 0; decide
    have e4 : tabsL 0 = [] := rfl
    rw [e1, e2, ih]
    unfold oneT
    rw [e3, e4, wq_text]
    simp [writ]
theorem wq_ok (t : List UInt8) (h : t.length ≤ 200) : LnOk (wqLn t) :=
  ⟨show (0 : Int) ≤ 1 by decide, show (1 : Int) < 12 by decide, show (⟨#[102]⟩ : ByteArray).size ≤ 1000000 by decide, show E0.size ≤ 1000000 by decide, by show (toB t).size ≤ _; rw [← data_len, data_toB]; omega, show -9223372036854775808 ≤ (0 : Int) by decide, show (0 : Int) ≤ 9223372036854775807 by decide⟩
theorem wq_parse (L : List (List UInt8)) (hl : L.length ≤ 10) (h : ∀ t ∈ L, t.length ≤ 200) : scriptS (toB (writ (L.map wqL))) = .inr (L.map wqLn) := by
  have h1 := writ_len (L.map wqL) 410 (fun x hx => by obtain ⟨t, ht, rfl⟩ := List.mem_map.1 hx; exact wq_len t (h t ht))
  rw [List.length_map] at h1
  unfold scriptS
  rw [if_neg (by rw [← data_len, data_toB]; omega), lines_writ _ (fun x hx => by obtain ⟨t, _, rfl⟩ := List.mem_map.1 hx; exact wq_no t)]
  have h2 := parse_flat (L.map fun t => (toB (wqL t), wqLn t)) (fun p hp => by obtain ⟨t, _, rfl⟩ := List.mem_map.1 hp; exact ⟨wq_read t, fun op => rfl⟩) 0 [] (by simp; omega)
  simpa [List.map_map, Function.comp_def] using h2
end Go.Proofs.YtmjdkgbblccpgaaDoor
