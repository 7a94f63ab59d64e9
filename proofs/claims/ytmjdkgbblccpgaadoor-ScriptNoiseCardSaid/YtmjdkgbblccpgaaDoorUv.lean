/- Texts that are written line by line: what Parse and Text tell of them (pure). -/
import Derived.Test.YtmjdkgbblccpgaaDoorUq
namespace Go.Proofs.YtmjdkgbblccpgaaDoor
open Go.RowKit

def writ (L : List (List UInt8)) : List UInt8 := L.flatMap (· ++ [10])
theorem writ_snoc (L : List (List UInt8)) (x : List UInt8) : writ (L ++ [x]) = writ L ++ (x ++ [10]) := by simp [writ]
theorem writ_len (L : List (List UInt8)) (c : Nat) (h : ∀ x ∈ L, x.length ≤ c) : (writ L).length ≤ L.length * (c + 1) := by
  induction L with
  | nil => simp [writ]
  | cons a r ih =>
    have h1 := ih (fun x hx => h x (by simp [hx]))
    have h2 := h a (by simp)
    have e : writ (a :: r) = a ++ [10] ++ writ r := rfl
    rw [e, List.length_append, List.length_append, List.length_cons, List.length_cons, List.length_nil, Nat.add_mul]
    omega
theorem cut_writ (L : List (List UInt8)) (h : ∀ x ∈ L, ∀ c ∈ x, c ≠ 10) : cutL 10 (writ L) = L ++ [[]] := by
  induction L with
  | nil => rfl
  | cons a r ih =>
    have e : writ (a :: r) = a ++ 10 :: writ r := by simp [writ]
    rw [e, cutL_at 10 a _ (h a (by simp)), ih (fun x hx => h x (by simp [hx]))]
    rfl
theorem lines_writ (L : List (List UInt8)) (h : ∀ x ∈ L, ∀ c ∈ x, c ≠ 10) : linesS (toB (writ L)) = L.map toB := by
  have e : pieces 10 (toB (writ L)) = L.map toB ++ [⟨#[]⟩] := by
    rw [pieces_of, data_toB, cut_writ L h, List.map_append]; rfl
  unfold linesS
  rw [e, List.getLast?_append, List.dropLast_concat]
  rfl
theorem parse_cons (x : ByteArray) (r : List ByteArray) (i : Nat) (out : List Ln) (op : List Int) (l : Ln) (h : readS x = some (some l)) (h1 : out.length < 200) (h2 : (stepB op l.kind).2 = true) :
    parseS (x :: r) i out op = parseS r (i + 1) (out ++ [l]) (stepB op l.kind).1 := by
  rw [parseS, h]
  simp only
  rw [if_neg (by rw [h2]; simp; omega)]
/-- A script of lines of kinds that open and close nothing. -/
theorem parse_flat (P : List (ByteArray × Ln)) (h : ∀ p ∈ P, readS p.1 = some (some p.2) ∧ ∀ op, stepB op p.2.kind = (op, true)) :
    ∀ (i : Nat) (out : List Ln), out.length + P.length ≤ 200 → parseS (P.map (·.1)) i out [] = .inr (out ++ P.map (·.2)) := by
  induction P with
  | nil => intro i out _; simp [parseS]
  | cons p r ih =>
    intro i out hl
    have hp := h p (by simp)
    have h2 := hp.2 []
    rw [List.length_cons] at hl
    rw [List.map_cons, parse_cons p.1 _ i out [] p.2 hp.1 (by omega) (by rw [h2]), h2, ih (fun q hq => h q (by simp [hq])) _ _ (by rw [List.length_append, List.length_cons, List.length_nil]; omega), List.append_assoc]
    rfl
theorem parse_many (x : ByteArray) (l : Ln) (h : readS x = some (some l)) (h2 : ∀ op, stepB op l.kind = (op, true)) :
    ∀ (k i : Nat) (out : List Ln), out.length ≤ 200 → parseS (List.replicate k x) i out [] = if out.length + k ≤ 200 then .inr (out ++ List.replicate k l) else .inl (i + (200 - out.length) + 1) := by
  intro k
  induction k with
  | zero => intro i out ho; rw [if_pos (by omega)]; simp [parseS]
  | succ k ih =>
    intro i out ho
    rw [List.replicate_succ]
    by_cases hl : out.length < 200
    · have hs := h2 []
      rw [parse_cons x _ i out [] l h hl (by rw [hs]), hs, ih (i + 1) (out ++ [l]) (by rw [List.length_append]; simp; omega)]
      rw [List.length_append, List.length_cons, List.length_nil]
      by_cases hk : out.length + (k + 1) ≤ 200
      · rw [if_pos (by omega), if_pos hk, List.append_assoc, List.replicate_succ]; rfl
      · rw [if_neg (by omega), if_neg hk]; congr 1; omega
    · rw [parseS, h]
      simp only
      rw [if_pos (by left; omega), if_neg (by omega)]
      congr 1; omega
def mkL : List UInt8 := [109, 107, 100, 105, 114, 32, 97]
def mkLn : Ln := ⟨3, ⟨#[97]⟩, E0, E0, 0, false⟩
set_option maxRecDepth 100000 in
theorem mk_read : readS (toB mkL) = some (some mkLn) := by kernel_rfl
def manyL (k : Nat) : List UInt8 := writ (List.replicate k mkL)
theorem manyL_succ (k : Nat) : manyL (k + 1) = manyL k ++ [109, 107, 100, 105, 114, 32, 97, 10] := by
  unfold manyL
  rw [List.replicate_succ', writ_snoc]; rfl
theorem manyL_len (k : Nat) : (manyL k).length = 8 * k := by
  induction k with
  | zero => rfl
  | succ k ih => rw [manyL_succ, List.length_append, ih]; simp; omega
theorem many_parse (k : Nat) (hk : k ≤ 1000) : scriptS (toB (manyL k)) = if k ≤ 200 then .inr (List.replicate k mkLn) else .inl 201 := by
  have hlen := manyL_len k
  unfold scriptS
  rw [if_neg (by rw [← data_len, data_toB]; omega)]
  unfold manyL
  rw [lines_writ _ (fun x hx => by rw [List.eq_of_mem_replicate hx]; decide), List.map_replicate, parse_many _ _ mk_read (fun op => rfl) k 0 [] (by simp)]
  simp only [List.length_nil, Nat.zero_add, List.nil_append, Nat.sub_zero]
def ifL : List UInt8 := [105, 102, 32, 101, 120, 105, 115, 116, 115, 32, 97]
def rpL : List UInt8 := [114, 101, 112, 101, 97, 116, 32, 49]
def endL : List UInt8 := [101, 110, 100]
def openL (p d : Nat) : List UInt8 := writ ((List.range d).map fun i => if (i + p) % 2 = 0 then ifL else rpL)
def shutL (d : Nat) : List UInt8 := writ (List.replicate d endL)
theorem openL_succ (p d : Nat) : openL p (d + 1) = openL p d ++ ((if (d + p) % 2 = 0 then ifL else rpL) ++ [10]) := by
  unfold openL
  rw [List.range_succ, List.map_append]
  exact writ_snoc _ _
theorem openL_even (p d : Nat) (h : (d + p) % 2 = 0) : openL p (d + 1) = openL p d ++ [105, 102, 32, 101, 120, 105, 115, 116, 115, 32, 97, 10] := by rw [openL_succ, if_pos h]; rfl
theorem openL_odd (p d : Nat) (h : (d + p) % 2 = 1) : openL p (d + 1) = openL p d ++ [114, 101, 112, 101, 97, 116, 32, 49, 10] := by rw [openL_succ, if_neg (by omega)]; rfl
theorem shutL_succ (d : Nat) : shutL (d + 1) = shutL d ++ [101, 110, 100, 10] := by
  unfold shutL
  rw [List.replicate_succ', writ_snoc]; rfl
theorem openL_len (p d : Nat) : (openL p d).length ≤ 12 * d := by
  induction d with
  | zero => simp [openL, writ]
  | succ d ih =>
    rw [openL_succ, List.length_append]
    have : ((if (d + p) % 2 = 0 then ifL else rpL) ++ [10]).length ≤ 12 := by split <;> simp [ifL, rpL]
    omega
theorem shutL_len (d : Nat) : (shutL d).length = 4 * d := by
  induction d with
  | zero => rfl
  | succ d ih => rw [shutL_succ, List.length_append, ih]; simp; omega
/-- Lines that are read already, as a script. -/
def parseP : List Ln → Nat → List Ln → List Int → Nat ⊕ List Ln
  | [], _, out, op => if op = [] then .inr out else .inl 0
  | l :: r, i, out, op => if out.length = 200 ∨ (stepB op l.kind).2 = false then .inl (i + 1) else parseP r (i + 1) (out ++ [l]) (stepB op l.kind).1
theorem parse_P (P : List (ByteArray × Ln)) (h : ∀ p ∈ P, readS p.1 = some (some p.2)) : ∀ (i : Nat) (out : List Ln) (op : List Int), parseS (P.map (·.1)) i out op = parseP (P.map (·.2)) i out op := by
  induction P with
  | nil => intro i out op; rfl
  | cons p r ih =>
    intro i out op
    have hp := h p (by simp)
    rw [List.map_cons, List.map_cons, parseS, parseP, hp]
    simp only
    rw [ih (fun q hq => h q (by simp [hq]))]
def ifLn : Ln := ⟨7, ⟨#[97]⟩, E0, E0, 0, false⟩
def rpLn : Ln := ⟨8, E0, E0, E0, 1, false⟩
def endLn : Ln := ⟨10, E0, E0, E0, 0, false⟩
set_option maxRecDepth 100000 in
theorem if_read : readS (toB ifL) = some (some ifLn) := by kernel_rfl
set_option maxRecDepth 100000 in
theorem rp_read : readS (toB rpL) = some (some rpLn) := by kernel_rfl
set_option maxRecDepth 100000 in
theorem end_read : readS (toB endL) = some (some endLn) := by kernel_rfl
def deepP (p d : Nat) : List (List UInt8 × Ln) := ((List.range d).map fun i => if (i + p) % 2 = 0 then (ifL, ifLn) else (rpL, rpLn)) ++ List.replicate d (endL, endLn)
theorem deepP_ok (p d : Nat) : ∀ q ∈ deepP p d, readS (toB q.1) = some (some q.2) ∧ ∀ c ∈ q.1, c ≠ 10 := by
  intro q hq
  unfold deepP at hq
  rcases List.mem_append.1 hq with hq | hq
  · obtain ⟨i, _, rfl⟩ := List.mem_map.1 hq
    split
    · exact ⟨if_read, by decide⟩
    · exact ⟨rp_read, by decide⟩
  · rw [List.eq_of_mem_replicate hq]
    exact ⟨end_read, by decide⟩
theorem deepP_writ (p d : Nat) : openL p d ++ shutL d = writ ((deepP p d).map (·.1)) := by
  unfold openL shutL deepP
  rw [List.map_append, List.map_map, List.map_replicate]
  unfold writ
  rw [List.flatMap_append]
  congr 2
  apply List.map_congr_left
  intro i _
  simp only [Function.comp_apply]
  split <;> rfl
theorem deep_scr (p d : Nat) (hd : d < 12) : scriptS (toB (openL p d ++ shutL d)) = parseP ((deepP p d).map (·.2)) 0 [] [] := by
  have h1 := openL_len p d
  have h2 := shutL_len d
  unfold scriptS
  rw [if_neg (by rw [← data_len, data_toB, List.length_append]; omega), deepP_writ, lines_writ _ (fun x hx => by obtain ⟨q, hq, rfl⟩ := List.mem_map.1 hx; exact (deepP_ok p d q hq).2)]
  have h3 := parse_P ((deepP p d).map fun q => (toB q.1, q.2)) (fun q hq => by obtain ⟨r, hr, rfl⟩ := List.mem_map.1 hq; exact (deepP_ok p d r hr).1) 0 [] []
  simpa [List.map_map, Function.comp_def] using h3
def deepOk (p d : Nat) : Bool := match parseP ((deepP p d).map (·.2)) 0 [] [] with
  | .inr l => decide (d ≤ 8) && decide (l.length = 2 * d)
  | .inl i => decide (8 < d) && decide (i = 9)
set_option maxRecDepth 1000000 in
theorem deep_all : ((List.range 12).all fun d => deepOk 0 d && deepOk 1 d) = true := by kernel_rfl
theorem deepP_mod (p d : Nat) : deepP p d = deepP (p % 2) d := by
  unfold deepP
  congr 1
  apply List.map_congr_left
  intro i _
  have : (i + p) % 2 = (i + p % 2) % 2 := by omega
  rw [this]
theorem deep_one (p d : Nat) (hd : d < 12) : deepOk p d = true := by
  have h := List.all_eq_true.1 deep_all d (List.mem_range.2 hd)
  rw [Bool.and_eq_true] at h
  have e : deepOk p d = deepOk (p % 2) d := by unfold deepOk; rw [deepP_mod p d]
  rw [e]
  rcases Nat.mod_two_eq_zero_or_one p with h0 | h1
  · rw [h0]; exact h.1
  · rw [h1]; exact h.2
theorem deep_parse (p d : Nat) (hd : d < 12) : (d ≤ 8 ∧ ∃ l, scriptS (toB (openL p d ++ shutL d)) = .inr l ∧ l.length = 2 * d) ∨ (8 < d ∧ scriptS (toB (openL p d ++ shutL d)) = .inl 9) := by
  have h := deep_one p d hd
  rw [deep_scr p d hd]
  unfold deepOk at h
  split at h
  · rename_i l hl
    simp only [Bool.and_eq_true, decide_eq_true_eq] at h
    exact .inl ⟨h.1, l, hl, h.2⟩
  · rename_i i hi
    simp only [Bool.and_eq_true, decide_eq_true_eq] at h
    obtain ⟨h1, rfl⟩ := h
    exact .inr ⟨h1, hi⟩
end Go.Proofs.YtmjdkgbblccpgaaDoor
