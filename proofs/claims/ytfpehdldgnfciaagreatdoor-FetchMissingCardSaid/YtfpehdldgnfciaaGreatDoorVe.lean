/- A version, read: as package ver tells it. -/
import Derived.Test.YtfpehdldgnfciaaGreatDoorVd
namespace Go.Proofs.YtfpehdldgnfciaaGreatDoor
open Go.RowKit

/-- A version: three numbers, and marks. -/
structure Vn where
  maj : Int
  min : Int
  pat : Int
  pre : List ByteArray
deriving DecidableEq
def verV (v : Vn) (sl : Value) : Value := .agg #[.int .i64 v.maj, .int .i64 v.min, .int .i64 v.pat, sl]
def zeroV : Vn := ⟨0, 0, 0, []⟩
/-- A number that a version may have. -/
def okNum (p : ByteArray) : Bool := isNum p && decide (p.size ≤ 9)
/-- What stands ahead of the first -, behind it, and whether there is one. -/
def dashS (s : ByteArray) : ByteArray × ByteArray × Bool := (toB (Lib.cut s.data.toList [45]).1, toB (Lib.cut s.data.toList [45]).2.1, (Lib.cut s.data.toList [45]).2.2)
/-- A version's parts, whether they make one. -/
def okVer (P : List ByteArray) (marks : ByteArray) (marked : Bool) : Bool := decide (P.length = 3) && P.all okNum && (!marked || okMarks (pieces 46 marks))
def preOf (marks : ByteArray) (marked : Bool) : List ByteArray := if marked = true then pieces 46 marks else []
def parseP (P : List ByteArray) (marks : ByteArray) (marked : Bool) : Vn × Int :=
  if okVer P marks marked = true then (⟨num (strAt P 0), num (strAt P 1), num (strAt P 2), preOf marks marked⟩, 0) else (zeroV, 60)
/-- THE DOCUMENT's VERSION, OR NONE. -/
def parseS (s : ByteArray) : Vn × Int := parseP (pieces 46 (dashS s).1) (dashS s).2.1 (dashS s).2.2
def VerRet (w : World) (R : Vn × Int) (e : Ending) (w' : World) : Prop :=
  ∃ sl, e = .returned (.tuple #[verV R.1 sl, .int .i64 R.2]) ∧ PartS w' w'.heap.size sl R.1.pre ∧ w.grownBy w' none

theorem block_kept {w w' : World} {b : Nat} {c : Obj} (h : w.heap[b]? = some c) (hg : w.grownBy w' none) : w'.heap[b]? = some c := by
  have hb : b < w.heap.size := by
    rcases Nat.lt_or_ge b w.heap.size with h1 | h1
    · exact h1
    · rw [Array.getElem?_eq_none h1] at h; cases h
  rw [hg.block b hb (by simp), h]
theorem alloc_block (w : World) (o : Obj) : (w.alloc o).heap[w.heap.size]? = some o := by
  show (w.heap.push o)[w.heap.size]? = some o
  simp
theorem block_cell {w : World} {b : Nat} {c : Array Value} {t : TypeId} (h : w.heap[b]? = some (.cells c t (0, 0))) (j : Nat) (v : Value) (hj : c[j]? = some v) : w.cell? ⟨b, j, none⟩ = some v ∧ w.frozen? ⟨b, j, none⟩ = false := by
  refine ⟨by rw [cell_in h, hj], ?_⟩
  simp [World.frozen?, h]
theorem block_size {w : World} {b : Nat} {o : Obj} (h : w.heap[b]? = some o) : b < w.heap.size := by
  rcases Nat.lt_or_ge b w.heap.size with h1 | h1
  · exact h1
  · rw [Array.getElem?_eq_none h1] at h; cases h

theorem PartS.other {w w' : World} {B k : Nat} {v : Value} {M : List ByteArray} (h : PartS w B v M) (hg : w.grownBy w' (some k)) (hk : v.ownBlock ≠ some k) : PartS w' B v M := by
  obtain ⟨a, cap, b, o, h1, h2, h3, h4, h5, h6⟩ := h
  refine ⟨a, cap, b, o, h1, h2, h3, h4, h5, fun j x hj => hg.cell (h6 j x hj) (fun e => hk ?_)⟩
  have hl := (List.getElem?_eq_some_iff.1 hj).1
  rw [h1, h5 (by omega), ← e]; rfl
theorem dash_size (s : ByteArray) : (dashS s).1.size ≤ s.size ∧ (dashS s).2.1.size ≤ s.size := by
  have h1 : ∀ l : List UInt8, (toB l).size = l.length := fun l => rfl
  have hl := data_len s
  unfold dashS
  simp only [h1]
  unfold Lib.cut
  split
  · simp only [List.length_take, List.length_drop]; omega
  · simp only [List.length_nil]; omega
theorem set_block {w : World} {b : Nat} {c : Array Value} {t : TypeId} {f : Nat × Nat} (h : w.heap[b]? = some (.cells c t f)) (i : Nat) (v : Value) : (w.setCell ⟨b, i, none⟩ v).heap[b]? = some (.cells (c.setIfInBounds i v) t f) := by
  simp [World.setCell, Array.getElem?_modify, h]
theorem set_grown (w : World) (b i : Nat) (v : Value) : w.grownBy (w.setCell ⟨b, i, none⟩ v) (some b) :=
  ⟨rfl, rfl, rfl, by simp [World.setCell], fun k hk hne => by
    have : ¬ b = k := fun e => hne (by rw [e])
    simp [World.setCell, Array.getElem?_modify, this]⟩
theorem grown_set {w0 w : World} {b : Nat} (h : w0.grownBy w none) (hb : w0.heap.size ≤ b) (i : Nat) (v : Value) : w0.grownBy (w.setCell ⟨b, i, none⟩ v) none := grown_new h (set_grown w b i v) hb
/-- A version is laid into the block R. -/
theorem lay_ver {w0 w : World} {R : Nat} {x0 x1 x2 x3 : Value} (h0 : w0.grownBy w none) (hb : w0.heap.size ≤ R) (hR : w.heap[R]? = some (.cells #[x0, x1, x2, x3] 30 (0, 0))) (y0 y1 y2 y3 : Value) (w' : World)
    (hw : (((w.setCell ⟨R, 0, none⟩ y0).setCell ⟨R, 1, none⟩ y1).setCell ⟨R, 2, none⟩ y2).setCell ⟨R, 3, none⟩ y3 = w') :
    w0.grownBy w' none ∧ w'.heap[R]? = some (.cells #[y0, y1, y2, y3] 30 (0, 0)) ∧ w.heap.size ≤ w'.heap.size ∧ w.grownBy w' (some R) := by
  have g1 := grown_set (grown_set (grown_set (grown_set h0 hb 0 y0) hb 1 y1) hb 2 y2) hb 3 y3
  have r1 := set_block (set_block (set_block (set_block hR 0 y0) 1 y1) 2 y2) 3 y3
  have s1 : w.grownBy ((((w.setCell ⟨R, 0, none⟩ y0).setCell ⟨R, 1, none⟩ y1).setCell ⟨R, 2, none⟩ y2).setCell ⟨R, 3, none⟩ y3) (some R) :=
    World.grownBy.trans (World.grownBy.trans (World.grownBy.trans (set_grown w R 0 y0) (set_grown _ R 1 y1)) (set_grown _ R 2 y2)) (set_grown _ R 3 y3)
  rw [hw] at g1 r1 s1
  exact ⟨g1, r1, s1.size, s1⟩

/-- The three numbers' cells: k are done, the next one stands at y. -/
def nIn (P : List ByteArray) (k : Nat) (y : Int) (j : Nat) : Int := if j < k then (num (strAt P j) : Int) else if j = k then y else 0
def numsC (P : List ByteArray) (k : Nat) (y : Int) : Array Value := #[.int .i64 (nIn P k y 0), .int .i64 (nIn P k y 1), .int .i64 (nIn P k y 2)]
theorem numsC_start (P : List ByteArray) : numsC P 0 0 = #[.int .i64 0, .int .i64 0, .int .i64 0] := rfl
theorem numsC_at (P : List ByteArray) (k : Nat) (y : Int) (h : k < 3) : (numsC P k y)[k]? = some (.int .i64 y) := by
  match k, h with
  | 0, _ => rfl
  | 1, _ => rfl
  | 2, _ => rfl
theorem numsC_set (P : List ByteArray) (k : Nat) (y z : Int) (h : k < 3) : (numsC P k y).setIfInBounds k (.int .i64 z) = numsC P k z := by
  match k, h with
  | 0, _ => rfl
  | 1, _ => rfl
  | 2, _ => rfl
theorem numsC_next (P : List ByteArray) (k : Nat) (h : k < 3) : numsC P k (num (strAt P k) : Int) = numsC P (k + 1) 0 := by
  match k, h with
  | 0, _ => rfl
  | 1, _ => rfl
  | 2, _ => rfl
theorem allTo_less (p : UInt8 → Bool) (s : ByteArray) (m : Nat) (h : allTo p s m = true) (k : Nat) (hk : k ≤ m) : allTo p s k = true := by
  induction m with
  | zero => have : k = 0 := by omega
            subst this; exact h
  | succ m ih =>
    by_cases e : k = m + 1
    · rw [e]; exact h
    · refine ih ?_ (by omega)
      rw [allTo, Bool.and_eq_true] at h
      exact h.1
theorem okNum_bound (x : ByteArray) (h : okNum x = true) (q : Nat) (hq : q ≤ x.size) : numTo x q < 1000000000 := by
  unfold okNum isNum allDig at h
  simp only [Bool.and_eq_true, decide_eq_true_eq] at h
  have h1 := numTo_lt x q (allTo_less isDig x x.size h.1.1.1 q hq)
  have h2 : (10 : Nat) ^ q ≤ 10 ^ 9 := Nat.pow_le_pow_right (by omega) (by omega)
  omega
theorem okNum_dig (x : ByteArray) (h : okNum x = true) (q : Nat) (hq : q < x.size) : isDig (byteAt x q) = true := by
  unfold okNum isNum allDig at h
  simp only [Bool.and_eq_true, decide_eq_true_eq] at h
  exact allTo_at isDig x x.size h.1.1.1 q hq
theorem okVer_no (P : List ByteArray) (marks : ByteArray) (marked : Bool) (k : Nat) (x : ByteArray) (h : P[k]? = some x) (hx : okNum x = false) : okVer P marks marked = false := by
  unfold okVer
  rw [all_no P k x okNum h hx]
  simp

end Go.Proofs.YtfpehdldgnfciaaGreatDoor
