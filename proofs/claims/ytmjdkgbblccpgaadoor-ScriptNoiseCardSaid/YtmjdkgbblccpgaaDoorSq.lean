/- A line of words, as package script tells it. -/
import Derived.Test.YtmjdkgbblccpgaaDoorSo
namespace Go.Proofs.YtmjdkgbblccpgaaDoor
open Go.RowKit

theorem PartS.tailN {w : World} {B cp b o n : Nat} {x : ByteArray} {W : List ByteArray} (h : PartS w B (.slice (some ⟨b, o, none⟩) (n + 1) cp) (x :: W)) (hn : W.length = n) : PartS w B (.slice (some ⟨b, o + 1, none⟩) n (cp - 1)) W := by
  subst hn; exact h.tail
theorem PartS.tail1N {w : World} {B cp n : Nat} {a : Option Addr} {x : ByteArray} {W : List ByteArray} (h : PartS w B (.slice a (n + 1) cp) (x :: W)) (hn : W.length = n) (h1 : cp = 1) : W = [] ∧ PartS w B (.slice a 0 0) W := by
  subst hn; exact h.tail1 h1
structure Ln where
  kind : Int
  a : ByteArray
  b : ByteArray
  text : ByteArray
  n : Int
  no : Bool
def lnV (l : Ln) : Value := .agg #[.int .i64 l.kind, .string l.a, .string l.b, .string l.text, .int .i64 l.n, .bool l.no]
def E0 : ByteArray := ⟨#[]⟩
def wNot : ByteArray := ⟨#[110, 111, 116]⟩
def wExists : ByteArray := ⟨#[101, 120, 105, 115, 116, 115]⟩
/-- What a line of kind k has behind its first word. -/
def lineK (k : Int) (W : List ByteArray) : Option Ln :=
  if k = 0 ∨ k = 5 then (match W with
    | [a, b] => if isQ a = false ∧ isQ b = false then some ⟨k, a, b, E0, 0, false⟩ else none
    | _ => none)
  else if k = 1 ∨ k = 2 ∨ k = 6 then (match W with
    | [a, t] => if isQ a = false ∧ isQ t = true then some ⟨k, a, E0, unQ t, 0, false⟩ else none
    | _ => none)
  else if k = 11 then (match W with
    | [t] => if isQ t = true then some ⟨k, E0, E0, unQ t, 0, false⟩ else none
    | _ => none)
  else if k = 7 then (match W with
    | [e, a] => if e = wExists ∧ isQ a = false then some ⟨k, a, E0, E0, 0, false⟩ else none
    | [n, e, a] => if n = wNot ∧ e = wExists ∧ isQ a = false then some ⟨k, a, E0, E0, 0, true⟩ else none
    | _ => none)
  else if k = 3 ∨ k = 4 then (match W with
    | [a] => if isQ a = false then some ⟨k, a, E0, E0, 0, false⟩ else none
    | _ => none)
  else if k = 8 then (match W with
    | [x] => (repP x).map fun n => ⟨k, E0, E0, E0, (n : Int), false⟩
    | _ => none)
  else if k = 9 ∨ k = 10 then (match W with
    | [] => some ⟨k, E0, E0, E0, 0, false⟩
    | _ => none)
  else none
def lineOf : List ByteArray → Option Ln
  | [] => none
  | x :: W => lineK (kindS x) W
def LineR (r : Option Ln) (w : World) (e : Ending) (w' : World) : Prop :=
  ∃ (l : Ln) (g : Bool), e = .returned (.tuple #[lnV l, .bool g]) ∧ (g = true → r = some l) ∧ (g = false → r = none) ∧ w.grownBy w' none
def LineTo (W : List ByteArray) (w : World) (e : Ending) (w' : World) : Prop := LineR (lineOf W) w e w'

/-- The cells of a line, as far as it is read. -/
def lnC (l : Ln) : Array Value := #[.int .i64 l.kind, .string l.a, .string l.b, .string l.text, .int .i64 l.n, .bool l.no]
/-- What a world holds while a line is read: the line at L, the reading at b, the result at R. -/
structure LSt (w x : World) (R L b B : Nat) (W : List ByteArray) (bad : Bool) (l : Ln) : Prop where
  rd : Rd x b B W bad
  ln : x.heap[L]? = some (.cells (lnC l) 41 (0, 0))
  rs : x.heap[R]? = some (.cells (lnC ⟨0, E0, E0, E0, 0, false⟩) 41 (0, 0))
  g : w.grownBy x none
  RL : R < L
  Lb : b = L + 1
  BR : B ≤ L
  wR : w.heap.size = R
theorem LSt.call {w x x' : World} {R L b B : Nat} {W W' : List ByteArray} {bad bad' : Bool} {l : Ln} (h : LSt w x R L b B W bad l) (h1 : Rd x' b B W' bad') (hg : x.grownBy x' (some b)) : LSt w x' R L b B W' bad' l := by
  have h2 := h.RL; have h3 := h.Lb; have h4 := h.wR
  exact ⟨h1, by rw [hg.block L (block_size h.ln) (by simp; omega)]; exact h.ln, by rw [hg.block R (block_size h.rs) (by simp; omega)]; exact h.rs, grown_new h.g hg (by omega), h2, h3, h.BR, h4⟩
theorem LSt.store {w x : World} {R L b B : Nat} {W : List ByteArray} {bad : Bool} {l l' : Ln} (h : LSt w x R L b B W bad l) (j : Nat) (v : Value) (e : (lnC l).setIfInBounds j v = lnC l') : LSt w (x.setCell ⟨L, j, none⟩ v) R L b B W bad l' := by
  have h2 := h.RL; have h3 := h.Lb; have h4 := h.wR
  have hg := set_grown x L j v
  exact ⟨h.rd.other hg (by omega) h.BR, by rw [← e]; exact set_block h.ln j v, by rw [hg.block R (block_size h.rs) (by simp; omega)]; exact h.rs, grown_set h.g (by omega) j v, h2, h3, h.BR, h4⟩
theorem LSt.mark {w x : World} {R L b B : Nat} {W : List ByteArray} {bad : Bool} {l : Ln} (h : LSt w x R L b B W bad l) (v : Bool) : LSt w (x.setCell ⟨b, 1, none⟩ (.bool v)) R L b B W v l := h.call (h.rd.setBad v) (set_grown _ _ _ _)
theorem LSt.stays {w x x' : World} {R L b B : Nat} {W : List ByteArray} {bad : Bool} {l : Ln} (h : LSt w x R L b B W bad l) (hg : x.grownBy x' none) : LSt w x' R L b B W bad l :=
  ⟨h.rd.stays hg, block_kept h.ln hg, block_kept h.rs hg, World.grownBy.trans h.g hg, h.RL, h.Lb, h.BR, h.wR⟩
theorem LSt.start {w w1 : World} {B n cp : Nat} {a : Option Addr} {W : List ByteArray} {k : Int} {bd : Bool} (hg : w.grownBy w1 none) (hR : w1.heap[w.heap.size]? = some (.cells (lnC ⟨0, E0, E0, E0, 0, false⟩) 41 (0, 0))) (hB : B ≤ w.heap.size) (hP : PartS w1 B (.slice a n cp) W) (hn : W.length = n) (hn8 : n ≤ 8000000) :
    LSt w ((w1.alloc (.cells (lnC ⟨k, E0, E0, E0, 0, false⟩) 41)).alloc (.cells #[.slice a n cp, .bool bd] 83)) w.heap.size w1.heap.size (w1.heap.size + 1) B W bd ⟨k, E0, E0, E0, 0, false⟩ := by
  have g1 := World.grownBy_alloc w1 (.cells (lnC ⟨k, E0, E0, E0, 0, false⟩) 41) none
  have g2 := World.grownBy_alloc (w1.alloc (.cells (lnC ⟨k, E0, E0, E0, 0, false⟩) 41)) (.cells #[.slice a n cp, .bool bd] 83) none
  have hs := hg.size
  have hR1 := block_size hR
  subst hn
  refine ⟨⟨a, cp, ?_, ⟨hn8, by omega⟩, (hP.stays g1).stays g2⟩, block_kept (alloc_block _ _) g2, block_kept (block_kept hR g1) g2, World.grownBy.trans (World.grownBy.trans hg g1) g2, hR1, rfl, by omega, rfl⟩
  have := alloc_block (w1.alloc (.cells (lnC ⟨k, E0, E0, E0, 0, false⟩) 41)) (.cells #[.slice a W.length cp, .bool bd] 83)
  rw [alloc_size] at this
  exact this
theorem LSt.lay {w x x' : World} {R L b B : Nat} {W : List ByteArray} {bad : Bool} {l : Ln} (h : LSt w x R L b B W bad l) (l' : Ln)
    (hx : (((((x.setCell ⟨R, 0, none⟩ (.int .i64 l'.kind)).setCell ⟨R, 1, none⟩ (.string l'.a)).setCell ⟨R, 2, none⟩ (.string l'.b)).setCell ⟨R, 3, none⟩ (.string l'.text)).setCell ⟨R, 4, none⟩ (.int .i64 l'.n)).setCell ⟨R, 5, none⟩ (.bool l'.no) = x') :
    w.grownBy x' none ∧ x'.heap[R]? = some (.cells (lnC l') 41 (0, 0)) := by
  have hb : w.heap.size ≤ R := by have := h.wR; omega
  have g1 := grown_set (grown_set (grown_set (grown_set (grown_set (grown_set h.g hb 0 (.int .i64 l'.kind)) hb 1 (.string l'.a)) hb 2 (.string l'.b)) hb 3 (.string l'.text)) hb 4 (.int .i64 l'.n)) hb 5 (.bool l'.no)
  have r1 := set_block (set_block (set_block (set_block (set_block (set_block h.rs 0 (.int .i64 l'.kind)) 1 (.string l'.a)) 2 (.string l'.b)) 3 (.string l'.text)) 4 (.int .i64 l'.n)) 5 (.bool l'.no)
  rw [hx] at g1 r1
  exact ⟨g1, r1⟩
def goodB (bad : Bool) (W : List ByteArray) : Bool := !bad && decide (W.length = 0)
theorem good_len (V : List ByteArray) : (((V.length : Nat) : Int) == 0) = goodB false V := by
  cases V with
  | nil => rfl
  | cons a t => simp [goodB]; omega
theorem line_end {k : Int} {r : Option Ln} {W : List ByteArray} {bad : Bool} {V : List ByteArray} {l : Ln} {w w' : World} (hr : lineK k W = r) (h1 : goodB bad V = true → lineK k W = some l) (h2 : goodB bad V = false → lineK k W = none) (hg : w.grownBy w' none) (g : Bool) (e : g = goodB bad V) :
    LineR r w (.returned (.tuple #[lnV l, .bool g])) w' := by
  subst e hr
  exact ⟨l, _, rfl, h1, h2, hg⟩
theorem ln_load {w : World} {r : Nat} {cs : Array Value} (h : w.heap[r]? = some (.cells cs 41 (0, 0))) (hc : cs.size = 6) : (Instr.loadAt 41 (.pointer (some ⟨r, 0, none⟩))).run Tryd.prog w = .ok (.agg cs) w := by
  simp only [Instr.loadAt, Instr.sureAddr, Sem.run_bind, Sem.run_pure, Result.andThen]
  exact run_loadVar_row _ _ 41 41 cs (0, 0) _ h Tryd.underlying41 rfl (by rw [hc]; kernel_rfl)
theorem lnC_at (l : Ln) : (lnC l)[0]? = some (.int .i64 l.kind) ∧ (lnC l)[1]? = some (.string l.a) ∧ (lnC l)[2]? = some (.string l.b) ∧ (lnC l)[3]? = some (.string l.text) ∧ (lnC l)[4]? = some (.int .i64 l.n) ∧ (lnC l)[5]? = some (.bool l.no) := ⟨rfl, rfl, rfl, rfl, rfl, rfl⟩
theorem lnC_block {w : World} {b : Nat} {l : Ln} (h : w.heap[b]? = some (.cells (lnC l) 41 (0, 0))) : (w.cell? ⟨b, 0, none⟩ = some (.int .i64 l.kind) ∧ w.cell? ⟨b, 1, none⟩ = some (.string l.a) ∧ w.cell? ⟨b, 2, none⟩ = some (.string l.b) ∧ w.cell? ⟨b, 3, none⟩ = some (.string l.text) ∧ w.cell? ⟨b, 4, none⟩ = some (.int .i64 l.n) ∧ w.cell? ⟨b, 5, none⟩ = some (.bool l.no)) ∧
    (w.frozen? ⟨b, 0, none⟩ = false ∧ w.frozen? ⟨b, 1, none⟩ = false ∧ w.frozen? ⟨b, 2, none⟩ = false ∧ w.frozen? ⟨b, 3, none⟩ = false ∧ w.frozen? ⟨b, 4, none⟩ = false ∧ w.frozen? ⟨b, 5, none⟩ = false) :=
  ⟨⟨(block_cell h 0 _ rfl).1, (block_cell h 1 _ rfl).1, (block_cell h 2 _ rfl).1, (block_cell h 3 _ rfl).1, (block_cell h 4 _ rfl).1, (block_cell h 5 _ rfl).1⟩, ⟨(block_cell h 0 _ rfl).2, (block_cell h 1 _ rfl).2, (block_cell h 2 _ rfl).2, (block_cell h 3 _ rfl).2, (block_cell h 4 _ rfl).2, (block_cell h 5 _ rfl).2⟩⟩

set_option maxRecDepth 1000000
set_option maxHeartbeats 1000000 in
theorem line_none (a : Option Addr) (cp : Nat) (w : World) : Calls Tryd.prog 23 #[.slice a 0 cp] w (LineTo [] w) := by
  go_enter Tryd.func23, Tryd.ntmps23
  go_wp2
  refine bodyPost_ret (v := .tuple #[lnV ⟨0, E0, E0, E0, 0, false⟩, .bool false]) (by simp [results, Tryd.results23, go_sem, lnV, E0]) rfl ⟨_, false, rfl, (fun h => by cases h), fun _ => rfl, World.grownBy_alloc _ _ _⟩
end Go.Proofs.YtmjdkgbblccpgaaDoor
