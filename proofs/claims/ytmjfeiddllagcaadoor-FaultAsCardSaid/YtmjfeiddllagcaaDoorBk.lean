/- Blocks of memory: what is known of one is kept by what grows, or writes elsewhere. -/
import Derived.Test.YtmjfeiddllagcaaDoorBo
namespace Go.Proofs.YtmjfeiddllagcaaDoor
open Go.RowKit

theorem bk_kept {w w' : World} {b : Nat} {c : Obj} (h : w.heap[b]? = some c) (hg : w.grownBy w' none) : w'.heap[b]? = some c :=
  (hg.block b (Array.getElem?_eq_some_iff.1 h).1 (by simp)).trans h
theorem bk_alloc (w : World) (o : Obj) : (w.alloc o).heap[w.heap.size]? = some o := by
  show (w.heap.push o)[w.heap.size]? = some o
  simp
theorem bk_cell {w : World} {b : Nat} {c : Array Value} {t : TypeId} (h : w.heap[b]? = some (.cells c t (0, 0))) (j : Nat) (v : Value) (hj : c[j]? = some v) : w.cell? ⟨b, j, none⟩ = some v ∧ w.frozen? ⟨b, j, none⟩ = false := by
  refine ⟨by rw [cell_in h, hj], ?_⟩
  simp [World.frozen?, h]
theorem bk_size {w : World} {b : Nat} {o : Obj} (h : w.heap[b]? = some o) : b < w.heap.size := (Array.getElem?_eq_some_iff.1 h).1
theorem bk_set {w : World} {b : Nat} {c : Array Value} {t : TypeId} {f : Nat × Nat} (h : w.heap[b]? = some (.cells c t f)) (i : Nat) (v : Value) : (w.setCell ⟨b, i, none⟩ v).heap[b]? = some (.cells (c.setIfInBounds i v) t f) := by
  simp [World.setCell, Array.getElem?_modify, h]
theorem bk_set_grown (w : World) (b i : Nat) (v : Value) : w.grownBy (w.setCell ⟨b, i, none⟩ v) (some b) :=
  ⟨rfl, rfl, rfl, by simp [World.setCell], fun k hk hne => by
    have : ¬ b = k := fun e => hne (by rw [e])
    simp [World.setCell, Array.getElem?_modify, this]⟩
theorem bk_grown_set {w0 w : World} {b : Nat} (h : w0.grownBy w none) (hb : w0.heap.size ≤ b) (i : Nat) (v : Value) : w0.grownBy (w.setCell ⟨b, i, none⟩ v) none := grown_new h (bk_set_grown w b i v) hb
/-- Only what was made from base on has turned. -/
theorem below_grown {w w' : World} {base : Nat} {r : Option Nat} (h : w.grownBy w' r) (hr : ∀ k, r = some k → base ≤ k) (hb : base ≤ w.heap.size) : Below base w w' :=
  ⟨h.os, h.tape, h.output, h.size, fun k hk => h.block k (Nat.lt_of_lt_of_le hk hb) (fun e => by have := hr k (by first | exact e | exact e.symm); omega)⟩
theorem below_trans {w w1 w2 : World} {base : Nat} (h1 : Below base w w1) (h2 : Below base w1 w2) : Below base w w2 :=
  ⟨h2.os.trans h1.os, h2.tape.trans h1.tape, h2.output.trans h1.output, Nat.le_trans h1.size h2.size, fun k hk => (h2.block k hk).trans (h1.block k hk)⟩
theorem below_le {w w' : World} {base c : Nat} (h : Below base w w') (hc : c ≤ base) : Below c w w' := ⟨h.os, h.tape, h.output, h.size, fun k hk => h.block k (Nat.lt_of_lt_of_le hk hc)⟩
theorem below_drew {w : World} {base : Nat} (n : Nat) : Below base w (w.drewN n) := ⟨rfl, rfl, rfl, Nat.le_refl _, fun _ _ => rfl⟩
theorem below_cell {w w' : World} {base b : Nat} (h : Below base w w') (hb : b < base) (j : Nat) : w'.cell? ⟨b, j, none⟩ = w.cell? ⟨b, j, none⟩ := by
  simp only [World.cell?, h.block b hb]
theorem Part.below {w w' : World} {B base : Nat} {v : Value} {M : List UInt8} (h : Part w B v M) (hg : Below base w w') (hB : B ≤ base) : Part w' B v M := by
  obtain ⟨a, cap, b, o, h1, h2, h6, h3, h4, h5⟩ := h
  exact ⟨a, cap, b, o, h1, h2, h6, h3, h4, fun j hj => by rw [below_cell hg (Nat.lt_of_lt_of_le h3 hB)]; exact h5 j hj⟩
theorem Owns.other {w w1 : World} {base b : Nat} {v : Value} {L : List UInt8} (h : Owns w base v L) (hg : w.grownBy w1 (some b)) (hb : v.ownBlock ≠ some b) : Owns w1 base v L :=
  World.ownsRow.kept h hg (by cases e : v.ownBlock with
    | none => exact .inl rfl
    | some k => exact .inr (by rw [e] at hb; exact fun e2 => hb (by first | exact e2 | exact e2.symm)))
theorem Owns.open {w : World} {base m : Nat} {v : Value} {L : List UInt8} (h : Owns w base v L) (hL : L.length = m) : ∃ a c, v = .slice a m c ∧ c ≤ maxLen := by
  obtain ⟨a, c, e, _, h2⟩ := h.form
  exact ⟨a, c, by rw [e, hL], h2⟩
/-- A block of another kind is not the one that owned bytes lie in. -/
theorem Owns.apart {w : World} {base b : Nat} {v : Value} {L : List UInt8} {c : Array Value} {t : TypeId} {f : Nat × Nat} (h : Owns w base v L) (hb : w.heap[b]? = some (.cells c t f)) (ht : t ≠ 5) : v.ownBlock ≠ some b := by
  intro e
  rcases h.2 with ⟨h1, _⟩ | ⟨g, cap, cur, h1, h2, h3, _⟩
  · rw [h1] at e; simp [Value.ownBlock] at e
  · rw [h1] at e
    have e2 : g = b := by simpa [Value.ownBlock] using e
    subst e2
    rw [h3] at hb
    injection hb with hb
    injection hb with _ h4
    exact ht h4.symm
end Go.Proofs.YtmjfeiddllagcaaDoor
