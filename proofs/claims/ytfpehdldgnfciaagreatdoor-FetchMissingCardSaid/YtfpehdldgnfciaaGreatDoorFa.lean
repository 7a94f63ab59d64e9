/- A fetch, as it lies in memory. -/
import Derived.Test.YtfpehdldgnfciaaGreatDoorBk
import Derived.Test.YtfpehdldgnfciaaGreatDoorR
namespace Go.Proofs.YtfpehdldgnfciaaGreatDoor
open Go.RowKit

/-- The cells of a row: its name is a, its version 1.0.0, its sum K, its size n. -/
def rowC (K : Array Value) (n : Int) : Array Value := (#[.string ⟨#[97]⟩, .int .i64 1, .int .i64 0, .int .i64 0, .slice none 0 0] ++ K) ++ #[.int .i64 n, .slice none 0 0]
/-- The cells of a fetch: its row, its bytes, how many faulty replies in a row, how many spoilt tries, whether it is done, whether it has failed. -/
def fetC (K : Array Value) (n : Int) (bv : Value) (fa sp : Int) (dn fl : Bool) : Array Value := rowC K n ++ #[bv, .int .i64 fa, .int .i64 sp, .bool dn, .bool fl]
theorem rowC_size {K : Array Value} {n : Int} (hK : K.size = 32) : (rowC K n).size = 39 := by simp [rowC, hK]
theorem fetC_size {K : Array Value} {n : Int} {bv : Value} {fa sp : Int} {dn fl : Bool} (hK : K.size = 32) : (fetC K n bv fa sp dn fl).size = 44 := by simp [fetC, rowC_size hK]
theorem rowC_37 {K : Array Value} {n : Int} (hK : K.size = 32) : (rowC K n)[37]? = some (.int .i64 n) := by
  unfold rowC
  rw [Array.getElem?_append_right (by simp [hK])]
  simp [hK]
theorem fetC_row {K : Array Value} {n : Int} {bv : Value} {fa sp : Int} {dn fl : Bool} (hK : K.size = 32) (j : Nat) (h : j < 39) : (fetC K n bv fa sp dn fl)[j]? = (rowC K n)[j]? := by
  unfold fetC
  rw [Array.getElem?_append_left (by rw [rowC_size hK]; exact h)]
theorem fetC_rest {K : Array Value} {n : Int} {bv : Value} {fa sp : Int} {dn fl : Bool} (hK : K.size = 32) (j : Nat) : (fetC K n bv fa sp dn fl)[39 + j]? = #[bv, .int .i64 fa, .int .i64 sp, .bool dn, .bool fl][j]? := by
  unfold fetC
  rw [Array.getElem?_append_right (by rw [rowC_size hK]; omega), rowC_size hK, Nat.add_sub_cancel_left]
theorem rowC_head {K : Array Value} {n : Int} (hK : K.size = 32) (j : Nat) (h : j < 5) : (rowC K n)[j]? = #[(.string ⟨#[97]⟩ : Value), .int .i64 1, .int .i64 0, .int .i64 0, .slice none 0 0][j]? := by
  unfold rowC
  rw [Array.getElem?_append_left (by simp [hK]; omega), Array.getElem?_append_left (by simpa using h)]
theorem rowC_key {K : Array Value} {n : Int} (hK : K.size = 32) (j : Nat) (h : j < 32) : (rowC K n)[5 + j]? = K[j]? := by
  unfold rowC
  rw [Array.getElem?_append_left (by simp [hK]; omega), Array.getElem?_append_right (by simp)]
  simp
theorem fetC_set {K : Array Value} {n : Int} {bv : Value} {fa sp : Int} {dn fl : Bool} (hK : K.size = 32) (j : Nat) (v : Value) : (fetC K n bv fa sp dn fl).setIfInBounds (39 + j) v = rowC K n ++ (#[bv, .int .i64 fa, .int .i64 sp, .bool dn, .bool fl].setIfInBounds j v) := by
  unfold fetC
  rw [Array.setIfInBounds_append_right (by rw [rowC_size hK]; omega), rowC_size hK, Nat.add_sub_cancel_left]

/-- At block F lies a fetch. -/
structure Fet (w : World) (F : Nat) (K : Array Value) (n : Int) (bv : Value) (fa sp : Int) (dn fl : Bool) : Prop where
  blk : w.heap[F]? = some (.cells (fetC K n bv fa sp dn fl) 54 (0, 0))
  key : K.size = 32
theorem Fet.stays {w w' : World} {F : Nat} {K : Array Value} {n : Int} {bv : Value} {fa sp : Int} {dn fl : Bool} (h : Fet w F K n bv fa sp dn fl) (hg : w.grownBy w' none) : Fet w' F K n bv fa sp dn fl := ⟨bk_kept h.blk hg, h.key⟩
theorem Fet.other {w w' : World} {F : Nat} {K : Array Value} {n : Int} {bv : Value} {fa sp : Int} {dn fl : Bool} {r : Option Nat} (h : Fet w F K n bv fa sp dn fl) (hg : w.grownBy w' r) (hr : r ≠ some F) : Fet w' F K n bv fa sp dn fl :=
  ⟨(hg.block F (bk_size h.blk) (fun e => hr (by first | exact e | exact e.symm))).trans h.blk, h.key⟩
theorem Fet.size {w : World} {F : Nat} {K : Array Value} {n : Int} {bv : Value} {fa sp : Int} {dn fl : Bool} (h : Fet w F K n bv fa sp dn fl) : F < w.heap.size := bk_size h.blk
theorem Fet.cells {w : World} {F : Nat} {K : Array Value} {n : Int} {bv : Value} {fa sp : Int} {dn fl : Bool} (h : Fet w F K n bv fa sp dn fl) :
    w.cell? ⟨F, 37, none⟩ = some (.int .i64 n) ∧ w.cell? ⟨F, 39, none⟩ = some bv ∧ w.cell? ⟨F, 40, none⟩ = some (.int .i64 fa) ∧ w.cell? ⟨F, 41, none⟩ = some (.int .i64 sp) ∧ w.cell? ⟨F, 42, none⟩ = some (.bool dn) ∧ w.cell? ⟨F, 43, none⟩ = some (.bool fl) := by
  have e := fun j => fetC_rest (n := n) (bv := bv) (fa := fa) (sp := sp) (dn := dn) (fl := fl) h.key j
  exact ⟨(bk_cell h.blk 37 _ (by rw [fetC_row h.key 37 (by omega), rowC_37 h.key])).1, (bk_cell h.blk 39 _ (e 0)).1, (bk_cell h.blk 40 _ (e 1)).1, (bk_cell h.blk 41 _ (e 2)).1, (bk_cell h.blk 42 _ (e 3)).1, (bk_cell h.blk 43 _ (e 4)).1⟩
theorem Fet.free {w : World} {F : Nat} {K : Array Value} {n : Int} {bv : Value} {fa sp : Int} {dn fl : Bool} (h : Fet w F K n bv fa sp dn fl) (j : Nat) : w.frozen? ⟨F, j, none⟩ = false := by
  simp [World.frozen?, h.blk]
theorem Fet.name {w : World} {F : Nat} {K : Array Value} {n : Int} {bv : Value} {fa sp : Int} {dn fl : Bool} (h : Fet w F K n bv fa sp dn fl) : w.cell? ⟨F, 0, none⟩ = some (.string ⟨#[97]⟩) ∧ w.cell? ⟨F, 1, none⟩ = some (.int .i64 1) ∧ w.cell? ⟨F, 2, none⟩ = some (.int .i64 0) ∧ w.cell? ⟨F, 3, none⟩ = some (.int .i64 0) ∧ w.cell? ⟨F, 4, none⟩ = some (.slice none 0 0) := by
  have e := fun j (hj : j < 5) => (fetC_row (n := n) (bv := bv) (fa := fa) (sp := sp) (dn := dn) (fl := fl) h.key j (by omega)).trans (rowC_head h.key j hj)
  exact ⟨(bk_cell h.blk 0 _ (e 0 (by omega))).1, (bk_cell h.blk 1 _ (e 1 (by omega))).1, (bk_cell h.blk 2 _ (e 2 (by omega))).1, (bk_cell h.blk 3 _ (e 3 (by omega))).1, (bk_cell h.blk 4 _ (e 4 (by omega))).1⟩
theorem Fet.sum {w : World} {F : Nat} {K : Array Value} {n : Int} {bv : Value} {fa sp : Int} {dn fl : Bool} (h : Fet w F K n bv fa sp dn fl) (j : Nat) (v : Value) (hj : K[j]? = some v) : w.cell? ⟨F, 5 + j, none⟩ = some v := by
  have hl : j < 32 := by have := (Array.getElem?_eq_some_iff.1 hj).1; rw [h.key] at this; exact this
  exact (bk_cell h.blk (5 + j) _ (by rw [fetC_row h.key _ (by omega), rowC_key h.key j hl, hj])).1
theorem Fet.setB {w : World} {F : Nat} {K : Array Value} {n : Int} {bv : Value} {fa sp : Int} {dn fl : Bool} (h : Fet w F K n bv fa sp dn fl) (v : Value) : Fet (w.setCell ⟨F, 39, none⟩ v) F K n v fa sp dn fl :=
  ⟨by rw [bk_set h.blk 39 v, show (39 : Nat) = 39 + 0 from rfl, fetC_set h.key]; rfl, h.key⟩
theorem Fet.setFa {w : World} {F : Nat} {K : Array Value} {n : Int} {bv : Value} {fa sp : Int} {dn fl : Bool} (h : Fet w F K n bv fa sp dn fl) (v : Int) : Fet (w.setCell ⟨F, 40, none⟩ (.int .i64 v)) F K n bv v sp dn fl :=
  ⟨by rw [bk_set h.blk 40 _, show (40 : Nat) = 39 + 1 from rfl, fetC_set h.key]; rfl, h.key⟩
theorem Fet.setSp {w : World} {F : Nat} {K : Array Value} {n : Int} {bv : Value} {fa sp : Int} {dn fl : Bool} (h : Fet w F K n bv fa sp dn fl) (v : Int) : Fet (w.setCell ⟨F, 41, none⟩ (.int .i64 v)) F K n bv fa v dn fl :=
  ⟨by rw [bk_set h.blk 41 _, show (41 : Nat) = 39 + 2 from rfl, fetC_set h.key]; rfl, h.key⟩
theorem Fet.setDn {w : World} {F : Nat} {K : Array Value} {n : Int} {bv : Value} {fa sp : Int} {dn fl : Bool} (h : Fet w F K n bv fa sp dn fl) (v : Bool) : Fet (w.setCell ⟨F, 42, none⟩ (.bool v)) F K n bv fa sp v fl :=
  ⟨by rw [bk_set h.blk 42 _, show (42 : Nat) = 39 + 3 from rfl, fetC_set h.key]; rfl, h.key⟩
theorem Fet.setFl {w : World} {F : Nat} {K : Array Value} {n : Int} {bv : Value} {fa sp : Int} {dn fl : Bool} (h : Fet w F K n bv fa sp dn fl) (v : Bool) : Fet (w.setCell ⟨F, 43, none⟩ (.bool v)) F K n bv fa sp dn v :=
  ⟨by rw [bk_set h.blk 43 _, show (43 : Nat) = 39 + 4 from rfl, fetC_set h.key]; rfl, h.key⟩
end Go.Proofs.YtfpehdldgnfciaaGreatDoor
