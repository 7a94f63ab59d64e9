/- How the words of a line are read, one by one. -/
import Derived.Test.YtmjdkgbblccpgaaDoorSm
namespace Go.Proofs.YtmjdkgbblccpgaaDoor
open Go.RowKit

theorem block_kept {w w' : World} {b : Nat} {c : Obj} (h : w.heap[b]? = some c) (hg : w.grownBy w' none) : w'.heap[b]? = some c := obj_kept h hg
theorem alloc_block (w : World) (o : Obj) : (w.alloc o).heap[w.heap.size]? = some o := by
  show (w.heap.push o)[w.heap.size]? = some o
  simp
theorem block_cell {w : World} {b : Nat} {c : Array Value} {t : TypeId} (h : w.heap[b]? = some (.cells c t (0, 0))) (j : Nat) (v : Value) (hj : c[j]? = some v) : w.cell? ⟨b, j, none⟩ = some v ∧ w.frozen? ⟨b, j, none⟩ = false := by
  refine ⟨by rw [cell_in h, hj], ?_⟩
  simp [World.frozen?, h]
theorem block_size {w : World} {b : Nat} {o : Obj} (h : w.heap[b]? = some o) : b < w.heap.size := (Array.getElem?_eq_some_iff.1 h).1
theorem set_block {w : World} {b : Nat} {c : Array Value} {t : TypeId} {f : Nat × Nat} (h : w.heap[b]? = some (.cells c t f)) (i : Nat) (v : Value) : (w.setCell ⟨b, i, none⟩ v).heap[b]? = some (.cells (c.setIfInBounds i v) t f) := by
  simp [World.setCell, Array.getElem?_modify, h]
theorem set_grown (w : World) (b i : Nat) (v : Value) : w.grownBy (w.setCell ⟨b, i, none⟩ v) (some b) :=
  ⟨rfl, rfl, rfl, by simp [World.setCell], fun k hk hne => by
    have : ¬ b = k := fun e => hne (by rw [e])
    simp [World.setCell, Array.getElem?_modify, this]⟩
theorem grown_set {w0 w : World} {b : Nat} (h : w0.grownBy w none) (hb : w0.heap.size ≤ b) (i : Nat) (v : Value) : w0.grownBy (w.setCell ⟨b, i, none⟩ v) none := grown_new h (set_grown w b i v) hb

theorem PartS.tail1 {w : World} {B cp : Nat} {a : Option Addr} {x : ByteArray} {W : List ByteArray} (h : PartS w B (.slice a (W.length + 1) cp) (x :: W)) (h1 : cp = 1) : W = [] ∧ PartS w B (.slice a 0 0) W := by
  obtain ⟨a', cap', b, o, e1, e2, e3, e4, e5, e6⟩ := h
  have e := Value.slice.inj e1
  have hW : W = [] := List.eq_nil_of_length_eq_zero (by simp at e2; omega)
  subst hW
  exact ⟨rfl, a, 0, b, o, rfl, Nat.le_refl _, fun _ => rfl, e4, fun h => by simp at h, fun j y hj => by simp at hj⟩
theorem PartS.tail {w : World} {B cp b o : Nat} {x : ByteArray} {W : List ByteArray} (h : PartS w B (.slice (some ⟨b, o, none⟩) (W.length + 1) cp) (x :: W)) : PartS w B (.slice (some ⟨b, o + 1, none⟩) W.length (cp - 1)) W := by
  obtain ⟨a', cap', b', o', e1, e2, e3, e4, e5, e6⟩ := h
  have e := Value.slice.inj e1
  have h5 := e5 (by simp)
  rw [← e.1] at h5
  have h6 := Option.some.inj h5
  injection h6 with k1 k2
  subst k1 k2
  refine ⟨_, cp - 1, b, o + 1, rfl, (by simp at e2; omega), (fun h => by cases h), e4, fun _ => rfl, fun j y hj => ?_⟩
  have := e6 (j + 1) y (by simpa using hj)
  rw [show o + 1 + j = o + (j + 1) by omega]
  exact this

/-- At block b lies a reading: the words W that are not read yet, and whether one wasn't as it must be. -/
def Rd (w : World) (b B : Nat) (W : List ByteArray) (bad : Bool) : Prop :=
  ∃ a cp, w.heap[b]? = some (.cells #[.slice a W.length cp, .bool bad] 83 (0, 0)) ∧ (W.length ≤ 8000000 ∧ B ≤ b) ∧ PartS w B (.slice a W.length cp) W
theorem Rd.stays {w w' : World} {b B : Nat} {W : List ByteArray} {bad : Bool} (h : Rd w b B W bad) (hg : w.grownBy w' none) : Rd w' b B W bad := by
  obtain ⟨a, cp, h1, h2, h3⟩ := h
  exact ⟨a, cp, block_kept h1 hg, h2, h3.stays hg⟩
theorem Rd.other {w w' : World} {b B c : Nat} {W : List ByteArray} {bad : Bool} (h : Rd w b B W bad) (hg : w.grownBy w' (some c)) (hc : c ≠ b) (hB : B ≤ c) : Rd w' b B W bad := by
  obtain ⟨a, cp, h1, h2, h3⟩ := h
  exact ⟨a, cp, by rw [hg.block b (block_size h1) (by simp; omega)]; exact h1, h2, h3.grown hg (fun k hk => by have := Option.some.inj hk; omega)⟩
theorem Rd.size {w : World} {b B : Nat} {W : List ByteArray} {bad : Bool} (h : Rd w b B W bad) : b < w.heap.size := by
  obtain ⟨a, cp, h1, h2, h3⟩ := h
  exact block_size h1
theorem Rd.setBad {w : World} {b B : Nat} {W : List ByteArray} {bad : Bool} (h : Rd w b B W bad) (v : Bool) : Rd (w.setCell ⟨b, 1, none⟩ (.bool v)) b B W v := by
  obtain ⟨a, cp, h1, h2, h3⟩ := h
  exact ⟨a, cp, set_block h1 1 _, h2, h3.grown (set_grown w b 1 _) (fun k hk => by have := Option.some.inj hk; have := h2.2; omega)⟩
theorem Rd.setWords {w : World} {b B : Nat} {W V : List ByteArray} {bad : Bool} {a : Option Addr} {cp : Nat} (h : Rd w b B W bad) (hl : V.length ≤ 8000000) (hp : PartS w B (.slice a V.length cp) V) : Rd (w.setCell ⟨b, 0, none⟩ (.slice a V.length cp)) b B V bad := by
  obtain ⟨a', cp', h1, h2, h3⟩ := h
  exact ⟨a, cp, set_block h1 0 _, ⟨hl, h2.2⟩, hp.grown (set_grown w b 0 _) (fun k hk => by have := Option.some.inj hk; have := h2.2; omega)⟩
def ReadTo (w : World) (b B : Nat) (v : Value) (W : List ByteArray) (bad : Bool) (e : Ending) (w' : World) : Prop := e = .returned v ∧ Rd w' b B W bad ∧ w.grownBy w' (some b)

set_option maxRecDepth 1000000
set_option maxHeartbeats 1000000 in
theorem next_none (b B : Nat) (bad : Bool) (w : World) (h : Rd w b B [] bad) :
    Calls Tryd.prog 66 #[.pointer (some ⟨b, 0, none⟩)] w (ReadTo w b B (.string ⟨#[]⟩) [] true) := by
  have HR := Lib.hid h
  obtain ⟨a, cp, h1, h2, h3⟩ := h
  have c00 : w.cell? ⟨b, 0, none⟩ = some (.slice a 0 cp) := (block_cell h1 0 _ rfl).1
  have c01 := (block_cell h1 0 _ rfl).2
  have c10 : w.cell? ⟨b, 1, none⟩ = some (.bool bad) := (block_cell h1 1 _ rfl).1
  have c11 := (block_cell h1 1 _ rfl).2
  clear h1 h2 h3
  go_enter Tryd.func66, Tryd.ntmps66
  go_wp2
  go_ret
  exact ⟨rfl, HR.out.setBad true, set_grown _ _ _ _⟩
set_option maxHeartbeats 1000000 in
theorem next_word (b B : Nat) (bad : Bool) (x : ByteArray) (W : List ByteArray) (w : World) (h : Rd w b B (x :: W) bad) :
    Calls Tryd.prog 66 #[.pointer (some ⟨b, 0, none⟩)] w (ReadTo w b B (.string x) W bad) := by
  have HR := Lib.hid h
  obtain ⟨a, cp, h1, h2, h3⟩ := h
  have c00 : w.cell? ⟨b, 0, none⟩ = some (.slice a (W.length + 1) cp) := (block_cell h1 0 _ rfl).1
  have c01 := (block_cell h1 0 _ rfl).2
  have c10 : w.cell? ⟨b, 1, none⟩ = some (.bool bad) := (block_cell h1 1 _ rfl).1
  have c11 := (block_cell h1 1 _ rfl).2
  obtain ⟨b0, o0, rfl, hb0, q1⟩ := h3.at 0 x rfl
  rw [Nat.add_zero] at q1
  obtain ⟨_, _, e3, hcap, _⟩ := h3.form
  have ec := (Value.slice.inj e3).2.2
  simp only [List.length_cons] at h2 hcap h3
  rw [← ec] at hcap
  obtain ⟨n, hn⟩ : ∃ n, W.length = n := ⟨_, rfl⟩
  have HP := Lib.hid h3
  have HL : Hid (W.length ≤ 8000000) := by show _ ≤ _; omega
  have HN := Lib.hid hn
  rw [hn] at hcap c00 h2
  clear h1 h3 ec e3 hn
  by_cases hc : cp = 1
  · have ht := HP.out.tail1 hc
    obtain ⟨hW, hPt⟩ := ht
    have HPT := Lib.hid hPt
    have hn0 : n = 0 := by have := HN.out; rw [hW] at this; exact this.symm
    subst hn0 hc hW
    clear hPt
    go_enter Tryd.func66, Tryd.ntmps66
    go_wp2
    go_ret
    exact ⟨rfl, HR.out.setWords (V := []) HL.out HPT.out, set_grown _ _ _ _⟩
  · have HPT := Lib.hid HP.out.tail
    go_enter Tryd.func66, Tryd.ntmps66
    go_wp2
    go_ret
    refine ⟨rfl, ?_, set_grown _ _ _ _⟩
    have := HR.out.setWords (V := W) HL.out HPT.out
    rw [HN.out] at this
    exact this
end Go.Proofs.YtmjdkgbblccpgaaDoor
