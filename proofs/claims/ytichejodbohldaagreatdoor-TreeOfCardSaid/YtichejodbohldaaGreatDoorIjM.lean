/- The law TreeAppends returns true. -/
import Derived.Test.YtichejodbohldaaGreatDoorP16
namespace Go.Proofs.YtichejodbohldaaGreatDoor
open Go.RowKit Go.Maps
set_option maxRecDepth 1000000
/-- Slices of bytes, one behind the other, in blocks below B. -/
def PartsB (w : World) (B : Nat) (a : Option Addr) (Ls : List (List UInt8)) : Prop :=
  ∃ b o : Nat, b < B ∧ (0 < Ls.length → a = some ⟨b, o, none⟩) ∧ ∀ i (h : i < Ls.length), ∃ v, w.cell? ⟨b, o + i, none⟩ = some v ∧ Part w B v Ls[i]
theorem PartsB.since {w w' : World} {B : Nat} {a : Option Addr} {Ls : List (List UInt8)} (h : PartsB w B a Ls) (hk : Since B w w') : PartsB w' B a Ls := by
  obtain ⟨b, o, h1, h2, h3⟩ := h
  refine ⟨b, o, h1, h2, fun i hi => ?_⟩
  obtain ⟨v, h4, h5⟩ := h3 i hi
  exact ⟨v, hk.cell h4 h1, h5.keeps hk fun k e => e⟩
/-- Two trees of the call's own, and bytes of its own. -/
structure Duo (B : Nat) (w : World) (ta : Nat) (M : Tr) (tb : Nat) (N : Tr) (v : Value) (L : List UInt8) (Sa Sb : Nat → Prop) : Prop where
  a : St B w ta M Sa
  b : St B w tb N Sb
  own : Owns w B v L
  ab : ∀ k, Sa k → ¬ Sb k
  va : ∀ k, v.ownBlock = some k → ¬ Sa k ∧ ¬ Sb k
theorem Duo.app {B : Nat} {w w' : World} {ta tb : Nat} {M N : Tr} {v v' : Value} {L L' : List UInt8} {Sa Sb : Nat → Prop} (h : Duo B w ta M tb N v L Sa Sb) (ho : Owns w' B v' L') (hg : w.grownBy w' v.ownBlock) (hl : v'.ownBlock = v.ownBlock ∨ v'.ownBlock = some w.heap.size) :
    Duo B w' ta M tb N v' L' Sa Sb ∧ Since B w w' := by
  have hk : Kept w w' (fun k => v.ownBlock = some k) := Kept.of hg _ fun k e => e
  refine ⟨⟨⟨h.a.tree.keeps hk fun k hk e => (h.va k e).1 hk, h.a.from'⟩, ⟨h.b.tree.keeps hk fun k hk e => (h.va k e).2 hk, h.b.from'⟩, ho, h.ab, fun k e => ?_⟩, hk.mono fun k _ e => (h.own.block_lt k e).1⟩
  rcases hl with hl | hl
  · rw [hl] at e; exact h.va k e
  · rw [hl] at e
    have : w.heap.size = k := Option.some.inj e
    exact ⟨fun e2 => by have := h.a.tree.lt k e2; omega, fun e2 => by have := h.b.tree.lt k e2; omega⟩
theorem Duo.left {B : Nat} {w w' : World} {ta tb : Nat} {M N : Tr} {v : Value} {L : List UInt8} {Sa Sb : Nat → Prop} {R : Int × Tr} {e : Ending} (h : Duo B w ta M tb N v L Sa Sb) (hB : B ≤ w.heap.size) (hp : PutsRet ta R w Sa e w') :
    Duo B w' ta R.2 tb N v L (Grow w w' Sa) Sb ∧ Since B w w' := by
  refine ⟨⟨(h.a.puts hB hp).1, ⟨h.b.tree.keeps hp.2.2 fun k hk e => h.ab k e hk, h.b.from'⟩, h.own.keeps hp.2.2 fun k e e2 => (h.va k e).1 e2, fun k hk e => ?_, fun k e => ⟨fun hk => ?_, (h.va k e).2⟩⟩, (h.a.puts hB hp).2⟩
  · rcases hk.1 with h1 | h1
    · exact h.ab k h1 e
    · have := h.b.tree.lt k e; omega
  · rcases hk.1 with h1 | h1
    · exact (h.va k e).1 h1
    · have := (h.own.block_lt k e).2; omega
theorem Duo.swap {B : Nat} {w : World} {ta tb : Nat} {M N : Tr} {v : Value} {L : List UInt8} {Sa Sb : Nat → Prop} (h : Duo B w ta M tb N v L Sa Sb) : Duo B w tb N ta M v L Sb Sa :=
  ⟨h.b, h.a, h.own, fun k e e2 => h.ab k e2 e, fun k e => ⟨(h.va k e).2, (h.va k e).1⟩⟩
theorem Duo.right {B : Nat} {w w' : World} {ta tb : Nat} {M N : Tr} {v : Value} {L : List UInt8} {Sa Sb : Nat → Prop} {R : Int × Tr} {e : Ending} (h : Duo B w ta M tb N v L Sa Sb) (hB : B ≤ w.heap.size) (hp : PutsRet tb R w Sb e w') :
    Duo B w' ta M tb R.2 v L Sa (Grow w w' Sb) ∧ Since B w w' := ⟨(h.swap.left hB hp).1.swap, (h.swap.left hB hp).2⟩
theorem Duo.stays {B : Nat} {w w' : World} {ta tb : Nat} {M N : Tr} {v : Value} {L : List UInt8} {Sa Sb : Nat → Prop} (h : Duo B w ta M tb N v L Sa Sb) (hg : w.grownBy w' none) : Duo B w' ta M tb N v L Sa Sb :=
  ⟨h.a.stays hg, h.b.stays hg, h.own.stays hg, h.ab, h.va⟩
/-- Two trees, just made. -/
theorem Duo.new {B : Nat} {w w1 w2 : World} {ta tb : Nat} (hB : B ≤ w.heap.size) (h1 : TreeAt w1 ta [] (Grow w w1 fun _ => False)) (h2 : TreeAt w2 tb [] (Grow w1 w2 fun _ => False)) (hg1 : w.grownBy w1 none) (hg2 : w1.grownBy w2 none) :
    Duo B w2 ta [] tb [] (.slice none 0 0) [] (Grow w w1 fun _ => False) (Grow w1 w2 fun _ => False) := by
  refine ⟨⟨((St.new h1).stays hg2).tree, fun k hk => Nat.le_trans hB ((St.new h1).from' k hk)⟩, ⟨h2, fun k hk => ?_⟩, Owns.nil _ _, fun k hk e => ?_, fun k e => by simp [Value.ownBlock] at e⟩
  · have := (St.new h2).from' k hk; have := hg1.size; omega
  · have := (St.new h2).from' k e; have := h1.lt k hk; omega

/-! ### Pure -/
abbrev pX : ByteArray := ⟨#[120]⟩
abbrev pXY : ByteArray := ⟨#[120, 47, 121]⟩
def xT (b : List UInt8) : Tr := [(pX, dirN), (pXY, ⟨false, b⟩)]
theorem x_put0 (f : List UInt8 → List UInt8) : putS [] pXY f = if fitsT [] [⟨#[120]⟩, ⟨#[121]⟩] 1 (f []).length = true then (0, xT (f [])) else (55, []) := by kernel_rfl
theorem x_put1 (b : List UInt8) (f : List UInt8 → List UInt8) : putS (xT b) pXY f = if fitsT (xT b) [⟨#[120]⟩, ⟨#[121]⟩] 1 (f b).length = true then (0, xT (f b)) else (55, xT b) := by kernel_rfl
theorem x_fit0 (n : Nat) (h : n ≤ 65536) : fitsT [] [⟨#[120]⟩, ⟨#[121]⟩] 1 n = true := by
  have e : fitsT [] [⟨#[120]⟩, ⟨#[121]⟩] 1 n = (decide (n ≤ 65536) && (decide (2 ≤ 500) && decide (((0 : Nat) : Int) + ((n : Int) - (0 : Nat)) ≤ 1048576))) := by kernel_rfl
  rw [e, decide_eq_true h, decide_eq_true (by omega), decide_eq_true (by omega)]; rfl
theorem x_fit1 (b : List UInt8) (n : Nat) (h : n ≤ 65536) : fitsT (xT b) [⟨#[120]⟩, ⟨#[121]⟩] 1 n = true := by
  have e : fitsT (xT b) [⟨#[120]⟩, ⟨#[121]⟩] 1 n = (decide (n ≤ 65536) && (decide (2 ≤ 500) && decide (((sizeT (xT b) : Nat) : Int) + ((n : Int) - ((b.length : Nat) : Int)) ≤ 1048576))) := by kernel_rfl
  have es : sizeT (xT b) = b.length := by
    show 0 + (b.length + 0) = _
    omega
  rw [e, es, decide_eq_true h, decide_eq_true (by omega), decide_eq_true (by omega)]; rfl
/-- What both trees are when k pieces are there. -/
def xM (l : List (List UInt8)) (k : Nat) : Tr := if k = 0 then [] else xT (l.take k).flatten
theorem x_put (l : List (List UInt8)) (k : Nat) (f : List UInt8 → List UInt8) (hf : f (l.take k).flatten = (l.take (k + 1)).flatten) (hl : (l.take (k + 1)).flatten.length ≤ 65536) : putS (xM l k) pXY f = (0, xM l (k + 1)) := by
  unfold xM
  rw [if_neg (Nat.succ_ne_zero k)]
  by_cases h0 : k = 0
  · subst h0
    have hf0 : f [] = (l.take (0 + 1)).flatten := hf
    rw [if_pos rfl, x_put0, hf0, if_pos (x_fit0 _ hl)]
  · rw [if_neg h0, x_put1, hf, if_pos (x_fit1 _ _ hl)]
theorem inv_x (l : List (List UInt8)) (k : Nat) (hl : (l.take k).flatten.length ≤ 65536) : Inv (xM l k) := by
  unfold xM
  by_cases h0 : k = 0
  · rw [if_pos h0]; exact inv_nil
  · rw [if_neg h0]
    have := inv_puts inv_nil pXY (fun _ => (l.take k).flatten)
    rw [x_put0, if_pos (x_fit0 _ hl)] at this
    exact this
theorem flat_next (Ls : List (List UInt8)) (k : Nat) (h : k < Ls.length) : (Ls.take (k + 1)).flatten = (Ls.take k).flatten ++ Ls[k] := by
  rw [List.take_succ_eq_append_getElem h, List.flatten_append]; simp
end Go.Proofs.YtichejodbohldaaGreatDoor
