/- The law LockTells returns true. -/
import Derived.Test.YthdopcdllggdaaaGreatDoorKeM
namespace Go.Proofs.YthdopcdllggdaaaGreatDoor
open Go.RowKit
attribute [local irreducible] wpQuiet

theorem ver_block {w w' : World} {r : Nat} {x0 x1 x2 x3 : Value} (h : w.heap[r]? = some (.cells #[x0, x1, x2, x3] 28 (0, 0))) (hg : w.grownBy w' none) :
    w'.cell? ⟨r, 0, none⟩ = some x0 ∧ w'.cell? ⟨r, 1, none⟩ = some x1 ∧ w'.cell? ⟨r, 2, none⟩ = some x2 ∧ w'.cell? ⟨r, 3, none⟩ = some x3 :=
  have h' := block_kept h hg
  ⟨(block_cell h' 0 _ rfl).1, (block_cell h' 1 _ rfl).1, (block_cell h' 2 _ rfl).1, (block_cell h' 3 _ rfl).1⟩

def LightRet (w : World) (n : Nat) (pre : List ByteArray) (e : Ending) (w' : World) : Prop :=
  (∃ b : Bool, e = .returned (.bool b) ∧ (b = true → n ≤ 6 ∧ ∀ p ∈ pre, p.size ≤ 30)) ∧ w.grownBy w' none
theorem sum_short (L : List ByteArray) (h : ∀ p ∈ L, p.size ≤ 30) : sumS L ≤ 31 * L.length := by
  induction L with
  | nil => simp [sumS]
  | cons x L ih =>
    have h1 := ih (fun p hp => h p (by simp [hp]))
    have h2 := h x (by simp)
    rw [sumS, List.length_cons]
    omega
theorem light_at {w : World} {B n cap : Nat} {a : Option Addr} {x y z : Int} {p : List ByteArray} (hx : -9223372036854775808 ≤ x ∧ x ≤ 9223372036854775807) (hy : -9223372036854775808 ≤ y ∧ y ≤ 9223372036854775807) (hz : -9223372036854775808 ≤ z ∧ z ≤ 9223372036854775807) (hn : p.length = n) (h6 : n ≤ 6) (hs : ∀ q ∈ p, q.size ≤ 30) (hP : PartS w B (.slice a n cap) p) : VerAt w B ⟨x, y, z, p⟩ (.slice a n cap) :=
  ⟨hx, hy, hz, by simp only; omega, fun q hq => Nat.le_trans (hs q hq) (by omega), by have := sum_short p hs; simp only; omega, hP⟩

/-- Pins as they come in: their numbers are ints, their marks lie somewhere. -/
structure Raw (w : World) (F : Nat) (p : Pc) : Prop where
  maj : -9223372036854775808 ≤ p.v.maj ∧ p.v.maj ≤ 9223372036854775807
  min : -9223372036854775808 ≤ p.v.min ∧ p.v.min ≤ 9223372036854775807
  pat : -9223372036854775808 ≤ p.v.pat ∧ p.v.pat ≤ 9223372036854775807
  size : p.name.size ≤ 9223372036854775807
  part : PartS w F p.sl p.v.pre
theorem Raw.stays {w w' : World} {F : Nat} {p : Pc} (h : Raw w F p) (hg : w.grownBy w' none) : Raw w' F p := { h with part := h.part.stays hg }
theorem raw_part {w : World} {F : Nat} {p : Pc} (h : Raw w F p) : PartS w F (.slice p.ad p.v.pre.length p.cap) p.v.pre := h.part
def FineP (p : Pc) : Prop := p.name.size ≤ 50 ∧ p.v.pre.length ≤ 6 ∧ ∀ q ∈ p.v.pre, q.size ≤ 30
theorem Raw.at {w : World} {F : Nat} {p : Pc} (h : Raw w F p) (hf : FineP p) : PcAt w F p :=
  ⟨light_at h.maj h.min h.pat rfl hf.2.1 hf.2.2 h.part, by have := hf.1; omega⟩
theorem stable_few (n : Nat) (L : List Pc) (h : n < 20) : StableOk n L := fun w base g cap hO hn => stableF_small w base g n cap L hO hn h
end Go.Proofs.YthdopcdllggdaaaGreatDoor
