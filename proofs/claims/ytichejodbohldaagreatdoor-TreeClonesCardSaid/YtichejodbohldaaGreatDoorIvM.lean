/- A tree's Clone. -/
import Derived.Test.YtichejodbohldaaGreatDoorIoM
namespace Go.Proofs.YtichejodbohldaaGreatDoor
open Go.RowKit Go.Maps Go.Sort Go.Lib
set_option maxRecDepth 1000000
/-- A tree that is being filled: what its size cell says is not yet so. -/
structure Fill (w : World) (base cb cm : Nat) (z : Int) (Y : As Gn) : Prop where
  head : w.heap[cb]? = some (.cells #[.map (some cm), .int .i64 z] 72 (0, 0))
  map : MapAt w cm (mapA Gn.val Y)
  row : ∀ e ∈ Y, Owns w base e.2.v e.2.nd.b
  apart : Y.Pairwise fun a b => ∀ k, a.2.v.ownBlock = some k → b.2.v.ownBlock ≠ some k
  new : base ≤ cb ∧ base ≤ cm
theorem Fill.keeps {w w' : World} {base cb cm : Nat} {z : Int} {Y : As Gn} {S : Nat → Prop} (h : Fill w base cb cm z Y) (hk : Kept w w' S) (h1 : ¬ S cb) (h2 : ¬ S cm) (h3 : ∀ e ∈ Y, ∀ k, e.2.v.ownBlock = some k → ¬ S k) : Fill w' base cb cm z Y :=
  ⟨hk.bk h.head h1, h.map.keeps hk h2, fun e he => (h.row e he).keeps hk (h3 e he), h.apart, h.new⟩
theorem Fill.stays {w w' : World} {base cb cm : Nat} {z : Int} {Y : As Gn} (h : Fill w base cb cm z Y) (hg : w.grownBy w' none) : Fill w' base cb cm z Y := h.keeps (Kept.ofNone hg fun _ => False) (fun e => e) (fun e => e) fun _ _ _ _ e => e
/-- One row more. -/
theorem Fill.put {w w' : World} {base cb cm : Nat} {z : Int} {Y : As Gn} (h : Fill w base cb cm z Y) (p : ByteArray) (g : Gn) (ho : Owns w base g.v g.nd.b) (hn : ∀ e ∈ Y, ∀ k, e.2.v.ownBlock = some k → g.v.ownBlock ≠ some k) (hm : MapAt w' cm (putA (mapA Gn.val Y) p g.val)) (hg : w.grownBy w' (some cm)) (hc : ∀ k, g.v.ownBlock = some k → ¬ k = cm) (hne : ¬ cb = cm)
    (hr : ∀ e ∈ Y, ∀ k, e.2.v.ownBlock = some k → ¬ k = cm) (hpw : (putA Y p g).Pairwise fun a b => ∀ k, a.2.v.ownBlock = some k → b.2.v.ownBlock ≠ some k) : Fill w' base cb cm z (putA Y p g) := by
  have hk : Kept w w' (· = cm) := Kept.one hg
  refine ⟨hk.bk h.head hne, by rw [← putA_map]; exact hm, fun e he => ?_, hpw, h.new⟩
  rcases mem_put he with rfl | he
  · exact ho.keeps hk hc
  · exact (h.row e he).keeps hk (hr e he)
end Go.Proofs.YtichejodbohldaaGreatDoor
