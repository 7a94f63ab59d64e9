/- Bytes in an argument, as numbers. -/
import Derived.Test.YtfpehdldgnfciaaDoorBk
namespace Go.Proofs.YtfpehdldgnfciaaDoor
open Go.RowKit
/-- The numbers l lie as bytes from a on. -/
def BytesN (w : World) (a : Option Addr) (l : List Nat) : Prop := ∀ (j x : Nat), l[j]? = some x → ∃ b o, a = some ⟨b, o, none⟩ ∧ w.cell? ⟨b, o + j, none⟩ = some (.int .u8 (x : Int))
theorem BytesN.stays {w w' : World} {a : Option Addr} {l : List Nat} (h : BytesN w a l) (hg : w.grownBy w' none) : BytesN w' a l := fun j x hj => by
  obtain ⟨b, o, h1, h2⟩ := h j x hj
  exact ⟨b, o, h1, hg.cell h2 (by simp)⟩
end Go.Proofs.YtfpehdldgnfciaaDoor
