/- What the law of errors knows: the chapter's example. -/
import Derived.Test.YtmjfeiddllagcaaDoorEv
import Derived.Test.YtmjfeiddllagcaaDoorEd
import Derived.Test.YtmjfeiddllagcaaDoorHe
namespace Go.Proofs.YtmjfeiddllagcaaDoor
open Go.RowKit

set_option maxRecDepth 1000000
theorem told_get : toB (toldL [(⟨#[103, 101, 116]⟩, ⟨#[97]⟩)] (errT 52)) = ⟨#[103, 101, 116, 32, 97, 58, 32, 101, 114, 114, 32, 53, 50]⟩ := by decide +kernel
set_option maxHeartbeats 16000000 in
theorem known6_any (w : World) (hE : ErrVar w) : Calls Tryd.prog 7 #[] w fun e w' => e = .returned (.bool true) ∧ w.grownBy w' none := by
  have HE := Lib.hid hE
  have he : ∀ (t : TypeId) (v : Value) (W : World), (binOp .neq 27 (.iface t v) .nilIface).run Tryd.prog W = .ok (.bool true) W := fun t v W => by kernel_rfl
  have HW := Lib.hid (wrap_some ⟨#[103, 101, 116]⟩ ⟨#[97]⟩ (.num (w := w) 52) (by decide))
  clear hE
  go_enter Tryd.func7, Tryd.ntmps7
  go_wp2_with fail
  (with_reducible refine HW.out.mono ?_)
  rintro ee w1 ⟨v1, rfl, hc, g1⟩
  obtain ⟨t1, u1, rfl⟩ := hc.shape
  dsimp only
  have HC := Lib.hid hc
  have G1 := Lib.hid g1
  have HTX := text_any 52 w1 hc (by simp) (by decide) (by intro p hp; simp at hp; subst hp; exact ⟨by decide, by decide⟩)
  rw [told_get] at HTX
  have HT := Lib.hid HTX
  clear hc g1 HTX
  go_wp2_with fail
  (with_reducible refine HT.out.mono ?_)
  rintro ee w2 ⟨rfl, g2⟩
  dsimp only
  have G2 := Lib.hid (World.grownBy.trans G1.out g2)
  have HC2 := Lib.hid (HC.out.grown g2)
  clear g2
  have HCO := Lib.hid (code_any 52 w2 HC2.out (by simp) (HE.out.grown G2.out))
  go_wp2_with fail
  (with_reducible refine HCO.out.mono ?_)
  rintro ee w3 ⟨rfl, g3⟩
  dsimp only
  have G3 := Lib.hid (World.grownBy.trans G2.out g3)
  have HC3 := Lib.hid (HC2.out.grown g3)
  clear g3
  have HI := Lib.hid (faultIs_any 52 52 w3 HC3.out (by simp) (by decide))
  go_wp2_with fail
  (with_reducible refine HI.out.mono ?_)
  rintro ee w4 ⟨rfl, g4⟩
  dsimp only
  have G4 := Lib.hid (World.grownBy.trans G3.out g4)
  have HC4 := Lib.hid (HC3.out.grown g4)
  clear g4
  have HI2 := Lib.hid (faultIs_any 52 53 w4 HC4.out (by simp) (by decide))
  go_wp2_with fail
  (with_reducible refine HI2.out.mono ?_)
  rintro ee w5 ⟨rfl, g5⟩
  dsimp only
  have G5 := Lib.hid (World.grownBy.trans G4.out g5)
  have HC5 := Lib.hid (HC4.out.grown g5)
  clear g5
  have HWN := Lib.hid (wrap_nil ⟨#[120]⟩ ⟨#[121]⟩ w5)
  go_wp2_with fail
  (with_reducible refine HWN.out.mono ?_)
  rintro ee w6 ⟨rfl, rfl⟩
  dsimp only
  have HJ := Lib.hid (join_none w6)
  go_wp2_with fail
  (with_reducible refine HJ.out.mono ?_)
  rintro ee w7 ⟨rfl, rfl⟩
  dsimp only
  have HW2 := Lib.hid (wrap_some ⟨#[98]⟩ ⟨#[99]⟩ HC5.out (by decide))
  go_wp2_with fail
  (with_reducible refine HW2.out.mono ?_)
  rintro ee w8 ⟨v8, rfl, hc8, g8⟩
  obtain ⟨t8, u8, rfl⟩ := hc8.shape
  dsimp only
  have G8 := Lib.hid (World.grownBy.trans G5.out g8)
  have HO := Lib.hid (ops_any 52 w8 hc8 (by simp))
  clear g8 hc8
  go_wp2_with fail
  (with_reducible refine HO.out.mono ?_)
  rintro ee w9 ⟨v9, rfl, ho9, g9⟩
  obtain ⟨a9, cp9, e9, _⟩ := ho9.form
  subst e9
  dsimp only
  have G9 := Lib.hid (World.grownBy.trans G8.out g9)
  have HO9 := Lib.hid ho9
  clear g9 ho9
  go_wp2_with fail
  have hp1 : PartS (w9.alloc (.cells #[.string ⟨#[98]⟩, .string ⟨#[103, 101, 116]⟩] 9)) (w9.alloc (.cells #[.string ⟨#[98]⟩, .string ⟨#[103, 101, 116]⟩] 9)).heap.size (.slice a9 2 cp9) [⟨#[98]⟩, ⟨#[103, 101, 116]⟩] := (HO9.out.alloc _).part (by rw [alloc_size]; omega)
  have hp2 : PartS (w9.alloc (.cells #[.string ⟨#[98]⟩, .string ⟨#[103, 101, 116]⟩] 9)) (w9.heap.size + 1) (.slice (some ⟨w9.heap.size, 0, none⟩) 2 2) [⟨#[98]⟩, ⟨#[103, 101, 116]⟩] := part_block w9 [⟨#[98]⟩, ⟨#[103, 101, 116]⟩] 9 2 rfl
  have HST := Lib.hid (strings_any _ _ 2 2 cp9 2 a9 _ [⟨#[98]⟩, ⟨#[103, 101, 116]⟩] [⟨#[98]⟩, ⟨#[103, 101, 116]⟩] _ rfl rfl (by decide) (by decide) hp1 hp2)
  have G10 : Hid (w.grownBy (w9.alloc (.cells #[.string ⟨#[98]⟩, .string ⟨#[103, 101, 116]⟩] 9)) none) := grown_alloc _ G9.out
  clear hp1 hp2
  (with_reducible refine HST.out.mono ?_)
  rintro ee w11 ⟨rfl, g11⟩
  dsimp only
  have G11 := Lib.hid (World.grownBy.trans G10.out g11)
  clear g11
  go_wp2
  go_ret
  exact ⟨rfl, G11.out⟩
end Go.Proofs.YtmjfeiddllagcaaDoor
