/- haversacklaw17.known: the chapter's example. -/
import Derived.Test.YtmjdkgbblccpgaaDoorUo
namespace Go.Proofs.YtmjdkgbblccpgaaDoor
open Go.RowKit

def exT : ByteArray := ⟨#[119, 114, 105, 116, 101, 32, 111, 117, 116, 32, 34, 120, 34, 10, 105, 102, 32, 101, 120, 105, 115, 116, 115, 32, 111, 117, 116, 10, 101, 110, 100, 10]⟩
def exL : List Ln := [⟨1, ⟨#[111, 117, 116]⟩, E0, ⟨#[120]⟩, 0, false⟩, ⟨7, ⟨#[111, 117, 116]⟩, E0, E0, 0, false⟩, ⟨10, E0, E0, E0, 0, false⟩]
set_option maxRecDepth 100000 in
theorem ex_parse : scriptS exT = .inr exL := by kernel_rfl
set_option maxRecDepth 100000 in
theorem ex_bad : scriptS ⟨#[119, 114, 105, 116, 101, 32, 111, 117, 116, 10]⟩ = .inl 1 := by kernel_rfl
set_option maxRecDepth 100000 in
theorem ex_words : wordsL (⟨#[97, 32, 34, 98, 32, 99, 34]⟩ : ByteArray).data.toList = some [[97], [34, 98, 32, 99]] := by kernel_rfl
set_option maxRecDepth 100000 in
theorem ex_text : toB (textS exL 0) = exT := by kernel_rfl
theorem OwnsL.slice {w : World} {base : Nat} {v : Value} {L : List Ln} (h : OwnsL w base v L) : ∃ a n cap, v = .slice a n cap ∧ L.length = n := by
  obtain ⟨a, cap, h1, _⟩ := h.form
  exact ⟨a, _, cap, h1, rfl⟩
theorem exL_ok : ∀ l ∈ exL, LnOk l := by
  intro l hl
  simp only [exL, List.mem_cons, List.mem_nil_iff, or_false] at hl
  rcases hl with rfl | rfl | rfl <;> exact ⟨by decide, by decide, by decide, by decide, by decide, by decide, by decide⟩

set_option maxRecDepth 1000000
set_option maxHeartbeats 2000000 in
theorem known_any (m : Int) (w : World) (hm : Wok m w) : Calls Tryd.prog 8 #[] w fun e w' => e = .returned (.bool true) ∧ w.grownBy w' none := by
  have HM := Lib.hid hm
  clear hm
  go_enter Tryd.func8, Tryd.ntmps8
  go_wp2_with fail
  have hp := parse_any m exT w HM.out (by decide)
  rw [ex_parse] at hp
  have hp : Calls Tryd.prog 12 #[.string ⟨#[119, 114, 105, 116, 101, 32, 111, 117, 116, 32, 34, 120, 34, 10, 105, 102, 32, 101, 120, 105, 115, 116, 115, 32, 111, 117, 116, 10, 101, 110, 100, 10]⟩] w (ParseRet (.inr exL) w) := hp
  (with_reducible refine hp.mono ?_)
  clear hp
  rintro ee w1 ⟨g1, ⟨L, v, e1, rfl, ho⟩ | ⟨k, e1, _⟩⟩
  rotate_left
  · cases e1
  obtain rfl : exL = L := Sum.inr.inj e1
  obtain ⟨a1, n1, c1, rfl, hn1⟩ := ho.slice
  have HO := Lib.hid ho
  have HG1 := Lib.hid g1
  obtain rfl : 3 = n1 := hn1
  clear ho g1
  dsimp only
  go_wp2_with fail
  have hp := parse_any m ⟨#[119, 114, 105, 116, 101, 32, 111, 117, 116, 10]⟩ w1 (HM.out.stays HG1.out) (by decide)
  rw [ex_bad] at hp
  (with_reducible refine hp.mono ?_)
  clear hp
  rintro ee w2 ⟨g2, ⟨L, v, e1, _⟩ | ⟨k, e1, rfl⟩⟩
  · cases e1
  obtain rfl : 1 = k := Sum.inl.inj e1
  have HG2 := Lib.hid (World.grownBy.trans HG1.out g2)
  have HO2 := Lib.hid (HO.out.stays g2)
  clear g2
  dsimp only
  go_wp2_with fail
  (with_reducible refine (words_any ⟨#[97, 32, 34, 98, 32, 99, 34]⟩ w2 (by decide)).mono ?_)
  rintro ee w3 ⟨g3, ⟨L, v, hL, rfl, hO⟩ | ⟨hL, _⟩⟩
  rotate_left
  · rw [ex_words] at hL; cases hL
  rw [ex_words] at hL
  have hL2 := Option.some.inj hL
  subst hL2
  clear hL
  obtain ⟨a3, n3, c3, rfl, hn3⟩ := hO.slice
  have HOW := Lib.hid hO
  obtain rfl : 2 = n3 := hn3
  have HG3 := Lib.hid (World.grownBy.trans HG2.out g3)
  have HO3 := Lib.hid (HO2.out.stays g3)
  clear g3 hO
  dsimp only
  obtain ⟨g, cap, e, hgb, hcap, hcell⟩ := HO3.out.cell 0 _ rfl
  have c0 := hcell 0 (.int .i64 1) rfl
  have c3' := hcell 3 (.string ⟨#[120]⟩) rfl
  have e1 := (Value.slice.inj e).1
  subst e1
  clear e hcell
  go_wp2_with fail
  have hL : (List.map toB [[97], [34, 98, 32, 99]]) = [⟨#[97]⟩, ⟨#[34, 98, 32, 99]⟩] := rfl
  rw [hL] at HOW
  have hpt := (HOW.out.part (Wok.pos (HM.out.stays HG3.out))).stays (World.grownBy_alloc w3 (.cells #[.string ⟨#[97]⟩, .string ⟨#[34, 98, 32, 99]⟩] 9) none)
  have hpb := part_block w3 [⟨#[97]⟩, ⟨#[34, 98, 32, 99]⟩] 9 2 rfl
  have hst := strings_any _ _ 2 2 c3 2 a3 _ [⟨#[97]⟩, ⟨#[34, 98, 32, 99]⟩] [⟨#[97]⟩, ⟨#[34, 98, 32, 99]⟩] _ rfl rfl (by omega) (by omega) hpt hpb
  rw [decide_eq_true rfl] at hst
  (with_reducible refine hst.mono ?_)
  clear hst hpt hpb hL
  rintro ee w4 ⟨rfl, g4⟩
  have g34 := World.grownBy.trans (World.grownBy_alloc w3 (.cells #[.string ⟨#[97]⟩, .string ⟨#[34, 98, 32, 99]⟩] 9) none) g4
  have HG4 := Lib.hid (World.grownBy.trans HG3.out g34)
  have HO4 := Lib.hid (HO3.out.stays g34)
  clear g4 g34
  dsimp only
  go_wp2_with fail
  have ht := textAll_any m _ 3 c1 _ exL w4 (HM.out.stays HG4.out) HO4.out rfl (by omega) exL_ok
  unfold TextRet at ht
  rw [ex_text] at ht
  (with_reducible refine ht.mono ?_)
  clear ht
  rintro ee w5 ⟨rfl, g5⟩
  have HG5 := Lib.hid (World.grownBy.trans HG4.out g5)
  clear g5
  dsimp only [exT]
  go_wp2
  go_ret
  exact ⟨rfl, HG5.out⟩
end Go.Proofs.YtmjdkgbblccpgaaDoor
