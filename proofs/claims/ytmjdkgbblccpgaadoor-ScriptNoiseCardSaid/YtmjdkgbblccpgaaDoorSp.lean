/- The reference's Split. -/
import Derived.Test.YtmjdkgbblccpgaaDoorSv
namespace Go.Proofs.YtmjdkgbblccpgaaDoor
open Go.RowKit

def SplitRet (w : World) (L : List ByteArray) (e : Ending) (w' : World) : Prop := ∃ v', e = .returned v' ∧ OwnsS w' w.heap.size v' L ∧ w.grownBy w' none

set_option maxRecDepth 1000000
set_option maxHeartbeats 1000000 in
theorem refSplit_any (s : ByteArray) (d : UInt8) (hs : s.size ≤ 2000000) (w : World) :
    Calls Tryd.prog 49 #[.string s, .int .u8 (d.toNat : Int)] w (SplitRet w (pieces d s)) := by
  go_enter Tryd.func49, Tryd.ntmps49
  go_wp2
  go_loopw [5, 6, 7] (fun v f i wr => ∃ (k g m cp : Nat) (ad : Option Addr) (out : List ByteArray), k ≤ s.size + 1 ∧ g ≤ s.size + 1 ∧ i = .int .i64 k ∧ f = .int .i64 g ∧ v = .slice ad m cp ∧ m = out.length ∧ cp ≤ 9223372036854775807 ∧ SplitAt d s k g out ∧ OwnsS wr w.heap.size v out ∧ w.grownBy wr none) (fun _ _ i _ => s.size + 1 - (intOf i).toNat)
  case atStart => exact ⟨0, 0, 0, 0, none, [], by omega, by omega, rfl, rfl, rfl, rfl, by omega, SplitAt.start d s, OwnsS.nil _ _, World.grownBy.refl _ _⟩
  case round =>
    obtain ⟨k, g, m, cp, ad, out, hk, hg, rfl, rfl, rfl, hm, hcp, hat, hown, hgw⟩ := hrel
    have hml : m ≤ s.size + 1 := by rw [hm]; exact hat.len
    have HM := Lib.hid hm
    have HAT := Lib.hid hat
    have HO := Lib.hid hown
    have HG := Lib.hid hgw
    clear hm hat hown hgw
    by_cases h1 : k < s.size
    · obtain ⟨c, hc⟩ : ∃ c, byteAt s k = c := ⟨_, rfl⟩
      have hc2 : s[k]'h1 = c := by rw [← byteAt_eq]; exact hc
      have HC := Lib.hid hc
      have hne : ¬ (k : Int) = (s.size : Int) := by omega
      clear hc
      by_cases hb : c = d
      · subst hb
        have hcut := HAT.out.cut h1 HC.out
        have hgk := hcut.1
        have HCUT := Lib.hid hcut.2
        clear hcut
        go_wp2_with (at_builtin; go_must (with_reducible refine app_str (o := ⟨some 31, _, _, _, _, _⟩) rfl _ _ rfl w.heap.size (wr.heap.size + 1) (.slice ad m cp) _ out [s.extract g k] ?_ (HO.out.alloc _) ?_ (part_str wr _ 9) ?_ ?_ ?_); go_must (exact rfl); go_must (exact rfl); go_must ((have := HM.out; simp; omega)); go_must ((have := HG.out.size; rw [alloc_size]; omega)); (intro v2 w2 ho2 hg2); have HO2 := Lib.hid ho2; have HG2 := Lib.hid (HO.out.alloc (.cells #[.string (s.extract g k)] 9) |>.grown (World.grownBy.trans HG.out (World.grownBy_alloc _ _ _)) hg2); clear ho2 hg2)
        go_roundw
        case rel =>
          obtain ⟨ad2, cp2, e1, e2, e3⟩ := HO2.out.form
          refine ⟨k + 1, k + 1, _, cp2, ad2, out ++ [s.extract g k], by omega, by omega, by go_num, by go_num, e1, rfl, e3, HCUT.out, HO2.out, HG2.out⟩
        case measure => simp [intOf]; omega
      · have hb' : ¬ (c.toNat : Int) = (d.toNat : Int) := by
          intro e; apply hb; apply UInt8.toNat_inj.1; omega
        have b1 : ((c.toNat : Int) == (d.toNat : Int)) = false := by simp only [beq_eq_false_iff_ne]; exact hb'
        have b3 : (c.toNat == d.toNat) = false := by simp only [beq_eq_false_iff_ne]; omega
        have b2 : ((k : Int) == (s.size : Int)) = false := by simp; omega
        have HS := Lib.hid (HAT.out.skip h1 (by rw [HC.out]; exact hb))
        go_wp2
        go_roundw
        case rel => exact ⟨k + 1, g, m, cp, ad, out, by omega, by omega, by go_num, rfl, rfl, HM.out, hcp, HS.out, HO.out, HG.out⟩
        case measure => simp [intOf]; omega
    · by_cases h2 : k = s.size
      · subst h2
        have hlast := HAT.out.last
        have hgk := hlast.1
        have HL := Lib.hid hlast.2
        have hend := Lib.hid (show SplitAt d s (s.size + 1) (s.size + 1) (out ++ [s.extract g s.size]) from .inr ⟨rfl, hlast.2⟩)
        clear hlast h1
        go_wp2_with (at_builtin; go_must (with_reducible refine app_str (o := ⟨some 31, _, _, _, _, _⟩) rfl _ _ rfl w.heap.size (wr.heap.size + 1) (.slice ad m cp) _ out [s.extract g s.size] ?_ (HO.out.alloc _) ?_ (part_str wr _ 9) ?_ ?_ ?_); go_must (exact rfl); go_must (exact rfl); go_must ((have := HM.out; simp; omega)); go_must ((have := HG.out.size; rw [alloc_size]; omega)); (intro v2 w2 ho2 hg2); have HO2 := Lib.hid ho2; have HG2 := Lib.hid (HO.out.alloc (.cells #[.string (s.extract g s.size)] 9) |>.grown (World.grownBy.trans HG.out (World.grownBy_alloc _ _ _)) hg2); clear ho2 hg2)
        go_roundw
        case rel =>
          obtain ⟨ad2, cp2, e1, e2, e3⟩ := HO2.out.form
          refine ⟨s.size + 1, s.size + 1, _, cp2, ad2, out ++ [s.extract g s.size], by omega, by omega, by go_num, by go_num, e1, rfl, e3, hend.out, HO2.out, HG2.out⟩
        case measure => simp [intOf]
      · have hk1 : k = s.size + 1 := by omega
        have hp : Hid (pieces d s = out) := by
          show _ = _
          rcases HAT.out with ⟨h3, _⟩ | ⟨_, h3⟩
          · exact absurd h3 (by omega)
          · exact h3
        subst hk1
        clear h1 h2 hk
        go_wp2
        go_ret
        exact ⟨_, rfl, by rw [hp.out]; exact HO.out, HG.out⟩
end Go.Proofs.YtmjdkgbblccpgaaDoor
