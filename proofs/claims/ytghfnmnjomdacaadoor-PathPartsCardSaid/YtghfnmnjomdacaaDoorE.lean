/- The reference's Split: what stands between the slashes. -/
import Derived.Test.YtghfnmnjomdacaaDoorD
namespace Go.Proofs.YtghfnmnjomdacaaDoor
open Go.RowKit

def SplitRet (w : World) (L : List ByteArray) (e : Ending) (w' : World) : Prop := ∃ v', e = .returned v' ∧ OwnsS w' w.heap.size v' L ∧ w.grownBy w' none

/-- How far the reference's loop has come: out holds what is done. -/
def SplitAt (s : ByteArray) (i f : Nat) (out : List ByteArray) : Prop :=
  (i ≤ s.size ∧ f ≤ i ∧ (∀ j, f ≤ j → j < i → byteAt s j ≠ 47) ∧ pieces s = out ++ pieces (s.extract f s.size)) ∨ (i = s.size + 1 ∧ pieces s = out)
theorem SplitAt.len {s : ByteArray} {i f : Nat} {out : List ByteArray} (h : SplitAt s i f out) : out.length ≤ s.size + 1 := by
  have hl := pieces_le s
  rcases h with ⟨_, _, _, h⟩ | ⟨_, h⟩
  · rw [h, List.length_append] at hl; omega
  · rw [← h]; exact hl
theorem SplitAt.start (s : ByteArray) : SplitAt s 0 0 [] :=
  .inl ⟨Nat.zero_le _, Nat.le_refl _, fun j _ h => by omega, by rw [List.nil_append, ByteArray.extract_zero_size]⟩
theorem SplitAt.skip {s : ByteArray} {i f : Nat} {out : List ByteArray} (h : SplitAt s i f out) (hi : i < s.size) (hb : byteAt s i ≠ 47) : SplitAt s (i + 1) f out := by
  rcases h with ⟨h1, h2, h3, h4⟩ | ⟨h1, _⟩
  · refine .inl ⟨by omega, by omega, fun j hj hj2 => ?_, h4⟩
    by_cases e : j = i
    · rw [e]; exact hb
    · exact h3 j hj (by omega)
  · omega
theorem SplitAt.cut {s : ByteArray} {i f : Nat} {out : List ByteArray} (h : SplitAt s i f out) (hi : i < s.size) (hb : byteAt s i = 47) : f ≤ i ∧ SplitAt s (i + 1) (i + 1) (out ++ [s.extract f i]) := by
  rcases h with ⟨h1, h2, h3, h4⟩ | ⟨h1, _⟩
  · refine ⟨h2, .inl ⟨by omega, Nat.le_refl _, fun j hj hj2 => by omega, ?_⟩⟩
    rw [h4, pieces_from s f i h2 hi hb h3, List.append_assoc]; rfl
  · omega
theorem SplitAt.last {s : ByteArray} {f : Nat} {out : List ByteArray} (h : SplitAt s s.size f out) : f ≤ s.size ∧ pieces s = out ++ [s.extract f s.size] := by
  rcases h with ⟨h1, h2, h3, h4⟩ | ⟨h1, _⟩
  · exact ⟨h2, by rw [h4, pieces_last s f h3]⟩
  · omega

set_option maxRecDepth 1000000
set_option maxHeartbeats 1000000 in
theorem refsplit_any (s : ByteArray) (hs : s.size ≤ 100000) (w : World) :
    Calls Tryd.prog 26 #[.string s] w (SplitRet w (pieces s)) := by
  go_enter Tryd.func26, Tryd.ntmps26
  go_wp2
  go_loopw [3, 4, 5] (fun v f i wr => ∃ (k g m cp : Nat) (ad : Option Addr) (out : List ByteArray), k ≤ s.size + 1 ∧ g ≤ s.size + 1 ∧ i = .int .i64 k ∧ f = .int .i64 g ∧ v = .slice ad m cp ∧ m = out.length ∧ cp ≤ 9223372036854775807 ∧ SplitAt s k g out ∧ OwnsS wr w.heap.size v out ∧ w.grownBy wr none) (fun _ _ i _ => s.size + 1 - (intOf i).toNat)
  case atStart => exact ⟨0, 0, 0, 0, none, [], by omega, by omega, rfl, rfl, rfl, rfl, by omega, SplitAt.start s, OwnsS.nil _ _, World.grownBy.refl _ _⟩
  case round =>
    obtain ⟨k, g, m, cp, ad, out, hk, hg, rfl, rfl, rfl, hm, hcp, hat, hown, hgw⟩ := hrel
    have hml : m ≤ s.size + 1 := by rw [hm]; exact hat.len
    have HM := Lib.hid hm
    have HAT := Lib.hid hat
    have HO := Lib.hid hown
    have HG := Lib.hid hgw
    clear hm hat hown hgw
    by_cases h1 : k < s.size
    · obtain ⟨c, hc⟩ : ∃ c, byteAt s k = c := ⟨_, rfl⟩
      have hc2 : s[k]'h1 = c := by rw [← byteAt_eq]; exact hc
      have HC := Lib.hid hc
      have hne : ¬ (k : Int) = (s.size : Int) := by omega
      clear hc
      by_cases hb : c = 47
      · subst hb
        have hcut := HAT.out.cut h1 HC.out
        have hgk := hcut.1
        have HCUT := Lib.hid hcut.2
        clear hcut
        go_wp2_with (at_builtin; go_must (with_reducible refine app_str (o := ⟨some 28, _, _, _, _, _⟩) rfl _ _ rfl w.heap.size (wr.heap.size + 1) (.slice ad m cp) _ out [s.extract g k] ?_ (HO.out.alloc _) ?_ (part_str wr _ 9) ?_ ?_ ?_); go_must (exact rfl); go_must (exact rfl); go_must ((have := HM.out; simp; omega)); go_must ((have := HG.out.size; rw [alloc_size]; omega)); (intro v2 w2 ho2 hg2); have HO2 := Lib.hid ho2; have HG2 := Lib.hid (HO.out.alloc (.cells #[.string (s.extract g k)] 9) |>.grown (World.grownBy.trans HG.out (World.grownBy_alloc _ _ _)) hg2); clear ho2 hg2)
        go_roundw
        case rel =>
          obtain ⟨ad2, cp2, e1, e2, e3⟩ := HO2.out.form
          refine ⟨k + 1, k + 1, _, cp2, ad2, out ++ [s.extract g k], by omega, by omega, by go_num, by go_num, e1, rfl, e3, HCUT.out, HO2.out, HG2.out⟩
        case measure => simp [intOf]; omega
      · have hb' : ¬ (c.toNat : Int) = 47 := by
          intro e; apply hb; apply UInt8.toNat_inj.1; show c.toNat = 47; omega
        have b1 := beq_no c.toNat 47 hb'
        have b2 : ((k : Int) == (s.size : Int)) = false := by simp; omega
        have HS := Lib.hid (HAT.out.skip h1 (by rw [HC.out]; exact hb))
        go_wp2
        go_roundw
        case rel => exact ⟨k + 1, g, m, cp, ad, out, by omega, by omega, by go_num, rfl, rfl, HM.out, hcp, HS.out, HO.out, HG.out⟩
        case measure => simp [intOf]; omega
    · by_cases h2 : k = s.size
      · subst h2
        have hlast := HAT.out.last
        have hgk := hlast.1
        have HL := Lib.hid hlast.2
        have hend := Lib.hid (show SplitAt s (s.size + 1) (s.size + 1) (out ++ [s.extract g s.size]) from .inr ⟨rfl, hlast.2⟩)
        clear hlast h1
        go_wp2_with (at_builtin; go_must (with_reducible refine app_str (o := ⟨some 28, _, _, _, _, _⟩) rfl _ _ rfl w.heap.size (wr.heap.size + 1) (.slice ad m cp) _ out [s.extract g s.size] ?_ (HO.out.alloc _) ?_ (part_str wr _ 9) ?_ ?_ ?_); go_must (exact rfl); go_must (exact rfl); go_must ((have := HM.out; simp; omega)); go_must ((have := HG.out.size; rw [alloc_size]; omega)); (intro v2 w2 ho2 hg2); have HO2 := Lib.hid ho2; have HG2 := Lib.hid (HO.out.alloc (.cells #[.string (s.extract g s.size)] 9) |>.grown (World.grownBy.trans HG.out (World.grownBy_alloc _ _ _)) hg2); clear ho2 hg2)
        go_roundw
        case rel =>
          obtain ⟨ad2, cp2, e1, e2, e3⟩ := HO2.out.form
          refine ⟨s.size + 1, s.size + 1, _, cp2, ad2, out ++ [s.extract g s.size], by omega, by omega, by go_num, by go_num, e1, rfl, e3, hend.out, HO2.out, HG2.out⟩
        case measure => simp [intOf]
      · have hk1 : k = s.size + 1 := by omega
        have hp : Hid (pieces s = out) := by
          show _ = _
          rcases HAT.out with ⟨h3, _⟩ | ⟨_, h3⟩
          · exact absurd h3 (by omega)
          · exact h3
        subst hk1
        clear h1 h2 hk
        go_wp2
        go_ret
        exact ⟨_, rfl, by rw [hp.out]; exact HO.out, HG.out⟩
end Go.Proofs.YtghfnmnjomdacaaDoor
