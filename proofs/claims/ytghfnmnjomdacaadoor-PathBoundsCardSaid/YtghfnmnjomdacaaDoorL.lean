/- The help that holds two lists of texts against one another, where they are alike. -/
import Derived.Test.YtghfnmnjomdacaaDoorK
import Derived.BigRegion
namespace Go.Proofs.YtghfnmnjomdacaaDoor
open Go.RowKit

set_option maxRecDepth 1000000
set_option maxHeartbeats 1000000 in
theorem same_any (B C n c1 c2 : Nat) (a1 a2 : Option Addr) (L : List ByteArray) (w : World) (hn : L.length = n) (hn2 : n ≤ 100000) (h1 : PartS w B (.slice a1 n c1) L) (h2 : PartS w C (.slice a2 n c2) L) :
    Calls Tryd.prog 13 #[.slice a1 n c1, .slice a2 n c2] w fun e w' => e = .returned (.bool true) ∧ w.grownBy w' none := by
  have HN := Lib.hid hn
  have H1 := Lib.hid h1
  have H2 := Lib.hid h2
  clear hn h1 h2
  go_enter Tryd.func13, Tryd.ntmps13
  go_wp2
  go_loopw [5] (fun i wr => ∃ k : Nat, k ≤ n ∧ i = .int .i64 k ∧ w.grownBy wr none) (fun i _ => n - (intOf i).toNat)
  case atStart => exact ⟨0, Nat.zero_le _, rfl, World.grownBy.refl _ _⟩
  case round =>
    obtain ⟨k, hk, rfl, hg⟩ := hrel
    by_cases hlt : k < n
    · obtain ⟨x, hx⟩ : ∃ x, strAt L k = x := ⟨_, rfl⟩
      have hLk : L[k]? = some x := by rw [← hx]; exact strAt_eq L k (by rw [HN.out]; exact hlt)
      obtain ⟨b1, o1, e1, g1⟩ : ∃ b o, a1 = some ⟨b, o, none⟩ ∧ wr.cell? ⟨b, o + k, none⟩ = some (.string x) := by
        obtain ⟨a', cap', b, o, f1, f2, f3, f4, f5, f6⟩ := H1.out
        have e := Value.slice.inj f1
        exact ⟨b, o, by rw [e.1]; exact f5 (by have := HN.out; omega), hg.cell (f6 k x hLk) (by simp)⟩
      obtain ⟨b2, o2, e2, g2⟩ : ∃ b o, a2 = some ⟨b, o, none⟩ ∧ wr.cell? ⟨b, o + k, none⟩ = some (.string x) := by
        obtain ⟨a', cap', b, o, f1, f2, f3, f4, f5, f6⟩ := H2.out
        have e := Value.slice.inj f1
        exact ⟨b, o, by rw [e.1]; exact f5 (by have := HN.out; omega), hg.cell (f6 k x hLk) (by simp)⟩
      subst e1 e2
      have HG := Lib.hid hg
      clear hg hx hLk
      go_wp2
      go_region
      go_wp2
      go_roundw
      case rel => exact ⟨k + 1, by omega, by go_num, ⟨HG.out.os, HG.out.tape, HG.out.output, HG.out.size, HG.out.block⟩⟩
      case measure => simp [intOf]; omega
    · have hkn : k = n := by omega
      subst hkn
      clear hlt hk
      go_wp2
      go_ret
      exact ⟨rfl, hg⟩

theorem last_any (s : ByteArray) (q : Int) (w : World) (hs : s.size ≤ 100000) (hq : Lib.lastIndexByte s 47 = q) : Calls Tryd.prog 27 #[.string s, .int .u8 47] w fun e w' => e = .returned (.int .i64 q) ∧ w' = w := by
  subst hq; exact Tryd.strings_LastIndexByte s 47 (by omega) w

set_option maxRecDepth 1000000
set_option maxHeartbeats 1000000 in
theorem parent_known (w : World) : Calls Tryd.prog 15 #[.string ⟨#[97, 47, 98, 47, 99]⟩] w fun e w' => e = .returned (.string ⟨#[97, 47, 98]⟩) ∧ w' = w := by
  go_enter Tryd.func15, Tryd.ntmps15
  go_wp2_with fail
  (with_reducible refine (last_any ⟨#[97, 47, 98, 47, 99]⟩ 3 _ (by decide) (by decide)).mono ?_)
  rintro ee w' ⟨rfl, hw'⟩
  rw [hw']
  clear hw' w'
  dsimp only
  go_wp2
  go_ret
  exact ⟨rfl, rfl⟩

set_option maxRecDepth 1000000
set_option maxHeartbeats 1000000 in
theorem base_known (w : World) : Calls Tryd.prog 17 #[.string ⟨#[97, 47, 98]⟩] w fun e w' => e = .returned (.string ⟨#[98]⟩) ∧ w' = w := by
  go_enter Tryd.func17, Tryd.ntmps17
  go_wp2_with fail
  (with_reducible refine (last_any ⟨#[97, 47, 98]⟩ 1 _ (by decide) (by decide)).mono ?_)
  rintro ee w' ⟨rfl, hw'⟩
  rw [hw']
  clear hw' w'
  dsimp only
  go_wp2
  go_ret
  exact ⟨rfl, rfl⟩

theorem has_at (s p : ByteArray) (b : Bool) (w : World) (hp : Lib.hasPrefix s.data.toList p.data.toList = b) :
    Calls Tryd.prog 29 #[.string s, .string p] w fun e w' => e = .returned (.bool b) ∧ w' = w := by
  rw [← hp]; exact Tryd.strings_HasPrefix s p w

set_option maxRecDepth 1000000
set_option maxHeartbeats 1000000 in
theorem within_yes (w : World) : Calls Tryd.prog 19 #[.string ⟨#[97, 47, 98]⟩, .string ⟨#[97]⟩] w fun e w' => e = .returned (.bool true) ∧ w' = w := by
  go_enter Tryd.func19, Tryd.ntmps19
  go_wp2_with fail
  (with_reducible refine (has_at ⟨#[97, 47, 98]⟩ (⟨#[97]⟩ ++ ⟨#[47]⟩) true _ (by decide)).mono ?_)
  rintro ee w' ⟨rfl, hw'⟩
  rw [hw']
  clear hw' w'
  dsimp only
  go_wp2
  go_ret
  exact ⟨rfl, rfl⟩

set_option maxRecDepth 1000000
set_option maxHeartbeats 1000000 in
theorem within_no (w : World) : Calls Tryd.prog 19 #[.string ⟨#[97, 98]⟩, .string ⟨#[97]⟩] w fun e w' => e = .returned (.bool false) ∧ w' = w := by
  go_enter Tryd.func19, Tryd.ntmps19
  go_wp2_with fail
  (with_reducible refine (has_at ⟨#[97, 98]⟩ (⟨#[97]⟩ ++ ⟨#[47]⟩) false _ (by decide)).mono ?_)
  rintro ee w' ⟨rfl, hw'⟩
  rw [hw']
  clear hw' w'
  dsimp only
  go_wp2
  go_ret
  exact ⟨rfl, rfl⟩

/-! The chapter's example, by the functions of lists. -/
theorem kn1 : cleanS ⟨#[97, 47, 46, 47, 98, 47, 46, 46, 47, 99]⟩ = (⟨#[97, 47, 99]⟩, 0) := by decide +kernel
theorem kn2 : cleanS ⟨#[46, 46, 47, 97]⟩ = (⟨#[]⟩, 51) := by decide +kernel
theorem kn3 : joinS ⟨#[97, 47, 98]⟩ ⟨#[46, 46, 47, 99]⟩ = (⟨#[]⟩, 51) := by decide +kernel
theorem kn4 : joinS ⟨#[97]⟩ ⟨#[120, 47, 47, 121]⟩ = (⟨#[97, 47, 120, 47, 121]⟩, 0) := by decide +kernel
theorem kn5 : partsS ⟨#[97, 47, 98]⟩ = [⟨#[97]⟩, ⟨#[98]⟩] := by decide +kernel
end Go.Proofs.YtghfnmnjomdacaaDoor
