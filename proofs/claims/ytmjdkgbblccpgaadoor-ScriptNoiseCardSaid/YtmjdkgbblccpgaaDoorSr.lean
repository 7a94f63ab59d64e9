/- strings.IndexRune in " \t" of a rune beyond ASCII: there is none. -/
import Derived.Test.YtmjdkgbblccpgaaDoorSy
import Derived.Shelf.Strings.IndexAny
import Derived.Laws.Runes
import Derived.Laws.RangeAny
namespace Go.Proofs.YtmjdkgbblccpgaaDoor
open Go.RowKit

set_option maxRecDepth 1000000
set_option maxHeartbeats 4000000 in
theorem rune_error (w : World) :
    Calls Tryd.prog 36 #[.string ⟨#[32, 9]⟩, .int .i32 65533] w fun e w' => e = .returned (.int .i64 (-1)) ∧ w.grownBy w' none := by
  go_enter Tryd.func36, Tryd.ntmps36
  go_wp2_with fail
  go_loopg [5, 6] 2 (fun g _ _ wx => ∃ i : Nat, i + g = 2 ∧ wx = w.iter ⟨#[32, 9]⟩ i)
  case atStart => exact ⟨0, rfl, rfl⟩
  case round =>
    obtain ⟨i, hig, rfl⟩ := hrel
    cases gk with
    | zero =>
      obtain rfl : i = 2 := by omega
      have hnx := run_next_end (P := Tryd.prog) w ⟨#[32, 9]⟩ 2
      go_wp2
      go_ret
      exact ⟨rfl, World.grownBy_alloc _ _ _⟩
    | succ g =>
      have hi : i < (⟨#[32, 9]⟩ : ByteArray).size := by show i < 2; omega
      have hx : ((⟨#[32, 9]⟩ : ByteArray)[i]'hi).toNat < 128 ∧ (((⟨#[32, 9]⟩ : ByteArray)[i]'hi).toNat : Int) ≠ 65533 := by
        rcases (by omega : i = 0 ∨ i = 1) with rfl | rfl
        · exact ⟨by show (32 : Nat) < 128; omega, by show (((32 : UInt8).toNat : Nat) : Int) ≠ 65533; decide⟩
        · exact ⟨by show (9 : Nat) < 128; omega, by show (((9 : UInt8).toNat : Nat) : Int) ≠ 65533; decide⟩
      have hnx := fun ty => run_next_ascii (P := Tryd.prog) w ⟨#[32, 9]⟩ i ty hi hx.1
      obtain ⟨x, hxe⟩ : ∃ x : UInt8, (⟨#[32, 9]⟩ : ByteArray)[i]'hi = x := ⟨_, rfl⟩
      rw [hxe] at hnx hx
      have n1 : ((x.toNat : Int) == 65533) = false := beq_no _ _ hx.2
      clear hxe hx
      go_wp2
      go_roundg g
      case measure => omega
      case rel => exact ⟨i + 1, by omega, rfl⟩
set_option maxHeartbeats 4000000 in
theorem rune_high (r : Nat) (w : World) (h0 : 128 ≤ r) (h1 : r ≤ 1114111) (h2 : r ≠ 65533) :
    Calls Tryd.prog 36 #[.string ⟨#[32, 9]⟩, .int .i32 r] w fun e w' => e = .returned (.int .i64 (-1)) ∧ w.grownBy w' none := by
  have d1 : decide ((r : Int) < 128) = false := by simp; omega
  have d2 : 0 ≤ (r : Int) := by omega
  have n1 : ((r : Int) == 65533) = false := beq_no _ _ (by omega)
  go_enter Tryd.func36, Tryd.ntmps36
  go_wp2_with fail
  (with_reducible refine (Tryd.utf8_ValidRune _ _).mono ?_)
  rintro ee w1 ⟨rfl, hw1⟩
  rw [hw1]
  clear hw1 w1
  dsimp only
  cases hv : Lib.validRune (r : Int) with
  | false =>
    go_wp2
    go_ret
    exact ⟨rfl, World.grownBy.refl _ _⟩
  | true =>
    have hv2 : Utf8.valid (r : Int) = true := by
      unfold Lib.validRune at hv
      simp only [decide_eq_true_eq] at hv
      unfold Utf8.valid
      simp
      omega
    obtain ⟨f1, f2, f3⟩ := encode_facts r hv2 (by omega)
    obtain ⟨E, hE⟩ : ∃ E, Utf8.encode (r : Int) = E := ⟨_, rfl⟩
    rw [hE] at f1 f2 f3
    have l1 : E.size - 1 < E.size := by omega
    obtain ⟨x, hx⟩ : ∃ x, E[E.size - 1]'l1 = x := ⟨_, rfl⟩
    have hx2 := f3 l1
    rw [hx] at hx2
    clear f3 hv hv2
    by_cases h2 : E.size = 2
    · have e0 : (⟨#[32, 9]⟩ : ByteArray).extract 2 2 = ⟨#[]⟩ := rfl
      have e1 : (9 : Int) ≠ (x.toNat : Int) := by omega
      have e2 : ((9 : Int) != (x.toNat : Int)) = true := by simpa using e1
      have hE1 : E[1]'(by omega) = x := by
        rw [← hx]; congr 1; omega
      go_wp2_with fail
      go_step3
      go_wp2_with fail
      go_loopg [9, 10] 0 (fun _ i _ wr => i = .int .i64 1 ∧ wr = w)
      case atStart => exact ⟨rfl, rfl⟩
      case round =>
        obtain ⟨rfl, rfl⟩ := hrel
        go_wp2_with fail
        go_step3
        go_wp2_with fail
        refine wp_region_quiet (C := fun w' => wr.grownBy w' none) (by kernel_rfl) (by kernel_rfl) ⟨rfl, rfl, rfl, Nat.le_refl _, fun _ _ _ => rfl⟩ ?_
        refine wpQuiet_step (fun K hK => ?_)
        go_simp
        refine ⟨_, fun W hW => rfl, hK _ ?_⟩
        clear hK K
        refine wpQuiet_step (fun K hK => ?_)
        go_simp
        refine ⟨_, fun W hW => rfl, hK _ ?_⟩
        clear hK K
        refine wpQuiet_step (fun K hK => ?_)
        go_simp
        refine ⟨_, fun W hW => rfl, hK _ ?_⟩
        clear hK K
        refine wpQuiet_step (fun K hK => ?_)
        go_simp
        refine ⟨_, fun W hW => rfl, hK _ ?_⟩
        clear hK K
        refine wpQuiet_step (fun K hK => ?_)
        go_simp
        refine ⟨_, fun W hW => rfl, hK _ ?_⟩
        clear hK K
        refine wpQuiet_step (fun K hK => ?_)
        go_simp
        refine ⟨.int .u8 (x.toNat : Int), fun W hW => by first | rfl | (rw [hE1]), hK _ ?_⟩
        clear hK K
        refine wpQuiet_step (fun K hK => ?_)
        go_simp
        refine ⟨.bool true, fun W hW => ?_, hK _ ?_⟩
        · exact congrArg Value.bool e2
        clear hK K
        refine wpQuiet_nil ?_
        intro W9 hW9
        clear e1 e2
        go_wp2_with fail
        refine wp_region_quiet (C := fun w' => wr.grownBy w' none) (by kernel_rfl) (by kernel_rfl) (grown_drew 1 hW9) ?_
        refine wpQuiet_step (fun K hK => ?_)
        go_simp
        refine ⟨_, fun W hW => rfl, hK _ ?_⟩
        clear hK K
        refine wpQuiet_step (fun K hK => ?_)
        go_simp
        refine ⟨_, fun W hW => rfl, hK _ ?_⟩
        clear hK K
        refine wpQuiet_step (fun K hK => ?_)
        go_simp
        refine ⟨_, fun W hW => rfl, hK _ ?_⟩
        clear hK K
        refine wpQuiet_step (fun K hK => ?_)
        go_simp
        refine ⟨.string ⟨#[]⟩, fun W hW => ?_, hK _ ?_⟩
        · rw [if_pos (by decide +kernel)]
          exact ⟨rfl, by rfl⟩
        clear hK K
        refine wpQuiet_step (fun K hK => ?_)
        go_simp
        refine ⟨_, fun W hW => rfl, hK _ ?_⟩
        clear hK K
        refine wpQuiet_step (fun K hK => ?_)
        go_simp
        refine ⟨_, fun W hW => rfl, hK _ ?_⟩
        clear hK K
        refine wpQuiet_step (fun K hK => ?_)
        go_simp
        refine ⟨.int .u8 (x.toNat : Int), fun W hW => by first | rfl | (rw [hE1]), hK _ ?_⟩
        clear hK K
        refine wpQuiet_step (fun K hK => ?_)
        go_simp
        refine ⟨.int .i64 (-1), fun W hW => (Tryd.strings_IndexByte ⟨#[]⟩ x.toNat W).mono (fun e w' h => ⟨h.1, by (rw [h.2]; exact hW)⟩), hK _ ?_⟩
        clear hK K
        refine wpQuiet_step (fun K hK => ?_)
        go_simp
        refine ⟨_, fun W hW => rfl, hK _ ?_⟩
        clear hK K
        refine wpQuiet_nil ?_
        intro W8 hW8
        go_wp2_with fail
        rw [Exit.noGoto_ret]
        go_simp
        go_ret
        exact ⟨rfl, hW8⟩
    · have d3 : decide ((E.size : Int) - 1 < 2) = false := by simp; omega
      go_wp2_with fail
      go_step3
      go_wp2_with fail
      go_loopg [9, 10] 0 (fun _ i _ wr => i = .int .i64 ((E.size : Int) - 1) ∧ wr = w)
      case atStart => exact ⟨rfl, rfl⟩
      case round =>
        obtain ⟨rfl, rfl⟩ := hrel
        go_wp2
        rw [Exit.noGoto_ret]
        go_ret
        exact ⟨rfl, World.grownBy.refl _ _⟩
end Go.Proofs.YtmjdkgbblccpgaaDoor
