/- The law PathBounds returns true. -/
import Derived.Test.YtghfnmnjomdacaaDoorN
namespace Go.Proofs.YtghfnmnjomdacaaDoor
open Go.RowKit

set_option maxRecDepth 1000000
set_option maxHeartbeats 4000000 in
theorem bounds_law (m n k d : Int) (hn0 : 0 ≤ n) (hn1 : n ≤ 255) (hk0 : 0 ≤ k) (hk1 : k ≤ 255) (hd0 : 0 ≤ d) (hd1 : d ≤ 255) (w : World) (hm : w.cell? ⟨0, 0, none⟩ = some (.int .i64 m)) :
    Calls Tryd.prog 6 #[.int .u8 n, .int .u8 k, .int .u8 d] w fun e w' => e = .returned (.bool true) ∧ w.grownBy w' none := by
  obtain ⟨A, hA⟩ : ∃ A : Nat, n % 40 = (A : Int) := ⟨(n % 40).toNat, by omega⟩
  obtain ⟨B, hB⟩ : ∃ B : Nat, k % 16 = (B : Int) := ⟨(k % 16).toNat, by omega⟩
  obtain ⟨D, hD⟩ : ∃ D : Nat, d % 4 = (D : Int) := ⟨(d % 4).toNat, by omega⟩
  have hA2 : A < 40 := by omega
  have hB2 : B < 16 := by omega
  have hD2 : D < 4 := by omega
  have HM := Lib.hid hm
  have HW := Lib.hid (World.block_lt_of_cell? _ _ hm)
  clear hm
  go_enter Tryd.func6, Tryd.ntmps6
  go_wp2_with fail
  (with_reducible refine (known_any m _ HM.out).mono ?_)
  rintro ee w1 ⟨rfl, g1⟩
  dsimp only
  have G1 := Lib.hid g1
  clear g1
  go_wp2
  go_loopw [7, 8] (fun a i wr => ∃ (j : Nat) (x : ByteArray), j ≤ A + 1 ∧ i = .int .i64 j ∧ a = .string x ∧ x.size ≤ j ∧ w.grownBy wr none) (fun _ i _ => A + 1 - (intOf i).toNat)
  case atStart => exact ⟨0, ⟨#[]⟩, by omega, rfl, rfl, Nat.le_refl _, G1.out⟩
  case round =>
    obtain ⟨j, x, hj, rfl, rfl, hx, hg⟩ := hrel
    have HG := Lib.hid hg
    clear hg
    by_cases hlt : j < A + 1
    · have c1 : x.size + 1 ≤ 9223372036854775807 := by omega
      have hlt2 : (j : Int) < (A : Int) + 1 := by omega
      go_wp2
      go_roundw
      case rel => exact ⟨j + 1, x ++ ⟨#[120]⟩, by omega, by go_num, rfl, by rw [ByteArray.size_append]; exact Nat.succ_le_succ hx, HG.out⟩
      case measure => simp [intOf]; omega
    · have hlt2 : decide ((j : Int) < (A : Int) + 1) = false := by simp; omega
      have hx40 : x.size ≤ 40 := by omega
      clear hlt hx hj
      go_wp2
      go_loopw [9, 10] (fun s i wr => ∃ (j : Nat) (y : ByteArray), j ≤ B ∧ i = .int .i64 j ∧ s = .string y ∧ y.size ≤ 40 + 41 * j ∧ w.grownBy wr none) (fun _ i _ => B - (intOf i).toNat)
      case atStart => exact ⟨0, x, by omega, rfl, rfl, by omega, HG.out⟩
      case round =>
        obtain ⟨j2, y, hj, rfl, rfl, hy, hg⟩ := hrel
        have HG2 := Lib.hid hg
        clear hg
        by_cases hlt : j2 < B
        · have c1 : y.size + 1 ≤ 9223372036854775807 := by omega
          have c2 : y.size + 1 + x.size ≤ 9223372036854775807 := by omega
          have hlt3 : (j2 : Int) < (B : Int) := by omega
          have hsz : (y ++ ⟨#[47]⟩ ++ x).size ≤ 40 + 41 * (j2 + 1) := by
            rw [ByteArray.size_append, ByteArray.size_append]
            have : (⟨#[47]⟩ : ByteArray).size = 1 := rfl
            omega
          have HSZ := Lib.hid hsz
          clear hsz
          go_wp2
          go_roundw
          case rel => exact ⟨j2 + 1, y ++ ⟨#[47]⟩ ++ x, by omega, by go_num, rfl, HSZ.out, HG2.out⟩
          case measure => simp [intOf]; omega
        · have hlt3 : decide ((j2 : Int) < (B : Int)) = false := by simp; omega
          have hy2 : y.size ≤ 1000 := by omega
          have hge : B ≤ j2 := by omega
          clear hy hj
          go_wp2
          go_loopw [9, 11] (fun s i wr => ∃ (j : Nat) (y : ByteArray), j ≤ D ∧ i = .int .i64 j ∧ s = .string y ∧ y.size ≤ 1000 + 3 * j ∧ w.grownBy wr none) (fun _ i _ => D - (intOf i).toNat)
          case atStart => exact ⟨0, y, by omega, rfl, rfl, by omega, HG2.out⟩
          case round =>
            obtain ⟨j3, z, hj, rfl, rfl, hz, hg⟩ := hrel
            have HG3 := Lib.hid hg
            clear hg
            by_cases hlt : j3 < D
            · have c1 : z.size + 3 ≤ 9223372036854775807 := by omega
              have hlt4 : (j3 : Int) < (D : Int) := by omega
              have hsz : (z ++ ⟨#[47, 46, 47]⟩).size ≤ 1000 + 3 * (j3 + 1) := by
                rw [ByteArray.size_append]
                have : (⟨#[47, 46, 47]⟩ : ByteArray).size = 3 := rfl
                omega
              have HSZ := Lib.hid hsz
              clear hsz
              go_wp2
              go_roundw
              case rel => exact ⟨j3 + 1, z ++ ⟨#[47, 46, 47]⟩, by omega, by go_num, rfl, HSZ.out, HG3.out⟩
              case measure => simp [intOf]; omega
            · have hlt4 : decide ((j3 : Int) < (D : Int)) = false := by simp; omega
              obtain ⟨p, q, hc⟩ : ∃ p q, cleanS z = (p, q) := ⟨_, _, rfl⟩
              have HC := Lib.hid hc
              have hge3 : D ≤ j3 := by omega
              clear hz hj hc
              go_wp2_with fail
              (with_reducible refine (clean_at m z p q _ (HG3.out.cell HM.out (by simp)) HC.out).mono ?_)
              rintro ee w2 ⟨rfl, g2⟩
              dsimp only
              have G2 := Lib.hid (World.grownBy.trans HG3.out g2)
              clear g2
              go_wp2_with fail
              (with_reducible refine (refclean_at z p q _ (Nat.lt_of_lt_of_le HW.out G2.out.size) HC.out).mono ?_)
              rintro ee w3 ⟨rfl, g3⟩
              dsimp only
              have G3 := Lib.hid (World.grownBy.trans G2.out g3)
              clear g3
              go_wp2
              all_goals go_ret
              all_goals exact ⟨by simp, G3.out⟩
end Go.Proofs.YtghfnmnjomdacaaDoor
