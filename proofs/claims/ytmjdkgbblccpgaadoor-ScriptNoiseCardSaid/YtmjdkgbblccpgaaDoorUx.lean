/- haversacklaw17.ScriptMany. -/
import Derived.Test.YtmjdkgbblccpgaaDoorUv
namespace Go.Proofs.YtmjdkgbblccpgaaDoor
open Go.RowKit

def mkB : ByteArray := ⟨#[109, 107, 100, 105, 114, 32, 97, 10]⟩
def ifB : ByteArray := ⟨#[105, 102, 32, 101, 120, 105, 115, 116, 115, 32, 97, 10]⟩
def rpB : ByteArray := ⟨#[114, 101, 112, 101, 97, 116, 32, 49, 10]⟩
def endB : ByteArray := ⟨#[101, 110, 100, 10]⟩
theorem toB_app (a b : List UInt8) : toB (a ++ b) = toB a ++ toB b := by
  apply bytes_ext
  simp [toB]
def manyB (j : Nat) : ByteArray := toB (manyL j)
def openB (p j : Nat) : ByteArray := toB (openL p j)
def fullB (p d j : Nat) : ByteArray := toB (openL p d ++ shutL j)
theorem manyB_succ (j : Nat) : manyB (j + 1) = manyB j ++ mkB := by unfold manyB; rw [manyL_succ, toB_app]; rfl
theorem manyB_size (j : Nat) : (manyB j).size = 8 * j := by unfold manyB; rw [← data_len, data_toB, manyL_len]
theorem openB_even (p j : Nat) (h : (j + p) % 2 = 0) : openB p (j + 1) = openB p j ++ ifB := by unfold openB; rw [openL_even p j h, toB_app]; rfl
theorem openB_odd (p j : Nat) (h : (j + p) % 2 = 1) : openB p (j + 1) = openB p j ++ rpB := by unfold openB; rw [openL_odd p j h, toB_app]; rfl
theorem openB_size (p j : Nat) : (openB p j).size ≤ 12 * j := by unfold openB; rw [← data_len, data_toB]; exact openL_len p j
theorem fullB_zero (p d : Nat) : fullB p d 0 = openB p d := by unfold fullB openB; rw [show shutL 0 = [] from rfl, List.append_nil]
theorem fullB_succ (p d j : Nat) : fullB p d (j + 1) = fullB p d j ++ endB := by unfold fullB; rw [shutL_succ, ← List.append_assoc, toB_app]; rfl
theorem fullB_size (p d j : Nat) : (fullB p d j).size ≤ 12 * d + 4 * j := by
  unfold fullB
  have := openL_len p d
  rw [← data_len, data_toB, List.length_append, shutL_len]
  omega
theorem many_ret (K : Nat) (hK : K ≤ 1000) (m : Int) (w : World) (hm : Wok m w) : Calls Tryd.prog 12 #[.string (manyB K)] w fun e w' => (∃ a cap, K ≤ 200 ∧ e = .returned (.tuple #[.slice a K cap, .int .i64 0, .int .i64 0]) ∧ w.grownBy w' none) ∨ (200 < K ∧ e = .returned (.tuple #[.slice none 0 0, .int .i64 201, .int .i64 66]) ∧ w.grownBy w' none) := by
  have hp := parse_any m (manyB K) w hm (by rw [manyB_size]; omega)
  refine hp.mono ?_
  intro e w' ⟨g, h⟩
  rw [show scriptS (manyB K) = _ from many_parse K hK] at h
  by_cases h2 : K ≤ 200
  · rw [if_pos h2] at h
    rcases h with ⟨L, v, h1, h3, ho⟩ | ⟨k, h1, _⟩
    · obtain rfl := Sum.inr.inj h1
      obtain ⟨a, n, cap, rfl, hn⟩ := ho.slice
      rw [List.length_replicate] at hn
      subst hn
      exact .inl ⟨a, cap, h2, h3, g⟩
    · cases h1
  · rw [if_neg h2] at h
    rcases h with ⟨L, v, h1, _⟩ | ⟨k, h1, h3⟩
    · cases h1
    · obtain rfl := Sum.inl.inj h1
      exact .inr ⟨by omega, h3, g⟩
theorem deep_ret (p d : Nat) (hd : d < 12) (m : Int) (w : World) (hm : Wok m w) : Calls Tryd.prog 12 #[.string (fullB p d d)] w fun e w' => (∃ a cap, d ≤ 8 ∧ e = .returned (.tuple #[.slice a (2 * d) cap, .int .i64 0, .int .i64 0]) ∧ w.grownBy w' none) ∨ (8 < d ∧ e = .returned (.tuple #[.slice none 0 0, .int .i64 9, .int .i64 66]) ∧ w.grownBy w' none) := by
  have hs := fullB_size p d d
  have hp := parse_any m (fullB p d d) w hm (by omega)
  refine hp.mono ?_
  intro e w' ⟨g, h⟩
  rcases deep_parse p d hd with ⟨h8, l, hl, hll⟩ | ⟨h8, hl⟩
  · rw [show scriptS (fullB p d d) = _ from hl] at h
    rcases h with ⟨L, v, h1, h3, ho⟩ | ⟨k, h1, _⟩
    · obtain rfl := Sum.inr.inj h1
      obtain ⟨a, n, cap, rfl, hn⟩ := ho.slice
      rw [hll] at hn
      subst hn
      exact .inl ⟨a, cap, h8, h3, g⟩
    · cases h1
  · rw [show scriptS (fullB p d d) = _ from hl] at h
    rcases h with ⟨L, v, h1, _⟩ | ⟨k, h1, h3⟩
    · cases h1
    · obtain rfl := Sum.inl.inj h1
      exact .inr ⟨h8, h3, g⟩

set_option maxRecDepth 1000000
set_option maxHeartbeats 16000000 in
theorem many_law (m : Int) (n d : Nat) (hn : n < 256) (hd : d < 256) (w : World) (hm : Wok m w) : Calls Tryd.prog 5 #[.int .u8 (n : Int), .int .u8 (d : Int)] w fun e w' => e = .returned (.bool true) ∧ w.grownBy w' none := by
  have HM := Lib.hid hm
  clear hm
  obtain ⟨K, hK⟩ : ∃ K, 198 + n % 5 = K := ⟨_, rfl⟩
  obtain ⟨D, hD⟩ : ∃ D, d % 12 = D := ⟨_, rfl⟩
  have hK8 : 198 ≤ K := by omega
  have hK2 : K ≤ 202 := by omega
  have hD12 : D < 12 := by omega
  have eK : (198 : Int) + (n : Int) % 5 = (K : Int) := by omega
  have eD : (d : Int) % 12 = (D : Int) := by omega
  clear hK hD
  go_enter Tryd.func5, Tryd.ntmps5
  go_wp2_with fail
  (with_reducible refine (known_any m w HM.out).mono ?_)
  rintro ee w1 ⟨rfl, g1⟩
  have HG1 := Lib.hid g1
  clear g1
  dsimp only
  go_wp2
  have EK := Lib.hid eK
  clear eK
  go_loop [6, 7] (fun s i => ∃ j : Nat, j ≤ K ∧ i = .int .i64 j ∧ s = .string (manyB j)) (fun _ i => K - (intOf i).toNat)
  case atStart => exact ⟨0, by omega, rfl, rfl⟩
  case round =>
    obtain ⟨j, hj, rfl, rfl⟩ := hrel
    have hz := manyB_size j
    have z8 : (manyB j).size + 8 ≤ 9223372036854775807 := by omega
    clear hz
    by_cases hlt : j < K
    · have HX := Lib.hid (manyB_succ j)
      go_wp2
      go_round
      case rel => exact ⟨j + 1, by omega, by go_num, by rw [HX.out]; rfl⟩
      case measure => simp [intOf]; omega
    · obtain rfl : j = K := by omega
      clear hlt hj z8
      go_wp2_with fail
      (with_reducible refine (many_ret j (by omega) m w1 (HM.out.stays HG1.out)).mono ?_)
      rintro ee w2 (⟨a2, c2, h200, rfl, g2⟩ | ⟨h200, rfl, g2⟩)
      all_goals
        have HG2 := Lib.hid (World.grownBy.trans HG1.out g2)
        clear g2
        dsimp only
        go_wp2
        have ED := Lib.hid eD
        clear eD
        go_loopw [6, 12] (fun s i wr => ∃ j : Nat, j ≤ D ∧ i = .int .i64 j ∧ s = .string (openB n j) ∧ Hid (w.grownBy wr none)) (fun _ i _ => D - (intOf i).toNat)
        case atStart => exact ⟨0, by omega, rfl, rfl, HG2.out⟩
        case round =>
          obtain ⟨i, hi, rfl, rfl, hG⟩ := hrel
          have hz := openB_size n i
          obtain ⟨t, ht⟩ : ∃ t, openB n i = t := ⟨_, rfl⟩
          have z8 : t.size + 12 ≤ 9223372036854775807 := by rw [← ht]; omega
          have z9 : t.size + 9 ≤ 9223372036854775807 := by omega
          have HT := Lib.hid ht
          rw [ht]
          clear hz ht
          by_cases hlt : i < D
          · rcases Nat.mod_two_eq_zero_or_one (i + n) with hp | hp
            · have HX := Lib.hid (openB_even n i hp)
              have ep : ((i : Int) + (n : Int)) % 2 = 0 := by omega
              clear hp
              go_wp2
              go_roundw
              case rel => exact ⟨i + 1, by omega, by go_num, by rw [HX.out, HT.out]; rfl, grown_alloc _ hG.out⟩
              case measure => simp [intOf]; omega
            · have HX := Lib.hid (openB_odd n i hp)
              have ep : ((i : Int) + (n : Int)) % 2 = 1 := by omega
              clear hp
              go_wp2
              go_roundw
              case rel => exact ⟨i + 1, by omega, by go_num, by rw [HX.out, HT.out]; rfl, grown_alloc _ hG.out⟩
              case measure => simp [intOf]; omega
          · obtain rfl : i = D := by omega
            clear hlt hi z8 z9
            go_wp2
            go_loop [6, 13] (fun s k => ∃ j : Nat, j ≤ i ∧ k = .int .i64 j ∧ s = .string (fullB n i j)) (fun _ k => i - (intOf k).toNat)
            case atStart => exact ⟨0, by omega, rfl, by rw [fullB_zero, HT.out]⟩
            case round =>
              obtain ⟨k, hk, rfl, rfl⟩ := hrel
              have hz := fullB_size n i k
              have z8 : (fullB n i k).size + 4 ≤ 9223372036854775807 := by omega
              clear hz
              by_cases hlt : k < i
              · have HX := Lib.hid (fullB_succ n i k)
                go_wp2
                go_round
                case rel => exact ⟨k + 1, by omega, by go_num, by rw [HX.out]; rfl⟩
                case measure => simp [intOf]; omega
              · obtain rfl : k = i := by omega
                clear hlt hk z8
                go_wp2_with fail
                (with_reducible refine (deep_ret n k (by omega) m wr (HM.out.stays hG.out)).mono ?_)
                rintro ee w3 (⟨a3, c3, h8, rfl, g3⟩ | ⟨h8, rfl, g3⟩)
                all_goals
                  have HG3 := Lib.hid (World.grownBy.trans hG.out g3)
                  clear g3
                  dsimp only
                  go_wp2
                  go_ret
                  exact ⟨rfl, HG3.out⟩
end Go.Proofs.YtmjdkgbblccpgaaDoor
