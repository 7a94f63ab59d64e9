/- The law VerNumbers returns true. -/
import Derived.Test.YtkngfkjnohbbiaaDoorXa
namespace Go.Proofs.YtkngfkjnohbbiaaDoor
open Go.RowKit

def signS (n : Int) : Int := if n < 0 then -1 else if 0 < n then 1 else 0
theorem sign_any (n : Int) (w : World) : Calls Tryd.prog 22 #[.int .i64 n] w fun e w' => e = .returned (.int .i64 (signS n)) ∧ w' = w := by
  by_cases h1 : n < 0
  · have e : signS n = -1 := by unfold signS; rw [if_pos h1]
    rw [e]
    go_enter Tryd.func22, Tryd.ntmps22
    go_wp2
    go_ret
    exact ⟨rfl, rfl⟩
  · by_cases h2 : 0 < n
    · have e : signS n = 1 := by unfold signS; rw [if_neg h1, if_pos h2]
      have d1 : decide (n < 0) = false := by simp [h1]
      rw [e]
      go_enter Tryd.func22, Tryd.ntmps22
      go_wp2
      go_ret
      exact ⟨rfl, rfl⟩
    · have e : signS n = 0 := by unfold signS; rw [if_neg h1, if_neg h2]
      have d1 : decide (n < 0) = false := by simp [h1]
      have d2 : decide (0 < n) = false := by simp [h2]
      rw [e]
      go_enter Tryd.func22, Tryd.ntmps22
      go_wp2
      go_ret
      exact ⟨rfl, rfl⟩
/-- What stands behind k numbers. -/
def prefS (x y z : Int) : Nat → ByteArray
  | 0 => ⟨#[]⟩
  | 1 => decS x
  | 2 => decS x ++ dotB ++ decS y
  | _ => decS x ++ dotB ++ decS y ++ dotB ++ decS z
theorem decS_nine (x : Int) (h : x < 1000000000) : (decS x).size ≤ 9 := by
  rw [show (decS x).size = (Lib.decDigits x.toNat).length from size_toB _]; exact dec_len 8 _ (by omega)
theorem pref_size (x y z : Int) (hx : x < 1000000000) (hy : y < 1000000000) (hz : z < 1000000000) (k : Nat) : (prefS x y z k).size ≤ 100 := by
  have a := decS_nine x hx
  have b := decS_nine y hy
  have c := decS_nine z hz
  have d : dotB.size = 1 := rfl
  match k with
  | 0 => exact Nat.zero_le _
  | 1 => show (decS x).size ≤ _; omega
  | 2 => show (decS x ++ dotB ++ decS y).size ≤ _; simp only [ByteArray.size_append]; omega
  | _ + 3 => show (decS x ++ dotB ++ decS y ++ dotB ++ decS z).size ≤ _; simp only [ByteArray.size_append]; omega
def firstS (p q r : Int) : Nat → Int
  | 0 => 0
  | 1 => signS p
  | 2 => if signS p = 0 then signS q else signS p
  | _ => if signS p = 0 then (if signS q = 0 then signS r else signS q) else signS p
theorem first0_z (p q r : Int) (_ : firstS p q r 0 = 0) : signS p = firstS p q r (0 + 1) := rfl
theorem first1_z (p q r : Int) (h : firstS p q r 1 = 0) : signS q = firstS p q r (1 + 1) := by
  have h' : signS p = 0 := h
  show _ = if signS p = 0 then signS q else signS p
  rw [if_pos h']
theorem first2_z (p q r : Int) (h : firstS p q r 2 = 0) : signS r = firstS p q r (2 + 1) := by
  have h' : (if signS p = 0 then signS q else signS p) = 0 := h
  show _ = if signS p = 0 then (if signS q = 0 then signS r else signS q) else signS p
  by_cases h1 : signS p = 0
  · rw [if_pos h1] at h' ⊢
    rw [if_pos h']
  · rw [if_neg h1] at h'
    exact absurd h' h1
theorem first0_n (p q r : Int) (h : ¬ firstS p q r 0 = 0) : firstS p q r 0 = firstS p q r (0 + 1) := absurd rfl h
theorem first1_n (p q r : Int) (h : ¬ firstS p q r 1 = 0) : firstS p q r 1 = firstS p q r (1 + 1) := by
  have h' : ¬ signS p = 0 := h
  show signS p = if signS p = 0 then signS q else signS p
  rw [if_neg h']
theorem first2_n (p q r : Int) (h : ¬ firstS p q r 2 = 0) : firstS p q r 2 = firstS p q r (2 + 1) := by
  have h' : ¬ (if signS p = 0 then signS q else signS p) = 0 := h
  show (if signS p = 0 then signS q else signS p) = if signS p = 0 then (if signS q = 0 then signS r else signS q) else signS p
  by_cases h1 : signS p = 0
  · rw [if_pos h1] at h'
    rw [if_pos h1, if_pos h1, if_neg h']
  · rw [if_neg h1, if_neg h1]
theorem sign_cmp (x y : Int) : signS (x - y) = Lib.compareInt x y := by
  unfold signS Lib.compareInt
  repeat' split
  all_goals omega
theorem first_cmp (x y z x' y' z' : Int) : cmpV ⟨x, y, z, []⟩ ⟨x', y', z', []⟩ = firstS (x - x') (y - y') (z - z') 3 := by
  rw [cmpV_lex]
  unfold firstS
  simp only [sign_cmp]
  have e : cmpMs [] [] = 0 := by decide
  rw [e]
  repeat' split
  all_goals first | rfl | omega

set_option maxRecDepth 1000000
set_option maxHeartbeats 16000000 in
theorem numbers_law (m : Int) (a0 a1 a2 b0 b1 b2 : Int) (ha0 : 0 ≤ a0 ∧ a0 < 4294967296) (ha1 : 0 ≤ a1 ∧ a1 < 4294967296) (ha2 : 0 ≤ a2 ∧ a2 < 4294967296)
    (hb0 : 0 ≤ b0 ∧ b0 < 4294967296) (hb1 : 0 ≤ b1 ∧ b1 < 4294967296) (hb2 : 0 ≤ b2 ∧ b2 < 4294967296) (w : World) (hm : Wok m w) :
    Calls Tryd.prog 8 #[.agg #[.int .u32 a0, .int .u32 a1, .int .u32 a2], .agg #[.int .u32 b0, .int .u32 b1, .int .u32 b2]] w fun e w' => e = .returned (.bool true) ∧ w.grownBy w' none := by
  have HM := Lib.hid hm
  clear hm
  obtain ⟨A0, hA0⟩ : ∃ A, a0 % 1000000000 = A := ⟨_, rfl⟩
  obtain ⟨A1, hA1⟩ : ∃ A, a1 % 1000000000 = A := ⟨_, rfl⟩
  obtain ⟨A2, hA2⟩ : ∃ A, a2 % 1000000000 = A := ⟨_, rfl⟩
  obtain ⟨B0, hB0⟩ : ∃ A, b0 % 1000000000 = A := ⟨_, rfl⟩
  obtain ⟨B1, hB1⟩ : ∃ A, b1 % 1000000000 = A := ⟨_, rfl⟩
  obtain ⟨B2, hB2⟩ : ∃ A, b2 % 1000000000 = A := ⟨_, rfl⟩
  have RA0 : Hid (0 ≤ A0 ∧ A0 < 1000000000) := ⟨by omega, by omega⟩
  have RA1 : Hid (0 ≤ A1 ∧ A1 < 1000000000) := ⟨by omega, by omega⟩
  have RA2 : Hid (0 ≤ A2 ∧ A2 < 1000000000) := ⟨by omega, by omega⟩
  have RB0 : Hid (0 ≤ B0 ∧ B0 < 1000000000) := ⟨by omega, by omega⟩
  have RB1 : Hid (0 ≤ B1 ∧ B1 < 1000000000) := ⟨by omega, by omega⟩
  have RB2 : Hid (0 ≤ B2 ∧ B2 < 1000000000) := ⟨by omega, by omega⟩
  have HA0 : Hid (a0.tmod 1000000000 = A0) := by
    show _ = _
    rw [Int.tmod_eq_emod_of_nonneg ha0.1]; exact hA0
  have WA0 : Hid (IntKind.i64.wrap A0 = A0) := by
    show _ = _
    rw [IntKind.wrap_i64]; omega
  have HA1 : Hid (a1.tmod 1000000000 = A1) := by
    show _ = _
    rw [Int.tmod_eq_emod_of_nonneg ha1.1]; exact hA1
  have WA1 : Hid (IntKind.i64.wrap A1 = A1) := by
    show _ = _
    rw [IntKind.wrap_i64]; omega
  have HA2 : Hid (a2.tmod 1000000000 = A2) := by
    show _ = _
    rw [Int.tmod_eq_emod_of_nonneg ha2.1]; exact hA2
  have WA2 : Hid (IntKind.i64.wrap A2 = A2) := by
    show _ = _
    rw [IntKind.wrap_i64]; omega
  have HB0 : Hid (b0.tmod 1000000000 = B0) := by
    show _ = _
    rw [Int.tmod_eq_emod_of_nonneg hb0.1]; exact hB0
  have WB0 : Hid (IntKind.i64.wrap B0 = B0) := by
    show _ = _
    rw [IntKind.wrap_i64]; omega
  have HB1 : Hid (b1.tmod 1000000000 = B1) := by
    show _ = _
    rw [Int.tmod_eq_emod_of_nonneg hb1.1]; exact hB1
  have WB1 : Hid (IntKind.i64.wrap B1 = B1) := by
    show _ = _
    rw [IntKind.wrap_i64]; omega
  have HB2 : Hid (b2.tmod 1000000000 = B2) := by
    show _ = _
    rw [Int.tmod_eq_emod_of_nonneg hb2.1]; exact hB2
  have WB2 : Hid (IntKind.i64.wrap B2 = B2) := by
    show _ = _
    rw [IntKind.wrap_i64]; omega
  clear hA0 hA1 hA2 hB0 hB1 hB2
  go_enter Tryd.func8, Tryd.ntmps8
  go_wp2_with fail
  have ba := block_kept (alloc_block w (.cells #[.int .u32 a0, .int .u32 a1, .int .u32 a2] 47)) (World.grownBy_alloc (w.alloc (.cells #[.int .u32 a0, .int .u32 a1, .int .u32 a2] 47)) (.cells #[.int .u32 b0, .int .u32 b1, .int .u32 b2] 47) none)
  have bb := alloc_block (w.alloc (.cells #[.int .u32 a0, .int .u32 a1, .int .u32 a2] 47)) (.cells #[.int .u32 b0, .int .u32 b1, .int .u32 b2] 47)
  rw [alloc_size] at bb
  have g1 := grown_alloc (.cells #[.int .u32 b0, .int .u32 b1, .int .u32 b2] 47) (World.grownBy_alloc w (.cells #[.int .u32 a0, .int .u32 a1, .int .u32 a2] 47) none)
  obtain ⟨W1, hW1⟩ : ∃ W1, (w.alloc (.cells #[.int .u32 a0, .int .u32 a1, .int .u32 a2] 47)).alloc (.cells #[.int .u32 b0, .int .u32 b1, .int .u32 b2] 47) = W1 := ⟨_, rfl⟩
  rw [hW1] at ba bb g1 ⊢
  have G1 := Lib.hid g1
  clear hW1 g1
  (with_reducible refine (known_any m _ (HM.out.stays G1.out)).mono ?_)
  rintro ee w0 ⟨rfl, g0⟩
  dsimp only
  have GW0 := Lib.hid (World.grownBy.trans G1.out g0)
  have BA := Lib.hid (block_kept ba g0)
  have BB := Lib.hid (block_kept bb g0)
  clear ba bb g0
  have c0 := (block_cell BA.out 0 _ rfl).1
  have c1 := (block_cell BA.out 1 _ rfl).1
  have c2 := (block_cell BA.out 2 _ rfl).1
  have d0 := (block_cell BB.out 0 _ rfl).1
  have d1 := (block_cell BB.out 1 _ rfl).1
  have d2 := (block_cell BB.out 2 _ rfl).1
  go_wp2
  go_loopw [5, 6, 7, 8, 9, 10] (fun s t wt i x y wr => ∃ k : Nat, k ≤ 3 ∧ i = .int .i64 k ∧ s = .string (prefS A0 A1 A2 k) ∧ t = .string (prefS B0 B1 B2 k) ∧ wt = .int .i64 (firstS (A0 - B0) (A1 - B1) (A2 - B2) k) ∧ w0.grownBy wr none) (fun s t wt i x y _ => 3 - (intOf i).toNat)
  case atStart => exact ⟨0, by omega, rfl, rfl, rfl, rfl, World.grownBy.refl _ _⟩
  case round =>
    obtain ⟨k, hk, rfl, rfl, rfl, rfl, hg⟩ := hrel
    rcases (by omega : k = 0 ∨ k = 1 ∨ k = 2 ∨ k = 3) with rfl | rfl | rfl | rfl
    · obtain ⟨S, hS⟩ : ∃ S, prefS A0 A1 A2 0 = S := ⟨_, rfl⟩
      obtain ⟨T, hT⟩ : ∃ S, prefS B0 B1 B2 0 = S := ⟨_, rfl⟩
      obtain ⟨F, hF⟩ : ∃ F, firstS (A0 - B0) (A1 - B1) (A2 - B2) 0 = F := ⟨_, rfl⟩
      rw [hS, hT, hF]
      have zS : S.size ≤ 100 := by rw [← hS]; exact pref_size A0 A1 A2 RA0.out.2 RA1.out.2 RA2.out.2 0
      have zT : T.size ≤ 100 := by rw [← hT]; exact pref_size B0 B1 B2 RB0.out.2 RB1.out.2 RB2.out.2 0
      have HS := Lib.hid hS
      have HT := Lib.hid hT
      have HF := Lib.hid hF
      have HG := Lib.hid hg
      clear hS hT hF hg hk
      go_wp2
      refine wp_region_quiet (C := fun w' => w0.grownBy w' none) (by kernel_rfl) (by kernel_rfl) (World.grownBy.trans HG.out ⟨rfl, rfl, rfl, Nat.le_refl _, fun _ _ _ => rfl⟩) ?_
      refine wpQuiet_step (fun K hK => ?_)
      go_simp
      refine ⟨_, fun W hW => rfl, hK _ ?_⟩
      clear hK K
      refine wpQuiet_step (fun K hK => ?_)
      go_simp
      refine ⟨_, fun W hW => rfl, hK _ ?_⟩
      clear hK K
      refine wpQuiet_step (fun K hK => ?_)
      go_simp
      refine ⟨.int .u32 a0, fun W hW => ?_, hK _ ?_⟩
      · rw [hW.cell c0 (by simp)]; exact ⟨rfl, rfl⟩
      clear hK K
      refine wpQuiet_step (fun K hK => ?_)
      go_simp
      refine ⟨_, fun W hW => rfl, hK _ ?_⟩
      clear hK K
      refine wpQuiet_step (fun K hK => ?_)
      go_simp
      refine ⟨_, fun W hW => rfl, hK _ ?_⟩
      clear hK K
      refine wpQuiet_step (fun K hK => ?_)
      go_simp
      refine ⟨_, fun W hW => rfl, hK _ ?_⟩
      clear hK K
      refine wpQuiet_step (fun K hK => ?_)
      go_simp
      refine ⟨_, fun W hW => rfl, hK _ ?_⟩
      clear hK K
      refine wpQuiet_step (fun K hK => ?_)
      go_simp
      refine ⟨.int .u32 b0, fun W hW => ?_, hK _ ?_⟩
      · rw [hW.cell d0 (by simp)]; exact ⟨rfl, rfl⟩
      clear hK K
      refine wpQuiet_step (fun K hK => ?_)
      go_simp
      refine ⟨_, fun W hW => rfl, hK _ ?_⟩
      clear hK K
      refine wpQuiet_step (fun K hK => ?_)
      go_simp
      refine ⟨_, fun W hW => rfl, hK _ ?_⟩
      clear hK K
      refine wpQuiet_step (fun K hK => ?_)
      go_simp
      refine ⟨_, fun W hW => rfl, hK _ ?_⟩
      clear hK K
      refine wpQuiet_step (fun K hK => ?_)
      go_simp
      refine ⟨_, fun W hW => rfl, hK _ ?_⟩
      clear hK K
      refine wpQuiet_nil ?_
      intro W8 hW8
      have H8 := Lib.hid hW8
      clear hW8
      rw [HA0.out, HB0.out, WA0.out, WB0.out]
      have y1 := decS_nine A0 RA0.out.2
      have y2 := decS_nine B0 RB0.out.2

      go_wp2_with fail
      (with_reducible refine (dec_any A0 (by have := RA0.out; omega) _).mono ?_)
      rintro ee w9 ⟨rfl, n9, hw9⟩
      dsimp only
      have g9 : W8.grownBy w9 none := by rw [hw9]; exact ⟨rfl, rfl, rfl, Nat.le_refl _, fun _ _ _ => rfl⟩
      have H9 := Lib.hid (World.grownBy.trans H8.out g9)
      clear g9 hw9
      go_wp2_with fail
      (with_reducible refine (dec_any B0 (by have := RB0.out; omega) _).mono ?_)
      rintro ee w10 ⟨rfl, n10, hw10⟩
      dsimp only
      have g10 : w9.grownBy w10 none := by rw [hw10]; exact ⟨rfl, rfl, rfl, Nat.le_refl _, fun _ _ _ => rfl⟩
      have H10 := Lib.hid (World.grownBy.trans H9.out g10)
      clear g10 hw10
      by_cases hz : F = 0
      · have hf : (F == 0) = true := by simp [hz]
        have w9 : wrap64 (A0 - B0) = A0 - B0 := by have := RA0.out; have := RB0.out; unfold wrap64; omega
        have HW9 := Lib.hid w9
        clear w9
        go_wp2_with fail
        rw [HW9.out]
        (with_reducible refine (sign_any _ _).mono ?_)
        rintro ee w11 ⟨rfl, rfl⟩
        dsimp only
        go_wp2_with fail
        refine ⟨⟨0 + 1, by omega, rfl, congrArg Value.string (by rw [← HS.out]; rfl), congrArg Value.string (by rw [← HT.out]; rfl), congrArg (Value.int .i64) (first0_z _ _ _ (HF.out.trans hz)), H10.out⟩, by simp [intOf]⟩
      · have hf : (F == 0) = false := by simp [hz]
        go_wp2_with fail
        refine ⟨⟨0 + 1, by omega, rfl, congrArg Value.string (by rw [← HS.out]; rfl), congrArg Value.string (by rw [← HT.out]; rfl), congrArg (Value.int .i64) (HF.out.symm.trans (first0_n _ _ _ (fun e => hz (HF.out.symm.trans e)))), H10.out⟩, by simp [intOf]⟩
    · obtain ⟨S, hS⟩ : ∃ S, prefS A0 A1 A2 1 = S := ⟨_, rfl⟩
      obtain ⟨T, hT⟩ : ∃ S, prefS B0 B1 B2 1 = S := ⟨_, rfl⟩
      obtain ⟨F, hF⟩ : ∃ F, firstS (A0 - B0) (A1 - B1) (A2 - B2) 1 = F := ⟨_, rfl⟩
      rw [hS, hT, hF]
      have zS : S.size ≤ 100 := by rw [← hS]; exact pref_size A0 A1 A2 RA0.out.2 RA1.out.2 RA2.out.2 1
      have zT : T.size ≤ 100 := by rw [← hT]; exact pref_size B0 B1 B2 RB0.out.2 RB1.out.2 RB2.out.2 1
      have HS := Lib.hid hS
      have HT := Lib.hid hT
      have HF := Lib.hid hF
      have HG := Lib.hid hg
      clear hS hT hF hg hk
      go_wp2
      refine wp_region_quiet (C := fun w' => w0.grownBy w' none) (by kernel_rfl) (by kernel_rfl) (World.grownBy.trans HG.out ⟨rfl, rfl, rfl, Nat.le_refl _, fun _ _ _ => rfl⟩) ?_
      refine wpQuiet_step (fun K hK => ?_)
      go_simp
      refine ⟨_, fun W hW => rfl, hK _ ?_⟩
      clear hK K
      refine wpQuiet_step (fun K hK => ?_)
      go_simp
      refine ⟨_, fun W hW => rfl, hK _ ?_⟩
      clear hK K
      refine wpQuiet_step (fun K hK => ?_)
      go_simp
      refine ⟨.int .u32 a1, fun W hW => ?_, hK _ ?_⟩
      · rw [hW.cell c1 (by simp)]; exact ⟨rfl, rfl⟩
      clear hK K
      refine wpQuiet_step (fun K hK => ?_)
      go_simp
      refine ⟨_, fun W hW => rfl, hK _ ?_⟩
      clear hK K
      refine wpQuiet_step (fun K hK => ?_)
      go_simp
      refine ⟨_, fun W hW => rfl, hK _ ?_⟩
      clear hK K
      refine wpQuiet_step (fun K hK => ?_)
      go_simp
      refine ⟨_, fun W hW => rfl, hK _ ?_⟩
      clear hK K
      refine wpQuiet_step (fun K hK => ?_)
      go_simp
      refine ⟨_, fun W hW => rfl, hK _ ?_⟩
      clear hK K
      refine wpQuiet_step (fun K hK => ?_)
      go_simp
      refine ⟨.int .u32 b1, fun W hW => ?_, hK _ ?_⟩
      · rw [hW.cell d1 (by simp)]; exact ⟨rfl, rfl⟩
      clear hK K
      refine wpQuiet_step (fun K hK => ?_)
      go_simp
      refine ⟨_, fun W hW => rfl, hK _ ?_⟩
      clear hK K
      refine wpQuiet_step (fun K hK => ?_)
      go_simp
      refine ⟨_, fun W hW => rfl, hK _ ?_⟩
      clear hK K
      refine wpQuiet_step (fun K hK => ?_)
      go_simp
      refine ⟨_, fun W hW => rfl, hK _ ?_⟩
      clear hK K
      refine wpQuiet_step (fun K hK => ?_)
      go_simp
      refine ⟨_, fun W hW => rfl, hK _ ?_⟩
      clear hK K
      refine wpQuiet_nil ?_
      intro W8 hW8
      have H8 := Lib.hid hW8
      clear hW8
      rw [HA1.out, HB1.out, WA1.out, WB1.out]
      have y1 := decS_nine A1 RA1.out.2
      have y2 := decS_nine B1 RB1.out.2

      go_wp2_with fail
      (with_reducible refine (dec_any A1 (by have := RA1.out; omega) _).mono ?_)
      rintro ee w9 ⟨rfl, n9, hw9⟩
      dsimp only
      have g9 : W8.grownBy w9 none := by rw [hw9]; exact ⟨rfl, rfl, rfl, Nat.le_refl _, fun _ _ _ => rfl⟩
      have H9 := Lib.hid (World.grownBy.trans H8.out g9)
      clear g9 hw9
      go_wp2_with fail
      (with_reducible refine (dec_any B1 (by have := RB1.out; omega) _).mono ?_)
      rintro ee w10 ⟨rfl, n10, hw10⟩
      dsimp only
      have g10 : w9.grownBy w10 none := by rw [hw10]; exact ⟨rfl, rfl, rfl, Nat.le_refl _, fun _ _ _ => rfl⟩
      have H10 := Lib.hid (World.grownBy.trans H9.out g10)
      clear g10 hw10
      by_cases hz : F = 0
      · have hf : (F == 0) = true := by simp [hz]
        have w9 : wrap64 (A1 - B1) = A1 - B1 := by have := RA1.out; have := RB1.out; unfold wrap64; omega
        have HW9 := Lib.hid w9
        clear w9
        go_wp2_with fail
        rw [HW9.out]
        (with_reducible refine (sign_any _ _).mono ?_)
        rintro ee w11 ⟨rfl, rfl⟩
        dsimp only
        go_wp2_with fail
        refine ⟨⟨1 + 1, by omega, rfl, congrArg Value.string (by rw [← HS.out]; rfl), congrArg Value.string (by rw [← HT.out]; rfl), congrArg (Value.int .i64) (first1_z _ _ _ (HF.out.trans hz)), H10.out⟩, by simp [intOf]⟩
      · have hf : (F == 0) = false := by simp [hz]
        go_wp2_with fail
        refine ⟨⟨1 + 1, by omega, rfl, congrArg Value.string (by rw [← HS.out]; rfl), congrArg Value.string (by rw [← HT.out]; rfl), congrArg (Value.int .i64) (HF.out.symm.trans (first1_n _ _ _ (fun e => hz (HF.out.symm.trans e)))), H10.out⟩, by simp [intOf]⟩
    · obtain ⟨S, hS⟩ : ∃ S, prefS A0 A1 A2 2 = S := ⟨_, rfl⟩
      obtain ⟨T, hT⟩ : ∃ S, prefS B0 B1 B2 2 = S := ⟨_, rfl⟩
      obtain ⟨F, hF⟩ : ∃ F, firstS (A0 - B0) (A1 - B1) (A2 - B2) 2 = F := ⟨_, rfl⟩
      rw [hS, hT, hF]
      have zS : S.size ≤ 100 := by rw [← hS]; exact pref_size A0 A1 A2 RA0.out.2 RA1.out.2 RA2.out.2 2
      have zT : T.size ≤ 100 := by rw [← hT]; exact pref_size B0 B1 B2 RB0.out.2 RB1.out.2 RB2.out.2 2
      have HS := Lib.hid hS
      have HT := Lib.hid hT
      have HF := Lib.hid hF
      have HG := Lib.hid hg
      clear hS hT hF hg hk
      go_wp2
      refine wp_region_quiet (C := fun w' => w0.grownBy w' none) (by kernel_rfl) (by kernel_rfl) (World.grownBy.trans HG.out ⟨rfl, rfl, rfl, Nat.le_refl _, fun _ _ _ => rfl⟩) ?_
      refine wpQuiet_step (fun K hK => ?_)
      go_simp
      refine ⟨_, fun W hW => rfl, hK _ ?_⟩
      clear hK K
      refine wpQuiet_step (fun K hK => ?_)
      go_simp
      refine ⟨_, fun W hW => rfl, hK _ ?_⟩
      clear hK K
      refine wpQuiet_step (fun K hK => ?_)
      go_simp
      refine ⟨.int .u32 a2, fun W hW => ?_, hK _ ?_⟩
      · rw [hW.cell c2 (by simp)]; exact ⟨rfl, rfl⟩
      clear hK K
      refine wpQuiet_step (fun K hK => ?_)
      go_simp
      refine ⟨_, fun W hW => rfl, hK _ ?_⟩
      clear hK K
      refine wpQuiet_step (fun K hK => ?_)
      go_simp
      refine ⟨_, fun W hW => rfl, hK _ ?_⟩
      clear hK K
      refine wpQuiet_step (fun K hK => ?_)
      go_simp
      refine ⟨_, fun W hW => rfl, hK _ ?_⟩
      clear hK K
      refine wpQuiet_step (fun K hK => ?_)
      go_simp
      refine ⟨_, fun W hW => rfl, hK _ ?_⟩
      clear hK K
      refine wpQuiet_step (fun K hK => ?_)
      go_simp
      refine ⟨.int .u32 b2, fun W hW => ?_, hK _ ?_⟩
      · rw [hW.cell d2 (by simp)]; exact ⟨rfl, rfl⟩
      clear hK K
      refine wpQuiet_step (fun K hK => ?_)
      go_simp
      refine ⟨_, fun W hW => rfl, hK _ ?_⟩
      clear hK K
      refine wpQuiet_step (fun K hK => ?_)
      go_simp
      refine ⟨_, fun W hW => rfl, hK _ ?_⟩
      clear hK K
      refine wpQuiet_step (fun K hK => ?_)
      go_simp
      refine ⟨_, fun W hW => rfl, hK _ ?_⟩
      clear hK K
      refine wpQuiet_step (fun K hK => ?_)
      go_simp
      refine ⟨_, fun W hW => rfl, hK _ ?_⟩
      clear hK K
      refine wpQuiet_nil ?_
      intro W8 hW8
      have H8 := Lib.hid hW8
      clear hW8
      rw [HA2.out, HB2.out, WA2.out, WB2.out]
      have y1 := decS_nine A2 RA2.out.2
      have y2 := decS_nine B2 RB2.out.2

      go_wp2_with fail
      (with_reducible refine (dec_any A2 (by have := RA2.out; omega) _).mono ?_)
      rintro ee w9 ⟨rfl, n9, hw9⟩
      dsimp only
      have g9 : W8.grownBy w9 none := by rw [hw9]; exact ⟨rfl, rfl, rfl, Nat.le_refl _, fun _ _ _ => rfl⟩
      have H9 := Lib.hid (World.grownBy.trans H8.out g9)
      clear g9 hw9
      go_wp2_with fail
      (with_reducible refine (dec_any B2 (by have := RB2.out; omega) _).mono ?_)
      rintro ee w10 ⟨rfl, n10, hw10⟩
      dsimp only
      have g10 : w9.grownBy w10 none := by rw [hw10]; exact ⟨rfl, rfl, rfl, Nat.le_refl _, fun _ _ _ => rfl⟩
      have H10 := Lib.hid (World.grownBy.trans H9.out g10)
      clear g10 hw10
      by_cases hz : F = 0
      · have hf : (F == 0) = true := by simp [hz]
        have w9 : wrap64 (A2 - B2) = A2 - B2 := by have := RA2.out; have := RB2.out; unfold wrap64; omega
        have HW9 := Lib.hid w9
        clear w9
        go_wp2_with fail
        rw [HW9.out]
        (with_reducible refine (sign_any _ _).mono ?_)
        rintro ee w11 ⟨rfl, rfl⟩
        dsimp only
        go_wp2_with fail
        refine ⟨⟨2 + 1, by omega, rfl, congrArg Value.string (by rw [← HS.out]; rfl), congrArg Value.string (by rw [← HT.out]; rfl), congrArg (Value.int .i64) (first2_z _ _ _ (HF.out.trans hz)), H10.out⟩, by simp [intOf]⟩
      · have hf : (F == 0) = false := by simp [hz]
        go_wp2_with fail
        refine ⟨⟨2 + 1, by omega, rfl, congrArg Value.string (by rw [← HS.out]; rfl), congrArg Value.string (by rw [← HT.out]; rfl), congrArg (Value.int .i64) (HF.out.symm.trans (first2_n _ _ _ (fun e => hz (HF.out.symm.trans e)))), H10.out⟩, by simp [intOf]⟩
    · have eS : prefS A0 A1 A2 3 = numsS A0 A1 A2 := (numsS_eq A0 A1 A2).symm
      have eT : prefS B0 B1 B2 3 = numsS B0 B1 B2 := (numsS_eq B0 B1 B2).symm
      obtain ⟨S, hS⟩ : ∃ S, prefS A0 A1 A2 3 = S := ⟨_, rfl⟩
      obtain ⟨T, hT⟩ : ∃ S, prefS B0 B1 B2 3 = S := ⟨_, rfl⟩
      obtain ⟨F, hF⟩ : ∃ F, firstS (A0 - B0) (A1 - B1) (A2 - B2) 3 = F := ⟨_, rfl⟩
      rw [hS, hT, hF]
      have zS : S.size ≤ 100 := by rw [← hS]; exact pref_size A0 A1 A2 RA0.out.2 RA1.out.2 RA2.out.2 3
      have zT : T.size ≤ 100 := by rw [← hT]; exact pref_size B0 B1 B2 RB0.out.2 RB1.out.2 RB2.out.2 3
      have ZS := Lib.hid zS
      have ZT := Lib.hid zT
      have zO : (⟨#[48]⟩ : ByteArray).size = 1 := rfl
      have ZO : Hid (((⟨#[48]⟩ : ByteArray) ++ S).size ≤ 2000000) := by
        show _ ≤ _
        rw [ByteArray.size_append, zO]; omega
      clear zO
      have HP1 : Hid (parseS S = (⟨A0, A1, A2, []⟩, 0)) := by
        show _ = _
        rw [← hS, eS]; exact nums_parse A0 A1 A2 RA0.out RA1.out RA2.out
      have HP2 : Hid (parseS T = (⟨B0, B1, B2, []⟩, 0)) := by
        show _ = _
        rw [← hT, eT]; exact nums_parse B0 B1 B2 RB0.out RB1.out RB2.out
      have HP3 : Hid (parseS ((⟨#[48]⟩ : ByteArray) ++ S) = (zeroV, 60)) := by
        show _ = _
        rw [← hS, eS]; exact nums_zero A0 A1 A2 RA0.out RA1.out RA2.out
      have HK : Hid (cmpV ⟨A0, A1, A2, []⟩ ⟨B0, B1, B2, []⟩ = F) := (first_cmp A0 A1 A2 B0 B1 B2).trans hF
      have HG := Lib.hid hg
      clear hS hT hF eS eT hg hk zT ha0 ha1 ha2 hb0 hb1 hb2 c0 c1 c2 d0 d1 d2
      go_wp2_with fail
      (with_reducible refine (parse_at m _ ⟨A0, A1, A2, []⟩ 0 0 _ (by have := ZS.out; omega) (HM.out.stays (World.grownBy.trans GW0.out HG.out)) HP1.out rfl).mono ?_)
      rintro ee w1 ⟨ad1, cp1, rfl, hc1, hp1, g1⟩
      dsimp only
      have G1 := Lib.hid (World.grownBy.trans (World.grownBy.trans GW0.out HG.out) g1)
      have P1 := Lib.hid hp1
      have E1 := Lib.hid (show verV ⟨A0, A1, A2, []⟩ (.slice ad1 0 cp1) = .agg #[.int .i64 A0, .int .i64 A1, .int .i64 A2, .slice ad1 0 cp1] from rfl)
      rw [E1.out]
      clear g1 hp1 hc1
      have G1a := Lib.hid (grown_alloc (.cells #[.int .i64 A0, .int .i64 A1, .int .i64 A2, .slice ad1 0 cp1] 25) G1.out)
      have BL1 := Lib.hid (alloc_block w1 (.cells #[.int .i64 A0, .int .i64 A1, .int .i64 A2, .slice ad1 0 cp1] 25))
      go_wp2_with fail
      (with_reducible refine (parse_at m _ ⟨B0, B1, B2, []⟩ 0 0 _ (by have := ZT.out; omega) (HM.out.stays G1a.out) HP2.out rfl).mono ?_)
      rintro ee w2 ⟨ad2, cp2, rfl, hc2, hp2, g2⟩
      dsimp only
      have S2 := Lib.hid g2
      have G2 := Lib.hid (World.grownBy.trans G1a.out g2)
      have P2 := Lib.hid hp2
      have E2 := Lib.hid (show verV ⟨B0, B1, B2, []⟩ (.slice ad2 0 cp2) = .agg #[.int .i64 B0, .int .i64 B1, .int .i64 B2, .slice ad2 0 cp2] from rfl)
      rw [E2.out]
      clear g2 hp2 hc2
      have G2a := Lib.hid (grown_alloc (.cells #[.int .i64 B0, .int .i64 B1, .int .i64 B2, .slice ad2 0 cp2] 25) G2.out)
      have B2k := Lib.hid (alloc_block w2 (.cells #[.int .i64 B0, .int .i64 B1, .int .i64 B2, .slice ad2 0 cp2] 25))
      go_wp2_with fail
      (with_reducible refine (parse_at m _ zeroV 60 0 _ ZO.out (HM.out.stays G2a.out) HP3.out rfl).mono ?_)
      rintro ee w3 ⟨ad3, cp3, rfl, hc3, hp3, g3⟩
      dsimp only
      have S3 := Lib.hid g3
      have G3 := Lib.hid (World.grownBy.trans G2a.out g3)
      have E3 := Lib.hid (show verV zeroV (.slice ad3 0 cp3) = .agg #[.int .i64 0, .int .i64 0, .int .i64 0, .slice ad3 0 cp3] from rfl)
      rw [E3.out]
      clear g3 hp3 hc3
      have s3 := World.grownBy_alloc w3 (.cells #[.int .i64 0, .int .i64 0, .int .i64 0, .slice ad3 0 cp3] 25) none
      obtain ⟨W, hW⟩ : ∃ W, w3.alloc (.cells #[.int .i64 0, .int .i64 0, .int .i64 0, .slice ad3 0 cp3] 25) = W := ⟨_, rfl⟩
      rw [hW] at s3
      have T2 := Lib.hid (World.grownBy.trans S3.out s3)
      have T1 := Lib.hid (World.grownBy.trans (World.grownBy.trans S2.out (World.grownBy_alloc w2 (.cells #[.int .i64 B0, .int .i64 B1, .int .i64 B2, .slice ad2 0 cp2] 25) none)) T2.out)
      have GW := Lib.hid (World.grownBy.trans G3.out s3)
      have HWW := Lib.hid hW
      have L1 := Lib.hid (block_kept BL1.out T1.out)
      have L2 := Lib.hid (block_kept B2k.out T2.out)
      have R1 := Lib.hid (parse_read S _ HP1.out)
      have R2 := Lib.hid (parse_read T _ HP2.out)
      have A1h : Hid (∀ W', W.grownBy W' none → VerAt W' w1.heap.size ⟨A0, A1, A2, []⟩ (.slice ad1 0 cp1)) := fun W' hg =>
        R1.out.at (((P1.out.stays (World.grownBy_alloc w1 (.cells #[.int .i64 A0, .int .i64 A1, .int .i64 A2, .slice ad1 0 cp1] 25) none)).stays T1.out).stays hg)
      have A2h : Hid (∀ W', W.grownBy W' none → VerAt W' w2.heap.size ⟨B0, B1, B2, []⟩ (.slice ad2 0 cp2)) := fun W' hg =>
        R2.out.at (((P2.out.stays (World.grownBy_alloc w2 (.cells #[.int .i64 B0, .int .i64 B1, .int .i64 B2, .slice ad2 0 cp2] 25) none)).stays T2.out).stays hg)
      obtain ⟨b10, b11, b12, b13⟩ := ver_block L1.out (World.grownBy.refl _ _)
      obtain ⟨b20, b21, b22, b23⟩ := ver_block L2.out (World.grownBy.refl _ _)
      rw [← hW] at b10 b11 b12 b13 b20 b21 b22 b23
      clear hW s3 E1 E2 E3
      go_wp2_with fail
      rw [HWW.out]
      clear b10 b11 b12 b13 b20 b21 b22 b23
      refine (text_at m _ ⟨A0, A1, A2, []⟩ _ S _ (HM.out.stays GW.out) (Nat.le_of_lt (block_size L1.out)) (A1h.out _ (World.grownBy.refl _ _)) R1.out.text).mono ?_
      rintro ee w6 ⟨rfl, g6⟩
      dsimp only
      have G6 := Lib.hid g6
      clear g6
      obtain ⟨b10, b11, b12, b13⟩ := ver_block L1.out G6.out
      obtain ⟨b20, b21, b22, b23⟩ := ver_block L2.out G6.out
      go_wp2_with fail
      clear b10 b11 b12 b13 b20 b21 b22 b23
      refine (cmp_at _ _ ⟨A0, A1, A2, []⟩ ⟨B0, B1, B2, []⟩ _ _ F _ (A1h.out _ G6.out) (A2h.out _ G6.out) HK.out).mono ?_
      rintro ee w7 ⟨rfl, g7⟩
      dsimp only
      have G7 := Lib.hid (World.grownBy.trans G6.out g7)
      clear g7
      go_wp2
      go_ret
      exact ⟨by simp, World.grownBy.trans GW.out G7.out⟩
end Go.Proofs.YtkngfkjnohbbiaaDoor
