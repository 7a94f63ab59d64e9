/- Versions held against one another: as the reference does it. -/
import Derived.Test.YtkngfkjnohbbiaaDoorVo
namespace Go.Proofs.YtkngfkjnohbbiaaDoor
open Go.RowKit

theorem cmpMs_nil (L M : List ByteArray) (h : L = [] ∨ M = []) : cmpMs L M = Lib.compareInt (M.length : Int) (L.length : Int) * oneI (!decide ((L.length : Int) = (M.length : Int))) := by
  unfold cmpMs
  rw [if_pos h]
  have key : ∀ n : Nat, Lib.compareInt ((min n 1 : Nat) : Int) ((min 0 1 : Nat) : Int) = Lib.compareInt (n : Int) 0 * oneI (!decide ((0 : Int) = (n : Int))) ∧ Lib.compareInt ((min 0 1 : Nat) : Int) ((min n 1 : Nat) : Int) = Lib.compareInt 0 (n : Int) * oneI (!decide ((n : Int) = 0)) := by
    intro n
    cases n with
    | zero => exact ⟨by decide, by decide⟩
    | succ n =>
      have h1 : min (n + 1) 1 = 1 := by omega
      rw [h1]
      unfold Lib.compareInt oneI
      constructor
      · rw [if_neg (by omega), if_pos (by omega), if_neg (by omega), if_pos (by omega)]
        rw [decide_eq_false (by omega)]; rfl
      · rw [if_pos (by omega), if_pos (by omega)]
        rw [decide_eq_false (by omega)]; rfl
  rcases h with rfl | rfl
  · exact (key M.length).1
  · exact (key L.length).2
theorem orL_first (p : Int) (r : List Int) (h : ¬ p = 0) : orL (p :: r) = p := if_neg h
theorem orL_next (r : List Int) : orL (0 :: r) = orL r := if_pos rfl
theorem orL_one (p : Int) : orL [p] = p := by
  show (if p = 0 then 0 else p) = p
  by_cases h : p = 0
  · rw [if_pos h, h]
  · rw [if_neg h]

set_option maxRecDepth 1000000
set_option maxHeartbeats 8000000 in
theorem refCmpV_any (B C : Nat) (u v : Vn) (su sv : Value) (w : World) (hu : VerAt w B u su) (hv : VerAt w C v sv) :
    Calls Tryd.prog 17 #[verV u su, verV v sv] w fun e w' => e = .returned (.int .i64 (cmpV u v)) ∧ w.grownBy w' none := by
  obtain ⟨a, b, c, pu⟩ := u
  obtain ⟨d, f, g, pv⟩ := v
  obtain ⟨ad, cap, hsl, hcap, hno⟩ := hu.part.form
  subst hsl
  obtain ⟨ad2, cap2, hsl, hcap2, hno2⟩ := hv.part.form
  subst hsl
  simp only at hcap hcap2 hno hno2
  obtain ⟨n1, hn1⟩ : ∃ n, pu.length = n := ⟨_, rfl⟩
  obtain ⟨n2, hn2⟩ : ∃ n, pv.length = n := ⟨_, rfl⟩
  have HN1 := Lib.hid hn1
  have HN2 := Lib.hid hn2
  have HU := Lib.hid hu
  have HV := Lib.hid hv
  unfold verV
  simp only
  rw [hn1, hn2]
  rw [hn1] at hcap
  rw [hn2] at hcap2
  have hb1000 : n1 ≤ 8000000 := by have := hu.few; simp only at this; omega
  have hb2000 : n2 ≤ 8000000 := by have := hv.few; simp only at this; omega
  clear hu hv hn1 hn2 hno hno2
  obtain ⟨R, W0, hR, hW0, hb1, hb2, hg0⟩ := two_boxes w (.int .i64 a) (.int .i64 b) (.int .i64 c) (.slice ad n1 cap) (.int .i64 d) (.int .i64 f) (.int .i64 g) (.slice ad2 n2 cap2)
  have HG0 := Lib.hid hg0
  have HWA := Lib.hid hW0
  obtain ⟨c0, _⟩ := block_cell hb1 0 _ rfl
  obtain ⟨c1, _⟩ := block_cell hb1 1 _ rfl
  obtain ⟨c2, _⟩ := block_cell hb1 2 _ rfl
  obtain ⟨c3, _⟩ := block_cell hb1 3 _ rfl
  obtain ⟨d0, _⟩ := block_cell hb2 0 _ rfl
  obtain ⟨d1, _⟩ := block_cell hb2 1 _ rfl
  obtain ⟨d2, _⟩ := block_cell hb2 2 _ rfl
  obtain ⟨d3, _⟩ := block_cell hb2 3 _ rfl
  have C3 := Lib.hid c3
  have D3 := Lib.hid d3
  have HP1 := Lib.hid (show PartS W0 B (.slice ad n1 cap) pu by rw [← HN1.out]; exact HU.out.part.stays HG0.out)
  have HP2 := Lib.hid (show PartS W0 C (.slice ad2 n2 cap2) pv by rw [← HN2.out]; exact HV.out.part.stays HG0.out)
  have e : Hid (cmpV ⟨a, b, c, pu⟩ ⟨d, f, g, pv⟩ = orL [Lib.compareInt a d, Lib.compareInt b f, Lib.compareInt c g, cmpMs pu pv]) := rfl
  have K0 := Lib.hid (fun w => refCmp_any a d w)
  have K1 := Lib.hid (fun w => refCmp_any b f w)
  have K2 := Lib.hid (fun w => refCmp_any c g w)
  obtain ⟨p0, h0⟩ : ∃ p, Lib.compareInt a d = p := ⟨_, rfl⟩
  obtain ⟨p1, h1⟩ : ∃ p, Lib.compareInt b f = p := ⟨_, rfl⟩
  obtain ⟨p2, h2⟩ : ∃ p, Lib.compareInt c g = p := ⟨_, rfl⟩
  rw [h0, h1, h2] at e
  rw [h0] at K0
  rw [h1] at K1
  rw [h2] at K2
  clear h0 h1 h2 hb1 hb2 hg0 hW0
  go_enter Tryd.func17, Tryd.ntmps17
  go_wp2_with fail
  rw [HWA.out]
  (with_reducible refine (K0.out _).mono ?_)
  rintro ee w' ⟨rfl, hw'⟩
  rw [hw']
  clear hw' w'
  dsimp only
  by_cases z0 : p0 = 0
  · subst z0
    rw [orL_next] at e
    go_wp2_with fail
    (with_reducible refine (K1.out _).mono ?_)
    rintro ee w' ⟨rfl, hw'⟩
    rw [hw']
    clear hw' w'
    dsimp only
    by_cases z1 : p1 = 0
    · subst z1
      rw [orL_next] at e
      go_wp2_with fail
      (with_reducible refine (K2.out _).mono ?_)
      rintro ee w' ⟨rfl, hw'⟩
      rw [hw']
      clear hw' w'
      dsimp only
      by_cases z2 : p2 = 0
      · subst z2
        rw [orL_next, orL_one] at e
        by_cases hnil : n1 = 0 ∨ n2 = 0
        · have e2 : Hid (cmpV ⟨a, b, c, pu⟩ ⟨d, f, g, pv⟩ = Lib.compareInt (n2 : Int) (n1 : Int) * oneI (!decide ((n1 : Int) = (n2 : Int)))) := by
            show _ = _
            have h1 := HN1.out
            have h2 := HN2.out
            rw [e.out, cmpMs_nil pu pv (by
              rcases hnil with h | h
              · exact .inl (List.eq_nil_of_length_eq_zero (by omega))
              · exact .inr (List.eq_nil_of_length_eq_zero (by omega))), h1, h2]
          have hways : (n1 = 0 ∧ n2 = 0) ∨ (n1 = 0 ∧ 0 < n2) ∨ (0 < n1 ∧ n2 = 0) := by omega
          clear hnil
          rcases hways with ⟨h1, h2⟩ | ⟨h1, h2⟩ | ⟨h1, h2⟩
          · subst h1 h2
            have hC0 : W0.grownBy { W0 with drawn := W0.drawn + 1 } none := ⟨rfl, rfl, rfl, Nat.le_refl _, fun _ _ _ => rfl⟩
            have hci : ∀ W, W0.grownBy W none → Calls Tryd.prog 37 #[.int .i64 0, .int .i64 0] W fun e w' => e = .returned (.int .i64 (0)) ∧ W0.grownBy w' none :=
              fun W hW => (refCmp_any _ _ W).mono fun e w' h => ⟨h.1.trans (by rfl), by rw [h.2]; exact hW⟩
            have hoi : ∀ W, W0.grownBy W none → Calls Tryd.prog 38 #[.bool false] W fun e w' => e = .returned (.int .i64 0) ∧ W0.grownBy w' none :=
              fun W hW => (refOne_any _ W).mono fun e w' h => ⟨h.1, by rw [h.2]; exact hW⟩
            go_wp2
            refine wp_region_quiet (C := fun w' => W0.grownBy w' none) (by kernel_rfl) (by kernel_rfl) hC0 ?_
            refine wpQuiet_step (fun K hK => ?_)
            go_simp
            first | (refine ⟨_, fun W hW => rfl, hK _ ?_⟩) | (refine ⟨_, fun W hW => ⟨rfl, rfl⟩, hK _ ?_⟩)
            clear hK K
            refine wpQuiet_step (fun K hK => ?_)
            go_simp
            refine ⟨.slice ad2 0 cap2, fun W hW => ?_, hK _ ?_⟩
            · rw [hW.cell d3 (by simp)]; exact ⟨rfl, rfl⟩
            clear hK K
            refine wpQuiet_step (fun K hK => ?_)
            go_simp
            first | (refine ⟨_, fun W hW => rfl, hK _ ?_⟩) | (refine ⟨_, fun W hW => ⟨rfl, rfl⟩, hK _ ?_⟩)
            clear hK K
            refine wpQuiet_step (fun K hK => ?_)
            go_simp
            first | (refine ⟨_, fun W hW => rfl, hK _ ?_⟩) | (refine ⟨_, fun W hW => ⟨rfl, rfl⟩, hK _ ?_⟩)
            clear hK K
            refine wpQuiet_step (fun K hK => ?_)
            go_simp
            refine ⟨.slice ad 0 cap, fun W hW => ?_, hK _ ?_⟩
            · rw [hW.cell c3 (by simp)]; exact ⟨rfl, rfl⟩
            clear hK K
            refine wpQuiet_step (fun K hK => ?_)
            go_simp
            first | (refine ⟨_, fun W hW => rfl, hK _ ?_⟩) | (refine ⟨_, fun W hW => ⟨rfl, rfl⟩, hK _ ?_⟩)
            clear hK K
            refine wpQuiet_step (fun K hK => ?_)
            go_simp
            refine ⟨.int .i64 (0), fun W hW => hci W hW, hK _ ?_⟩
            clear hK K
            refine wpQuiet_step (fun K hK => ?_)
            go_simp
            first | (refine ⟨_, fun W hW => rfl, hK _ ?_⟩) | (refine ⟨_, fun W hW => ⟨rfl, rfl⟩, hK _ ?_⟩)
            clear hK K
            refine wpQuiet_step (fun K hK => ?_)
            go_simp
            refine ⟨.slice ad 0 cap, fun W hW => ?_, hK _ ?_⟩
            · rw [hW.cell c3 (by simp)]; exact ⟨rfl, rfl⟩
            clear hK K
            refine wpQuiet_step (fun K hK => ?_)
            go_simp
            first | (refine ⟨_, fun W hW => rfl, hK _ ?_⟩) | (refine ⟨_, fun W hW => ⟨rfl, rfl⟩, hK _ ?_⟩)
            clear hK K
            refine wpQuiet_step (fun K hK => ?_)
            go_simp
            first | (refine ⟨_, fun W hW => rfl, hK _ ?_⟩) | (refine ⟨_, fun W hW => ⟨rfl, rfl⟩, hK _ ?_⟩)
            clear hK K
            refine wpQuiet_step (fun K hK => ?_)
            go_simp
            refine ⟨.slice ad2 0 cap2, fun W hW => ?_, hK _ ?_⟩
            · rw [hW.cell d3 (by simp)]; exact ⟨rfl, rfl⟩
            clear hK K
            refine wpQuiet_step (fun K hK => ?_)
            go_simp
            first | (refine ⟨_, fun W hW => rfl, hK _ ?_⟩) | (refine ⟨_, fun W hW => ⟨rfl, rfl⟩, hK _ ?_⟩)
            clear hK K
            refine wpQuiet_step (fun K hK => ?_)
            go_simp
            refine ⟨.bool false, fun W hW => by first | rfl | (simp; omega), hK _ ?_⟩
            clear hK K
            refine wpQuiet_step (fun K hK => ?_)
            go_simp
            refine ⟨.int .i64 0, fun W hW => hoi W hW, hK _ ?_⟩
            clear hK K
            refine wpQuiet_step (fun K hK => ?_)
            go_simp
            first | (refine ⟨_, fun W hW => rfl, hK _ ?_⟩) | (refine ⟨_, fun W hW => ⟨rfl, rfl⟩, hK _ ?_⟩)
            clear hK K
            refine wpQuiet_step (fun K hK => ?_)
            go_simp
            first | (refine ⟨_, fun W hW => rfl, hK _ ?_⟩) | (refine ⟨_, fun W hW => ⟨rfl, rfl⟩, hK _ ?_⟩)
            clear hK K
            refine wpQuiet_nil ?_
            intro W hW
            have HGW := Lib.hid (World.grownBy.trans HG0.out hW)
            have e3 : Hid (cmpV ⟨a, b, c, pu⟩ ⟨d, f, g, pv⟩ = 0) := by
              show _ = _
              rw [e2.out]
              rfl
            clear hW hci hoi
            go_wp2
            go_ret
            exact ⟨by rw [e3.out]; rfl, HGW.out⟩
          · subst h1
            have NE : ¬ (0 : Int) = (n2 : Int) := by omega
            have hci1 : Lib.compareInt (n2 : Int) 0 = 1 := by unfold Lib.compareInt; rw [if_neg (by omega), if_pos (by omega)]
            have HCI := Lib.hid hci1
            clear hci1
            have hC0 : W0.grownBy { W0 with drawn := W0.drawn + 1 } none := ⟨rfl, rfl, rfl, Nat.le_refl _, fun _ _ _ => rfl⟩
            have hci : ∀ W, W0.grownBy W none → Calls Tryd.prog 37 #[.int .i64 (n2 : Int), .int .i64 0] W fun e w' => e = .returned (.int .i64 (1)) ∧ W0.grownBy w' none :=
              fun W hW => (refCmp_any _ _ W).mono fun e w' h => ⟨h.1.trans (by rw [HCI.out]), by rw [h.2]; exact hW⟩
            have hoi : ∀ W, W0.grownBy W none → Calls Tryd.prog 38 #[.bool true] W fun e w' => e = .returned (.int .i64 1) ∧ W0.grownBy w' none :=
              fun W hW => (refOne_any _ W).mono fun e w' h => ⟨h.1, by rw [h.2]; exact hW⟩
            go_wp2
            refine wp_region_quiet (C := fun w' => W0.grownBy w' none) (by kernel_rfl) (by kernel_rfl) hC0 ?_
            refine wpQuiet_step (fun K hK => ?_)
            go_simp
            first | (refine ⟨_, fun W hW => rfl, hK _ ?_⟩) | (refine ⟨_, fun W hW => ⟨rfl, rfl⟩, hK _ ?_⟩)
            clear hK K
            refine wpQuiet_step (fun K hK => ?_)
            go_simp
            refine ⟨.slice ad2 n2 cap2, fun W hW => ?_, hK _ ?_⟩
            · rw [hW.cell d3 (by simp)]; exact ⟨rfl, rfl⟩
            clear hK K
            refine wpQuiet_step (fun K hK => ?_)
            go_simp
            first | (refine ⟨_, fun W hW => rfl, hK _ ?_⟩) | (refine ⟨_, fun W hW => ⟨rfl, rfl⟩, hK _ ?_⟩)
            clear hK K
            refine wpQuiet_step (fun K hK => ?_)
            go_simp
            first | (refine ⟨_, fun W hW => rfl, hK _ ?_⟩) | (refine ⟨_, fun W hW => ⟨rfl, rfl⟩, hK _ ?_⟩)
            clear hK K
            refine wpQuiet_step (fun K hK => ?_)
            go_simp
            refine ⟨.slice ad 0 cap, fun W hW => ?_, hK _ ?_⟩
            · rw [hW.cell c3 (by simp)]; exact ⟨rfl, rfl⟩
            clear hK K
            refine wpQuiet_step (fun K hK => ?_)
            go_simp
            first | (refine ⟨_, fun W hW => rfl, hK _ ?_⟩) | (refine ⟨_, fun W hW => ⟨rfl, rfl⟩, hK _ ?_⟩)
            clear hK K
            refine wpQuiet_step (fun K hK => ?_)
            go_simp
            refine ⟨.int .i64 (1), fun W hW => hci W hW, hK _ ?_⟩
            clear hK K
            refine wpQuiet_step (fun K hK => ?_)
            go_simp
            first | (refine ⟨_, fun W hW => rfl, hK _ ?_⟩) | (refine ⟨_, fun W hW => ⟨rfl, rfl⟩, hK _ ?_⟩)
            clear hK K
            refine wpQuiet_step (fun K hK => ?_)
            go_simp
            refine ⟨.slice ad 0 cap, fun W hW => ?_, hK _ ?_⟩
            · rw [hW.cell c3 (by simp)]; exact ⟨rfl, rfl⟩
            clear hK K
            refine wpQuiet_step (fun K hK => ?_)
            go_simp
            first | (refine ⟨_, fun W hW => rfl, hK _ ?_⟩) | (refine ⟨_, fun W hW => ⟨rfl, rfl⟩, hK _ ?_⟩)
            clear hK K
            refine wpQuiet_step (fun K hK => ?_)
            go_simp
            first | (refine ⟨_, fun W hW => rfl, hK _ ?_⟩) | (refine ⟨_, fun W hW => ⟨rfl, rfl⟩, hK _ ?_⟩)
            clear hK K
            refine wpQuiet_step (fun K hK => ?_)
            go_simp
            refine ⟨.slice ad2 n2 cap2, fun W hW => ?_, hK _ ?_⟩
            · rw [hW.cell d3 (by simp)]; exact ⟨rfl, rfl⟩
            clear hK K
            refine wpQuiet_step (fun K hK => ?_)
            go_simp
            first | (refine ⟨_, fun W hW => rfl, hK _ ?_⟩) | (refine ⟨_, fun W hW => ⟨rfl, rfl⟩, hK _ ?_⟩)
            clear hK K
            refine wpQuiet_step (fun K hK => ?_)
            go_simp
            refine ⟨.bool true, fun W hW => by first | rfl | (simp; omega), hK _ ?_⟩
            clear hK K
            refine wpQuiet_step (fun K hK => ?_)
            go_simp
            refine ⟨.int .i64 1, fun W hW => hoi W hW, hK _ ?_⟩
            clear hK K
            refine wpQuiet_step (fun K hK => ?_)
            go_simp
            first | (refine ⟨_, fun W hW => rfl, hK _ ?_⟩) | (refine ⟨_, fun W hW => ⟨rfl, rfl⟩, hK _ ?_⟩)
            clear hK K
            refine wpQuiet_step (fun K hK => ?_)
            go_simp
            first | (refine ⟨_, fun W hW => rfl, hK _ ?_⟩) | (refine ⟨_, fun W hW => ⟨rfl, rfl⟩, hK _ ?_⟩)
            clear hK K
            refine wpQuiet_nil ?_
            intro W hW
            have HGW := Lib.hid (World.grownBy.trans HG0.out hW)
            have e3 : Hid (cmpV ⟨a, b, c, pu⟩ ⟨d, f, g, pv⟩ = 1) := by
              show _ = _
              rw [e2.out]
              rw [show ((0 : Nat) : Int) = 0 from rfl, HCI.out, decide_eq_false NE]; rfl
            clear hW hci hoi
            go_wp2
            go_ret
            exact ⟨by rw [e3.out]; rfl, HGW.out⟩
          · subst h2
            have NE : ¬ (n1 : Int) = 0 := by omega
            have NE2 : ((n1 : Int) == 0) = false := by simp; omega
            have hci1 : Lib.compareInt 0 (n1 : Int) = -1 := by unfold Lib.compareInt; rw [if_pos (by omega)]
            have HCI := Lib.hid hci1
            clear hci1
            have hC0 : W0.grownBy { W0 with drawn := W0.drawn + 1 } none := ⟨rfl, rfl, rfl, Nat.le_refl _, fun _ _ _ => rfl⟩
            have hci : ∀ W, W0.grownBy W none → Calls Tryd.prog 37 #[.int .i64 0, .int .i64 (n1 : Int)] W fun e w' => e = .returned (.int .i64 (-1)) ∧ W0.grownBy w' none :=
              fun W hW => (refCmp_any _ _ W).mono fun e w' h => ⟨h.1.trans (by rw [HCI.out]), by rw [h.2]; exact hW⟩
            have hoi : ∀ W, W0.grownBy W none → Calls Tryd.prog 38 #[.bool true] W fun e w' => e = .returned (.int .i64 1) ∧ W0.grownBy w' none :=
              fun W hW => (refOne_any _ W).mono fun e w' h => ⟨h.1, by rw [h.2]; exact hW⟩
            go_wp2
            refine wp_region_quiet (C := fun w' => W0.grownBy w' none) (by kernel_rfl) (by kernel_rfl) hC0 ?_
            refine wpQuiet_step (fun K hK => ?_)
            go_simp
            first | (refine ⟨_, fun W hW => rfl, hK _ ?_⟩) | (refine ⟨_, fun W hW => ⟨rfl, rfl⟩, hK _ ?_⟩)
            clear hK K
            refine wpQuiet_step (fun K hK => ?_)
            go_simp
            refine ⟨.slice ad2 0 cap2, fun W hW => ?_, hK _ ?_⟩
            · rw [hW.cell d3 (by simp)]; exact ⟨rfl, rfl⟩
            clear hK K
            refine wpQuiet_step (fun K hK => ?_)
            go_simp
            first | (refine ⟨_, fun W hW => rfl, hK _ ?_⟩) | (refine ⟨_, fun W hW => ⟨rfl, rfl⟩, hK _ ?_⟩)
            clear hK K
            refine wpQuiet_step (fun K hK => ?_)
            go_simp
            first | (refine ⟨_, fun W hW => rfl, hK _ ?_⟩) | (refine ⟨_, fun W hW => ⟨rfl, rfl⟩, hK _ ?_⟩)
            clear hK K
            refine wpQuiet_step (fun K hK => ?_)
            go_simp
            refine ⟨.slice ad n1 cap, fun W hW => ?_, hK _ ?_⟩
            · rw [hW.cell c3 (by simp)]; exact ⟨rfl, rfl⟩
            clear hK K
            refine wpQuiet_step (fun K hK => ?_)
            go_simp
            first | (refine ⟨_, fun W hW => rfl, hK _ ?_⟩) | (refine ⟨_, fun W hW => ⟨rfl, rfl⟩, hK _ ?_⟩)
            clear hK K
            refine wpQuiet_step (fun K hK => ?_)
            go_simp
            refine ⟨.int .i64 (-1), fun W hW => hci W hW, hK _ ?_⟩
            clear hK K
            refine wpQuiet_step (fun K hK => ?_)
            go_simp
            first | (refine ⟨_, fun W hW => rfl, hK _ ?_⟩) | (refine ⟨_, fun W hW => ⟨rfl, rfl⟩, hK _ ?_⟩)
            clear hK K
            refine wpQuiet_step (fun K hK => ?_)
            go_simp
            refine ⟨.slice ad n1 cap, fun W hW => ?_, hK _ ?_⟩
            · rw [hW.cell c3 (by simp)]; exact ⟨rfl, rfl⟩
            clear hK K
            refine wpQuiet_step (fun K hK => ?_)
            go_simp
            first | (refine ⟨_, fun W hW => rfl, hK _ ?_⟩) | (refine ⟨_, fun W hW => ⟨rfl, rfl⟩, hK _ ?_⟩)
            clear hK K
            refine wpQuiet_step (fun K hK => ?_)
            go_simp
            first | (refine ⟨_, fun W hW => rfl, hK _ ?_⟩) | (refine ⟨_, fun W hW => ⟨rfl, rfl⟩, hK _ ?_⟩)
            clear hK K
            refine wpQuiet_step (fun K hK => ?_)
            go_simp
            refine ⟨.slice ad2 0 cap2, fun W hW => ?_, hK _ ?_⟩
            · rw [hW.cell d3 (by simp)]; exact ⟨rfl, rfl⟩
            clear hK K
            refine wpQuiet_step (fun K hK => ?_)
            go_simp
            first | (refine ⟨_, fun W hW => rfl, hK _ ?_⟩) | (refine ⟨_, fun W hW => ⟨rfl, rfl⟩, hK _ ?_⟩)
            clear hK K
            refine wpQuiet_step (fun K hK => ?_)
            go_simp
            refine ⟨.bool true, fun W hW => by first | rfl | (simp; omega), hK _ ?_⟩
            clear hK K
            refine wpQuiet_step (fun K hK => ?_)
            go_simp
            refine ⟨.int .i64 1, fun W hW => hoi W hW, hK _ ?_⟩
            clear hK K
            refine wpQuiet_step (fun K hK => ?_)
            go_simp
            first | (refine ⟨_, fun W hW => rfl, hK _ ?_⟩) | (refine ⟨_, fun W hW => ⟨rfl, rfl⟩, hK _ ?_⟩)
            clear hK K
            refine wpQuiet_step (fun K hK => ?_)
            go_simp
            first | (refine ⟨_, fun W hW => rfl, hK _ ?_⟩) | (refine ⟨_, fun W hW => ⟨rfl, rfl⟩, hK _ ?_⟩)
            clear hK K
            refine wpQuiet_nil ?_
            intro W hW
            have HGW := Lib.hid (World.grownBy.trans HG0.out hW)
            have e3 : Hid (cmpV ⟨a, b, c, pu⟩ ⟨d, f, g, pv⟩ = -1) := by
              show _ = _
              rw [e2.out]
              rw [show ((0 : Nat) : Int) = 0 from rfl, HCI.out, decide_eq_false NE]; rfl
            clear hW hci hoi
            go_wp2
            go_ret
            exact ⟨by rw [e3.out]; rfl, HGW.out⟩
        · have hp1 : ¬ n1 = 0 := by omega
          have hp2 : ¬ n2 = 0 := by omega
          have e2 : Hid (cmpV ⟨a, b, c, pu⟩ ⟨d, f, g, pv⟩ = scanM pu pv) := by
            show _ = _
            have h1 := HN1.out
            have h2 := HN2.out
            rw [e.out]
            unfold cmpMs
            rw [if_neg (by
              rintro (h | h)
              · rw [h] at h1; exact hp1 h1.symm
              · rw [h] at h2; exact hp2 h2.symm)]
          have k1 : ((n1 : Int) == 0) = false := by simp; omega
          have k2 : ((n2 : Int) == 0) = false := by simp; omega
          have k3 : ¬ (n1 : Int) = 0 := by omega
          have k4 : ¬ (n2 : Int) = 0 := by omega
          clear hnil hp1 hp2
          go_wp2
          clear c0 c1 c2 c3 d0 d1 d2 d3
          go_loopw [8, 9, 10, 11] (fun i x y z wr => ∃ k : Nat, k ≤ n1 ∧ k ≤ n2 ∧ i = .int .i64 k ∧ scanM (pu.drop k) (pv.drop k) = scanM pu pv ∧ W0.grownBy wr none) (fun i _ _ _ _ => n1 - (intOf i).toNat)
          case atStart => exact ⟨0, Nat.zero_le _, Nat.zero_le _, rfl, rfl, World.grownBy.refl _ _⟩
          case round =>
            obtain ⟨k, hk1, hk2, rfl, ho, hg⟩ := hrel
            have HO := Lib.hid ho
            have HG := Lib.hid hg
            have c3 := hg.cell C3.out (by simp)
            have d3 := hg.cell D3.out (by simp)
            clear ho hg
            by_cases hlt : k < n1 ∧ k < n2
            · obtain ⟨q1, q2⟩ := hlt
              obtain ⟨x, hx⟩ : ∃ x, pu[k]? = some x := ⟨_, List.getElem?_eq_getElem (by rw [HN1.out]; omega)⟩
              obtain ⟨y, hy⟩ : ∃ y, pv[k]? = some y := ⟨_, List.getElem?_eq_getElem (by rw [HN2.out]; omega)⟩
              obtain ⟨b1, o1, e1, _, g1⟩ := (HP1.out.stays HG.out).at k x hx
              obtain ⟨b2, o2, e3, _, g2⟩ := (HP2.out.stays HG.out).at k y hy
              subst e1 e3
              have hxs : x.size ≤ 9223372036854775807 := Nat.le_trans (HU.out.short x (List.mem_of_getElem? hx)) (by omega)
              have hys : y.size ≤ 9223372036854775807 := Nat.le_trans (HV.out.short y (List.mem_of_getElem? hy)) (by omega)
              have HSC := Lib.hid (show scanM (pu.drop k) (pv.drop k) = if cmpMk x y = 0 then scanM (pu.drop (k + 1)) (pv.drop (k + 1)) else cmpMk x y by rw [drop_at pu k x hx, drop_at pv k y hy]; rfl)
              clear hx hy
              go_wp2
              go_quiet (fail)
              have HGW := Lib.hid (show W0.grownBy (wr.drewN nq) none from grown_drew nq HG.out)
              obtain ⟨W, hW⟩ : ∃ W, wr.drewN nq = W := ⟨_, rfl⟩
              rw [hW] at HGW ⊢
              have xs9 := hxs
              have ys9 := hys
              clear hW g1 g2 c3 d3 hxs hys
              obtain ⟨b1', hbx⟩ : ∃ b, allDig x = b := ⟨_, rfl⟩
              obtain ⟨b2', hby⟩ : ∃ b, allDig y = b := ⟨_, rfl⟩
              have HX1 := Lib.hid hbx
              have HY1 := Lib.hid hby
              have E3 : Hid (cmpMk x y = if b1' = true then (if b2' = true then orI (Lib.compareInt x.size y.size) (cmpB x y) else -1) else if b2' = true then 1 else cmpB x y) := by show _ = _; unfold cmpMk; rw [hbx, hby]
              clear hbx hby
              cases b1' with
              | true =>
                cases b2' with
                | true =>
                  have E4' : Hid (cmpMk x y = orI (Lib.compareInt x.size y.size) (cmpB x y)) := E3.out
                  go_wp2_with fail
                  (with_reducible refine (refDig_any x xs9 _).mono ?_)
                  rintro ee w' ⟨rfl, hw'⟩
                  rw [hw', HX1.out]
                  clear hw' w'
                  dsimp only
                  go_wp2_with fail
                  (with_reducible refine (refDig_any y ys9 _).mono ?_)
                  rintro ee w' ⟨rfl, hw'⟩
                  rw [hw', HY1.out]
                  clear hw' w'
                  dsimp only
                  go_wp2_with fail
                  (with_reducible refine (refCmp_any _ _ _).mono ?_)
                  rintro ee w' ⟨rfl, hw'⟩
                  rw [hw']
                  clear hw' w'
                  dsimp only
                  obtain ⟨p, hp⟩ : ∃ p, Lib.compareInt (x.size : Int) (y.size : Int) = p := ⟨_, rfl⟩
                  rw [hp] at E4' ⊢
                  clear hp E3
                  by_cases hp0 : p = 0
                  · have E4'' : Hid (cmpMk x y = cmpB x y) := by show _ = _; rw [E4'.out]; unfold orI; rw [if_pos hp0]
                    subst hp0
                    go_wp2_with fail
                    (with_reducible refine (refStr_any x y _).mono ?_)
                    rintro ee w' ⟨rfl, hw'⟩
                    rw [hw']
                    clear hw' w'
                    dsimp only
                    obtain ⟨z, hz⟩ : ∃ z, cmpB x y = z := ⟨_, rfl⟩
                    rw [hz] at E4'' ⊢
                    have E4 := Lib.hid E4''.out
                    clear hz E4' E4''
                    by_cases hz0 : z = 0
                    · have HX := Lib.hid (show scanM (pu.drop (k + 1)) (pv.drop (k + 1)) = scanM pu pv by rw [← HO.out, HSC.out, E4.out, if_pos hz0])
                      subst hz0
                      go_wp2
                      go_roundw
                      case rel => exact ⟨k + 1, by omega, by omega, by go_num, HX.out, HGW.out⟩
                      case measure => simp [intOf]; omega
                    · have hne : (z == 0) = false := by simp [hz0]
                      have e5 : Hid (cmpV ⟨a, b, c, pu⟩ ⟨d, f, g, pv⟩ = z) := by show _ = _; rw [e2.out, ← HO.out, HSC.out, E4.out, if_neg hz0]
                      go_wp2
                      go_ret
                      exact ⟨by rw [e5.out]; rfl, World.grownBy.trans HG0.out HGW.out⟩
                  · have E4 : Hid (cmpMk x y = p) := by show _ = _; rw [E4'.out]; unfold orI; rw [if_neg hp0]
                    have hne : (p == 0) = false := by simp [hp0]
                    have e5 : Hid (cmpV ⟨a, b, c, pu⟩ ⟨d, f, g, pv⟩ = p) := by show _ = _; rw [e2.out, ← HO.out, HSC.out, E4.out, if_neg hp0]
                    go_wp2
                    go_ret
                    exact ⟨by rw [e5.out]; rfl, World.grownBy.trans HG0.out HGW.out⟩
                | false =>
                  have E4 : Hid (cmpMk x y = -1) := E3.out
                  have e5 : Hid (cmpV ⟨a, b, c, pu⟩ ⟨d, f, g, pv⟩ = -1) := by show _ = _; rw [e2.out, ← HO.out, HSC.out, E4.out, if_neg (by decide)]
                  go_wp2_with fail
                  (with_reducible refine (refDig_any x xs9 _).mono ?_)
                  rintro ee w' ⟨rfl, hw'⟩
                  rw [hw', HX1.out]
                  clear hw' w'
                  dsimp only
                  go_wp2_with fail
                  (with_reducible refine (refDig_any y ys9 _).mono ?_)
                  rintro ee w' ⟨rfl, hw'⟩
                  rw [hw', HY1.out]
                  clear hw' w'
                  dsimp only
                  go_wp2_with fail
                  (with_reducible refine (refDig_any x xs9 _).mono ?_)
                  rintro ee w' ⟨rfl, hw'⟩
                  rw [hw', HX1.out]
                  clear hw' w'
                  dsimp only
                  go_wp2
                  go_ret
                  exact ⟨by rw [e5.out]; rfl, World.grownBy.trans HG0.out HGW.out⟩
              | false =>
                cases b2' with
                | true =>
                  have E4 : Hid (cmpMk x y = 1) := E3.out
                  have e5 : Hid (cmpV ⟨a, b, c, pu⟩ ⟨d, f, g, pv⟩ = 1) := by show _ = _; rw [e2.out, ← HO.out, HSC.out, E4.out, if_neg (by decide)]
                  go_wp2_with fail
                  (with_reducible refine (refDig_any x xs9 _).mono ?_)
                  rintro ee w' ⟨rfl, hw'⟩
                  rw [hw', HX1.out]
                  clear hw' w'
                  dsimp only
                  go_wp2_with fail
                  (with_reducible refine (refDig_any x xs9 _).mono ?_)
                  rintro ee w' ⟨rfl, hw'⟩
                  rw [hw', HX1.out]
                  clear hw' w'
                  dsimp only
                  go_wp2_with fail
                  (with_reducible refine (refDig_any y ys9 _).mono ?_)
                  rintro ee w' ⟨rfl, hw'⟩
                  rw [hw', HY1.out]
                  clear hw' w'
                  dsimp only
                  go_wp2
                  go_ret
                  exact ⟨by rw [e5.out]; rfl, World.grownBy.trans HG0.out HGW.out⟩
                | false =>
                  have E4' : Hid (cmpMk x y = cmpB x y) := E3.out
                  go_wp2_with fail
                  (with_reducible refine (refDig_any x xs9 _).mono ?_)
                  rintro ee w' ⟨rfl, hw'⟩
                  rw [hw', HX1.out]
                  clear hw' w'
                  dsimp only
                  go_wp2_with fail
                  (with_reducible refine (refDig_any x xs9 _).mono ?_)
                  rintro ee w' ⟨rfl, hw'⟩
                  rw [hw', HX1.out]
                  clear hw' w'
                  dsimp only
                  go_wp2_with fail
                  (with_reducible refine (refDig_any y ys9 _).mono ?_)
                  rintro ee w' ⟨rfl, hw'⟩
                  rw [hw', HY1.out]
                  clear hw' w'
                  dsimp only
                  go_wp2_with fail
                  (with_reducible refine (refStr_any x y _).mono ?_)
                  rintro ee w' ⟨rfl, hw'⟩
                  rw [hw']
                  clear hw' w'
                  dsimp only
                  obtain ⟨z, hz⟩ : ∃ z, cmpB x y = z := ⟨_, rfl⟩
                  rw [hz] at E4' ⊢
                  have E4 := Lib.hid E4'.out
                  clear hz E4'
                  by_cases hz0 : z = 0
                  · have HX := Lib.hid (show scanM (pu.drop (k + 1)) (pv.drop (k + 1)) = scanM pu pv by rw [← HO.out, HSC.out, E4.out, if_pos hz0])
                    subst hz0
                    go_wp2
                    go_roundw
                    case rel => exact ⟨k + 1, by omega, by omega, by go_num, HX.out, HGW.out⟩
                    case measure => simp [intOf]; omega
                  · have hne : (z == 0) = false := by simp [hz0]
                    have e5 : Hid (cmpV ⟨a, b, c, pu⟩ ⟨d, f, g, pv⟩ = z) := by show _ = _; rw [e2.out, ← HO.out, HSC.out, E4.out, if_neg hz0]
                    go_wp2
                    go_ret
                    exact ⟨by rw [e5.out]; rfl, World.grownBy.trans HG0.out HGW.out⟩
            · have hend : scanM pu pv = Lib.compareInt (n1 : Int) (n2 : Int) := by
                have h1 := HN1.out
                have h2 := HN2.out
                rw [← HO.out, scanM_nil _ _ (by
                  by_cases h : n1 ≤ k
                  · exact .inl (List.drop_of_length_le (by omega))
                  · exact .inr (List.drop_of_length_le (by omega))), List.length_drop, List.length_drop, h1, h2]
                exact cmpInt_sub n1 n2 k (by omega) (by omega)
              have e5 : Hid (cmpV ⟨a, b, c, pu⟩ ⟨d, f, g, pv⟩ = Lib.compareInt (n1 : Int) (n2 : Int)) := by show _ = _; rw [e2.out, hend]
              clear hend
              have hways : decide (k < n1) = false ∨ (k < n1 ∧ decide (k < n2) = false) := by
                by_cases h : k < n1
                · exact .inr ⟨h, by simp; omega⟩
                · exact .inl (by simp; omega)
              clear hlt
              rcases hways with h | ⟨h, h'⟩
              all_goals
                go_wp2_with fail
                (with_reducible refine (refCmp_any _ _ _).mono ?_)
                rintro ee w' ⟨rfl, hw'⟩
                rw [hw']
                clear hw' w'
                dsimp only
                go_wp2
                go_ret
                exact ⟨by rw [e5.out]; rfl, World.grownBy.trans HG0.out HG.out⟩
      · have e2 : Hid (cmpV ⟨a, b, c, pu⟩ ⟨d, f, g, pv⟩ = p2) := by show _ = _; rw [e.out, orL_first _ _ z2]
        have hne : (p2 == 0) = false := by simp [z2]
        go_wp2
        go_ret
        exact ⟨by rw [e2.out]; rfl, HG0.out⟩
    · have e2 : Hid (cmpV ⟨a, b, c, pu⟩ ⟨d, f, g, pv⟩ = p1) := by show _ = _; rw [e.out, orL_first _ _ z1]
      have hne : (p1 == 0) = false := by simp [z1]
      go_wp2
      go_ret
      exact ⟨by rw [e2.out]; rfl, HG0.out⟩
  · have e2 : Hid (cmpV ⟨a, b, c, pu⟩ ⟨d, f, g, pv⟩ = p0) := by show _ = _; rw [e.out, orL_first _ _ z0]
    have hne : (p0 == 0) = false := by simp [z0]
    go_wp2
    go_ret
    exact ⟨by rw [e2.out]; rfl, HG0.out⟩
end Go.Proofs.YtkngfkjnohbbiaaDoor
