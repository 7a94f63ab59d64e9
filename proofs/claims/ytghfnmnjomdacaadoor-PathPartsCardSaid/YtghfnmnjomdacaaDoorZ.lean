/- The law PathParts returns true. -/
import Derived.Test.YtghfnmnjomdacaaDoorY
namespace Go.Proofs.YtghfnmnjomdacaaDoor
open Go.RowKit

theorem glued (L : List ByteArray) (h : ∀ p ∈ L, Part p) : (joinB L.dropLast = ⟨#[]⟩ ∧ lastB L = joinB L) ∨ (¬ joinB L.dropLast = ⟨#[]⟩ ∧ joinB L.dropLast ++ slash ++ lastB L = joinB L) := by
  by_cases h0 : L = []
  · subst h0; exact .inl ⟨rfl, rfl⟩
  · obtain ⟨A, t, rfl⟩ := list_end L h0
    have hlb : lastB (A ++ [t]) = t := by unfold lastB; simp
    rw [hlb, List.dropLast_concat]
    by_cases hA : A = []
    · subst hA
      exact .inl ⟨rfl, by rw [List.nil_append, joinB_one]⟩
    · refine .inr ⟨?_, (joinB_snoc A t hA).symm⟩
      intro e
      obtain ⟨x, r, rfl⟩ : ∃ y r, A = y :: r := List.exists_cons_of_ne_nil hA
      have h1 := joinB_size (x :: r) (by simp)
      rw [e] at h1
      have h2 := (h x (by simp)).pos
      have h3 : (⟨#[]⟩ : ByteArray).size = 0 := rfl
      simp only [sumS] at h1; omega
theorem within_parent (L : List ByteArray) (h : ∀ p ∈ L, Part p) : withinS (joinB L) (joinB L.dropLast) = true := by
  rcases glued L h with ⟨a, b⟩ | ⟨a, b⟩
  · unfold withinS; simp [a]
  · unfold withinS
    have : Lib.hasPrefix (joinB L).data.toList (joinB L.dropLast ++ slash).data.toList = true := by
      rw [← b, Lib.hasPrefix, List.isPrefixOf_iff_prefix, show (joinB L.dropLast ++ slash ++ lastB L).data.toList = (joinB L.dropLast ++ slash).data.toList ++ (lastB L).data.toList by simp]
      exact List.prefix_append _ _
    rw [this, Bool.or_true]

theorem same_grown (B C n c1 c2 : Nat) (a1 a2 : Option Addr) (L : List ByteArray) (w : World) (hn : L.length = n) (hn2 : n ≤ 100000) (h1 : PartS w B (.slice a1 n c1) L) (h2 : PartS w C (.slice a2 n c2) L) :
    Calls Tryd.prog 13 #[.slice a1 n c1, .slice a2 n c2] w fun e w' => e = .returned (.bool true) ∧ w.grownBy w' none := same_any B C n c1 c2 a1 a2 L w hn hn2 h1 h2

set_option maxRecDepth 1000000
set_option maxHeartbeats 4000000 in
theorem parts_law_in (m : Int) (s t : ByteArray) (L : List ByteArray) (p d : ByteArray) (w : World) (hm : w.cell? ⟨0, 0, none⟩ = some (.int .i64 m))
    (hs : ¬ 300 < s.size) (ht : ¬ 300 < t.size) (hc : cleanS s = (p, 0)) (hc2 : cleanS t = (d, 0)) (hp : joinB L = p) (hL : ∀ q ∈ L, Part q) (hl : L.length ≤ 12) (hps : p.size ≤ 200) (hds : d.size ≤ 200) :
    Calls Tryd.prog 4 #[.string s, .string t] w fun e w' => e = .returned (.bool true) ∧ w.grownBy w' none := by
  have HM := Lib.hid hm
  have HW := Lib.hid (World.block_lt_of_cell? _ _ hm)
  have h2 : decide (300 < (s.size : Int)) = false := by simp; omega
  have h3 : decide (300 < (t.size : Int)) = false := by simp; omega
  have HC := Lib.hid hc
  have HC2 := Lib.hid hc2
  have HCC := Lib.hid (show cleanS p = (p, 0) by rw [← hp]; exact clean_join L hL hl (by rw [hp]; exact hps))
  have HPL := Lib.hid (show partsS p = L by rw [← hp]; exact parts_join L hL)
  obtain ⟨r, hr⟩ : ∃ r, L.length = r := ⟨_, rfl⟩
  have HR := Lib.hid hr
  have hr12 : r ≤ 12 := by omega
  have hps5 : p.size ≤ 100000 := by omega
  have hds5 : d.size ≤ 100000 := by omega
  have HSU := Lib.hid (show sumS L ≤ 100000 by
    refine Nat.le_trans (sumS_le L 200 fun q hq => ?_) ?_
    · have := parts_size p q (by rw [HPL.out]; exact hq)
      omega
    · have := Nat.mul_le_mul hl (Nat.le_refl (200 + 1)); omega)
  have HLL := Lib.hid hL
  have HP := Lib.hid hp
  have HL12 := Lib.hid hl
  have HGL := Lib.hid (glued L hL)
  have HWP := Lib.hid (within_parent L hL)
  obtain ⟨pa, hpa⟩ : ∃ pa, joinB L.dropLast = pa := ⟨_, rfl⟩
  obtain ⟨la, hla⟩ : ∃ la, lastB L = la := ⟨_, rfl⟩
  have hpas : pa.size ≤ 100000 := by
    rw [← hpa]
    exact Nat.le_trans (joinB_le _) (Nat.le_trans (sumS_drop L) HSU.out)
  have HPA := Lib.hid (show ∀ w : World, Calls Tryd.prog 15 #[.string p] w fun e w' => e = .returned (.string pa) ∧ w' = w from fun w => by rw [← hpa]; exact parent_clean L hL p hp hps5 w)
  have HBA := Lib.hid (show ∀ w : World, Calls Tryd.prog 17 #[.string p] w fun e w' => e = .returned (.string la) ∧ w' = w from fun w => by rw [← hla]; exact base_clean L hL p hp hps5 w)
  have HRP := Lib.hid (show ∀ w : World, 0 < w.heap.size → Calls Tryd.prog 16 #[.string p] w fun e w' => e = .returned (.string pa) ∧ w.grownBy w' none from fun w hw => by rw [← hpa]; exact refParent_clean L p HPL.out hps hl HSU.out w hw)
  have HRB := Lib.hid (show ∀ w : World, 0 < w.heap.size → Calls Tryd.prog 18 #[.string p] w fun e w' => e = .returned (.string la) ∧ w.grownBy w' none from fun w hw => by rw [← hla]; exact refBase_clean L p HPL.out hps hl w hw)
  have HG2 : Hid ((pa = ⟨#[]⟩ ∧ la = p) ∨ (¬ pa = ⟨#[]⟩ ∧ pa ++ slash ++ la = p)) := by
    have := HGL.out
    rw [hpa, hla, hp] at this
    exact this
  have HWP2 : Hid (withinS p pa = true) := by
    have := HWP.out
    rw [hp, hpa] at this
    exact this
  have HWN := Lib.hid (within_none p)
  obtain ⟨b, hb⟩ : ∃ b, withinS p d = b := ⟨_, rfl⟩
  have HB := Lib.hid hb
  have hcat : pa.size + 1 ≤ 9223372036854775807 := by omega
  have hlas : la.size ≤ p.size := by
    rcases HG2.out with ⟨_, e⟩ | ⟨_, e⟩
    · rw [e]; exact Nat.le_refl _
    · rw [← e, ByteArray.size_append]; omega
  have hcat2 : pa.size + 1 + la.size ≤ 9223372036854775807 := by omega
  have hcat3 : pa.size + la.size ≤ 9223372036854775807 := by omega
  clear hm hs ht hc hc2 hp hL hl hr hpa hla hb
  go_enter Tryd.func4, Tryd.ntmps4
  go_wp2_with fail
  (with_reducible refine (known_any m _ HM.out).mono ?_)
  rintro ee w1 ⟨rfl, g1⟩
  dsimp only
  have G1 := Lib.hid g1
  clear g1
  go_wp2_with fail
  (with_reducible refine (refclean_at s p 0 _ (Nat.lt_of_lt_of_le HW.out G1.out.size) HC.out).mono ?_)
  rintro ee w2 ⟨rfl, g2⟩
  dsimp only
  have G2 := Lib.hid (World.grownBy.trans G1.out g2)
  clear g2
  go_wp2_with fail
  (with_reducible refine (refclean_at t d 0 _ (Nat.lt_of_lt_of_le HW.out G2.out.size) HC2.out).mono ?_)
  rintro ee w3 ⟨rfl, g3⟩
  dsimp only
  have G3 := Lib.hid (World.grownBy.trans G2.out g3)
  clear g3
  go_wp2_with fail
  (with_reducible refine (clean_at m p p 0 _ (G3.out.cell HM.out (by simp)) HCC.out).mono ?_)
  rintro ee w4 ⟨rfl, g4⟩
  dsimp only
  have G4 := Lib.hid (World.grownBy.trans G3.out g4)
  clear g4
  go_wp2_with fail
  (with_reducible refine (parts_at m p L r _ hps5 (G4.out.cell HM.out (by simp)) HPL.out HR.out).mono ?_)
  rintro ee w5 ⟨a5, rfl, hf5, g5⟩
  dsimp only
  have G5 := Lib.hid (World.grownBy.trans G4.out g5)
  obtain ⟨_, B5, hB5, hp5⟩ := hf5
  have HP5 := Lib.hid hp5
  clear g5 hp5 hB5
  go_wp2_with fail
  (with_reducible refine (refparts_at p L r hps5 _ (Nat.lt_of_lt_of_le HW.out G5.out.size) HPL.out HR.out).mono ?_)
  rintro ee w6 ⟨a6, cap6, rfl, hc1, hc2, hf6, g6⟩
  dsimp only
  have G6 := Lib.hid (World.grownBy.trans G5.out g6)
  have HP6 := Lib.hid (HP5.out.grown g6 (fun k hk => by simp at hk))
  have HF6 := Lib.hid hf6
  clear g6 hf6
  go_wp2_with fail
  (with_reducible refine (same_any B5 _ r r cap6 a5 a6 L _ HR.out (by omega) HP6.out HF6.out).mono ?_)
  rintro ee w7 ⟨rfl, g7⟩
  dsimp only
  have G7 := Lib.hid (World.grownBy.trans G6.out g7)
  clear g7
  go_wp2_with fail
  (with_reducible refine (HPA.out _).mono ?_)
  rintro ee w' ⟨rfl, hw'⟩
  rw [hw']
  clear hw' w'
  dsimp only
  go_wp2_with fail
  (with_reducible refine (HRP.out _ (Nat.lt_of_lt_of_le HW.out G7.out.size)).mono ?_)
  rintro ee w8 ⟨rfl, g8⟩
  dsimp only
  have G8 := Lib.hid (World.grownBy.trans G7.out g8)
  clear g8
  go_wp2_with fail
  (with_reducible refine (HBA.out _).mono ?_)
  rintro ee w' ⟨rfl, hw'⟩
  rw [hw']
  clear hw' w'
  dsimp only
  go_wp2_with fail
  (with_reducible refine (HRB.out _ (Nat.lt_of_lt_of_le HW.out G8.out.size)).mono ?_)
  rintro ee w9 ⟨rfl, g9⟩
  dsimp only
  have G9 := Lib.hid (World.grownBy.trans G8.out g9)
  clear g9
  go_wp2_with fail
  (with_reducible refine (HPA.out _).mono ?_)
  rintro ee w' ⟨rfl, hw'⟩
  rw [hw']
  clear hw' w'
  dsimp only
  by_cases hpe : pa = ⟨#[]⟩
  · have hlp : la = p := by
      rcases HG2.out with ⟨_, e⟩ | ⟨e, _⟩
      · exact e
      · exact absurd hpe e
    subst hpe hlp
    go_wp2_with fail
    (with_reducible refine (HBA.out _).mono ?_)
    rintro ee w' ⟨rfl, hw'⟩
    rw [hw']
    clear hw' w'
    dsimp only
    go_wp2_with fail
    (with_reducible refine (within_any la d hds5 _).mono ?_)
    rintro ee w' ⟨rfl, hw'⟩
    rw [hw', HB.out]
    clear hw' w'
    dsimp only
    go_wp2_with fail
    (with_reducible refine (refwithin_any la d hps5 hds5 _).mono ?_)
    rintro ee w' ⟨rfl, hw'⟩
    rw [hw', HB.out]
    clear hw' w'
    dsimp only
    go_wp2_with fail
    (with_reducible refine (HPA.out _).mono ?_)
    rintro ee w' ⟨rfl, hw'⟩
    rw [hw']
    clear hw' w'
    dsimp only
    go_wp2_with fail
    (with_reducible refine (within_any la _ hpas _).mono ?_)
    rintro ee w' ⟨rfl, hw'⟩
    rw [hw', HWP2.out]
    clear hw' w'
    dsimp only
    go_wp2_with fail
    (with_reducible refine (within_any la ⟨#[]⟩ (by decide) _).mono ?_)
    rintro ee w' ⟨rfl, hw'⟩
    rw [hw', HWN.out]
    clear hw' w'
    dsimp only
    go_wp2
    go_ret
    exact ⟨rfl, G9.out⟩
  · have hlp : pa ++ slash ++ la = p := by
      rcases HG2.out with ⟨e, _⟩ | ⟨_, e⟩
      · exact absurd e hpe
      · exact e
    have HLP := Lib.hid (show pa ++ ⟨#[47]⟩ ++ la = p from hlp)
    have d1 := ne_list pa [] hpe
    have c1 := empty_no pa hpe
    clear hpe hlp
    go_wp2_with fail
    (with_reducible refine (HBA.out _).mono ?_)
    rintro ee w' ⟨rfl, hw'⟩
    rw [hw']
    clear hw' w'
    dsimp only
    have te : (pa ++ ⟨#[47]⟩ ++ la).toList = p.toList := by rw [HLP.out]
    go_wp2_with fail
    (with_reducible refine (within_any p d hds5 _).mono ?_)
    rintro ee w' ⟨rfl, hw'⟩
    rw [hw', HB.out]
    clear hw' w'
    dsimp only
    go_wp2_with fail
    (with_reducible refine (refwithin_any p d hps5 hds5 _).mono ?_)
    rintro ee w' ⟨rfl, hw'⟩
    rw [hw', HB.out]
    clear hw' w'
    dsimp only
    go_wp2_with fail
    (with_reducible refine (HPA.out _).mono ?_)
    rintro ee w' ⟨rfl, hw'⟩
    rw [hw']
    clear hw' w'
    dsimp only
    go_wp2_with fail
    (with_reducible refine (within_any p _ hpas _).mono ?_)
    rintro ee w' ⟨rfl, hw'⟩
    rw [hw', HWP2.out]
    clear hw' w'
    dsimp only
    go_wp2_with fail
    (with_reducible refine (within_any p ⟨#[]⟩ (by decide) _).mono ?_)
    rintro ee w' ⟨rfl, hw'⟩
    rw [hw', HWN.out]
    clear hw' w'
    dsimp only
    go_wp2
    go_ret
    exact ⟨rfl, G9.out⟩


set_option maxRecDepth 1000000
set_option maxHeartbeats 4000000 in
theorem parts_law (m : Int) (s t : ByteArray) (hz1 : s.size ≤ 9223372036854775807) (hz2 : t.size ≤ 9223372036854775807) (w : World) (hm : w.cell? ⟨0, 0, none⟩ = some (.int .i64 m)) :
    Calls Tryd.prog 4 #[.string s, .string t] w fun e w' => e = .returned (.bool true) ∧ w.grownBy w' none := by
  have HM := Lib.hid hm
  have HW := Lib.hid (World.block_lt_of_cell? _ _ hm)
  by_cases hl : 300 < s.size
  · have h2 : 300 < (s.size : Int) := by omega
    clear hl hm
    go_enter Tryd.func4, Tryd.ntmps4
    go_wp2_with fail
    (with_reducible refine (known_any m _ HM.out).mono ?_)
    rintro ee w1 ⟨rfl, g1⟩
    dsimp only
    go_wp2
    go_ret
    exact ⟨rfl, g1⟩
  · have h2 : decide (300 < (s.size : Int)) = false := by simp; omega
    by_cases hl2 : 300 < t.size
    · have h3 : 300 < (t.size : Int) := by omega
      clear hl hl2 hm
      go_enter Tryd.func4, Tryd.ntmps4
      go_wp2_with fail
      (with_reducible refine (known_any m _ HM.out).mono ?_)
      rintro ee w1 ⟨rfl, g1⟩
      dsimp only
      go_wp2
      go_ret
      exact ⟨rfl, g1⟩
    · have h3 : decide (300 < (t.size : Int)) = false := by simp; omega
      obtain ⟨p, e, hc⟩ : ∃ p q, cleanS s = (p, q) := ⟨_, _, rfl⟩
      obtain ⟨d, f, hc2⟩ : ∃ p q, cleanS t = (p, q) := ⟨_, _, rfl⟩
      have HC := Lib.hid hc
      have HC2 := Lib.hid hc2
      by_cases he : e = 0
      · by_cases hf : f = 0
        · subst he hf
          obtain ⟨L, a1, a2, a3, a4⟩ := cleanS_zero s p hc
          exact parts_law_in m s t L p d w hm hl hl2 hc hc2 a1.symm a2 a3 a4 (cleanS_size _ _ _ hc2 rfl)
        · subst he
          have hfn : (f == 0) = false := by simpa using hf
          clear hc hc2 hl hl2 hm
          go_enter Tryd.func4, Tryd.ntmps4
          go_wp2_with fail
          (with_reducible refine (known_any m _ HM.out).mono ?_)
          rintro ee w1 ⟨rfl, g1⟩
          dsimp only
          have G1 := Lib.hid g1
          clear g1
          go_wp2_with fail
          (with_reducible refine (refclean_at s p 0 _ (Nat.lt_of_lt_of_le HW.out G1.out.size) HC.out).mono ?_)
          rintro ee w2 ⟨rfl, g2⟩
          dsimp only
          have G2 := Lib.hid (World.grownBy.trans G1.out g2)
          clear g2
          go_wp2_with fail
          (with_reducible refine (refclean_at t d f _ (Nat.lt_of_lt_of_le HW.out G2.out.size) HC2.out).mono ?_)
          rintro ee w3 ⟨rfl, g3⟩
          dsimp only
          have G3 := Lib.hid (World.grownBy.trans G2.out g3)
          clear g3
          go_wp2
          go_ret
          exact ⟨rfl, G3.out⟩
      · have hen : (e == 0) = false := by simpa using he
        clear hc hc2 hl hl2 hm
        go_enter Tryd.func4, Tryd.ntmps4
        go_wp2_with fail
        (with_reducible refine (known_any m _ HM.out).mono ?_)
        rintro ee w1 ⟨rfl, g1⟩
        dsimp only
        have G1 := Lib.hid g1
        clear g1
        go_wp2_with fail
        (with_reducible refine (refclean_at s p e _ (Nat.lt_of_lt_of_le HW.out G1.out.size) HC.out).mono ?_)
        rintro ee w2 ⟨rfl, g2⟩
        dsimp only
        have G2 := Lib.hid (World.grownBy.trans G1.out g2)
        clear g2
        go_wp2_with fail
        (with_reducible refine (refclean_at t d f _ (Nat.lt_of_lt_of_le HW.out G2.out.size) HC2.out).mono ?_)
        rintro ee w3 ⟨rfl, g3⟩
        dsimp only
        have G3 := Lib.hid (World.grownBy.trans G2.out g3)
        clear g3
        go_wp2
        go_ret
        exact ⟨rfl, G3.out⟩
end Go.Proofs.YtghfnmnjomdacaaDoor
