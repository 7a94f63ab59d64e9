/- The reference's line: if. -/
import Derived.Test.YtmjdkgbblccpgaaDoorRb
namespace Go.Proofs.YtmjdkgbblccpgaaDoor
open Go.RowKit

set_option maxRecDepth 1000000
set_option maxHeartbeats 4000000 in
theorem lineR_k7 (V : List ByteArray) (n cp B : Nat) (a0 : Option Addr) (w : World) (hn : V.length = n) (hn8 : n + 1 ≤ 8000000) (hB : B ≤ w.heap.size) (hP0 : PartS w B (.slice a0 (n + 1) cp) (⟨#[105, 102]⟩ :: V)) (hs : ∀ x ∈ V, x.size ≤ 1000000) :
    Calls Tryd.prog 27 #[.slice a0 (n + 1) cp] w (LineTo (⟨#[105, 102]⟩ :: V) w) := by
  have hkk : kindS ⟨#[105, 102]⟩ = 7 := by kernel_rfl
  have HL := Lib.hid (lineOf_key ⟨#[105, 102]⟩ 7 V hkk)
  have hqq : isQ ⟨#[105, 102]⟩ = false := by kernel_rfl
  have HQQ := Lib.hid hqq
  clear hkk hqq
  obtain ⟨b0, o0, rfl, hb0, _⟩ := hP0.at 0 _ rfl
  obtain ⟨_, _, e3, hcap, _⟩ := hP0.form
  have ec := (Value.slice.inj e3).2.2
  simp only [List.length_cons] at hcap
  rw [← ec, hn] at hcap
  clear e3 ec
  have g0 := World.grownBy_alloc w (.cells #[.int .i64 0, .string ⟨#[]⟩, .string ⟨#[]⟩, .string ⟨#[]⟩, .int .i64 0, .bool false] 41) none
  have hP := hP0.stays g0
  have q0 := hP.cellP 0 _ rfl
  rw [Nat.add_zero] at q0
  have HG := Lib.hid g0
  have HP := Lib.hid hP
  have HV := Lib.hid hs
  clear g0 hP hP0 hs
  have n5 : ¬ b0 = w.heap.size := by omega
  have n6 : ¬ w.heap.size = b0 := by omega
  by_cases h2 : n = 2
  · subst h2
    obtain ⟨e, a, rfl⟩ := len2 hn
    have q1 := HP.out.cellP 1 e rfl
    have q2 := HP.out.cellP 2 a rfl
    have HVA : Hid (∀ x ∈ (⟨#[105, 102]⟩ : ByteArray) :: [e, a], x.size ≤ 1000000) := fun x hx => by
      rcases List.mem_cons.1 hx with rfl | hx
      · decide
      · exact HV.out x hx
    have HPC := Lib.hid (plain_cons ⟨#[105, 102]⟩ [e, a] HQQ.out)
    clear hn
    by_cases hE : e = wExists
    · have hE0 : e = ⟨#[101, 120, 105, 115, 116, 115]⟩ := hE
      subst hE0
      clear hE
      go_enter Tryd.func27, Tryd.ntmps27
      go_wp2_with fail
      obtain ⟨p, hp⟩ : ∃ p, plainW8 (⟨#[105, 102]⟩ :: [⟨#[101, 120, 105, 115, 116, 115]⟩, a]) = p := ⟨_, rfl⟩
      have hc := plainR_any (⟨#[105, 102]⟩ :: [⟨#[101, 120, 105, 115, 116, 115]⟩, a]) B 3 cp _ _ rfl (by omega) HP.out HVA.out
      rw [hp] at hc
      have HC := Lib.hid hc
      have HQ := Lib.hid hp
      clear hc hp
      cases p
      · (with_reducible refine HC.out.mono ?_)
        rintro ee w1 ⟨rfl, rfl⟩
        dsimp only
        go_wp2
        refine bodyPost_ret (v := .tuple #[lnV ⟨0, E0, E0, E0, 0, false⟩, .bool false]) (by simp [results, Tryd.results27, go_sem, lnV, E0]) rfl ?_
        exact end_bad (by rw [HL.out]; exact if_no2 a (by rw [← HPC.out]; exact HQ.out)) HG.out
      · (with_reducible refine HC.out.mono ?_)
        rintro ee w1 ⟨rfl, rfl⟩
        dsimp only
        go_wp2
        refine bodyPost_ret (v := .tuple #[lnV ⟨7, a, E0, E0, 0, false⟩, .bool true]) (by simp [results, Tryd.results27, go_sem, lnV, E0]) rfl ?_
        exact end_good _ (by rw [HL.out]; exact if_yes2 a (by rw [← HPC.out]; exact HQ.out)) (World.grownBy_alloc _ _ _)
    · have e1 := nb_list e [101, 120, 105, 115, 116, 115] hE
      have e2 := ne_list e [101, 120, 105, 115, 116, 115] hE
      have HNE := Lib.hid hE
      clear hE
      go_enter Tryd.func27, Tryd.ntmps27
      go_wp2
      refine bodyPost_ret (v := .tuple #[lnV ⟨0, E0, E0, E0, 0, false⟩, .bool false]) (by simp [results, Tryd.results27, go_sem, lnV, E0]) rfl ?_
      exact end_bad (by rw [HL.out]; exact if_ne2 e a HNE.out) HG.out
  by_cases h3 : n = 3
  · subst h3
    obtain ⟨o, e, a, rfl⟩ := len3 hn
    have q1 := HP.out.cellP 1 o rfl
    have q2 := HP.out.cellP 2 e rfl
    have q3 := HP.out.cellP 3 a rfl
    have HVA : Hid (∀ x ∈ (⟨#[105, 102]⟩ : ByteArray) :: [o, e, a], x.size ≤ 1000000) := fun x hx => by
      rcases List.mem_cons.1 hx with rfl | hx
      · decide
      · exact HV.out x hx
    have HPC := Lib.hid (plain_cons ⟨#[105, 102]⟩ [o, e, a] HQQ.out)
    clear hn h2
    by_cases hO : o = wNot
    · have hO0 : o = ⟨#[110, 111, 116]⟩ := hO
      subst hO0
      clear hO
      by_cases hE : e = wExists
      · have hE0 : e = ⟨#[101, 120, 105, 115, 116, 115]⟩ := hE
        subst hE0
        clear hE
        go_enter Tryd.func27, Tryd.ntmps27
        go_wp2_with fail
        obtain ⟨p, hp⟩ : ∃ p, plainW8 (⟨#[105, 102]⟩ :: [⟨#[110, 111, 116]⟩, ⟨#[101, 120, 105, 115, 116, 115]⟩, a]) = p := ⟨_, rfl⟩
        have hc := plainR_any (⟨#[105, 102]⟩ :: [⟨#[110, 111, 116]⟩, ⟨#[101, 120, 105, 115, 116, 115]⟩, a]) B 4 cp _ _ rfl (by omega) HP.out HVA.out
        rw [hp] at hc
        have HC := Lib.hid hc
        have HQ := Lib.hid hp
        clear hc hp
        cases p
        · (with_reducible refine HC.out.mono ?_)
          rintro ee w1 ⟨rfl, rfl⟩
          dsimp only
          go_wp2
          refine bodyPost_ret (v := .tuple #[lnV ⟨0, E0, E0, E0, 0, false⟩, .bool false]) (by simp [results, Tryd.results27, go_sem, lnV, E0]) rfl ?_
          exact end_bad (by rw [HL.out]; exact if_no3 a (by rw [← HPC.out]; exact HQ.out)) HG.out
        · (with_reducible refine HC.out.mono ?_)
          rintro ee w1 ⟨rfl, rfl⟩
          dsimp only
          go_wp2
          refine bodyPost_ret (v := .tuple #[lnV ⟨7, a, E0, E0, 0, true⟩, .bool true]) (by simp [results, Tryd.results27, go_sem, lnV, E0]) rfl ?_
          exact end_good _ (by rw [HL.out]; exact if_yes3 a (by rw [← HPC.out]; exact HQ.out)) (World.grownBy_alloc _ _ _)
      · have e1 := nb_list e [101, 120, 105, 115, 116, 115] hE
        have e2 := ne_list e [101, 120, 105, 115, 116, 115] hE
        have HNE := Lib.hid hE
        clear hE
        go_enter Tryd.func27, Tryd.ntmps27
        go_wp2
        refine bodyPost_ret (v := .tuple #[lnV ⟨0, E0, E0, E0, 0, false⟩, .bool false]) (by simp [results, Tryd.results27, go_sem, lnV, E0]) rfl ?_
        exact end_bad (by rw [HL.out]; exact if_ne3 _ e a (fun h => HNE.out h.2)) HG.out
    · have e1 := nb_list o [110, 111, 116] hO
      have e2 := ne_list o [110, 111, 116] hO
      have HNE := Lib.hid hO
      clear hO
      go_enter Tryd.func27, Tryd.ntmps27
      go_wp2
      refine bodyPost_ret (v := .tuple #[lnV ⟨0, E0, E0, E0, 0, false⟩, .bool false]) (by simp [results, Tryd.results27, go_sem, lnV, E0]) rfl ?_
      exact end_bad (by rw [HL.out]; exact if_ne3 o e a (fun h => HNE.out h.1)) HG.out
  have n1 : ((n : Int) + 1 == 3) = false := by simp; omega
  have n2 : ((n : Int) + 1 == 4) = false := by simp; omega
  have HM : Hid (V.length ≠ 2 ∧ V.length ≠ 3) := by show _ ∧ _; rw [hn]; exact ⟨h2, h3⟩
  clear hn h2 h3
  go_enter Tryd.func27, Tryd.ntmps27
  go_wp2
  refine bodyPost_ret (v := .tuple #[lnV ⟨0, E0, E0, E0, 0, false⟩, .bool false]) (by simp [results, Tryd.results27, go_sem, lnV, E0]) rfl ?_
  exact end_bad (by rw [HL.out]; exact if_nl V HM.out.1 HM.out.2) HG.out
end Go.Proofs.YtmjdkgbblccpgaaDoor
