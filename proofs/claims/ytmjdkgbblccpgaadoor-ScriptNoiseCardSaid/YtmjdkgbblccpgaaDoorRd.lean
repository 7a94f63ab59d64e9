/- The reference's line: write, append, set. -/
import Derived.Test.YtmjdkgbblccpgaaDoorRb
namespace Go.Proofs.YtmjdkgbblccpgaaDoor
open Go.RowKit

set_option maxRecDepth 1000000
set_option maxHeartbeats 4000000 in
theorem lineR_k1 (V : List ByteArray) (n cp B : Nat) (a0 : Option Addr) (w : World) (hn : V.length = n) (hn8 : n + 1 ≤ 8000000) (hB : B ≤ w.heap.size) (hP0 : PartS w B (.slice a0 (n + 1) cp) (⟨#[119, 114, 105, 116, 101]⟩ :: V)) (hs : ∀ x ∈ V, x.size ≤ 1000000) :
    Calls Tryd.prog 27 #[.slice a0 (n + 1) cp] w (LineTo (⟨#[119, 114, 105, 116, 101]⟩ :: V) w) := by
  have hkk : kindS ⟨#[119, 114, 105, 116, 101]⟩ = 1 := by kernel_rfl
  have HL := Lib.hid (lineOf_key ⟨#[119, 114, 105, 116, 101]⟩ 1 V hkk)
  have hqq : isQ ⟨#[119, 114, 105, 116, 101]⟩ = false := by kernel_rfl
  have HQQ := Lib.hid hqq
  clear hkk hqq
  obtain ⟨b0, o0, rfl, hb0, _⟩ := hP0.at 0 _ rfl
  obtain ⟨_, _, e3, hcap, _⟩ := hP0.form
  have ec := (Value.slice.inj e3).2.2
  simp only [List.length_cons] at hcap
  rw [← ec, hn] at hcap
  clear e3 ec
  have g0 := World.grownBy_alloc w (.cells #[.int .i64 0, .string ⟨#[]⟩, .string ⟨#[]⟩, .string ⟨#[]⟩, .int .i64 0, .bool false] 41) none
  have hP := hP0.stays g0
  have q0 := hP.cellP 0 _ rfl
  rw [Nat.add_zero] at q0
  have HG := Lib.hid g0
  have HP := Lib.hid hP
  have HV := Lib.hid hs
  clear g0 hP hP0 hs
  have n5 : ¬ b0 = w.heap.size := by omega
  have n6 : ¬ w.heap.size = b0 := by omega
  by_cases h2 : n = 2
  · subst h2
    obtain ⟨a, t, rfl⟩ := len2 hn
    have q1 := HP.out.cellP 1 a rfl
    have q2 := HP.out.cellP 2 t rfl
    have hts := HV.out t (by simp)
    have HVA : Hid (∀ x ∈ (⟨#[119, 114, 105, 116, 101]⟩ : ByteArray) :: [a], x.size ≤ 1000000) := fun x hx => by
      rcases List.mem_cons.1 hx with rfl | hx
      · decide
      · exact HV.out x (by rw [List.mem_singleton.1 hx]; simp)
    have HPC := Lib.hid (plain_cons ⟨#[119, 114, 105, 116, 101]⟩ [a] HQQ.out)
    clear hn
    go_enter Tryd.func27, Tryd.ntmps27
    go_wp2_with fail
    obtain ⟨p, hp⟩ : ∃ p, plainW8 (⟨#[119, 114, 105, 116, 101]⟩ :: [a]) = p := ⟨_, rfl⟩
    have hc := plainR_any (⟨#[119, 114, 105, 116, 101]⟩ :: [a]) B 2 cp _ _ rfl (by omega) (HP.out.shorter rfl) HVA.out
    rw [hp] at hc
    have HC := Lib.hid hc
    have HQ := Lib.hid hp
    clear hc hp
    cases p
    · (with_reducible refine HC.out.mono ?_)
      rintro ee w1 ⟨rfl, rfl⟩
      dsimp only
      go_wp2
      refine bodyPost_ret (v := .tuple #[lnV ⟨0, E0, E0, E0, 0, false⟩, .bool false]) (by simp [results, Tryd.results27, go_sem, lnV, E0]) rfl ?_
      exact end_bad (by rw [HL.out]; exact text_no 1 (by decide) a t (.inl (by rw [← HPC.out]; exact HQ.out))) HG.out
    · (with_reducible refine HC.out.mono ?_)
      rintro ee w1 ⟨rfl, rfl⟩
      dsimp only
      go_wp2_with fail
      obtain ⟨p2, hp2⟩ : ∃ p2, isQ t = p2 := ⟨_, rfl⟩
      have hc2 := quotedR_any t (w.alloc (.cells #[.int .i64 0, .string ⟨#[]⟩, .string ⟨#[]⟩, .string ⟨#[]⟩, .int .i64 0, .bool false] 41)) hts
      rw [hp2] at hc2
      have HC2 := Lib.hid hc2
      have HQ2 := Lib.hid hp2
      clear hc2 hp2
      cases p2
      · (with_reducible refine HC2.out.mono ?_)
        rintro ee w1 ⟨rfl, rfl⟩
        dsimp only
        go_wp2
        refine bodyPost_ret (v := .tuple #[lnV ⟨0, E0, E0, E0, 0, false⟩, .bool false]) (by simp [results, Tryd.results27, go_sem, lnV, E0]) rfl ?_
        exact end_bad (by rw [HL.out]; exact text_no 1 (by decide) a t (.inr HQ2.out)) HG.out
      · have hu := unQ_cut t HQ2.out
        have hu1 := hu.1
        have hu2 := hu.2
        clear hu
        (with_reducible refine HC2.out.mono ?_)
        rintro ee w1 ⟨rfl, rfl⟩
        dsimp only
        go_wp2
        go_region
        go_wp2
        refine bodyPost_ret (v := .tuple #[lnV ⟨1, a, E0, unQ t, 0, false⟩, .bool true]) (by simp [results, Tryd.results27, go_sem, lnV, E0]) rfl ?_
        exact end_good _ (by rw [HL.out]; exact text_yes 1 (by decide) a t (by rw [← HPC.out]; exact HQ.out) HQ2.out) (grown_drew 1 (World.grownBy_alloc _ _ _))
  · have n1 : ((n : Int) + 1 == 3) = false := by simp; omega
    have HN := Lib.hid hn
    have HM : Hid (V.length ≠ 2) := by show _ ≠ _; rw [hn]; exact h2
    clear hn h2
    go_enter Tryd.func27, Tryd.ntmps27
    go_wp2
    refine bodyPost_ret (v := .tuple #[lnV ⟨0, E0, E0, E0, 0, false⟩, .bool false]) (by simp [results, Tryd.results27, go_sem, lnV, E0]) rfl ?_
    exact end_bad (by rw [HL.out]; exact no_two 1 (by decide) V HM.out) HG.out

set_option maxRecDepth 1000000
set_option maxHeartbeats 4000000 in
theorem lineR_k2 (V : List ByteArray) (n cp B : Nat) (a0 : Option Addr) (w : World) (hn : V.length = n) (hn8 : n + 1 ≤ 8000000) (hB : B ≤ w.heap.size) (hP0 : PartS w B (.slice a0 (n + 1) cp) (⟨#[97, 112, 112, 101, 110, 100]⟩ :: V)) (hs : ∀ x ∈ V, x.size ≤ 1000000) :
    Calls Tryd.prog 27 #[.slice a0 (n + 1) cp] w (LineTo (⟨#[97, 112, 112, 101, 110, 100]⟩ :: V) w) := by
  have hkk : kindS ⟨#[97, 112, 112, 101, 110, 100]⟩ = 2 := by kernel_rfl
  have HL := Lib.hid (lineOf_key ⟨#[97, 112, 112, 101, 110, 100]⟩ 2 V hkk)
  have hqq : isQ ⟨#[97, 112, 112, 101, 110, 100]⟩ = false := by kernel_rfl
  have HQQ := Lib.hid hqq
  clear hkk hqq
  obtain ⟨b0, o0, rfl, hb0, _⟩ := hP0.at 0 _ rfl
  obtain ⟨_, _, e3, hcap, _⟩ := hP0.form
  have ec := (Value.slice.inj e3).2.2
  simp only [List.length_cons] at hcap
  rw [← ec, hn] at hcap
  clear e3 ec
  have g0 := World.grownBy_alloc w (.cells #[.int .i64 0, .string ⟨#[]⟩, .string ⟨#[]⟩, .string ⟨#[]⟩, .int .i64 0, .bool false] 41) none
  have hP := hP0.stays g0
  have q0 := hP.cellP 0 _ rfl
  rw [Nat.add_zero] at q0
  have HG := Lib.hid g0
  have HP := Lib.hid hP
  have HV := Lib.hid hs
  clear g0 hP hP0 hs
  have n5 : ¬ b0 = w.heap.size := by omega
  have n6 : ¬ w.heap.size = b0 := by omega
  by_cases h2 : n = 2
  · subst h2
    obtain ⟨a, t, rfl⟩ := len2 hn
    have q1 := HP.out.cellP 1 a rfl
    have q2 := HP.out.cellP 2 t rfl
    have hts := HV.out t (by simp)
    have HVA : Hid (∀ x ∈ (⟨#[97, 112, 112, 101, 110, 100]⟩ : ByteArray) :: [a], x.size ≤ 1000000) := fun x hx => by
      rcases List.mem_cons.1 hx with rfl | hx
      · decide
      · exact HV.out x (by rw [List.mem_singleton.1 hx]; simp)
    have HPC := Lib.hid (plain_cons ⟨#[97, 112, 112, 101, 110, 100]⟩ [a] HQQ.out)
    clear hn
    go_enter Tryd.func27, Tryd.ntmps27
    go_wp2_with fail
    obtain ⟨p, hp⟩ : ∃ p, plainW8 (⟨#[97, 112, 112, 101, 110, 100]⟩ :: [a]) = p := ⟨_, rfl⟩
    have hc := plainR_any (⟨#[97, 112, 112, 101, 110, 100]⟩ :: [a]) B 2 cp _ _ rfl (by omega) (HP.out.shorter rfl) HVA.out
    rw [hp] at hc
    have HC := Lib.hid hc
    have HQ := Lib.hid hp
    clear hc hp
    cases p
    · (with_reducible refine HC.out.mono ?_)
      rintro ee w1 ⟨rfl, rfl⟩
      dsimp only
      go_wp2
      refine bodyPost_ret (v := .tuple #[lnV ⟨0, E0, E0, E0, 0, false⟩, .bool false]) (by simp [results, Tryd.results27, go_sem, lnV, E0]) rfl ?_
      exact end_bad (by rw [HL.out]; exact text_no 2 (by decide) a t (.inl (by rw [← HPC.out]; exact HQ.out))) HG.out
    · (with_reducible refine HC.out.mono ?_)
      rintro ee w1 ⟨rfl, rfl⟩
      dsimp only
      go_wp2_with fail
      obtain ⟨p2, hp2⟩ : ∃ p2, isQ t = p2 := ⟨_, rfl⟩
      have hc2 := quotedR_any t (w.alloc (.cells #[.int .i64 0, .string ⟨#[]⟩, .string ⟨#[]⟩, .string ⟨#[]⟩, .int .i64 0, .bool false] 41)) hts
      rw [hp2] at hc2
      have HC2 := Lib.hid hc2
      have HQ2 := Lib.hid hp2
      clear hc2 hp2
      cases p2
      · (with_reducible refine HC2.out.mono ?_)
        rintro ee w1 ⟨rfl, rfl⟩
        dsimp only
        go_wp2
        refine bodyPost_ret (v := .tuple #[lnV ⟨0, E0, E0, E0, 0, false⟩, .bool false]) (by simp [results, Tryd.results27, go_sem, lnV, E0]) rfl ?_
        exact end_bad (by rw [HL.out]; exact text_no 2 (by decide) a t (.inr HQ2.out)) HG.out
      · have hu := unQ_cut t HQ2.out
        have hu1 := hu.1
        have hu2 := hu.2
        clear hu
        (with_reducible refine HC2.out.mono ?_)
        rintro ee w1 ⟨rfl, rfl⟩
        dsimp only
        go_wp2
        go_region
        go_wp2
        refine bodyPost_ret (v := .tuple #[lnV ⟨2, a, E0, unQ t, 0, false⟩, .bool true]) (by simp [results, Tryd.results27, go_sem, lnV, E0]) rfl ?_
        exact end_good _ (by rw [HL.out]; exact text_yes 2 (by decide) a t (by rw [← HPC.out]; exact HQ.out) HQ2.out) (grown_drew 1 (World.grownBy_alloc _ _ _))
  · have n1 : ((n : Int) + 1 == 3) = false := by simp; omega
    have HN := Lib.hid hn
    have HM : Hid (V.length ≠ 2) := by show _ ≠ _; rw [hn]; exact h2
    clear hn h2
    go_enter Tryd.func27, Tryd.ntmps27
    go_wp2
    refine bodyPost_ret (v := .tuple #[lnV ⟨0, E0, E0, E0, 0, false⟩, .bool false]) (by simp [results, Tryd.results27, go_sem, lnV, E0]) rfl ?_
    exact end_bad (by rw [HL.out]; exact no_two 2 (by decide) V HM.out) HG.out

set_option maxRecDepth 1000000
set_option maxHeartbeats 4000000 in
theorem lineR_k6 (V : List ByteArray) (n cp B : Nat) (a0 : Option Addr) (w : World) (hn : V.length = n) (hn8 : n + 1 ≤ 8000000) (hB : B ≤ w.heap.size) (hP0 : PartS w B (.slice a0 (n + 1) cp) (⟨#[115, 101, 116]⟩ :: V)) (hs : ∀ x ∈ V, x.size ≤ 1000000) :
    Calls Tryd.prog 27 #[.slice a0 (n + 1) cp] w (LineTo (⟨#[115, 101, 116]⟩ :: V) w) := by
  have hkk : kindS ⟨#[115, 101, 116]⟩ = 6 := by kernel_rfl
  have HL := Lib.hid (lineOf_key ⟨#[115, 101, 116]⟩ 6 V hkk)
  have hqq : isQ ⟨#[115, 101, 116]⟩ = false := by kernel_rfl
  have HQQ := Lib.hid hqq
  clear hkk hqq
  obtain ⟨b0, o0, rfl, hb0, _⟩ := hP0.at 0 _ rfl
  obtain ⟨_, _, e3, hcap, _⟩ := hP0.form
  have ec := (Value.slice.inj e3).2.2
  simp only [List.length_cons] at hcap
  rw [← ec, hn] at hcap
  clear e3 ec
  have g0 := World.grownBy_alloc w (.cells #[.int .i64 0, .string ⟨#[]⟩, .string ⟨#[]⟩, .string ⟨#[]⟩, .int .i64 0, .bool false] 41) none
  have hP := hP0.stays g0
  have q0 := hP.cellP 0 _ rfl
  rw [Nat.add_zero] at q0
  have HG := Lib.hid g0
  have HP := Lib.hid hP
  have HV := Lib.hid hs
  clear g0 hP hP0 hs
  have n5 : ¬ b0 = w.heap.size := by omega
  have n6 : ¬ w.heap.size = b0 := by omega
  by_cases h2 : n = 2
  · subst h2
    obtain ⟨a, t, rfl⟩ := len2 hn
    have q1 := HP.out.cellP 1 a rfl
    have q2 := HP.out.cellP 2 t rfl
    have hts := HV.out t (by simp)
    have HVA : Hid (∀ x ∈ (⟨#[115, 101, 116]⟩ : ByteArray) :: [a], x.size ≤ 1000000) := fun x hx => by
      rcases List.mem_cons.1 hx with rfl | hx
      · decide
      · exact HV.out x (by rw [List.mem_singleton.1 hx]; simp)
    have HPC := Lib.hid (plain_cons ⟨#[115, 101, 116]⟩ [a] HQQ.out)
    clear hn
    go_enter Tryd.func27, Tryd.ntmps27
    go_wp2_with fail
    obtain ⟨p, hp⟩ : ∃ p, plainW8 (⟨#[115, 101, 116]⟩ :: [a]) = p := ⟨_, rfl⟩
    have hc := plainR_any (⟨#[115, 101, 116]⟩ :: [a]) B 2 cp _ _ rfl (by omega) (HP.out.shorter rfl) HVA.out
    rw [hp] at hc
    have HC := Lib.hid hc
    have HQ := Lib.hid hp
    clear hc hp
    cases p
    · (with_reducible refine HC.out.mono ?_)
      rintro ee w1 ⟨rfl, rfl⟩
      dsimp only
      go_wp2
      refine bodyPost_ret (v := .tuple #[lnV ⟨0, E0, E0, E0, 0, false⟩, .bool false]) (by simp [results, Tryd.results27, go_sem, lnV, E0]) rfl ?_
      exact end_bad (by rw [HL.out]; exact text_no 6 (by decide) a t (.inl (by rw [← HPC.out]; exact HQ.out))) HG.out
    · (with_reducible refine HC.out.mono ?_)
      rintro ee w1 ⟨rfl, rfl⟩
      dsimp only
      go_wp2_with fail
      obtain ⟨p2, hp2⟩ : ∃ p2, isQ t = p2 := ⟨_, rfl⟩
      have hc2 := quotedR_any t (w.alloc (.cells #[.int .i64 0, .string ⟨#[]⟩, .string ⟨#[]⟩, .string ⟨#[]⟩, .int .i64 0, .bool false] 41)) hts
      rw [hp2] at hc2
      have HC2 := Lib.hid hc2
      have HQ2 := Lib.hid hp2
      clear hc2 hp2
      cases p2
      · (with_reducible refine HC2.out.mono ?_)
        rintro ee w1 ⟨rfl, rfl⟩
        dsimp only
        go_wp2
        refine bodyPost_ret (v := .tuple #[lnV ⟨0, E0, E0, E0, 0, false⟩, .bool false]) (by simp [results, Tryd.results27, go_sem, lnV, E0]) rfl ?_
        exact end_bad (by rw [HL.out]; exact text_no 6 (by decide) a t (.inr HQ2.out)) HG.out
      · have hu := unQ_cut t HQ2.out
        have hu1 := hu.1
        have hu2 := hu.2
        clear hu
        (with_reducible refine HC2.out.mono ?_)
        rintro ee w1 ⟨rfl, rfl⟩
        dsimp only
        go_wp2
        go_region
        go_wp2
        refine bodyPost_ret (v := .tuple #[lnV ⟨6, a, E0, unQ t, 0, false⟩, .bool true]) (by simp [results, Tryd.results27, go_sem, lnV, E0]) rfl ?_
        exact end_good _ (by rw [HL.out]; exact text_yes 6 (by decide) a t (by rw [← HPC.out]; exact HQ.out) HQ2.out) (grown_drew 1 (World.grownBy_alloc _ _ _))
  · have n1 : ((n : Int) + 1 == 3) = false := by simp; omega
    have HN := Lib.hid hn
    have HM : Hid (V.length ≠ 2) := by show _ ≠ _; rw [hn]; exact h2
    clear hn h2
    go_enter Tryd.func27, Tryd.ntmps27
    go_wp2
    refine bodyPost_ret (v := .tuple #[lnV ⟨0, E0, E0, E0, 0, false⟩, .bool false]) (by simp [results, Tryd.results27, go_sem, lnV, E0]) rfl ?_
    exact end_bad (by rw [HL.out]; exact no_two 6 (by decide) V HM.out) HG.out
end Go.Proofs.YtmjdkgbblccpgaaDoor
