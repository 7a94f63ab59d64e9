/- The reference's line: fail, else, end. -/
import Derived.Test.YtmjdkgbblccpgaaDoorRb
namespace Go.Proofs.YtmjdkgbblccpgaaDoor
open Go.RowKit

set_option maxRecDepth 1000000
set_option maxHeartbeats 4000000 in
theorem lineR_k11 (V : List ByteArray) (n cp B : Nat) (a0 : Option Addr) (w : World) (hn : V.length = n) (hn8 : n + 1 ≤ 8000000) (hB : B ≤ w.heap.size) (hP0 : PartS w B (.slice a0 (n + 1) cp) (⟨#[102, 97, 105, 108]⟩ :: V)) (hs : ∀ x ∈ V, x.size ≤ 1000000) :
    Calls Tryd.prog 27 #[.slice a0 (n + 1) cp] w (LineTo (⟨#[102, 97, 105, 108]⟩ :: V) w) := by
  have hkk : kindS ⟨#[102, 97, 105, 108]⟩ = 11 := by kernel_rfl
  have HL := Lib.hid (lineOf_key ⟨#[102, 97, 105, 108]⟩ 11 V hkk)
  have hqq : isQ ⟨#[102, 97, 105, 108]⟩ = false := by kernel_rfl
  have HQQ := Lib.hid hqq
  clear hkk hqq
  obtain ⟨b0, o0, rfl, hb0, _⟩ := hP0.at 0 _ rfl
  obtain ⟨_, _, e3, hcap, _⟩ := hP0.form
  have ec := (Value.slice.inj e3).2.2
  simp only [List.length_cons] at hcap
  rw [← ec, hn] at hcap
  clear e3 ec
  have g0 := World.grownBy_alloc w (.cells #[.int .i64 0, .string ⟨#[]⟩, .string ⟨#[]⟩, .string ⟨#[]⟩, .int .i64 0, .bool false] 41) none
  have hP := hP0.stays g0
  have q0 := hP.cellP 0 _ rfl
  rw [Nat.add_zero] at q0
  have HG := Lib.hid g0
  have HP := Lib.hid hP
  have HV := Lib.hid hs
  clear g0 hP hP0 hs
  have n5 : ¬ b0 = w.heap.size := by omega
  have n6 : ¬ w.heap.size = b0 := by omega
  by_cases h2 : n = 1
  · subst h2
    obtain ⟨t, rfl⟩ := len1 hn
    have q1 := HP.out.cellP 1 t rfl
    have hts := HV.out t (by simp)
    clear hn
    go_enter Tryd.func27, Tryd.ntmps27
    go_wp2_with fail
    obtain ⟨p2, hp2⟩ : ∃ p2, isQ t = p2 := ⟨_, rfl⟩
    have hc2 := quotedR_any t (w.alloc (.cells #[.int .i64 0, .string ⟨#[]⟩, .string ⟨#[]⟩, .string ⟨#[]⟩, .int .i64 0, .bool false] 41)) hts
    rw [hp2] at hc2
    have HC2 := Lib.hid hc2
    have HQ2 := Lib.hid hp2
    clear hc2 hp2
    cases p2
    · (with_reducible refine HC2.out.mono ?_)
      rintro ee w1 ⟨rfl, rfl⟩
      dsimp only
      go_wp2
      refine bodyPost_ret (v := .tuple #[lnV ⟨0, E0, E0, E0, 0, false⟩, .bool false]) (by simp [results, Tryd.results27, go_sem, lnV, E0]) rfl ?_
      exact end_bad (by rw [HL.out]; exact fail_no t HQ2.out) HG.out
    · have hu := unQ_cut t HQ2.out
      have hu1 := hu.1
      have hu2 := hu.2
      clear hu
      (with_reducible refine HC2.out.mono ?_)
      rintro ee w1 ⟨rfl, rfl⟩
      dsimp only
      go_wp2
      refine bodyPost_ret (v := .tuple #[lnV ⟨11, E0, E0, unQ t, 0, false⟩, .bool true]) (by simp [results, Tryd.results27, go_sem, lnV, E0]) rfl ?_
      exact end_good _ (by rw [HL.out]; exact fail_yes t HQ2.out) (World.grownBy_alloc _ _ _)
  · have n1 : ((n : Int) + 1 == 2) = false := by simp; omega
    have HN := Lib.hid hn
    have HM : Hid (V.length ≠ 1) := by show _ ≠ _; rw [hn]; exact h2
    clear hn h2
    go_enter Tryd.func27, Tryd.ntmps27
    go_wp2
    refine bodyPost_ret (v := .tuple #[lnV ⟨0, E0, E0, E0, 0, false⟩, .bool false]) (by simp [results, Tryd.results27, go_sem, lnV, E0]) rfl ?_
    exact end_bad (by rw [HL.out]; exact no_one 11 (by decide) V HM.out) HG.out

set_option maxRecDepth 1000000
set_option maxHeartbeats 4000000 in
theorem lineR_k9 (V : List ByteArray) (n cp B : Nat) (a0 : Option Addr) (w : World) (hn : V.length = n) (hn8 : n + 1 ≤ 8000000) (hB : B ≤ w.heap.size) (hP0 : PartS w B (.slice a0 (n + 1) cp) (⟨#[101, 108, 115, 101]⟩ :: V)) (hs : ∀ x ∈ V, x.size ≤ 1000000) :
    Calls Tryd.prog 27 #[.slice a0 (n + 1) cp] w (LineTo (⟨#[101, 108, 115, 101]⟩ :: V) w) := by
  have hkk : kindS ⟨#[101, 108, 115, 101]⟩ = 9 := by kernel_rfl
  have HL := Lib.hid (lineOf_key ⟨#[101, 108, 115, 101]⟩ 9 V hkk)
  have hqq : isQ ⟨#[101, 108, 115, 101]⟩ = false := by kernel_rfl
  have HQQ := Lib.hid hqq
  clear hkk hqq
  obtain ⟨b0, o0, rfl, hb0, _⟩ := hP0.at 0 _ rfl
  obtain ⟨_, _, e3, hcap, _⟩ := hP0.form
  have ec := (Value.slice.inj e3).2.2
  simp only [List.length_cons] at hcap
  rw [← ec, hn] at hcap
  clear e3 ec
  have g0 := World.grownBy_alloc w (.cells #[.int .i64 0, .string ⟨#[]⟩, .string ⟨#[]⟩, .string ⟨#[]⟩, .int .i64 0, .bool false] 41) none
  have hP := hP0.stays g0
  have q0 := hP.cellP 0 _ rfl
  rw [Nat.add_zero] at q0
  have HG := Lib.hid g0
  have HP := Lib.hid hP
  have HV := Lib.hid hs
  clear g0 hP hP0 hs
  have n5 : ¬ b0 = w.heap.size := by omega
  have n6 : ¬ w.heap.size = b0 := by omega
  by_cases h2 : n = 0
  · subst h2
    obtain rfl := len0 hn
    clear hn
    go_enter Tryd.func27, Tryd.ntmps27
    go_wp2
    refine bodyPost_ret (v := .tuple #[lnV ⟨9, E0, E0, E0, 0, false⟩, .bool true]) (by simp [results, Tryd.results27, go_sem, lnV, E0]) rfl ?_
    exact end_good _ (by rw [HL.out]; exact rfl) (World.grownBy_alloc _ _ _)
  · have n1 : ((n : Int) + 1 == 1) = false := by simp; omega
    have n2 : ((n : Int) == 0) = false := by simp; omega
    have n3 : ¬ (n : Int) = 0 := by omega
    have HM : Hid (V ≠ []) := by show _ ≠ _; intro e; rw [e] at hn; exact h2 hn.symm
    clear hn h2
    go_enter Tryd.func27, Tryd.ntmps27
    go_wp2
    refine bodyPost_ret (v := .tuple #[lnV ⟨9, E0, E0, E0, 0, false⟩, .bool false]) (by simp [results, Tryd.results27, go_sem, lnV, E0]) rfl ?_
    exact end_bad8 _ (by rw [HL.out]; exact end_no 9 (by decide) V HM.out) (World.grownBy_alloc _ _ _)

set_option maxRecDepth 1000000
set_option maxHeartbeats 4000000 in
theorem lineR_k10 (V : List ByteArray) (n cp B : Nat) (a0 : Option Addr) (w : World) (hn : V.length = n) (hn8 : n + 1 ≤ 8000000) (hB : B ≤ w.heap.size) (hP0 : PartS w B (.slice a0 (n + 1) cp) (⟨#[101, 110, 100]⟩ :: V)) (hs : ∀ x ∈ V, x.size ≤ 1000000) :
    Calls Tryd.prog 27 #[.slice a0 (n + 1) cp] w (LineTo (⟨#[101, 110, 100]⟩ :: V) w) := by
  have hkk : kindS ⟨#[101, 110, 100]⟩ = 10 := by kernel_rfl
  have HL := Lib.hid (lineOf_key ⟨#[101, 110, 100]⟩ 10 V hkk)
  have hqq : isQ ⟨#[101, 110, 100]⟩ = false := by kernel_rfl
  have HQQ := Lib.hid hqq
  clear hkk hqq
  obtain ⟨b0, o0, rfl, hb0, _⟩ := hP0.at 0 _ rfl
  obtain ⟨_, _, e3, hcap, _⟩ := hP0.form
  have ec := (Value.slice.inj e3).2.2
  simp only [List.length_cons] at hcap
  rw [← ec, hn] at hcap
  clear e3 ec
  have g0 := World.grownBy_alloc w (.cells #[.int .i64 0, .string ⟨#[]⟩, .string ⟨#[]⟩, .string ⟨#[]⟩, .int .i64 0, .bool false] 41) none
  have hP := hP0.stays g0
  have q0 := hP.cellP 0 _ rfl
  rw [Nat.add_zero] at q0
  have HG := Lib.hid g0
  have HP := Lib.hid hP
  have HV := Lib.hid hs
  clear g0 hP hP0 hs
  have n5 : ¬ b0 = w.heap.size := by omega
  have n6 : ¬ w.heap.size = b0 := by omega
  by_cases h2 : n = 0
  · subst h2
    obtain rfl := len0 hn
    clear hn
    go_enter Tryd.func27, Tryd.ntmps27
    go_wp2
    refine bodyPost_ret (v := .tuple #[lnV ⟨10, E0, E0, E0, 0, false⟩, .bool true]) (by simp [results, Tryd.results27, go_sem, lnV, E0]) rfl ?_
    exact end_good _ (by rw [HL.out]; exact rfl) (World.grownBy_alloc _ _ _)
  · have n1 : ((n : Int) + 1 == 1) = false := by simp; omega
    have n2 : ((n : Int) == 0) = false := by simp; omega
    have n3 : ¬ (n : Int) = 0 := by omega
    have HM : Hid (V ≠ []) := by show _ ≠ _; intro e; rw [e] at hn; exact h2 hn.symm
    clear hn h2
    go_enter Tryd.func27, Tryd.ntmps27
    go_wp2
    refine bodyPost_ret (v := .tuple #[lnV ⟨10, E0, E0, E0, 0, false⟩, .bool false]) (by simp [results, Tryd.results27, go_sem, lnV, E0]) rfl ?_
    exact end_bad8 _ (by rw [HL.out]; exact end_no 10 (by decide) V HM.out) (World.grownBy_alloc _ _ _)
end Go.Proofs.YtmjdkgbblccpgaaDoor
