/- The reference's line: copy, rename, mkdir, remove. -/
import Derived.Test.YtmjdkgbblccpgaaDoorRb
namespace Go.Proofs.YtmjdkgbblccpgaaDoor
open Go.RowKit

set_option maxRecDepth 1000000
set_option maxHeartbeats 4000000 in
theorem lineR_k0 (V : List ByteArray) (n cp B : Nat) (a0 : Option Addr) (w : World) (hn : V.length = n) (hn8 : n + 1 ≤ 8000000) (hB : B ≤ w.heap.size) (hP0 : PartS w B (.slice a0 (n + 1) cp) (⟨#[99, 111, 112, 121]⟩ :: V)) (hs : ∀ x ∈ V, x.size ≤ 1000000) :
    Calls Tryd.prog 27 #[.slice a0 (n + 1) cp] w (LineTo (⟨#[99, 111, 112, 121]⟩ :: V) w) := by
  have hkk : kindS ⟨#[99, 111, 112, 121]⟩ = 0 := by kernel_rfl
  have HL := Lib.hid (lineOf_key ⟨#[99, 111, 112, 121]⟩ 0 V hkk)
  have hqq : isQ ⟨#[99, 111, 112, 121]⟩ = false := by kernel_rfl
  have HQQ := Lib.hid hqq
  clear hkk hqq
  obtain ⟨b0, o0, rfl, hb0, _⟩ := hP0.at 0 _ rfl
  obtain ⟨_, _, e3, hcap, _⟩ := hP0.form
  have ec := (Value.slice.inj e3).2.2
  simp only [List.length_cons] at hcap
  rw [← ec, hn] at hcap
  clear e3 ec
  have g0 := World.grownBy_alloc w (.cells #[.int .i64 0, .string ⟨#[]⟩, .string ⟨#[]⟩, .string ⟨#[]⟩, .int .i64 0, .bool false] 41) none
  have hP := hP0.stays g0
  have q0 := hP.cellP 0 _ rfl
  rw [Nat.add_zero] at q0
  have HG := Lib.hid g0
  have HP := Lib.hid hP
  have HV := Lib.hid hs
  clear g0 hP hP0 hs
  have n5 : ¬ b0 = w.heap.size := by omega
  have n6 : ¬ w.heap.size = b0 := by omega
  by_cases h2 : n = 2
  · subst h2
    obtain ⟨a, b, rfl⟩ := len2 hn
    have q1 := HP.out.cellP 1 a rfl
    have q2 := HP.out.cellP 2 b rfl
    have HVA : Hid (∀ x ∈ (⟨#[99, 111, 112, 121]⟩ : ByteArray) :: [a, b], x.size ≤ 1000000) := fun x hx => by
      rcases List.mem_cons.1 hx with rfl | hx
      · decide
      · exact HV.out x hx
    have HPC := Lib.hid (plain_cons ⟨#[99, 111, 112, 121]⟩ [a, b] HQQ.out)
    clear hn
    go_enter Tryd.func27, Tryd.ntmps27
    go_wp2_with fail
    obtain ⟨p, hp⟩ : ∃ p, plainW8 (⟨#[99, 111, 112, 121]⟩ :: [a, b]) = p := ⟨_, rfl⟩
    have hc := plainR_any (⟨#[99, 111, 112, 121]⟩ :: [a, b]) B 3 cp _ _ rfl (by omega) HP.out (fun x hx => HVA.out x hx)
    rw [hp] at hc
    have HC := Lib.hid hc
    have HQ := Lib.hid hp
    clear hc hp
    cases p
    · (with_reducible refine HC.out.mono ?_)
      rintro ee w1 ⟨rfl, rfl⟩
      dsimp only
      go_wp2
      refine bodyPost_ret (v := .tuple #[lnV ⟨0, E0, E0, E0, 0, false⟩, .bool false]) (by simp [results, Tryd.results27, go_sem, lnV, E0]) rfl ?_
      exact end_bad (by rw [HL.out]; exact two_no 0 (by decide) a b (by rw [← HPC.out]; exact HQ.out)) HG.out
    · (with_reducible refine HC.out.mono ?_)
      rintro ee w1 ⟨rfl, rfl⟩
      dsimp only
      go_wp2
      go_region
      go_wp2
      refine bodyPost_ret (v := .tuple #[lnV ⟨0, a, b, E0, 0, false⟩, .bool true]) (by simp [results, Tryd.results27, go_sem, lnV, E0]) rfl ?_
      exact end_good _ (by rw [HL.out]; exact two_yes 0 (by decide) a b (by rw [← HPC.out]; exact HQ.out)) (grown_drew 1 (World.grownBy_alloc _ _ _))
  · have n1 : ((n : Int) + 1 == 3) = false := by simp; omega
    have HN := Lib.hid hn
    have HM : Hid (V.length ≠ 2) := by show _ ≠ _; rw [hn]; exact h2
    clear hn h2
    go_enter Tryd.func27, Tryd.ntmps27
    go_wp2
    refine bodyPost_ret (v := .tuple #[lnV ⟨0, E0, E0, E0, 0, false⟩, .bool false]) (by simp [results, Tryd.results27, go_sem, lnV, E0]) rfl ?_
    exact end_bad (by rw [HL.out]; exact no_two 0 (by decide) V HM.out) HG.out

set_option maxRecDepth 1000000
set_option maxHeartbeats 4000000 in
theorem lineR_k5 (V : List ByteArray) (n cp B : Nat) (a0 : Option Addr) (w : World) (hn : V.length = n) (hn8 : n + 1 ≤ 8000000) (hB : B ≤ w.heap.size) (hP0 : PartS w B (.slice a0 (n + 1) cp) (⟨#[114, 101, 110, 97, 109, 101]⟩ :: V)) (hs : ∀ x ∈ V, x.size ≤ 1000000) :
    Calls Tryd.prog 27 #[.slice a0 (n + 1) cp] w (LineTo (⟨#[114, 101, 110, 97, 109, 101]⟩ :: V) w) := by
  have hkk : kindS ⟨#[114, 101, 110, 97, 109, 101]⟩ = 5 := by kernel_rfl
  have HL := Lib.hid (lineOf_key ⟨#[114, 101, 110, 97, 109, 101]⟩ 5 V hkk)
  have hqq : isQ ⟨#[114, 101, 110, 97, 109, 101]⟩ = false := by kernel_rfl
  have HQQ := Lib.hid hqq
  clear hkk hqq
  obtain ⟨b0, o0, rfl, hb0, _⟩ := hP0.at 0 _ rfl
  obtain ⟨_, _, e3, hcap, _⟩ := hP0.form
  have ec := (Value.slice.inj e3).2.2
  simp only [List.length_cons] at hcap
  rw [← ec, hn] at hcap
  clear e3 ec
  have g0 := World.grownBy_alloc w (.cells #[.int .i64 0, .string ⟨#[]⟩, .string ⟨#[]⟩, .string ⟨#[]⟩, .int .i64 0, .bool false] 41) none
  have hP := hP0.stays g0
  have q0 := hP.cellP 0 _ rfl
  rw [Nat.add_zero] at q0
  have HG := Lib.hid g0
  have HP := Lib.hid hP
  have HV := Lib.hid hs
  clear g0 hP hP0 hs
  have n5 : ¬ b0 = w.heap.size := by omega
  have n6 : ¬ w.heap.size = b0 := by omega
  by_cases h2 : n = 2
  · subst h2
    obtain ⟨a, b, rfl⟩ := len2 hn
    have q1 := HP.out.cellP 1 a rfl
    have q2 := HP.out.cellP 2 b rfl
    have HVA : Hid (∀ x ∈ (⟨#[114, 101, 110, 97, 109, 101]⟩ : ByteArray) :: [a, b], x.size ≤ 1000000) := fun x hx => by
      rcases List.mem_cons.1 hx with rfl | hx
      · decide
      · exact HV.out x hx
    have HPC := Lib.hid (plain_cons ⟨#[114, 101, 110, 97, 109, 101]⟩ [a, b] HQQ.out)
    clear hn
    go_enter Tryd.func27, Tryd.ntmps27
    go_wp2_with fail
    obtain ⟨p, hp⟩ : ∃ p, plainW8 (⟨#[114, 101, 110, 97, 109, 101]⟩ :: [a, b]) = p := ⟨_, rfl⟩
    have hc := plainR_any (⟨#[114, 101, 110, 97, 109, 101]⟩ :: [a, b]) B 3 cp _ _ rfl (by omega) HP.out (fun x hx => HVA.out x hx)
    rw [hp] at hc
    have HC := Lib.hid hc
    have HQ := Lib.hid hp
    clear hc hp
    cases p
    · (with_reducible refine HC.out.mono ?_)
      rintro ee w1 ⟨rfl, rfl⟩
      dsimp only
      go_wp2
      refine bodyPost_ret (v := .tuple #[lnV ⟨0, E0, E0, E0, 0, false⟩, .bool false]) (by simp [results, Tryd.results27, go_sem, lnV, E0]) rfl ?_
      exact end_bad (by rw [HL.out]; exact two_no 5 (by decide) a b (by rw [← HPC.out]; exact HQ.out)) HG.out
    · (with_reducible refine HC.out.mono ?_)
      rintro ee w1 ⟨rfl, rfl⟩
      dsimp only
      go_wp2
      go_region
      go_wp2
      refine bodyPost_ret (v := .tuple #[lnV ⟨5, a, b, E0, 0, false⟩, .bool true]) (by simp [results, Tryd.results27, go_sem, lnV, E0]) rfl ?_
      exact end_good _ (by rw [HL.out]; exact two_yes 5 (by decide) a b (by rw [← HPC.out]; exact HQ.out)) (grown_drew 1 (World.grownBy_alloc _ _ _))
  · have n1 : ((n : Int) + 1 == 3) = false := by simp; omega
    have HN := Lib.hid hn
    have HM : Hid (V.length ≠ 2) := by show _ ≠ _; rw [hn]; exact h2
    clear hn h2
    go_enter Tryd.func27, Tryd.ntmps27
    go_wp2
    refine bodyPost_ret (v := .tuple #[lnV ⟨0, E0, E0, E0, 0, false⟩, .bool false]) (by simp [results, Tryd.results27, go_sem, lnV, E0]) rfl ?_
    exact end_bad (by rw [HL.out]; exact no_two 5 (by decide) V HM.out) HG.out

set_option maxRecDepth 1000000
set_option maxHeartbeats 4000000 in
theorem lineR_k3 (V : List ByteArray) (n cp B : Nat) (a0 : Option Addr) (w : World) (hn : V.length = n) (hn8 : n + 1 ≤ 8000000) (hB : B ≤ w.heap.size) (hP0 : PartS w B (.slice a0 (n + 1) cp) (⟨#[109, 107, 100, 105, 114]⟩ :: V)) (hs : ∀ x ∈ V, x.size ≤ 1000000) :
    Calls Tryd.prog 27 #[.slice a0 (n + 1) cp] w (LineTo (⟨#[109, 107, 100, 105, 114]⟩ :: V) w) := by
  have hkk : kindS ⟨#[109, 107, 100, 105, 114]⟩ = 3 := by kernel_rfl
  have HL := Lib.hid (lineOf_key ⟨#[109, 107, 100, 105, 114]⟩ 3 V hkk)
  have hqq : isQ ⟨#[109, 107, 100, 105, 114]⟩ = false := by kernel_rfl
  have HQQ := Lib.hid hqq
  clear hkk hqq
  obtain ⟨b0, o0, rfl, hb0, _⟩ := hP0.at 0 _ rfl
  obtain ⟨_, _, e3, hcap, _⟩ := hP0.form
  have ec := (Value.slice.inj e3).2.2
  simp only [List.length_cons] at hcap
  rw [← ec, hn] at hcap
  clear e3 ec
  have g0 := World.grownBy_alloc w (.cells #[.int .i64 0, .string ⟨#[]⟩, .string ⟨#[]⟩, .string ⟨#[]⟩, .int .i64 0, .bool false] 41) none
  have hP := hP0.stays g0
  have q0 := hP.cellP 0 _ rfl
  rw [Nat.add_zero] at q0
  have HG := Lib.hid g0
  have HP := Lib.hid hP
  have HV := Lib.hid hs
  clear g0 hP hP0 hs
  have n5 : ¬ b0 = w.heap.size := by omega
  have n6 : ¬ w.heap.size = b0 := by omega
  by_cases h2 : n = 1
  · subst h2
    obtain ⟨a, rfl⟩ := len1 hn
    have q1 := HP.out.cellP 1 a rfl
    have HVA : Hid (∀ x ∈ (⟨#[109, 107, 100, 105, 114]⟩ : ByteArray) :: [a], x.size ≤ 1000000) := fun x hx => by
      rcases List.mem_cons.1 hx with rfl | hx
      · decide
      · exact HV.out x hx
    have HPC := Lib.hid (plain_cons ⟨#[109, 107, 100, 105, 114]⟩ [a] HQQ.out)
    clear hn
    go_enter Tryd.func27, Tryd.ntmps27
    go_wp2_with fail
    obtain ⟨p, hp⟩ : ∃ p, plainW8 (⟨#[109, 107, 100, 105, 114]⟩ :: [a]) = p := ⟨_, rfl⟩
    have hc := plainR_any (⟨#[109, 107, 100, 105, 114]⟩ :: [a]) B 2 cp _ _ rfl (by omega) HP.out (fun x hx => HVA.out x hx)
    rw [hp] at hc
    have HC := Lib.hid hc
    have HQ := Lib.hid hp
    clear hc hp
    cases p
    · (with_reducible refine HC.out.mono ?_)
      rintro ee w1 ⟨rfl, rfl⟩
      dsimp only
      go_wp2
      refine bodyPost_ret (v := .tuple #[lnV ⟨0, E0, E0, E0, 0, false⟩, .bool false]) (by simp [results, Tryd.results27, go_sem, lnV, E0]) rfl ?_
      exact end_bad (by rw [HL.out]; exact one_no 3 (by decide) a (by rw [← HPC.out]; exact HQ.out)) HG.out
    · (with_reducible refine HC.out.mono ?_)
      rintro ee w1 ⟨rfl, rfl⟩
      dsimp only
      go_wp2
      refine bodyPost_ret (v := .tuple #[lnV ⟨3, a, E0, E0, 0, false⟩, .bool true]) (by simp [results, Tryd.results27, go_sem, lnV, E0]) rfl ?_
      exact end_good _ (by rw [HL.out]; exact one_yes 3 (by decide) a (by rw [← HPC.out]; exact HQ.out)) (World.grownBy_alloc _ _ _)
  · have n1 : ((n : Int) + 1 == 2) = false := by simp; omega
    have HN := Lib.hid hn
    have HM : Hid (V.length ≠ 1) := by show _ ≠ _; rw [hn]; exact h2
    clear hn h2
    go_enter Tryd.func27, Tryd.ntmps27
    go_wp2
    refine bodyPost_ret (v := .tuple #[lnV ⟨0, E0, E0, E0, 0, false⟩, .bool false]) (by simp [results, Tryd.results27, go_sem, lnV, E0]) rfl ?_
    exact end_bad (by rw [HL.out]; exact no_one 3 (by decide) V HM.out) HG.out

set_option maxRecDepth 1000000
set_option maxHeartbeats 4000000 in
theorem lineR_k4 (V : List ByteArray) (n cp B : Nat) (a0 : Option Addr) (w : World) (hn : V.length = n) (hn8 : n + 1 ≤ 8000000) (hB : B ≤ w.heap.size) (hP0 : PartS w B (.slice a0 (n + 1) cp) (⟨#[114, 101, 109, 111, 118, 101]⟩ :: V)) (hs : ∀ x ∈ V, x.size ≤ 1000000) :
    Calls Tryd.prog 27 #[.slice a0 (n + 1) cp] w (LineTo (⟨#[114, 101, 109, 111, 118, 101]⟩ :: V) w) := by
  have hkk : kindS ⟨#[114, 101, 109, 111, 118, 101]⟩ = 4 := by kernel_rfl
  have HL := Lib.hid (lineOf_key ⟨#[114, 101, 109, 111, 118, 101]⟩ 4 V hkk)
  have hqq : isQ ⟨#[114, 101, 109, 111, 118, 101]⟩ = false := by kernel_rfl
  have HQQ := Lib.hid hqq
  clear hkk hqq
  obtain ⟨b0, o0, rfl, hb0, _⟩ := hP0.at 0 _ rfl
  obtain ⟨_, _, e3, hcap, _⟩ := hP0.form
  have ec := (Value.slice.inj e3).2.2
  simp only [List.length_cons] at hcap
  rw [← ec, hn] at hcap
  clear e3 ec
  have g0 := World.grownBy_alloc w (.cells #[.int .i64 0, .string ⟨#[]⟩, .string ⟨#[]⟩, .string ⟨#[]⟩, .int .i64 0, .bool false] 41) none
  have hP := hP0.stays g0
  have q0 := hP.cellP 0 _ rfl
  rw [Nat.add_zero] at q0
  have HG := Lib.hid g0
  have HP := Lib.hid hP
  have HV := Lib.hid hs
  clear g0 hP hP0 hs
  have n5 : ¬ b0 = w.heap.size := by omega
  have n6 : ¬ w.heap.size = b0 := by omega
  by_cases h2 : n = 1
  · subst h2
    obtain ⟨a, rfl⟩ := len1 hn
    have q1 := HP.out.cellP 1 a rfl
    have HVA : Hid (∀ x ∈ (⟨#[114, 101, 109, 111, 118, 101]⟩ : ByteArray) :: [a], x.size ≤ 1000000) := fun x hx => by
      rcases List.mem_cons.1 hx with rfl | hx
      · decide
      · exact HV.out x hx
    have HPC := Lib.hid (plain_cons ⟨#[114, 101, 109, 111, 118, 101]⟩ [a] HQQ.out)
    clear hn
    go_enter Tryd.func27, Tryd.ntmps27
    go_wp2_with fail
    obtain ⟨p, hp⟩ : ∃ p, plainW8 (⟨#[114, 101, 109, 111, 118, 101]⟩ :: [a]) = p := ⟨_, rfl⟩
    have hc := plainR_any (⟨#[114, 101, 109, 111, 118, 101]⟩ :: [a]) B 2 cp _ _ rfl (by omega) HP.out (fun x hx => HVA.out x hx)
    rw [hp] at hc
    have HC := Lib.hid hc
    have HQ := Lib.hid hp
    clear hc hp
    cases p
    · (with_reducible refine HC.out.mono ?_)
      rintro ee w1 ⟨rfl, rfl⟩
      dsimp only
      go_wp2
      refine bodyPost_ret (v := .tuple #[lnV ⟨0, E0, E0, E0, 0, false⟩, .bool false]) (by simp [results, Tryd.results27, go_sem, lnV, E0]) rfl ?_
      exact end_bad (by rw [HL.out]; exact one_no 4 (by decide) a (by rw [← HPC.out]; exact HQ.out)) HG.out
    · (with_reducible refine HC.out.mono ?_)
      rintro ee w1 ⟨rfl, rfl⟩
      dsimp only
      go_wp2
      refine bodyPost_ret (v := .tuple #[lnV ⟨4, a, E0, E0, 0, false⟩, .bool true]) (by simp [results, Tryd.results27, go_sem, lnV, E0]) rfl ?_
      exact end_good _ (by rw [HL.out]; exact one_yes 4 (by decide) a (by rw [← HPC.out]; exact HQ.out)) (World.grownBy_alloc _ _ _)
  · have n1 : ((n : Int) + 1 == 2) = false := by simp; omega
    have HN := Lib.hid hn
    have HM : Hid (V.length ≠ 1) := by show _ ≠ _; rw [hn]; exact h2
    clear hn h2
    go_enter Tryd.func27, Tryd.ntmps27
    go_wp2
    refine bodyPost_ret (v := .tuple #[lnV ⟨0, E0, E0, E0, 0, false⟩, .bool false]) (by simp [results, Tryd.results27, go_sem, lnV, E0]) rfl ?_
    exact end_bad (by rw [HL.out]; exact no_one 4 (by decide) V HM.out) HG.out
end Go.Proofs.YtmjdkgbblccpgaaDoor
