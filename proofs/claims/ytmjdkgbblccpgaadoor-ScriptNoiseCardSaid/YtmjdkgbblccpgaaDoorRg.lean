/- The reference's line: repeat; unknown words. -/
import Derived.Test.YtmjdkgbblccpgaaDoorRb
namespace Go.Proofs.YtmjdkgbblccpgaaDoor
open Go.RowKit

theorem rep_none (x : ByteArray) (h : repP x = none) : lineK 8 [x] = none := by simp [lineK, h]
theorem rep_yes (x : ByteArray) (N : Nat) (h : numP x = some N) (hN : N ≤ 1000) : lineK 8 [x] = some ⟨8, E0, E0, E0, (N : Int), false⟩ := by
  have e : repP x = some N := by unfold repP; rw [h]; simp [hN]
  simp [lineK, e]
theorem rep_no (x : ByteArray) (N : Nat) (h : numP x = some N) (hN : ¬ N ≤ 1000) : lineK 8 [x] = none := by
  have e : repP x = none := by unfold repP; rw [h]; simp [hN]
  simp [lineK, e]

set_option maxRecDepth 1000000
set_option maxHeartbeats 4000000 in
theorem lineR_k8 (V : List ByteArray) (n cp B : Nat) (a0 : Option Addr) (w : World) (hn : V.length = n) (hn8 : n + 1 ≤ 8000000) (hB : B ≤ w.heap.size) (hP0 : PartS w B (.slice a0 (n + 1) cp) (⟨#[114, 101, 112, 101, 97, 116]⟩ :: V)) (hs : ∀ x ∈ V, x.size ≤ 1000000) (hne : ∀ x ∈ V, 0 < x.size) :
    Calls Tryd.prog 27 #[.slice a0 (n + 1) cp] w (LineTo (⟨#[114, 101, 112, 101, 97, 116]⟩ :: V) w) := by
  have hkk : kindS ⟨#[114, 101, 112, 101, 97, 116]⟩ = 8 := by kernel_rfl
  have HL := Lib.hid (lineOf_key ⟨#[114, 101, 112, 101, 97, 116]⟩ 8 V hkk)
  have hqq : isQ ⟨#[114, 101, 112, 101, 97, 116]⟩ = false := by kernel_rfl
  have HQQ := Lib.hid hqq
  clear hkk hqq
  obtain ⟨b0, o0, rfl, hb0, _⟩ := hP0.at 0 _ rfl
  obtain ⟨_, _, e3, hcap, _⟩ := hP0.form
  have ec := (Value.slice.inj e3).2.2
  simp only [List.length_cons] at hcap
  rw [← ec, hn] at hcap
  clear e3 ec
  have g0 := World.grownBy_alloc w (.cells #[.int .i64 0, .string ⟨#[]⟩, .string ⟨#[]⟩, .string ⟨#[]⟩, .int .i64 0, .bool false] 41) none
  have hP := hP0.stays g0
  have q0 := hP.cellP 0 _ rfl
  rw [Nat.add_zero] at q0
  have HG := Lib.hid g0
  have HP := Lib.hid hP
  have HV := Lib.hid hs
  clear g0 hP hP0 hs
  have n5 : ¬ b0 = w.heap.size := by omega
  have n6 : ¬ w.heap.size = b0 := by omega
  by_cases h2 : n = 1
  · subst h2
    obtain ⟨x, rfl⟩ := len1 hn
    have q1 := HP.out.cellP 1 x rfl
    have hx0 := hne x (by simp)
    clear hn hne
    by_cases h9 : 9 < x.size
    · have d9 : decide ((x.size : Int) ≤ 9) = false := by simp; omega
      have HE : Hid (repP x = none) := by show _ = _; unfold repP numP; rw [if_pos (.inr h9)]
      clear h9
      go_enter Tryd.func27, Tryd.ntmps27
      go_wp2
      refine bodyPost_ret (v := .tuple #[lnV ⟨0, E0, E0, E0, 0, false⟩, .bool false]) (by simp [results, Tryd.results27, go_sem, lnV, E0]) rfl ?_
      exact end_bad (by rw [HL.out]; exact rep_none x HE.out) HG.out
    · have d9 : decide ((x.size : Int) ≤ 9) = true := by simp; omega
      have HE : Hid (numP x = if x.data.toList.all digU then some (natOf x.data.toList) else none) := by show _ = _; unfold numP; rw [if_neg (by omega)]
      go_enter Tryd.func27, Tryd.ntmps27
      go_wp2
      go_loop [8, 9] (fun s i => ∃ k : Nat, k ≤ x.size ∧ i = .int .i64 k ∧ s = .int .i64 (natOf (x.data.toList.take k) : Int) ∧ Hid ((x.data.toList.take k).all digU = true)) (fun _ i => x.size - (intOf i).toNat)
      case atStart => exact ⟨0, Nat.zero_le _, rfl, rfl, rfl⟩
      case round =>
        obtain ⟨k, hk, rfl, rfl, hA⟩ := hrel
        have hlt9 : natOf (x.data.toList.take k) < 1000000000 := by
          have h1 := natOf_lt k (x.data.toList.take k) (by rw [List.length_take, data_len]; omega) hA.out
          have h2 : 10 ^ k ≤ 10 ^ 9 := Nat.pow_le_pow_right (by omega) (by omega)
          omega
        by_cases hlt : k < x.size
        · obtain ⟨c, hc⟩ : ∃ c, x[k] = c := ⟨_, rfl⟩
          have hcb : byteAt x k = c := by rw [byteAt_eq x k hlt]; exact hc
          have hc2 := c.toNat_lt
          by_cases hd : digU c = true
          · have HA2 := Lib.hid (all_take x k hlt hA.out (by rw [hcb]; exact hd))
            have HN2 : Hid (natOf (x.data.toList.take (k + 1)) = 10 * natOf (x.data.toList.take k) + (c.toNat - 48)) := by
              show _ = _
              rw [take_snocB x k hlt, natOf_snoc, hcb]
            simp only [digU, decide_eq_true_eq] at hd
            have b1 : decide ((c.toNat : Int) < 48) = false := by simp; omega
            have b2 : decide (57 < (c.toNat : Int)) = false := by simp; omega
            have b3 : 48 ≤ (c.toNat : Int) := by omega
            have b4 : (c.toNat : Int) ≤ 57 := by omega
            obtain ⟨N, hN⟩ : ∃ N, natOf (x.data.toList.take k) = N := ⟨_, rfl⟩
            rw [hN] at hlt9 HN2 ⊢
            clear hd hN hcb
            go_wp2
            go_round
            case rel =>
              refine ⟨k + 1, by omega, by go_num, ?_, HA2.out⟩
              rw [HN2.out]
              congr 1
              omega
            case measure => simp [intOf]; omega
          · have hd' : digU c = false := by simpa using hd
            have HE2 : Hid (repP x = none) := by show _ = _; unfold repP; rw [HE.out, all_byte x k hlt (by rw [hcb]; exact hd')]; rfl
            have h3 : (c.toNat : Int) < 48 ∨ (decide ((c.toNat : Int) < 48) = false ∧ 57 < (c.toNat : Int)) := by
              simp only [digU, decide_eq_true_eq] at hd
              by_cases h : (c.toNat : Int) < 48
              · exact .inl h
              · exact .inr ⟨decide_eq_false h, by omega⟩
            clear hd hd' hcb
            rcases h3 with h3 | ⟨h3, h4⟩
            all_goals
              go_wp2
              refine bodyPost_ret (v := .tuple #[lnV ⟨0, E0, E0, E0, 0, false⟩, .bool false]) (by simp [results, Tryd.results27, go_sem, lnV, E0]) rfl ?_
              exact end_bad (by rw [HL.out]; exact rep_none x HE2.out) HG.out
        · have hkx : k = x.size := by omega
          subst hkx
          have hall := hA.out
          have ht : x.data.toList.take x.size = x.data.toList := List.take_of_length_le (by rw [data_len]; exact Nat.le_refl _)
          rw [ht] at hall hlt9 ⊢
          have HE2 : Hid (numP x = some (natOf x.data.toList)) := by show _ = _; rw [HE.out, if_pos hall]
          obtain ⟨N, hN⟩ : ∃ N, natOf x.data.toList = N := ⟨_, rfl⟩
          rw [hN] at hlt9 HE2 ⊢
          clear hlt hk ht hall hN
          by_cases h1000 : N ≤ 1000
          · have d1000 : decide ((N : Int) ≤ 1000) = true := by simp; omega
            have HR := Lib.hid (rep_yes x N HE2.out h1000)
            clear h1000
            go_wp2
            refine bodyPost_ret (v := .tuple #[lnV ⟨8, E0, E0, E0, (N : Int), false⟩, .bool true]) (by simp [results, Tryd.results27, go_sem, lnV, E0]) rfl ?_
            exact end_good _ (by rw [HL.out]; exact HR.out) (World.grownBy_alloc _ _ _)
          · have d1000 : decide ((N : Int) ≤ 1000) = false := by simp; omega
            have HR := Lib.hid (rep_no x N HE2.out h1000)
            clear h1000
            go_wp2
            refine bodyPost_ret (v := .tuple #[lnV ⟨8, E0, E0, E0, (N : Int), false⟩, .bool false]) (by simp [results, Tryd.results27, go_sem, lnV, E0]) rfl ?_
            exact end_bad8 _ (by rw [HL.out]; exact HR.out) (World.grownBy_alloc _ _ _)
  · have n1 : ((n : Int) + 1 == 2) = false := by simp; omega
    have HN := Lib.hid hn
    have HM : Hid (V.length ≠ 1) := by show _ ≠ _; rw [hn]; exact h2
    clear hn h2 hne
    go_enter Tryd.func27, Tryd.ntmps27
    go_wp2
    refine bodyPost_ret (v := .tuple #[lnV ⟨0, E0, E0, E0, 0, false⟩, .bool false]) (by simp [results, Tryd.results27, go_sem, lnV, E0]) rfl ?_
    exact end_bad (by rw [HL.out]; exact no_one 8 (by decide) V HM.out) HG.out

set_option maxRecDepth 1000000
set_option maxHeartbeats 4000000 in
theorem lineR_none (x : ByteArray) (V : List ByteArray) (n cp B : Nat) (a0 : Option Addr) (w : World) (hn : V.length = n) (hn8 : n + 1 ≤ 8000000) (hB : B ≤ w.heap.size) (hP0 : PartS w B (.slice a0 (n + 1) cp) (x :: V)) (hx : ∀ y ∈ keyW, ¬ x = y) (hkk : kindS x = -1) :
    Calls Tryd.prog 27 #[.slice a0 (n + 1) cp] w (LineTo (x :: V) w) := by
  have HL := Lib.hid (lineOf_key x (-1) V hkk)
  clear hkk
  obtain ⟨b0, o0, rfl, hb0, _⟩ := hP0.at 0 _ rfl
  have g0 := World.grownBy_alloc w (.cells #[.int .i64 0, .string ⟨#[]⟩, .string ⟨#[]⟩, .string ⟨#[]⟩, .int .i64 0, .bool false] 41) none
  have q0 := (hP0.stays g0).cellP 0 _ rfl
  rw [Nat.add_zero] at q0
  have HG := Lib.hid g0
  clear g0 hP0
  have f0 := nb_list x [99, 111, 112, 121] (hx ⟨#[99, 111, 112, 121]⟩ (by simp [keyW]))
  have g0 := ne_list x [99, 111, 112, 121] (hx ⟨#[99, 111, 112, 121]⟩ (by simp [keyW]))
  have f1 := nb_list x [119, 114, 105, 116, 101] (hx ⟨#[119, 114, 105, 116, 101]⟩ (by simp [keyW]))
  have g1 := ne_list x [119, 114, 105, 116, 101] (hx ⟨#[119, 114, 105, 116, 101]⟩ (by simp [keyW]))
  have f2 := nb_list x [97, 112, 112, 101, 110, 100] (hx ⟨#[97, 112, 112, 101, 110, 100]⟩ (by simp [keyW]))
  have g2 := ne_list x [97, 112, 112, 101, 110, 100] (hx ⟨#[97, 112, 112, 101, 110, 100]⟩ (by simp [keyW]))
  have f3 := nb_list x [109, 107, 100, 105, 114] (hx ⟨#[109, 107, 100, 105, 114]⟩ (by simp [keyW]))
  have g3 := ne_list x [109, 107, 100, 105, 114] (hx ⟨#[109, 107, 100, 105, 114]⟩ (by simp [keyW]))
  have f4 := nb_list x [114, 101, 109, 111, 118, 101] (hx ⟨#[114, 101, 109, 111, 118, 101]⟩ (by simp [keyW]))
  have g4 := ne_list x [114, 101, 109, 111, 118, 101] (hx ⟨#[114, 101, 109, 111, 118, 101]⟩ (by simp [keyW]))
  have f5 := nb_list x [114, 101, 110, 97, 109, 101] (hx ⟨#[114, 101, 110, 97, 109, 101]⟩ (by simp [keyW]))
  have g5 := ne_list x [114, 101, 110, 97, 109, 101] (hx ⟨#[114, 101, 110, 97, 109, 101]⟩ (by simp [keyW]))
  have f6 := nb_list x [115, 101, 116] (hx ⟨#[115, 101, 116]⟩ (by simp [keyW]))
  have g6 := ne_list x [115, 101, 116] (hx ⟨#[115, 101, 116]⟩ (by simp [keyW]))
  have f7 := nb_list x [105, 102] (hx ⟨#[105, 102]⟩ (by simp [keyW]))
  have g7 := ne_list x [105, 102] (hx ⟨#[105, 102]⟩ (by simp [keyW]))
  have f8 := nb_list x [114, 101, 112, 101, 97, 116] (hx ⟨#[114, 101, 112, 101, 97, 116]⟩ (by simp [keyW]))
  have g8 := ne_list x [114, 101, 112, 101, 97, 116] (hx ⟨#[114, 101, 112, 101, 97, 116]⟩ (by simp [keyW]))
  have f9 := nb_list x [101, 108, 115, 101] (hx ⟨#[101, 108, 115, 101]⟩ (by simp [keyW]))
  have g9 := ne_list x [101, 108, 115, 101] (hx ⟨#[101, 108, 115, 101]⟩ (by simp [keyW]))
  have f10 := nb_list x [101, 110, 100] (hx ⟨#[101, 110, 100]⟩ (by simp [keyW]))
  have g10 := ne_list x [101, 110, 100] (hx ⟨#[101, 110, 100]⟩ (by simp [keyW]))
  have f11 := nb_list x [102, 97, 105, 108] (hx ⟨#[102, 97, 105, 108]⟩ (by simp [keyW]))
  have g11 := ne_list x [102, 97, 105, 108] (hx ⟨#[102, 97, 105, 108]⟩ (by simp [keyW]))
  clear hx
  go_enter Tryd.func27, Tryd.ntmps27
  go_wp2
  refine bodyPost_ret (v := .tuple #[lnV ⟨0, E0, E0, E0, 0, false⟩, .bool false]) (by simp [results, Tryd.results27, go_sem, lnV, E0]) rfl ?_
  exact end_bad (by rw [HL.out]; exact by unfold lineK; simp) HG.out
end Go.Proofs.YtmjdkgbblccpgaaDoor
