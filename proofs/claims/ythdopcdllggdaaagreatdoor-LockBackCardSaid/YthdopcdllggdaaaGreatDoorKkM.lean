/- The library's merge over pins in order: nothing moves. -/
import Derived.Test.YthdopcdllggdaaaGreatDoorKjM
import Derived.Deep.MidRow
namespace Go.Proofs.YthdopcdllggdaaaGreatDoor
open Go.RowKit

theorem cmp_ge (x y : Pc) (h : lessP y x = false) : ¬ cmpB y.name x.name < 0 := by
  have h2 : lessB y.name x.name = false := h
  unfold cmpB
  rw [h2]
  split
  · rename_i h3; cases h3
  · split <;> omega
theorem grown_sort (w : World) (n : Nat) (os : Array Obj) : w.grownBy (Sort.grow (w.drewN n) os) none :=
  ⟨rfl, rfl, rfl, by simp [Sort.grow, World.drewN], fun k hk _ => by
    show (w.heap ++ os)[k]? = _
    rw [Array.getElem?_append_left hk]⟩
theorem owns_range {w : World} {base g n cap : Nat} {L : List Pc} (hO : OwnsP w base (.slice (some ⟨g, 0, none⟩) n cap) L) (hn : L.length = n) (i : Nat) (p : Pc) (h : L[i]? = some p) : w.rangeAt g (i * 37) p.enc := by
  obtain ⟨b, o, e, _, hr⟩ := (hO.part (Nat.zero_lt_of_lt (hO.block_lt g rfl).2)).at i p h
  have e2 := Option.some.inj e
  injection e2 with e3 e4
  subst e3 e4
  rw [Nat.zero_add] at hr
  exact hr
set_option maxRecDepth 1000000
set_option maxHeartbeats 8000000 in
theorem sym_noop (w0 : World) (base g n cap : Nat) (L : List Pc) (hO : OwnsP w0 base (.slice (some ⟨g, 0, none⟩) n cap) L) (hn : L.length = n) (hn2 : n ≤ 1000000) (ho : OrdP L) :
    ∀ (k a m b : Nat), b - a ≤ k → a < m → m < b → b ≤ n → ∀ w, w0.grownBy w none → Calls Tryz.prog 59 #[.slice (some ⟨g, 0, none⟩) n cap, .int .i64 a, .int .i64 m, .int .i64 b, cmpN] w fun e w' => e = .returned (.tuple #[]) ∧ w0.grownBy w' none := by
  have HNC : Hid (n ≤ cap) := Lib.hid (by obtain ⟨_, _, e, h, _⟩ := hO.form; rw [(Value.slice.inj e).2.2, ← hn]; exact h)
  intro k
  induction k with
  | zero => intro a m b h1 h2 h3 h4; omega
  | succ k ih =>
    intro a m b h1 h2 h3 h4 w hw
    have HW := Lib.hid hw
    have HIH := Lib.hid ih
    have HORD := Lib.hid ho
    have HN := Lib.hid hn
    have HO := Lib.hid hO
    have HAT : Hid (∀ i, i < n → ∃ p, L[i]? = some p) := Lib.hid (fun i hi => ⟨_, List.getElem?_eq_getElem (by rw [HN.out]; exact hi)⟩)
    clear hw ih ho hn hO
    by_cases c1 : m = a + 1
    · have e1 : ((m : Int) - (a : Int) == 1) = true := by simp; omega
      have e2 : ¬ (a : Int) < (m : Int) - 1 := by omega
      have C1 := Lib.hid c1
      clear c1
      go_enter Tryz.func59, Tryz.ntmps59
      go_wp2
      go_loopw [10, 11] (fun i j wr => ∃ jj : Nat, m ≤ jj ∧ jj ≤ b ∧ i = .int .i64 (m : Int) ∧ j = .int .i64 jj ∧ Hid (w0.grownBy wr none)) (fun _ j _ => (intOf j).toNat - m)
      case atStart => exact ⟨b, by omega, by omega, rfl, rfl, HW⟩
      case round =>
        obtain ⟨jj, hj1, hj2, rfl, rfl, HG⟩ := hrel
        by_cases hlt : m < jj
        · go_wp2_with fail
          obtain ⟨h, hh⟩ : ∃ h : Nat, (m + jj) / 2 = h := ⟨_, rfl⟩
          have eh : ((m : Int) + (jj : Int)) / 2 = (h : Int) := by omega
          rw [eh]
          have hb1 : a < h := by omega
          have hb2 : h < jj := by omega
          have hb3 : m ≤ h := by omega
          clear hh eh
          obtain ⟨x, hx⟩ := HAT.out a (by omega)
          obtain ⟨y, hy⟩ := HAT.out h (by omega)
          have hc : ¬ cmpB y.name x.name < 0 := cmp_ge x y (HORD.out a h x y hb1 hx hy)
          have HC : Hid (decide (cmpB y.name x.name < 0) = false) := Lib.hid (decide_eq_false hc)
          have HRX := Lib.hid (range_stays (owns_range HO.out HN.out a x hx) HG.out (by simp))
          have HRY := Lib.hid (range_stays (owns_range HO.out HN.out h y hy) HG.out (by simp))
          have hn3 : h < n := by omega
          have hn4 : a < n := by omega
          clear hx hy hc
          refine wp_region_noPanic ?_
          refine wp_region_held_drew (S := fun V => wr.grownBy V none) (by kernel_rfl) (grown_drew 1 (World.grownBy.refl _ _)) (fun g0 => ?_)
          refine wpAnyH_take (i := 0) (v := cmpN) rfl (by kernel_rfl) (by kernel_rfl) (by kernel_rfl) (fun _ _ _ h => h) (Or.inl ⟨by rfl, fun V' hV' => ?_⟩) g0 ?_
          · rfl
          try simp only [Act.put, List.getElem_toArray, List.getElem_cons_zero, List.setIfInBounds_toArray, List.set_cons_zero, List.set_cons_succ]
          refine wpAnyH_take (i := 1) (v := .slice (some ⟨g, 0, none⟩) n cap) rfl (by kernel_rfl) (by kernel_rfl) (by kernel_rfl) (fun _ _ _ h => h) (Or.inl ⟨by rfl, fun V' hV' => ?_⟩) g0 ?_
          · rfl
          try simp only [Act.put, List.getElem_toArray, List.getElem_cons_zero, List.getElem_cons_succ, List.setIfInBounds_toArray, List.set_cons_zero, List.set_cons_succ]
          refine wpAnyH_take (i := 2) (v := .int .i64 h) rfl (by kernel_rfl) (by kernel_rfl) (by kernel_rfl) (fun _ _ _ h => h) (Or.inl ⟨by rfl, fun V' hV' => ?_⟩) g0 ?_
          · rfl
          try simp only [Act.put, List.getElem_toArray, List.getElem_cons_zero, List.getElem_cons_succ, List.setIfInBounds_toArray, List.set_cons_zero, List.set_cons_succ]
          refine wpAnyH_take (i := 3) (v := .pointer (some ⟨g, h * 37, none⟩)) rfl (by kernel_rfl) (by kernel_rfl) (by kernel_rfl) (fun _ _ _ h => h) (Or.inl ⟨by rfl, fun V' hV' => ?_⟩) g0 ?_
          · go_simp
            first | done | omega
          try simp only [Act.put, List.getElem_toArray, List.getElem_cons_zero, List.getElem_cons_succ, List.setIfInBounds_toArray, List.set_cons_zero, List.set_cons_succ]
          refine wpAnyH_take (i := 4) (v := .agg y.enc.toArray) rfl (by kernel_rfl) (by kernel_rfl) (by kernel_rfl) (fun _ _ _ h => h) (Or.inl ⟨by rfl, fun V' hV' => ?_⟩) g0 ?_
          · have h := run_loadAt_mid (P := Tryz.prog) V' g (h * 37) 35 y.enc _ (range_stays HRY.out hV' (by simp)) Tryz.underlying35 rfl (by rw [enc_len]; exact infoP_size)
            simp [execOp, Act.eval, h, Result.andThen]
          try simp only [Act.put, List.getElem_toArray, List.getElem_cons_zero, List.getElem_cons_succ, List.setIfInBounds_toArray, List.set_cons_zero, List.set_cons_succ]
          refine wpAnyH_take (i := 5) (v := .slice (some ⟨g, 0, none⟩) n cap) rfl (by kernel_rfl) (by kernel_rfl) (by kernel_rfl) (fun _ _ _ h => h) (Or.inl ⟨by rfl, fun V' hV' => ?_⟩) g0 ?_
          · rfl
          try simp only [Act.put, List.getElem_toArray, List.getElem_cons_zero, List.getElem_cons_succ, List.setIfInBounds_toArray, List.set_cons_zero, List.set_cons_succ]
          refine wpAnyH_take (i := 6) (v := .int .i64 a) rfl (by kernel_rfl) (by kernel_rfl) (by kernel_rfl) (fun _ _ _ h => h) (Or.inl ⟨by rfl, fun V' hV' => ?_⟩) g0 ?_
          · rfl
          try simp only [Act.put, List.getElem_toArray, List.getElem_cons_zero, List.getElem_cons_succ, List.setIfInBounds_toArray, List.set_cons_zero, List.set_cons_succ]
          refine wpAnyH_take (i := 7) (v := .pointer (some ⟨g, a * 37, none⟩)) rfl (by kernel_rfl) (by kernel_rfl) (by kernel_rfl) (fun _ _ _ h => h) (Or.inl ⟨by rfl, fun V' hV' => ?_⟩) g0 ?_
          · go_simp
            first | done | omega
          try simp only [Act.put, List.getElem_toArray, List.getElem_cons_zero, List.getElem_cons_succ, List.setIfInBounds_toArray, List.set_cons_zero, List.set_cons_succ]
          refine wpAnyH_take (i := 8) (v := .agg x.enc.toArray) rfl (by kernel_rfl) (by kernel_rfl) (by kernel_rfl) (fun _ _ _ h => h) (Or.inl ⟨by rfl, fun V' hV' => ?_⟩) g0 ?_
          · have h := run_loadAt_mid (P := Tryz.prog) V' g (a * 37) 35 x.enc _ (range_stays HRX.out hV' (by simp)) Tryz.underlying35 rfl (by rw [enc_len]; exact infoP_size)
            simp [execOp, Act.eval, h, Result.andThen]
          try simp only [Act.put, List.getElem_toArray, List.getElem_cons_zero, List.getElem_cons_succ, List.setIfInBounds_toArray, List.set_cons_zero, List.set_cons_succ]
          refine wpAnyH_ready (rs := [9]) (by kernel_rfl) (by simp) ?_
          refine AllReadyH.cons rfl (fun K hK => ?_) AllReadyH.nil
          rw [if_pos (by rfl)]
          go_simp
          refine (byName_any y x _).mono ?_
          rintro ee wq ⟨rfl, nn, os, hwq⟩
          have gq : wr.grownBy wq none := World.grownBy.trans g0 (by rw [hwq]; exact grown_sort _ _ _)
          clear hwq
          dsimp only
          refine hK.out _ _ gq (fun g1 => ?_)
          clear hK K
          try simp only [Act.put, List.getElem_toArray, List.getElem_cons_zero, List.getElem_cons_succ, List.setIfInBounds_toArray, List.set_cons_zero, List.set_cons_succ]
          refine wpAnyH_take (i := 10) (v := .bool false) rfl (by kernel_rfl) (by kernel_rfl) (by kernel_rfl) (fun _ _ _ h => h) (Or.inl ⟨by rfl, fun V' hV' => ?_⟩) gq ?_
          · have hcc := HC.out
            go_simp
          try simp only [Act.put, List.getElem_toArray, List.getElem_cons_zero, List.getElem_cons_succ, List.setIfInBounds_toArray, List.set_cons_zero, List.set_cons_succ]
          refine wpAnyH_done (by kernel_rfl) ?_ _
          refine NoPanic.normal ?_
          have HGQ := Lib.hid (World.grownBy.trans HG.out gq)
          clear g0 gq g1
          go_wp2_with fail
          go_roundw
          case rel => exact ⟨h, hb3, by omega, rfl, rfl, HGQ⟩
          case measure => simp [intOf]; omega
        · obtain rfl : jj = m := by omega
          go_wp2_with fail
          refine wp_loop_rounds 1 ?_
          rw [rounds_succ]
          go_wp2
          exact bodyPost_ret (results_none rfl _ _ _) rfl ⟨rfl, HG.out⟩
    · by_cases c2 : b = m + 1
      · have e1 : ((m : Int) - (a : Int) == 1) = false := by simp; omega
        have e2 : ((b : Int) - (m : Int) == 1) = true := by simp; omega
        clear c1 c2
        go_enter Tryz.func59, Tryz.ntmps59
        go_wp2
        go_loopw [14, 15] (fun i j wr => ∃ ii : Nat, a ≤ ii ∧ ii ≤ m ∧ i = .int .i64 ii ∧ j = .int .i64 (m : Int) ∧ Hid (w0.grownBy wr none)) (fun i _ _ => m - (intOf i).toNat)
        case atStart => exact ⟨a, by omega, by omega, rfl, rfl, HW⟩
        case round =>
          obtain ⟨ii, hj1, hj2, rfl, rfl, HG⟩ := hrel
          by_cases hlt : ii < m
          · go_wp2_with fail
            obtain ⟨h, hh⟩ : ∃ h : Nat, (ii + m) / 2 = h := ⟨_, rfl⟩
            have eh : ((ii : Int) + (m : Int)) / 2 = (h : Int) := by omega
            rw [eh]
            have hb1 : h < m := by omega
            have hb2 : ii ≤ h := by omega
            clear hh eh
            obtain ⟨x, hx⟩ := HAT.out h (by omega)
            obtain ⟨y, hy⟩ := HAT.out m (by omega)
            have hc : ¬ cmpB y.name x.name < 0 := cmp_ge x y (HORD.out h m x y hb1 hx hy)
            have HC : Hid (decide (cmpB y.name x.name < 0) = false) := Lib.hid (decide_eq_false hc)
            have HRX := Lib.hid (range_stays (owns_range HO.out HN.out h x hx) HG.out (by simp))
            have HRY := Lib.hid (range_stays (owns_range HO.out HN.out m y hy) HG.out (by simp))
            have hn3 : h < n := by omega
            have hn4 : m < n := by omega
            clear hx hy hc
            refine wp_region_noPanic ?_
            refine wp_region_held_drew (S := fun V => wr.grownBy V none) (by kernel_rfl) (grown_drew 1 (World.grownBy.refl _ _)) (fun g0 => ?_)
            refine wpAnyH_take (i := 0) (v := cmpN) rfl (by kernel_rfl) (by kernel_rfl) (by kernel_rfl) (fun _ _ _ h => h) (Or.inl ⟨by rfl, fun V' hV' => ?_⟩) g0 ?_
            · rfl
            try simp only [Act.put, List.getElem_toArray, List.getElem_cons_zero, List.setIfInBounds_toArray, List.set_cons_zero, List.set_cons_succ]
            refine wpAnyH_take (i := 1) (v := .slice (some ⟨g, 0, none⟩) n cap) rfl (by kernel_rfl) (by kernel_rfl) (by kernel_rfl) (fun _ _ _ h => h) (Or.inl ⟨by rfl, fun V' hV' => ?_⟩) g0 ?_
            · rfl
            try simp only [Act.put, List.getElem_toArray, List.getElem_cons_zero, List.getElem_cons_succ, List.setIfInBounds_toArray, List.set_cons_zero, List.set_cons_succ]
            refine wpAnyH_take (i := 2) (v := .int .i64 m) rfl (by kernel_rfl) (by kernel_rfl) (by kernel_rfl) (fun _ _ _ h => h) (Or.inl ⟨by rfl, fun V' hV' => ?_⟩) g0 ?_
            · rfl
            try simp only [Act.put, List.getElem_toArray, List.getElem_cons_zero, List.getElem_cons_succ, List.setIfInBounds_toArray, List.set_cons_zero, List.set_cons_succ]
            refine wpAnyH_take (i := 3) (v := .pointer (some ⟨g, m * 37, none⟩)) rfl (by kernel_rfl) (by kernel_rfl) (by kernel_rfl) (fun _ _ _ h => h) (Or.inl ⟨by rfl, fun V' hV' => ?_⟩) g0 ?_
            · go_simp
              first | done | omega
            try simp only [Act.put, List.getElem_toArray, List.getElem_cons_zero, List.getElem_cons_succ, List.setIfInBounds_toArray, List.set_cons_zero, List.set_cons_succ]
            refine wpAnyH_take (i := 4) (v := .agg y.enc.toArray) rfl (by kernel_rfl) (by kernel_rfl) (by kernel_rfl) (fun _ _ _ h => h) (Or.inl ⟨by rfl, fun V' hV' => ?_⟩) g0 ?_
            · have h := run_loadAt_mid (P := Tryz.prog) V' g (m * 37) 35 y.enc _ (range_stays HRY.out hV' (by simp)) Tryz.underlying35 rfl (by rw [enc_len]; exact infoP_size)
              simp [execOp, Act.eval, h, Result.andThen]
            try simp only [Act.put, List.getElem_toArray, List.getElem_cons_zero, List.getElem_cons_succ, List.setIfInBounds_toArray, List.set_cons_zero, List.set_cons_succ]
            refine wpAnyH_take (i := 5) (v := .slice (some ⟨g, 0, none⟩) n cap) rfl (by kernel_rfl) (by kernel_rfl) (by kernel_rfl) (fun _ _ _ h => h) (Or.inl ⟨by rfl, fun V' hV' => ?_⟩) g0 ?_
            · rfl
            try simp only [Act.put, List.getElem_toArray, List.getElem_cons_zero, List.getElem_cons_succ, List.setIfInBounds_toArray, List.set_cons_zero, List.set_cons_succ]
            refine wpAnyH_take (i := 6) (v := .int .i64 h) rfl (by kernel_rfl) (by kernel_rfl) (by kernel_rfl) (fun _ _ _ h => h) (Or.inl ⟨by rfl, fun V' hV' => ?_⟩) g0 ?_
            · rfl
            try simp only [Act.put, List.getElem_toArray, List.getElem_cons_zero, List.getElem_cons_succ, List.setIfInBounds_toArray, List.set_cons_zero, List.set_cons_succ]
            refine wpAnyH_take (i := 7) (v := .pointer (some ⟨g, h * 37, none⟩)) rfl (by kernel_rfl) (by kernel_rfl) (by kernel_rfl) (fun _ _ _ h => h) (Or.inl ⟨by rfl, fun V' hV' => ?_⟩) g0 ?_
            · go_simp
              first | done | omega
            try simp only [Act.put, List.getElem_toArray, List.getElem_cons_zero, List.getElem_cons_succ, List.setIfInBounds_toArray, List.set_cons_zero, List.set_cons_succ]
            refine wpAnyH_take (i := 8) (v := .agg x.enc.toArray) rfl (by kernel_rfl) (by kernel_rfl) (by kernel_rfl) (fun _ _ _ h => h) (Or.inl ⟨by rfl, fun V' hV' => ?_⟩) g0 ?_
            · have h := run_loadAt_mid (P := Tryz.prog) V' g (h * 37) 35 x.enc _ (range_stays HRX.out hV' (by simp)) Tryz.underlying35 rfl (by rw [enc_len]; exact infoP_size)
              simp [execOp, Act.eval, h, Result.andThen]
            try simp only [Act.put, List.getElem_toArray, List.getElem_cons_zero, List.getElem_cons_succ, List.setIfInBounds_toArray, List.set_cons_zero, List.set_cons_succ]
            refine wpAnyH_ready (rs := [9]) (by kernel_rfl) (by simp) ?_
            refine AllReadyH.cons rfl (fun K hK => ?_) AllReadyH.nil
            rw [if_pos (by rfl)]
            go_simp
            refine (byName_any y x _).mono ?_
            rintro ee wq ⟨rfl, nn, os, hwq⟩
            have gq : wr.grownBy wq none := World.grownBy.trans g0 (by rw [hwq]; exact grown_sort _ _ _)
            clear hwq
            dsimp only
            refine hK.out _ _ gq (fun g1 => ?_)
            clear hK K
            try simp only [Act.put, List.getElem_toArray, List.getElem_cons_zero, List.getElem_cons_succ, List.setIfInBounds_toArray, List.set_cons_zero, List.set_cons_succ]
            refine wpAnyH_take (i := 10) (v := .bool false) rfl (by kernel_rfl) (by kernel_rfl) (by kernel_rfl) (fun _ _ _ h => h) (Or.inl ⟨by rfl, fun V' hV' => ?_⟩) gq ?_
            · have hcc := HC.out
              go_simp
            try simp only [Act.put, List.getElem_toArray, List.getElem_cons_zero, List.getElem_cons_succ, List.setIfInBounds_toArray, List.set_cons_zero, List.set_cons_succ]
            refine wpAnyH_take (i := 11) (v := .bool true) rfl (by kernel_rfl) (by kernel_rfl) (by kernel_rfl) (fun _ _ _ h => h) (Or.inl ⟨by rfl, fun V' hV' => ?_⟩) gq ?_
            · go_simp
            try simp only [Act.put, List.getElem_toArray, List.getElem_cons_zero, List.getElem_cons_succ, List.setIfInBounds_toArray, List.set_cons_zero, List.set_cons_succ]
            refine wpAnyH_done (by kernel_rfl) ?_ _
            refine NoPanic.normal ?_
            have HGQ := Lib.hid (World.grownBy.trans HG.out gq)
            clear g0 gq g1
            go_wp2_with fail
            go_roundw
            case rel => exact ⟨h + 1, by omega, by omega, by go_num, rfl, HGQ⟩
            case measure => simp [intOf]; omega
          · obtain rfl : ii = m := by omega
            go_wp2_with fail
            refine wp_loop_rounds 1 ?_
            rw [rounds_succ]
            go_wp2
            exact bodyPost_ret (results_none rfl _ _ _) rfl ⟨rfl, HG.out⟩
      · have e1 : ((m : Int) - (a : Int) == 1) = false := by simp; omega
        have e2 : ((b : Int) - (m : Int) == 1) = false := by simp; omega
        obtain ⟨mid, hmid⟩ : ∃ mid : Nat, (a + b) / 2 = mid := ⟨_, rfl⟩
        have em : ((a : Int) + (b : Int)) / 2 = (mid : Int) := by omega
        have k1 : a < mid := by omega
        have k2 : mid < b := by omega
        by_cases c3 : mid < m
        · obtain ⟨s0, hs0⟩ : ∃ s0 : Nat, mid + m - b = s0 := ⟨_, rfl⟩
          have es : (mid : Int) + (m : Int) - (b : Int) = (s0 : Int) := by omega
          have ks : a ≤ s0 ∧ s0 ≤ mid := by omega
          have HA : Hid (mid + m - b = s0) := Lib.hid hs0
          have HMID := Lib.hid hmid
          have f1 : (mid : Int) < (m : Int) := by omega
          obtain ⟨p0, hp0⟩ : ∃ p0 : Nat, mid + m - 1 = p0 := ⟨_, rfl⟩
          have ep : (mid : Int) + (m : Int) - 1 = (p0 : Int) := by omega
          have HP0 := Lib.hid hp0
          clear c1 c2 hs0 hmid hp0
          go_enter Tryz.func59, Tryz.ntmps59
          go_wp2
          go_loopw [20, 21] (fun s r wr => ∃ ss : Nat, s0 ≤ ss ∧ ss ≤ mid ∧ s = .int .i64 ss ∧ r = .int .i64 (mid : Int) ∧ Hid (w0.grownBy wr none)) (fun s _ _ => mid - (intOf s).toNat)
          case atStart => exact ⟨s0, by omega, by omega, rfl, rfl, HW⟩
          case round =>
            obtain ⟨ss, hj1, hj2, rfl, rfl, HG⟩ := hrel
            by_cases hlt : ss < mid
            · go_wp2_with fail
              obtain ⟨c, hcc⟩ : ∃ c : Nat, (ss + mid) / 2 = c := ⟨_, rfl⟩
              have ec : ((ss : Int) + (mid : Int)) / 2 = (c : Int) := by omega
              rw [ec]
              have hb1 : ss ≤ c := by omega
              have hb2 : c < mid := by omega
              obtain ⟨q, hq⟩ : ∃ q : Nat, p0 - c = q := ⟨_, rfl⟩
              have eq : (p0 : Int) - (c : Int) = (q : Int) := by have := HP0.out; omega
              have hcq : c < q := by have := HP0.out; omega
              have hqn : q < n := by have := HP0.out; have := HMID.out; omega
              have hcn : c < n := by omega
              have HEQ := Lib.hid eq
              clear hcc ec hq eq
              obtain ⟨x, hx⟩ := HAT.out c hcn
              obtain ⟨y, hy⟩ := HAT.out q hqn
              have hc : ¬ cmpB y.name x.name < 0 := cmp_ge x y (HORD.out c q x y hcq hx hy)
              have HC : Hid (decide (cmpB y.name x.name < 0) = false) := Lib.hid (decide_eq_false hc)
              have HRX := Lib.hid (range_stays (owns_range HO.out HN.out c x hx) HG.out (by simp))
              have HRY := Lib.hid (range_stays (owns_range HO.out HN.out q y hy) HG.out (by simp))
              clear hx hy hc
              refine wp_region_noPanic ?_
              refine wp_region_held_drew (S := fun V => wr.grownBy V none) (by kernel_rfl) (grown_drew 1 (World.grownBy.refl _ _)) (fun g0 => ?_)
              refine wpAnyH_take (i := 0) (v := cmpN) rfl (by kernel_rfl) (by kernel_rfl) (by kernel_rfl) (fun _ _ _ h => h) (Or.inl ⟨by rfl, fun V' hV' => ?_⟩) g0 ?_
              · rfl
              try simp only [Act.put, List.getElem_toArray, List.getElem_cons_zero, List.setIfInBounds_toArray, List.set_cons_zero, List.set_cons_succ]
              refine wpAnyH_take (i := 1) (v := .slice (some ⟨g, 0, none⟩) n cap) rfl (by kernel_rfl) (by kernel_rfl) (by kernel_rfl) (fun _ _ _ h => h) (Or.inl ⟨by rfl, fun V' hV' => ?_⟩) g0 ?_
              · rfl
              try simp only [Act.put, List.getElem_toArray, List.getElem_cons_zero, List.getElem_cons_succ, List.setIfInBounds_toArray, List.set_cons_zero, List.set_cons_succ]
              refine wpAnyH_take (i := 2) (v := .int .i64 p0) rfl (by kernel_rfl) (by kernel_rfl) (by kernel_rfl) (fun _ _ _ h => h) (Or.inl ⟨by rfl, fun V' hV' => ?_⟩) g0 ?_
              · rfl
              try simp only [Act.put, List.getElem_toArray, List.getElem_cons_zero, List.getElem_cons_succ, List.setIfInBounds_toArray, List.set_cons_zero, List.set_cons_succ]
              refine wpAnyH_take (i := 3) (v := .int .i64 c) rfl (by kernel_rfl) (by kernel_rfl) (by kernel_rfl) (fun _ _ _ h => h) (Or.inl ⟨by rfl, fun V' hV' => ?_⟩) g0 ?_
              · rfl
              try simp only [Act.put, List.getElem_toArray, List.getElem_cons_zero, List.getElem_cons_succ, List.setIfInBounds_toArray, List.set_cons_zero, List.set_cons_succ]
              refine wpAnyH_take (i := 4) (v := .int .i64 q) rfl (by kernel_rfl) (by kernel_rfl) (by kernel_rfl) (fun _ _ _ h => h) (Or.inl ⟨by rfl, fun V' hV' => ?_⟩) g0 ?_
              · have eqq := HEQ.out
                have hwq : IntKind.i64.wrap (q : Int) = (q : Int) := IntWalk.i64_in _ (by omega)
                go_simp
              try simp only [Act.put, List.getElem_toArray, List.getElem_cons_zero, List.getElem_cons_succ, List.setIfInBounds_toArray, List.set_cons_zero, List.set_cons_succ]
              refine wpAnyH_take (i := 5) (v := .pointer (some ⟨g, q * 37, none⟩)) rfl (by kernel_rfl) (by kernel_rfl) (by kernel_rfl) (fun _ _ _ h => h) (Or.inl ⟨by rfl, fun V' hV' => ?_⟩) g0 ?_
              · go_simp
                first | done | omega
              try simp only [Act.put, List.getElem_toArray, List.getElem_cons_zero, List.getElem_cons_succ, List.setIfInBounds_toArray, List.set_cons_zero, List.set_cons_succ]
              refine wpAnyH_take (i := 6) (v := .agg y.enc.toArray) rfl (by kernel_rfl) (by kernel_rfl) (by kernel_rfl) (fun _ _ _ h => h) (Or.inl ⟨by rfl, fun V' hV' => ?_⟩) g0 ?_
              · have h := run_loadAt_mid (P := Tryz.prog) V' g (q * 37) 35 y.enc _ (range_stays HRY.out hV' (by simp)) Tryz.underlying35 rfl (by rw [enc_len]; exact infoP_size)
                simp [execOp, Act.eval, h, Result.andThen]
              try simp only [Act.put, List.getElem_toArray, List.getElem_cons_zero, List.getElem_cons_succ, List.setIfInBounds_toArray, List.set_cons_zero, List.set_cons_succ]
              refine wpAnyH_take (i := 7) (v := .slice (some ⟨g, 0, none⟩) n cap) rfl (by kernel_rfl) (by kernel_rfl) (by kernel_rfl) (fun _ _ _ h => h) (Or.inl ⟨by rfl, fun V' hV' => ?_⟩) g0 ?_
              · rfl
              try simp only [Act.put, List.getElem_toArray, List.getElem_cons_zero, List.getElem_cons_succ, List.setIfInBounds_toArray, List.set_cons_zero, List.set_cons_succ]
              refine wpAnyH_take (i := 8) (v := .int .i64 c) rfl (by kernel_rfl) (by kernel_rfl) (by kernel_rfl) (fun _ _ _ h => h) (Or.inl ⟨by rfl, fun V' hV' => ?_⟩) g0 ?_
              · rfl
              try simp only [Act.put, List.getElem_toArray, List.getElem_cons_zero, List.getElem_cons_succ, List.setIfInBounds_toArray, List.set_cons_zero, List.set_cons_succ]
              refine wpAnyH_take (i := 9) (v := .pointer (some ⟨g, c * 37, none⟩)) rfl (by kernel_rfl) (by kernel_rfl) (by kernel_rfl) (fun _ _ _ h => h) (Or.inl ⟨by rfl, fun V' hV' => ?_⟩) g0 ?_
              · go_simp
                first | done | omega
              try simp only [Act.put, List.getElem_toArray, List.getElem_cons_zero, List.getElem_cons_succ, List.setIfInBounds_toArray, List.set_cons_zero, List.set_cons_succ]
              refine wpAnyH_take (i := 10) (v := .agg x.enc.toArray) rfl (by kernel_rfl) (by kernel_rfl) (by kernel_rfl) (fun _ _ _ h => h) (Or.inl ⟨by rfl, fun V' hV' => ?_⟩) g0 ?_
              · have h := run_loadAt_mid (P := Tryz.prog) V' g (c * 37) 35 x.enc _ (range_stays HRX.out hV' (by simp)) Tryz.underlying35 rfl (by rw [enc_len]; exact infoP_size)
                simp [execOp, Act.eval, h, Result.andThen]
              try simp only [Act.put, List.getElem_toArray, List.getElem_cons_zero, List.getElem_cons_succ, List.setIfInBounds_toArray, List.set_cons_zero, List.set_cons_succ]
              refine wpAnyH_ready (rs := [11]) (by kernel_rfl) (by simp) ?_
              refine AllReadyH.cons rfl (fun K hK => ?_) AllReadyH.nil
              rw [if_pos (by rfl)]
              go_simp
              refine (byName_any y x _).mono ?_
              rintro ee wq ⟨rfl, nn, os, hwq⟩
              have gq : wr.grownBy wq none := World.grownBy.trans g0 (by rw [hwq]; exact grown_sort _ _ _)
              clear hwq
              dsimp only
              refine hK.out _ _ gq (fun g1 => ?_)
              clear hK K
              try simp only [Act.put, List.getElem_toArray, List.getElem_cons_zero, List.getElem_cons_succ, List.setIfInBounds_toArray, List.set_cons_zero, List.set_cons_succ]
              refine wpAnyH_take (i := 12) (v := .bool false) rfl (by kernel_rfl) (by kernel_rfl) (by kernel_rfl) (fun _ _ _ h => h) (Or.inl ⟨by rfl, fun V' hV' => ?_⟩) gq ?_
              · have hcc := HC.out
                go_simp
              try simp only [Act.put, List.getElem_toArray, List.getElem_cons_zero, List.getElem_cons_succ, List.setIfInBounds_toArray, List.set_cons_zero, List.set_cons_succ]
              refine wpAnyH_take (i := 13) (v := .bool true) rfl (by kernel_rfl) (by kernel_rfl) (by kernel_rfl) (fun _ _ _ h => h) (Or.inl ⟨by rfl, fun V' hV' => ?_⟩) gq ?_
              · go_simp
              try simp only [Act.put, List.getElem_toArray, List.getElem_cons_zero, List.getElem_cons_succ, List.setIfInBounds_toArray, List.set_cons_zero, List.set_cons_succ]
              refine wpAnyH_done (by kernel_rfl) ?_ _
              refine NoPanic.normal ?_
              have HGQ := Lib.hid (World.grownBy.trans HG.out gq)
              clear g0 gq g1
              go_wp2_with fail
              go_roundw
              case rel => exact ⟨c + 1, by omega, by omega, by go_num, rfl, HGQ⟩
              case measure => simp [intOf]; omega
            · obtain rfl : ss = mid := by omega
              have ee : (ss : Int) + (m : Int) - (ss : Int) = (m : Int) := by omega
              have ff : (ss : Int) < (m : Int) := f1
              have f2 : (m : Int) < (b : Int) := by omega
              have hi1 : b - ss ≤ k := by omega
              clear es ep
              go_wp2_with fail
              refine (HIH.out ss m b hi1 (by omega) (by omega) (by omega) _ HG.out).mono ?_
              rintro ee w' ⟨rfl, hg⟩
              dsimp only
              go_wp2
              go_end0
              exact ⟨rfl, hg⟩
        · have HMID := Lib.hid hmid
          have f1 : ¬ (mid : Int) < (m : Int) := by omega
          have f4 : (a : Int) < (m : Int) := by omega
          have k3 : m ≤ mid := by omega
          obtain ⟨p0, hp0⟩ : ∃ p0 : Nat, mid + m - 1 = p0 := ⟨_, rfl⟩
          have ep : (mid : Int) + (m : Int) - 1 = (p0 : Int) := by omega
          have HP0 := Lib.hid hp0
          clear c1 c2 c3 hmid hp0
          go_enter Tryz.func59, Tryz.ntmps59
          go_wp2
          go_loopw [20, 21] (fun s r wr => ∃ ss : Nat, a ≤ ss ∧ ss ≤ m ∧ s = .int .i64 ss ∧ r = .int .i64 (m : Int) ∧ Hid (w0.grownBy wr none)) (fun s _ _ => m - (intOf s).toNat)
          case atStart => exact ⟨a, by omega, by omega, rfl, rfl, HW⟩
          case round =>
            obtain ⟨ss, hj1, hj2, rfl, rfl, HG⟩ := hrel
            by_cases hlt : ss < m
            · go_wp2_with fail
              obtain ⟨c, hcc⟩ : ∃ c : Nat, (ss + m) / 2 = c := ⟨_, rfl⟩
              have ec : ((ss : Int) + (m : Int)) / 2 = (c : Int) := by omega
              rw [ec]
              have hb1 : ss ≤ c := by omega
              have hb2 : c < m := by omega
              obtain ⟨q, hq⟩ : ∃ q : Nat, p0 - c = q := ⟨_, rfl⟩
              have eq : (p0 : Int) - (c : Int) = (q : Int) := by have := HP0.out; omega
              have hcq : c < q := by have := HP0.out; omega
              have hqn : q < n := by have := HP0.out; have := HMID.out; omega
              have hcn : c < n := by omega
              have HEQ := Lib.hid eq
              clear hcc ec hq eq
              obtain ⟨x, hx⟩ := HAT.out c hcn
              obtain ⟨y, hy⟩ := HAT.out q hqn
              have hc : ¬ cmpB y.name x.name < 0 := cmp_ge x y (HORD.out c q x y hcq hx hy)
              have HC : Hid (decide (cmpB y.name x.name < 0) = false) := Lib.hid (decide_eq_false hc)
              have HRX := Lib.hid (range_stays (owns_range HO.out HN.out c x hx) HG.out (by simp))
              have HRY := Lib.hid (range_stays (owns_range HO.out HN.out q y hy) HG.out (by simp))
              clear hx hy hc
              refine wp_region_noPanic ?_
              refine wp_region_held_drew (S := fun V => wr.grownBy V none) (by kernel_rfl) (grown_drew 1 (World.grownBy.refl _ _)) (fun g0 => ?_)
              refine wpAnyH_take (i := 0) (v := cmpN) rfl (by kernel_rfl) (by kernel_rfl) (by kernel_rfl) (fun _ _ _ h => h) (Or.inl ⟨by rfl, fun V' hV' => ?_⟩) g0 ?_
              · rfl
              try simp only [Act.put, List.getElem_toArray, List.getElem_cons_zero, List.setIfInBounds_toArray, List.set_cons_zero, List.set_cons_succ]
              refine wpAnyH_take (i := 1) (v := .slice (some ⟨g, 0, none⟩) n cap) rfl (by kernel_rfl) (by kernel_rfl) (by kernel_rfl) (fun _ _ _ h => h) (Or.inl ⟨by rfl, fun V' hV' => ?_⟩) g0 ?_
              · rfl
              try simp only [Act.put, List.getElem_toArray, List.getElem_cons_zero, List.getElem_cons_succ, List.setIfInBounds_toArray, List.set_cons_zero, List.set_cons_succ]
              refine wpAnyH_take (i := 2) (v := .int .i64 p0) rfl (by kernel_rfl) (by kernel_rfl) (by kernel_rfl) (fun _ _ _ h => h) (Or.inl ⟨by rfl, fun V' hV' => ?_⟩) g0 ?_
              · rfl
              try simp only [Act.put, List.getElem_toArray, List.getElem_cons_zero, List.getElem_cons_succ, List.setIfInBounds_toArray, List.set_cons_zero, List.set_cons_succ]
              refine wpAnyH_take (i := 3) (v := .int .i64 c) rfl (by kernel_rfl) (by kernel_rfl) (by kernel_rfl) (fun _ _ _ h => h) (Or.inl ⟨by rfl, fun V' hV' => ?_⟩) g0 ?_
              · rfl
              try simp only [Act.put, List.getElem_toArray, List.getElem_cons_zero, List.getElem_cons_succ, List.setIfInBounds_toArray, List.set_cons_zero, List.set_cons_succ]
              refine wpAnyH_take (i := 4) (v := .int .i64 q) rfl (by kernel_rfl) (by kernel_rfl) (by kernel_rfl) (fun _ _ _ h => h) (Or.inl ⟨by rfl, fun V' hV' => ?_⟩) g0 ?_
              · have eqq := HEQ.out
                have hwq : IntKind.i64.wrap (q : Int) = (q : Int) := IntWalk.i64_in _ (by omega)
                go_simp
              try simp only [Act.put, List.getElem_toArray, List.getElem_cons_zero, List.getElem_cons_succ, List.setIfInBounds_toArray, List.set_cons_zero, List.set_cons_succ]
              refine wpAnyH_take (i := 5) (v := .pointer (some ⟨g, q * 37, none⟩)) rfl (by kernel_rfl) (by kernel_rfl) (by kernel_rfl) (fun _ _ _ h => h) (Or.inl ⟨by rfl, fun V' hV' => ?_⟩) g0 ?_
              · go_simp
                first | done | omega
              try simp only [Act.put, List.getElem_toArray, List.getElem_cons_zero, List.getElem_cons_succ, List.setIfInBounds_toArray, List.set_cons_zero, List.set_cons_succ]
              refine wpAnyH_take (i := 6) (v := .agg y.enc.toArray) rfl (by kernel_rfl) (by kernel_rfl) (by kernel_rfl) (fun _ _ _ h => h) (Or.inl ⟨by rfl, fun V' hV' => ?_⟩) g0 ?_
              · have h := run_loadAt_mid (P := Tryz.prog) V' g (q * 37) 35 y.enc _ (range_stays HRY.out hV' (by simp)) Tryz.underlying35 rfl (by rw [enc_len]; exact infoP_size)
                simp [execOp, Act.eval, h, Result.andThen]
              try simp only [Act.put, List.getElem_toArray, List.getElem_cons_zero, List.getElem_cons_succ, List.setIfInBounds_toArray, List.set_cons_zero, List.set_cons_succ]
              refine wpAnyH_take (i := 7) (v := .slice (some ⟨g, 0, none⟩) n cap) rfl (by kernel_rfl) (by kernel_rfl) (by kernel_rfl) (fun _ _ _ h => h) (Or.inl ⟨by rfl, fun V' hV' => ?_⟩) g0 ?_
              · rfl
              try simp only [Act.put, List.getElem_toArray, List.getElem_cons_zero, List.getElem_cons_succ, List.setIfInBounds_toArray, List.set_cons_zero, List.set_cons_succ]
              refine wpAnyH_take (i := 8) (v := .int .i64 c) rfl (by kernel_rfl) (by kernel_rfl) (by kernel_rfl) (fun _ _ _ h => h) (Or.inl ⟨by rfl, fun V' hV' => ?_⟩) g0 ?_
              · rfl
              try simp only [Act.put, List.getElem_toArray, List.getElem_cons_zero, List.getElem_cons_succ, List.setIfInBounds_toArray, List.set_cons_zero, List.set_cons_succ]
              refine wpAnyH_take (i := 9) (v := .pointer (some ⟨g, c * 37, none⟩)) rfl (by kernel_rfl) (by kernel_rfl) (by kernel_rfl) (fun _ _ _ h => h) (Or.inl ⟨by rfl, fun V' hV' => ?_⟩) g0 ?_
              · go_simp
                first | done | omega
              try simp only [Act.put, List.getElem_toArray, List.getElem_cons_zero, List.getElem_cons_succ, List.setIfInBounds_toArray, List.set_cons_zero, List.set_cons_succ]
              refine wpAnyH_take (i := 10) (v := .agg x.enc.toArray) rfl (by kernel_rfl) (by kernel_rfl) (by kernel_rfl) (fun _ _ _ h => h) (Or.inl ⟨by rfl, fun V' hV' => ?_⟩) g0 ?_
              · have h := run_loadAt_mid (P := Tryz.prog) V' g (c * 37) 35 x.enc _ (range_stays HRX.out hV' (by simp)) Tryz.underlying35 rfl (by rw [enc_len]; exact infoP_size)
                simp [execOp, Act.eval, h, Result.andThen]
              try simp only [Act.put, List.getElem_toArray, List.getElem_cons_zero, List.getElem_cons_succ, List.setIfInBounds_toArray, List.set_cons_zero, List.set_cons_succ]
              refine wpAnyH_ready (rs := [11]) (by kernel_rfl) (by simp) ?_
              refine AllReadyH.cons rfl (fun K hK => ?_) AllReadyH.nil
              rw [if_pos (by rfl)]
              go_simp
              refine (byName_any y x _).mono ?_
              rintro ee wq ⟨rfl, nn, os, hwq⟩
              have gq : wr.grownBy wq none := World.grownBy.trans g0 (by rw [hwq]; exact grown_sort _ _ _)
              clear hwq
              dsimp only
              refine hK.out _ _ gq (fun g1 => ?_)
              clear hK K
              try simp only [Act.put, List.getElem_toArray, List.getElem_cons_zero, List.getElem_cons_succ, List.setIfInBounds_toArray, List.set_cons_zero, List.set_cons_succ]
              refine wpAnyH_take (i := 12) (v := .bool false) rfl (by kernel_rfl) (by kernel_rfl) (by kernel_rfl) (fun _ _ _ h => h) (Or.inl ⟨by rfl, fun V' hV' => ?_⟩) gq ?_
              · have hcc := HC.out
                go_simp
              try simp only [Act.put, List.getElem_toArray, List.getElem_cons_zero, List.getElem_cons_succ, List.setIfInBounds_toArray, List.set_cons_zero, List.set_cons_succ]
              refine wpAnyH_take (i := 13) (v := .bool true) rfl (by kernel_rfl) (by kernel_rfl) (by kernel_rfl) (fun _ _ _ h => h) (Or.inl ⟨by rfl, fun V' hV' => ?_⟩) gq ?_
              · go_simp
              try simp only [Act.put, List.getElem_toArray, List.getElem_cons_zero, List.getElem_cons_succ, List.setIfInBounds_toArray, List.set_cons_zero, List.set_cons_succ]
              refine wpAnyH_done (by kernel_rfl) ?_ _
              refine NoPanic.normal ?_
              have HGQ := Lib.hid (World.grownBy.trans HG.out gq)
              clear g0 gq g1
              go_wp2_with fail
              go_roundw
              case rel => exact ⟨c + 1, by omega, by omega, by go_num, rfl, HGQ⟩
              case measure => simp [intOf]; omega
            · obtain rfl : ss = m := by omega
              have ee : (mid : Int) + (ss : Int) - (ss : Int) = (mid : Int) := by omega
              have hi1 : mid - a ≤ k := by omega
              clear ep
              by_cases c4 : ss < mid
              · have f5 : (ss : Int) < (mid : Int) := by omega
                go_wp2_with fail
                refine (HIH.out a ss mid hi1 (by omega) (by omega) (by omega) _ HG.out).mono ?_
                rintro ee w' ⟨rfl, hg⟩
                dsimp only
                go_wp2
                go_end0
                exact ⟨rfl, hg⟩
              · have f5 : ¬ (ss : Int) < (mid : Int) := by omega
                go_wp2
                go_end0
                exact ⟨rfl, HG.out⟩
end Go.Proofs.YthdopcdllggdaaaGreatDoor
