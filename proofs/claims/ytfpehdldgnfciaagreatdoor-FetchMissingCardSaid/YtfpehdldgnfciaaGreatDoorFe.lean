/- What a fetch does with a reply: fetch's Take. -/
import Derived.Test.YtfpehdldgnfciaaGreatDoorFd
import Derived.Test.YtfpehdldgnfciaaGreatDoorQt
import Derived.StillTailTactics
import Derived.Deep.RegionLaw
namespace Go.Proofs.YtfpehdldgnfciaaGreatDoor
open Go.RowKit

set_option maxRecDepth 1000000
theorem FetTo.from {w w1 w2 : World} {F base : Nat} {v : Value} {K : Array Value} {n : Int} {L : List UInt8} {fa sp : Int} {dn fl : Bool} (h : FetTo w1 F base v K n L fa sp dn fl w2) (hg : w.grownBy w1 none) (hb : base ≤ w.heap.size) : FetTo w F base v K n L fa sp dn fl w2 := ⟨h.ex, below_trans (below_grown hg (fun k hk => by simp at hk) hb) h.bl, (Turned.of hg (.inl rfl)).trans h.tu⟩
theorem below_of {w w' : World} {base : Nat} (h : w.grownBy w' none) (hb : base ≤ w.heap.size) : Below base w w' := below_grown h (fun k hk => by simp at hk) hb
set_option maxHeartbeats 4000000 in
theorem take_few (F base B n m c m2 c2 q : Nat) (a a2 : Option Addr) (K : Array Value) (fa sp : Int) (L M : List UInt8) (w : World) (h : Fet w F K n (.slice a m c) fa sp false false) (ho : Owns w base (.slice a m c) L) (hL : L.length = m) (hP : Part w B (.slice a2 m2 c2) M) (hM : M.length = m2)
    (hmn : m ≤ n) (hn : n ≤ 900000) (hq : min 64 (n - m) = q) (hf : m2 < q) (hbase : base ≤ F) (h0 : 0 ≤ fa) (h3 : fa < 3) :
    Calls Tryz.prog 9 #[.pointer (some ⟨F, 0, none⟩), .agg #[.int .i64 0, .slice a2 m2 c2]] w fun e w' => e = .returned .nilIface ∧ FetTo w F base (.slice a m c) K n (L ++ M) (fa + 1) sp false false w' := by
  have hsz := h.size
  obtain ⟨W1, hW1⟩ : ∃ W1, w.alloc (.cells #[.int .i64 0, .slice a2 m2 c2] 45) = W1 := ⟨_, rfl⟩
  have g1 : w.grownBy W1 none := by rw [← hW1]; exact World.grownBy_alloc _ _ _
  have b0 : W1.cell? ⟨w.heap.size, 0, none⟩ = some (.int .i64 0) := by rw [← hW1, alloc_cell]; rfl
  have b1 : W1.cell? ⟨w.heap.size, 1, none⟩ = some (.slice a2 m2 c2) := by rw [← hW1, alloc_cell]; rfl
  have z1 : W1.frozen? ⟨w.heap.size, 1, none⟩ = false := by rw [← hW1, alloc_frozen]
  have s1 : Hid (W1.heap.size = w.heap.size + 1) := by show _ = _; rw [← hW1, alloc_size]
  have HF1 := Lib.hid (h.stays g1)
  have HO1 := Lib.hid (ho.stays g1)
  have HL := Lib.hid hL
  have hov := Lib.hid (over_any F K n (.slice a m c) fa sp false false W1 (h.stays g1))
  have HW1 := Lib.hid hW1
  have G1 := Lib.hid g1
  have HP1 := Lib.hid (hP.stays g1)
  have HM := Lib.hid hM
  have HQ := Lib.hid hq
  have hwa := Lib.hid (fun d => wanted_any F n m c q K a fa sp false false (W1.drewN d) ((h.stays g1).stays (grown_drew d (World.grownBy.refl _ _))) hmn (by omega) hq)
  have lt : decide ((m2 : Int) < (q : Int)) = true := by simp; omega
  have lt2 : decide (m2 < q) = true := by simp; omega
  clear h ho hL hP hM hq hW1 g1 z1
  go_enter Tryz.func9, Tryz.ntmps9
  go_wp2_with fail
  rw [HW1.out]
  go_wp2_with ((with_reducible refine hov.out.mono ?_); rintro ee w1 ⟨rfl, rfl⟩; dsimp only)
  go_quiet ((go_at_call 19; exact Calls.quiet_of (hwa.out _)))
  all_goals
    have gq : w1.grownBy (w1.drewN nq) none := grown_drew nq (World.grownBy.refl _ _)
    have HS := Lib.hid (short_any F base B m c m2 c2 a a2 K n fa sp false false L M (w1.drewN nq) (HF1.out.stays gq) (HO1.out.stays gq) HL.out (HP1.out.stays gq) HM.out (by have := HQ.out; omega) hbase h0 h3)
    clear gq
    go_wp2_with ((with_reducible refine HS.out.mono ?_); rintro ee w2 ⟨rfl, ht2⟩; dsimp only; have HT2 := Lib.hid ht2; clear ht2)
    go_ret
    exact ⟨rfl, HT2.out.from (grown_drew nq G1.out) (by omega)⟩
set_option maxHeartbeats 4000000 in
theorem take_lost (F base n m c : Nat) (a : Option Addr) (gv : Value) (K : Array Value) (fa sp : Int) (L : List UInt8) (w : World) (h : Fet w F K n (.slice a m c) fa sp false false) (ho : Owns w base (.slice a m c) L) (hL : L.length = m)
    (hmn : m ≤ n) (hn : n ≤ 900000) (hbase : base ≤ F) (h0 : 0 ≤ fa) (h3 : fa < 3) :
    Calls Tryz.prog 9 #[.pointer (some ⟨F, 0, none⟩), .agg #[.int .i64 1, gv]] w fun e w' => e = .returned .nilIface ∧ FetTo w F base (.slice a m c) K n L (fa + 1) sp false false w' := by
  have hsz := h.size
  obtain ⟨W1, hW1⟩ : ∃ W1, w.alloc (.cells #[.int .i64 1, gv] 45) = W1 := ⟨_, rfl⟩
  have g1 : w.grownBy W1 none := by rw [← hW1]; exact World.grownBy_alloc _ _ _
  have b0 : W1.cell? ⟨w.heap.size, 0, none⟩ = some (.int .i64 1) := by rw [← hW1, alloc_cell]; rfl
  have b1 : W1.cell? ⟨w.heap.size, 1, none⟩ = some (gv) := by rw [← hW1, alloc_cell]; rfl
  have z1 : W1.frozen? ⟨w.heap.size, 1, none⟩ = false := by rw [← hW1, alloc_frozen]
  have s1 : Hid (W1.heap.size = w.heap.size + 1) := by show _ = _; rw [← hW1, alloc_size]
  have HF1 := Lib.hid (h.stays g1)
  have HO1 := Lib.hid (ho.stays g1)
  have HL := Lib.hid hL
  have hov := Lib.hid (over_any F K n (.slice a m c) fa sp false false W1 (h.stays g1))
  have HW1 := Lib.hid hW1
  have G1 := Lib.hid g1
  obtain ⟨W2, hW2⟩ : ∃ W2, W1.setCell ⟨w.heap.size, 1, none⟩ (.slice none 0 0) = W2 := ⟨_, rfl⟩
  have g2 : W1.grownBy W2 (some w.heap.size) := by rw [← hW2]; exact bk_set_grown _ _ _ _
  have HF2 := Lib.hid (HF1.out.other g2 (by simp; omega))
  have HO2 : Hid (Owns W2 base (.slice a m c) L) := HO1.out.other g2 (fun e => by have := (ho.block_lt _ e).2; omega)
  have HS := Lib.hid (short_any F base W2.heap.size m c 0 0 a none K n fa sp false false L [] W2 HF2.out HO2.out hL ((Owns.nil W2 0).part (by have := HF2.out.size; omega)) rfl (by omega) hbase h0 h3)
  have G2 := Lib.hid (grown_new G1.out g2 (Nat.le_refl _))
  have HW2 := Lib.hid hW2
  clear h ho hL hW1 g1 g2 hW2
  go_enter Tryz.func9, Tryz.ntmps9
  go_wp2_with fail
  rw [HW1.out]
  go_wp2_with ((with_reducible refine hov.out.mono ?_); rintro ee w1 ⟨rfl, rfl⟩; dsimp only)
  go_wp2_with fail
  rw [HW2.out]
  go_wp2_with ((with_reducible refine HS.out.mono ?_); rintro ee w3 ⟨rfl, ht2⟩; dsimp only; have HT2 := Lib.hid ht2; clear ht2)
  go_ret
  have := HT2.out.from G2.out (by omega)
  rw [List.append_nil] at this
  exact ⟨rfl, this⟩
theorem Part.cut {w : World} {B m c q : Nat} {a : Option Addr} {M : List UInt8} (h : Part w B (.slice a m c) M) (hM : M.length = m) (hq : q ≤ m) : Part w B (.slice a q c) (M.take q) := by
  obtain ⟨a', cap, b, o, h1, h2, h6, h3, h4, h5⟩ := h
  injection h1 with k1 k2 k3
  subst k1 k3
  have hl : (M.take q).length = q := by rw [List.length_take]; omega
  refine ⟨a, c, b, o, by rw [hl], by rw [hl]; omega, h6, h3, fun h => h4 (by omega), fun j hj => ?_⟩
  rw [hl] at hj
  rw [h5 j (by omega)]
  simp [List.getD_eq_getElem?_getD, hj]
set_option maxHeartbeats 8000000 in
theorem take_more (F base B n m c m2 c2 q : Nat) (a a2 : Option Addr) (K : Array Value) (fa sp : Int) (L M : List UInt8) (w : World) (h : Fet w F K n (.slice a m c) fa sp false false) (ho : Owns w base (.slice a m c) L) (hL : L.length = m) (hP : Part w B (.slice a2 m2 c2) M) (hM : M.length = m2)
    (hmn : m < n) (hn : n ≤ 9000) (hq : min 64 (n - m) = q) (hf : q ≤ m2) (hbase : base ≤ F) (hmo : m + q < n) :
    Calls Tryz.prog 9 #[.pointer (some ⟨F, 0, none⟩), .agg #[.int .i64 0, .slice a2 m2 c2]] w fun e w' => e = .returned .nilIface ∧ FetTo w F base (.slice a m c) K n (L ++ M.take q) 0 sp false false w' := by
  have hsz := h.size
  obtain ⟨W1, hW1⟩ : ∃ W1, w.alloc (.cells #[.int .i64 0, .slice a2 m2 c2] 45) = W1 := ⟨_, rfl⟩
  have g1 : w.grownBy W1 none := by rw [← hW1]; exact World.grownBy_alloc _ _ _
  have b0 : W1.cell? ⟨w.heap.size, 0, none⟩ = some (.int .i64 0) := by rw [← hW1, alloc_cell]; rfl
  have b1 : W1.cell? ⟨w.heap.size, 1, none⟩ = some (.slice a2 m2 c2) := by rw [← hW1, alloc_cell]; rfl
  have z1 : W1.frozen? ⟨w.heap.size, 1, none⟩ = false := by rw [← hW1, alloc_frozen]
  have s1 : Hid (W1.heap.size = w.heap.size + 1) := by show _ = _; rw [← hW1, alloc_size]
  have HF1 := Lib.hid (h.stays g1)
  have HO1 := Lib.hid (ho.stays g1)
  have HL := Lib.hid hL
  have hov := Lib.hid (over_any F K n (.slice a m c) fa sp false false W1 (h.stays g1))
  have HW1 := Lib.hid hW1
  have G1 := Lib.hid g1
  have hcap : m2 ≤ c2 := by obtain ⟨a', cap', b, o, e1, e2, _⟩ := hP; injection e1 with _ _ e3; rw [e3, ← hM]; exact e2
  have hwn : q < 100 := by omega
  have hqc : q ≤ c2 := by omega
  have HP1 := Lib.hid ((hP.stays g1).cut hM hf)
  have HM := Lib.hid hM
  have HQ := Lib.hid hq
  have hwa := Lib.hid (fun d => wanted_any F n m c q K a fa sp false false (W1.drewN d) ((h.stays g1).stays (grown_drew d (World.grownBy.refl _ _))) (by omega) (by omega) hq)
  have lt : decide ((m2 : Int) < (q : Int)) = false := by simp; omega
  have lt2 : decide (m2 < q) = false := by simp; omega
  have hlen : Hid ((M.take q).length = q) := by show _ = _; rw [List.length_take]; omega
  obtain ⟨m3, hm3⟩ : ∃ m3, (L ++ M.take q).length = m3 := ⟨_, rfl⟩
  have HM3 := Lib.hid hm3
  have E3 : Hid (m3 = m + q) := by show _ = _; rw [← hm3, List.length_append, hlen.out, hL]
  clear h ho hL hP hM hq hW1 g1 z1 hm3
  go_enter Tryz.func9, Tryz.ntmps9
  go_wp2_with fail
  rw [HW1.out]
  go_wp2_with ((with_reducible refine hov.out.mono ?_); rintro ee w1 ⟨rfl, rfl⟩; dsimp only)
  go_quiet ((go_at_call 19; exact Calls.quiet_of (hwa.out _)))
  all_goals
    have gq : w1.grownBy (w1.drewN nq) none := grown_drew nq (World.grownBy.refl _ _)
    have HF2 := Lib.hid (HF1.out.stays gq)
    have HO2 := Lib.hid (HO1.out.stays gq)
    have HP2 := Lib.hid (HP1.out.stays gq)
    have HG2 := Lib.hid gq
    obtain ⟨c37, c39, c40, c41, c42, c43⟩ := HF2.out.cells
    have d1 : (w1.drewN nq).cell? ⟨w.heap.size, 1, none⟩ = some (.slice a2 m2 c2) := by rw [gq.cell b1 (by simp)]
    clear c37 c40 c41 c42 c43 gq b0 b1
    go_wp2
    obtain ⟨W3, hW3⟩ : ∃ W3, w1.drewN nq = W3 := ⟨_, rfl⟩
    rw [hW3] at HF2 HO2 HP2 HG2 c39 d1 ⊢
    clear hW3
    have hC0 : W3.grownBy (W3.drewN 1) none := ⟨rfl, rfl, rfl, Nat.le_refl _, fun _ _ _ => rfl⟩
    have kw : ∀ W, W3.grownBy W none → Calls Tryz.prog 19 #[.pointer (some ⟨F, 0, none⟩)] W fun e w' => e = .returned (.int .i64 (q : Int)) ∧ W3.grownBy w' none := fun W hW =>
      (wanted_any F n m c q _ a fa sp false false W (HF2.out.stays hW) (by omega) (by omega) HQ.out).mono fun e w' ⟨h1, d, h2⟩ => ⟨h1, by rw [h2]; exact grown_drew d hW⟩
    have KW := Lib.hid kw
    clear kw
    clear hC0
    have GD : Hid (W3.grownBy W3.drew none) := grown_drew 1 (World.grownBy.refl _ _)
    go_region_law (first
      | ((with_reducible refine step_part (o := ⟨some 39, _, _, _, _, _⟩) rfl _ _ rfl base B (.slice a m c) (.slice a2 q c2) L (M.take q) rfl (HO2.out.stays hg8) rfl (HP2.out.stays hg8) ?_ ?_ ?_); (have := HL.out; have := hlen.out; omega); (have := hg8.size; have := HF2.out.size; omega); (intro v2 w2 ho2 hg2; obtain ⟨a3, c3, e2, _⟩ := ho2.open HM3.out; subst e2; have HO4 := Lib.hid ho2; have HG4 := Lib.hid hg2; have HF4 := Lib.hid ((HF2.out.stays hg8).other hg2 (HO2.out.apart HF2.out.blk (by decide))); have HG8 := Lib.hid hg8; clear ho2 hg2; obtain ⟨d37, d39, d40, d41, d42, d43⟩ := HF4.out.cells; have r39 := HF4.out.free 39; have r40 := HF4.out.free 40; clear d37 d41 d42 d43))
      | (go_simp; go_at_call 19; refine (KW.out _ GD.out).mono ?_; rintro ee w8 ⟨rfl, hg8⟩; dsimp only; have q39 := hg8.cell c39 (by simp); have q1 := hg8.cell d1 (by simp)))
    all_goals
      have HF5 := Lib.hid ((HF4.out.setB (.slice a3 m3 c3)).setFa 0)
      have HO5 := Lib.hid ((HO4.out.other (bk_set_grown w2 F 39 (.slice a3 m3 c3)) (HO4.out.apart HF4.out.blk (by decide))).other (bk_set_grown _ F 40 (.int .i64 0)) (HO4.out.apart HF4.out.blk (by decide)))
      have HB5 : Hid (Below base w ((w2.setCell ⟨F, 39, none⟩ (.slice a3 m3 c3)).setCell ⟨F, 40, none⟩ (.int .i64 0))) := by
        have b1 : Below base w w1 := below_of G1.out (by omega)
        have b2 : Below base w1 W3 := below_of HG2.out (by have := b1.size; omega)
        have b3 : Below base W3 w8 := below_of HG8.out (by have := b1.size; have := b2.size; omega)
        have b4 : Below base w8 w2 := below_grown HG4.out (fun k hk => (HO2.out.block_lt k hk).1) (by have := b1.size; have := b2.size; have := b3.size; omega)
        have b5 := below_grown (base := base) (bk_set_grown w2 F 39 (.slice a3 m3 c3)) (fun k hk => by have := Option.some.inj hk; omega) (by have := b1.size; have := b2.size; have := b3.size; have := b4.size; omega)
        have b6 := below_grown (base := base) (bk_set_grown (w2.setCell ⟨F, 39, none⟩ (.slice a3 m3 c3)) F 40 (.int .i64 0)) (fun k hk => by have := Option.some.inj hk; omega) (by have := b1.size; have := b2.size; have := b3.size; have := b4.size; have := b5.size; omega)
        exact below_trans (below_trans (below_trans (below_trans (below_trans b1 b2) b3) b4) b5) b6
      have TU5 : Hid (Turned w F (.slice a m c) ((w2.setCell ⟨F, 39, none⟩ (.slice a3 m3 c3)).setCell ⟨F, 40, none⟩ (.int .i64 0))) :=
        (((Turned.of (World.grownBy.trans G1.out (World.grownBy.trans HG2.out HG8.out)) (.inl rfl)).trans (Turned.of HG4.out (.inr (.inr rfl)))).trans (Turned.of (bk_set_grown w2 F 39 (.slice a3 m3 c3)) (.inr (.inl rfl)))).trans (Turned.of (bk_set_grown _ F 40 (.int .i64 0)) (.inr (.inl rfl)))
      clear q39 q1 hg8
      go_wp2_with fail
      have HCK := Lib.hid (check_more F n m3 c3 K a3 0 sp false false _ HF5.out (by have := E3.out; omega))
      (with_reducible refine HCK.out.mono ?_)
      rintro ee w9 ⟨rfl, d9, rfl⟩
      dsimp only
      go_wp2
      go_ret
      refine ⟨rfl, ⟨a3, c3, ?_, ?_⟩, below_trans HB5.out (below_drew d9), TU5.out.trans (Turned.of (grown_drew d9 (World.grownBy.refl _ none)) (.inl rfl))⟩
      · rw [HM3.out]; exact HF5.out.stays (grown_drew d9 (World.grownBy.refl _ _))
      · rw [HM3.out]; exact HO5.out.stays (grown_drew d9 (World.grownBy.refl _ _))
set_option maxHeartbeats 8000000 in
theorem take_last (F base B n m c m2 c2 q : Nat) (a a2 : Option Addr) (fa sp : Int) (L M : List UInt8) (w : World) (h : Fet w F (keyV (L ++ M.take q)) n (.slice a m c) fa sp false false) (ho : Owns w base (.slice a m c) L) (hL : L.length = m) (hP : Part w B (.slice a2 m2 c2) M) (hM : M.length = m2)
    (hmn : m < n) (hn : n ≤ 9000) (hq : min 64 (n - m) = q) (hf : q ≤ m2) (hbase : base ≤ F) (hmo : m + q = n) (hT : Tab w) (hg0 : 1 < base) :
    Calls Tryz.prog 9 #[.pointer (some ⟨F, 0, none⟩), .agg #[.int .i64 0, .slice a2 m2 c2]] w fun e w' => e = .returned .nilIface ∧ FetTo w F base (.slice a m c) (keyV (L ++ M.take q)) n (L ++ M.take q) 0 sp true false w' := by
  have hsz := h.size
  obtain ⟨W1, hW1⟩ : ∃ W1, w.alloc (.cells #[.int .i64 0, .slice a2 m2 c2] 45) = W1 := ⟨_, rfl⟩
  have g1 : w.grownBy W1 none := by rw [← hW1]; exact World.grownBy_alloc _ _ _
  have b0 : W1.cell? ⟨w.heap.size, 0, none⟩ = some (.int .i64 0) := by rw [← hW1, alloc_cell]; rfl
  have b1 : W1.cell? ⟨w.heap.size, 1, none⟩ = some (.slice a2 m2 c2) := by rw [← hW1, alloc_cell]; rfl
  have z1 : W1.frozen? ⟨w.heap.size, 1, none⟩ = false := by rw [← hW1, alloc_frozen]
  have s1 : Hid (W1.heap.size = w.heap.size + 1) := by show _ = _; rw [← hW1, alloc_size]
  have HF1 := Lib.hid (h.stays g1)
  have HO1 := Lib.hid (ho.stays g1)
  have HL := Lib.hid hL
  have hov := Lib.hid (over_any F (keyV (L ++ M.take q)) n (.slice a m c) fa sp false false W1 (h.stays g1))
  have HW1 := Lib.hid hW1
  have G1 := Lib.hid g1
  have hcap : m2 ≤ c2 := by obtain ⟨a', cap', b, o, e1, e2, _⟩ := hP; injection e1 with _ _ e3; rw [e3, ← hM]; exact e2
  have hwn : q < 100 := by omega
  have hqc : q ≤ c2 := by omega
  have HP1 := Lib.hid ((hP.stays g1).cut hM hf)
  have HM := Lib.hid hM
  have HQ := Lib.hid hq
  have hwa := Lib.hid (fun d => wanted_any F n m c q (keyV (L ++ M.take q)) a fa sp false false (W1.drewN d) ((h.stays g1).stays (grown_drew d (World.grownBy.refl _ _))) (by omega) (by omega) hq)
  have lt : decide ((m2 : Int) < (q : Int)) = false := by simp; omega
  have lt2 : decide (m2 < q) = false := by simp; omega
  have hlen : Hid ((M.take q).length = q) := by show _ = _; rw [List.length_take]; omega
  obtain ⟨m3, hm3⟩ : ∃ m3, (L ++ M.take q).length = m3 := ⟨_, rfl⟩
  have HM3 := Lib.hid hm3
  have E3 : Hid (m3 = m + q) := by show _ = _; rw [← hm3, List.length_append, hlen.out, hL]
  have HT := Lib.hid hT
  clear hT
  clear h ho hL hP hM hq hW1 g1 z1 hm3
  go_enter Tryz.func9, Tryz.ntmps9
  go_wp2_with fail
  rw [HW1.out]
  go_wp2_with ((with_reducible refine hov.out.mono ?_); rintro ee w1 ⟨rfl, rfl⟩; dsimp only)
  go_quiet ((go_at_call 19; exact Calls.quiet_of (hwa.out _)))
  all_goals
    have gq : w1.grownBy (w1.drewN nq) none := grown_drew nq (World.grownBy.refl _ _)
    have HF2 := Lib.hid (HF1.out.stays gq)
    have HO2 := Lib.hid (HO1.out.stays gq)
    have HP2 := Lib.hid (HP1.out.stays gq)
    have HG2 := Lib.hid gq
    obtain ⟨c37, c39, c40, c41, c42, c43⟩ := HF2.out.cells
    have d1 : (w1.drewN nq).cell? ⟨w.heap.size, 1, none⟩ = some (.slice a2 m2 c2) := by rw [gq.cell b1 (by simp)]
    clear c37 c40 c41 c42 c43 gq b0 b1
    go_wp2
    obtain ⟨W3, hW3⟩ : ∃ W3, w1.drewN nq = W3 := ⟨_, rfl⟩
    rw [hW3] at HF2 HO2 HP2 HG2 c39 d1 ⊢
    clear hW3
    have hC0 : W3.grownBy (W3.drewN 1) none := ⟨rfl, rfl, rfl, Nat.le_refl _, fun _ _ _ => rfl⟩
    have kw : ∀ W, W3.grownBy W none → Calls Tryz.prog 19 #[.pointer (some ⟨F, 0, none⟩)] W fun e w' => e = .returned (.int .i64 (q : Int)) ∧ W3.grownBy w' none := fun W hW =>
      (wanted_any F n m c q _ a fa sp false false W (HF2.out.stays hW) (by omega) (by omega) HQ.out).mono fun e w' ⟨h1, d, h2⟩ => ⟨h1, by rw [h2]; exact grown_drew d hW⟩
    have KW := Lib.hid kw
    clear kw
    clear hC0
    have GD : Hid (W3.grownBy W3.drew none) := grown_drew 1 (World.grownBy.refl _ _)
    go_region_law (first
      | ((with_reducible refine step_part (o := ⟨some 39, _, _, _, _, _⟩) rfl _ _ rfl base B (.slice a m c) (.slice a2 q c2) L (M.take q) rfl (HO2.out.stays hg8) rfl (HP2.out.stays hg8) ?_ ?_ ?_); (have := HL.out; have := hlen.out; omega); (have := hg8.size; have := HF2.out.size; omega); (intro v2 w2 ho2 hg2; obtain ⟨a3, c3, e2, _⟩ := ho2.open HM3.out; subst e2; have HO4 := Lib.hid ho2; have HG4 := Lib.hid hg2; have HF4 := Lib.hid ((HF2.out.stays hg8).other hg2 (HO2.out.apart HF2.out.blk (by decide))); have HG8 := Lib.hid hg8; clear ho2 hg2; obtain ⟨d37, d39, d40, d41, d42, d43⟩ := HF4.out.cells; have r39 := HF4.out.free 39; have r40 := HF4.out.free 40; clear d37 d41 d42 d43))
      | (go_simp; go_at_call 19; refine (KW.out _ GD.out).mono ?_; rintro ee w8 ⟨rfl, hg8⟩; dsimp only; have q39 := hg8.cell c39 (by simp); have q1 := hg8.cell d1 (by simp)))
    all_goals
      have HF5 := Lib.hid ((HF4.out.setB (.slice a3 m3 c3)).setFa 0)
      have HO5 := Lib.hid ((HO4.out.other (bk_set_grown w2 F 39 (.slice a3 m3 c3)) (HO4.out.apart HF4.out.blk (by decide))).other (bk_set_grown _ F 40 (.int .i64 0)) (HO4.out.apart HF4.out.blk (by decide)))
      have HB5 : Hid (Below base w ((w2.setCell ⟨F, 39, none⟩ (.slice a3 m3 c3)).setCell ⟨F, 40, none⟩ (.int .i64 0))) := by
        have b1 : Below base w w1 := below_of G1.out (by omega)
        have b2 : Below base w1 W3 := below_of HG2.out (by have := b1.size; omega)
        have b3 : Below base W3 w8 := below_of HG8.out (by have := b1.size; have := b2.size; omega)
        have b4 : Below base w8 w2 := below_grown HG4.out (fun k hk => (HO2.out.block_lt k hk).1) (by have := b1.size; have := b2.size; have := b3.size; omega)
        have b5 := below_grown (base := base) (bk_set_grown w2 F 39 (.slice a3 m3 c3)) (fun k hk => by have := Option.some.inj hk; omega) (by have := b1.size; have := b2.size; have := b3.size; have := b4.size; omega)
        have b6 := below_grown (base := base) (bk_set_grown (w2.setCell ⟨F, 39, none⟩ (.slice a3 m3 c3)) F 40 (.int .i64 0)) (fun k hk => by have := Option.some.inj hk; omega) (by have := b1.size; have := b2.size; have := b3.size; have := b4.size; have := b5.size; omega)
        exact below_trans (below_trans (below_trans (below_trans (below_trans b1 b2) b3) b4) b5) b6
      have TU5 : Hid (Turned w F (.slice a m c) ((w2.setCell ⟨F, 39, none⟩ (.slice a3 m3 c3)).setCell ⟨F, 40, none⟩ (.int .i64 0))) :=
        (((Turned.of (World.grownBy.trans G1.out (World.grownBy.trans HG2.out HG8.out)) (.inl rfl)).trans (Turned.of HG4.out (.inr (.inr rfl)))).trans (Turned.of (bk_set_grown w2 F 39 (.slice a3 m3 c3)) (.inr (.inl rfl)))).trans (Turned.of (bk_set_grown _ F 40 (.int .i64 0)) (.inr (.inl rfl)))
      clear q39 q1 hg8
      go_wp2_with fail
      have e5 : ((n : Nat) : Int) = ((m3 : Nat) : Int) := by have := E3.out; omega
      have HF6 := HF5.out
      rw [e5] at HF6
      have hs5 := HF5.out.size
      have HCK := Lib.hid (check_done F m3 c3 _ a3 (L ++ M.take q) 0 sp false false _ HF6 (HO5.out.part (by omega)) (Nat.le_refl _) (by have := HM3.out; have := E3.out; omega) (HT.out.below HB5.out hg0))
      clear HF6
      (with_reducible refine HCK.out.mono ?_)
      rintro ee w9 ⟨rfl, hF9, w10, hg10, hg9⟩
      dsimp only
      have HF9 := Lib.hid hF9
      have HO9 : Hid (Owns w9 base (.slice a3 m3 c3) (L ++ M.take q)) := (HO5.out.stays hg10).other hg9 (HO5.out.apart HF5.out.blk (by decide))
      have HB9 : Hid (Below base w w9) := by
        have b1 := HB5.out
        have b2 := below_of (base := base) hg10 (by have := b1.size; omega)
        exact below_trans (below_trans b1 b2) (below_grown hg9 (fun k hk => by have := Option.some.inj hk; omega) (by have := b1.size; have := b2.size; omega))
      have TU9 : Hid (Turned w F (.slice a m c) w9) := (TU5.out.trans (Turned.of hg10 (.inl rfl))).trans (Turned.of hg9 (.inr (.inl rfl)))
      clear hF9 hg10 hg9
      go_wp2
      go_ret
      refine ⟨rfl, ⟨a3, c3, ?_, ?_⟩, HB9.out, TU9.out⟩
      · rw [HM3.out, e5]; exact HF9.out
      · rw [HM3.out]; exact HO9.out
end Go.Proofs.YtfpehdldgnfciaaGreatDoor
