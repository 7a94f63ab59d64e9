/- The law ShaSums returns true. -/
import Derived.Test.YtpiikgobdhgldaaDoorZ1
import Derived.IntWalk
namespace Go.Proofs.YtpiikgobdhgldaaDoor
open Go.RowKit Go.Sort

theorem flat_step (Ls : List (List UInt8)) (k m : Nat) (M : List UInt8) (h : k < Ls.length) (hM : Ls[k] = M) (hm : m = (Ls.take k).flatten.length) : (Ls.take (k + 1)).flatten.length = m + M.length := by
  rw [take_next Ls k h, List.length_append, hM, hm]

theorem index_any (a : Int) (n : Nat) (hn : 0 < n) : ∃ j : Nat, j < n ∧ ((0 ≤ a ∧ a % (n : Int) = (j : Int)) ∨ (a < 0 ∧ j = 0 ∧ a.tmod (n : Int) = 0) ∨ (a < 0 ∧ 0 < j ∧ a.tmod (n : Int) = -(j : Int))) := by
  have hn' : (0 : Int) < (n : Int) := by omega
  by_cases h : 0 ≤ a
  · have h1 := Int.emod_nonneg a (show (n : Int) ≠ 0 by omega)
    have h2 := Int.emod_lt_of_pos a hn'
    exact ⟨(a % (n : Int)).toNat, by omega, .inl ⟨h, by omega⟩⟩
  · have e : a.tmod (n : Int) = -((-a) % (n : Int)) := by
      rw [← Int.tmod_eq_emod_of_nonneg (a := -a) (by omega), Int.neg_tmod, Int.neg_neg]
    have h1 := Int.emod_nonneg (-a) (show (n : Int) ≠ 0 by omega)
    have h2 := Int.emod_lt_of_pos (-a) hn'
    by_cases h3 : (-a) % (n : Int) = 0
    · exact ⟨0, hn, .inr (.inl ⟨by omega, rfl, by rw [e, h3]; rfl⟩)⟩
    · exact ⟨((-a) % (n : Int)).toNat, by omega, .inr (.inr ⟨by omega, by omega, by rw [e]; omega⟩)⟩

theorem part_more {w w' : World} {v : Value} {M : List UInt8} (h : Part w w.heap.size v M) (hg : w.grownBy w' none) : Part w' w'.heap.size v M := by
  obtain ⟨a, cap, b, o, q1, q2, q3, q4, q5, q6⟩ := h.grown hg (by simp)
  exact ⟨a, cap, b, o, q1, q2, q3, Nat.lt_of_lt_of_le q4 hg.size, q5, q6⟩
theorem parts_at1 (V : World) (b : Nat) (v : Value) (M : List UInt8) (hb : V.heap[b]? = some (.cells #[v] 24 (0, 0))) (h : Part V V.heap.size v M) : Parts V V.heap.size (some ⟨b, 0, none⟩) [M] := by
  refine ⟨b, 0, (Array.getElem?_eq_some_iff.1 hb).1, fun _ => rfl, fun i hi => ?_⟩
  have h0 : i = 0 := by simpa using hi
  subst h0
  exact ⟨v, by rw [Nat.add_zero, cell_in hb]; rfl, h⟩
theorem parts_at2 (V : World) (b : Nat) (v1 v2 : Value) (M1 M2 : List UInt8) (hb : V.heap[b]? = some (.cells #[v1, v2] 24 (0, 0))) (h1 : Part V V.heap.size v1 M1) (h2 : Part V V.heap.size v2 M2) :
    Parts V V.heap.size (some ⟨b, 0, none⟩) [M1, M2] := by
  refine ⟨b, 0, (Array.getElem?_eq_some_iff.1 hb).1, fun _ => rfl, fun i hi => ?_⟩
  match i, hi with
  | 0, _ => exact ⟨v1, by rw [Nat.add_zero, cell_in hb]; rfl, h1⟩
  | 1, _ => exact ⟨v2, by rw [Nat.zero_add, cell_in hb]; rfl, h2⟩

/-- A text, parted in two. -/
theorem cut_parts (wr : World) (ad : Option Addr) (m cp j : Nat) (T : List UInt8) (hT : T.length = m) (hj : j ≤ m) (hp : Part wr wr.heap.size (.slice ad m cp) T) :
    ∃ (y1 y2 : Option Addr) (l1 l2 r1 r2 : Nat),
      (∀ V : World, (Instr.sliceAt 24 (.slice ad m cp) none (some (.int .i64 (j : Int))) none).run Tryd.prog V = .ok (.slice y1 l1 r1) V) ∧
      (∀ V : World, (Instr.sliceAt 24 (.slice ad m cp) (some (.int .i64 (j : Int))) none none).run Tryd.prog V = .ok (.slice y2 l2 r2) V) ∧
      Part wr wr.heap.size (.slice y1 l1 r1) (T.take j) ∧ Part wr wr.heap.size (.slice y2 l2 r2) (T.drop j) := by
  obtain ⟨a, cap, b, o, e, h2, h3, h4, h5, h6⟩ := hp
  rw [hT, Value.slice.injEq] at e
  obtain ⟨rfl, _, rfl⟩ := e
  have he : Tryd.prog.underlying 24 = some (.slice (Tryd.prog.elem 24)) := by kernel_rfl
  have hz : ∀ V : World, (sizeOf (Tryd.prog.elem 24)).run Tryd.prog V = .ok 1 V := by intro V; kernel_rfl
  refine ⟨if cp = 0 then ad else ad.map (·.add 0), if cp = j then ad else ad.map (·.add j), j, m - j, cp, cp - j, fun V => ?_, fun V => ?_, ?_, ?_⟩
  · rw [run_sliceAt_slice _ _ _ _ _ _ he, run_slice_h V 24 ad m cp he .i64 j (by omega) (by omega), hz]
    simp only [Result.andThen_ok, sliced, Int.toNat_natCast, Nat.sub_zero, Nat.zero_mul]
  · rw [run_sliceAt_slice _ _ _ _ _ _ he, run_slice_l V 24 ad m cp he .i64 j (by omega) (by omega), hz]
    simp only [Result.andThen_ok, sliced, Int.toNat_natCast, Nat.mul_one]
  · refine ⟨_, cp, b, o, by rw [List.length_take, hT, Nat.min_eq_left hj], by rw [List.length_take, hT]; omega, fun hn => ?_, h4, fun hp => ?_, fun i hi => ?_⟩
    · by_cases hc : cp = 0
      · exact hc
      · rw [if_neg hc] at hn
        exact h3 (by simpa using hn)
    · rw [List.length_take, hT] at hp
      rw [if_neg (by omega), h5 (by omega), Option.map_some, Addr.add_mid, Nat.add_zero]
    · rw [List.length_take, hT] at hi
      rw [h6 i (by omega), List.getD_eq_getElem?_getD, List.getD_eq_getElem?_getD, List.getElem?_take, if_pos (by omega)]
  · refine ⟨_, cp - j, b, o + j, by rw [List.length_drop, hT], by rw [List.length_drop, hT]; omega, fun hn => ?_, h4, fun hp => ?_, fun i hi => ?_⟩
    · by_cases hc : cp = j
      · omega
      · rw [if_neg hc] at hn
        have := h3 (by simpa using hn)
        omega
    · rw [List.length_drop, hT] at hp
      rw [if_neg (by omega), h5 (by omega), Option.map_some, Addr.add_mid]
    · rw [List.length_drop, hT] at hi
      rw [Nat.add_assoc, h6 (j + i) (by omega), List.getD_eq_getElem?_getD, List.getD_eq_getElem?_getD, List.getElem?_drop]

set_option maxRecDepth 1000000
set_option maxHeartbeats 1000000 in
theorem sums_law (B cap n : Nat) (al : Option Addr) (at_ : Int) (Ls : List (List UInt8)) (w : World) (hn : Ls.length = n) (hB : B ≤ w.heap.size) (hcap : n ≤ cap) (hc2 : cap ≤ maxLen) (ha0 : -9223372036854775808 ≤ at_) (ha1 : at_ ≤ 9223372036854775807)
    (h0 : 0 < w.heap.size) (hlens : ∀ i (h : i < Ls.length), Ls[i].length ≤ maxLen) (hT : ∀ j, j < 64 → w.cell? ⟨0, j, none⟩ = some (encW table[j]!)) (hP : Parts w B al Ls) :
    Calls Tryd.prog 3 #[.slice al n cap, .int .i64 at_] w fun e w' => e = .returned (.bool true) ∧ w.grownBy w' none := by
  unfold maxLen at hc2 hlens
  have HN := Lib.hid hn
  have HT := Lib.hid hT
  have HPP := Lib.hid hP
  have HL := Lib.hid hlens
  clear hn hT hP hlens
  by_cases hlong : 10 < n
  · go_enter Tryd.func3, Tryd.ntmps3
    go_wp2_with fail
    (with_reducible refine (known_any w h0 HT.out).mono ?_)
    rintro ee w1 ⟨rfl, g1⟩
    dsimp only
    go_wp2
    go_ret
    exact ⟨rfl, g1⟩
  · have hn10 : n ≤ 10 := by omega
    go_enter Tryd.func3, Tryd.ntmps3
    go_wp2_with fail
    (with_reducible refine (known_any w h0 HT.out).mono ?_)
    rintro ee w1 ⟨rfl, g1⟩
    dsimp only
    clear hlong
    go_wp2
    go_loopw [5, 6] (fun v i wr => ∃ (k m cp : Nat) (ad : Option Addr), k ≤ n ∧ i = .int .i64 k ∧ v = .slice ad m cp ∧ m = (Ls.take k).flatten.length ∧ m ≤ 300 * k ∧ cp ≤ 9223372036854775807 ∧ Owns wr w1.heap.size v (Ls.take k).flatten ∧ w1.grownBy wr none) (fun _ i _ => n - (intOf i).toNat)
    case atStart => exact ⟨0, 0, 0, none, by omega, rfl, rfl, rfl, by omega, by omega, Owns.nil _ _, World.grownBy.refl _ _⟩
    case round =>
      obtain ⟨k, m, cp, ad, hk, rfl, rfl, hm, hm3, hcp, hown, hgw⟩ := hrel
      have HM := Lib.hid hm
      have HO := Lib.hid hown
      clear hm hown
      by_cases hlt : k < n
      · obtain ⟨b, o, p1, p2, p3⟩ := HPP.out.grown (World.grownBy.trans g1 hgw) (by simp)
        obtain ⟨v, hv, hpart⟩ := p3 k (by rw [HN.out]; exact hlt)
        have hML := HL.out k (by rw [HN.out]; exact hlt)
        obtain ⟨M, hM⟩ : ∃ M, Ls[k]'(by rw [HN.out]; exact hlt) = M := ⟨_, rfl⟩
        rw [hM] at hpart hML
        have hstep := flat_step Ls k m M (by rw [HN.out]; exact hlt) hM HM.out
        have hflat := take_next Ls k (by rw [HN.out]; exact hlt)
        rw [hM] at hflat
        have ha := p2 (by rw [HN.out]; omega)
        subst ha
        have HF := Lib.hid hflat
        have HS := Lib.hid hstep
        have hpart0 := hpart
        obtain ⟨va, vc, vb, vo, rfl, _⟩ := hpart0
        have HPA := Lib.hid hpart
        obtain ⟨ml, hml⟩ : ∃ ml, M.length = ml := ⟨_, rfl⟩
        rw [hml] at hv HPA hML HS
        have HML := Lib.hid hml
        clear hflat hpart p3 p2 hM hstep hml
        by_cases hbig : 300 < ml
        · go_wp2
          go_ret
          exact ⟨rfl, World.grownBy.trans g1 hgw⟩
        · have hml3 : ml ≤ 300 := by omega
          clear hbig
          go_wp2_with ((with_reducible refine app_part (o := ⟨some 31, _, _, _, _, _⟩) rfl _ _ rfl w1.heap.size B (.slice ad m cp) (.slice va ml vc) (Ls.take k).flatten M ?_ HO.out ?_ HPA.out ?_ hgw.size ?_); (exact rfl); (exact rfl); (rw [← HM.out, HML.out]; omega); (intro v2 w2 ho2 hg2); have HO2 := Lib.hid ho2; have HG2 := Lib.hid (HO.out.grown hgw hg2); clear ho2 hg2)
          go_roundw
          case rel =>
            obtain ⟨ad2, cp2, h1, h2, h3⟩ := HO2.out.form
            refine ⟨k + 1, _, cp2, ad2, by omega, by go_num, h1, by rw [HF.out], ?_, h3, ?_, HG2.out⟩
            · rw [← HF.out, HS.out]; omega
            · rw [HF.out]; exact HO2.out
          case measure => simp [intOf]; omega
      · have hkn : k = n := by omega
        subst hkn
        clear hlt hk
        have hLL : (Ls.take k).flatten = Ls.flatten := by rw [List.take_of_length_le (by rw [HN.out]; exact Nat.le_refl _)]
        have hT3 : Ls.flatten.length = m := by rw [HM.out, hLL]
        have hown : Hid (Owns wr w1.heap.size (.slice ad m cp) Ls.flatten) := by show Owns _ _ _ _; rw [← hLL]; exact HO.out
        have hm3' : m ≤ 3000 := by omega
        have hTm := Lib.hid hT3
        have gw := World.grownBy.trans g1 hgw
        have hPw := HPP.out.grown gw (by simp)
        have HPW := Lib.hid hPw
        obtain ⟨DK, hDK⟩ : ∃ DK, (digest Ls.flatten).map encB = DK := ⟨_, rfl⟩
        have hD32 : DK.size = 32 := by rw [← hDK, Array.size_map, digest_size]
        have hD1 : Hid (DK.all (·.oneCell') = true) := by
          show _ = _
          rw [← hDK, Array.all_map]
          exact Array.all_eq_true.2 fun i hi => rfl
        have heq : ∀ W : World, (binOp .eql 26 (.agg DK) (.agg DK)).run Tryd.prog W = .ok (.bool true) W := fun W => by rw [← hDK]; exact eql_key _ (digest_size _) W
        have hz : ∀ W : World, (zeroValue 26).run Tryd.prog W = .ok (.agg zero32A) W := by intro W; kernel_rfl
        have hst := fun W => store_new W DK hD32 hD1.out
        have hzs := zero32A_size
        have HDK := Lib.hid hDK
        obtain ⟨m1, hm1⟩ : ∃ m1, m + 1 = m1 := ⟨_, rfl⟩
        obtain ⟨j, hj, hidx⟩ := index_any at_ m1 (by omega)
        have hj2 : j ≤ m := by omega
        have hm1' : (m : Int) + 1 = (m1 : Int) := by omega
        rw [← hm1'] at hidx
        clear hLL hT3 HO HM hm3 hPw hDK hm1' hm1 hj
        rcases hidx with ⟨i1, i2⟩ | ⟨i1, i3, i2⟩ | ⟨i1, i3, i2⟩
        · go_wp2_with fail
          (with_reducible refine (of_any B cap k al Ls wr HN.out hcap (by unfold maxLen; omega) (by rw [hTm.out]; omega) HPW.out).mono ?_)
          rintro ee w3 ⟨he, g3⟩
          rw [HDK.out] at he
          subst he
          dsimp only
          have gw8 : wr.grownBy (w3.alloc (.cells DK 26)) none := World.grownBy.trans g3 (World.grownBy_alloc _ _ _)
          have h8 : (w3.alloc (.cells DK 26)).heap[w3.heap.size]? = some (.cells DK 26 (0, 0)) := heap_alloc_new _ _
          obtain ⟨y1, y2, l1, l2, r1, r2, hs1, hs2, hq1, hq2⟩ := cut_parts wr ad m cp j Ls.flatten hTm.out hj2 (hown.out.part (Nat.lt_of_lt_of_le h0 gw.size))
          have hq0 := hown.out.part (Nat.lt_of_lt_of_le h0 gw.size)
          have HS1 := Lib.hid hs1
          have HS2 := Lib.hid hs2
          have HQ0 := Lib.hid hq0
          have HQ1 := Lib.hid hq1
          have HQ2 := Lib.hid hq2
          clear hs1 hs2 hq0 hq1 hq2
          go_wp2_with fail
          rw [i2]
          refine last16 al ad k cap m cp j w3.heap.size y1 y2 l1 l2 r1 r2 DK _ HS1.out HS2.out hD32 h8 (fun V hV => ?_) (fun V b hV hb => ?_) (fun V b hV hb => ?_) heq _ _ _ _ _ _ _ _ _ _ _ _ _ _ _ _ _ _ _ _ _ _ _ _ _ _ _ _ _ _ _ _ _ _ _ _ _ _ _ _ _ _ _ _ _ _ _ _ _ _ _ _ _ _ _ _ _ _ _ _ _ _ _ ?_
          · have hwV := World.grownBy.trans (World.grownBy.trans gw gw8) hV
            refine (sum_any B cap k al Ls V HN.out (Nat.le_trans hB hwV.size) hcap (by unfold maxLen; omega) (by rw [hTm.out]; omega) (fun j hj => hwV.cell (HT.out j hj) (by simp)) (HPP.out.grown hwV (by simp))).mono fun e w' h => ⟨by rw [h.1, HDK.out], World.grownBy.trans hV h.2⟩
          · have hwV := World.grownBy.trans (World.grownBy.trans gw gw8) hV
            have hrV := World.grownBy.trans gw8 hV
            refine (sum_any V.heap.size 1 1 _ [Ls.flatten] V rfl (Nat.le_refl _) (Nat.le_refl _) (by unfold maxLen; omega) (by simp only [List.flatten_cons, List.flatten_nil, List.append_nil]; rw [hTm.out]; omega) (fun j hj => hwV.cell (HT.out j hj) (by simp)) (parts_at1 V b _ _ hb (part_more HQ0.out hrV))).mono fun e w' h => ⟨by rw [h.1, ← HDK.out]; simp only [List.flatten_cons, List.flatten_nil, List.append_nil], World.grownBy.trans hV h.2⟩
          · have hwV := World.grownBy.trans (World.grownBy.trans gw gw8) hV
            have hrV := World.grownBy.trans gw8 hV
            refine (sum_any V.heap.size 2 2 _ [Ls.flatten.take j, Ls.flatten.drop j] V rfl (Nat.le_refl _) (Nat.le_refl _) (by unfold maxLen; omega) (by simp only [List.flatten_cons, List.flatten_nil, List.append_nil, List.take_append_drop]; rw [hTm.out]; omega) (fun j hj => hwV.cell (HT.out j hj) (by simp)) (parts_at2 V b _ _ _ _ hb (part_more HQ1.out hrV) (part_more HQ2.out hrV))).mono fun e w' h => ⟨by rw [h.1, ← HDK.out]; simp only [List.flatten_cons, List.flatten_nil, List.append_nil, List.take_append_drop], World.grownBy.trans hV h.2⟩
          intro z43 z44 z45 z46 z47 z48 z49 z50 z51 z52 z53 z54 z55 z56 z57 z58 z59 z60 z61 z62 z63 z64 z65 wz hgz
          clear HS1 HS2
          go_wp2
          go_ret
          exact ⟨rfl, World.grownBy.trans (World.grownBy.trans gw gw8) hgz⟩
        · have hnn : ¬ 0 ≤ at_ := by omega
          rw [show (0 : Int) = (j : Int) by omega] at i2
          clear i3
          go_wp2_with fail
          (with_reducible refine (of_any B cap k al Ls wr HN.out hcap (by unfold maxLen; omega) (by rw [hTm.out]; omega) HPW.out).mono ?_)
          rintro ee w3 ⟨he, g3⟩
          rw [HDK.out] at he
          subst he
          dsimp only
          have gw8 : wr.grownBy (w3.alloc (.cells DK 26)) none := World.grownBy.trans g3 (World.grownBy_alloc _ _ _)
          have h8 : (w3.alloc (.cells DK 26)).heap[w3.heap.size]? = some (.cells DK 26 (0, 0)) := heap_alloc_new _ _
          obtain ⟨y1, y2, l1, l2, r1, r2, hs1, hs2, hq1, hq2⟩ := cut_parts wr ad m cp j Ls.flatten hTm.out hj2 (hown.out.part (Nat.lt_of_lt_of_le h0 gw.size))
          have hq0 := hown.out.part (Nat.lt_of_lt_of_le h0 gw.size)
          have HS1 := Lib.hid hs1
          have HS2 := Lib.hid hs2
          have HQ0 := Lib.hid hq0
          have HQ1 := Lib.hid hq1
          have HQ2 := Lib.hid hq2
          clear hs1 hs2 hq0 hq1 hq2
          go_wp2_with fail
          refine last16 al ad k cap m cp j w3.heap.size y1 y2 l1 l2 r1 r2 DK _ HS1.out HS2.out hD32 h8 (fun V hV => ?_) (fun V b hV hb => ?_) (fun V b hV hb => ?_) heq _ _ _ _ _ _ _ _ _ _ _ _ _ _ _ _ _ _ _ _ _ _ _ _ _ _ _ _ _ _ _ _ _ _ _ _ _ _ _ _ _ _ _ _ _ _ _ _ _ _ _ _ _ _ _ _ _ _ _ _ _ _ _ ?_
          · have hwV := World.grownBy.trans (World.grownBy.trans gw gw8) hV
            refine (sum_any B cap k al Ls V HN.out (Nat.le_trans hB hwV.size) hcap (by unfold maxLen; omega) (by rw [hTm.out]; omega) (fun j hj => hwV.cell (HT.out j hj) (by simp)) (HPP.out.grown hwV (by simp))).mono fun e w' h => ⟨by rw [h.1, HDK.out], World.grownBy.trans hV h.2⟩
          · have hwV := World.grownBy.trans (World.grownBy.trans gw gw8) hV
            have hrV := World.grownBy.trans gw8 hV
            refine (sum_any V.heap.size 1 1 _ [Ls.flatten] V rfl (Nat.le_refl _) (Nat.le_refl _) (by unfold maxLen; omega) (by simp only [List.flatten_cons, List.flatten_nil, List.append_nil]; rw [hTm.out]; omega) (fun j hj => hwV.cell (HT.out j hj) (by simp)) (parts_at1 V b _ _ hb (part_more HQ0.out hrV))).mono fun e w' h => ⟨by rw [h.1, ← HDK.out]; simp only [List.flatten_cons, List.flatten_nil, List.append_nil], World.grownBy.trans hV h.2⟩
          · have hwV := World.grownBy.trans (World.grownBy.trans gw gw8) hV
            have hrV := World.grownBy.trans gw8 hV
            refine (sum_any V.heap.size 2 2 _ [Ls.flatten.take j, Ls.flatten.drop j] V rfl (Nat.le_refl _) (Nat.le_refl _) (by unfold maxLen; omega) (by simp only [List.flatten_cons, List.flatten_nil, List.append_nil, List.take_append_drop]; rw [hTm.out]; omega) (fun j hj => hwV.cell (HT.out j hj) (by simp)) (parts_at2 V b _ _ _ _ hb (part_more HQ1.out hrV) (part_more HQ2.out hrV))).mono fun e w' h => ⟨by rw [h.1, ← HDK.out]; simp only [List.flatten_cons, List.flatten_nil, List.append_nil, List.take_append_drop], World.grownBy.trans hV h.2⟩
          intro z43 z44 z45 z46 z47 z48 z49 z50 z51 z52 z53 z54 z55 z56 z57 z58 z59 z60 z61 z62 z63 z64 z65 wz hgz
          clear HS1 HS2
          go_wp2
          go_ret
          exact ⟨rfl, World.grownBy.trans (World.grownBy.trans gw gw8) hgz⟩
        · have hnn : ¬ 0 ≤ at_ := by omega
          go_wp2_with fail
          (with_reducible refine (of_any B cap k al Ls wr HN.out hcap (by unfold maxLen; omega) (by rw [hTm.out]; omega) HPW.out).mono ?_)
          rintro ee w3 ⟨he, g3⟩
          rw [HDK.out] at he
          subst he
          dsimp only
          have gw8 : wr.grownBy (w3.alloc (.cells DK 26)) none := World.grownBy.trans g3 (World.grownBy_alloc _ _ _)
          have h8 : (w3.alloc (.cells DK 26)).heap[w3.heap.size]? = some (.cells DK 26 (0, 0)) := heap_alloc_new _ _
          obtain ⟨y1, y2, l1, l2, r1, r2, hs1, hs2, hq1, hq2⟩ := cut_parts wr ad m cp j Ls.flatten hTm.out hj2 (hown.out.part (Nat.lt_of_lt_of_le h0 gw.size))
          have hq0 := hown.out.part (Nat.lt_of_lt_of_le h0 gw.size)
          have HS1 := Lib.hid hs1
          have HS2 := Lib.hid hs2
          have HQ0 := Lib.hid hq0
          have HQ1 := Lib.hid hq1
          have HQ2 := Lib.hid hq2
          clear hs1 hs2 hq0 hq1 hq2
          go_wp2_with fail
          refine last16 al ad k cap m cp j w3.heap.size y1 y2 l1 l2 r1 r2 DK _ HS1.out HS2.out hD32 h8 (fun V hV => ?_) (fun V b hV hb => ?_) (fun V b hV hb => ?_) heq _ _ _ _ _ _ _ _ _ _ _ _ _ _ _ _ _ _ _ _ _ _ _ _ _ _ _ _ _ _ _ _ _ _ _ _ _ _ _ _ _ _ _ _ _ _ _ _ _ _ _ _ _ _ _ _ _ _ _ _ _ _ _ ?_
          · have hwV := World.grownBy.trans (World.grownBy.trans gw gw8) hV
            refine (sum_any B cap k al Ls V HN.out (Nat.le_trans hB hwV.size) hcap (by unfold maxLen; omega) (by rw [hTm.out]; omega) (fun j hj => hwV.cell (HT.out j hj) (by simp)) (HPP.out.grown hwV (by simp))).mono fun e w' h => ⟨by rw [h.1, HDK.out], World.grownBy.trans hV h.2⟩
          · have hwV := World.grownBy.trans (World.grownBy.trans gw gw8) hV
            have hrV := World.grownBy.trans gw8 hV
            refine (sum_any V.heap.size 1 1 _ [Ls.flatten] V rfl (Nat.le_refl _) (Nat.le_refl _) (by unfold maxLen; omega) (by simp only [List.flatten_cons, List.flatten_nil, List.append_nil]; rw [hTm.out]; omega) (fun j hj => hwV.cell (HT.out j hj) (by simp)) (parts_at1 V b _ _ hb (part_more HQ0.out hrV))).mono fun e w' h => ⟨by rw [h.1, ← HDK.out]; simp only [List.flatten_cons, List.flatten_nil, List.append_nil], World.grownBy.trans hV h.2⟩
          · have hwV := World.grownBy.trans (World.grownBy.trans gw gw8) hV
            have hrV := World.grownBy.trans gw8 hV
            refine (sum_any V.heap.size 2 2 _ [Ls.flatten.take j, Ls.flatten.drop j] V rfl (Nat.le_refl _) (Nat.le_refl _) (by unfold maxLen; omega) (by simp only [List.flatten_cons, List.flatten_nil, List.append_nil, List.take_append_drop]; rw [hTm.out]; omega) (fun j hj => hwV.cell (HT.out j hj) (by simp)) (parts_at2 V b _ _ _ _ hb (part_more HQ1.out hrV) (part_more HQ2.out hrV))).mono fun e w' h => ⟨by rw [h.1, ← HDK.out]; simp only [List.flatten_cons, List.flatten_nil, List.append_nil, List.take_append_drop], World.grownBy.trans hV h.2⟩
          intro z43 z44 z45 z46 z47 z48 z49 z50 z51 z52 z53 z54 z55 z56 z57 z58 z59 z60 z61 z62 z63 z64 z65 wz hgz
          clear HS1 HS2
          go_wp2
          go_ret
          exact ⟨rfl, World.grownBy.trans (World.grownBy.trans gw gw8) hgz⟩
end Go.Proofs.YtpiikgobdhgldaaDoor
