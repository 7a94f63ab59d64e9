/- The law LockLines returns true. -/
import Derived.Test.YthdopcdllggdaaaGreatDoorKoM
import Derived.Test.YthdopcdllggdaaaGreatDoorKmM
namespace Go.Proofs.YthdopcdllggdaaaGreatDoor
open Go.RowKit
attribute [local irreducible] wpQuiet

def pinX : Pc := ⟨⟨#[120]⟩, ⟨0, 0, 0, []⟩, none, 0, zeroK, zeroK_size⟩
theorem built_X : Tryz.prog.built 35 [(0, .string ⟨#[120]⟩)] = some pinX.enc.toArray := by kernel_rfl
def zerosB : ByteArray := toB zerosL
theorem read_zero : Read ⟨#[48, 46, 48, 46, 48]⟩ ⟨0, 0, 0, []⟩ := parse_read _ _ (by
  have h := nums_parse 0 0 0 (by omega) (by omega) (by omega)
  have e : numsS 0 0 0 = ⟨#[48, 46, 48, 46, 48]⟩ := by decide +kernel
  rw [e] at h
  exact h)
theorem part_X {V : World} {q : Nat} (h : V.heap[q]? = some (.cells pinX.enc.toArray 35 (0, 0))) : PartP V V.heap.size (.slice (some ⟨q, 0, none⟩) 1 1) [pinX] :=
  ⟨some ⟨q, 0, none⟩, 1, q, 0, rfl, by simp, (fun h => by cases h), bk_size h, (fun _ => rfl), fun k p hk => by
    cases k with
    | succ k => simp at hk
    | zero =>
      obtain rfl : pinX = p := by simpa using hk
      intro j u hj
      show V.cell? ⟨q, 0 + 0 * 37 + j, none⟩ = some u
      rw [show 0 + 0 * 37 + j = j by omega, cell_in h]
      simpa using hj⟩
theorem all_X (V : World) {q : Nat} (h : q < V.heap.size) : AllAt V V.heap.size [pinX] := fun p hp => by
  rw [List.mem_singleton.1 hp]
  exact ⟨read_zero.at (PartS.nil (Nat.zero_lt_of_lt h)), by show 1 ≤ 1000000; omega⟩
theorem text_X : lockT [pinX] = headL ++ ([120, 32, 48, 46, 48, 46, 48, 32] ++ (zerosL ++ [10])) := by
  unfold lockT
  rw [sortP_ord _ (fun i j x y hij hi hj => by
    have h1 := (List.getElem?_eq_some_iff.1 hj).1
    simp at h1
    omega)]
  have e : textS pinX.v = ⟨#[48, 46, 48, 46, 48]⟩ := read_zero.text
  have e2 : Sha.hexL pinX.key.toList = zerosL := hex_zero
  unfold rowT
  rw [List.flatMap_cons, List.flatMap_nil, List.append_nil, pinL_line]
  unfold lineW
  rw [e, e2]
  simp [pinX]
theorem size_X : (⟨(lockT [pinX]).toArray⟩ : ByteArray).size = 80 := by
  have e := size_toB (lockT [pinX])
  unfold toB at e
  rw [e, text_X]
  simp [headL, zerosL]
theorem cut_X : (⟨(lockT [pinX]).toArray⟩ : ByteArray).extract 15 79 = zerosB := by
  rw [text_X]
  decide +kernel
theorem rows_next (h i j : Nat) (B : List (List UInt8)) (hB : linesH h i (j + 1) = linesH h i j ++ B) (sj X : ByteArray) (hs : toB (headL ++ writ (linesH h i j)) = sj) (hX : X.data.toList = writ B) : sj ++ X = toB (headL ++ writ (linesH h i (j + 1))) := by
  rw [hB, writ_app, ← hs]
  refine bytes_ext ?_
  rw [ByteArray.data_append, Array.toList_append, data_toB, data_toB, hX, List.append_assoc]
theorem next_any (h i j : Nat) (sj lj : ByteArray) (hs : toB (headL ++ writ (linesH h i j)) = sj) (hl : toB (lineJ j) = lj) (hji : ¬ j = i) : sj ++ lj ++ ⟨#[10]⟩ = toB (headL ++ writ (linesH h i (j + 1))) := by
  rw [ByteArray.append_assoc]
  refine rows_next h i j [lineJ j] (by rw [linesH, if_neg hji]) sj _ hs ?_
  rw [← hl]
  simp [writ, data_toB]
theorem next_0 (i j : Nat) (sj lj : ByteArray) (hs : toB (headL ++ writ (linesH 0 i j)) = sj) (hl : toB (lineJ j) = lj) (hS : linesH 0 i (j + 1) = linesH 0 i j ++ badJ 0 i) (hji : j = i) : sj ++ lj ++ ⟨#[10]⟩ ++ lj ++ ⟨#[10]⟩ = toB (headL ++ writ (linesH 0 i (j + 1))) := by
  subst hji
  rw [ByteArray.append_assoc, ByteArray.append_assoc, ByteArray.append_assoc]
  refine rows_next 0 j j _ hS sj _ hs ?_
  rw [← hl]
  simp [writ, data_toB, badJ]
theorem next_1 (i j : Nat) (sj lj : ByteArray) (hs : toB (headL ++ writ (linesH 1 i j)) = sj) (hl : toB (lineJ j) = lj) (hS : linesH 1 i (j + 1) = linesH 1 i j ++ badJ 1 i) (hji : j = i) : sj ++ lj.extract 0 72 ++ ⟨#[10]⟩ = toB (headL ++ writ (linesH 1 i (j + 1))) := by
  subst hji
  rw [ByteArray.append_assoc]
  refine rows_next 1 j j _ hS sj _ hs ?_
  have hd : (lineJ j).dropLast = (lineJ j).take 72 := by rw [List.dropLast_eq_take, lineJ_len]
  rw [← hl, ByteArray.data_append, Array.toList_append, extract_head, data_toB]
  simp [writ, badJ, hd]
theorem next_2 (i j : Nat) (sj lj : ByteArray) (hs : toB (headL ++ writ (linesH 2 i j)) = sj) (hl : toB (lineJ j) = lj) (hS : linesH 2 i (j + 1) = linesH 2 i j ++ badJ 2 i) (hji : j = i) : sj ++ (lj ++ ⟨#[32]⟩) ++ ⟨#[10]⟩ = toB (headL ++ writ (linesH 2 i (j + 1))) := by
  subst hji
  rw [ByteArray.append_assoc]
  refine rows_next 2 j j _ hS sj _ hs ?_
  rw [← hl]
  simp [writ, data_toB, badJ]
theorem next_3 (i j : Nat) (sj lj : ByteArray) (hs : toB (headL ++ writ (linesH 3 i j)) = sj) (hl : toB (lineJ j) = lj) (hS : linesH 3 i (j + 1) = linesH 3 i j ++ badJ 3 i) (hji : j = i) : sj ++ ⟨#[]⟩ ++ ⟨#[10]⟩ = toB (headL ++ writ (linesH 3 i (j + 1))) := by
  subst hji
  rw [ByteArray.append_assoc]
  refine rows_next 3 j j _ hS sj _ hs ?_
  simp [writ, badJ]
theorem next_4 (i j : Nat) (sj lj : ByteArray) (hs : toB (headL ++ writ (linesH 4 i j)) = sj) (hl : toB (lineJ j) = lj) (hS : linesH 4 i (j + 1) = linesH 4 i j ++ badJ 4 i) (hji : j = i) : sj ++ (⟨#[35]⟩ ++ lj) ++ ⟨#[10]⟩ = toB (headL ++ writ (linesH 4 i (j + 1))) := by
  subst hji
  rw [ByteArray.append_assoc]
  refine rows_next 4 j j _ hS sj _ hs ?_
  rw [← hl]
  simp [writ, data_toB, badJ]
theorem next_5 (i j : Nat) (sj lj : ByteArray) (hs : toB (headL ++ writ (linesH 5 i j)) = sj) (hl : toB (lineJ j) = lj) (hS : linesH 5 i (j + 1) = linesH 5 i j ++ badJ 5 i) (hji : j = i) : sj ++ lj ++ ⟨#[10]⟩ = toB (headL ++ writ (linesH 5 i (j + 1))) := by
  subst hji
  rw [ByteArray.append_assoc]
  refine rows_next 5 j j _ hS sj _ hs ?_
  rw [← hl]
  simp [writ, data_toB, badJ]
set_option maxRecDepth 1000000
set_option maxHeartbeats 16000000 in
theorem lines_law (m : Int) (n0 at0 how : Nat) (hn : n0 ≤ 255) (ha : at0 ≤ 255) (hh : how ≤ 255) (w : World) (hw : Wok m w) : Calls Tryz.prog 4 #[.int .u8 n0, .int .u8 at0, .int .u8 how] w fun e w' => e = .returned (.bool true) ∧ w.grownBy w' none := by
  have HW := Lib.hid hw
  clear hw
  obtain ⟨k, hk⟩ : ∃ k, n0 % 8 + 1 = k := ⟨_, rfl⟩
  have ek : (n0 : Int) % 8 + 1 = (k : Int) := by omega
  have k8 : k ≤ 8 := by omega
  have k0 : 0 < k := by omega
  obtain ⟨i, hi⟩ : ∃ i, at0 % k = i := ⟨_, rfl⟩
  have hik : i < k := by rw [← hi]; exact Nat.mod_lt _ k0
  have ei : (at0 : Int) % (k : Int) = (i : Int) := by rw [← hi]; first | rfl | simp
  have ei2 : (at0 : Int).tmod (k : Int) = (i : Int) := by rw [Int.tmod_eq_emod_of_nonneg (by omega)]; exact ei
  obtain ⟨h, hh6⟩ : ∃ h, how % 6 = h := ⟨_, rfl⟩
  have eh : (how : Int) % 6 = (h : Int) := by omega
  have h6 : h < 6 := by omega
  clear hk hi hh6
  go_enter Tryz.func4, Tryz.ntmps4
  go_wp2_with fail
  (with_reducible refine (known_any m w HW.out).mono ?_)
  rintro ee w0 ⟨rfl, g0⟩
  have G0 := Lib.hid g0
  clear g0
  dsimp only
  go_wp2_with fail
  go_loopw [9, 10] (fun s j wr => ∃ jj : Nat, jj ≤ k ∧ j = .int .i64 jj ∧ s = .string (toB (headL ++ writ (linesH h i jj))) ∧ Hid (w0.grownBy wr none)) (fun _ j _ => k - (intOf j).toNat)
  case atStart => exact ⟨0, Nat.zero_le _, rfl, rfl, Lib.hid (World.grownBy.refl _ _)⟩
  case round =>
    obtain ⟨j, hj, rfl, rfl, HG⟩ := hrel
    by_cases hlt : j < k
    · obtain ⟨c, hc⟩ : ∃ c, UInt8.ofNat (97 + j) = c := ⟨_, rfl⟩
      have hcv : (c.toNat : Int) = 97 + (j : Int) := by rw [← hc, UInt8.toNat_ofNat']; omega
      have HCV := Lib.hid hcv
      have HCE := Lib.hid hc
      have HU8 : Hid (IntKind.u8.wrap (97 + (j : Int)) = 97 + (j : Int)) := Lib.hid (by simp [IntKind.wrap, IntKind.bits, IntKind.signed]; omega)
      obtain ⟨T0, hT0⟩ : ∃ T0 : ByteArray, (⟨(lockT [pinX]).toArray⟩ : ByteArray) = T0 := ⟨_, rfl⟩
      have HT0 := Lib.hid hT0
      have HTS : Hid (T0.size = 80) := Lib.hid (by rw [← hT0]; exact size_X)
      have HTX : Hid (T0.extract 15 79 = zerosB) := Lib.hid (by rw [← hT0]; exact cut_X)
      clear hT0
      have HZB : Hid (zerosB.size = 64) := Lib.hid (by unfold zerosB; rw [size_toB]; rfl)
      clear hc hcv
      obtain ⟨lj, hlj⟩ : ∃ lj, toB (lineJ j) = lj := ⟨_, rfl⟩
      have HLJ := Lib.hid hlj
      have hls : lj.size = 73 := by rw [← hlj, size_toB, lineJ_len]
      have HLE : Hid ((⟨#[112]⟩ : ByteArray) ++ ⟨#[c]⟩ ++ ⟨#[32, 49, 46, 48, 46, 48, 32]⟩ ++ zerosB = lj) := Lib.hid (by
        rw [← hlj, ← HCE.out]
        refine bytes_ext ?_
        simp [lineJ, zerosB, data_toB])
      have HEH := Lib.hid eh
      have hss : (toB (headL ++ writ (linesH h i j))).size ≤ 2000 := by
        have := linesH_len h i j
        rw [size_toB, List.length_append]
        show 7 + _ ≤ _
        omega
      clear hlj
      obtain ⟨sj, hsj⟩ : ∃ sj, toB (headL ++ writ (linesH h i j)) = sj := ⟨_, rfl⟩
      have HSJ := Lib.hid hsj
      rw [hsj] at hss ⊢
      clear hsj
      go_wp2_with fail
      refine wp_region_noPanic ?_
      refine wp_region_held_drew (S := fun V => wr.grownBy V none) (by kernel_rfl) (grown_drew 1 (World.grownBy.refl _ _)) (fun g0 => ?_)
      obtain ⟨V0, hV0⟩ : ∃ V0, wr.drew = V0 := ⟨_, rfl⟩
      rw [hV0] at g0 ⊢
      clear hV0
      refine wpAnyH_take (i := 0) (v := .int .i64 j) rfl (by kernel_rfl) (by kernel_rfl) (by kernel_rfl) (fun _ _ _ h => h) (Or.inl ⟨by kernel_rfl, fun V' hV' => ?_⟩) g0 ?_
      · rfl
      try simp only [Act.put, List.getElem_toArray, List.getElem_cons_zero, List.getElem_cons_succ, List.setIfInBounds_toArray, List.set_cons_zero, List.set_cons_succ]
      refine wpAnyH_take (i := 1) (v := .int .i64 (97 + (j : Int))) rfl (by kernel_rfl) (by kernel_rfl) (by kernel_rfl) (fun _ _ _ h => h) (Or.inl ⟨by kernel_rfl, fun V' hV' => ?_⟩) g0 ?_
      · have hw1 : IntKind.i64.wrap (97 + (j : Int)) = 97 + (j : Int) := IntWalk.i64_in _ (by omega)
        go_simp
      try simp only [Act.put, List.getElem_toArray, List.getElem_cons_zero, List.getElem_cons_succ, List.setIfInBounds_toArray, List.set_cons_zero, List.set_cons_succ]
      refine wpAnyH_take (i := 2) (v := .int .u8 (97 + (j : Int))) rfl (by kernel_rfl) (by kernel_rfl) (by kernel_rfl) (fun _ _ _ h => h) (Or.inl ⟨by kernel_rfl, fun V' hV' => ?_⟩) g0 ?_
      · have h8 := HU8.out
        go_simp
      try simp only [Act.put, List.getElem_toArray, List.getElem_cons_zero, List.getElem_cons_succ, List.setIfInBounds_toArray, List.set_cons_zero, List.set_cons_succ]
      refine wpAnyH_take (i := 7) (v := .agg pinX.enc.toArray) rfl (by kernel_rfl) (by kernel_rfl) (by kernel_rfl) (fun _ _ _ h => h) (Or.inl ⟨by kernel_rfl, fun V' hV' => ?_⟩) g0 ?_
      · simp [execOp, Act.eval, run_build _ _ _ _ built_X, Result.andThen]
      try simp only [Act.put, List.getElem_toArray, List.getElem_cons_zero, List.getElem_cons_succ, List.setIfInBounds_toArray, List.set_cons_zero, List.set_cons_succ]
      refine wpAnyH_ready (rs := [3, 8]) (by kernel_rfl) (by simp) ?_
      refine AllReadyH.cons rfl (fun K hK => ?_) (AllReadyH.cons rfl (fun K hK => ?_) AllReadyH.nil)
      · rw [if_pos (by rfl)]
        go_simp
        refine hK.out _ _ (World.grownBy.trans g0 (World.grownBy_alloc _ _ _)) (fun g1 => ?_)
        clear hK K
        try simp only [Act.put, List.getElem_toArray, List.getElem_cons_zero, List.getElem_cons_succ, List.setIfInBounds_toArray, List.set_cons_zero, List.set_cons_succ]
        obtain ⟨q3, hq3⟩ : ∃ q3, (V0 : World).heap.size = q3 := ⟨_, rfl⟩
        have b3_1 : (World.alloc V0 (.cells #[.int .u8 (97 + (j : Int))] 5)).heap[q3]? = some (.cells #[.int .u8 (97 + (j : Int))] 5 (0, 0)) := by rw [← hq3]; exact bk_alloc _ _
        rw [hq3]
        obtain ⟨V1, hV1⟩ : ∃ V1, World.alloc V0 (.cells #[.int .u8 (97 + (j : Int))] 5) = V1 := ⟨_, rfl⟩
        have s1 : World.grownBy V0 V1 none := by rw [← hV1]; exact World.grownBy_alloc _ _ _
        rw [hV1] at g1 b3_1 ⊢
        clear hq3 hV1
        refine wpAnyH_ready (rs := [4, 8]) (by kernel_rfl) (by simp) ?_
        refine AllReadyH.cons rfl (fun K hK => ?_) (AllReadyH.cons rfl (fun K hK => ?_) AllReadyH.nil)
        · rw [if_pos (by rfl)]
          have hcv : (convert 22 9 (.slice (some ⟨q3, 0, none⟩) 1 1)).run Tryz.prog V1 = .ok (.string ⟨#[c]⟩) V1 := run_convert_bytes_back (P := Tryz.prog) V1 22 9 5 ⟨q3, 0, none⟩ 1 [c] Tryz.underlying22 Tryz.underlying5 Tryz.underlying9 (fun t ht => by
            obtain rfl : t = 0 := by simpa using ht
            show World.cell? V1 ⟨q3, 0 + 0, none⟩ = _
            rw [cell_in b3_1]
            show some (Value.int .u8 (97 + (j : Int))) = some (.int .u8 (c.toNat : Int))
            rw [HCV.out])
          go_simp
          refine hK.out _ _ g1 (fun g2 => ?_)
          clear hK K hcv
          try simp only [Act.put, List.getElem_toArray, List.getElem_cons_zero, List.getElem_cons_succ, List.setIfInBounds_toArray, List.set_cons_zero, List.set_cons_succ]
          refine wpAnyH_take (i := 5) (v := .string (⟨#[112]⟩ ++ ⟨#[c]⟩)) rfl (by kernel_rfl) (by kernel_rfl) (by kernel_rfl) (fun _ _ _ h => h) (Or.inl ⟨by kernel_rfl, fun V' hV' => ?_⟩) g2 ?_
          · go_simp
          try simp only [Act.put, List.getElem_toArray, List.getElem_cons_zero, List.getElem_cons_succ, List.setIfInBounds_toArray, List.set_cons_zero, List.set_cons_succ]
          refine wpAnyH_take (i := 6) (v := .string (⟨#[112]⟩ ++ ⟨#[c]⟩ ++ ⟨#[32, 49, 46, 48, 46, 48, 32]⟩)) rfl (by kernel_rfl) (by kernel_rfl) (by kernel_rfl) (fun _ _ _ h => h) (Or.inl ⟨by kernel_rfl, fun V' hV' => ?_⟩) g2 ?_
          · go_simp
          try simp only [Act.put, List.getElem_toArray, List.getElem_cons_zero, List.getElem_cons_succ, List.setIfInBounds_toArray, List.set_cons_zero, List.set_cons_succ]
          refine wpAnyH_ready (rs := [8]) (by kernel_rfl) (by simp) ?_
          refine AllReadyH.cons rfl (fun K hK => ?_) AllReadyH.nil
          · rw [if_pos (by rfl)]
            refine op_slice_pin _ rfl pinX.enc.toArray (by rw [List.size_toArray, enc_len]) rfl ?_
            refine hK.out _ _ (World.grownBy.trans g2 (World.grownBy_alloc _ _ _)) (fun g3 => ?_)
            clear hK K
            try simp only [Act.put, List.getElem_toArray, List.getElem_cons_zero, List.getElem_cons_succ, List.setIfInBounds_toArray, List.set_cons_zero, List.set_cons_succ]
            obtain ⟨q8, hq8⟩ : ∃ q8, (V1 : World).heap.size = q8 := ⟨_, rfl⟩
            have b8_3 : (World.alloc V1 (.cells pinX.enc.toArray 35)).heap[q8]? = some (.cells pinX.enc.toArray 35 (0, 0)) := by rw [← hq8]; exact bk_alloc _ _
            rw [hq8]
            obtain ⟨V3, hV3⟩ : ∃ V3, World.alloc V1 (.cells pinX.enc.toArray 35) = V3 := ⟨_, rfl⟩
            have s3 : World.grownBy V1 V3 none := by rw [← hV3]; exact World.grownBy_alloc _ _ _
            rw [hV3] at g3 b8_3 ⊢
            clear hq8 hV3
            have b3_3 := bk_kept b3_1 s3
            refine wpAnyH_ready (rs := [9]) (by kernel_rfl) (by simp) ?_
            refine AllReadyH.cons rfl (fun K hK => ?_) AllReadyH.nil
            · rw [if_pos (by rfl)]
              have hpx := part_X b8_3
              have hax := all_X V3 (bk_size b8_3)
              go_simp
              refine (refLockText_any 1 1 (some ⟨q8, 0, none⟩) [pinX] V3 (Nat.zero_lt_of_lt (bk_size b8_3)) rfl (by omega) hpx hax).mono ?_
              rintro ee V4 ⟨rfl, s4⟩
              rw [HT0.out]
              dsimp only
              refine hK.out _ _ (World.grownBy.trans g3 s4) (fun g4 => ?_)
              clear hK K
              try simp only [Act.put, List.getElem_toArray, List.getElem_cons_zero, List.getElem_cons_succ, List.setIfInBounds_toArray, List.set_cons_zero, List.set_cons_succ]
              have b3_4 := bk_kept b3_3 s4
              have b8_4 := bk_kept b8_3 s4
              refine wpAnyH_take (i := 10) (v := .string zerosB) rfl (by kernel_rfl) (by kernel_rfl) (by kernel_rfl) (fun _ _ _ h => h) (Or.inl ⟨by kernel_rfl, fun V' hV' => ?_⟩) g4 ?_
              · have hts := HTS.out
                have htx := HTX.out
                go_simp
              try simp only [Act.put, List.getElem_toArray, List.getElem_cons_zero, List.getElem_cons_succ, List.setIfInBounds_toArray, List.set_cons_zero, List.set_cons_succ]
              refine wpAnyH_take (i := 11) (v := .string (⟨#[112]⟩ ++ ⟨#[c]⟩ ++ ⟨#[32, 49, 46, 48, 46, 48, 32]⟩ ++ zerosB)) rfl (by kernel_rfl) (by kernel_rfl) (by kernel_rfl) (fun _ _ _ h => h) (Or.inl ⟨by kernel_rfl, fun V' hV' => ?_⟩) g4 ?_
              · have hzb := HZB.out
                go_simp
              try simp only [Act.put, List.getElem_toArray, List.getElem_cons_zero, List.getElem_cons_succ, List.setIfInBounds_toArray, List.set_cons_zero, List.set_cons_succ]
              refine wpAnyH_ready (rs := [12]) (by kernel_rfl) (by simp) ?_
              refine AllReadyH.cons rfl (fun K hK => ?_) AllReadyH.nil
              rw [if_pos (by rfl)]
              go_simp
              refine hK.out _ _ g4 (fun gf => ?_)
              clear hK K
              try simp only [Act.put, List.getElem_toArray, List.getElem_cons_zero, List.getElem_cons_succ, List.setIfInBounds_toArray, List.set_cons_zero, List.set_cons_succ]
              refine wpAnyH_done (by kernel_rfl) ?_ _
              refine NoPanic.normal ?_
              have HGV := Lib.hid g4
              obtain ⟨wv, hwv⟩ : ∃ wv, V4 = wv := ⟨_, rfl⟩
              rw [hwv] at HGV ⊢
              clear hwv
              have HGX := Lib.hid (World.grownBy.trans HG.out HGV.out)
              rw [HLE.out]
              by_cases hji : j = i
              · have e1 : ((j : Int) == (i : Int)) = true := by rw [beq_iff_eq]; omega
                have HSUC : Hid (linesH h i (j + 1) = linesH h i j ++ badJ h i) := Lib.hid (by rw [linesH, if_pos hji])
                have HJI := Lib.hid hji
                clear hji
                rcases (by omega : h = 0 ∨ h = 1 ∨ h = 2 ∨ h = 3 ∨ h = 4 ∨ h = 5) with rfl | rfl | rfl | rfl | rfl | rfl
                · have eh2 : (how : Int) % 6 = 0 := HEH.out
                  have HE : Hid (sj ++ lj ++ ⟨#[10]⟩ ++ lj ++ ⟨#[10]⟩ = toB (headL ++ writ (linesH 0 i (j + 1)))) := Lib.hid (next_0 i j sj lj HSJ.out HLJ.out HSUC.out HJI.out)
                  go_wp2
                  go_roundw
                  case rel => exact ⟨j + 1, by omega, by go_num, by rw [← HE.out], HGX⟩
                  case measure => simp [intOf]; omega
                · have eh2 : (how : Int) % 6 = 1 := HEH.out
                  have HE : Hid (sj ++ lj.extract 0 72 ++ ⟨#[10]⟩ = toB (headL ++ writ (linesH 1 i (j + 1)))) := Lib.hid (next_1 i j sj lj HSJ.out HLJ.out HSUC.out HJI.out)
                  go_wp2
                  go_roundw
                  case rel => exact ⟨j + 1, by omega, by go_num, by rw [← HE.out], HGX⟩
                  case measure => simp [intOf]; omega
                · have eh2 : (how : Int) % 6 = 2 := HEH.out
                  have HE : Hid (sj ++ (lj ++ ⟨#[32]⟩) ++ ⟨#[10]⟩ = toB (headL ++ writ (linesH 2 i (j + 1)))) := Lib.hid (next_2 i j sj lj HSJ.out HLJ.out HSUC.out HJI.out)
                  go_wp2
                  go_roundw
                  case rel => exact ⟨j + 1, by omega, by go_num, by rw [← HE.out], HGX⟩
                  case measure => simp [intOf]; omega
                · have eh2 : (how : Int) % 6 = 3 := HEH.out
                  have HE : Hid (sj ++ ⟨#[]⟩ ++ ⟨#[10]⟩ = toB (headL ++ writ (linesH 3 i (j + 1)))) := Lib.hid (next_3 i j sj lj HSJ.out HLJ.out HSUC.out HJI.out)
                  go_wp2
                  go_roundw
                  case rel => exact ⟨j + 1, by omega, by go_num, by rw [← HE.out], HGX⟩
                  case measure => simp [intOf]; omega
                · have eh2 : (how : Int) % 6 = 4 := HEH.out
                  have HE : Hid (sj ++ (⟨#[35]⟩ ++ lj) ++ ⟨#[10]⟩ = toB (headL ++ writ (linesH 4 i (j + 1)))) := Lib.hid (next_4 i j sj lj HSJ.out HLJ.out HSUC.out HJI.out)
                  go_wp2
                  go_roundw
                  case rel => exact ⟨j + 1, by omega, by go_num, by rw [← HE.out], HGX⟩
                  case measure => simp [intOf]; omega
                · have eh2 : (how : Int) % 6 = 5 := HEH.out
                  have HE : Hid (sj ++ lj ++ ⟨#[10]⟩ = toB (headL ++ writ (linesH 5 i (j + 1)))) := Lib.hid (next_5 i j sj lj HSJ.out HLJ.out HSUC.out HJI.out)
                  go_wp2
                  go_roundw
                  case rel => exact ⟨j + 1, by omega, by go_num, by rw [← HE.out], HGX⟩
                  case measure => simp [intOf]; omega
              · have e1 : ((j : Int) == (i : Int)) = false := by rw [beq_eq_false_iff_ne]; omega
                have HE : Hid (sj ++ lj ++ ⟨#[10]⟩ = toB (headL ++ writ (linesH h i (j + 1)))) := Lib.hid (next_any h i j sj lj HSJ.out HLJ.out hji)
                clear hji
                go_wp2
                go_roundw
                case rel => exact ⟨j + 1, by omega, by go_num, by rw [← HE.out], HGX⟩
                case measure => simp [intOf]; omega
        · rw [if_pos (by rfl)]
          refine op_slice_pin _ rfl pinX.enc.toArray (by rw [List.size_toArray, enc_len]) rfl ?_
          refine hK.out _ _ (World.grownBy.trans g1 (World.grownBy_alloc _ _ _)) (fun g2 => ?_)
          clear hK K
          try simp only [Act.put, List.getElem_toArray, List.getElem_cons_zero, List.getElem_cons_succ, List.setIfInBounds_toArray, List.set_cons_zero, List.set_cons_succ]
          obtain ⟨q8, hq8⟩ : ∃ q8, (V1 : World).heap.size = q8 := ⟨_, rfl⟩
          have b8_2 : (World.alloc V1 (.cells pinX.enc.toArray 35)).heap[q8]? = some (.cells pinX.enc.toArray 35 (0, 0)) := by rw [← hq8]; exact bk_alloc _ _
          rw [hq8]
          obtain ⟨V2, hV2⟩ : ∃ V2, World.alloc V1 (.cells pinX.enc.toArray 35) = V2 := ⟨_, rfl⟩
          have s2 : World.grownBy V1 V2 none := by rw [← hV2]; exact World.grownBy_alloc _ _ _
          rw [hV2] at g2 b8_2 ⊢
          clear hq8 hV2
          have b3_2 := bk_kept b3_1 s2
          refine wpAnyH_ready (rs := [4, 9]) (by kernel_rfl) (by simp) ?_
          refine AllReadyH.cons rfl (fun K hK => ?_) (AllReadyH.cons rfl (fun K hK => ?_) AllReadyH.nil)
          · rw [if_pos (by rfl)]
            have hcv : (convert 22 9 (.slice (some ⟨q3, 0, none⟩) 1 1)).run Tryz.prog V2 = .ok (.string ⟨#[c]⟩) V2 := run_convert_bytes_back (P := Tryz.prog) V2 22 9 5 ⟨q3, 0, none⟩ 1 [c] Tryz.underlying22 Tryz.underlying5 Tryz.underlying9 (fun t ht => by
              obtain rfl : t = 0 := by simpa using ht
              show World.cell? V2 ⟨q3, 0 + 0, none⟩ = _
              rw [cell_in b3_2]
              show some (Value.int .u8 (97 + (j : Int))) = some (.int .u8 (c.toNat : Int))
              rw [HCV.out])
            go_simp
            refine hK.out _ _ g2 (fun g3 => ?_)
            clear hK K hcv
            try simp only [Act.put, List.getElem_toArray, List.getElem_cons_zero, List.getElem_cons_succ, List.setIfInBounds_toArray, List.set_cons_zero, List.set_cons_succ]
            refine wpAnyH_take (i := 5) (v := .string (⟨#[112]⟩ ++ ⟨#[c]⟩)) rfl (by kernel_rfl) (by kernel_rfl) (by kernel_rfl) (fun _ _ _ h => h) (Or.inl ⟨by kernel_rfl, fun V' hV' => ?_⟩) g3 ?_
            · go_simp
            try simp only [Act.put, List.getElem_toArray, List.getElem_cons_zero, List.getElem_cons_succ, List.setIfInBounds_toArray, List.set_cons_zero, List.set_cons_succ]
            refine wpAnyH_take (i := 6) (v := .string (⟨#[112]⟩ ++ ⟨#[c]⟩ ++ ⟨#[32, 49, 46, 48, 46, 48, 32]⟩)) rfl (by kernel_rfl) (by kernel_rfl) (by kernel_rfl) (fun _ _ _ h => h) (Or.inl ⟨by kernel_rfl, fun V' hV' => ?_⟩) g3 ?_
            · go_simp
            try simp only [Act.put, List.getElem_toArray, List.getElem_cons_zero, List.getElem_cons_succ, List.setIfInBounds_toArray, List.set_cons_zero, List.set_cons_succ]
            refine wpAnyH_ready (rs := [9]) (by kernel_rfl) (by simp) ?_
            refine AllReadyH.cons rfl (fun K hK => ?_) AllReadyH.nil
            · rw [if_pos (by rfl)]
              have hpx := part_X b8_2
              have hax := all_X V2 (bk_size b8_2)
              go_simp
              refine (refLockText_any 1 1 (some ⟨q8, 0, none⟩) [pinX] V2 (Nat.zero_lt_of_lt (bk_size b8_2)) rfl (by omega) hpx hax).mono ?_
              rintro ee V4 ⟨rfl, s4⟩
              rw [HT0.out]
              dsimp only
              refine hK.out _ _ (World.grownBy.trans g3 s4) (fun g4 => ?_)
              clear hK K
              try simp only [Act.put, List.getElem_toArray, List.getElem_cons_zero, List.getElem_cons_succ, List.setIfInBounds_toArray, List.set_cons_zero, List.set_cons_succ]
              have b3_4 := bk_kept b3_2 s4
              have b8_4 := bk_kept b8_2 s4
              refine wpAnyH_take (i := 10) (v := .string zerosB) rfl (by kernel_rfl) (by kernel_rfl) (by kernel_rfl) (fun _ _ _ h => h) (Or.inl ⟨by kernel_rfl, fun V' hV' => ?_⟩) g4 ?_
              · have hts := HTS.out
                have htx := HTX.out
                go_simp
              try simp only [Act.put, List.getElem_toArray, List.getElem_cons_zero, List.getElem_cons_succ, List.setIfInBounds_toArray, List.set_cons_zero, List.set_cons_succ]
              refine wpAnyH_take (i := 11) (v := .string (⟨#[112]⟩ ++ ⟨#[c]⟩ ++ ⟨#[32, 49, 46, 48, 46, 48, 32]⟩ ++ zerosB)) rfl (by kernel_rfl) (by kernel_rfl) (by kernel_rfl) (fun _ _ _ h => h) (Or.inl ⟨by kernel_rfl, fun V' hV' => ?_⟩) g4 ?_
              · have hzb := HZB.out
                go_simp
              try simp only [Act.put, List.getElem_toArray, List.getElem_cons_zero, List.getElem_cons_succ, List.setIfInBounds_toArray, List.set_cons_zero, List.set_cons_succ]
              refine wpAnyH_ready (rs := [12]) (by kernel_rfl) (by simp) ?_
              refine AllReadyH.cons rfl (fun K hK => ?_) AllReadyH.nil
              rw [if_pos (by rfl)]
              go_simp
              refine hK.out _ _ g4 (fun gf => ?_)
              clear hK K
              try simp only [Act.put, List.getElem_toArray, List.getElem_cons_zero, List.getElem_cons_succ, List.setIfInBounds_toArray, List.set_cons_zero, List.set_cons_succ]
              refine wpAnyH_done (by kernel_rfl) ?_ _
              refine NoPanic.normal ?_
              have HGV := Lib.hid g4
              obtain ⟨wv, hwv⟩ : ∃ wv, V4 = wv := ⟨_, rfl⟩
              rw [hwv] at HGV ⊢
              clear hwv
              have HGX := Lib.hid (World.grownBy.trans HG.out HGV.out)
              rw [HLE.out]
              by_cases hji : j = i
              · have e1 : ((j : Int) == (i : Int)) = true := by rw [beq_iff_eq]; omega
                have HSUC : Hid (linesH h i (j + 1) = linesH h i j ++ badJ h i) := Lib.hid (by rw [linesH, if_pos hji])
                have HJI := Lib.hid hji
                clear hji
                rcases (by omega : h = 0 ∨ h = 1 ∨ h = 2 ∨ h = 3 ∨ h = 4 ∨ h = 5) with rfl | rfl | rfl | rfl | rfl | rfl
                · have eh2 : (how : Int) % 6 = 0 := HEH.out
                  have HE : Hid (sj ++ lj ++ ⟨#[10]⟩ ++ lj ++ ⟨#[10]⟩ = toB (headL ++ writ (linesH 0 i (j + 1)))) := Lib.hid (next_0 i j sj lj HSJ.out HLJ.out HSUC.out HJI.out)
                  go_wp2
                  go_roundw
                  case rel => exact ⟨j + 1, by omega, by go_num, by rw [← HE.out], HGX⟩
                  case measure => simp [intOf]; omega
                · have eh2 : (how : Int) % 6 = 1 := HEH.out
                  have HE : Hid (sj ++ lj.extract 0 72 ++ ⟨#[10]⟩ = toB (headL ++ writ (linesH 1 i (j + 1)))) := Lib.hid (next_1 i j sj lj HSJ.out HLJ.out HSUC.out HJI.out)
                  go_wp2
                  go_roundw
                  case rel => exact ⟨j + 1, by omega, by go_num, by rw [← HE.out], HGX⟩
                  case measure => simp [intOf]; omega
                · have eh2 : (how : Int) % 6 = 2 := HEH.out
                  have HE : Hid (sj ++ (lj ++ ⟨#[32]⟩) ++ ⟨#[10]⟩ = toB (headL ++ writ (linesH 2 i (j + 1)))) := Lib.hid (next_2 i j sj lj HSJ.out HLJ.out HSUC.out HJI.out)
                  go_wp2
                  go_roundw
                  case rel => exact ⟨j + 1, by omega, by go_num, by rw [← HE.out], HGX⟩
                  case measure => simp [intOf]; omega
                · have eh2 : (how : Int) % 6 = 3 := HEH.out
                  have HE : Hid (sj ++ ⟨#[]⟩ ++ ⟨#[10]⟩ = toB (headL ++ writ (linesH 3 i (j + 1)))) := Lib.hid (next_3 i j sj lj HSJ.out HLJ.out HSUC.out HJI.out)
                  go_wp2
                  go_roundw
                  case rel => exact ⟨j + 1, by omega, by go_num, by rw [← HE.out], HGX⟩
                  case measure => simp [intOf]; omega
                · have eh2 : (how : Int) % 6 = 4 := HEH.out
                  have HE : Hid (sj ++ (⟨#[35]⟩ ++ lj) ++ ⟨#[10]⟩ = toB (headL ++ writ (linesH 4 i (j + 1)))) := Lib.hid (next_4 i j sj lj HSJ.out HLJ.out HSUC.out HJI.out)
                  go_wp2
                  go_roundw
                  case rel => exact ⟨j + 1, by omega, by go_num, by rw [← HE.out], HGX⟩
                  case measure => simp [intOf]; omega
                · have eh2 : (how : Int) % 6 = 5 := HEH.out
                  have HE : Hid (sj ++ lj ++ ⟨#[10]⟩ = toB (headL ++ writ (linesH 5 i (j + 1)))) := Lib.hid (next_5 i j sj lj HSJ.out HLJ.out HSUC.out HJI.out)
                  go_wp2
                  go_roundw
                  case rel => exact ⟨j + 1, by omega, by go_num, by rw [← HE.out], HGX⟩
                  case measure => simp [intOf]; omega
              · have e1 : ((j : Int) == (i : Int)) = false := by rw [beq_eq_false_iff_ne]; omega
                have HE : Hid (sj ++ lj ++ ⟨#[10]⟩ = toB (headL ++ writ (linesH h i (j + 1)))) := Lib.hid (next_any h i j sj lj HSJ.out HLJ.out hji)
                clear hji
                go_wp2
                go_roundw
                case rel => exact ⟨j + 1, by omega, by go_num, by rw [← HE.out], HGX⟩
                case measure => simp [intOf]; omega
          · rw [if_pos (by rfl)]
            have hpx := part_X b8_2
            have hax := all_X V2 (bk_size b8_2)
            go_simp
            refine (refLockText_any 1 1 (some ⟨q8, 0, none⟩) [pinX] V2 (Nat.zero_lt_of_lt (bk_size b8_2)) rfl (by omega) hpx hax).mono ?_
            rintro ee V3 ⟨rfl, s3⟩
            rw [HT0.out]
            dsimp only
            refine hK.out _ _ (World.grownBy.trans g2 s3) (fun g3 => ?_)
            clear hK K
            try simp only [Act.put, List.getElem_toArray, List.getElem_cons_zero, List.getElem_cons_succ, List.setIfInBounds_toArray, List.set_cons_zero, List.set_cons_succ]
            have b3_3 := bk_kept b3_2 s3
            have b8_3 := bk_kept b8_2 s3
            refine wpAnyH_take (i := 10) (v := .string zerosB) rfl (by kernel_rfl) (by kernel_rfl) (by kernel_rfl) (fun _ _ _ h => h) (Or.inl ⟨by kernel_rfl, fun V' hV' => ?_⟩) g3 ?_
            · have hts := HTS.out
              have htx := HTX.out
              go_simp
            try simp only [Act.put, List.getElem_toArray, List.getElem_cons_zero, List.getElem_cons_succ, List.setIfInBounds_toArray, List.set_cons_zero, List.set_cons_succ]
            refine wpAnyH_ready (rs := [4]) (by kernel_rfl) (by simp) ?_
            refine AllReadyH.cons rfl (fun K hK => ?_) AllReadyH.nil
            · rw [if_pos (by rfl)]
              have hcv : (convert 22 9 (.slice (some ⟨q3, 0, none⟩) 1 1)).run Tryz.prog V3 = .ok (.string ⟨#[c]⟩) V3 := run_convert_bytes_back (P := Tryz.prog) V3 22 9 5 ⟨q3, 0, none⟩ 1 [c] Tryz.underlying22 Tryz.underlying5 Tryz.underlying9 (fun t ht => by
                obtain rfl : t = 0 := by simpa using ht
                show World.cell? V3 ⟨q3, 0 + 0, none⟩ = _
                rw [cell_in b3_3]
                show some (Value.int .u8 (97 + (j : Int))) = some (.int .u8 (c.toNat : Int))
                rw [HCV.out])
              go_simp
              refine hK.out _ _ g3 (fun g4 => ?_)
              clear hK K hcv
              try simp only [Act.put, List.getElem_toArray, List.getElem_cons_zero, List.getElem_cons_succ, List.setIfInBounds_toArray, List.set_cons_zero, List.set_cons_succ]
              refine wpAnyH_take (i := 5) (v := .string (⟨#[112]⟩ ++ ⟨#[c]⟩)) rfl (by kernel_rfl) (by kernel_rfl) (by kernel_rfl) (fun _ _ _ h => h) (Or.inl ⟨by kernel_rfl, fun V' hV' => ?_⟩) g4 ?_
              · go_simp
              try simp only [Act.put, List.getElem_toArray, List.getElem_cons_zero, List.getElem_cons_succ, List.setIfInBounds_toArray, List.set_cons_zero, List.set_cons_succ]
              refine wpAnyH_take (i := 6) (v := .string (⟨#[112]⟩ ++ ⟨#[c]⟩ ++ ⟨#[32, 49, 46, 48, 46, 48, 32]⟩)) rfl (by kernel_rfl) (by kernel_rfl) (by kernel_rfl) (fun _ _ _ h => h) (Or.inl ⟨by kernel_rfl, fun V' hV' => ?_⟩) g4 ?_
              · go_simp
              try simp only [Act.put, List.getElem_toArray, List.getElem_cons_zero, List.getElem_cons_succ, List.setIfInBounds_toArray, List.set_cons_zero, List.set_cons_succ]
              refine wpAnyH_take (i := 11) (v := .string (⟨#[112]⟩ ++ ⟨#[c]⟩ ++ ⟨#[32, 49, 46, 48, 46, 48, 32]⟩ ++ zerosB)) rfl (by kernel_rfl) (by kernel_rfl) (by kernel_rfl) (fun _ _ _ h => h) (Or.inl ⟨by kernel_rfl, fun V' hV' => ?_⟩) g4 ?_
              · have hzb := HZB.out
                go_simp
              try simp only [Act.put, List.getElem_toArray, List.getElem_cons_zero, List.getElem_cons_succ, List.setIfInBounds_toArray, List.set_cons_zero, List.set_cons_succ]
              refine wpAnyH_ready (rs := [12]) (by kernel_rfl) (by simp) ?_
              refine AllReadyH.cons rfl (fun K hK => ?_) AllReadyH.nil
              rw [if_pos (by rfl)]
              go_simp
              refine hK.out _ _ g4 (fun gf => ?_)
              clear hK K
              try simp only [Act.put, List.getElem_toArray, List.getElem_cons_zero, List.getElem_cons_succ, List.setIfInBounds_toArray, List.set_cons_zero, List.set_cons_succ]
              refine wpAnyH_done (by kernel_rfl) ?_ _
              refine NoPanic.normal ?_
              have HGV := Lib.hid g4
              obtain ⟨wv, hwv⟩ : ∃ wv, V3 = wv := ⟨_, rfl⟩
              rw [hwv] at HGV ⊢
              clear hwv
              have HGX := Lib.hid (World.grownBy.trans HG.out HGV.out)
              rw [HLE.out]
              by_cases hji : j = i
              · have e1 : ((j : Int) == (i : Int)) = true := by rw [beq_iff_eq]; omega
                have HSUC : Hid (linesH h i (j + 1) = linesH h i j ++ badJ h i) := Lib.hid (by rw [linesH, if_pos hji])
                have HJI := Lib.hid hji
                clear hji
                rcases (by omega : h = 0 ∨ h = 1 ∨ h = 2 ∨ h = 3 ∨ h = 4 ∨ h = 5) with rfl | rfl | rfl | rfl | rfl | rfl
                · have eh2 : (how : Int) % 6 = 0 := HEH.out
                  have HE : Hid (sj ++ lj ++ ⟨#[10]⟩ ++ lj ++ ⟨#[10]⟩ = toB (headL ++ writ (linesH 0 i (j + 1)))) := Lib.hid (next_0 i j sj lj HSJ.out HLJ.out HSUC.out HJI.out)
                  go_wp2
                  go_roundw
                  case rel => exact ⟨j + 1, by omega, by go_num, by rw [← HE.out], HGX⟩
                  case measure => simp [intOf]; omega
                · have eh2 : (how : Int) % 6 = 1 := HEH.out
                  have HE : Hid (sj ++ lj.extract 0 72 ++ ⟨#[10]⟩ = toB (headL ++ writ (linesH 1 i (j + 1)))) := Lib.hid (next_1 i j sj lj HSJ.out HLJ.out HSUC.out HJI.out)
                  go_wp2
                  go_roundw
                  case rel => exact ⟨j + 1, by omega, by go_num, by rw [← HE.out], HGX⟩
                  case measure => simp [intOf]; omega
                · have eh2 : (how : Int) % 6 = 2 := HEH.out
                  have HE : Hid (sj ++ (lj ++ ⟨#[32]⟩) ++ ⟨#[10]⟩ = toB (headL ++ writ (linesH 2 i (j + 1)))) := Lib.hid (next_2 i j sj lj HSJ.out HLJ.out HSUC.out HJI.out)
                  go_wp2
                  go_roundw
                  case rel => exact ⟨j + 1, by omega, by go_num, by rw [← HE.out], HGX⟩
                  case measure => simp [intOf]; omega
                · have eh2 : (how : Int) % 6 = 3 := HEH.out
                  have HE : Hid (sj ++ ⟨#[]⟩ ++ ⟨#[10]⟩ = toB (headL ++ writ (linesH 3 i (j + 1)))) := Lib.hid (next_3 i j sj lj HSJ.out HLJ.out HSUC.out HJI.out)
                  go_wp2
                  go_roundw
                  case rel => exact ⟨j + 1, by omega, by go_num, by rw [← HE.out], HGX⟩
                  case measure => simp [intOf]; omega
                · have eh2 : (how : Int) % 6 = 4 := HEH.out
                  have HE : Hid (sj ++ (⟨#[35]⟩ ++ lj) ++ ⟨#[10]⟩ = toB (headL ++ writ (linesH 4 i (j + 1)))) := Lib.hid (next_4 i j sj lj HSJ.out HLJ.out HSUC.out HJI.out)
                  go_wp2
                  go_roundw
                  case rel => exact ⟨j + 1, by omega, by go_num, by rw [← HE.out], HGX⟩
                  case measure => simp [intOf]; omega
                · have eh2 : (how : Int) % 6 = 5 := HEH.out
                  have HE : Hid (sj ++ lj ++ ⟨#[10]⟩ = toB (headL ++ writ (linesH 5 i (j + 1)))) := Lib.hid (next_5 i j sj lj HSJ.out HLJ.out HSUC.out HJI.out)
                  go_wp2
                  go_roundw
                  case rel => exact ⟨j + 1, by omega, by go_num, by rw [← HE.out], HGX⟩
                  case measure => simp [intOf]; omega
              · have e1 : ((j : Int) == (i : Int)) = false := by rw [beq_eq_false_iff_ne]; omega
                have HE : Hid (sj ++ lj ++ ⟨#[10]⟩ = toB (headL ++ writ (linesH h i (j + 1)))) := Lib.hid (next_any h i j sj lj HSJ.out HLJ.out hji)
                clear hji
                go_wp2
                go_roundw
                case rel => exact ⟨j + 1, by omega, by go_num, by rw [← HE.out], HGX⟩
                case measure => simp [intOf]; omega
      · rw [if_pos (by rfl)]
        refine op_slice_pin _ rfl pinX.enc.toArray (by rw [List.size_toArray, enc_len]) rfl ?_
        refine hK.out _ _ (World.grownBy.trans g0 (World.grownBy_alloc _ _ _)) (fun g1 => ?_)
        clear hK K
        try simp only [Act.put, List.getElem_toArray, List.getElem_cons_zero, List.getElem_cons_succ, List.setIfInBounds_toArray, List.set_cons_zero, List.set_cons_succ]
        obtain ⟨q8, hq8⟩ : ∃ q8, (V0 : World).heap.size = q8 := ⟨_, rfl⟩
        have b8_1 : (World.alloc V0 (.cells pinX.enc.toArray 35)).heap[q8]? = some (.cells pinX.enc.toArray 35 (0, 0)) := by rw [← hq8]; exact bk_alloc _ _
        rw [hq8]
        obtain ⟨V1, hV1⟩ : ∃ V1, World.alloc V0 (.cells pinX.enc.toArray 35) = V1 := ⟨_, rfl⟩
        have s1 : World.grownBy V0 V1 none := by rw [← hV1]; exact World.grownBy_alloc _ _ _
        rw [hV1] at g1 b8_1 ⊢
        clear hq8 hV1
        refine wpAnyH_ready (rs := [3, 9]) (by kernel_rfl) (by simp) ?_
        refine AllReadyH.cons rfl (fun K hK => ?_) (AllReadyH.cons rfl (fun K hK => ?_) AllReadyH.nil)
        · rw [if_pos (by rfl)]
          go_simp
          refine hK.out _ _ (World.grownBy.trans g1 (World.grownBy_alloc _ _ _)) (fun g2 => ?_)
          clear hK K
          try simp only [Act.put, List.getElem_toArray, List.getElem_cons_zero, List.getElem_cons_succ, List.setIfInBounds_toArray, List.set_cons_zero, List.set_cons_succ]
          obtain ⟨q3, hq3⟩ : ∃ q3, (V1 : World).heap.size = q3 := ⟨_, rfl⟩
          have b3_2 : (World.alloc V1 (.cells #[.int .u8 (97 + (j : Int))] 5)).heap[q3]? = some (.cells #[.int .u8 (97 + (j : Int))] 5 (0, 0)) := by rw [← hq3]; exact bk_alloc _ _
          rw [hq3]
          obtain ⟨V2, hV2⟩ : ∃ V2, World.alloc V1 (.cells #[.int .u8 (97 + (j : Int))] 5) = V2 := ⟨_, rfl⟩
          have s2 : World.grownBy V1 V2 none := by rw [← hV2]; exact World.grownBy_alloc _ _ _
          rw [hV2] at g2 b3_2 ⊢
          clear hq3 hV2
          have b8_2 := bk_kept b8_1 s2
          refine wpAnyH_ready (rs := [4, 9]) (by kernel_rfl) (by simp) ?_
          refine AllReadyH.cons rfl (fun K hK => ?_) (AllReadyH.cons rfl (fun K hK => ?_) AllReadyH.nil)
          · rw [if_pos (by rfl)]
            have hcv : (convert 22 9 (.slice (some ⟨q3, 0, none⟩) 1 1)).run Tryz.prog V2 = .ok (.string ⟨#[c]⟩) V2 := run_convert_bytes_back (P := Tryz.prog) V2 22 9 5 ⟨q3, 0, none⟩ 1 [c] Tryz.underlying22 Tryz.underlying5 Tryz.underlying9 (fun t ht => by
              obtain rfl : t = 0 := by simpa using ht
              show World.cell? V2 ⟨q3, 0 + 0, none⟩ = _
              rw [cell_in b3_2]
              show some (Value.int .u8 (97 + (j : Int))) = some (.int .u8 (c.toNat : Int))
              rw [HCV.out])
            go_simp
            refine hK.out _ _ g2 (fun g3 => ?_)
            clear hK K hcv
            try simp only [Act.put, List.getElem_toArray, List.getElem_cons_zero, List.getElem_cons_succ, List.setIfInBounds_toArray, List.set_cons_zero, List.set_cons_succ]
            refine wpAnyH_take (i := 5) (v := .string (⟨#[112]⟩ ++ ⟨#[c]⟩)) rfl (by kernel_rfl) (by kernel_rfl) (by kernel_rfl) (fun _ _ _ h => h) (Or.inl ⟨by kernel_rfl, fun V' hV' => ?_⟩) g3 ?_
            · go_simp
            try simp only [Act.put, List.getElem_toArray, List.getElem_cons_zero, List.getElem_cons_succ, List.setIfInBounds_toArray, List.set_cons_zero, List.set_cons_succ]
            refine wpAnyH_take (i := 6) (v := .string (⟨#[112]⟩ ++ ⟨#[c]⟩ ++ ⟨#[32, 49, 46, 48, 46, 48, 32]⟩)) rfl (by kernel_rfl) (by kernel_rfl) (by kernel_rfl) (fun _ _ _ h => h) (Or.inl ⟨by kernel_rfl, fun V' hV' => ?_⟩) g3 ?_
            · go_simp
            try simp only [Act.put, List.getElem_toArray, List.getElem_cons_zero, List.getElem_cons_succ, List.setIfInBounds_toArray, List.set_cons_zero, List.set_cons_succ]
            refine wpAnyH_ready (rs := [9]) (by kernel_rfl) (by simp) ?_
            refine AllReadyH.cons rfl (fun K hK => ?_) AllReadyH.nil
            · rw [if_pos (by rfl)]
              have hpx := part_X b8_2
              have hax := all_X V2 (bk_size b8_2)
              go_simp
              refine (refLockText_any 1 1 (some ⟨q8, 0, none⟩) [pinX] V2 (Nat.zero_lt_of_lt (bk_size b8_2)) rfl (by omega) hpx hax).mono ?_
              rintro ee V4 ⟨rfl, s4⟩
              rw [HT0.out]
              dsimp only
              refine hK.out _ _ (World.grownBy.trans g3 s4) (fun g4 => ?_)
              clear hK K
              try simp only [Act.put, List.getElem_toArray, List.getElem_cons_zero, List.getElem_cons_succ, List.setIfInBounds_toArray, List.set_cons_zero, List.set_cons_succ]
              have b8_4 := bk_kept b8_2 s4
              have b3_4 := bk_kept b3_2 s4
              refine wpAnyH_take (i := 10) (v := .string zerosB) rfl (by kernel_rfl) (by kernel_rfl) (by kernel_rfl) (fun _ _ _ h => h) (Or.inl ⟨by kernel_rfl, fun V' hV' => ?_⟩) g4 ?_
              · have hts := HTS.out
                have htx := HTX.out
                go_simp
              try simp only [Act.put, List.getElem_toArray, List.getElem_cons_zero, List.getElem_cons_succ, List.setIfInBounds_toArray, List.set_cons_zero, List.set_cons_succ]
              refine wpAnyH_take (i := 11) (v := .string (⟨#[112]⟩ ++ ⟨#[c]⟩ ++ ⟨#[32, 49, 46, 48, 46, 48, 32]⟩ ++ zerosB)) rfl (by kernel_rfl) (by kernel_rfl) (by kernel_rfl) (fun _ _ _ h => h) (Or.inl ⟨by kernel_rfl, fun V' hV' => ?_⟩) g4 ?_
              · have hzb := HZB.out
                go_simp
              try simp only [Act.put, List.getElem_toArray, List.getElem_cons_zero, List.getElem_cons_succ, List.setIfInBounds_toArray, List.set_cons_zero, List.set_cons_succ]
              refine wpAnyH_ready (rs := [12]) (by kernel_rfl) (by simp) ?_
              refine AllReadyH.cons rfl (fun K hK => ?_) AllReadyH.nil
              rw [if_pos (by rfl)]
              go_simp
              refine hK.out _ _ g4 (fun gf => ?_)
              clear hK K
              try simp only [Act.put, List.getElem_toArray, List.getElem_cons_zero, List.getElem_cons_succ, List.setIfInBounds_toArray, List.set_cons_zero, List.set_cons_succ]
              refine wpAnyH_done (by kernel_rfl) ?_ _
              refine NoPanic.normal ?_
              have HGV := Lib.hid g4
              obtain ⟨wv, hwv⟩ : ∃ wv, V4 = wv := ⟨_, rfl⟩
              rw [hwv] at HGV ⊢
              clear hwv
              have HGX := Lib.hid (World.grownBy.trans HG.out HGV.out)
              rw [HLE.out]
              by_cases hji : j = i
              · have e1 : ((j : Int) == (i : Int)) = true := by rw [beq_iff_eq]; omega
                have HSUC : Hid (linesH h i (j + 1) = linesH h i j ++ badJ h i) := Lib.hid (by rw [linesH, if_pos hji])
                have HJI := Lib.hid hji
                clear hji
                rcases (by omega : h = 0 ∨ h = 1 ∨ h = 2 ∨ h = 3 ∨ h = 4 ∨ h = 5) with rfl | rfl | rfl | rfl | rfl | rfl
                · have eh2 : (how : Int) % 6 = 0 := HEH.out
                  have HE : Hid (sj ++ lj ++ ⟨#[10]⟩ ++ lj ++ ⟨#[10]⟩ = toB (headL ++ writ (linesH 0 i (j + 1)))) := Lib.hid (next_0 i j sj lj HSJ.out HLJ.out HSUC.out HJI.out)
                  go_wp2
                  go_roundw
                  case rel => exact ⟨j + 1, by omega, by go_num, by rw [← HE.out], HGX⟩
                  case measure => simp [intOf]; omega
                · have eh2 : (how : Int) % 6 = 1 := HEH.out
                  have HE : Hid (sj ++ lj.extract 0 72 ++ ⟨#[10]⟩ = toB (headL ++ writ (linesH 1 i (j + 1)))) := Lib.hid (next_1 i j sj lj HSJ.out HLJ.out HSUC.out HJI.out)
                  go_wp2
                  go_roundw
                  case rel => exact ⟨j + 1, by omega, by go_num, by rw [← HE.out], HGX⟩
                  case measure => simp [intOf]; omega
                · have eh2 : (how : Int) % 6 = 2 := HEH.out
                  have HE : Hid (sj ++ (lj ++ ⟨#[32]⟩) ++ ⟨#[10]⟩ = toB (headL ++ writ (linesH 2 i (j + 1)))) := Lib.hid (next_2 i j sj lj HSJ.out HLJ.out HSUC.out HJI.out)
                  go_wp2
                  go_roundw
                  case rel => exact ⟨j + 1, by omega, by go_num, by rw [← HE.out], HGX⟩
                  case measure => simp [intOf]; omega
                · have eh2 : (how : Int) % 6 = 3 := HEH.out
                  have HE : Hid (sj ++ ⟨#[]⟩ ++ ⟨#[10]⟩ = toB (headL ++ writ (linesH 3 i (j + 1)))) := Lib.hid (next_3 i j sj lj HSJ.out HLJ.out HSUC.out HJI.out)
                  go_wp2
                  go_roundw
                  case rel => exact ⟨j + 1, by omega, by go_num, by rw [← HE.out], HGX⟩
                  case measure => simp [intOf]; omega
                · have eh2 : (how : Int) % 6 = 4 := HEH.out
                  have HE : Hid (sj ++ (⟨#[35]⟩ ++ lj) ++ ⟨#[10]⟩ = toB (headL ++ writ (linesH 4 i (j + 1)))) := Lib.hid (next_4 i j sj lj HSJ.out HLJ.out HSUC.out HJI.out)
                  go_wp2
                  go_roundw
                  case rel => exact ⟨j + 1, by omega, by go_num, by rw [← HE.out], HGX⟩
                  case measure => simp [intOf]; omega
                · have eh2 : (how : Int) % 6 = 5 := HEH.out
                  have HE : Hid (sj ++ lj ++ ⟨#[10]⟩ = toB (headL ++ writ (linesH 5 i (j + 1)))) := Lib.hid (next_5 i j sj lj HSJ.out HLJ.out HSUC.out HJI.out)
                  go_wp2
                  go_roundw
                  case rel => exact ⟨j + 1, by omega, by go_num, by rw [← HE.out], HGX⟩
                  case measure => simp [intOf]; omega
              · have e1 : ((j : Int) == (i : Int)) = false := by rw [beq_eq_false_iff_ne]; omega
                have HE : Hid (sj ++ lj ++ ⟨#[10]⟩ = toB (headL ++ writ (linesH h i (j + 1)))) := Lib.hid (next_any h i j sj lj HSJ.out HLJ.out hji)
                clear hji
                go_wp2
                go_roundw
                case rel => exact ⟨j + 1, by omega, by go_num, by rw [← HE.out], HGX⟩
                case measure => simp [intOf]; omega
          · rw [if_pos (by rfl)]
            have hpx := part_X b8_2
            have hax := all_X V2 (bk_size b8_2)
            go_simp
            refine (refLockText_any 1 1 (some ⟨q8, 0, none⟩) [pinX] V2 (Nat.zero_lt_of_lt (bk_size b8_2)) rfl (by omega) hpx hax).mono ?_
            rintro ee V3 ⟨rfl, s3⟩
            rw [HT0.out]
            dsimp only
            refine hK.out _ _ (World.grownBy.trans g2 s3) (fun g3 => ?_)
            clear hK K
            try simp only [Act.put, List.getElem_toArray, List.getElem_cons_zero, List.getElem_cons_succ, List.setIfInBounds_toArray, List.set_cons_zero, List.set_cons_succ]
            have b8_3 := bk_kept b8_2 s3
            have b3_3 := bk_kept b3_2 s3
            refine wpAnyH_take (i := 10) (v := .string zerosB) rfl (by kernel_rfl) (by kernel_rfl) (by kernel_rfl) (fun _ _ _ h => h) (Or.inl ⟨by kernel_rfl, fun V' hV' => ?_⟩) g3 ?_
            · have hts := HTS.out
              have htx := HTX.out
              go_simp
            try simp only [Act.put, List.getElem_toArray, List.getElem_cons_zero, List.getElem_cons_succ, List.setIfInBounds_toArray, List.set_cons_zero, List.set_cons_succ]
            refine wpAnyH_ready (rs := [4]) (by kernel_rfl) (by simp) ?_
            refine AllReadyH.cons rfl (fun K hK => ?_) AllReadyH.nil
            · rw [if_pos (by rfl)]
              have hcv : (convert 22 9 (.slice (some ⟨q3, 0, none⟩) 1 1)).run Tryz.prog V3 = .ok (.string ⟨#[c]⟩) V3 := run_convert_bytes_back (P := Tryz.prog) V3 22 9 5 ⟨q3, 0, none⟩ 1 [c] Tryz.underlying22 Tryz.underlying5 Tryz.underlying9 (fun t ht => by
                obtain rfl : t = 0 := by simpa using ht
                show World.cell? V3 ⟨q3, 0 + 0, none⟩ = _
                rw [cell_in b3_3]
                show some (Value.int .u8 (97 + (j : Int))) = some (.int .u8 (c.toNat : Int))
                rw [HCV.out])
              go_simp
              refine hK.out _ _ g3 (fun g4 => ?_)
              clear hK K hcv
              try simp only [Act.put, List.getElem_toArray, List.getElem_cons_zero, List.getElem_cons_succ, List.setIfInBounds_toArray, List.set_cons_zero, List.set_cons_succ]
              refine wpAnyH_take (i := 5) (v := .string (⟨#[112]⟩ ++ ⟨#[c]⟩)) rfl (by kernel_rfl) (by kernel_rfl) (by kernel_rfl) (fun _ _ _ h => h) (Or.inl ⟨by kernel_rfl, fun V' hV' => ?_⟩) g4 ?_
              · go_simp
              try simp only [Act.put, List.getElem_toArray, List.getElem_cons_zero, List.getElem_cons_succ, List.setIfInBounds_toArray, List.set_cons_zero, List.set_cons_succ]
              refine wpAnyH_take (i := 6) (v := .string (⟨#[112]⟩ ++ ⟨#[c]⟩ ++ ⟨#[32, 49, 46, 48, 46, 48, 32]⟩)) rfl (by kernel_rfl) (by kernel_rfl) (by kernel_rfl) (fun _ _ _ h => h) (Or.inl ⟨by kernel_rfl, fun V' hV' => ?_⟩) g4 ?_
              · go_simp
              try simp only [Act.put, List.getElem_toArray, List.getElem_cons_zero, List.getElem_cons_succ, List.setIfInBounds_toArray, List.set_cons_zero, List.set_cons_succ]
              refine wpAnyH_take (i := 11) (v := .string (⟨#[112]⟩ ++ ⟨#[c]⟩ ++ ⟨#[32, 49, 46, 48, 46, 48, 32]⟩ ++ zerosB)) rfl (by kernel_rfl) (by kernel_rfl) (by kernel_rfl) (fun _ _ _ h => h) (Or.inl ⟨by kernel_rfl, fun V' hV' => ?_⟩) g4 ?_
              · have hzb := HZB.out
                go_simp
              try simp only [Act.put, List.getElem_toArray, List.getElem_cons_zero, List.getElem_cons_succ, List.setIfInBounds_toArray, List.set_cons_zero, List.set_cons_succ]
              refine wpAnyH_ready (rs := [12]) (by kernel_rfl) (by simp) ?_
              refine AllReadyH.cons rfl (fun K hK => ?_) AllReadyH.nil
              rw [if_pos (by rfl)]
              go_simp
              refine hK.out _ _ g4 (fun gf => ?_)
              clear hK K
              try simp only [Act.put, List.getElem_toArray, List.getElem_cons_zero, List.getElem_cons_succ, List.setIfInBounds_toArray, List.set_cons_zero, List.set_cons_succ]
              refine wpAnyH_done (by kernel_rfl) ?_ _
              refine NoPanic.normal ?_
              have HGV := Lib.hid g4
              obtain ⟨wv, hwv⟩ : ∃ wv, V3 = wv := ⟨_, rfl⟩
              rw [hwv] at HGV ⊢
              clear hwv
              have HGX := Lib.hid (World.grownBy.trans HG.out HGV.out)
              rw [HLE.out]
              by_cases hji : j = i
              · have e1 : ((j : Int) == (i : Int)) = true := by rw [beq_iff_eq]; omega
                have HSUC : Hid (linesH h i (j + 1) = linesH h i j ++ badJ h i) := Lib.hid (by rw [linesH, if_pos hji])
                have HJI := Lib.hid hji
                clear hji
                rcases (by omega : h = 0 ∨ h = 1 ∨ h = 2 ∨ h = 3 ∨ h = 4 ∨ h = 5) with rfl | rfl | rfl | rfl | rfl | rfl
                · have eh2 : (how : Int) % 6 = 0 := HEH.out
                  have HE : Hid (sj ++ lj ++ ⟨#[10]⟩ ++ lj ++ ⟨#[10]⟩ = toB (headL ++ writ (linesH 0 i (j + 1)))) := Lib.hid (next_0 i j sj lj HSJ.out HLJ.out HSUC.out HJI.out)
                  go_wp2
                  go_roundw
                  case rel => exact ⟨j + 1, by omega, by go_num, by rw [← HE.out], HGX⟩
                  case measure => simp [intOf]; omega
                · have eh2 : (how : Int) % 6 = 1 := HEH.out
                  have HE : Hid (sj ++ lj.extract 0 72 ++ ⟨#[10]⟩ = toB (headL ++ writ (linesH 1 i (j + 1)))) := Lib.hid (next_1 i j sj lj HSJ.out HLJ.out HSUC.out HJI.out)
                  go_wp2
                  go_roundw
                  case rel => exact ⟨j + 1, by omega, by go_num, by rw [← HE.out], HGX⟩
                  case measure => simp [intOf]; omega
                · have eh2 : (how : Int) % 6 = 2 := HEH.out
                  have HE : Hid (sj ++ (lj ++ ⟨#[32]⟩) ++ ⟨#[10]⟩ = toB (headL ++ writ (linesH 2 i (j + 1)))) := Lib.hid (next_2 i j sj lj HSJ.out HLJ.out HSUC.out HJI.out)
                  go_wp2
                  go_roundw
                  case rel => exact ⟨j + 1, by omega, by go_num, by rw [← HE.out], HGX⟩
                  case measure => simp [intOf]; omega
                · have eh2 : (how : Int) % 6 = 3 := HEH.out
                  have HE : Hid (sj ++ ⟨#[]⟩ ++ ⟨#[10]⟩ = toB (headL ++ writ (linesH 3 i (j + 1)))) := Lib.hid (next_3 i j sj lj HSJ.out HLJ.out HSUC.out HJI.out)
                  go_wp2
                  go_roundw
                  case rel => exact ⟨j + 1, by omega, by go_num, by rw [← HE.out], HGX⟩
                  case measure => simp [intOf]; omega
                · have eh2 : (how : Int) % 6 = 4 := HEH.out
                  have HE : Hid (sj ++ (⟨#[35]⟩ ++ lj) ++ ⟨#[10]⟩ = toB (headL ++ writ (linesH 4 i (j + 1)))) := Lib.hid (next_4 i j sj lj HSJ.out HLJ.out HSUC.out HJI.out)
                  go_wp2
                  go_roundw
                  case rel => exact ⟨j + 1, by omega, by go_num, by rw [← HE.out], HGX⟩
                  case measure => simp [intOf]; omega
                · have eh2 : (how : Int) % 6 = 5 := HEH.out
                  have HE : Hid (sj ++ lj ++ ⟨#[10]⟩ = toB (headL ++ writ (linesH 5 i (j + 1)))) := Lib.hid (next_5 i j sj lj HSJ.out HLJ.out HSUC.out HJI.out)
                  go_wp2
                  go_roundw
                  case rel => exact ⟨j + 1, by omega, by go_num, by rw [← HE.out], HGX⟩
                  case measure => simp [intOf]; omega
              · have e1 : ((j : Int) == (i : Int)) = false := by rw [beq_eq_false_iff_ne]; omega
                have HE : Hid (sj ++ lj ++ ⟨#[10]⟩ = toB (headL ++ writ (linesH h i (j + 1)))) := Lib.hid (next_any h i j sj lj HSJ.out HLJ.out hji)
                clear hji
                go_wp2
                go_roundw
                case rel => exact ⟨j + 1, by omega, by go_num, by rw [← HE.out], HGX⟩
                case measure => simp [intOf]; omega
        · rw [if_pos (by rfl)]
          have hpx := part_X b8_1
          have hax := all_X V1 (bk_size b8_1)
          go_simp
          refine (refLockText_any 1 1 (some ⟨q8, 0, none⟩) [pinX] V1 (Nat.zero_lt_of_lt (bk_size b8_1)) rfl (by omega) hpx hax).mono ?_
          rintro ee V2 ⟨rfl, s2⟩
          rw [HT0.out]
          dsimp only
          refine hK.out _ _ (World.grownBy.trans g1 s2) (fun g2 => ?_)
          clear hK K
          try simp only [Act.put, List.getElem_toArray, List.getElem_cons_zero, List.getElem_cons_succ, List.setIfInBounds_toArray, List.set_cons_zero, List.set_cons_succ]
          have b8_2 := bk_kept b8_1 s2
          refine wpAnyH_take (i := 10) (v := .string zerosB) rfl (by kernel_rfl) (by kernel_rfl) (by kernel_rfl) (fun _ _ _ h => h) (Or.inl ⟨by kernel_rfl, fun V' hV' => ?_⟩) g2 ?_
          · have hts := HTS.out
            have htx := HTX.out
            go_simp
          try simp only [Act.put, List.getElem_toArray, List.getElem_cons_zero, List.getElem_cons_succ, List.setIfInBounds_toArray, List.set_cons_zero, List.set_cons_succ]
          refine wpAnyH_ready (rs := [3]) (by kernel_rfl) (by simp) ?_
          refine AllReadyH.cons rfl (fun K hK => ?_) AllReadyH.nil
          · rw [if_pos (by rfl)]
            go_simp
            refine hK.out _ _ (World.grownBy.trans g2 (World.grownBy_alloc _ _ _)) (fun g3 => ?_)
            clear hK K
            try simp only [Act.put, List.getElem_toArray, List.getElem_cons_zero, List.getElem_cons_succ, List.setIfInBounds_toArray, List.set_cons_zero, List.set_cons_succ]
            obtain ⟨q3, hq3⟩ : ∃ q3, (V2 : World).heap.size = q3 := ⟨_, rfl⟩
            have b3_3 : (World.alloc V2 (.cells #[.int .u8 (97 + (j : Int))] 5)).heap[q3]? = some (.cells #[.int .u8 (97 + (j : Int))] 5 (0, 0)) := by rw [← hq3]; exact bk_alloc _ _
            rw [hq3]
            obtain ⟨V3, hV3⟩ : ∃ V3, World.alloc V2 (.cells #[.int .u8 (97 + (j : Int))] 5) = V3 := ⟨_, rfl⟩
            have s3 : World.grownBy V2 V3 none := by rw [← hV3]; exact World.grownBy_alloc _ _ _
            rw [hV3] at g3 b3_3 ⊢
            clear hq3 hV3
            have b8_3 := bk_kept b8_2 s3
            refine wpAnyH_ready (rs := [4]) (by kernel_rfl) (by simp) ?_
            refine AllReadyH.cons rfl (fun K hK => ?_) AllReadyH.nil
            · rw [if_pos (by rfl)]
              have hcv : (convert 22 9 (.slice (some ⟨q3, 0, none⟩) 1 1)).run Tryz.prog V3 = .ok (.string ⟨#[c]⟩) V3 := run_convert_bytes_back (P := Tryz.prog) V3 22 9 5 ⟨q3, 0, none⟩ 1 [c] Tryz.underlying22 Tryz.underlying5 Tryz.underlying9 (fun t ht => by
                obtain rfl : t = 0 := by simpa using ht
                show World.cell? V3 ⟨q3, 0 + 0, none⟩ = _
                rw [cell_in b3_3]
                show some (Value.int .u8 (97 + (j : Int))) = some (.int .u8 (c.toNat : Int))
                rw [HCV.out])
              go_simp
              refine hK.out _ _ g3 (fun g4 => ?_)
              clear hK K hcv
              try simp only [Act.put, List.getElem_toArray, List.getElem_cons_zero, List.getElem_cons_succ, List.setIfInBounds_toArray, List.set_cons_zero, List.set_cons_succ]
              refine wpAnyH_take (i := 5) (v := .string (⟨#[112]⟩ ++ ⟨#[c]⟩)) rfl (by kernel_rfl) (by kernel_rfl) (by kernel_rfl) (fun _ _ _ h => h) (Or.inl ⟨by kernel_rfl, fun V' hV' => ?_⟩) g4 ?_
              · go_simp
              try simp only [Act.put, List.getElem_toArray, List.getElem_cons_zero, List.getElem_cons_succ, List.setIfInBounds_toArray, List.set_cons_zero, List.set_cons_succ]
              refine wpAnyH_take (i := 6) (v := .string (⟨#[112]⟩ ++ ⟨#[c]⟩ ++ ⟨#[32, 49, 46, 48, 46, 48, 32]⟩)) rfl (by kernel_rfl) (by kernel_rfl) (by kernel_rfl) (fun _ _ _ h => h) (Or.inl ⟨by kernel_rfl, fun V' hV' => ?_⟩) g4 ?_
              · go_simp
              try simp only [Act.put, List.getElem_toArray, List.getElem_cons_zero, List.getElem_cons_succ, List.setIfInBounds_toArray, List.set_cons_zero, List.set_cons_succ]
              refine wpAnyH_take (i := 11) (v := .string (⟨#[112]⟩ ++ ⟨#[c]⟩ ++ ⟨#[32, 49, 46, 48, 46, 48, 32]⟩ ++ zerosB)) rfl (by kernel_rfl) (by kernel_rfl) (by kernel_rfl) (fun _ _ _ h => h) (Or.inl ⟨by kernel_rfl, fun V' hV' => ?_⟩) g4 ?_
              · have hzb := HZB.out
                go_simp
              try simp only [Act.put, List.getElem_toArray, List.getElem_cons_zero, List.getElem_cons_succ, List.setIfInBounds_toArray, List.set_cons_zero, List.set_cons_succ]
              refine wpAnyH_ready (rs := [12]) (by kernel_rfl) (by simp) ?_
              refine AllReadyH.cons rfl (fun K hK => ?_) AllReadyH.nil
              rw [if_pos (by rfl)]
              go_simp
              refine hK.out _ _ g4 (fun gf => ?_)
              clear hK K
              try simp only [Act.put, List.getElem_toArray, List.getElem_cons_zero, List.getElem_cons_succ, List.setIfInBounds_toArray, List.set_cons_zero, List.set_cons_succ]
              refine wpAnyH_done (by kernel_rfl) ?_ _
              refine NoPanic.normal ?_
              have HGV := Lib.hid g4
              obtain ⟨wv, hwv⟩ : ∃ wv, V3 = wv := ⟨_, rfl⟩
              rw [hwv] at HGV ⊢
              clear hwv
              have HGX := Lib.hid (World.grownBy.trans HG.out HGV.out)
              rw [HLE.out]
              by_cases hji : j = i
              · have e1 : ((j : Int) == (i : Int)) = true := by rw [beq_iff_eq]; omega
                have HSUC : Hid (linesH h i (j + 1) = linesH h i j ++ badJ h i) := Lib.hid (by rw [linesH, if_pos hji])
                have HJI := Lib.hid hji
                clear hji
                rcases (by omega : h = 0 ∨ h = 1 ∨ h = 2 ∨ h = 3 ∨ h = 4 ∨ h = 5) with rfl | rfl | rfl | rfl | rfl | rfl
                · have eh2 : (how : Int) % 6 = 0 := HEH.out
                  have HE : Hid (sj ++ lj ++ ⟨#[10]⟩ ++ lj ++ ⟨#[10]⟩ = toB (headL ++ writ (linesH 0 i (j + 1)))) := Lib.hid (next_0 i j sj lj HSJ.out HLJ.out HSUC.out HJI.out)
                  go_wp2
                  go_roundw
                  case rel => exact ⟨j + 1, by omega, by go_num, by rw [← HE.out], HGX⟩
                  case measure => simp [intOf]; omega
                · have eh2 : (how : Int) % 6 = 1 := HEH.out
                  have HE : Hid (sj ++ lj.extract 0 72 ++ ⟨#[10]⟩ = toB (headL ++ writ (linesH 1 i (j + 1)))) := Lib.hid (next_1 i j sj lj HSJ.out HLJ.out HSUC.out HJI.out)
                  go_wp2
                  go_roundw
                  case rel => exact ⟨j + 1, by omega, by go_num, by rw [← HE.out], HGX⟩
                  case measure => simp [intOf]; omega
                · have eh2 : (how : Int) % 6 = 2 := HEH.out
                  have HE : Hid (sj ++ (lj ++ ⟨#[32]⟩) ++ ⟨#[10]⟩ = toB (headL ++ writ (linesH 2 i (j + 1)))) := Lib.hid (next_2 i j sj lj HSJ.out HLJ.out HSUC.out HJI.out)
                  go_wp2
                  go_roundw
                  case rel => exact ⟨j + 1, by omega, by go_num, by rw [← HE.out], HGX⟩
                  case measure => simp [intOf]; omega
                · have eh2 : (how : Int) % 6 = 3 := HEH.out
                  have HE : Hid (sj ++ ⟨#[]⟩ ++ ⟨#[10]⟩ = toB (headL ++ writ (linesH 3 i (j + 1)))) := Lib.hid (next_3 i j sj lj HSJ.out HLJ.out HSUC.out HJI.out)
                  go_wp2
                  go_roundw
                  case rel => exact ⟨j + 1, by omega, by go_num, by rw [← HE.out], HGX⟩
                  case measure => simp [intOf]; omega
                · have eh2 : (how : Int) % 6 = 4 := HEH.out
                  have HE : Hid (sj ++ (⟨#[35]⟩ ++ lj) ++ ⟨#[10]⟩ = toB (headL ++ writ (linesH 4 i (j + 1)))) := Lib.hid (next_4 i j sj lj HSJ.out HLJ.out HSUC.out HJI.out)
                  go_wp2
                  go_roundw
                  case rel => exact ⟨j + 1, by omega, by go_num, by rw [← HE.out], HGX⟩
                  case measure => simp [intOf]; omega
                · have eh2 : (how : Int) % 6 = 5 := HEH.out
                  have HE : Hid (sj ++ lj ++ ⟨#[10]⟩ = toB (headL ++ writ (linesH 5 i (j + 1)))) := Lib.hid (next_5 i j sj lj HSJ.out HLJ.out HSUC.out HJI.out)
                  go_wp2
                  go_roundw
                  case rel => exact ⟨j + 1, by omega, by go_num, by rw [← HE.out], HGX⟩
                  case measure => simp [intOf]; omega
              · have e1 : ((j : Int) == (i : Int)) = false := by rw [beq_eq_false_iff_ne]; omega
                have HE : Hid (sj ++ lj ++ ⟨#[10]⟩ = toB (headL ++ writ (linesH h i (j + 1)))) := Lib.hid (next_any h i j sj lj HSJ.out HLJ.out hji)
                clear hji
                go_wp2
                go_roundw
                case rel => exact ⟨j + 1, by omega, by go_num, by rw [← HE.out], HGX⟩
                case measure => simp [intOf]; omega
    · obtain rfl : j = k := by omega
      have hss : (toB (headL ++ writ (linesH h i j))).size ≤ 2000 := by
        have := linesH_len h i j
        rw [size_toB, List.length_append]
        show 7 + _ ≤ _
        omega
      have hlk := lock_spoilt h i j h6 hik k8
      obtain ⟨sj, hsj⟩ : ∃ sj, toB (headL ++ writ (linesH h i j)) = sj := ⟨_, rfl⟩
      rw [hsj] at hss hlk ⊢
      have HLK := Lib.hid hlk
      have HGX := Lib.hid (World.grownBy.trans G0.out HG.out)
      have HEH := Lib.hid eh
      clear hsj hlk HG
      go_wp2_with fail
      (with_reducible refine (lParse_any m sj wr (by omega) (HW.out.stays HGX.out).max).mono ?_)
      rintro ee w1 ⟨hg, hr⟩
      have HG1 := Lib.hid (World.grownBy.trans HGX.out hg)
      clear hg
      by_cases h5 : h = 5
      · have HL5 : Hid (lockS sj = .inr ((pinsJ j).map mp)) := Lib.hid (by rw [HLK.out, if_pos h5])
        have eh2 : (how : Int) % 6 = 5 := by rw [HEH.out, h5]; rfl
        clear eh
        rcases hr with ⟨k2, h1, _⟩ | ⟨v, L, h1, rfl, hO, hA⟩
        · rw [HL5.out] at h1; cases h1
        have hmp : (pinsJ j).map mp = L.map mp := by rw [HL5.out] at h1; exact Sum.inr.inj h1
        have hl : L.length = j := by
          have := congrArg List.length hmp
          rw [List.length_map, List.length_map, pinsJ_len] at this
          exact this.symm
        obtain ⟨a1, c1, e1, _, _⟩ := hO.form
        rw [hl] at e1
        subst e1
        have HLL := Lib.hid hl
        have HMP := Lib.hid hmp
        have HPL := Lib.hid (hO.part (HW.out.stays HG1.out).pos)
        have HAL := Lib.hid hA
        clear h1 hmp hl hO hA h5
        dsimp only
        go_wp2_with fail
        (with_reducible refine (lockOf_any m sj w1 (by omega) (HW.out.stays HG1.out).max).mono ?_)
        rintro ee w2 ⟨hg, ⟨k2, h1, _⟩ | ⟨v2, M, h1, rfl, hO2, hA2⟩⟩
        · rw [HL5.out] at h1; cases h1
        have hmp2 : (pinsJ j).map mp = M.map mp := by rw [HL5.out] at h1; exact Sum.inr.inj h1
        have hl2 : M.length = j := by
          have := congrArg List.length hmp2
          rw [List.length_map, List.length_map, pinsJ_len] at this
          exact this.symm
        obtain ⟨a2, c2, e2, _, _⟩ := hO2.form
        rw [hl2] at e2
        subst e2
        have HL2 := Lib.hid hl2
        have HEQ := Lib.hid (pins_same L M (HMP.out.symm.trans hmp2))
        have HG2 := Lib.hid (World.grownBy.trans HG1.out hg)
        have HPM := Lib.hid (hO2.part (HW.out.stays HG2.out).pos)
        have HAM := Lib.hid hA2
        have HPL2 := Lib.hid ((HPL.out.stays hg).mono hg.size)
        have HAL2 : Hid (AllAt w2 w2.heap.size L) := Lib.hid (fun p hp => ((HAL.out p hp).stays hg).mono hg.size)
        clear h1 hmp2 hl2 hO2 hA2 hg
        dsimp only
        go_wp2_with fail
        (with_reducible refine (helpPins_at w2.heap.size j j c1 c2 a1 a2 L M w2 (Nat.le_refl _) HLL.out HL2.out (by omega) (by omega) HPL2.out HPM.out HAL2.out HAM.out true HEQ.out).mono ?_)
        rintro ee w3 ⟨rfl, hg⟩
        dsimp only
        go_wp2
        go_ret
        exact ⟨rfl, World.grownBy.trans HG2.out hg⟩
      · obtain ⟨z, hz⟩ : ∃ z, (i + 2 + if h = 0 then 1 else 0) = z := ⟨_, rfl⟩
        have HL5 : Hid (lockS sj = .inl z) := Lib.hid (by rw [HLK.out, if_neg h5, hz])
        have f5 : ((h : Int) == 5) = false := by rw [beq_eq_false_iff_ne]; omega
        rcases hr with ⟨k2, h1, rfl⟩ | ⟨v, L, h1, _, _, _⟩
        case inr => rw [HL5.out] at h1; cases h1
        obtain rfl : k2 = z := by rw [HL5.out] at h1; exact (Sum.inl.inj h1).symm
        clear h1
        dsimp only
        go_wp2_with fail
        (with_reducible refine (lockOf_any m sj w1 (by omega) (HW.out.stays HG1.out).max).mono ?_)
        rintro ee w2 ⟨hg, ⟨k3, h1, rfl⟩ | ⟨v2, M, h1, _, _, _⟩⟩
        case inr => rw [HL5.out] at h1; cases h1
        obtain rfl : k3 = k2 := by rw [HL5.out] at h1; exact (Sum.inl.inj h1).symm
        have HG2 := Lib.hid (World.grownBy.trans HG1.out hg)
        clear h1 hg
        dsimp only
        go_wp2_with fail
        (with_reducible refine (helpPins_at w2.heap.size 0 0 0 0 none none [] [] w2 (Nat.le_refl _) rfl rfl (by omega) (by omega) (PartP.empty (HW.out.stays HG2.out).pos) (PartP.empty (HW.out.stays HG2.out).pos) (AllAt.empty _ _) (AllAt.empty _ _) true rfl).mono ?_)
        rintro ee w3 ⟨rfl, hg⟩
        have HG3 := Lib.hid (World.grownBy.trans HG2.out hg)
        clear hg
        dsimp only
        by_cases h0 : h = 0
        · rw [if_pos h0] at hz
          have f0 : ((h : Int) == 0) = true := by rw [beq_iff_eq]; omega
          have fz : ((k3 : Int) == (i : Int) + 2 + 1) = true := by rw [beq_iff_eq]; omega
          clear h0 hz
          go_wp2
          go_ret
          exact ⟨rfl, HG3.out⟩
        · rw [if_neg h0] at hz
          have f0 : ((h : Int) == 0) = false := by rw [beq_eq_false_iff_ne]; omega
          have fz : ((k3 : Int) == (i : Int) + 2) = true := by rw [beq_iff_eq]; omega
          clear h0 hz
          go_wp2
          go_ret
          exact ⟨rfl, HG3.out⟩
end Go.Proofs.YthdopcdllggdaaaGreatDoor
