/- The law ShaTexts returns true. -/
import Derived.Test.YtpiikgobdhgldaaDoorS
import Derived.BigRegion
import Derived.IntWalk
import Derived.Lib.ConvBytes
import Derived.Outline
namespace Go.Proofs.YtpiikgobdhgldaaDoor
open Go.RowKit Go.Sort

theorem neq_key (K : Array UInt8) (hK : K.size = 32) (W : World) : (binOp .neq 26 (.agg (K.map encB)) (.agg (K.map encB))).run Tryd.prog W = .ok (.bool false) W := by
  have h := run_equalIn_bytes (P := Tryd.prog) W 9998 26 5 32 Tryd.underlying26 Tryd.underlying5 (fun w => by kernel_rfl) K.toList K.toList (by simpa using hK) (by simpa using hK)
  have e : (K.toList.map Extern.Stop.cell).toArray = K.map encB := by
    apply Array.ext'
    simp [encB, Extern.Stop.cell]
  rw [e] at h
  rw [run_neq_struct, h]
  simp [Result.andThen]
theorem pk_size (s : ByteArray) : (pk s).size = 32 := by
  unfold pk
  split
  · exact keyP_size _ _
  · simp

theorem xor8 (a b : UInt8) : bits .xor .u8 (a.toNat : Int) (b.toNat : Int) = ((a ^^^ b).toNat : Int) := by
  rw [u8_xor_nat _ _ a.toNat_lt b.toNat_lt, UInt8.toNat_xor]
theorem byte_int' (v : Int) (h0 : 0 ≤ v) (h1 : v < 256) : v = ((UInt8.ofNat v.toNat).toNat : Int) := by
  simp; omega
theorem hex_any' (K : Array UInt8) (w : World) (hK : K.size = 32) : Calls Tryd.prog 9 #[.agg (K.map encB)] w fun e w' => e = .returned (.string ⟨(hexL K.toList).toArray⟩) ∧ w.grownBy w' none := hex_any K w hK
theorem refhex_any' (K : Array UInt8) (w : World) (hK : K.size = 32) : Calls Tryd.prog 10 #[.agg (K.map encB)] w fun e w' => e = .returned (.string ⟨(hexL K.toList).toArray⟩) ∧ w.grownBy w' none := refhex_any K w hK
theorem index_cases (a : Int) : ∃ j : Nat, j < 64 ∧ ((0 ≤ a ∧ a % 64 = (j : Int)) ∨ (a < 0 ∧ j = 0 ∧ a.tmod 64 = 0) ∨ (a < 0 ∧ 0 < j ∧ a.tmod 64 = -(j : Int))) := by
  by_cases h : 0 ≤ a
  · exact ⟨(a % 64).toNat, by omega, .inl ⟨h, by omega⟩⟩
  · have e : a.tmod 64 = -((-a) % 64) := by
      rw [← Int.tmod_eq_emod_of_nonneg (a := -a) (by omega), Int.neg_tmod, Int.neg_neg]
    by_cases h2 : (-a) % 64 = 0
    · exact ⟨0, by omega, .inr (.inl ⟨by omega, rfl, by rw [e, h2]; rfl⟩)⟩
    · exact ⟨((-a) % 64).toNat, by omega, .inr (.inr ⟨by omega, by omega, by rw [e]; omega⟩)⟩
/-- A text's bytes, in a block of their own. -/
theorem bytes_world (w : World) (s : ByteArray) : w.grownBy (Lib.bytesWorld w 5 s) none ∧ (∀ j, j < s.size → (Lib.bytesWorld w 5 s).cell? ⟨w.heap.size, j, none⟩ = some (.int .u8 ((s.data.toList.getD j 0).toNat : Int))) ∧
    (∀ j, j < s.size → (Lib.bytesWorld w 5 s).frozen? ⟨w.heap.size, j, none⟩ = false) := by
  refine ⟨⟨rfl, rfl, rfl, by rw [Lib.bytesWorld_size]; omega, fun k hk _ => Lib.bytesWorld_at_old w 5 s k hk⟩, fun j hj => Lib.bytesWorld_cell w 5 s j hj, fun j hj => ?_⟩
  have h := Lib.bytesWorld_at_new w 5 s
  have hl : s.size ≤ (Lib.bytesCells w 5 s).size := by simp [Lib.bytesCells]
  unfold World.frozen?
  simp [h]
  omega

/-- A whole row is read where a guard lets it be read. -/
theorem load_row_wanted {P : Program} {ops : Array Oper} {rest : List Oper} {o : Oper} {a : Act} {w : World} {Q : Exit → Act → World → Prop} (ty : TypeId) (x : Operand) (ho : o.op = .load ty x) (hw : Region.wanted o (yielded ops a.tmps) = true)
    (g : Nat) (hx : a.eval x = .pointer (some ⟨g, 0, none⟩)) (t : TypeId) (cs : Array Value) (fr : Nat × Nat) (d : TypeDesc) (hg : w.heap[g]? = some (.cells cs t fr))
    (hu : P.underlying ty = some d) (hd : (match d with | .struct _ | .array _ _ => true | _ => false) = true) (hi : (P.info? ty).map (·.size) = some cs.size)
    (h : wpList P ops Q rest (a.put o.dst (.agg cs)) w) : wpList P ops Q (o :: rest) a w :=
  wpList_step fun K hK => by
    rw [if_pos hw]
    exact wp_load_row ty x ho g hx t cs fr d hg hu hd hi (hK _ _ h)

set_option maxRecDepth 1000000
set_option maxHeartbeats 1000000 in
theorem texts_law (K : Array UInt8) (hK : K.size = 32) (s : ByteArray) (at_ x : Int) (hs : s.size ≤ 9223372036854775807) (ha0 : -9223372036854775808 ≤ at_) (ha1 : at_ ≤ 9223372036854775807) (hx0 : 0 ≤ x) (hx1 : x ≤ 255) (w : World) (h0 : 0 < w.heap.size) (hT : ∀ j, j < 64 → w.cell? ⟨0, j, none⟩ = some (encW table[j]!)) :
    Calls Tryd.prog 5 #[.agg (K.map encB), .string s, .int .i64 at_, .int .u8 x] w fun e w' => e = .returned (.bool true) ∧ w.grownBy w' none := by
  obtain ⟨xb, rfl⟩ : ∃ xb : UInt8, x = (xb.toNat : Int) := ⟨_, byte_int' x hx0 (by omega)⟩
  clear hx0 hx1
  obtain ⟨C, hC⟩ : ∃ C, K.map encB = C := ⟨_, rfl⟩
  have hCs : C.size = 32 := by rw [← hC, Array.size_map, hK]
  have HC := Lib.hid hC
  have HCS := Lib.hid hCs
  have HT := Lib.hid hT
  have HK := Lib.hid hK
  rw [hC]
  have hga : w.grownBy (w.alloc (.cells C 25)) none := World.grownBy_alloc _ _ _
  have hnew : Hid ((w.alloc (.cells C 25)).heap[w.heap.size]? = some (.cells C 25 (0, 0))) := by show _ = _; rw [heap_alloc_new]
  have hsz : Hid ((w.alloc (.cells C 25)).heap.size = w.heap.size + 1) := by show _ = _; rw [alloc_size]
  have info25 : (Tryd.prog.info? 25).map (·.size) = some 32 := by kernel_rfl
  have INF := Lib.hid info25
  obtain ⟨W0, hW0⟩ : ∃ W0, w.alloc (.cells C 25) = W0 := ⟨_, rfl⟩
  rw [hW0] at hga hnew hsz
  have HW0 := Lib.hid hW0
  clear hC hCs hT hK info25 hW0
  by_cases hlong : 200 < s.size
  · go_enter Tryd.func5, Tryd.ntmps5
    go_wp2_with fail
    rw [HW0.out]
    (with_reducible refine (known_any W0 (by rw [hsz.out]; omega) (fun j hj => hga.cell (HT.out j hj) (by simp))).mono ?_)
    rintro ee w1 ⟨rfl, g1⟩
    dsimp only
    go_wp2
    go_ret
    exact ⟨rfl, World.grownBy.trans hga g1⟩
  · go_enter Tryd.func5, Tryd.ntmps5
    go_wp2_with fail
    rw [HW0.out]
    (with_reducible refine (known_any W0 (by rw [hsz.out]; omega) (fun j hj => hga.cell (HT.out j hj) (by simp))).mono ?_)
    rintro ee w1 ⟨rfl, g1⟩
    dsimp only
    have gw1 := World.grownBy.trans hga g1
    have hb1 : Hid (w1.heap[w.heap.size]? = some (.cells C 25 (0, 0))) := by show _ = _; rw [g1.block _ (by rw [hsz.out]; omega) (by simp)]; exact hnew.out
    go_wp2_with ((with_reducible refine wpList_load_row (o := ⟨some 23, _, _, _, _, _⟩) rfl 25 _ rfl w.heap.size ?_ 25 C (0, 0) (.array 32 5) hb1.out Tryd.underlying25 rfl ?_ ?_); (exact rfl); (rw [INF.out, HCS.out]))
    obtain ⟨S, hS⟩ : ∃ S : ByteArray, (⟨(hexL K.toList).toArray⟩ : ByteArray) = S := ⟨_, rfl⟩
    have hSL : S.data.toList = hexL K.toList := by rw [← hS]
    have hS64 : S.size = 64 := by
      have h1 : S.size = S.data.toList.length := by simp
      rw [h1, hSL, hexL_len, Array.length_toList, HK.out]
    (with_reducible refine (show Calls Tryd.prog 9 #[.agg C] w1 fun e w' => e = .returned (.string S) ∧ w1.grownBy w' none from by rw [← HC.out]; exact (hex_any' K w1 HK.out).mono fun e w' h => ⟨by rw [h.1, hS], h.2⟩).mono ?_)
    rintro ee w2 ⟨rfl, g2⟩
    dsimp only
    have hb2 : Hid (w2.heap[w.heap.size]? = some (.cells C 25 (0, 0))) := by show _ = _; rw [g2.block _ (by have h1 := (Array.getElem?_eq_some_iff.1 hb1.out).1; exact h1) (by simp)]; exact hb1.out
    have HSE := Lib.hid hS
    have HSL := Lib.hid hSL
    clear hS hSL
    go_wp2_with ((with_reducible refine wpList_load_row (o := ⟨some 26, _, _, _, _, _⟩) rfl 25 _ rfl w.heap.size ?_ 25 C (0, 0) (.array 32 5) hb2.out Tryd.underlying25 rfl ?_ ?_); (exact rfl); (rw [INF.out, HCS.out]))
    (with_reducible refine (show Calls Tryd.prog 10 #[.agg C] w2 fun e w' => e = .returned (.string S) ∧ w2.grownBy w' none from by rw [← HC.out]; exact (refhex_any' K w2 HK.out).mono fun e w' h => ⟨by rw [h.1, HSE.out], h.2⟩).mono ?_)
    rintro ee w3 ⟨rfl, g3⟩
    dsimp only
    have gw3 := World.grownBy.trans gw1 (World.grownBy.trans g2 g3)
    obtain ⟨gb, hbc, hbf⟩ := bytes_world w3 S
    have hcv : (convert 9 24 (.string S)).run Tryd.prog w3 = .ok (.slice (some ⟨w3.heap.size, 0, none⟩) S.size (grownCap w3 S.size 0 5)) (Lib.bytesWorld w3 5 S) := Lib.run_convert_string_bytes w3 9 24 5 S Tryd.underlying9 Tryd.underlying24 Tryd.underlying5
    obtain ⟨W4, hW4⟩ : ∃ W4, Lib.bytesWorld w3 5 S = W4 := ⟨_, rfl⟩
    rw [hW4] at gb hbc hbf hcv
    obtain ⟨cp, hcp⟩ : ∃ cp, grownCap w3 S.size 0 5 = cp := ⟨_, rfl⟩
    rw [hcp, hS64] at hcv
    rw [hS64] at hbc hbf
    have HBC := Lib.hid hbc
    have HBF := Lib.hid hbf
    have hcp64 : 64 ≤ cp := by rw [← hcp, ← hS64]; exact grownCap_ge _ _ _ _
    clear hbc hbf hW4 hcp
    obtain ⟨j, hj, hidx⟩ := index_cases at_
    obtain ⟨c, hc⟩ : ∃ c, S.data.toList.getD j 0 = c := ⟨_, rfl⟩
    have hcell : W4.cell? ⟨w3.heap.size, j, none⟩ = some (.int .u8 (c.toNat : Int)) := by rw [HBC.out j hj, hc]
    have hfr : W4.frozen? ⟨w3.heap.size, j, none⟩ = false := HBF.out j hj
    have hx8 := Lib.hid (xor8 c xb)
    obtain ⟨W5, hW5⟩ : ∃ W5, W4.setCell ⟨w3.heap.size, j, none⟩ (.int .u8 (bits .xor .u8 (c.toNat : Int) (xb.toNat : Int))) = W5 := ⟨_, rfl⟩
    have gw4 := World.grownBy.trans gw3 gb
    have gw5 : w.grownBy W5 none := by rw [← hW5]; exact grown_new gw4 (grown_set W4 w3.heap.size j _) gw3.size
    obtain ⟨BL, hBL⟩ : ∃ BL, S.data.toList.set j (c ^^^ xb) = BL := ⟨_, rfl⟩
    have hBLn : BL.length = 64 := by rw [← hBL, List.length_set]; rw [← hS64]; simp
    have hlt4 : w3.heap.size < W4.heap.size := World.block_lt_of_cell? _ _ hcell
    have hpt : Part W5.drew W5.drew.heap.size (.slice (some ⟨w3.heap.size, 0, none⟩) 64 cp) BL := by
      refine ⟨_, cp, w3.heap.size, 0, by rw [hBLn], by rw [hBLn]; exact hcp64, fun h => by simp at h, ?_, fun _ => rfl, fun i hi => ?_⟩
      · show w3.heap.size < W5.heap.size
        rw [← hW5]; simpa [World.setCell] using hlt4
      · show W5.cell? _ = _
        have hi64 : i < 64 := by omega
        rw [← hW5, Nat.zero_add]
        by_cases hij : i = j
        · subst hij
          rw [World.cell?_setCell_same _ _ _ hcell, hx8.out, ← hBL, List.getD_eq_getElem?_getD, List.getElem?_set_self (by rw [← hBLn, ← hBL, List.length_set] at hi64; exact hi64)]; rfl
        · rw [World.cell?_setCell_other _ _ _ _ (by intro e; injection e with _ e2; exact hij e2.symm), HBC.out i hi64, ← hBL, List.getD_eq_getElem?_getD, List.getD_eq_getElem?_getD, List.getElem?_set_ne (by omega)]
    have hcv2 := conv_part hpt (by rw [hBLn]; omega)
    obtain ⟨S2, hS2⟩ : ∃ S2 : ByteArray, (⟨BL.toArray⟩ : ByteArray) = S2 := ⟨_, rfl⟩
    rw [hS2] at hcv2
    have HW5 := Lib.hid hW5
    have hsl : 63 ≤ S.size := by omega
    clear hW5 hpt hBL hBLn hS2 hlt4 hc
    rcases hidx with ⟨i1, i2⟩ | ⟨i1, rfl, i2⟩ | ⟨i1, i3, i2⟩
    · go_wp2
      rw [HW5.out]
      clear i1 i2 hcv hcell hfr
      go_region
      have hal : W5.grownBy ((W5.alloc (.cells #[.string S, .string s, .string S2, .string (S ++ ⟨#[48]⟩), .string (S.extract 0 63)] 9)).drew) none := by
        have h := World.grownBy_alloc W5 (.cells #[.string S, .string s, .string S2, .string (S ++ ⟨#[48]⟩), .string (S.extract 0 63)] 9) none
        exact ⟨h.os, h.tape, h.output, h.size, h.block⟩
      have hys : Hid (∀ k, k < 5 → ∃ y : ByteArray, ((W5.alloc (.cells #[.string S, .string s, .string S2, .string (S ++ ⟨#[48]⟩), .string (S.extract 0 63)] 9)).drew).cell? ⟨W5.heap.size, k, none⟩ = some (.string y)) := by
        intro k hk
        show ∃ y : ByteArray, (W5.alloc _).cell? _ = _
        rw [alloc_cell]
        match k, hk with
        | 0, _ => exact ⟨_, rfl⟩
        | 1, _ => exact ⟨_, rfl⟩
        | 2, _ => exact ⟨_, rfl⟩
        | 3, _ => exact ⟨_, rfl⟩
        | 4, _ => exact ⟨_, rfl⟩
      obtain ⟨Wx, hWx⟩ : ∃ Wx, (W5.alloc (.cells #[.string S, .string s, .string S2, .string (S ++ ⟨#[48]⟩), .string (S.extract 0 63)] 9)).drew = Wx := ⟨_, rfl⟩
      rw [hWx] at hal hys
      have gwx := World.grownBy.trans gw5 hal
      rw [hWx]
      clear hWx hal
      go_wp2
      go_loopw [59] (fun i wr => ∃ k : Nat, k ≤ 5 ∧ i = .int .i64 k ∧ Wx.grownBy wr none) (fun i _ => 5 - (intOf i).toNat)
      case atStart => exact ⟨0, by omega, rfl, World.grownBy.refl _ _⟩
      case round =>
        obtain ⟨k, hk, rfl, hgr⟩ := hrel
        by_cases hlt : k < 5
        · obtain ⟨y, hy⟩ := hys.out k hlt
          have hyc := hgr.cell hy (by simp)
          obtain ⟨A, hA⟩ : ∃ A, (pk y).map encB = A := ⟨_, rfl⟩
          obtain ⟨bq, hbq⟩ : ∃ bq, pb y = bq := ⟨_, rfl⟩
          have hp : Hid (∀ W, Calls Tryd.prog 11 #[.string y] W fun e w' => e = .returned (.tuple #[.agg A, .bool bq]) ∧ W.grownBy w' none) := fun W =>
            (parse_any y W).mono fun e w' h => by obtain ⟨h1, h2⟩ := h; exact ⟨by rw [h1, hA, hbq], h2⟩
          have hq : Hid (∀ W, Calls Tryd.prog 12 #[.string y] W fun e w' => e = .returned (.tuple #[.agg A, .bool bq]) ∧ W.grownBy w' none) := fun W =>
            (refparse_any y W).mono fun e w' h => by obtain ⟨h1, h2⟩ := h; exact ⟨by rw [h1, hA, hbq], h2⟩
          have hA32 : A.size = 32 := by rw [← hA, Array.size_map, pk_size]
          have hA1 : Hid (A.all (·.oneCell') = true) := by
            show _ = _
            rw [← hA, Array.all_map]
            exact Array.all_eq_true.2 fun i hi => rfl
          have hne : ∀ W : World, (binOp .neq 26 (.agg A) (.agg A)).run Tryd.prog W = .ok (.bool false) W := fun W => by rw [← hA]; exact neq_key _ (pk_size _) W
          have hz : ∀ W : World, (zeroValue 26).run Tryd.prog W = .ok (.agg zero32A) W := by intro W; kernel_rfl
          have hst := fun W => store_new W A hA32 hA1.out
          have hzs := zero32A_size
          clear hy hA hbq
          go_wp2_with fail
          (with_reducible refine (hp.out wr).mono ?_)
          rintro ee v1 ⟨rfl, q1⟩
          dsimp only
          go_wp2_with fail
          (with_reducible refine (hq.out _).mono ?_)
          rintro ee v2 ⟨rfl, q2⟩
          dsimp only
          have q1a := World.grownBy.trans q1 (World.grownBy_alloc v1 (.cells A 26) none)
          have q2a := World.grownBy.trans q2 (World.grownBy_alloc v2 (.cells A 26) none)
          have hm1 : Hid ((v2.alloc (.cells A 26)).heap[v1.heap.size]? = some (.cells A 26 (0, 0))) := by
            show _ = _
            rw [q2a.block _ (by rw [alloc_size]; omega) (by simp), heap_alloc_new]
          have hm2 : Hid ((v2.alloc (.cells A 26)).heap[v2.heap.size]? = some (.cells A 26 (0, 0))) := by
            show _ = _
            rw [heap_alloc_new]
          go_wp2_with (first
            | ((with_reducible refine load_row_wanted (o := ⟨some 77, _, _, _, _, _⟩) 26 _ rfl ?_ v1.heap.size ?_ 26 A (0, 0) (.array 32 5) hm1.out Tryd.underlying26 rfl ?_ ?_); (rfl); (exact rfl); (rw [info26, hA32]))
            | ((with_reducible refine load_row_wanted (o := ⟨some 78, _, _, _, _, _⟩) 26 _ rfl ?_ v2.heap.size ?_ 26 A (0, 0) (.array 32 5) hm2.out Tryd.underlying26 rfl ?_ ?_); (rfl); (exact rfl); (rw [info26, hA32])))
          go_roundw
          case rel => exact ⟨k + 1, by omega, by go_num, World.grownBy.trans hgr (World.grownBy.trans q1a q2a)⟩
          case measure => simp [intOf]; omega
        · have hk5 : k = 5 := by omega
          subst hk5
          go_wp2
          go_ret
          exact ⟨rfl, World.grownBy.trans gwx hgr⟩
    · have hnn : ¬ 0 ≤ at_ := by omega
      go_wp2
      rw [HW5.out]
      clear hnn i1 i2 hcv hcell hfr
      go_region
      have hal : W5.grownBy ((W5.alloc (.cells #[.string S, .string s, .string S2, .string (S ++ ⟨#[48]⟩), .string (S.extract 0 63)] 9)).drew) none := by
        have h := World.grownBy_alloc W5 (.cells #[.string S, .string s, .string S2, .string (S ++ ⟨#[48]⟩), .string (S.extract 0 63)] 9) none
        exact ⟨h.os, h.tape, h.output, h.size, h.block⟩
      have hys : Hid (∀ k, k < 5 → ∃ y : ByteArray, ((W5.alloc (.cells #[.string S, .string s, .string S2, .string (S ++ ⟨#[48]⟩), .string (S.extract 0 63)] 9)).drew).cell? ⟨W5.heap.size, k, none⟩ = some (.string y)) := by
        intro k hk
        show ∃ y : ByteArray, (W5.alloc _).cell? _ = _
        rw [alloc_cell]
        match k, hk with
        | 0, _ => exact ⟨_, rfl⟩
        | 1, _ => exact ⟨_, rfl⟩
        | 2, _ => exact ⟨_, rfl⟩
        | 3, _ => exact ⟨_, rfl⟩
        | 4, _ => exact ⟨_, rfl⟩
      obtain ⟨Wx, hWx⟩ : ∃ Wx, (W5.alloc (.cells #[.string S, .string s, .string S2, .string (S ++ ⟨#[48]⟩), .string (S.extract 0 63)] 9)).drew = Wx := ⟨_, rfl⟩
      rw [hWx] at hal hys
      have gwx := World.grownBy.trans gw5 hal
      rw [hWx]
      clear hWx hal
      go_wp2
      go_loopw [59] (fun i wr => ∃ k : Nat, k ≤ 5 ∧ i = .int .i64 k ∧ Wx.grownBy wr none) (fun i _ => 5 - (intOf i).toNat)
      case atStart => exact ⟨0, by omega, rfl, World.grownBy.refl _ _⟩
      case round =>
        obtain ⟨k, hk, rfl, hgr⟩ := hrel
        by_cases hlt : k < 5
        · obtain ⟨y, hy⟩ := hys.out k hlt
          have hyc := hgr.cell hy (by simp)
          obtain ⟨A, hA⟩ : ∃ A, (pk y).map encB = A := ⟨_, rfl⟩
          obtain ⟨bq, hbq⟩ : ∃ bq, pb y = bq := ⟨_, rfl⟩
          have hp : Hid (∀ W, Calls Tryd.prog 11 #[.string y] W fun e w' => e = .returned (.tuple #[.agg A, .bool bq]) ∧ W.grownBy w' none) := fun W =>
            (parse_any y W).mono fun e w' h => by obtain ⟨h1, h2⟩ := h; exact ⟨by rw [h1, hA, hbq], h2⟩
          have hq : Hid (∀ W, Calls Tryd.prog 12 #[.string y] W fun e w' => e = .returned (.tuple #[.agg A, .bool bq]) ∧ W.grownBy w' none) := fun W =>
            (refparse_any y W).mono fun e w' h => by obtain ⟨h1, h2⟩ := h; exact ⟨by rw [h1, hA, hbq], h2⟩
          have hA32 : A.size = 32 := by rw [← hA, Array.size_map, pk_size]
          have hA1 : Hid (A.all (·.oneCell') = true) := by
            show _ = _
            rw [← hA, Array.all_map]
            exact Array.all_eq_true.2 fun i hi => rfl
          have hne : ∀ W : World, (binOp .neq 26 (.agg A) (.agg A)).run Tryd.prog W = .ok (.bool false) W := fun W => by rw [← hA]; exact neq_key _ (pk_size _) W
          have hz : ∀ W : World, (zeroValue 26).run Tryd.prog W = .ok (.agg zero32A) W := by intro W; kernel_rfl
          have hst := fun W => store_new W A hA32 hA1.out
          have hzs := zero32A_size
          clear hy hA hbq
          go_wp2_with fail
          (with_reducible refine (hp.out wr).mono ?_)
          rintro ee v1 ⟨rfl, q1⟩
          dsimp only
          go_wp2_with fail
          (with_reducible refine (hq.out _).mono ?_)
          rintro ee v2 ⟨rfl, q2⟩
          dsimp only
          have q1a := World.grownBy.trans q1 (World.grownBy_alloc v1 (.cells A 26) none)
          have q2a := World.grownBy.trans q2 (World.grownBy_alloc v2 (.cells A 26) none)
          have hm1 : Hid ((v2.alloc (.cells A 26)).heap[v1.heap.size]? = some (.cells A 26 (0, 0))) := by
            show _ = _
            rw [q2a.block _ (by rw [alloc_size]; omega) (by simp), heap_alloc_new]
          have hm2 : Hid ((v2.alloc (.cells A 26)).heap[v2.heap.size]? = some (.cells A 26 (0, 0))) := by
            show _ = _
            rw [heap_alloc_new]
          go_wp2_with (first
            | ((with_reducible refine load_row_wanted (o := ⟨some 77, _, _, _, _, _⟩) 26 _ rfl ?_ v1.heap.size ?_ 26 A (0, 0) (.array 32 5) hm1.out Tryd.underlying26 rfl ?_ ?_); (rfl); (exact rfl); (rw [info26, hA32]))
            | ((with_reducible refine load_row_wanted (o := ⟨some 78, _, _, _, _, _⟩) 26 _ rfl ?_ v2.heap.size ?_ 26 A (0, 0) (.array 32 5) hm2.out Tryd.underlying26 rfl ?_ ?_); (rfl); (exact rfl); (rw [info26, hA32])))
          go_roundw
          case rel => exact ⟨k + 1, by omega, by go_num, World.grownBy.trans hgr (World.grownBy.trans q1a q2a)⟩
          case measure => simp [intOf]; omega
        · have hk5 : k = 5 := by omega
          subst hk5
          go_wp2
          go_ret
          exact ⟨rfl, World.grownBy.trans gwx hgr⟩
    · have hnn : ¬ 0 ≤ at_ := by omega
      go_wp2
      rw [HW5.out]
      clear hnn i1 i2 i3 hcv hcell hfr
      go_region
      have hal : W5.grownBy ((W5.alloc (.cells #[.string S, .string s, .string S2, .string (S ++ ⟨#[48]⟩), .string (S.extract 0 63)] 9)).drew) none := by
        have h := World.grownBy_alloc W5 (.cells #[.string S, .string s, .string S2, .string (S ++ ⟨#[48]⟩), .string (S.extract 0 63)] 9) none
        exact ⟨h.os, h.tape, h.output, h.size, h.block⟩
      have hys : Hid (∀ k, k < 5 → ∃ y : ByteArray, ((W5.alloc (.cells #[.string S, .string s, .string S2, .string (S ++ ⟨#[48]⟩), .string (S.extract 0 63)] 9)).drew).cell? ⟨W5.heap.size, k, none⟩ = some (.string y)) := by
        intro k hk
        show ∃ y : ByteArray, (W5.alloc _).cell? _ = _
        rw [alloc_cell]
        match k, hk with
        | 0, _ => exact ⟨_, rfl⟩
        | 1, _ => exact ⟨_, rfl⟩
        | 2, _ => exact ⟨_, rfl⟩
        | 3, _ => exact ⟨_, rfl⟩
        | 4, _ => exact ⟨_, rfl⟩
      obtain ⟨Wx, hWx⟩ : ∃ Wx, (W5.alloc (.cells #[.string S, .string s, .string S2, .string (S ++ ⟨#[48]⟩), .string (S.extract 0 63)] 9)).drew = Wx := ⟨_, rfl⟩
      rw [hWx] at hal hys
      have gwx := World.grownBy.trans gw5 hal
      rw [hWx]
      clear hWx hal
      go_wp2
      go_loopw [59] (fun i wr => ∃ k : Nat, k ≤ 5 ∧ i = .int .i64 k ∧ Wx.grownBy wr none) (fun i _ => 5 - (intOf i).toNat)
      case atStart => exact ⟨0, by omega, rfl, World.grownBy.refl _ _⟩
      case round =>
        obtain ⟨k, hk, rfl, hgr⟩ := hrel
        by_cases hlt : k < 5
        · obtain ⟨y, hy⟩ := hys.out k hlt
          have hyc := hgr.cell hy (by simp)
          obtain ⟨A, hA⟩ : ∃ A, (pk y).map encB = A := ⟨_, rfl⟩
          obtain ⟨bq, hbq⟩ : ∃ bq, pb y = bq := ⟨_, rfl⟩
          have hp : Hid (∀ W, Calls Tryd.prog 11 #[.string y] W fun e w' => e = .returned (.tuple #[.agg A, .bool bq]) ∧ W.grownBy w' none) := fun W =>
            (parse_any y W).mono fun e w' h => by obtain ⟨h1, h2⟩ := h; exact ⟨by rw [h1, hA, hbq], h2⟩
          have hq : Hid (∀ W, Calls Tryd.prog 12 #[.string y] W fun e w' => e = .returned (.tuple #[.agg A, .bool bq]) ∧ W.grownBy w' none) := fun W =>
            (refparse_any y W).mono fun e w' h => by obtain ⟨h1, h2⟩ := h; exact ⟨by rw [h1, hA, hbq], h2⟩
          have hA32 : A.size = 32 := by rw [← hA, Array.size_map, pk_size]
          have hA1 : Hid (A.all (·.oneCell') = true) := by
            show _ = _
            rw [← hA, Array.all_map]
            exact Array.all_eq_true.2 fun i hi => rfl
          have hne : ∀ W : World, (binOp .neq 26 (.agg A) (.agg A)).run Tryd.prog W = .ok (.bool false) W := fun W => by rw [← hA]; exact neq_key _ (pk_size _) W
          have hz : ∀ W : World, (zeroValue 26).run Tryd.prog W = .ok (.agg zero32A) W := by intro W; kernel_rfl
          have hst := fun W => store_new W A hA32 hA1.out
          have hzs := zero32A_size
          clear hy hA hbq
          go_wp2_with fail
          (with_reducible refine (hp.out wr).mono ?_)
          rintro ee v1 ⟨rfl, q1⟩
          dsimp only
          go_wp2_with fail
          (with_reducible refine (hq.out _).mono ?_)
          rintro ee v2 ⟨rfl, q2⟩
          dsimp only
          have q1a := World.grownBy.trans q1 (World.grownBy_alloc v1 (.cells A 26) none)
          have q2a := World.grownBy.trans q2 (World.grownBy_alloc v2 (.cells A 26) none)
          have hm1 : Hid ((v2.alloc (.cells A 26)).heap[v1.heap.size]? = some (.cells A 26 (0, 0))) := by
            show _ = _
            rw [q2a.block _ (by rw [alloc_size]; omega) (by simp), heap_alloc_new]
          have hm2 : Hid ((v2.alloc (.cells A 26)).heap[v2.heap.size]? = some (.cells A 26 (0, 0))) := by
            show _ = _
            rw [heap_alloc_new]
          go_wp2_with (first
            | ((with_reducible refine load_row_wanted (o := ⟨some 77, _, _, _, _, _⟩) 26 _ rfl ?_ v1.heap.size ?_ 26 A (0, 0) (.array 32 5) hm1.out Tryd.underlying26 rfl ?_ ?_); (rfl); (exact rfl); (rw [info26, hA32]))
            | ((with_reducible refine load_row_wanted (o := ⟨some 78, _, _, _, _, _⟩) 26 _ rfl ?_ v2.heap.size ?_ 26 A (0, 0) (.array 32 5) hm2.out Tryd.underlying26 rfl ?_ ?_); (rfl); (exact rfl); (rw [info26, hA32])))
          go_roundw
          case rel => exact ⟨k + 1, by omega, by go_num, World.grownBy.trans hgr (World.grownBy.trans q1a q2a)⟩
          case measure => simp [intOf]; omega
        · have hk5 : k = 5 := by omega
          subst hk5
          go_wp2
          go_ret
          exact ⟨rfl, World.grownBy.trans gwx hgr⟩
end Go.Proofs.YtpiikgobdhgldaaDoor
