/- The law LockOrder returns true. -/
import Derived.Test.YthdopcdllggdaaaDoorKmM
import Derived.Test.YthdopcdllggdaaaDoorKfM
namespace Go.Proofs.YthdopcdllggdaaaDoor
open Go.RowKit
attribute [local irreducible] wpQuiet

/-- Where an argument's bytes lie. -/
def BytesAt (W : World) (a : Option Addr) (l : List Nat) : Prop := ∀ (j x : Nat), l[j]? = some x → ∃ b o, a = some ⟨b, o, none⟩ ∧ W.cell? ⟨b, o + j, none⟩ = some (.int .u8 (x : Int))
theorem BytesAt.stays {w w' : World} {a : Option Addr} {l : List Nat} (h : BytesAt w a l) (hg : w.grownBy w' none) : BytesAt w' a l := fun j x hj => by
  obtain ⟨b, o, e, h1⟩ := h j x hj
  exact ⟨b, o, e, hg.cell h1 (by simp)⟩
theorem built_ver (x : Int) : Tryd.prog.built 35 [(0, .int .i64 x)] = some #[.int .i64 x, .int .i64 0, .int .i64 0, .slice none 0 0] := by kernel_rfl
theorem keyN_cells (x : Nat) (hx : x ≤ 255) : (keyN x).map Sha.encB = (Array.replicate 32 (Value.int .u8 0)).setIfInBounds 0 (.int .u8 (x : Int)) := by
  unfold keyN
  rw [Array.map_setIfInBounds, Array.map_replicate]
  have e : Sha.encB (UInt8.ofNat x) = .int .u8 (x : Int) := by
    unfold Sha.encB
    rw [UInt8.toNat_ofNat', Nat.mod_eq_of_lt (by omega)]
  rw [e]
  rfl
theorem built_key (x : Nat) (hx : x ≤ 255) : Tryd.prog.built 37 [(0, .int .u8 (x : Int))] = some ((keyN x).map Sha.encB) := by
  rw [keyN_cells x hx]
  kernel_rfl
theorem pinN_cells (x : Nat) : pinA (⟨#[110]⟩ ++ decS (x : Int)) ⟨(x : Int), 0, 0, []⟩ (.slice none 0 0) ((keyN x).map Sha.encB) = (pinN x).enc.toArray := by
  rw [pinA_cells]
  have e : (⟨#[110]⟩ : ByteArray) ++ decS (x : Int) = nameN 110 x := by
    unfold nameN
    refine bytes_ext ?_
    rw [data_toB, ByteArray.data_append, Array.toList_append]
    rfl
  rw [e]
  rfl
theorem pins_inj (N : List Nat) (h : ∀ x ∈ N, x ≤ 255) : ∀ x ∈ N.map pinN, ∀ y ∈ N.map pinN, x.name = y.name → x = y := by
  intro x hx y hy e
  obtain ⟨a, ha, rfl⟩ := List.mem_map.1 hx
  obtain ⟨b, hb, rfl⟩ := List.mem_map.1 hy
  rw [nameN_inj 110 a b (h a ha) (h b hb) e]
theorem all_pinN {L : List Pc} (h : ∀ p ∈ L, ∃ x, x ≤ 255 ∧ p = pinN x) {W : World} (h0 : 0 < W.heap.size) : AllAt W W.heap.size L := fun p hp => by
  obtain ⟨x, hx, rfl⟩ := h p hp
  refine ⟨(parse_read _ _ (good_pinN x hx).ver).at (PartS.nil h0), ?_⟩
  have hs : (nameN 110 x).size = (decS (x : Int)).size + 1 := by unfold nameN; rw [size_toB, List.length_cons, data_len]
  have h3 := dec_short x hx
  show (nameN 110 x).size ≤ _
  omega
theorem size_nums (N : List Nat) (h : ∀ n ∈ N, n ≤ 255) (hl : N.length ≤ 10) : (⟨(lockT (N.map pinN)).toArray⟩ : ByteArray).size ≤ 65536 := by
  have := row_len (sortP (N.map pinN)) (fun p hp => by
    obtain ⟨n, hn, rfl⟩ := List.mem_map.1 ((sortP_mem _ p).1 hp)
    refine line_len _ ?_ (text_short n (h n hn))
    have hs : (nameN 110 n).size = (decS (n : Int)).size + 1 := by unfold nameN; rw [size_toB, List.length_cons, data_len]
    have h3 := dec_short n (h n hn)
    show (nameN 110 n).size ≤ 32
    omega)
  rw [sortP_len, List.length_map] at this
  have e := size_toB (lockT (N.map pinN))
  unfold toB at e
  rw [e]
  unfold lockT
  omega
set_option maxRecDepth 1000000
set_option maxHeartbeats 16000000 in
theorem order_law (m : Int) (n cap t : Nat) (a : Option Addr) (l : List Nat) (w : World) (hw : Wok m w) (hn : l.length = n) (hl : ∀ x ∈ l, x ≤ 255) (ht : t ≤ 255) (hb : BytesAt w a l) :
    Calls Tryd.prog 5 #[.slice a n cap, .int .u8 t] w fun e w' => e = .returned (.bool true) ∧ w.grownBy w' none := by
  have HW := Lib.hid hw
  have HN := Lib.hid hn
  have HL := Lib.hid hl
  have HB := Lib.hid hb
  clear hw hn hl hb
  by_cases h10 : n ≤ 10
  · have d1 : decide (10 < (n : Int)) = false := by simp; omega
    have d2 : ¬ 10 < n := by omega
    have hz := zeroPin
    have hzs := zeroP_size
    obtain ⟨Z, hZ⟩ : ∃ Z, zeroP = Z := ⟨_, rfl⟩
    rw [hZ] at hz hzs
    have HZS := Lib.hid hzs
    clear hZ hzs
    go_enter Tryd.func5, Tryd.ntmps5
    go_wp2_with fail
    (with_reducible refine (known_any m w HW.out).mono ?_)
    rintro ee w0 ⟨rfl, g0⟩
    have G0 := Lib.hid g0
    clear g0
    dsimp only
    go_wp2_with fail
    go_loopw [5, 7] (fun v i wr => ∃ (k m2 cp2 : Nat) (ad2 : Option Addr) (N : List Nat), k ≤ n ∧ i = .int .i64 k ∧ v = .slice ad2 m2 cp2 ∧ m2 ≤ k ∧ m2 ≤ cp2 ∧ cp2 ≤ 9223372036854775807 ∧ Hid (N = (l.take k).foldl addN [] ∧ N.length = m2 ∧ OwnsP wr w0.heap.size (.slice ad2 m2 cp2) (N.map pinN) ∧ w0.grownBy wr none)) (fun _ i _ => n - (intOf i).toNat)
    case atStart => exact ⟨0, 0, 0, none, [], Nat.zero_le _, rfl, rfl, by omega, Nat.le_refl _, by omega, Lib.hid ⟨rfl, rfl, OwnsP.nil _ _, World.grownBy.refl _ _⟩⟩
    case round =>
      obtain ⟨k, m2, cp2, ad2, N, hk, rfl, rfl, hm2, hmc, hcm, HS⟩ := hrel
      by_cases hlt : k < n
      · obtain ⟨x, hx⟩ : ∃ x, l[k]? = some x := ⟨_, List.getElem?_eq_getElem (by rw [HN.out]; exact hlt)⟩
        have HGW := Lib.hid (World.grownBy.trans G0.out HS.out.2.2.2)
        obtain ⟨b, o, e, hc⟩ := (HB.out.stays HGW.out) k x hx
        subst e
        have hx255 : x ≤ 255 := HL.out x (List.mem_of_getElem? hx)
        have HX := Lib.hid hx
        have HC := Lib.hid hc
        have HDS : Hid ((decS (x : Int)).size ≤ 3) := Lib.hid (dec_short x hx255)
        have HPE := Lib.hid (pinN_cells x)
        have HWX : Hid (IntKind.i64.wrap (x : Int) = (x : Int)) := Lib.hid (IntWalk.i64_in _ (by omega))
        clear hx hc
        go_wp2_with fail
        refine wp_region_noPanic ?_
        refine wp_region_held_drew (S := fun V => wr.grownBy V none) (by kernel_rfl) (grown_drew 1 (World.grownBy.refl _ _)) (fun g0 => ?_)
        refine wpAnyH_take (i := 0) (v := .slice (some ⟨b, o, none⟩) n cap) rfl (by kernel_rfl) (by kernel_rfl) (by kernel_rfl) (fun _ _ _ h => h) (Or.inl ⟨by kernel_rfl, fun V' hV' => ?_⟩) g0 ?_
        · rfl
        try simp only [Act.put, List.getElem_toArray, List.getElem_cons_zero, List.setIfInBounds_toArray, List.set_cons_zero, List.set_cons_succ]
        refine wpAnyH_take (i := 1) (v := .int .i64 k) rfl (by kernel_rfl) (by kernel_rfl) (by kernel_rfl) (fun _ _ _ h => h) (Or.inl ⟨by kernel_rfl, fun V' hV' => ?_⟩) g0 ?_
        · rfl
        try simp only [Act.put, List.getElem_toArray, List.getElem_cons_zero, List.getElem_cons_succ, List.setIfInBounds_toArray, List.set_cons_zero, List.set_cons_succ]
        refine wpAnyH_take (i := 2) (v := .pointer (some ⟨b, o + k, none⟩)) rfl (by kernel_rfl) (by kernel_rfl) (by kernel_rfl) (fun _ _ _ h => h) (Or.inl ⟨by kernel_rfl, fun V' hV' => ?_⟩) g0 ?_
        · go_simp
        try simp only [Act.put, List.getElem_toArray, List.getElem_cons_zero, List.getElem_cons_succ, List.setIfInBounds_toArray, List.set_cons_zero, List.set_cons_succ]
        refine wpAnyH_take (i := 3) (v := .int .u8 x) rfl (by kernel_rfl) (by kernel_rfl) (by kernel_rfl) (fun _ _ _ h => h) (Or.inl ⟨by kernel_rfl, fun V' hV' => ?_⟩) g0 ?_
        · have hc := hV'.cell HC.out (by simp)
          go_simp
        try simp only [Act.put, List.getElem_toArray, List.getElem_cons_zero, List.getElem_cons_succ, List.setIfInBounds_toArray, List.set_cons_zero, List.set_cons_succ]
        refine wpAnyH_take (i := 4) (v := .int .i64 x) rfl (by kernel_rfl) (by kernel_rfl) (by kernel_rfl) (fun _ _ _ h => h) (Or.inl ⟨by kernel_rfl, fun V' hV' => ?_⟩) g0 ?_
        · have hwx := HWX.out
          go_simp
        try simp only [Act.put, List.getElem_toArray, List.getElem_cons_zero, List.getElem_cons_succ, List.setIfInBounds_toArray, List.set_cons_zero, List.set_cons_succ]
        refine wpAnyH_take (i := 7) (v := .slice (some ⟨b, o, none⟩) n cap) rfl (by kernel_rfl) (by kernel_rfl) (by kernel_rfl) (fun _ _ _ h => h) (Or.inl ⟨by kernel_rfl, fun V' hV' => ?_⟩) g0 ?_
        · rfl
        try simp only [Act.put, List.getElem_toArray, List.getElem_cons_zero, List.getElem_cons_succ, List.setIfInBounds_toArray, List.set_cons_zero, List.set_cons_succ]
        refine wpAnyH_take (i := 8) (v := .int .i64 k) rfl (by kernel_rfl) (by kernel_rfl) (by kernel_rfl) (fun _ _ _ h => h) (Or.inl ⟨by kernel_rfl, fun V' hV' => ?_⟩) g0 ?_
        · rfl
        try simp only [Act.put, List.getElem_toArray, List.getElem_cons_zero, List.getElem_cons_succ, List.setIfInBounds_toArray, List.set_cons_zero, List.set_cons_succ]
        refine wpAnyH_take (i := 9) (v := .pointer (some ⟨b, o + k, none⟩)) rfl (by kernel_rfl) (by kernel_rfl) (by kernel_rfl) (fun _ _ _ h => h) (Or.inl ⟨by kernel_rfl, fun V' hV' => ?_⟩) g0 ?_
        · go_simp
        try simp only [Act.put, List.getElem_toArray, List.getElem_cons_zero, List.getElem_cons_succ, List.setIfInBounds_toArray, List.set_cons_zero, List.set_cons_succ]
        refine wpAnyH_take (i := 10) (v := .int .u8 x) rfl (by kernel_rfl) (by kernel_rfl) (by kernel_rfl) (fun _ _ _ h => h) (Or.inl ⟨by kernel_rfl, fun V' hV' => ?_⟩) g0 ?_
        · have hc := hV'.cell HC.out (by simp)
          go_simp
        try simp only [Act.put, List.getElem_toArray, List.getElem_cons_zero, List.getElem_cons_succ, List.setIfInBounds_toArray, List.set_cons_zero, List.set_cons_succ]
        refine wpAnyH_take (i := 11) (v := .int .i64 x) rfl (by kernel_rfl) (by kernel_rfl) (by kernel_rfl) (fun _ _ _ h => h) (Or.inl ⟨by kernel_rfl, fun V' hV' => ?_⟩) g0 ?_
        · have hwx := HWX.out
          go_simp
        try simp only [Act.put, List.getElem_toArray, List.getElem_cons_zero, List.getElem_cons_succ, List.setIfInBounds_toArray, List.set_cons_zero, List.set_cons_succ]
        refine wpAnyH_take (i := 12) (v := .agg #[.int .i64 x, .int .i64 0, .int .i64 0, .slice none 0 0]) rfl (by kernel_rfl) (by kernel_rfl) (by kernel_rfl) (fun _ _ _ h => h) (Or.inl ⟨by kernel_rfl, fun V' hV' => ?_⟩) g0 ?_
        · have hb := built_ver (x : Int)
          simp [execOp, Act.eval, run_build _ _ _ _ hb, Result.andThen]
        try simp only [Act.put, List.getElem_toArray, List.getElem_cons_zero, List.getElem_cons_succ, List.setIfInBounds_toArray, List.set_cons_zero, List.set_cons_succ]
        refine wpAnyH_take (i := 13) (v := .slice (some ⟨b, o, none⟩) n cap) rfl (by kernel_rfl) (by kernel_rfl) (by kernel_rfl) (fun _ _ _ h => h) (Or.inl ⟨by kernel_rfl, fun V' hV' => ?_⟩) g0 ?_
        · rfl
        try simp only [Act.put, List.getElem_toArray, List.getElem_cons_zero, List.getElem_cons_succ, List.setIfInBounds_toArray, List.set_cons_zero, List.set_cons_succ]
        refine wpAnyH_take (i := 14) (v := .int .i64 k) rfl (by kernel_rfl) (by kernel_rfl) (by kernel_rfl) (fun _ _ _ h => h) (Or.inl ⟨by kernel_rfl, fun V' hV' => ?_⟩) g0 ?_
        · rfl
        try simp only [Act.put, List.getElem_toArray, List.getElem_cons_zero, List.getElem_cons_succ, List.setIfInBounds_toArray, List.set_cons_zero, List.set_cons_succ]
        refine wpAnyH_take (i := 15) (v := .pointer (some ⟨b, o + k, none⟩)) rfl (by kernel_rfl) (by kernel_rfl) (by kernel_rfl) (fun _ _ _ h => h) (Or.inl ⟨by kernel_rfl, fun V' hV' => ?_⟩) g0 ?_
        · go_simp
        try simp only [Act.put, List.getElem_toArray, List.getElem_cons_zero, List.getElem_cons_succ, List.setIfInBounds_toArray, List.set_cons_zero, List.set_cons_succ]
        refine wpAnyH_take (i := 16) (v := .int .u8 x) rfl (by kernel_rfl) (by kernel_rfl) (by kernel_rfl) (fun _ _ _ h => h) (Or.inl ⟨by kernel_rfl, fun V' hV' => ?_⟩) g0 ?_
        · have hc := hV'.cell HC.out (by simp)
          go_simp
        try simp only [Act.put, List.getElem_toArray, List.getElem_cons_zero, List.getElem_cons_succ, List.setIfInBounds_toArray, List.set_cons_zero, List.set_cons_succ]
        refine wpAnyH_take (i := 17) (v := .agg ((keyN x).map Sha.encB)) rfl (by kernel_rfl) (by kernel_rfl) (by kernel_rfl) (fun _ _ _ h => h) (Or.inl ⟨by kernel_rfl, fun V' hV' => ?_⟩) g0 ?_
        · have hb := built_key x hx255
          simp [execOp, Act.eval, run_build _ _ _ _ hb, Result.andThen]
        try simp only [Act.put, List.getElem_toArray, List.getElem_cons_zero, List.getElem_cons_succ, List.setIfInBounds_toArray, List.set_cons_zero, List.set_cons_succ]
        refine wpAnyH_ready (rs := [5, 19]) (by kernel_rfl) (by simp) ?_
        refine AllReadyH.cons rfl (fun K hK => ?_) (AllReadyH.cons rfl (fun K hK => ?_) AllReadyH.nil)
        · rw [if_pos (by rfl)]
          go_simp
          refine (dec_any (x : Int) (by omega) _).mono ?_
          rintro ee wq ⟨rfl, kk, hwq⟩
          have gq : wr.grownBy wq none := by rw [hwq]; exact grown_drew _ g0
          have hwz : wq.heap = wr.heap := by rw [hwq]; rfl
          clear hwq
          dsimp only
          refine hK.out _ _ gq (fun g1 => ?_)
          clear hK K
          try simp only [Act.put, List.getElem_toArray, List.getElem_cons_zero, List.getElem_cons_succ, List.setIfInBounds_toArray, List.set_cons_zero, List.set_cons_succ]
          refine wpAnyH_take (i := 6) (v := .string (⟨#[110]⟩ ++ decS (x : Int))) rfl (by kernel_rfl) (by kernel_rfl) (by kernel_rfl) (fun _ _ _ h => h) (Or.inl ⟨by kernel_rfl, fun V' hV' => ?_⟩) gq ?_
          · have hsz := HDS.out
            go_simp
            first | done | omega
          try simp only [Act.put, List.getElem_toArray, List.getElem_cons_zero, List.getElem_cons_succ, List.setIfInBounds_toArray, List.set_cons_zero, List.set_cons_succ]
          refine wpAnyH_take (i := 18) (v := .agg (pinN x).enc.toArray) rfl (by kernel_rfl) (by kernel_rfl) (by kernel_rfl) (fun _ _ _ h => h) (Or.inl ⟨by kernel_rfl, fun V' hV' => ?_⟩) gq ?_
          · have hb := built_pin (⟨#[110]⟩ ++ decS (x : Int)) ⟨(x : Int), 0, 0, []⟩ (.slice none 0 0) ((keyN x).map Sha.encB) (by rw [Array.size_map, keyN_size])
            rw [HPE.out] at hb
            simp [execOp, Act.eval, run_build _ _ _ _ hb, Result.andThen]
          try simp only [Act.put, List.getElem_toArray, List.getElem_cons_zero, List.getElem_cons_succ, List.setIfInBounds_toArray, List.set_cons_zero, List.set_cons_succ]
          refine wpAnyH_ready (rs := [19]) (by kernel_rfl) (by simp) ?_
          refine AllReadyH.cons rfl (fun K hK => ?_) AllReadyH.nil
          rw [if_pos (by rfl)]
          go_simp
          refine hK.out _ _ (World.grownBy.trans gq (World.grownBy_alloc _ _ _)) (fun g2 => ?_)
          clear hK K
          try simp only [Act.put, List.getElem_toArray, List.getElem_cons_zero, List.getElem_cons_succ, List.setIfInBounds_toArray, List.set_cons_zero, List.set_cons_succ]
          have hsz : wq.heap.size = wr.heap.size := by rw [hwz]
          have hbk : (wq.alloc (.cells Z 39)).heap[wr.heap.size]? = some (.cells Z 39 (0, 0)) := by rw [← hsz]; exact bk_alloc _ _
          try rw [hsz]
          refine wpAnyH_ready (rs := [20]) (by kernel_rfl) (by simp) ?_
          refine AllReadyH.cons rfl (fun K hK => ?_) AllReadyH.nil
          rw [if_pos (by rfl)]
          refine wp_store_row 39 _ _ rfl wr.heap.size (pinN x).enc.toArray rfl rfl 39 Z hbk (by rw [List.size_toArray, enc_len]; kernel_rfl) (by rw [HZS.out, List.size_toArray, enc_len]) (by rw [List.all_toArray, List.all_eq_true]; exact enc_one _) ?_
          refine hK.out _ _ (Sha.grown_setRow g2 (Nat.le_refl _) _) (fun g3 => ?_)
          clear hK K
          try simp only [Act.put, List.getElem_toArray, List.getElem_cons_zero, List.getElem_cons_succ]
          refine wpAnyH_done (by kernel_rfl) ?_ _
          refine NoPanic.normal ?_
          have hk3 := setRow_heap _ wr.heap.size _ (pinN x).enc.toArray 39 _ hbk
          obtain ⟨w3, hw3⟩ : ∃ w3, World.setRow (wq.alloc (.cells Z 39)) wr.heap.size (pinN x).enc.toArray = w3 := ⟨_, rfl⟩
          rw [hw3] at hk3 g3 ⊢
          clear hw3 hbk
          clear g0 gq hwz g1 g2 hsz
          have HK3 := Lib.hid hk3
          have HG3 := Lib.hid (World.grownBy.trans HS.out.2.2.2 g3)
          have HOW := Lib.hid (HS.out.2.2.1.stays g3)
          have hgp : w0.heap.size ≤ wr.heap.size := HS.out.2.2.2.size
          obtain ⟨gp, hgpe⟩ : ∃ gp, wr.heap.size = gp := ⟨_, rfl⟩
          have HGP := Lib.hid hgpe
          rw [hgpe] at hgp HK3 ⊢
          have r0 : w3.cell? ⟨gp, 0, none⟩ = some (.string (nameN 110 x)) := by rw [cell_in HK3.out]; rfl
          clear hk3 g3 hgpe
          obtain ⟨xs, hxs⟩ : ∃ xs, nameN 110 x = xs := ⟨_, rfl⟩
          have HXS := Lib.hid hxs
          rw [hxs] at r0
          obtain ⟨ds, hds⟩ : ∃ ds, decS (x : Int) = ds := ⟨_, rfl⟩
          rw [hds]
          obtain ⟨PA, hPA⟩ : ∃ PA, (pinN x).enc.toArray = PA := ⟨_, rfl⟩
          have HPA := Lib.hid hPA
          rw [hPA] at HK3 ⊢
          obtain ⟨KA, hKA⟩ : ∃ KA, (keyN x).map Sha.encB = KA := ⟨_, rfl⟩
          rw [hKA]
          clear hxs hds hPA hKA
          go_wp2_with fail
          go_loopw [9, 10] (fun th kk wi => ∃ j : Nat, j ≤ m2 ∧ kk = .int .i64 j ∧ th = .bool ((N.take j).contains x) ∧ Hid (w3.grownBy wi none)) (fun _ kk _ => m2 - (intOf kk).toNat)
          case atStart => exact ⟨0, Nat.zero_le _, rfl, by simp, Lib.hid (World.grownBy.refl _ _)⟩
          case round =>
            obtain ⟨j, hj, rfl, rfl, HGI⟩ := hrel
            have r1 := HGI.out.cell r0 (by simp)
            have HNL := Lib.hid HS.out.2.1
            by_cases hlj : j < m2
            · obtain ⟨y, hy⟩ : ∃ y, N[j]? = some y := ⟨_, List.getElem?_eq_getElem (by rw [HNL.out]; exact hlj)⟩
              have hpy : (N.map pinN)[j]? = some (pinN y) := by rw [List.getElem?_map, hy]; rfl
              obtain ⟨bq, oq, e, _, hrq⟩ := ((HOW.out.stays HGI.out).part (HW.out.stays (World.grownBy.trans (World.grownBy.trans G0.out HG3.out) HGI.out)).pos).at j (pinN y) hpy
              subst e
              have q0 : wr.cell? ⟨bq, oq + j * 37, none⟩ = some (.string (nameN 110 y)) := range_name hrq
              have hcs : (N.take (j + 1)).contains x = ((N.take j).contains x || (x == y)) := by
                rw [List.take_succ_eq_append_getElem (by rw [HNL.out]; exact hlj)]
                have : N[j]'(by rw [HNL.out]; exact hlj) = y := (List.getElem?_eq_some_iff.1 hy).2
                rw [this, List.contains_append]
                by_cases h : x = y <;> simp [h]
              have HCS := Lib.hid hcs
              have hy255 : y ≤ 255 := by
                have := (addN_fold (l.take k) [] List.nodup_nil).2.2 y (by rw [← HS.out.1]; exact List.mem_of_getElem? hy)
                rcases this with h | h
                · cases h
                · exact HL.out y (List.mem_of_mem_take h)
              clear hcs hy hpy hrq
              cases hB : (N.take j).contains x with
              | true =>
                have hb2 : (N.take (j + 1)).contains x = true := by rw [HCS.out, hB]; rfl
                have HB2 := Lib.hid hb2
                clear hb2 hB
                go_wp2_with fail
                go_quiet (fail)
                go_wp2_with fail
                go_roundw
                case rel => exact ⟨j + 1, by omega, by go_num, by rw [HB2.out], Lib.hid (grown_drew _ HGI.out)⟩
                case measure => simp [intOf]; omega
              | false =>
                by_cases hxy : x = y
                · have HB2 : Hid ((N.take (j + 1)).contains x = true) := Lib.hid (by rw [HCS.out, hB, hxy]; simp)
                  have e1 : nameN 110 y = xs := by rw [← HXS.out, hxy]
                  rw [e1] at q0
                  clear hB hxy e1
                  go_wp2_with fail
                  go_quiet (fail)
                  go_wp2_with fail
                  go_roundw
                  case rel => exact ⟨j + 1, by omega, by go_num, by rw [HB2.out], Lib.hid (grown_drew _ HGI.out)⟩
                  case measure => simp [intOf]; omega
                · have HB2 : Hid ((N.take (j + 1)).contains x = false) := Lib.hid (by rw [HCS.out, hB]; simp [hxy])
                  have hne : ¬ nameN 110 y = xs := fun e => hxy (nameN_inj 110 x y hx255 hy255 (by rw [e]; exact HXS.out))
                  obtain ⟨ys, hys⟩ : ∃ ys, nameN 110 y = ys := ⟨_, rfl⟩
                  rw [hys] at q0 hne
                  have f1 := nb_lists ys xs hne
                  have f2 := ne_lists ys xs hne
                  clear hB hxy hne hys
                  go_wp2_with fail
                  go_quiet (fail)
                  go_wp2_with fail
                  go_roundw
                  case rel => exact ⟨j + 1, by omega, by go_num, by rw [HB2.out], Lib.hid (grown_drew _ HGI.out)⟩
                  case measure => simp [intOf]; omega
            · obtain rfl : j = m2 := by omega
              have hcon : N.take j = N := List.take_of_length_le (Nat.le_of_eq HNL.out)
              rw [hcon]
              have hfold : (l.take (k + 1)).foldl addN [] = addN N x := by
                rw [List.take_succ_eq_append_getElem (by rw [HN.out]; exact hlt)]
                have : l[k]'(by rw [HN.out]; exact hlt) = x := (List.getElem?_eq_some_iff.1 HX.out).2
                rw [this, List.foldl_append, ← HS.out.1]
                rfl
              have HFOLD := Lib.hid hfold
              clear hfold hcon
              cases hB : N.contains x with
              | true =>
                have HADD : Hid (addN N x = N) := Lib.hid (by unfold addN; rw [if_pos (by simpa using hB)])
                clear hB
                go_wp2_with fail
                refine ⟨⟨k + 1, j, cp2, ad2, N, by omega, by go_num, rfl, by omega, hmc, hcm, Lib.hid ⟨by rw [HFOLD.out, HADD.out], HNL.out, HOW.out.stays HGI.out, World.grownBy.trans HG3.out HGI.out⟩⟩, by simp [intOf]; omega⟩
              | false =>
                have HADD : Hid (addN N x = N ++ [x]) := Lib.hid (by unfold addN; rw [if_neg (by simpa using hB)])
                clear hB r1
                have HKI := Lib.hid (bk_kept HK3.out HGI.out)
                have has : PA.size = 37 := by rw [← HPA.out, List.size_toArray, enc_len]
                have HAS := Lib.hid has
                have HIA : Hid ((Tryd.prog.info? 39).map (·.size) = some PA.size) := Lib.hid (by rw [has]; kernel_rfl)
                have HGA : Hid (w0.grownBy (wr.alloc (.cells PA 39)) none) := Lib.hid (World.grownBy.trans (World.grownBy.trans HG3.out HGI.out) (World.grownBy_alloc _ _ _))
                have HOW2 : Hid (OwnsP (wr.alloc (.cells PA 39)) w0.heap.size (.slice ad2 j cp2) (N.map pinN)) := Lib.hid ((HOW.out.stays HGI.out).alloc _)
                have HRG : Hid ((wr.alloc (.cells PA 39)).rangeAt wr.heap.size 0 (pinN x).enc) := Lib.hid (fun i v hi => by rw [Nat.zero_add, cell_in (heap_alloc_new _ _), ← HPA.out]; simpa using hi)
                have HLN : Hid ((N.map pinN).length = j) := Lib.hid (by rw [List.length_map, HNL.out])
                have hm3 : j ≤ 1000000 := by omega
                clear has
                go_wp2_with (first
                  | ((with_reducible refine wpList_load_row (o := ⟨some 66, _, _, _, _, _⟩) rfl 39 _ rfl gp ?_ 39 PA (0, 0) _ HKI.out Tryd.underlying39 ?_ HIA.out ?_); (rfl); (rfl))
                  | ((with_reducible refine slice_pin (o := ⟨some 67, _, _, _, _, _⟩) rfl _ rfl PA HAS.out ?_ ?_); (rfl))
                  | ((with_reducible refine app_pin_at (o := ⟨some 68, _, _, _, _, _⟩) (w := wr.alloc (.cells PA 39)) rfl _ _ rfl w0.heap.size (.slice ad2 j cp2) (N.map pinN) j HLN.out (pinN x) wr.heap.size ?_ HOW2.out ?_ HRG.out hm3 HGA.out.size ?_); (rfl); (rfl); (intro ad5 cp5 w5 hc5 hm5 HOW5 HG5 HAT5)))
                refine ⟨⟨k + 1, j + 1, cp5, ad5, N ++ [x], by omega, by go_num, rfl, by omega, hc5, hm5, Lib.hid ⟨by rw [HFOLD.out, HADD.out], by rw [List.length_append, HNL.out]; rfl, by rw [List.map_append]; exact HOW5.out, grown_own HGA.out HG5.out (fun q hq => (OwnsP.block_lt HOW2.out q hq).1)⟩⟩, by simp [intOf]; omega⟩
        · rw [if_pos (by rfl)]
          go_simp
          refine hK.out _ _ (World.grownBy.trans g0 (World.grownBy_alloc _ _ _)) (fun gq0 => ?_)
          clear hK K
          try simp only [Act.put, List.getElem_toArray, List.getElem_cons_zero, List.getElem_cons_succ, List.setIfInBounds_toArray, List.set_cons_zero, List.set_cons_succ]
          have hbk0 : (wr.alloc (.cells Z 39)).drew.heap[wr.heap.size]? = some (.cells Z 39 (0, 0)) := bk_alloc wr _
          obtain ⟨wz, hwz⟩ : ∃ wz, (wr.alloc (.cells Z 39)).drew = wz := ⟨_, rfl⟩
          rw [hwz] at hbk0 gq0 ⊢
          clear hwz
          refine wpAnyH_ready (rs := [5]) (by kernel_rfl) (by simp) ?_
          refine AllReadyH.cons rfl (fun K hK => ?_) AllReadyH.nil
          rw [if_pos (by rfl)]
          go_simp
          refine (dec_any (x : Int) (by omega) _).mono ?_
          rintro ee wq ⟨rfl, kk, hwq⟩
          have gq : wr.grownBy wq none := by rw [hwq]; exact grown_drew _ gq0
          have hbk : wq.heap[wr.heap.size]? = some (.cells Z 39 (0, 0)) := by rw [hwq]; exact hbk0
          clear hwq
          dsimp only
          refine hK.out _ _ gq (fun g1 => ?_)
          clear hK K
          try simp only [Act.put, List.getElem_toArray, List.getElem_cons_zero, List.getElem_cons_succ, List.setIfInBounds_toArray, List.set_cons_zero, List.set_cons_succ]
          refine wpAnyH_take (i := 6) (v := .string (⟨#[110]⟩ ++ decS (x : Int))) rfl (by kernel_rfl) (by kernel_rfl) (by kernel_rfl) (fun _ _ _ h => h) (Or.inl ⟨by kernel_rfl, fun V' hV' => ?_⟩) gq ?_
          · have hsz := HDS.out
            go_simp
            first | done | omega
          try simp only [Act.put, List.getElem_toArray, List.getElem_cons_zero, List.getElem_cons_succ, List.setIfInBounds_toArray, List.set_cons_zero, List.set_cons_succ]
          refine wpAnyH_take (i := 18) (v := .agg (pinN x).enc.toArray) rfl (by kernel_rfl) (by kernel_rfl) (by kernel_rfl) (fun _ _ _ h => h) (Or.inl ⟨by kernel_rfl, fun V' hV' => ?_⟩) gq ?_
          · have hb := built_pin (⟨#[110]⟩ ++ decS (x : Int)) ⟨(x : Int), 0, 0, []⟩ (.slice none 0 0) ((keyN x).map Sha.encB) (by rw [Array.size_map, keyN_size])
            rw [HPE.out] at hb
            simp [execOp, Act.eval, run_build _ _ _ _ hb, Result.andThen]
          try simp only [Act.put, List.getElem_toArray, List.getElem_cons_zero, List.getElem_cons_succ, List.setIfInBounds_toArray, List.set_cons_zero, List.set_cons_succ]
          refine wpAnyH_ready (rs := [20]) (by kernel_rfl) (by simp) ?_
          refine AllReadyH.cons rfl (fun K hK => ?_) AllReadyH.nil
          rw [if_pos (by rfl)]
          refine wp_store_row 39 _ _ rfl wr.heap.size (pinN x).enc.toArray rfl rfl 39 Z hbk (by rw [List.size_toArray, enc_len]; kernel_rfl) (by rw [HZS.out, List.size_toArray, enc_len]) (by rw [List.all_toArray, List.all_eq_true]; exact enc_one _) ?_
          refine hK.out _ _ (Sha.grown_setRow gq (Nat.le_refl _) _) (fun g3 => ?_)
          clear hK K
          try simp only [Act.put, List.getElem_toArray, List.getElem_cons_zero, List.getElem_cons_succ]
          refine wpAnyH_done (by kernel_rfl) ?_ _
          refine NoPanic.normal ?_
          have hk3 := setRow_heap _ wr.heap.size _ (pinN x).enc.toArray 39 _ hbk
          obtain ⟨w3, hw3⟩ : ∃ w3, World.setRow wq wr.heap.size (pinN x).enc.toArray = w3 := ⟨_, rfl⟩
          rw [hw3] at hk3 g3 ⊢
          clear hw3 hbk
          clear g0 gq g1 gq0 hbk0
          have HK3 := Lib.hid hk3
          have HG3 := Lib.hid (World.grownBy.trans HS.out.2.2.2 g3)
          have HOW := Lib.hid (HS.out.2.2.1.stays g3)
          have hgp : w0.heap.size ≤ wr.heap.size := HS.out.2.2.2.size
          obtain ⟨gp, hgpe⟩ : ∃ gp, wr.heap.size = gp := ⟨_, rfl⟩
          have HGP := Lib.hid hgpe
          rw [hgpe] at hgp HK3 ⊢
          have r0 : w3.cell? ⟨gp, 0, none⟩ = some (.string (nameN 110 x)) := by rw [cell_in HK3.out]; rfl
          clear hk3 g3 hgpe
          obtain ⟨xs, hxs⟩ : ∃ xs, nameN 110 x = xs := ⟨_, rfl⟩
          have HXS := Lib.hid hxs
          rw [hxs] at r0
          obtain ⟨ds, hds⟩ : ∃ ds, decS (x : Int) = ds := ⟨_, rfl⟩
          rw [hds]
          obtain ⟨PA, hPA⟩ : ∃ PA, (pinN x).enc.toArray = PA := ⟨_, rfl⟩
          have HPA := Lib.hid hPA
          rw [hPA] at HK3 ⊢
          obtain ⟨KA, hKA⟩ : ∃ KA, (keyN x).map Sha.encB = KA := ⟨_, rfl⟩
          rw [hKA]
          clear hxs hds hPA hKA
          go_wp2_with fail
          go_loopw [9, 10] (fun th kk wi => ∃ j : Nat, j ≤ m2 ∧ kk = .int .i64 j ∧ th = .bool ((N.take j).contains x) ∧ Hid (w3.grownBy wi none)) (fun _ kk _ => m2 - (intOf kk).toNat)
          case atStart => exact ⟨0, Nat.zero_le _, rfl, by simp, Lib.hid (World.grownBy.refl _ _)⟩
          case round =>
            obtain ⟨j, hj, rfl, rfl, HGI⟩ := hrel
            have r1 := HGI.out.cell r0 (by simp)
            have HNL := Lib.hid HS.out.2.1
            by_cases hlj : j < m2
            · obtain ⟨y, hy⟩ : ∃ y, N[j]? = some y := ⟨_, List.getElem?_eq_getElem (by rw [HNL.out]; exact hlj)⟩
              have hpy : (N.map pinN)[j]? = some (pinN y) := by rw [List.getElem?_map, hy]; rfl
              obtain ⟨bq, oq, e, _, hrq⟩ := ((HOW.out.stays HGI.out).part (HW.out.stays (World.grownBy.trans (World.grownBy.trans G0.out HG3.out) HGI.out)).pos).at j (pinN y) hpy
              subst e
              have q0 : wr.cell? ⟨bq, oq + j * 37, none⟩ = some (.string (nameN 110 y)) := range_name hrq
              have hcs : (N.take (j + 1)).contains x = ((N.take j).contains x || (x == y)) := by
                rw [List.take_succ_eq_append_getElem (by rw [HNL.out]; exact hlj)]
                have : N[j]'(by rw [HNL.out]; exact hlj) = y := (List.getElem?_eq_some_iff.1 hy).2
                rw [this, List.contains_append]
                by_cases h : x = y <;> simp [h]
              have HCS := Lib.hid hcs
              have hy255 : y ≤ 255 := by
                have := (addN_fold (l.take k) [] List.nodup_nil).2.2 y (by rw [← HS.out.1]; exact List.mem_of_getElem? hy)
                rcases this with h | h
                · cases h
                · exact HL.out y (List.mem_of_mem_take h)
              clear hcs hy hpy hrq
              cases hB : (N.take j).contains x with
              | true =>
                have hb2 : (N.take (j + 1)).contains x = true := by rw [HCS.out, hB]; rfl
                have HB2 := Lib.hid hb2
                clear hb2 hB
                go_wp2_with fail
                go_quiet (fail)
                go_wp2_with fail
                go_roundw
                case rel => exact ⟨j + 1, by omega, by go_num, by rw [HB2.out], Lib.hid (grown_drew _ HGI.out)⟩
                case measure => simp [intOf]; omega
              | false =>
                by_cases hxy : x = y
                · have HB2 : Hid ((N.take (j + 1)).contains x = true) := Lib.hid (by rw [HCS.out, hB, hxy]; simp)
                  have e1 : nameN 110 y = xs := by rw [← HXS.out, hxy]
                  rw [e1] at q0
                  clear hB hxy e1
                  go_wp2_with fail
                  go_quiet (fail)
                  go_wp2_with fail
                  go_roundw
                  case rel => exact ⟨j + 1, by omega, by go_num, by rw [HB2.out], Lib.hid (grown_drew _ HGI.out)⟩
                  case measure => simp [intOf]; omega
                · have HB2 : Hid ((N.take (j + 1)).contains x = false) := Lib.hid (by rw [HCS.out, hB]; simp [hxy])
                  have hne : ¬ nameN 110 y = xs := fun e => hxy (nameN_inj 110 x y hx255 hy255 (by rw [e]; exact HXS.out))
                  obtain ⟨ys, hys⟩ : ∃ ys, nameN 110 y = ys := ⟨_, rfl⟩
                  rw [hys] at q0 hne
                  have f1 := nb_lists ys xs hne
                  have f2 := ne_lists ys xs hne
                  clear hB hxy hne hys
                  go_wp2_with fail
                  go_quiet (fail)
                  go_wp2_with fail
                  go_roundw
                  case rel => exact ⟨j + 1, by omega, by go_num, by rw [HB2.out], Lib.hid (grown_drew _ HGI.out)⟩
                  case measure => simp [intOf]; omega
            · obtain rfl : j = m2 := by omega
              have hcon : N.take j = N := List.take_of_length_le (Nat.le_of_eq HNL.out)
              rw [hcon]
              have hfold : (l.take (k + 1)).foldl addN [] = addN N x := by
                rw [List.take_succ_eq_append_getElem (by rw [HN.out]; exact hlt)]
                have : l[k]'(by rw [HN.out]; exact hlt) = x := (List.getElem?_eq_some_iff.1 HX.out).2
                rw [this, List.foldl_append, ← HS.out.1]
                rfl
              have HFOLD := Lib.hid hfold
              clear hfold hcon
              cases hB : N.contains x with
              | true =>
                have HADD : Hid (addN N x = N) := Lib.hid (by unfold addN; rw [if_pos (by simpa using hB)])
                clear hB
                go_wp2_with fail
                refine ⟨⟨k + 1, j, cp2, ad2, N, by omega, by go_num, rfl, by omega, hmc, hcm, Lib.hid ⟨by rw [HFOLD.out, HADD.out], HNL.out, HOW.out.stays HGI.out, World.grownBy.trans HG3.out HGI.out⟩⟩, by simp [intOf]; omega⟩
              | false =>
                have HADD : Hid (addN N x = N ++ [x]) := Lib.hid (by unfold addN; rw [if_neg (by simpa using hB)])
                clear hB r1
                have HKI := Lib.hid (bk_kept HK3.out HGI.out)
                have has : PA.size = 37 := by rw [← HPA.out, List.size_toArray, enc_len]
                have HAS := Lib.hid has
                have HIA : Hid ((Tryd.prog.info? 39).map (·.size) = some PA.size) := Lib.hid (by rw [has]; kernel_rfl)
                have HGA : Hid (w0.grownBy (wr.alloc (.cells PA 39)) none) := Lib.hid (World.grownBy.trans (World.grownBy.trans HG3.out HGI.out) (World.grownBy_alloc _ _ _))
                have HOW2 : Hid (OwnsP (wr.alloc (.cells PA 39)) w0.heap.size (.slice ad2 j cp2) (N.map pinN)) := Lib.hid ((HOW.out.stays HGI.out).alloc _)
                have HRG : Hid ((wr.alloc (.cells PA 39)).rangeAt wr.heap.size 0 (pinN x).enc) := Lib.hid (fun i v hi => by rw [Nat.zero_add, cell_in (heap_alloc_new _ _), ← HPA.out]; simpa using hi)
                have HLN : Hid ((N.map pinN).length = j) := Lib.hid (by rw [List.length_map, HNL.out])
                have hm3 : j ≤ 1000000 := by omega
                clear has
                go_wp2_with (first
                  | ((with_reducible refine wpList_load_row (o := ⟨some 66, _, _, _, _, _⟩) rfl 39 _ rfl gp ?_ 39 PA (0, 0) _ HKI.out Tryd.underlying39 ?_ HIA.out ?_); (rfl); (rfl))
                  | ((with_reducible refine slice_pin (o := ⟨some 67, _, _, _, _, _⟩) rfl _ rfl PA HAS.out ?_ ?_); (rfl))
                  | ((with_reducible refine app_pin_at (o := ⟨some 68, _, _, _, _, _⟩) (w := wr.alloc (.cells PA 39)) rfl _ _ rfl w0.heap.size (.slice ad2 j cp2) (N.map pinN) j HLN.out (pinN x) wr.heap.size ?_ HOW2.out ?_ HRG.out hm3 HGA.out.size ?_); (rfl); (rfl); (intro ad5 cp5 w5 hc5 hm5 HOW5 HG5 HAT5)))
                refine ⟨⟨k + 1, j + 1, cp5, ad5, N ++ [x], by omega, by go_num, rfl, by omega, hc5, hm5, Lib.hid ⟨by rw [HFOLD.out, HADD.out], by rw [List.length_append, HNL.out]; rfl, by rw [List.map_append]; exact HOW5.out, grown_own HGA.out HG5.out (fun q hq => (OwnsP.block_lt HOW2.out q hq).1)⟩⟩, by simp [intOf]; omega⟩
      · obtain rfl : k = n := by omega
        have HNE : Hid (N = l.foldl addN []) := Lib.hid (by rw [HS.out.1, List.take_of_length_le (Nat.le_of_eq HN.out)])
        have HNL := Lib.hid HS.out.2.1
        have HOW := Lib.hid HS.out.2.2.1
        have HG1 := Lib.hid (World.grownBy.trans G0.out HS.out.2.2.2)
        have hbase := HS.out.2.2.2.size
        obtain ⟨w1, hw1⟩ : ∃ w1, wr = w1 := ⟨_, rfl⟩
        rw [hw1] at HOW HG1 hbase ⊢
        clear HS hw1 hlt hk
        go_wp2_with fail
        go_loopw [6, 11] (fun v i wi => ∃ (i2 cp3 : Nat) (ad3 : Option Addr) (Q : List Pc), i2 ≤ m2 ∧ i = .int .i64 i2 ∧ v = .slice ad3 i2 cp3 ∧ i2 ≤ cp3 ∧ cp3 ≤ 9223372036854775807 ∧ Hid (Q.length = i2 ∧ (∀ j, j < i2 → Q[j]? = (N.map pinN)[(j + t) % m2]?) ∧ OwnsP wi w1.heap.size (.slice ad3 i2 cp3) Q ∧ w1.grownBy wi none)) (fun _ i _ => m2 - (intOf i).toNat)
        case atStart => exact ⟨0, 0, none, [], Nat.zero_le _, rfl, rfl, Nat.le_refl _, by omega, Lib.hid ⟨rfl, fun j hj => by omega, OwnsP.nil _ _, World.grownBy.refl _ _⟩⟩
        case round =>
          obtain ⟨i2, cp3, ad3, Q, hi2, rfl, rfl, hic, hcq, HQ⟩ := hrel
          by_cases hlt : i2 < m2
          · obtain ⟨q, hq⟩ : ∃ q : Nat, (i2 + t) % m2 = q := ⟨_, rfl⟩
            have hqm : q < m2 := by rw [← hq]; exact Nat.mod_lt _ (by omega)
            have eq1 : ((i2 : Int) + (t : Int)) % (m2 : Int) = (q : Int) := by rw [← hq]; first | rfl | simp
            have eq2 : ((i2 : Int) + (t : Int)).tmod (m2 : Int) = (q : Int) := by rw [Int.tmod_eq_emod_of_nonneg (by omega)]; exact eq1
            obtain ⟨y, hy⟩ : ∃ y, N[q]? = some y := ⟨_, List.getElem?_eq_getElem (by rw [HNL.out]; exact hqm)⟩
            have hpy : (N.map pinN)[q]? = some (pinN y) := by rw [List.getElem?_map, hy]; rfl
            obtain ⟨bq, oq, e, _, hrq⟩ := ((HOW.out.stays HQ.out.2.2.2).part (HW.out.stays (World.grownBy.trans HG1.out HQ.out.2.2.2)).pos).at q (pinN y) hpy
            subst e
            have HPY := Lib.hid hpy
            have HQE := Lib.hid hq
            have HRQ := Lib.hid hrq
            obtain ⟨PA, hPA⟩ : ∃ PA, (pinN y).enc.toArray = PA := ⟨_, rfl⟩
            have HPA := Lib.hid hPA
            have HAS : Hid (PA.size = 37) := Lib.hid (by rw [← hPA, List.size_toArray, enc_len])
            have HIY : Hid ((Tryd.prog.info? 39).map (·.size) = some (pinN y).enc.length) := Lib.hid (by rw [enc_len]; exact infoP_size)
            have HGA : Hid (w1.grownBy (wr.alloc (.cells PA 39)) none) := Lib.hid (World.grownBy.trans HQ.out.2.2.2 (World.grownBy_alloc _ _ _))
            have HOW2 : Hid (OwnsP (wr.alloc (.cells PA 39)) w1.heap.size (.slice ad3 i2 cp3) Q) := Lib.hid (HQ.out.2.2.1.alloc _)
            have HRG : Hid ((wr.alloc (.cells PA 39)).rangeAt wr.heap.size 0 (pinN y).enc) := Lib.hid (fun i v hi => by rw [Nat.zero_add, cell_in (heap_alloc_new _ _), ← HPA.out]; simpa using hi)
            have HLN := Lib.hid HQ.out.1
            have hm3 : i2 ≤ 1000000 := by omega
            have hmw : ¬ (m2 : Int) = 0 := by omega
            have hqi : (q : Int) < (m2 : Int) := by omega
            clear hy hpy hrq hPA hq
            go_wp2_with (first
              | ((with_reducible refine wpList_load_mid (op := ⟨some 85, _, _, _, _, _⟩) rfl 39 _ rfl bq (oq + q * 37) ?_ (pinN y).enc _ HRQ.out Tryd.underlying39 ?_ HIY.out ?_); (rfl); (rfl); (rw [HPA.out]))
              | ((with_reducible refine slice_pin (o := ⟨some 86, _, _, _, _, _⟩) rfl _ rfl PA HAS.out ?_ ?_); (rfl))
              | ((with_reducible refine app_pin_at (o := ⟨some 87, _, _, _, _, _⟩) (w := wr.alloc (.cells PA 39)) rfl _ _ rfl w1.heap.size (.slice ad3 i2 cp3) Q i2 HLN.out (pinN y) wr.heap.size ?_ HOW2.out ?_ HRG.out hm3 HGA.out.size ?_); (rfl); (rfl); (intro ad5 cp5 w5 hc5 hm5 HOW5 HG5 HAT5)))
            go_roundw
            case rel => exact ⟨i2 + 1, cp5, ad5, Q ++ [pinN y], by omega, by go_num, rfl, hc5, hm5, Lib.hid ⟨by rw [List.length_append, HLN.out]; rfl, fun j hj => by
              by_cases hji : j < i2
              · rw [List.getElem?_append_left (by rw [HLN.out]; exact hji)]
                exact HQ.out.2.1 j hji
              · obtain rfl : j = i2 := by omega
                rw [List.getElem?_append_right (by rw [HLN.out]; exact Nat.le_refl _), HLN.out, Nat.sub_self, HQE.out, HPY.out]
                rfl, HOW5.out, grown_own HGA.out HG5.out (fun q hq => (OwnsP.block_lt HOW2.out q hq).1)⟩⟩
            case measure => simp [intOf]; omega
          · obtain rfl : i2 = m2 := by omega
            have hN255 : ∀ x ∈ N, x ≤ 255 := fun x hx => by
              have := (addN_fold l [] List.nodup_nil).2.2 x (by rw [← HNE.out]; exact hx)
              rcases this with h | h
              · cases h
              · exact HL.out x h
            have hnd : N.Nodup := by rw [HNE.out]; exact (addN_fold l [] List.nodup_nil).1
            have hNl : N.length ≤ 10 := by rw [HNL.out]; omega
            have hperm : Q.Perm (N.map pinN) := turned_perm (N.map pinN) t i2 (by rw [List.length_map, HNL.out]) Q HQ.out.1 HQ.out.2.1
            have hsame : sortP Q = sortP (N.map pinN) := (sort_same (N.map pinN) Q hperm.symm (pins_inj N hN255)).symm
            have HLOCK := Lib.hid (lock_nums N hN255 hnd hNl)
            have HSAME := Lib.hid hsame
            have hPQ : ∀ p ∈ Q, ∃ x, x ≤ 255 ∧ p = pinN x := fun p hp => by
              obtain ⟨x, hx, rfl⟩ := List.mem_map.1 (hperm.mem_iff.1 hp)
              exact ⟨x, hN255 x hx, rfl⟩
            have hPN : ∀ p ∈ N.map pinN, ∃ x, x ≤ 255 ∧ p = pinN x := fun p hp => by
              obtain ⟨x, hx, rfl⟩ := List.mem_map.1 hp
              exact ⟨x, hN255 x hx, rfl⟩
            have HGR := Lib.hid (World.grownBy.trans HG1.out HQ.out.2.2.2)
            have HPQ : Hid (∀ V, wr.grownBy V none → PartP V V.heap.size (.slice ad3 i2 cp3) Q ∧ AllAt V V.heap.size Q) := Lib.hid (fun V hV => ⟨(HQ.out.2.2.1.stays hV).part (HW.out.stays (World.grownBy.trans HGR.out hV)).pos, all_pinN hPQ (HW.out.stays (World.grownBy.trans HGR.out hV)).pos⟩)
            have HPN : Hid (∀ V, wr.grownBy V none → PartP V V.heap.size (.slice ad2 i2 cp2) (N.map pinN) ∧ AllAt V V.heap.size (N.map pinN)) := Lib.hid (fun V hV => ⟨(HOW.out.stays (World.grownBy.trans HQ.out.2.2.2 hV)).part (HW.out.stays (World.grownBy.trans HGR.out hV)).pos, all_pinN hPN (HW.out.stays (World.grownBy.trans HGR.out hV)).pos⟩)
            have HLN : Hid ((N.map pinN).length = i2) := Lib.hid (by rw [List.length_map, HNL.out])
            have HLQ := Lib.hid HQ.out.1
            have hi10 : i2 ≤ 10 := by rw [← HNL.out]; exact hNl
            have HSZ := Lib.hid (size_nums N hN255 hNl)
            clear hN255 hnd hNl hperm hsame hPQ hPN hlt hi2
            go_wp2_with fail
            (with_reducible refine (lockText_any m i2 cp2 ad2 (N.map pinN) (stable_few i2 _ (by omega)) wr (HW.out.stays HGR.out) HLN.out (by omega) (HPN.out wr (World.grownBy.refl _ _)).1 (HPN.out wr (World.grownBy.refl _ _)).2).mono ?_)
            rintro ee w4 ⟨rfl, g4⟩
            obtain ⟨T, hT⟩ : ∃ T : ByteArray, (⟨(lockT (N.map pinN)).toArray⟩ : ByteArray) = T := ⟨_, rfl⟩
            have HT := Lib.hid hT
            have HTL : Hid (lockS T = .inr ((sortP (N.map pinN)).map mp)) := Lib.hid (by rw [← hT]; exact HLOCK.out)
            have hTs : T.size ≤ 65536 := by rw [← hT]; exact HSZ.out
            rw [hT]
            have G4 := Lib.hid g4
            clear hT g4
            dsimp only
            go_wp2_with fail
            (with_reducible refine (lParse_any m T w4 (by omega) (HW.out.stays (World.grownBy.trans HGR.out G4.out)).max).mono ?_)
            rintro ee w5 ⟨hg, ⟨kk, h1, _⟩ | ⟨v5, L5, h1, rfl, hO5, hA5⟩⟩
            · rw [HTL.out] at h1; cases h1
            have hmp : (sortP (N.map pinN)).map mp = L5.map mp := by rw [HTL.out] at h1; exact Sum.inr.inj h1
            have G5 := Lib.hid (World.grownBy.trans G4.out hg)
            have hl5 : L5.length = i2 := by
              have := congrArg List.length hmp
              rw [List.length_map, List.length_map, sortP_len, HLN.out] at this
              exact this.symm
            obtain ⟨a5, c5, e5, _, _⟩ := hO5.form
            rw [hl5] at e5
            subst e5
            have HL5 := Lib.hid hl5
            have HMP := Lib.hid hmp
            have HP5 : Hid (∀ V, w5.grownBy V none → PartP V V.heap.size (.slice a5 i2 c5) L5 ∧ AllAt V V.heap.size L5) := Lib.hid (fun V hV => ⟨(hO5.stays hV).part (HW.out.stays (World.grownBy.trans HGR.out (World.grownBy.trans G5.out hV))).pos, fun p hp => ((hA5 p hp).stays hV).mono hV.size⟩)
            clear h1 hg hO5 hA5 hl5 hmp hTs
            dsimp only
            go_wp2_with fail
            (with_reducible refine (lockText_any m i2 cp3 ad3 Q (stable_few i2 _ (by omega)) w5 (HW.out.stays (World.grownBy.trans HGR.out G5.out)) HLQ.out (by omega) (HPQ.out w5 G5.out).1 (HPQ.out w5 G5.out).2).mono ?_)
            have HTQ : Hid ((⟨(lockT Q).toArray⟩ : ByteArray) = T) := Lib.hid (by rw [← HT.out]; unfold lockT; rw [HSAME.out])
            rw [HTQ.out]
            rintro ee w6 ⟨rfl, g6⟩
            have G6 := Lib.hid g6
            have G56 := Lib.hid (World.grownBy.trans G5.out g6)
            clear g6
            dsimp only
            go_wp2_with fail
            (with_reducible refine (refPins_any i2 cp2 ad2 (N.map pinN) w6 HLN.out (by omega) (HPN.out w6 G56.out).1 (HW.out.stays (World.grownBy.trans HGR.out G56.out)).pos).mono ?_)
            rintro ee w7 ⟨a7, c7, rfl, hO7, g7⟩
            rw [HLN.out] at hO7 ⊢
            have G57 := Lib.hid (World.grownBy.trans G6.out g7)
            have GW7 := Lib.hid (World.grownBy.trans G56.out g7)
            have HO7 := Lib.hid hO7
            clear hO7 g7
            dsimp only
            have HAN : Hid (AllAt w7 w7.heap.size (sortP (N.map pinN))) := Lib.hid (fun p hp => (HPN.out w7 GW7.out).2 p ((sortP_mem _ p).1 hp))
            have HPT7 := Lib.hid (HO7.out.part (HW.out.stays (World.grownBy.trans HGR.out GW7.out)).pos)
            have HSL : Hid ((sortP (N.map pinN)).length = i2) := Lib.hid (by rw [sortP_len, HLN.out])
            go_wp2_with fail
            (with_reducible refine (helpPins_at w7.heap.size i2 i2 c5 c7 a5 a7 L5 (sortP (N.map pinN)) w7 (Nat.le_refl _) HL5.out HSL.out (by omega) (by omega) (HP5.out w7 G57.out).1 HPT7.out (HP5.out w7 G57.out).2 HAN.out true (pins_same _ _ HMP.out.symm)).mono ?_)
            rintro ee w8 ⟨rfl, g8⟩
            have G58 := Lib.hid (World.grownBy.trans G57.out g8)
            have GW8 := Lib.hid (World.grownBy.trans GW7.out g8)
            clear g8
            dsimp only
            go_wp2_with fail
            (with_reducible refine (refPins_any i2 cp3 ad3 Q w8 HLQ.out (by omega) (HPQ.out w8 GW8.out).1 (HW.out.stays (World.grownBy.trans HGR.out GW8.out)).pos).mono ?_)
            rintro ee w9 ⟨a9, c9, rfl, hO9, g9⟩
            rw [HLQ.out] at hO9 ⊢
            rw [HSAME.out] at hO9
            have G59 := Lib.hid (World.grownBy.trans G58.out g9)
            have GW9 := Lib.hid (World.grownBy.trans GW8.out g9)
            have HO9 := Lib.hid hO9
            clear hO9 g9
            dsimp only
            have HAN9 : Hid (AllAt w9 w9.heap.size (sortP (N.map pinN))) := Lib.hid (fun p hp => (HPN.out w9 GW9.out).2 p ((sortP_mem _ p).1 hp))
            have HPT9 := Lib.hid (HO9.out.part (HW.out.stays (World.grownBy.trans HGR.out GW9.out)).pos)
            go_wp2_with fail
            (with_reducible refine (same_any m w9.heap.size i2 i2 c5 c9 a5 a9 L5 (sortP (N.map pinN)) w9 (HW.out.stays (World.grownBy.trans HGR.out GW9.out)) (Nat.le_refl _) HL5.out HSL.out (by omega) (by omega) (HP5.out w9 G59.out).1 HPT9.out (HP5.out w9 G59.out).2 HAN9.out).mono ?_)
            rw [all_same _ _ HMP.out.symm]
            rintro ee w10 ⟨rfl, g10⟩
            dsimp only
            go_wp2
            go_ret
            exact ⟨rfl, World.grownBy.trans HGR.out (World.grownBy.trans GW9.out g10)⟩
  · have d1 : decide (10 < (n : Int)) = true := by simp; omega
    have d2 : 10 < n := by omega
    go_enter Tryd.func5, Tryd.ntmps5
    go_wp2_with fail
    (with_reducible refine (known_any m w HW.out).mono ?_)
    rintro ee w0 ⟨rfl, g0⟩
    dsimp only
    go_wp2
    go_ret
    exact ⟨rfl, g0⟩
end Go.Proofs.YthdopcdllggdaaaDoor
