/- The law TreeOrder returns true. -/
import Derived.Test.YtichejodbohldaaGreatDoorIoM
import Derived.Deep.RegionHeld3
namespace Go.Proofs.YtichejodbohldaaGreatDoor
open Go.RowKit Go.Maps
set_option maxRecDepth 1000000
/-- What []byte(s) comes to. -/
def cvC (V : World) (s : ByteArray) : Nat := grownCap V s.size 0 5
def cvW (V : World) (s : ByteArray) : World := V.drew.alloc (.cells (bytesRow s (grownCap V s.size 0 5)) 5 ((bytesRow s (grownCap V s.size 0 5)).size, (bytesRow s (grownCap V s.size 0 5)).size + 1))
theorem run_conv (s : ByteArray) (V : World) : (convert 9 31 (.string s)).run Tryz.prog V = .ok (.slice (some ⟨V.heap.size, 0, none⟩) s.size (cvC V s)) (cvW V s) :=
  run_bytes_of_string (P := Tryz.prog) V 9 31 5 s Tryz.underlying9 Tryz.underlying31 Tryz.underlying5
theorem cv_cap (V : World) (s : ByteArray) : s.size ≤ cvC V s := grownCap_ge _ _ _ _
theorem cv_grown (V : World) (s : ByteArray) : V.grownBy (cvW V s) none := World.grownBy.trans (show V.grownBy V.drew none from ⟨rfl, rfl, rfl, Nat.le_refl _, fun _ _ _ => rfl⟩) (World.grownBy_alloc _ _ _)
theorem cv_lie (V : World) (s : ByteArray) : LieB (cvW V s) V.heap.size s := by
  intro j hj
  have e : (cvW V s).heap[V.heap.size]? = some (.cells (bytesRow s (grownCap V s.size 0 5)) 5 ((bytesRow s (grownCap V s.size 0 5)).size, (bytesRow s (grownCap V s.size 0 5)).size + 1)) := by
    show (V.heap.push _)[V.heap.size]? = _
    simp
  simp only [World.cell?]
  have e2 : (bytesRow s (grownCap V s.size 0 5))[j]? = some (.int .u8 ((byteAt s j).toNat : Int)) := by
    unfold bytesRow
    rw [Array.getElem?_append_left (by simpa using hj), Array.getElem?_map, Array.getElem?_eq_getElem (by simpa using hj), byteAt_eq s j hj]
    rfl
  first
    | (rw [e]; exact e2)
    | (simp [e2])
/-- Bytes of a text in a block of none of S. -/
theorem LieB.lie {w : World} {b cap : Nat} {s : ByteArray} {S : Nat → Prop} (h : LieB w b s) (hc : s.size ≤ cap) (hb : ¬ S b) : Lie w S (.slice (some ⟨b, 0, none⟩) s.size cap) s.data.toList := by
  refine ⟨some ⟨b, 0, none⟩, cap, b, 0, (by rw [data_len]), (by rw [data_len]; exact hc), (fun h => by simp at h), hb, (fun _ => rfl), fun j hj => ?_⟩
  rw [data_len] at hj
  rw [Nat.zero_add]
  exact h j hj
def rotL (l : List Nat) (t : Nat) : List Nat := (List.range l.length).map fun i => l.getD ((i + t) % l.length) 0
theorem rot_len (l : List Nat) (t : Nat) : (rotL l t).length = l.length := by simp [rotL]
theorem rot_at {l : List Nat} {t k : Nat} (hk : k < l.length) : (rotL l t)[k]? = some (l.getD ((k + t) % l.length) 0) := by
  unfold rotL
  rw [List.getElem?_map, List.getElem?_range hk]; rfl
theorem getD_mem {l : List Nat} {i : Nat} (h : i < l.length) : l.getD i 0 ∈ l := by
  rw [List.getD_eq_getElem?_getD, List.getElem?_eq_getElem h]; exact List.getElem_mem h
theorem rot_mem (l : List Nat) (t : Nat) (x : Nat) : x ∈ l ↔ x ∈ rotL l t := by
  constructor
  · intro h
    obtain ⟨j, hj, e⟩ := List.getElem_of_mem h
    have hn : 0 < l.length := by omega
    have hr := Nat.mod_lt t hn
    have key : ∃ i, i < l.length ∧ (i + t) % l.length = j := by
      by_cases h1 : t % l.length ≤ j
      · refine ⟨j - t % l.length, by omega, ?_⟩
        rw [Nat.add_mod, Nat.mod_eq_of_lt (a := j - t % l.length) (by omega), show j - t % l.length + t % l.length = j by omega, Nat.mod_eq_of_lt hj]
      · refine ⟨j + l.length - t % l.length, by omega, ?_⟩
        rw [Nat.add_mod, Nat.mod_eq_of_lt (a := j + l.length - t % l.length) (by omega), show j + l.length - t % l.length + t % l.length = j + l.length by omega, Nat.add_mod_right, Nat.mod_eq_of_lt hj]
    obtain ⟨i, hi, e2⟩ := key
    refine List.mem_of_getElem? (i := i) ?_
    rw [rot_at hi, e2, List.getD_eq_getElem?_getD, List.getElem?_eq_getElem hj, e]; rfl
  · intro h
    obtain ⟨i, hi, rfl⟩ := List.mem_map.1 h
    have hi := List.mem_range.1 hi
    exact getD_mem (Nat.mod_lt _ (by omega))
theorem Duo.fresh {B : Nat} {w : World} {ta tb : Nat} {M N : Tr} {v : Value} {L : List UInt8} {Sa Sb : Nat → Prop} (h : Duo B w ta M tb N v L Sa Sb) : ¬ Sa w.heap.size ∧ ¬ Sb w.heap.size :=
  ⟨fun e => by have := h.a.tree.lt _ e; omega, fun e => by have := h.b.tree.lt _ e; omega⟩
/-- What the law's loop keeps. -/
def OrdAt (B : Nat) (w : World) (ta tb : Nat) (l r : List Nat) : Prop :=
  ∃ M N Sa Sb, Duo B w ta M tb N (.slice none 0 0) [] Sa Sb ∧ Has (fun p => p.data.toList) M l ∧ Has (fun p => p.data.toList) N r
set_option maxHeartbeats 16000000 in
theorem order_law (m : Int) (n cap t : Nat) (a : Option Addr) (l : List Nat) (w : World) (hm : w.cell? ⟨0, 0, none⟩ = some (.int .i64 m)) (hn : l.length = n) (hl : ∀ x ∈ l, x < 256) (ht : t < 256) (hb : BytesN w a l) :
    Calls Tryz.prog 7 #[.slice a n cap, .int .u8 (t : Int)] w fun e w' => e = .returned (.bool true) ∧ w.grownBy w' none := by
  have h0 : 0 < w.heap.size := World.block_lt_of_cell? _ _ hm
  have HM : Hid (∀ V, Since w.heap.size w V → V.cell? ⟨0, 0, none⟩ = some (.int .i64 m)) := Lib.hid fun V hV => hV.cell hm h0
  have HKN := Lib.hid (known_any m w hm)
  have H0 := Lib.hid h0
  have HN := Lib.hid hn
  have HL := Lib.hid hl
  have HB := Lib.hid hb
  clear hm h0 hn hl hb
  by_cases h12 : 12 < n
  · have d1 : decide (12 < (n : Int)) = true := by simp; omega
    go_enter Tryz.func7, Tryz.ntmps7
    go_wp2_with fail
    (with_reducible refine HKN.out.mono ?_)
    rintro e w1 ⟨rfl, hg⟩
    have G1 := Lib.hid hg
    clear hg
    dsimp only
    go_wp2
    go_ret
    exact ⟨rfl, G1.out⟩
  · have d1 : decide (12 < (n : Int)) = false := by simp; omega
    go_enter Tryz.func7, Tryz.ntmps7
    go_wp2_with fail
    (with_reducible refine HKN.out.mono ?_)
    rintro e w1 ⟨rfl, hg⟩
    have G1 := Lib.hid hg
    clear hg
    dsimp only
    go_wp2_with fail
    (with_reducible refine (new_any _).mono ?_)
    rintro e w2 ⟨ta, rfl, _, ht2, hg2⟩
    have HT2 := Lib.hid ht2
    have HG2 := Lib.hid hg2
    clear ht2 hg2
    dsimp only
    go_wp2_with fail
    (with_reducible refine (new_any _).mono ?_)
    rintro e w3 ⟨tb, rfl, _, ht3, hg3⟩
    have HS3 : Hid (Since w.heap.size w w3 ∧ OrdAt w.heap.size w3 ta tb [] []) := Lib.hid ⟨Since.of (World.grownBy.trans G1.out (World.grownBy.trans HG2.out hg3)), _, _, _, _, Duo.new G1.out.size HT2.out ht3 HG2.out hg3, Has.nil _, Has.nil _⟩
    clear ht3 hg3 HT2 HG2 G1
    dsimp only
    go_wp2_with fail
    go_loopw [7] (fun i wr => ∃ k : Nat, k ≤ n ∧ i = .int .i64 (k : Int) ∧ Hid (Since w.heap.size w wr ∧ OrdAt w.heap.size wr ta tb (l.take k) ((rotL l t).take k))) (fun i _ => n - (intOf i).toNat)
    case atStart => exact ⟨0, Nat.zero_le _, rfl, HS3⟩
    case round =>
      obtain ⟨k, hk, rfl, HS⟩ := hrel
      obtain ⟨M, N, Sa, Sb, hd, hha, hhb⟩ := HS.out.2
      by_cases hlt : k < n
      · obtain ⟨kk, hkk⟩ : ∃ kk, (k + t) % n = kk := ⟨_, rfl⟩
        have hkn : kk < n := by rw [← hkk]; exact Nat.mod_lt _ (by omega)
        have q1 : ((k : Int) + (t : Int)).tmod (n : Int) = (kk : Int) := by
          rw [Int.tmod_eq_emod_of_nonneg (by omega), ← hkk, Int.natCast_emod, Int.natCast_add]
        have q2 : ((n : Int) == 0) = false := beq_no _ _ (by omega)
        have q3 : ¬ (n : Int) = 0 := by omega
        obtain ⟨x, hx⟩ : ∃ x, l[k]? = some x := ⟨_, List.getElem?_eq_getElem (by rw [HN.out]; exact hlt)⟩
        obtain ⟨y, hy⟩ : ∃ y, l[kk]? = some y := ⟨_, List.getElem?_eq_getElem (by rw [HN.out]; exact hkn)⟩
        obtain ⟨b, o, rfl, hcx⟩ := HB.out k x hx
        obtain ⟨b', o', eb, hcy⟩ := HB.out kk y hy
        obtain ⟨rfl, rfl⟩ : b = b' ∧ o = o' := by
          have := Option.some.inj eb
          injection this with e1 e2
          exact ⟨e1, e2⟩
        have hbw := World.block_lt_of_cell? _ _ hcx
        have hx2 : x < 256 := HL.out x (List.mem_of_getElem? hx)
        have hy2 : y < 256 := HL.out y (List.mem_of_getElem? hy)
        have HSS : Hid (∀ V, Since w.heap.size w V → V.cell? ⟨b, o + k, none⟩ = some (.int .u8 (x : Int)) ∧ V.cell? ⟨b, o + kk, none⟩ = some (.int .u8 (y : Int))) := Lib.hid fun V hV => ⟨hV.cell hcx hbw, hV.cell hcy hbw⟩
        have hxr : (rotL l t)[k]? = some y := by
          rw [rot_at (by rw [HN.out]; exact hlt), HN.out, hkk, List.getD_eq_getElem?_getD, hy]; rfl
        have HTX : Hid (l.take (k + 1) = l.take k ++ [x]) := Lib.hid (take_snocL _ _ _ hx)
        have HTY : Hid ((rotL l t).take (k + 1) = (rotL l t).take k ++ [y]) := Lib.hid (take_snocL _ _ _ hxr)
        have hsx : (nmS x).size ≤ 6 := (nm_facts ⟨x, hx2⟩).2.2.2.1
        have hsy : (nmS y).size ≤ 6 := (nm_facts ⟨y, hy2⟩).2.2.2.1
        obtain ⟨M', hpa, hha'⟩ := hha.put (fun z hz => HL.out z (List.mem_of_mem_take hz)) (by rw [List.length_take]; omega) hx2 (by rw [data_len]; omega)
        obtain ⟨N', hpb, hhb'⟩ := hhb.put (fun z hz => HL.out z ((rot_mem l t z).2 (List.mem_of_mem_take hz))) (by rw [List.length_take, rot_len]; omega) hy2 (by rw [data_len]; omega)
        have HPA : Hid (putS M (nmS x) (fun _ => (nmS x).data.toList) = (0, M')) := Lib.hid hpa
        have HPB : Hid (putS N (nmS y) (fun _ => (nmS y).data.toList) = (0, N')) := Lib.hid hpb
        have HIA := Lib.hid hha.inv
        have HIB := Lib.hid hhb.inv
        have HA2 := Lib.hid hha'
        have HB2 := Lib.hid hhb'
        have GD : Hid (wr.grownBy wr.drew none) := Lib.hid ⟨rfl, rfl, rfl, Nat.le_refl _, fun _ _ _ => rfl⟩
        have HD := Lib.hid (hd.stays GD.out)
        have HK := Lib.hid (HS.out.1.go (Since.of GD.out))
        have HNX : Hid (∀ V, Calls Tryz.prog 41 #[.int .u8 (x : Int)] V fun e w' => e = .returned (.string (nmS x)) ∧ V.grownBy w' none) := Lib.hid (name_any x hx2)
        have HNY : Hid (∀ V, Calls Tryz.prog 41 #[.int .u8 (y : Int)] V fun e w' => e = .returned (.string (nmS y)) ∧ V.grownBy w' none) := Lib.hid (name_any y hy2)
        obtain ⟨X, hX⟩ : ∃ X, nmS x = X := ⟨_, rfl⟩
        obtain ⟨Y, hY⟩ : ∃ Y, nmS y = Y := ⟨_, rfl⟩
        rw [hX] at HPA HNX hsx
        rw [hY] at HPB HNY hsy
        clear hd hha hhb hha' hhb' hpa hpb hx hy hcx hcy eb hxr hX hY
        go_wp2_with fail
        have cvX := run_conv X
        have cvY := run_conv Y
        refine wp_region_noPanic ?_
        refine wp_region_held_drew (S := fun V => V.cell? ⟨b, o + k, none⟩ = some (.int .u8 (x : Int)) ∧ V.cell? ⟨b, o + kk, none⟩ = some (.int .u8 (y : Int))) (by kernel_rfl) (HSS.out _ HK.out) (fun g0 => ?_)
        refine wpAnyH_take (i := 0) (v := .pointer (some ⟨ta, 0, none⟩)) rfl (by kernel_rfl) (by kernel_rfl) (by kernel_rfl) (fun _ _ _ h => h) (Or.inl ⟨by rfl, fun V' hV' => ?_⟩) g0 ?_
        · obtain ⟨hc1, hc2⟩ := hV'
          first | rfl | go_simp
        try simp only [Act.put, List.getElem_toArray, List.getElem_cons_zero, List.setIfInBounds_toArray, List.set_cons_zero, List.set_cons_succ]
        refine wpAnyH_take (i := 1) (v := .slice (some ⟨b, o, none⟩) n cap) rfl (by kernel_rfl) (by kernel_rfl) (by kernel_rfl) (fun _ _ _ h => h) (Or.inl ⟨by rfl, fun V' hV' => ?_⟩) g0 ?_
        · obtain ⟨hc1, hc2⟩ := hV'
          first | rfl | go_simp
        try simp only [Act.put, List.getElem_toArray, List.getElem_cons_zero, List.getElem_cons_succ, List.setIfInBounds_toArray, List.set_cons_zero, List.set_cons_succ]
        refine wpAnyH_take (i := 2) (v := .int .i64 (k : Int)) rfl (by kernel_rfl) (by kernel_rfl) (by kernel_rfl) (fun _ _ _ h => h) (Or.inl ⟨by rfl, fun V' hV' => ?_⟩) g0 ?_
        · obtain ⟨hc1, hc2⟩ := hV'
          first | rfl | go_simp
        try simp only [Act.put, List.getElem_toArray, List.getElem_cons_zero, List.getElem_cons_succ, List.setIfInBounds_toArray, List.set_cons_zero, List.set_cons_succ]
        refine wpAnyH_take (i := 3) (v := .pointer (some ⟨b, o + k, none⟩)) rfl (by kernel_rfl) (by kernel_rfl) (by kernel_rfl) (fun _ _ _ h => h) (Or.inl ⟨by rfl, fun V' hV' => ?_⟩) g0 ?_
        · obtain ⟨hc1, hc2⟩ := hV'
          first | rfl | go_simp
        try simp only [Act.put, List.getElem_toArray, List.getElem_cons_zero, List.getElem_cons_succ, List.setIfInBounds_toArray, List.set_cons_zero, List.set_cons_succ]
        refine wpAnyH_take (i := 4) (v := .int .u8 (x : Int)) rfl (by kernel_rfl) (by kernel_rfl) (by kernel_rfl) (fun _ _ _ h => h) (Or.inl ⟨by rfl, fun V' hV' => ?_⟩) g0 ?_
        · obtain ⟨hc1, hc2⟩ := hV'
          first | rfl | go_simp
        try simp only [Act.put, List.getElem_toArray, List.getElem_cons_zero, List.getElem_cons_succ, List.setIfInBounds_toArray, List.set_cons_zero, List.set_cons_succ]
        refine wpAnyH_take (i := 6) (v := .slice (some ⟨b, o, none⟩) n cap) rfl (by kernel_rfl) (by kernel_rfl) (by kernel_rfl) (fun _ _ _ h => h) (Or.inl ⟨by rfl, fun V' hV' => ?_⟩) g0 ?_
        · obtain ⟨hc1, hc2⟩ := hV'
          first | rfl | go_simp
        try simp only [Act.put, List.getElem_toArray, List.getElem_cons_zero, List.getElem_cons_succ, List.setIfInBounds_toArray, List.set_cons_zero, List.set_cons_succ]
        refine wpAnyH_take (i := 7) (v := .int .i64 (k : Int)) rfl (by kernel_rfl) (by kernel_rfl) (by kernel_rfl) (fun _ _ _ h => h) (Or.inl ⟨by rfl, fun V' hV' => ?_⟩) g0 ?_
        · obtain ⟨hc1, hc2⟩ := hV'
          first | rfl | go_simp
        try simp only [Act.put, List.getElem_toArray, List.getElem_cons_zero, List.getElem_cons_succ, List.setIfInBounds_toArray, List.set_cons_zero, List.set_cons_succ]
        refine wpAnyH_take (i := 8) (v := .pointer (some ⟨b, o + k, none⟩)) rfl (by kernel_rfl) (by kernel_rfl) (by kernel_rfl) (fun _ _ _ h => h) (Or.inl ⟨by rfl, fun V' hV' => ?_⟩) g0 ?_
        · obtain ⟨hc1, hc2⟩ := hV'
          first | rfl | go_simp
        try simp only [Act.put, List.getElem_toArray, List.getElem_cons_zero, List.getElem_cons_succ, List.setIfInBounds_toArray, List.set_cons_zero, List.set_cons_succ]
        refine wpAnyH_take (i := 9) (v := .int .u8 (x : Int)) rfl (by kernel_rfl) (by kernel_rfl) (by kernel_rfl) (fun _ _ _ h => h) (Or.inl ⟨by rfl, fun V' hV' => ?_⟩) g0 ?_
        · obtain ⟨hc1, hc2⟩ := hV'
          first | rfl | go_simp
        try simp only [Act.put, List.getElem_toArray, List.getElem_cons_zero, List.getElem_cons_succ, List.setIfInBounds_toArray, List.set_cons_zero, List.set_cons_succ]
        refine wpAnyH_ready (rs := [5]) (by kernel_rfl) (by simp) ?_
        refine AllReadyH.cons rfl (fun K hK => ?_) AllReadyH.nil
        rw [if_pos (by rfl)]
        go_simp
        refine (HNX.out _).mono ?_
        rintro e V1 ⟨rfl, hg⟩
        have HD := Lib.hid (HD.out.stays hg)
        have HK := Lib.hid (HK.out.go (Since.of hg))
        clear hg
        dsimp only
        refine hK.out _ _ (HSS.out _ (HK.out)) (fun g1 => ?_)
        clear hK K
        try simp only [Act.put, List.getElem_toArray, List.getElem_cons_zero, List.getElem_cons_succ, List.setIfInBounds_toArray, List.set_cons_zero, List.set_cons_succ]
        refine wpAnyH_ready (rs := [10]) (by kernel_rfl) (by simp) ?_
        refine AllReadyH.cons rfl (fun K hK => ?_) AllReadyH.nil
        rw [if_pos (by rfl)]
        go_simp
        refine (HNX.out _).mono ?_
        rintro e V2 ⟨rfl, hg⟩
        have HD := Lib.hid (HD.out.stays hg)
        have HK := Lib.hid (HK.out.go (Since.of hg))
        clear hg
        dsimp only
        refine hK.out _ _ (HSS.out _ (HK.out)) (fun g2 => ?_)
        clear hK K
        try simp only [Act.put, List.getElem_toArray, List.getElem_cons_zero, List.getElem_cons_succ, List.setIfInBounds_toArray, List.set_cons_zero, List.set_cons_succ]
        refine wpAnyH_ready (rs := [11]) (by kernel_rfl) (by simp) ?_
        refine AllReadyH.cons rfl (fun K hK => ?_) AllReadyH.nil
        rw [if_pos (by rfl)]
        go_simp
        refine hK.out _ _ (HSS.out _ (HK.out.go (Since.of (cv_grown _ X)))) (fun g3 => ?_)
        clear hK K
        try simp only [Act.put, List.getElem_toArray, List.getElem_cons_zero, List.getElem_cons_succ, List.setIfInBounds_toArray, List.set_cons_zero, List.set_cons_succ]
        refine wpAnyH_ready (rs := [12]) (by kernel_rfl) (by simp) ?_
        refine AllReadyH.cons rfl (fun K hK => ?_) AllReadyH.nil
        rw [if_pos (by rfl)]
        go_simp
        (with_reducible refine (write_any ta _ _ X m _ _ _ X.data.toList _ (HD.out.stays (cv_grown _ X)).a.tree HIA.out (HM.out _ (HK.out.go (Since.of (cv_grown _ X)))) ((cv_lie _ X).lie (cv_cap _ X) HD.out.fresh.1) (data_len X) (by omega)).mono ?_)
        rw [HPA.out]
        intro e V4 hp
        have HDL := Lib.hid ((HD.out.stays (cv_grown _ X)).left (HK.out.go (Since.of (cv_grown _ X))).size hp)
        obtain rfl := hp.1
        have HKV := Lib.hid ((HK.out.go (Since.of (cv_grown _ X))).go HDL.out.2)
        have HD := Lib.hid HDL.out.1
        have HK := Lib.hid HKV.out
        clear hp
        dsimp only
        refine hK.out _ _ (HSS.out _ (HK.out)) (fun g4 => ?_)
        clear hK K
        try simp only [Act.put, List.getElem_toArray, List.getElem_cons_zero, List.getElem_cons_succ, List.setIfInBounds_toArray, List.set_cons_zero, List.set_cons_succ]
        refine wpAnyH_take (i := 13) (v := .bool false) rfl (by kernel_rfl) (by kernel_rfl) (by kernel_rfl) (fun _ _ _ h => h) (Or.inl ⟨by rfl, fun V' hV' => ?_⟩) g4 ?_
        · obtain ⟨hc1, hc2⟩ := hV'
          first | rfl | go_simp
        try simp only [Act.put, List.getElem_toArray, List.getElem_cons_zero, List.getElem_cons_succ, List.setIfInBounds_toArray, List.set_cons_zero, List.set_cons_succ]
        refine wpAnyH_take (i := 14) (v := .bool false) rfl (by kernel_rfl) (by kernel_rfl) (by kernel_rfl) (fun _ _ _ h => h) (Or.inl ⟨by rfl, fun V' hV' => ?_⟩) g4 ?_
        · obtain ⟨hc1, hc2⟩ := hV'
          first | rfl | go_simp
        try simp only [Act.put, List.getElem_toArray, List.getElem_cons_zero, List.getElem_cons_succ, List.setIfInBounds_toArray, List.set_cons_zero, List.set_cons_succ]
        refine wpAnyH_take (i := 15) (v := .pointer (some ⟨tb, 0, none⟩)) rfl (by kernel_rfl) (by kernel_rfl) (by kernel_rfl) (fun _ _ _ h => h) (Or.inl ⟨by rfl, fun V' hV' => ?_⟩) g4 ?_
        · obtain ⟨hc1, hc2⟩ := hV'
          first | rfl | go_simp
        try simp only [Act.put, List.getElem_toArray, List.getElem_cons_zero, List.getElem_cons_succ, List.setIfInBounds_toArray, List.set_cons_zero, List.set_cons_succ]
        refine wpAnyH_take (i := 16) (v := .slice (some ⟨b, o, none⟩) n cap) rfl (by kernel_rfl) (by kernel_rfl) (by kernel_rfl) (fun _ _ _ h => h) (Or.inl ⟨by rfl, fun V' hV' => ?_⟩) g4 ?_
        · obtain ⟨hc1, hc2⟩ := hV'
          first | rfl | go_simp
        try simp only [Act.put, List.getElem_toArray, List.getElem_cons_zero, List.getElem_cons_succ, List.setIfInBounds_toArray, List.set_cons_zero, List.set_cons_succ]
        refine wpAnyH_take (i := 17) (v := .int .i64 (kk : Int)) rfl (by kernel_rfl) (by kernel_rfl) (by kernel_rfl) (fun _ _ _ h => h) (Or.inl ⟨by rfl, fun V' hV' => ?_⟩) g4 ?_
        · obtain ⟨hc1, hc2⟩ := hV'
          first | rfl | go_simp
        try simp only [Act.put, List.getElem_toArray, List.getElem_cons_zero, List.getElem_cons_succ, List.setIfInBounds_toArray, List.set_cons_zero, List.set_cons_succ]
        refine wpAnyH_take (i := 18) (v := .pointer (some ⟨b, o + kk, none⟩)) rfl (by kernel_rfl) (by kernel_rfl) (by kernel_rfl) (fun _ _ _ h => h) (Or.inl ⟨by rfl, fun V' hV' => ?_⟩) g4 ?_
        · obtain ⟨hc1, hc2⟩ := hV'
          first | rfl | go_simp
        try simp only [Act.put, List.getElem_toArray, List.getElem_cons_zero, List.getElem_cons_succ, List.setIfInBounds_toArray, List.set_cons_zero, List.set_cons_succ]
        refine wpAnyH_take (i := 19) (v := .int .u8 (y : Int)) rfl (by kernel_rfl) (by kernel_rfl) (by kernel_rfl) (fun _ _ _ h => h) (Or.inl ⟨by rfl, fun V' hV' => ?_⟩) g4 ?_
        · obtain ⟨hc1, hc2⟩ := hV'
          first | rfl | go_simp
        try simp only [Act.put, List.getElem_toArray, List.getElem_cons_zero, List.getElem_cons_succ, List.setIfInBounds_toArray, List.set_cons_zero, List.set_cons_succ]
        refine wpAnyH_take (i := 21) (v := .slice (some ⟨b, o, none⟩) n cap) rfl (by kernel_rfl) (by kernel_rfl) (by kernel_rfl) (fun _ _ _ h => h) (Or.inl ⟨by rfl, fun V' hV' => ?_⟩) g4 ?_
        · obtain ⟨hc1, hc2⟩ := hV'
          first | rfl | go_simp
        try simp only [Act.put, List.getElem_toArray, List.getElem_cons_zero, List.getElem_cons_succ, List.setIfInBounds_toArray, List.set_cons_zero, List.set_cons_succ]
        refine wpAnyH_take (i := 22) (v := .int .i64 (kk : Int)) rfl (by kernel_rfl) (by kernel_rfl) (by kernel_rfl) (fun _ _ _ h => h) (Or.inl ⟨by rfl, fun V' hV' => ?_⟩) g4 ?_
        · obtain ⟨hc1, hc2⟩ := hV'
          first | rfl | go_simp
        try simp only [Act.put, List.getElem_toArray, List.getElem_cons_zero, List.getElem_cons_succ, List.setIfInBounds_toArray, List.set_cons_zero, List.set_cons_succ]
        refine wpAnyH_take (i := 23) (v := .pointer (some ⟨b, o + kk, none⟩)) rfl (by kernel_rfl) (by kernel_rfl) (by kernel_rfl) (fun _ _ _ h => h) (Or.inl ⟨by rfl, fun V' hV' => ?_⟩) g4 ?_
        · obtain ⟨hc1, hc2⟩ := hV'
          first | rfl | go_simp
        try simp only [Act.put, List.getElem_toArray, List.getElem_cons_zero, List.getElem_cons_succ, List.setIfInBounds_toArray, List.set_cons_zero, List.set_cons_succ]
        refine wpAnyH_take (i := 24) (v := .int .u8 (y : Int)) rfl (by kernel_rfl) (by kernel_rfl) (by kernel_rfl) (fun _ _ _ h => h) (Or.inl ⟨by rfl, fun V' hV' => ?_⟩) g4 ?_
        · obtain ⟨hc1, hc2⟩ := hV'
          first | rfl | go_simp
        try simp only [Act.put, List.getElem_toArray, List.getElem_cons_zero, List.getElem_cons_succ, List.setIfInBounds_toArray, List.set_cons_zero, List.set_cons_succ]
        refine wpAnyH_ready (rs := [20]) (by kernel_rfl) (by simp) ?_
        refine AllReadyH.cons rfl (fun K hK => ?_) AllReadyH.nil
        rw [if_pos (by rfl)]
        go_simp
        refine (HNY.out _).mono ?_
        rintro e V5 ⟨rfl, hg⟩
        have HD := Lib.hid (HD.out.stays hg)
        have HK := Lib.hid (HK.out.go (Since.of hg))
        clear hg
        dsimp only
        refine hK.out _ _ (HSS.out _ (HK.out)) (fun g5 => ?_)
        clear hK K
        try simp only [Act.put, List.getElem_toArray, List.getElem_cons_zero, List.getElem_cons_succ, List.setIfInBounds_toArray, List.set_cons_zero, List.set_cons_succ]
        refine wpAnyH_ready (rs := [25]) (by kernel_rfl) (by simp) ?_
        refine AllReadyH.cons rfl (fun K hK => ?_) AllReadyH.nil
        rw [if_pos (by rfl)]
        go_simp
        refine (HNY.out _).mono ?_
        rintro e V6 ⟨rfl, hg⟩
        have HD := Lib.hid (HD.out.stays hg)
        have HK := Lib.hid (HK.out.go (Since.of hg))
        clear hg
        dsimp only
        refine hK.out _ _ (HSS.out _ (HK.out)) (fun g6 => ?_)
        clear hK K
        try simp only [Act.put, List.getElem_toArray, List.getElem_cons_zero, List.getElem_cons_succ, List.setIfInBounds_toArray, List.set_cons_zero, List.set_cons_succ]
        refine wpAnyH_ready (rs := [26]) (by kernel_rfl) (by simp) ?_
        refine AllReadyH.cons rfl (fun K hK => ?_) AllReadyH.nil
        rw [if_pos (by rfl)]
        go_simp
        refine hK.out _ _ (HSS.out _ (HK.out.go (Since.of (cv_grown _ Y)))) (fun g7 => ?_)
        clear hK K
        try simp only [Act.put, List.getElem_toArray, List.getElem_cons_zero, List.getElem_cons_succ, List.setIfInBounds_toArray, List.set_cons_zero, List.set_cons_succ]
        refine wpAnyH_ready (rs := [27]) (by kernel_rfl) (by simp) ?_
        refine AllReadyH.cons rfl (fun K hK => ?_) AllReadyH.nil
        rw [if_pos (by rfl)]
        go_simp
        (with_reducible refine (write_any tb _ _ Y m _ _ _ Y.data.toList _ (HD.out.stays (cv_grown _ Y)).b.tree HIB.out (HM.out _ (HK.out.go (Since.of (cv_grown _ Y)))) ((cv_lie _ Y).lie (cv_cap _ Y) HD.out.fresh.2) (data_len Y) (by omega)).mono ?_)
        rw [HPB.out]
        intro e V8 hp
        have HDL := Lib.hid ((HD.out.stays (cv_grown _ Y)).right (HK.out.go (Since.of (cv_grown _ Y))).size hp)
        obtain rfl := hp.1
        have HKV := Lib.hid ((HK.out.go (Since.of (cv_grown _ Y))).go HDL.out.2)
        have HD := Lib.hid HDL.out.1
        have HK := Lib.hid HKV.out
        clear hp
        dsimp only
        refine hK.out _ _ (HSS.out _ (HK.out)) (fun g8 => ?_)
        clear hK K
        try simp only [Act.put, List.getElem_toArray, List.getElem_cons_zero, List.getElem_cons_succ, List.setIfInBounds_toArray, List.set_cons_zero, List.set_cons_succ]
        refine wpAnyH_take (i := 28) (v := .bool false) rfl (by kernel_rfl) (by kernel_rfl) (by kernel_rfl) (fun _ _ _ h => h) (Or.inl ⟨by rfl, fun V' hV' => ?_⟩) g8 ?_
        · obtain ⟨hc1, hc2⟩ := hV'
          first | rfl | go_simp
        try simp only [Act.put, List.getElem_toArray, List.getElem_cons_zero, List.getElem_cons_succ, List.setIfInBounds_toArray, List.set_cons_zero, List.set_cons_succ]
        refine wpAnyH_take (i := 29) (v := .bool false) rfl (by kernel_rfl) (by kernel_rfl) (by kernel_rfl) (fun _ _ _ h => h) (Or.inl ⟨by rfl, fun V' hV' => ?_⟩) g8 ?_
        · obtain ⟨hc1, hc2⟩ := hV'
          first | rfl | go_simp
        try simp only [Act.put, List.getElem_toArray, List.getElem_cons_zero, List.getElem_cons_succ, List.setIfInBounds_toArray, List.set_cons_zero, List.set_cons_succ]
        refine wpAnyH_done (by kernel_rfl) ?_ _
        refine NoPanic.normal ?_
        go_wp2_with fail
        refine ⟨⟨k + 1, by omega, congrArg (Value.int IntKind.i64) (by omega), Lib.hid ⟨HK.out, _, _, _, _, HD.out, by rw [HTX.out]; exact HA2.out, by rw [HTY.out]; exact HB2.out⟩⟩, ?_⟩
        simp only [intOf]
        omega
      · have e : k = n := by omega
        subst e
        have e1 : l.take k = l := List.take_of_length_le (by rw [HN.out]; exact Nat.le_refl _)
        have e2 : (rotL l t).take k = rotL l t := List.take_of_length_le (by rw [rot_len, HN.out]; exact Nat.le_refl _)
        rw [e1] at hha
        rw [e2] at hhb
        have e3 : M = N := hha.same hhb (rot_mem l t)
        subst e3
        have HD := Lib.hid hd
        have HI := Lib.hid hha.inv
        clear hd hha hhb e1 e2
        go_wp2_with fail
        (with_reducible refine (filesAt_any ta _ _ _ HD.out.a.tree HI.out).mono ?_)
        intro e w5 hf
        have hsz : 0 < w5.heap.size := by
          obtain ⟨_, _, _, _, _, _, _, hg⟩ := hf
          have h1 := HS.out.1.size; have h2 := hg.size; have h3 := H0.out; omega
        obtain ⟨v5, Y5, rfl, hr5, hy5, hg5, hl5⟩ := hf.rf hsz
        have HR5 := Lib.hid hr5
        have HY5 := Lib.hid hy5
        have HG5 := Lib.hid hg5
        have HSZ := Lib.hid hsz
        have HLY := Lib.hid hl5
        clear hf hsz hr5 hy5 hg5 hl5
        dsimp only
        go_wp2_with fail
        (with_reducible refine (filesAt_any tb _ _ _ (HD.out.stays HG5.out).b.tree HI.out).mono ?_)
        intro e w6 hf
        have hsz : 0 < w6.heap.size := by
          obtain ⟨_, _, _, _, _, _, _, hg⟩ := hf
          have h2 := hg.size; have h3 := HSZ.out; omega
        obtain ⟨v6, Y6, rfl, hr6, hy6, hg6, hl6⟩ := hf.rf hsz
        have HSF := Lib.hid (sameFiles_any v5 v6 Y5 Y6 w6 (HR5.out.stays hg6) hr6 (HY5.out.trans hy6.symm) (by have := HI.out.len; rw [HLY.out]; omega))
        have HG6 := Lib.hid (World.grownBy.trans HG5.out hg6)
        clear hf hsz hr6 hy6 hg6 hl6
        dsimp only
        go_wp2_with fail
        (with_reducible refine HSF.out.mono ?_)
        rintro e w7 ⟨rfl, hg⟩
        have HG7 := Lib.hid (World.grownBy.trans HG6.out hg)
        clear hg
        dsimp only
        have HD7 := Lib.hid (HD.out.stays HG7.out)
        go_wp2_with fail
        (with_reducible refine (size_any ta _ _ _ HD7.out.a.tree).mono ?_)
        rintro e w8 ⟨rfl, rfl⟩
        dsimp only
        go_wp2_with fail
        (with_reducible refine (size_any tb _ _ _ HD7.out.b.tree).mono ?_)
        rintro e w9 ⟨rfl, rfl⟩
        dsimp only
        go_wp2
        go_ret
        exact ⟨rfl, World.grownBy.trans HS.out.1.grown HG7.out⟩
end Go.Proofs.YtichejodbohldaaGreatDoor
