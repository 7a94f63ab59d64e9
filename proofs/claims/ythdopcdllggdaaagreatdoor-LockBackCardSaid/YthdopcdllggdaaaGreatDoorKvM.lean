/- The law LockBack returns true. -/
import Derived.Test.YthdopcdllggdaaaGreatDoorKtM
import Derived.Test.YthdopcdllggdaaaGreatDoorKmM
import Derived.Lib.ConvBytes
import Derived.Laws.BitsAllLaws
namespace Go.Proofs.YthdopcdllggdaaaGreatDoor
open Go.RowKit
attribute [local irreducible] wpQuiet

theorem stable_ten (n : Nat) (L : List Pc) (h : n < 20) : StableOk n L := fun w base g cap hO hn => stableF_small w base g n cap L hO hn h
theorem xor8 (a b : UInt8) : bits .xor .u8 (a.toNat : Int) (b.toNat : Int) = ((a ^^^ b).toNat : Int) := by
  rw [u8_xor_nat _ _ a.toNat_lt b.toNat_lt, UInt8.toNat_xor]
theorem byte_nat (x : Nat) (h : x ≤ 255) : ((UInt8.ofNat x).toNat : Int) = (x : Int) := by
  rw [UInt8.toNat_ofNat', Nat.mod_eq_of_lt (by omega)]
/-- A text's bytes, in a block of their own. -/
theorem bytes_world (w : World) (s : ByteArray) : w.grownBy (Lib.bytesWorld w 5 s) none ∧ (∀ j, j < s.size → (Lib.bytesWorld w 5 s).cell? ⟨w.heap.size, j, none⟩ = some (.int .u8 ((s.data.toList.getD j 0).toNat : Int))) ∧
    (∀ j, j < s.size → (Lib.bytesWorld w 5 s).frozen? ⟨w.heap.size, j, none⟩ = false) := by
  refine ⟨⟨rfl, rfl, rfl, by rw [Lib.bytesWorld_size]; omega, fun k hk _ => Lib.bytesWorld_at_old w 5 s k hk⟩, fun j hj => Lib.bytesWorld_cell w 5 s j hj, fun j hj => ?_⟩
  have h := Lib.bytesWorld_at_new w 5 s
  have hl : s.size ≤ (Lib.bytesCells w 5 s).size := by simp [Lib.bytesCells]
  unfold World.frozen?
  simp [h]
  omega
/-- Where an argument's bytes lie. -/
def BytesAt (W : World) (a : Option Addr) (l : List Nat) : Prop := ∀ (j x : Nat), l[j]? = some x → ∃ b o, a = some ⟨b, o, none⟩ ∧ W.cell? ⟨b, o + j, none⟩ = some (.int .u8 (x : Int))
theorem BytesAt.stays {w w' : World} {a : Option Addr} {l : List Nat} (h : BytesAt w a l) (hg : w.grownBy w' none) : BytesAt w' a l := fun j x hj => by
  obtain ⟨b, o, e, h1⟩ := h j x hj
  exact ⟨b, o, e, hg.cell h1 (by simp)⟩
/-- Where an argument's sums lie. -/
def KeysAt (W : World) (a : Option Addr) (l : List (Array UInt8)) : Prop := ∀ (j : Nat) (K : Array UInt8), l[j]? = some K → K.size = 32 ∧ ∃ b o, a = some ⟨b, o, none⟩ ∧ W.rangeAt b (o + j * 32) (keyC K)
theorem KeysAt.stays {w w' : World} {a : Option Addr} {l : List (Array UInt8)} (h : KeysAt w a l) (hg : w.grownBy w' none) : KeysAt w' a l := fun j K hj => by
  obtain ⟨hs, b, o, e, h1⟩ := h j K hj
  exact ⟨hs, b, o, e, range_stays h1 hg (by simp)⟩
/-- How the list of pins stands: their marks lie apart from the list's own block. -/
structure BSt (w0 wr : World) (v : Value) (m : Nat) (L : List Pc) : Prop where
  g : w0.grownBy wr none
  own : OwnsP wr w0.heap.size v L
  all : AllAt wr wr.heap.size L
  apart : ∀ p ∈ L, 0 < p.v.pre.length → ∀ q, p.sl.ownBlock = some q → v.ownBlock ≠ some q
  len : L.length = m
theorem BSt.stay {w0 wr w2 : World} {v : Value} {m : Nat} {L : List Pc} (h : BSt w0 wr v m L) (h2 : wr.grownBy w2 none) : BSt w0 w2 v m L :=
  ⟨World.grownBy.trans h.g h2, h.own.stays h2, fun p hp => ((h.all p hp).stays h2).mono h2.size, h.apart, h.len⟩
theorem BSt.next {w0 wr w2 w4 w5 : World} {m : Nat} {v v' : Value} {L : List Pc} {p : Pc} (h : BSt w0 wr v m L)
    (h2 : wr.grownBy w2 none) (h4 : w2.grownBy w4 none) (hat : PcAt w2 w2.heap.size p) (hnw : ∀ q, p.sl.ownBlock = some q → wr.heap.size ≤ q)
    (h5 : w4.grownBy w5 v.ownBlock) (hown : OwnsP w5 w0.heap.size v' (L ++ [p])) (hw : v'.ownBlock = v.ownBlock ∨ v'.ownBlock = some w4.heap.size) : BSt w0 w5 v' (m + 1) (L ++ [p]) := by
  have hlt := OwnsP.block_lt h.own
  have hb1 : ∀ q, v.ownBlock = some q → w0.heap.size ≤ q := fun q hq => (hlt q hq).1
  have hb2 : ∀ q, v.ownBlock = some q → q < wr.heap.size := fun q hq => (hlt q hq).2
  have s2 := h2.size
  have s4 := h4.size
  have s5 := h5.size
  refine ⟨grown_own (World.grownBy.trans (World.grownBy.trans h.g h2) h4) h5 hb1, hown, fun y hy => ?_, fun y hy h0 q hq => ?_, by rw [List.length_append, h.len]; rfl⟩
  · rcases List.mem_append.1 hy with hy | hy
    · have e := h.all y hy
      have e4 := (e.stays (World.grownBy.trans h2 h4)).mono (show wr.heap.size ≤ w5.heap.size by omega)
      exact ⟨{ e4.ver with part := part_across e4.ver.part h5 (fun h0 q hq => h.apart y hy h0 q hq) }, e4.name⟩
    · obtain rfl : y = p := by simpa using hy
      have e4 := (hat.stays h4).mono (show w2.heap.size ≤ w5.heap.size by omega)
      refine ⟨{ e4.ver with part := part_across e4.ver.part h5 (fun h0 q hq e => ?_) }, e4.name⟩
      have := hb2 q e
      have := hnw q hq
      omega
  · rcases List.mem_append.1 hy with hy | hy
    · rcases hw with hw | hw
      · rw [hw]; exact h.apart y hy h0 q hq
      · rw [hw]
        intro e
        have := part_block_lt (h.all y hy).ver.part h0 q hq
        have e2 : w4.heap.size = q := Option.some.inj e
        omega
    · obtain rfl : y = p := by simpa using hy
      rcases hw with hw | hw
      · rw [hw]
        intro e
        have := hb2 q e
        have := hnw q hq
        omega
      · rw [hw]
        intro e
        have := part_block_lt hat.ver.part h0 q hq
        have e2 : w4.heap.size = q := Option.some.inj e
        omega
/-- Is there a pin of that name? -/
def hasName (L : List Pc) (x : ByteArray) : Bool := L.any fun p => decide (p.name = x)
theorem has_succ (L : List Pc) (j : Nat) (p : Pc) (x : ByteArray) (h : L[j]? = some p) : hasName (L.take (j + 1)) x = (hasName (L.take j) x || decide (p.name = x)) := by
  have hj := (List.getElem?_eq_some_iff.1 h).1
  have e : L[j] = p := (List.getElem?_eq_some_iff.1 h).2
  unfold hasName
  rw [List.take_succ_eq_append_getElem hj, e, List.any_append]
  simp
theorem has_no (L : List Pc) (x : ByteArray) (h : hasName L x = false) : ∀ p ∈ L, ¬ p.name = x := fun p hp e => by
  have : hasName L x = true := List.any_eq_true.2 ⟨p, hp, by simp [e]⟩
  rw [h] at this
  cases this
theorem nodup_next (L : List Pc) (p : Pc) (hd : (L.map (·.name)).Nodup) (h : hasName L p.name = false) : ((L ++ [p]).map (·.name)).Nodup := by
  rw [List.map_append, List.nodup_append]
  exact ⟨hd, by simp, fun a ha b hb => by
    obtain ⟨q, hq, rfl⟩ := List.mem_map.1 ha
    have e : b = p.name := by simpa using hb
    rw [e]
    exact has_no L p.name h q hq⟩
/-- Place brings any number into the list. -/
theorem place_at (k n : Int) (hk : -9223372036854775808 ≤ k ∧ k ≤ 9223372036854775807) (hn : 0 < n) (hn2 : n ≤ 100000) (w : World) : Calls Tryz.prog 12 #[.int .i64 k, .int .i64 n] w fun e w' => (∃ r : Nat, (r : Int) < n ∧ e = .returned (.int .i64 r)) ∧ w' = w := by
  rcases Int.lt_or_le k 0 with h | h
  · have h1 := Int.tmod_nonneg n (a := -k) (by omega)
    have h2 : k.tmod n = -((-k).tmod n) := by rw [Int.neg_tmod]; omega
    have h3 : (-k).tmod n < n := by rw [Int.tmod_eq_emod_of_nonneg (by omega)]; exact Int.emod_lt_of_pos _ hn
    obtain ⟨z, hz⟩ : ∃ z, k.tmod n = z := ⟨_, rfl⟩
    have hz0 : z ≤ 0 := by omega
    have hz1 : -n < z := by omega
    have e0 : ¬ n = 0 := by omega
    clear h1 h2 h3
    by_cases hz2 : z = 0
    · have HR : Hid (∃ r : Nat, (r : Int) < n ∧ (Ending.returned (.int .i64 z) : Ending) = .returned (.int .i64 r)) := Lib.hid ⟨0, by omega, by rw [hz2]; rfl⟩
      have f1 : ¬ z < 0 := by omega
      clear hz2
      go_enter Tryz.func12, Tryz.ntmps12
      go_wp2
      go_ret
      exact ⟨HR.out, rfl⟩
    · have f1 : z < 0 := by omega
      have HR : Hid (∃ r : Nat, (r : Int) < n ∧ (Ending.returned (.int .i64 (z + n)) : Ending) = .returned (.int .i64 r)) := Lib.hid ⟨(z + n).toNat, by omega, by rw [Int.toNat_of_nonneg (by omega)]⟩
      clear hz2
      go_enter Tryz.func12, Tryz.ntmps12
      go_wp2
      go_ret
      exact ⟨HR.out, rfl⟩
  · have h3 : k.tmod n < n := by rw [Int.tmod_eq_emod_of_nonneg h]; exact Int.emod_lt_of_pos _ hn
    have h4 := Int.tmod_nonneg n h
    obtain ⟨z, hz⟩ : ∃ z, k.tmod n = z := ⟨_, rfl⟩
    rw [hz] at h3 h4
    have e0 : ¬ n = 0 := by omega
    have f1 : ¬ z < 0 := by omega
    have HR : Hid (∃ r : Nat, (r : Int) < n ∧ (Ending.returned (.int .i64 z) : Ending) = .returned (.int .i64 r)) := Lib.hid ⟨z.toNat, by omega, by rw [Int.toNat_of_nonneg h4]⟩
    go_enter Tryz.func12, Tryz.ntmps12
    go_wp2
    go_ret
    exact ⟨HR.out, rfl⟩
theorem name_joined (c : UInt8) (x : Nat) : (⟨#[c]⟩ : ByteArray) ++ decS (x : Int) = nameN c x := by
  unfold nameN
  refine bytes_ext ?_
  rw [data_toB, ByteArray.data_append, Array.toList_append]
  rfl
set_option maxRecDepth 1000000
set_option maxHeartbeats 16000000 in
theorem back_law (m : Int) (n1 n2 n3 c1 c2 c3 : Nat) (a1 a2 a3 : Option Addr) (l1 l2 : List Nat) (l3 : List (Array UInt8)) (at_ : Int) (x : Nat) (w : World) (hw : Wok m w) (hn1 : l1.length = n1) (hn2 : l2.length = n2) (hn3 : l3.length = n3) (hl1 : ∀ x ∈ l1, x ≤ 255) (hl2 : ∀ x ∈ l2, x ≤ 255)
    (hat : -9223372036854775808 ≤ at_ ∧ at_ ≤ 9223372036854775807) (hx : x ≤ 255) (hb1 : BytesAt w a1 l1) (hb2 : BytesAt w a2 l2) (hb3 : KeysAt w a3 l3) :
    Calls Tryz.prog 3 #[.slice a1 n1 c1, .slice a2 n2 c2, .slice a3 n3 c3, .int .i64 at_, .int .u8 x] w fun e w' => e = .returned (.bool true) ∧ w.grownBy w' none := by
  have HW := Lib.hid hw
  have HN1 := Lib.hid hn1
  have HN2 := Lib.hid hn2
  have HN3 := Lib.hid hn3
  have HL1 := Lib.hid hl1
  have HL2 := Lib.hid hl2
  have HB1 := Lib.hid hb1
  have HB2 := Lib.hid hb2
  have HB3 := Lib.hid hb3
  clear hw hn1 hn2 hn3 hl1 hl2 hb1 hb2 hb3
  by_cases hok : n1 ≤ 10 ∧ n1 ≤ n2 ∧ n1 ≤ n3
  · obtain ⟨k1, k2, k3⟩ := hok
    have f1 : ¬ 10 < n1 := by omega
    have f1d : decide (10 < (n1 : Int)) = false := decide_eq_false (by omega)
    have f2 : ¬ n2 < n1 := by omega
    have f2d : decide ((n2 : Int) < (n1 : Int)) = false := decide_eq_false (by omega)
    have f3 : ¬ n3 < n1 := by omega
    have f3d : decide ((n3 : Int) < (n1 : Int)) = false := decide_eq_false (by omega)
    have hz := zeroPin
    have hzs := zeroP_size
    obtain ⟨Z, hZ⟩ : ∃ Z, zeroP = Z := ⟨_, rfl⟩
    rw [hZ] at hz hzs
    have HZS := Lib.hid hzs
    clear hZ hzs
    go_enter Tryz.func3, Tryz.ntmps3
    go_wp2_with fail
    (with_reducible refine (known_any m w HW.out).mono ?_)
    rintro ee w0 ⟨rfl, g0⟩
    have G0 := Lib.hid g0
    clear g0
    dsimp only
    go_wp2_with fail
    go_loopw [11, 12] (fun v i wr => ∃ (k m2 cp2 : Nat) (ad2 : Option Addr) (L : List Pc), k ≤ n1 ∧ i = .int .i64 k ∧ v = .slice ad2 m2 cp2 ∧ m2 ≤ k ∧ m2 ≤ cp2 ∧ cp2 ≤ 9223372036854775807 ∧ Hid (BSt w0 wr (.slice ad2 m2 cp2) m2 L ∧ (∀ p ∈ L, BackP p) ∧ (L.map (·.name)).Nodup)) (fun _ i _ => n1 - (intOf i).toNat)
    case atStart => exact ⟨0, 0, 0, none, [], Nat.zero_le _, rfl, rfl, by omega, Nat.le_refl _, by omega, Lib.hid ⟨⟨World.grownBy.refl _ _, OwnsP.nil _ _, AllAt.empty _ _, (fun p hp => by cases hp), rfl⟩, (fun p hp => by cases hp), List.nodup_nil⟩⟩
    case round =>
      obtain ⟨k, m2, cp2, ad2, L, hk, rfl, rfl, hm2, hmc, hcm, HS⟩ := hrel
      by_cases hlt : k < n1
      · obtain ⟨y, hy⟩ : ∃ y, l1[k]? = some y := ⟨_, List.getElem?_eq_getElem (by rw [HN1.out]; exact hlt)⟩
        obtain ⟨z, hz2⟩ : ∃ z, l2[k]? = some z := ⟨_, List.getElem?_eq_getElem (by rw [HN2.out]; omega)⟩
        obtain ⟨K, hK0⟩ : ∃ K, l3[k]? = some K := ⟨_, List.getElem?_eq_getElem (by rw [HN3.out]; omega)⟩
        have HGW := Lib.hid (World.grownBy.trans G0.out HS.out.1.g)
        obtain ⟨b, o, e, hc⟩ := (HB1.out.stays HGW.out) k y hy
        subst e
        obtain ⟨b2, o2, e, hc2⟩ := (HB2.out.stays HGW.out) k z hz2
        subst e
        obtain ⟨hK, b3, o3, e, hr3⟩ := (HB3.out.stays HGW.out) k K hK0
        subst e
        have hy255 : y ≤ 255 := HL1.out y (List.mem_of_getElem? hy)
        have hz255 : z ≤ 255 := HL2.out z (List.mem_of_getElem? hz2)
        have hkn2 : k < n2 := by omega
        have hkn3 : k < n3 := by omega
        obtain ⟨q, hq⟩ : ∃ q, z % 3 = q := ⟨_, rfl⟩
        have eq1 : (z : Int) % 3 = (q : Int) := by omega
        have hq3 : q < 3 := by omega
        have hcv : (wr.alloc (.cells #[.string ⟨#[49, 46, 48, 46, 48]⟩, .string ⟨#[48, 46, 49, 46, 48, 45, 97, 46, 49]⟩, .string ⟨#[49, 50, 46, 51, 46, 57, 57, 57, 57, 57, 57, 57, 57, 57]⟩] 9)).cell? ⟨wr.heap.size, q, none⟩ = some (.string (vText q)) := by
          rcases (by omega : q = 0 ∨ q = 1 ∨ q = 2) with h | h | h
          · rw [h, alloc_cell]; rfl
          · rw [h, alloc_cell]; rfl
          · rw [h, alloc_cell]; rfl
        have hc2a := (World.grownBy_alloc wr (.cells #[.string ⟨#[49, 46, 48, 46, 48]⟩, .string ⟨#[48, 46, 49, 46, 48, 45, 97, 46, 49]⟩, .string ⟨#[49, 50, 46, 51, 46, 57, 57, 57, 57, 57, 57, 57, 57, 57]⟩] 9) none).cell hc2 (by simp)
        have hvq := verQ_read q
        have hvs := (vText_no q).2.2
        obtain ⟨vt, hvt⟩ : ∃ vt, vText q = vt := ⟨_, rfl⟩
        rw [hvt] at hcv hvq hvs
        have HC := Lib.hid hc
        have HC2 := Lib.hid hc2
        have HR3 := Lib.hid hr3
        have HK := Lib.hid hK
        have HVQ := Lib.hid hvq
        clear hq hvt hvq hr3 hy hz2 hK0 hc
        have HGA : Hid (wr.grownBy (wr.alloc (.cells #[.string ⟨#[49, 46, 48, 46, 48]⟩, .string ⟨#[48, 46, 49, 46, 48, 45, 97, 46, 49]⟩, .string ⟨#[49, 50, 46, 51, 46, 57, 57, 57, 57, 57, 57, 57, 57, 57]⟩] 9)) none) := Lib.hid (World.grownBy_alloc _ _ _)
        obtain ⟨W1, hW1⟩ : ∃ W1, wr.alloc (.cells #[.string ⟨#[49, 46, 48, 46, 48]⟩, .string ⟨#[48, 46, 49, 46, 48, 45, 97, 46, 49]⟩, .string ⟨#[49, 50, 46, 51, 46, 57, 57, 57, 57, 57, 57, 57, 57, 57]⟩] 9) = W1 := ⟨_, rfl⟩
        have HW1 := Lib.hid hW1
        rw [hW1] at HGA
        clear hW1
        go_wp2_with fail
        rw [HW1.out]
        (with_reducible refine (refParse_new m vt W1 (by omega)).mono ?_)
        rintro ee w3 ⟨sl, rfl, hP3, hg3, hnw3⟩
        rw [HVQ.out] at hP3 ⊢
        have HG3 := Lib.hid (World.grownBy.trans HGA.out hg3)
        have HNW3 : Hid (∀ r, sl.ownBlock = some r → wr.heap.size ≤ r) := Lib.hid (fun r hr => Nat.le_trans HGA.out.size (hnw3 r hr))
        obtain ⟨v, hv⟩ : ∃ v, verQ q = v := ⟨_, rfl⟩
        have HV := Lib.hid hv
        rw [hv] at hP3 ⊢
        have HP3 := Lib.hid hP3
        obtain ⟨sa, sc, hsl, _, _⟩ := hP3.form
        obtain ⟨sn, hsn⟩ : ∃ sn, v.pre.length = sn := ⟨_, rfl⟩
        rw [hsn] at hsl
        have HSN := Lib.hid hsn
        subst hsl
        clear hv hP3 hsn hg3 hnw3 hc2 hc2a hcv
        simp only [verV]
        obtain ⟨VA, hVA⟩ : ∃ VA : Array Value, #[.int .i64 v.maj, .int .i64 v.min, .int .i64 v.pat, .slice sa sn sc] = VA := ⟨_, rfl⟩
        have hvs : VA.size = 4 := by rw [← hVA]; rfl
        have hv1 : VA.all (·.oneCell') = true := by rw [← hVA]; simp [Value.oneCell']
        have HVA := Lib.hid hVA
        have HVS := Lib.hid hvs
        rw [hVA]
        obtain ⟨gv, hgv⟩ : ∃ gv, w3.heap.size = gv := ⟨_, rfl⟩
        have hk3 : (w3.alloc (.cells #[.int .i64 0, .int .i64 0, .int .i64 0, .slice none 0 0] 28)).heap[gv]? = some (.cells #[.int .i64 0, .int .i64 0, .int .i64 0, .slice none 0 0] 28 (0, 0)) := by rw [← hgv, heap_alloc_new]
        have hst := Sha.storeCells_row (w3.alloc (.cells #[.int .i64 0, .int .i64 0, .int .i64 0, .slice none 0 0] 28)) gv 28 28 #[.int .i64 0, .int .i64 0, .int .i64 0, .slice none 0 0] VA hk3 (by rw [hvs]; kernel_rfl) (by rw [hvs]; rfl) hv1
        have hg4 : w3.grownBy ((w3.alloc (.cells #[.int .i64 0, .int .i64 0, .int .i64 0, .slice none 0 0] 28)).setRow gv VA) none := Sha.grown_setRow (World.grownBy_alloc _ _ _) (Nat.le_of_eq hgv) _
        have hk4 := setRow_heap _ gv _ VA 28 _ hk3
        obtain ⟨w4, hw4⟩ : ∃ w4, (w3.alloc (.cells #[.int .i64 0, .int .i64 0, .int .i64 0, .slice none 0 0] 28)).setRow gv VA = w4 := ⟨_, rfl⟩
        rw [hw4] at hg4 hk4
        have HG34 := Lib.hid hg4
        have HG4 := Lib.hid (World.grownBy.trans HG3.out hg4)
        have HK4 := Lib.hid hk4
        clear hk3 hg4 hk4 hVA hv1
        try dsimp only
        go_wp2_with fail
        clear hst hw4 hgv hvs
        obtain ⟨p, hp⟩ : ∃ p : Pc, (⟨nameN 112 y, v, sa, sc, K, HK.out⟩ : Pc) = p := ⟨_, rfl⟩
        have HPN : Hid (p.name = nameN 112 y) := Lib.hid (by rw [← hp])
        have HPE : Hid (pinA (⟨#[112]⟩ ++ decS (y : Int)) v (.slice sa sn sc) (K.map Sha.encB) = p.enc.toArray) := Lib.hid (by rw [← hp, ← HSN.out, pinA_cells, name_joined]; rfl)
        have HBP : Hid (BackP p) := Lib.hid (by rw [← hp]; exact ⟨y, q, hy255, rfl, HV.out.symm⟩)
        have HAT : Hid (PcAt w3 w3.heap.size p) := Lib.hid (HBP.out.at (by have h := HP3.out; rw [← hp]; show PartS _ _ (.slice sa v.pre.length sc) v.pre; rw [HSN.out]; exact h))
        have HNW : Hid (∀ q, p.sl.ownBlock = some q → wr.heap.size ≤ q) := Lib.hid (by have h := HNW3.out; rw [← hp]; show ∀ q, (Value.slice sa v.pre.length sc).ownBlock = some q → _; rw [HSN.out]; exact h)
        have HKS : Hid ((K.map Sha.encB).size = 32) := Lib.hid (by rw [Array.size_map, HK.out])
        have HRV : Hid (w4.rangeAt gv 0 VA.toList) := Lib.hid (fun i v hi => by rw [Nat.zero_add, cell_in HK4.out]; simpa using hi)
        have HR4 : Hid (w4.rangeAt b3 (o3 + k * 32) (keyC K)) := Lib.hid (range_stays HR3.out HG4.out (by simp))
        have hc4 := HG4.out.cell HC.out (by simp)
        have HC4 := Lib.hid hc4
        have HDS : Hid ((decS (y : Int)).size ≤ 3) := Lib.hid (dec_short y hy255)
        have HWX : Hid (IntKind.i64.wrap (y : Int) = (y : Int)) := Lib.hid (IntWalk.i64_in _ (by omega))
        clear hp hc4
        clear HC HK4 HNW3 HP3 HR3 HVQ HC2 HW1 HGA HK HV HSN
        refine wp_region_noPanic ?_
        refine wp_region_held_drew (S := fun V => w4.grownBy V none) (by kernel_rfl) (grown_drew 1 (World.grownBy.refl _ _)) (fun g0 => ?_)
        refine wpAnyH_take (i := 0) (v := .slice (some ⟨b, o, none⟩) n1 c1) rfl (by kernel_rfl) (by kernel_rfl) (by kernel_rfl) (fun _ _ _ h => h) (Or.inl ⟨by kernel_rfl, fun V' hV' => ?_⟩) g0 ?_
        · rfl
        try simp only [Act.put, List.getElem_toArray, List.getElem_cons_zero, List.getElem_cons_succ, List.setIfInBounds_toArray, List.set_cons_zero, List.set_cons_succ]
        refine wpAnyH_take (i := 1) (v := .int .i64 k) rfl (by kernel_rfl) (by kernel_rfl) (by kernel_rfl) (fun _ _ _ h => h) (Or.inl ⟨by kernel_rfl, fun V' hV' => ?_⟩) g0 ?_
        · rfl
        try simp only [Act.put, List.getElem_toArray, List.getElem_cons_zero, List.getElem_cons_succ, List.setIfInBounds_toArray, List.set_cons_zero, List.set_cons_succ]
        refine wpAnyH_take (i := 2) (v := .pointer (some ⟨b, o + k, none⟩)) rfl (by kernel_rfl) (by kernel_rfl) (by kernel_rfl) (fun _ _ _ h => h) (Or.inl ⟨by kernel_rfl, fun V' hV' => ?_⟩) g0 ?_
        · go_simp
        try simp only [Act.put, List.getElem_toArray, List.getElem_cons_zero, List.getElem_cons_succ, List.setIfInBounds_toArray, List.set_cons_zero, List.set_cons_succ]
        refine wpAnyH_take (i := 3) (v := .int .u8 y) rfl (by kernel_rfl) (by kernel_rfl) (by kernel_rfl) (fun _ _ _ h => h) (Or.inl ⟨by kernel_rfl, fun V' hV' => ?_⟩) g0 ?_
        · have hc := hV'.cell HC4.out (by simp)
          go_simp
        try simp only [Act.put, List.getElem_toArray, List.getElem_cons_zero, List.getElem_cons_succ, List.setIfInBounds_toArray, List.set_cons_zero, List.set_cons_succ]
        refine wpAnyH_take (i := 4) (v := .int .i64 y) rfl (by kernel_rfl) (by kernel_rfl) (by kernel_rfl) (fun _ _ _ h => h) (Or.inl ⟨by kernel_rfl, fun V' hV' => ?_⟩) g0 ?_
        · have hwx := HWX.out
          go_simp
        try simp only [Act.put, List.getElem_toArray, List.getElem_cons_zero, List.getElem_cons_succ, List.setIfInBounds_toArray, List.set_cons_zero, List.set_cons_succ]
        refine wpAnyH_take (i := 7) (v := .agg VA) rfl (by kernel_rfl) (by kernel_rfl) (by kernel_rfl) (fun _ _ _ h => h) (Or.inl ⟨by kernel_rfl, fun V' hV' => ?_⟩) g0 ?_
        · have h := run_loadAt_mid (P := Tryz.prog) V' gv 0 28 VA.toList _ (range_stays HRV.out hV' (by simp)) Tryz.underlying28 rfl (by rw [Array.length_toList, HVS.out]; kernel_rfl)
          simp [execOp, Act.eval, h, Result.andThen]
        try simp only [Act.put, List.getElem_toArray, List.getElem_cons_zero, List.getElem_cons_succ, List.setIfInBounds_toArray, List.set_cons_zero, List.set_cons_succ]
        refine wpAnyH_take (i := 8) (v := .slice (some ⟨b3, o3, none⟩) n3 c3) rfl (by kernel_rfl) (by kernel_rfl) (by kernel_rfl) (fun _ _ _ h => h) (Or.inl ⟨by kernel_rfl, fun V' hV' => ?_⟩) g0 ?_
        · rfl
        try simp only [Act.put, List.getElem_toArray, List.getElem_cons_zero, List.getElem_cons_succ, List.setIfInBounds_toArray, List.set_cons_zero, List.set_cons_succ]
        refine wpAnyH_take (i := 9) (v := .int .i64 k) rfl (by kernel_rfl) (by kernel_rfl) (by kernel_rfl) (fun _ _ _ h => h) (Or.inl ⟨by kernel_rfl, fun V' hV' => ?_⟩) g0 ?_
        · rfl
        try simp only [Act.put, List.getElem_toArray, List.getElem_cons_zero, List.getElem_cons_succ, List.setIfInBounds_toArray, List.set_cons_zero, List.set_cons_succ]
        refine wpAnyH_take (i := 10) (v := .pointer (some ⟨b3, o3 + k * 32, none⟩)) rfl (by kernel_rfl) (by kernel_rfl) (by kernel_rfl) (fun _ _ _ h => h) (Or.inl ⟨by kernel_rfl, fun V' hV' => ?_⟩) g0 ?_
        · go_simp
        try simp only [Act.put, List.getElem_toArray, List.getElem_cons_zero, List.getElem_cons_succ, List.setIfInBounds_toArray, List.set_cons_zero, List.set_cons_succ]
        refine wpAnyH_take (i := 11) (v := .agg (K.map Sha.encB)) rfl (by kernel_rfl) (by kernel_rfl) (by kernel_rfl) (fun _ _ _ h => h) (Or.inl ⟨by kernel_rfl, fun V' hV' => ?_⟩) g0 ?_
        · have h := run_loadAt_mid (P := Tryz.prog) V' b3 (o3 + k * 32) 32 (keyC K) _ (range_stays HR4.out hV' (by simp)) Tryz.underlying32 rfl (by rw [show (keyC K).length = 32 by unfold keyC; rw [List.length_map, Array.length_toList]; have := HKS.out; rw [Array.size_map] at this; exact this]; kernel_rfl)
          rw [keyC_arr] at h
          simp [execOp, Act.eval, h, Result.andThen]
        try simp only [Act.put, List.getElem_toArray, List.getElem_cons_zero, List.getElem_cons_succ, List.setIfInBounds_toArray, List.set_cons_zero, List.set_cons_succ]
        refine wpAnyH_ready (rs := [5, 13]) (by kernel_rfl) (by simp) ?_
        refine AllReadyH.cons rfl (fun K hK => ?_) (AllReadyH.cons rfl (fun K hK => ?_) AllReadyH.nil)
        · rw [if_pos (by rfl)]
          go_simp
          refine (dec_any (y : Int) (by omega) _).mono ?_
          rintro ee wq ⟨rfl, kk, hwq⟩
          have gq : w4.grownBy wq none := by rw [hwq]; exact grown_drew _ g0
          have hwz : wq.heap = w4.heap := by rw [hwq]; rfl
          clear hwq
          dsimp only
          refine hK.out _ _ gq (fun g1 => ?_)
          clear hK K
          try simp only [Act.put, List.getElem_toArray, List.getElem_cons_zero, List.getElem_cons_succ, List.setIfInBounds_toArray, List.set_cons_zero, List.set_cons_succ]
          refine wpAnyH_take (i := 6) (v := .string (⟨#[112]⟩ ++ decS (y : Int))) rfl (by kernel_rfl) (by kernel_rfl) (by kernel_rfl) (fun _ _ _ h => h) (Or.inl ⟨by kernel_rfl, fun V' hV' => ?_⟩) gq ?_
          · have hsz := HDS.out
            go_simp
            first | done | omega
          try simp only [Act.put, List.getElem_toArray, List.getElem_cons_zero, List.getElem_cons_succ, List.setIfInBounds_toArray, List.set_cons_zero, List.set_cons_succ]
          refine wpAnyH_take (i := 12) (v := .agg p.enc.toArray) rfl (by kernel_rfl) (by kernel_rfl) (by kernel_rfl) (fun _ _ _ h => h) (Or.inl ⟨by kernel_rfl, fun V' hV' => ?_⟩) gq ?_
          · have hb := built_pin (⟨#[112]⟩ ++ decS (y : Int)) v (.slice sa sn sc) (K.map Sha.encB) HKS.out
            rw [HPE.out, HVA.out] at hb
            simp [execOp, Act.eval, run_build _ _ _ _ hb, Result.andThen]
          try simp only [Act.put, List.getElem_toArray, List.getElem_cons_zero, List.getElem_cons_succ, List.setIfInBounds_toArray, List.set_cons_zero, List.set_cons_succ]
          refine wpAnyH_ready (rs := [13]) (by kernel_rfl) (by simp) ?_
          refine AllReadyH.cons rfl (fun K hK => ?_) AllReadyH.nil
          rw [if_pos (by rfl)]
          go_simp
          refine hK.out _ _ (World.grownBy.trans gq (World.grownBy_alloc _ _ _)) (fun g2 => ?_)
          clear hK K
          try simp only [Act.put, List.getElem_toArray, List.getElem_cons_zero, List.getElem_cons_succ, List.setIfInBounds_toArray, List.set_cons_zero, List.set_cons_succ]
          have hsz : wq.heap.size = w4.heap.size := by rw [hwz]
          have hbk : (wq.alloc (.cells Z 35)).heap[w4.heap.size]? = some (.cells Z 35 (0, 0)) := by rw [← hsz]; exact bk_alloc _ _
          try rw [hsz]
          refine wpAnyH_ready (rs := [14]) (by kernel_rfl) (by simp) ?_
          refine AllReadyH.cons rfl (fun K hK => ?_) AllReadyH.nil
          rw [if_pos (by rfl)]
          refine wp_store_row 35 _ _ rfl w4.heap.size p.enc.toArray rfl rfl 35 Z hbk (by rw [List.size_toArray, enc_len]; kernel_rfl) (by rw [HZS.out, List.size_toArray, enc_len]) (by rw [List.all_toArray, List.all_eq_true]; exact enc_one _) ?_
          refine hK.out _ _ (Sha.grown_setRow g2 (Nat.le_refl _) _) (fun g3 => ?_)
          clear hK K
          try simp only [Act.put, List.getElem_toArray, List.getElem_cons_zero, List.getElem_cons_succ, List.setIfInBounds_toArray, List.set_cons_zero, List.set_cons_succ]
          refine wpAnyH_done (by kernel_rfl) ?_ _
          refine NoPanic.normal ?_
          have hk5 := setRow_heap _ w4.heap.size _ p.enc.toArray 35 _ hbk
          obtain ⟨w5, hw5⟩ : ∃ w5, World.setRow (wq.alloc (.cells Z 35)) w4.heap.size p.enc.toArray = w5 := ⟨_, rfl⟩
          rw [hw5] at hk5 g3 ⊢
          clear hw5 hbk
          clear g0 gq hwz g1 g2 hsz
          have HK5 := Lib.hid hk5
          have HG45 := Lib.hid g3
          have HG5 := Lib.hid (World.grownBy.trans HG4.out g3)
          have HOW := Lib.hid (HS.out.1.own.stays HG5.out)
          obtain ⟨gp, hgpe⟩ : ∃ gp, w4.heap.size = gp := ⟨_, rfl⟩
          rw [hgpe] at HK5 ⊢
          have r0 : w5.cell? ⟨gp, 0, none⟩ = some (.string p.name) := by rw [cell_in HK5.out]; rfl
          clear hk5 g3 hgpe
          obtain ⟨xs, hxs⟩ : ∃ xs, p.name = xs := ⟨_, rfl⟩
          have HXS := Lib.hid hxs
          rw [hxs] at r0
          obtain ⟨ds, hds⟩ : ∃ ds, decS (y : Int) = ds := ⟨_, rfl⟩
          rw [hds]
          obtain ⟨PA, hPA⟩ : ∃ PA, p.enc.toArray = PA := ⟨_, rfl⟩
          have HPA := Lib.hid hPA
          rw [hPA] at HK5 ⊢
          obtain ⟨KA, hKA⟩ : ∃ KA, K.map Sha.encB = KA := ⟨_, rfl⟩
          rw [hKA]
          clear hxs hds hPA hKA
          go_wp2_with fail
          go_loopw [16, 17] (fun th kk wi => ∃ j : Nat, j ≤ m2 ∧ kk = .int .i64 j ∧ th = .bool (hasName (L.take j) xs) ∧ Hid (w5.grownBy wi none)) (fun _ kk _ => m2 - (intOf kk).toNat)
          case atStart => exact ⟨0, Nat.zero_le _, rfl, rfl, Lib.hid (World.grownBy.refl _ _)⟩
          case round =>
            obtain ⟨j, hj, rfl, rfl, HGI⟩ := hrel
            have r1 := HGI.out.cell r0 (by simp)
            have HNL := Lib.hid HS.out.1.len
            by_cases hlj : j < m2
            · obtain ⟨pq, hpq⟩ : ∃ pq, L[j]? = some pq := ⟨_, List.getElem?_eq_getElem (by rw [HNL.out]; exact hlj)⟩
              obtain ⟨bq, oq, e, _, hrq⟩ := ((HOW.out.stays HGI.out).part (HW.out.stays (World.grownBy.trans (World.grownBy.trans HGW.out HG5.out) HGI.out)).pos).at j pq hpq
              subst e
              have q0 : wr.cell? ⟨bq, oq + j * 37, none⟩ = some (.string pq.name) := range_name hrq
              have HCS := Lib.hid (has_succ L j pq xs hpq)
              clear hpq hrq
              obtain ⟨ys, hys⟩ : ∃ ys, pq.name = ys := ⟨_, rfl⟩
              rw [hys] at q0 HCS
              clear hys
              cases hB : hasName (L.take j) xs with
              | true =>
                have hb2 : hasName (L.take (j + 1)) xs = true := by rw [HCS.out, hB]; rfl
                have HB2 := Lib.hid hb2
                clear hb2 hB
                go_wp2_with fail
                go_quiet (fail)
                go_wp2_with fail
                go_roundw
                case rel => exact ⟨j + 1, by omega, by go_num, by rw [HB2.out], Lib.hid (grown_drew _ HGI.out)⟩
                case measure => simp [intOf]; omega
              | false =>
                by_cases hxy : ys = xs
                · have HB2 : Hid (hasName (L.take (j + 1)) xs = true) := Lib.hid (by rw [HCS.out, hB, hxy]; simp)
                  rw [hxy] at q0
                  clear hB hxy
                  go_wp2_with fail
                  go_quiet (fail)
                  go_wp2_with fail
                  go_roundw
                  case rel => exact ⟨j + 1, by omega, by go_num, by rw [HB2.out], Lib.hid (grown_drew _ HGI.out)⟩
                  case measure => simp [intOf]; omega
                · have HB2 : Hid (hasName (L.take (j + 1)) xs = false) := Lib.hid (by rw [HCS.out, hB]; simp [hxy])
                  have f1 := nb_lists ys xs hxy
                  have f2 := ne_lists ys xs hxy
                  clear hB hxy
                  go_wp2_with fail
                  go_quiet (fail)
                  go_wp2_with fail
                  go_roundw
                  case rel => exact ⟨j + 1, by omega, by go_num, by rw [HB2.out], Lib.hid (grown_drew _ HGI.out)⟩
                  case measure => simp [intOf]; omega
            · obtain rfl : j = m2 := by omega
              have hcon : L.take j = L := List.take_of_length_le (Nat.le_of_eq HNL.out)
              rw [hcon]
              clear hcon
              cases hB : hasName L xs with
              | true =>
                clear hB
                go_wp2_with fail
                refine ⟨⟨k + 1, j, cp2, ad2, L, by omega, by go_num, rfl, by omega, hmc, hcm, Lib.hid ⟨HS.out.1.stay (World.grownBy.trans HG5.out HGI.out), HS.out.2⟩⟩, by simp [intOf]; omega⟩
              | false =>
                have HND := Lib.hid hB
                clear hB r1
                have HKI := Lib.hid (bk_kept HK5.out HGI.out)
                have has : PA.size = 37 := by rw [← HPA.out, List.size_toArray, enc_len]
                have HAS := Lib.hid has
                have HIA : Hid ((Tryz.prog.info? 35).map (·.size) = some PA.size) := Lib.hid (by rw [has]; kernel_rfl)
                have HGA := Lib.hid (World.grownBy.trans HS.out.1.g (World.grownBy.trans (World.grownBy.trans HG5.out HGI.out) (World.grownBy_alloc wr (.cells PA 35) none)))
                have HG3A := Lib.hid (World.grownBy.trans (World.grownBy.trans (World.grownBy.trans HG34.out HG45.out) HGI.out) (World.grownBy_alloc wr (.cells PA 35) none))
                have HOW2 : Hid (OwnsP (wr.alloc (.cells PA 35)) w0.heap.size (.slice ad2 j cp2) L) := Lib.hid ((HOW.out.stays HGI.out).alloc _)
                have HRG : Hid ((wr.alloc (.cells PA 35)).rangeAt wr.heap.size 0 p.enc) := Lib.hid (fun i v hi => by rw [Nat.zero_add, cell_in (heap_alloc_new _ _), ← HPA.out]; simpa using hi)
                have hm3 : j ≤ 1000000 := by omega
                clear has
                go_wp2_with (first
                  | ((with_reducible refine wpList_load_row (o := ⟨some 99, _, _, _, _, _⟩) rfl 35 _ rfl gp ?_ 35 PA (0, 0) _ HKI.out Tryz.underlying35 ?_ HIA.out ?_); (rfl); (rfl))
                  | ((with_reducible refine slice_pin (o := ⟨some 100, _, _, _, _, _⟩) rfl _ rfl PA HAS.out ?_ ?_); (rfl))
                  | ((with_reducible refine app_pin_at (o := ⟨some 101, _, _, _, _, _⟩) (w := wr.alloc (.cells PA 35)) rfl _ _ rfl w0.heap.size (.slice ad2 j cp2) L j HNL.out p wr.heap.size ?_ HOW2.out ?_ HRG.out hm3 HGA.out.size ?_); (rfl); (rfl); (intro ad5 cp5 w6 hc5 hm5 HOW5 HG6 HAT5)))
                refine ⟨⟨k + 1, j + 1, cp5, ad5, L ++ [p], by omega, by go_num, rfl, by omega, hc5, hm5, Lib.hid ⟨HS.out.1.next HG3.out HG3A.out HAT.out HNW.out HG6.out HOW5.out HAT5, fun p' hp' => ?_, nodup_next L p HS.out.2.2 (by rw [HXS.out]; exact HND.out)⟩⟩, by simp [intOf]; omega⟩
                rcases List.mem_append.1 hp' with h | h
                · exact HS.out.2.1 p' h
                · obtain rfl : p' = p := by simpa using h
                  exact HBP.out
        · rw [if_pos (by rfl)]
          go_simp
          refine hK.out _ _ (World.grownBy.trans g0 (World.grownBy_alloc _ _ _)) (fun gq0 => ?_)
          clear hK K
          try simp only [Act.put, List.getElem_toArray, List.getElem_cons_zero, List.getElem_cons_succ, List.setIfInBounds_toArray, List.set_cons_zero, List.set_cons_succ]
          have hbk0 : (w4.alloc (.cells Z 35)).drew.heap[w4.heap.size]? = some (.cells Z 35 (0, 0)) := bk_alloc w4 _
          obtain ⟨wz, hwz⟩ : ∃ wz, (w4.alloc (.cells Z 35)).drew = wz := ⟨_, rfl⟩
          rw [hwz] at hbk0 gq0 ⊢
          clear hwz
          refine wpAnyH_ready (rs := [5]) (by kernel_rfl) (by simp) ?_
          refine AllReadyH.cons rfl (fun K hK => ?_) AllReadyH.nil
          rw [if_pos (by rfl)]
          go_simp
          refine (dec_any (y : Int) (by omega) _).mono ?_
          rintro ee wq ⟨rfl, kk, hwq⟩
          have gq : w4.grownBy wq none := by rw [hwq]; exact grown_drew _ gq0
          have hbk : wq.heap[w4.heap.size]? = some (.cells Z 35 (0, 0)) := by rw [hwq]; exact hbk0
          clear hwq
          dsimp only
          refine hK.out _ _ gq (fun g1 => ?_)
          clear hK K
          try simp only [Act.put, List.getElem_toArray, List.getElem_cons_zero, List.getElem_cons_succ, List.setIfInBounds_toArray, List.set_cons_zero, List.set_cons_succ]
          refine wpAnyH_take (i := 6) (v := .string (⟨#[112]⟩ ++ decS (y : Int))) rfl (by kernel_rfl) (by kernel_rfl) (by kernel_rfl) (fun _ _ _ h => h) (Or.inl ⟨by kernel_rfl, fun V' hV' => ?_⟩) gq ?_
          · have hsz := HDS.out
            go_simp
            first | done | omega
          try simp only [Act.put, List.getElem_toArray, List.getElem_cons_zero, List.getElem_cons_succ, List.setIfInBounds_toArray, List.set_cons_zero, List.set_cons_succ]
          refine wpAnyH_take (i := 12) (v := .agg p.enc.toArray) rfl (by kernel_rfl) (by kernel_rfl) (by kernel_rfl) (fun _ _ _ h => h) (Or.inl ⟨by kernel_rfl, fun V' hV' => ?_⟩) gq ?_
          · have hb := built_pin (⟨#[112]⟩ ++ decS (y : Int)) v (.slice sa sn sc) (K.map Sha.encB) HKS.out
            rw [HPE.out, HVA.out] at hb
            simp [execOp, Act.eval, run_build _ _ _ _ hb, Result.andThen]
          try simp only [Act.put, List.getElem_toArray, List.getElem_cons_zero, List.getElem_cons_succ, List.setIfInBounds_toArray, List.set_cons_zero, List.set_cons_succ]
          refine wpAnyH_ready (rs := [14]) (by kernel_rfl) (by simp) ?_
          refine AllReadyH.cons rfl (fun K hK => ?_) AllReadyH.nil
          rw [if_pos (by rfl)]
          refine wp_store_row 35 _ _ rfl w4.heap.size p.enc.toArray rfl rfl 35 Z hbk (by rw [List.size_toArray, enc_len]; kernel_rfl) (by rw [HZS.out, List.size_toArray, enc_len]) (by rw [List.all_toArray, List.all_eq_true]; exact enc_one _) ?_
          refine hK.out _ _ (Sha.grown_setRow gq (Nat.le_refl _) _) (fun g3 => ?_)
          clear hK K
          try simp only [Act.put, List.getElem_toArray, List.getElem_cons_zero, List.getElem_cons_succ, List.setIfInBounds_toArray, List.set_cons_zero, List.set_cons_succ]
          refine wpAnyH_done (by kernel_rfl) ?_ _
          refine NoPanic.normal ?_
          have hk5 := setRow_heap _ w4.heap.size _ p.enc.toArray 35 _ hbk
          obtain ⟨w5, hw5⟩ : ∃ w5, World.setRow wq w4.heap.size p.enc.toArray = w5 := ⟨_, rfl⟩
          rw [hw5] at hk5 g3 ⊢
          clear hw5 hbk
          clear g0 gq g1 gq0 hbk0
          have HK5 := Lib.hid hk5
          have HG45 := Lib.hid g3
          have HG5 := Lib.hid (World.grownBy.trans HG4.out g3)
          have HOW := Lib.hid (HS.out.1.own.stays HG5.out)
          obtain ⟨gp, hgpe⟩ : ∃ gp, w4.heap.size = gp := ⟨_, rfl⟩
          rw [hgpe] at HK5 ⊢
          have r0 : w5.cell? ⟨gp, 0, none⟩ = some (.string p.name) := by rw [cell_in HK5.out]; rfl
          clear hk5 g3 hgpe
          obtain ⟨xs, hxs⟩ : ∃ xs, p.name = xs := ⟨_, rfl⟩
          have HXS := Lib.hid hxs
          rw [hxs] at r0
          obtain ⟨ds, hds⟩ : ∃ ds, decS (y : Int) = ds := ⟨_, rfl⟩
          rw [hds]
          obtain ⟨PA, hPA⟩ : ∃ PA, p.enc.toArray = PA := ⟨_, rfl⟩
          have HPA := Lib.hid hPA
          rw [hPA] at HK5 ⊢
          obtain ⟨KA, hKA⟩ : ∃ KA, K.map Sha.encB = KA := ⟨_, rfl⟩
          rw [hKA]
          clear hxs hds hPA hKA
          go_wp2_with fail
          go_loopw [16, 17] (fun th kk wi => ∃ j : Nat, j ≤ m2 ∧ kk = .int .i64 j ∧ th = .bool (hasName (L.take j) xs) ∧ Hid (w5.grownBy wi none)) (fun _ kk _ => m2 - (intOf kk).toNat)
          case atStart => exact ⟨0, Nat.zero_le _, rfl, rfl, Lib.hid (World.grownBy.refl _ _)⟩
          case round =>
            obtain ⟨j, hj, rfl, rfl, HGI⟩ := hrel
            have r1 := HGI.out.cell r0 (by simp)
            have HNL := Lib.hid HS.out.1.len
            by_cases hlj : j < m2
            · obtain ⟨pq, hpq⟩ : ∃ pq, L[j]? = some pq := ⟨_, List.getElem?_eq_getElem (by rw [HNL.out]; exact hlj)⟩
              obtain ⟨bq, oq, e, _, hrq⟩ := ((HOW.out.stays HGI.out).part (HW.out.stays (World.grownBy.trans (World.grownBy.trans HGW.out HG5.out) HGI.out)).pos).at j pq hpq
              subst e
              have q0 : wr.cell? ⟨bq, oq + j * 37, none⟩ = some (.string pq.name) := range_name hrq
              have HCS := Lib.hid (has_succ L j pq xs hpq)
              clear hpq hrq
              obtain ⟨ys, hys⟩ : ∃ ys, pq.name = ys := ⟨_, rfl⟩
              rw [hys] at q0 HCS
              clear hys
              cases hB : hasName (L.take j) xs with
              | true =>
                have hb2 : hasName (L.take (j + 1)) xs = true := by rw [HCS.out, hB]; rfl
                have HB2 := Lib.hid hb2
                clear hb2 hB
                go_wp2_with fail
                go_quiet (fail)
                go_wp2_with fail
                go_roundw
                case rel => exact ⟨j + 1, by omega, by go_num, by rw [HB2.out], Lib.hid (grown_drew _ HGI.out)⟩
                case measure => simp [intOf]; omega
              | false =>
                by_cases hxy : ys = xs
                · have HB2 : Hid (hasName (L.take (j + 1)) xs = true) := Lib.hid (by rw [HCS.out, hB, hxy]; simp)
                  rw [hxy] at q0
                  clear hB hxy
                  go_wp2_with fail
                  go_quiet (fail)
                  go_wp2_with fail
                  go_roundw
                  case rel => exact ⟨j + 1, by omega, by go_num, by rw [HB2.out], Lib.hid (grown_drew _ HGI.out)⟩
                  case measure => simp [intOf]; omega
                · have HB2 : Hid (hasName (L.take (j + 1)) xs = false) := Lib.hid (by rw [HCS.out, hB]; simp [hxy])
                  have f1 := nb_lists ys xs hxy
                  have f2 := ne_lists ys xs hxy
                  clear hB hxy
                  go_wp2_with fail
                  go_quiet (fail)
                  go_wp2_with fail
                  go_roundw
                  case rel => exact ⟨j + 1, by omega, by go_num, by rw [HB2.out], Lib.hid (grown_drew _ HGI.out)⟩
                  case measure => simp [intOf]; omega
            · obtain rfl : j = m2 := by omega
              have hcon : L.take j = L := List.take_of_length_le (Nat.le_of_eq HNL.out)
              rw [hcon]
              clear hcon
              cases hB : hasName L xs with
              | true =>
                clear hB
                go_wp2_with fail
                refine ⟨⟨k + 1, j, cp2, ad2, L, by omega, by go_num, rfl, by omega, hmc, hcm, Lib.hid ⟨HS.out.1.stay (World.grownBy.trans HG5.out HGI.out), HS.out.2⟩⟩, by simp [intOf]; omega⟩
              | false =>
                have HND := Lib.hid hB
                clear hB r1
                have HKI := Lib.hid (bk_kept HK5.out HGI.out)
                have has : PA.size = 37 := by rw [← HPA.out, List.size_toArray, enc_len]
                have HAS := Lib.hid has
                have HIA : Hid ((Tryz.prog.info? 35).map (·.size) = some PA.size) := Lib.hid (by rw [has]; kernel_rfl)
                have HGA := Lib.hid (World.grownBy.trans HS.out.1.g (World.grownBy.trans (World.grownBy.trans HG5.out HGI.out) (World.grownBy_alloc wr (.cells PA 35) none)))
                have HG3A := Lib.hid (World.grownBy.trans (World.grownBy.trans (World.grownBy.trans HG34.out HG45.out) HGI.out) (World.grownBy_alloc wr (.cells PA 35) none))
                have HOW2 : Hid (OwnsP (wr.alloc (.cells PA 35)) w0.heap.size (.slice ad2 j cp2) L) := Lib.hid ((HOW.out.stays HGI.out).alloc _)
                have HRG : Hid ((wr.alloc (.cells PA 35)).rangeAt wr.heap.size 0 p.enc) := Lib.hid (fun i v hi => by rw [Nat.zero_add, cell_in (heap_alloc_new _ _), ← HPA.out]; simpa using hi)
                have hm3 : j ≤ 1000000 := by omega
                clear has
                go_wp2_with (first
                  | ((with_reducible refine wpList_load_row (o := ⟨some 99, _, _, _, _, _⟩) rfl 35 _ rfl gp ?_ 35 PA (0, 0) _ HKI.out Tryz.underlying35 ?_ HIA.out ?_); (rfl); (rfl))
                  | ((with_reducible refine slice_pin (o := ⟨some 100, _, _, _, _, _⟩) rfl _ rfl PA HAS.out ?_ ?_); (rfl))
                  | ((with_reducible refine app_pin_at (o := ⟨some 101, _, _, _, _, _⟩) (w := wr.alloc (.cells PA 35)) rfl _ _ rfl w0.heap.size (.slice ad2 j cp2) L j HNL.out p wr.heap.size ?_ HOW2.out ?_ HRG.out hm3 HGA.out.size ?_); (rfl); (rfl); (intro ad5 cp5 w6 hc5 hm5 HOW5 HG6 HAT5)))
                refine ⟨⟨k + 1, j + 1, cp5, ad5, L ++ [p], by omega, by go_num, rfl, by omega, hc5, hm5, Lib.hid ⟨HS.out.1.next HG3.out HG3A.out HAT.out HNW.out HG6.out HOW5.out HAT5, fun p' hp' => ?_, nodup_next L p HS.out.2.2 (by rw [HXS.out]; exact HND.out)⟩⟩, by simp [intOf]; omega⟩
                rcases List.mem_append.1 hp' with h | h
                · exact HS.out.2.1 p' h
                · obtain rfl : p' = p := by simpa using h
                  exact HBP.out
      · have HG1 := Lib.hid (World.grownBy.trans G0.out HS.out.1.g)
        have HLN := Lib.hid HS.out.1.len
        have hi10 : m2 ≤ 10 := by omega
        have HLOCK := Lib.hid (back_lock L HS.out.2.1 HS.out.2.2 (by rw [HLN.out]; exact hi10))
        have HSZ := Lib.hid (back_size L HS.out.2.1 (by rw [HLN.out]; exact hi10))
        have HPL : Hid (∀ V, wr.grownBy V none → PartP V V.heap.size (.slice ad2 m2 cp2) L ∧ AllAt V V.heap.size L) := Lib.hid (fun V hV => ⟨(HS.out.1.stay hV).own.part (HW.out.stays (World.grownBy.trans HG1.out hV)).pos, (HS.out.1.stay hV).all⟩)
        clear HS
        go_wp2_with fail
        (with_reducible refine (lockText_any m m2 cp2 ad2 L (stable_ten m2 _ (by omega)) wr (HW.out.stays HG1.out) HLN.out (by omega) (HPL.out wr (World.grownBy.refl _ _)).1 (HPL.out wr (World.grownBy.refl _ _)).2).mono ?_)
        rintro ee w4 ⟨rfl, g4⟩
        obtain ⟨T, hT⟩ : ∃ T : ByteArray, (⟨(lockT L).toArray⟩ : ByteArray) = T := ⟨_, rfl⟩
        have HT := Lib.hid hT
        have HTL : Hid (lockS T = .inr ((sortP L).map mp)) := Lib.hid (by rw [← hT]; exact HLOCK.out)
        have hTs : T.size ≤ 2007 := by rw [← hT]; exact HSZ.out.1
        have hT7 : 7 ≤ T.size := by rw [← hT]; exact HSZ.out.2
        rw [hT]
        have G4 := Lib.hid g4
        clear hT g4 HLOCK HSZ
        dsimp only
        go_wp2_with fail
        (with_reducible refine (lParse_any m T w4 (by omega) (HW.out.stays (World.grownBy.trans HG1.out G4.out)).max).mono ?_)
        rintro ee w5 ⟨hg, ⟨kk, h1, _⟩ | ⟨v5, L5, h1, rfl, hO5, hA5⟩⟩
        · rw [HTL.out] at h1; cases h1
        have hmp : (sortP L).map mp = L5.map mp := by rw [HTL.out] at h1; exact Sum.inr.inj h1
        have G5 := Lib.hid (World.grownBy.trans G4.out hg)
        have hl5 : L5.length = m2 := by
          have := congrArg List.length hmp
          rw [List.length_map, List.length_map, sortP_len, HLN.out] at this
          exact this.symm
        obtain ⟨a5, c5, e5, _, _⟩ := hO5.form
        rw [hl5] at e5
        subst e5
        have HL5 := Lib.hid hl5
        have HMP := Lib.hid hmp
        have HP5 : Hid (∀ V, w5.grownBy V none → PartP V V.heap.size (.slice a5 m2 c5) L5 ∧ AllAt V V.heap.size L5) := Lib.hid (fun V hV => ⟨(hO5.stays hV).part (HW.out.stays (World.grownBy.trans HG1.out (World.grownBy.trans G5.out hV))).pos, fun p hp => ((hA5 p hp).stays hV).mono hV.size⟩)
        clear h1 hg hO5 hA5 hl5 hmp
        dsimp only
        go_wp2_with fail
        (with_reducible refine (refPins_any m2 cp2 ad2 L w5 HLN.out (by omega) (HPL.out w5 G5.out).1 (HW.out.stays (World.grownBy.trans HG1.out G5.out)).pos).mono ?_)
        rintro ee w6 ⟨a7, c7, rfl, hO7, g7⟩
        rw [HLN.out] at hO7 ⊢
        have GW6 := Lib.hid (World.grownBy.trans G5.out g7)
        have G56 := Lib.hid g7
        have HO7 := Lib.hid hO7
        clear hO7 g7
        dsimp only
        have HAN : Hid (AllAt w6 w6.heap.size (sortP L)) := Lib.hid (fun p hp => (HPL.out w6 GW6.out).2 p ((sortP_mem _ p).1 hp))
        have HPT7 := Lib.hid (HO7.out.part (HW.out.stays (World.grownBy.trans HG1.out GW6.out)).pos)
        have HSL : Hid ((sortP L).length = m2) := Lib.hid (by rw [sortP_len, HLN.out])
        go_wp2_with fail
        (with_reducible refine (helpPins_at w6.heap.size m2 m2 c5 c7 a5 a7 L5 (sortP L) w6 (Nat.le_refl _) HL5.out HSL.out (by omega) (by omega) (HP5.out w6 G56.out).1 HPT7.out (HP5.out w6 G56.out).2 HAN.out true (pins_same _ _ HMP.out.symm)).mono ?_)
        rintro ee w7 ⟨rfl, g8⟩
        have GW7 := Lib.hid (World.grownBy.trans HG1.out (World.grownBy.trans GW6.out g8))
        clear g8 HPT7 HAN HO7 HP5 HPL G56 G5 G4 GW6 HLN HL5 HMP HSL HT HTL
        dsimp only
        obtain ⟨gb, hbc, hbf⟩ := bytes_world w7 T
        have hcv : (convert 9 22 (.string T)).run Tryz.prog w7 = .ok (.slice (some ⟨w7.heap.size, 0, none⟩) T.size (grownCap w7 T.size 0 5)) (Lib.bytesWorld w7 5 T) := Lib.run_convert_string_bytes w7 9 22 5 T Tryz.underlying9 Tryz.underlying22 Tryz.underlying5
        obtain ⟨W8, hW8⟩ : ∃ W8, Lib.bytesWorld w7 5 T = W8 := ⟨_, rfl⟩
        rw [hW8] at gb hbc hbf hcv
        obtain ⟨cp, hcp⟩ : ∃ cp, grownCap w7 T.size 0 5 = cp := ⟨_, rfl⟩
        rw [hcp] at hcv
        have hcpT : T.size ≤ cp := by rw [← hcp]; exact grownCap_ge _ _ _ _
        obtain ⟨nT, hnT⟩ : ∃ nT, T.size = nT := ⟨_, rfl⟩
        rw [hnT] at hbc hbf hcv hcpT hTs hT7
        have HBC := Lib.hid hbc
        have HBF := Lib.hid hbf
        have HNT := Lib.hid hnT
        have GW8 := Lib.hid (World.grownBy.trans GW7.out gb)
        have HG8 := Lib.hid gb
        clear hbc hbf hW8 hcp hnT gb
        go_wp2_with fail
        (with_reducible refine (place_at at_ (nT : Int) hat (by omega) (by omega) W8).mono ?_)
        rintro ee w9 ⟨⟨r, hr, rfl⟩, rfl⟩
        clear hcv
        have hrn : r < nT := by omega
        obtain ⟨c, hc⟩ : ∃ c, T.data.toList.getD r 0 = c := ⟨_, rfl⟩
        obtain ⟨xb, hxb⟩ : ∃ xb, UInt8.ofNat x = xb := ⟨_, rfl⟩
        have hxx : (x : Int) = (xb.toNat : Int) := by rw [← hxb, byte_nat x hx]
        rw [hxx]
        have hcell : w9.cell? ⟨w7.heap.size, r, none⟩ = some (.int .u8 (c.toNat : Int)) := by rw [HBC.out r hrn, hc]
        have hfr : w9.frozen? ⟨w7.heap.size, r, none⟩ = false := HBF.out r hrn
        have hx8 := Lib.hid (xor8 c xb)
        obtain ⟨W5, hW5⟩ : ∃ W5, w9.setCell ⟨w7.heap.size, r, none⟩ (.int .u8 (bits .xor .u8 (c.toNat : Int) (xb.toNat : Int))) = W5 := ⟨_, rfl⟩
        have gw5 : w.grownBy W5 none := by rw [← hW5]; exact grown_new GW8.out (bk_set_grown w9 w7.heap.size r _) GW7.out.size
        obtain ⟨BL, hBL⟩ : ∃ BL, T.data.toList.set r (c ^^^ xb) = BL := ⟨_, rfl⟩
        have hBLn : BL.length = nT := by rw [← hBL, List.length_set, ← HNT.out]; simp
        have hcl : ∀ i, i < BL.length → W5.cell? ⟨w7.heap.size, 0 + i, none⟩ = some (.int .u8 ((BL.getD i 0).toNat : Int)) := by
          intro i hi
          rw [← hW5, Nat.zero_add]
          by_cases hij : i = r
          · subst hij
            rw [World.cell?_setCell_same _ _ _ hcell, hx8.out, ← hBL, List.getD_eq_getElem?_getD, List.getElem?_set_self (by rw [← hBL, List.length_set] at hi; exact hi)]; rfl
          · rw [World.cell?_setCell_other _ _ _ _ (by intro e; injection e with _ e2; exact hij e2.symm), HBC.out i (by omega), ← hBL, List.getD_eq_getElem?_getD, List.getD_eq_getElem?_getD, List.getElem?_set_ne (by omega)]
        obtain ⟨S, hS⟩ : ∃ S : ByteArray, (⟨BL.toArray⟩ : ByteArray) = S := ⟨_, rfl⟩
        have hSs : S.size ≤ 2007 := by
          have : S.size = BL.length := by rw [← hS]; simp [ByteArray.size]
          omega
        have HCV : Hid (∀ V, W5.grownBy V none → (convert 22 9 (.slice (some ⟨w7.heap.size, 0, none⟩) nT cp)).run Tryz.prog V = .ok (.string S) V) := Lib.hid (fun V hV => by
          rw [← hS, ← hBLn]
          refine run_convert_bytes_back V 22 9 5 ⟨w7.heap.size, 0, none⟩ cp BL Tryz.underlying22 Tryz.underlying5 Tryz.underlying9 fun i hi => ?_
          rw [Addr.add_mid, hV.cell (hcl i hi) (by simp)]
          simp [List.getD_eq_getElem?_getD, List.getElem?_eq_getElem hi])
        have hcv := HCV.out W5 (World.grownBy.refl _ _)
        have hcvd := HCV.out W5.drew (grown_drew 1 (World.grownBy.refl _ _))
        have G5 := Lib.hid gw5
        have HW5 := Lib.hid hW5
        clear hcl hBL hBLn hS hc hxb hW5 gw5 HBC HBF GW8 HG8
        dsimp only
        go_wp2_with fail
        rw [HW5.out]
        clear hcell hfr hx8 HW5
        rw [hcv]
        go_wp2_with fail
        clear hcv hcvd
        (with_reducible refine (lParse_any m S W5 (by omega) (HW.out.stays G5.out).max).mono ?_)
        rintro ee w10 ⟨hg, h⟩
        have G10 := Lib.hid (World.grownBy.trans G5.out hg)
        have hcv := HCV.out w10 hg
        rcases h with ⟨kf, hkf, rfl⟩ | ⟨v10, M1, hM1, rfl, hO1, hA1⟩
        · have HK := Lib.hid hkf
          clear hg hkf HCV
          dsimp only
          go_wp2_with fail
          clear hcv
          (with_reducible refine (lockOf_any m S w10 (by omega) (HW.out.stays G10.out).max).mono ?_)
          rintro ee w11 ⟨hg, ⟨k2, hk2, rfl⟩ | ⟨v2, L2, hL2, _, _, _⟩⟩
          case inr => rw [HK.out] at hL2; cases hL2
          obtain rfl : k2 = kf := by rw [HK.out] at hk2; exact (Sum.inl.inj hk2).symm
          have G11 := Lib.hid (World.grownBy.trans G10.out hg)
          clear hg hk2
          dsimp only
          go_wp2_with fail
          (with_reducible refine (helpPins_at w11.heap.size 0 0 0 0 none none [] [] w11 (Nat.le_refl _) rfl rfl (by omega) (by omega) (PartP.empty (HW.out.stays G11.out).pos) (PartP.empty (HW.out.stays G11.out).pos) (AllAt.empty _ _) (AllAt.empty _ _) true rfl).mono ?_)
          rintro ee w12 ⟨rfl, hg⟩
          dsimp only
          go_wp2
          go_ret
          exact ⟨rfl, World.grownBy.trans G11.out hg⟩
        · obtain ⟨a8, c8, e8, _, _⟩ := hO1.form
          obtain ⟨m8, hm8⟩ : ∃ m8, M1.length = m8 := ⟨_, rfl⟩
          rw [hm8] at e8
          subst e8
          have HN8 := Lib.hid hm8
          have HL8 : Hid (lockS S = .inr (M1.map mp)) := Lib.hid hM1
          have HA8 := Lib.hid hA1
          have hfew := lock_few S M1 hM1
          have hn8 : m8 ≤ 1000000 := by omega
          have HP8 := Lib.hid (hO1.part (HW.out.stays G10.out).pos)
          clear hg hM1 hO1 hA1 hfew hm8 HCV
          dsimp only
          go_wp2_with fail
          clear hcv
          (with_reducible refine (lockOf_any m S w10 (by omega) (HW.out.stays G10.out).max).mono ?_)
          rintro ee w11 ⟨hg, ⟨k2, hk2, _⟩ | ⟨v2, M, hM, rfl, hO2, hA2⟩⟩
          · rw [HL8.out] at hk2; cases hk2
          have hLM : M1.map mp = M.map mp := by rw [HL8.out] at hM; exact Sum.inr.inj hM
          have hnM : M.length = m8 := by have := congrArg List.length hLM; rw [List.length_map, List.length_map, HN8.out] at this; exact this.symm
          obtain ⟨a9, c9, e9, _, _⟩ := hO2.form
          rw [hnM] at e9
          subst e9
          have G11 := Lib.hid (World.grownBy.trans G10.out hg)
          have HP9 := Lib.hid (hO2.part (HW.out.stays G11.out).pos)
          have HPL := Lib.hid ((HP8.out.stays hg).mono hg.size)
          have HAL : Hid (AllAt w11 w11.heap.size M1) := Lib.hid (fun p hp => ((HA8.out p hp).stays hg).mono hg.size)
          have HAM := Lib.hid hA2
          have HNM := Lib.hid hnM
          have HEQ := Lib.hid (pins_same M1 M hLM)
          clear hg hM hO2 hA2 hLM hnM
          dsimp only
          go_wp2_with fail
          (with_reducible refine (helpPins_at w11.heap.size m8 m8 c8 c9 a8 a9 M1 M w11 (Nat.le_refl _) HN8.out HNM.out (by omega) (by omega) HPL.out HP9.out HAL.out HAM.out true HEQ.out).mono ?_)
          rintro ee w12 ⟨rfl, hg⟩
          dsimp only
          go_wp2
          go_ret
          exact ⟨rfl, World.grownBy.trans G11.out hg⟩
  · rcases (by omega : 10 < n1 ∨ (n1 ≤ 10 ∧ n2 < n1) ∨ (n1 ≤ 10 ∧ n1 ≤ n2 ∧ n3 < n1)) with h | ⟨h, h'⟩ | ⟨h, h', h''⟩
    · have f1 : 10 < n1 := h
      have f1d : decide (10 < (n1 : Int)) = true := decide_eq_true (by omega)
      clear hok
      go_enter Tryz.func3, Tryz.ntmps3
      go_wp2_with fail
      (with_reducible refine (known_any m w HW.out).mono ?_)
      rintro ee w0 ⟨rfl, g0⟩
      dsimp only
      go_wp2
      go_ret
      exact ⟨rfl, g0⟩
    · have f1 : ¬ 10 < n1 := by omega
      have f1d : decide (10 < (n1 : Int)) = false := decide_eq_false (by omega)
      have f2 : n2 < n1 := h'
      have f2d : decide ((n2 : Int) < (n1 : Int)) = true := decide_eq_true (by omega)
      clear hok
      go_enter Tryz.func3, Tryz.ntmps3
      go_wp2_with fail
      (with_reducible refine (known_any m w HW.out).mono ?_)
      rintro ee w0 ⟨rfl, g0⟩
      dsimp only
      go_wp2
      go_ret
      exact ⟨rfl, g0⟩
    · have f1 : ¬ 10 < n1 := by omega
      have f1d : decide (10 < (n1 : Int)) = false := decide_eq_false (by omega)
      have f2 : ¬ n2 < n1 := by omega
      have f2d : decide ((n2 : Int) < (n1 : Int)) = false := decide_eq_false (by omega)
      have f3 : n3 < n1 := h''
      have f3d : decide ((n3 : Int) < (n1 : Int)) = true := decide_eq_true (by omega)
      clear hok
      go_enter Tryz.func3, Tryz.ntmps3
      go_wp2_with fail
      (with_reducible refine (known_any m w HW.out).mono ?_)
      rintro ee w0 ⟨rfl, g0⟩
      dsimp only
      go_wp2
      go_ret
      exact ⟨rfl, g0⟩
end Go.Proofs.YthdopcdllggdaaaGreatDoor
