/- The law TreeClones returns true. -/
import Derived.Test.YtichejodbohldaaGreatDoorIwM
import Derived.Test.YtichejodbohldaaGreatDoorItM
namespace Go.Proofs.YtichejodbohldaaGreatDoor
open Go.RowKit Go.Maps
set_option maxRecDepth 1000000
theorem Has.read {cont : ByteArray → List UInt8} {M : Tr} {l : List Nat} (h : Has cont M l) (hl : ∀ y ∈ l, y < 256) {k : Nat} (hk : k ∈ l) : readS M (nmS k) = (cont (nmS k), 0) := by
  have hf := h.file hl (hl k hk)
  have hg : getA M (nmS k) = some ⟨false, cont (nmS k)⟩ := by
    rw [h.at' (nmS k), if_pos (List.any_eq_true.2 ⟨k, hk, by simp⟩)]
  unfold readS
  rw [hf]
  simp [hg]
/-- One byte in a block of its own. -/
def ByteB (w : World) (b : Nat) (c : UInt8) : Prop := w.heap[b]? = some (.cells #[.int .u8 (c.toNat : Int)] 5 (0, 0))
theorem ByteB.lie {w : World} {b : Nat} {c : UInt8} {S : Nat → Prop} (h : ByteB w b c) (hn : ¬ S b) : Lie w S (.slice (some ⟨b, 0, none⟩) 1 1) [c] :=
  ⟨_, 1, b, 0, rfl, Nat.le_refl _, fun h => by simp at h, hn, fun _ => rfl, fun j hj => by
    have : j = 0 := by simpa using hj
    subst this
    exact (bk_cell h 0 _ rfl).1⟩
/-- What the law's first loop keeps. -/
def CloAt (x : Nat) (B : Nat) (w : World) (t b : Nat) (l : List Nat) : Prop := ∃ M S, St B w t M S ∧ Has (fun _ => [UInt8.ofNat x]) M l ∧ ByteB w b (UInt8.ofNat x) ∧ ¬ S b
set_option maxHeartbeats 16000000 in
theorem clones_law (m : Int) (n cap x : Nat) (a : Option Addr) (l : List Nat) (w : World) (hm : w.cell? ⟨0, 0, none⟩ = some (.int .i64 m)) (hn : l.length = n) (hl : ∀ y ∈ l, y < 256) (hx : x < 256) (hb : BytesN w a l) :
    Calls Tryz.prog 10 #[.slice a n cap, .int .u8 (x : Int)] w fun e w' => e = .returned (.bool true) ∧ w.grownBy w' none := by
  have h0 : 0 < w.heap.size := World.block_lt_of_cell? _ _ hm
  have HM : Hid (∀ V, Since w.heap.size w V → V.cell? ⟨0, 0, none⟩ = some (.int .i64 m)) := Lib.hid fun V hV => hV.cell hm h0
  have HKN := Lib.hid (known_any m w hm)
  have H0 := Lib.hid h0
  have HN := Lib.hid hn
  have HL := Lib.hid hl
  have HB := Lib.hid hb
  have HX : Hid (((UInt8.ofNat x).toNat : Int) = (x : Int)) := Lib.hid (by rw [UInt8.toNat_ofNat', Nat.mod_eq_of_lt (by omega)])
  clear hm h0 hn hl hb
  by_cases h15 : 15 < n
  · have d1 : decide (15 < (n : Int)) = true := by simp; omega
    go_enter Tryz.func10, Tryz.ntmps10
    go_wp2_with fail
    (with_reducible refine HKN.out.mono ?_)
    rintro e w1 ⟨rfl, hg⟩
    have G1 := Lib.hid hg
    clear hg
    dsimp only
    go_wp2
    go_ret
    exact ⟨rfl, G1.out⟩
  · have d1 : decide (15 < (n : Int)) = false := by simp; omega
    go_enter Tryz.func10, Tryz.ntmps10
    go_wp2_with fail
    (with_reducible refine HKN.out.mono ?_)
    rintro e w1 ⟨rfl, hg⟩
    have G1 := Lib.hid hg
    clear hg
    dsimp only
    go_wp2_with fail
    (with_reducible refine (new_any _).mono ?_)
    rintro e w2 ⟨t, rfl, _, ht2, hg2⟩
    have HS2 : Hid (w1.grownBy w2 none ∧ St w1.heap.size w2 t [] (Grow w1 w2 fun _ => False)) := Lib.hid ⟨hg2, St.new ht2⟩
    clear ht2 hg2
    dsimp only
    go_wp2_with fail
    obtain ⟨bb, hbb⟩ : ∃ bb, w2.heap.size = bb := ⟨_, rfl⟩
    obtain ⟨W3, hW3⟩ : ∃ W3, w2.alloc (.cells #[.int .u8 (x : Int)] 5) = W3 := ⟨_, rfl⟩
    rw [hW3, hbb]
    have G23 : Hid (w2.grownBy W3 none) := Lib.hid (by rw [← hW3]; exact World.grownBy_alloc _ _ _)
    have HS3 : Hid (Since w.heap.size w W3 ∧ w.heap.size ≤ bb ∧ CloAt x w.heap.size W3 t bb []) := Lib.hid ⟨Since.of (World.grownBy.trans G1.out (World.grownBy.trans HS2.out.1 G23.out)), by rw [← hbb]; exact Nat.le_trans G1.out.size HS2.out.1.size, _, _, (⟨HS2.out.2.tree, fun k hk => Nat.le_trans G1.out.size (HS2.out.2.from' k hk)⟩ : St w.heap.size w2 t [] _).stays G23.out, Has.nil _, by
      have := bk_alloc w2 (.cells #[.int .u8 (x : Int)] 5)
      rw [hW3, hbb, ← HX.out] at this
      exact this, fun e => by have := HS2.out.2.tree.lt bb e; omega⟩
    clear hW3 hbb G1 HS2 G23
    go_loopw [7] (fun i wr => ∃ k : Nat, k ≤ n ∧ i = .int .i64 (k : Int) ∧ Hid (Since w.heap.size w wr ∧ w.heap.size ≤ bb ∧ CloAt x w.heap.size wr t bb (l.take k))) (fun i _ => n - (intOf i).toNat)
    case atStart => exact ⟨0, Nat.zero_le _, rfl, HS3⟩
    case round =>
      obtain ⟨k, hk, rfl, HS⟩ := hrel
      obtain ⟨M, S, hd, hha, hby, hbs⟩ := HS.out.2.2
      by_cases hlt : k < n
      · obtain ⟨y, hy⟩ : ∃ y, l[k]? = some y := ⟨_, List.getElem?_eq_getElem (by rw [HN.out]; exact hlt)⟩
        obtain ⟨b, o, rfl, hcx⟩ := HB.out k y hy
        have hcx2 := HS.out.1.cell hcx (World.block_lt_of_cell? _ _ hcx)
        have hy2 : y < 256 := HL.out y (List.mem_of_getElem? hy)
        have HTX : Hid (l.take (k + 1) = l.take k ++ [y]) := Lib.hid (take_snocL _ _ _ hy)
        obtain ⟨M', hpa, hha'⟩ := hha.put (fun z hz => HL.out z (List.mem_of_mem_take hz)) (by rw [List.length_take]; omega) hy2 (by show 1 ≤ 100; omega)
        have HPA : Hid (putS M (nmS y) (fun _ => [UInt8.ofNat x]) = (0, M')) := Lib.hid hpa
        have HIA := Lib.hid hha.inv
        have HA2 := Lib.hid hha'
        have HD := Lib.hid hd
        have HK := Lib.hid HS.out.1
        have HBY := Lib.hid (And.intro hby hbs)
        have HNX : Hid (∀ V, Calls Tryz.prog 41 #[.int .u8 (y : Int)] V fun e w' => e = .returned (.string (nmS y)) ∧ V.grownBy w' none) := Lib.hid (name_any y hy2)
        clear hd hha hha' hpa hy hcx hby hbs
        go_wp2_with fail
        (with_reducible refine (HNX.out _).mono ?_)
        rintro e V ⟨rfl, hg⟩
        have HD4 := Lib.hid (HD.out.stays hg)
        have HK4 := Lib.hid (HK.out.go (Since.of hg))
        have HB4 : Hid (ByteB V bb (UInt8.ofNat x)) := Lib.hid (bk_kept HBY.out.1 hg)
        clear hg hcx2
        dsimp only
        go_wp2_with fail
        (with_reducible refine (write_any t M S (nmS y) m _ 1 1 [UInt8.ofNat x] _ HD4.out.tree HIA.out (HM.out _ HK4.out) (HB4.out.lie HBY.out.2) rfl (by omega)).mono ?_)
        rw [HPA.out]
        intro e w5 hp
        have HS5 := Lib.hid (HD4.out.puts HK4.out.size hp)
        have HK5 := Lib.hid (HK4.out.go HS5.out.2)
        have HB5 : Hid (ByteB w5 bb (UInt8.ofNat x) ∧ ¬ Grow V w5 S bb) := Lib.hid ⟨hp.2.2.bk HB4.out HBY.out.2, fun e => by
          rcases e.1 with h | h
          · exact HBY.out.2 h
          · have := bk_size HB4.out; omega⟩
        obtain rfl := hp.1
        clear hp
        dsimp only
        go_wp2_with fail
        refine ⟨⟨k + 1, by omega, congrArg (Value.int IntKind.i64) (by omega), Lib.hid ⟨HK5.out, HS.out.2.1, _, _, HS5.out.1, by rw [HTX.out]; exact HA2.out, HB5.out⟩⟩, ?_⟩
        simp only [intOf]
        omega
      · have e : k = n := by omega
        subst e
        have e1 : l.take k = l := List.take_of_length_le (by rw [HN.out]; exact Nat.le_refl _)
        rw [e1] at hha
        have HD := Lib.hid hd
        have HK := Lib.hid HS.out.1
        have HHA := Lib.hid hha
        have HI := Lib.hid hha.inv
        have HBY := Lib.hid (And.intro hby (And.intro hbs HS.out.2.1))
        obtain ⟨cc, cf⟩ := bk_cell hby 0 _ rfl
        rw [HX.out] at cc
        clear hd hha hby hbs e1 HS HS3
        go_wp2_with fail
        obtain ⟨W4, hW4⟩ : ∃ W4, wr.setCell ⟨bb, 0, none⟩ (.int .u8 (((x : Int) + 1) % 256)) = W4 := ⟨_, rfl⟩
        rw [hW4]
        have g4 : wr.grownBy W4 (some bb) := by rw [← hW4]; exact bk_set_grown wr bb 0 _
        have hd4 : St w.heap.size W4 t M S := ⟨HD.out.tree.keeps (Kept.one g4) fun k hk e => HBY.out.2.1 (e ▸ hk), HD.out.from'⟩
        have HD4 := Lib.hid hd4
        have HK4 : Hid (Since w.heap.size w W4) := Lib.hid (HK.out.go (Kept.of g4 _ fun k e => by rw [← Option.some.inj e]; exact HBY.out.2.2))
        clear hW4 g4 hd4 cc cf HD HBY HK
        (with_reducible refine (filesAt_any t M S _ HD4.out.tree HI.out).mono ?_)
        intro e w5 hf
        obtain ⟨v5, Y, rfl, hr5, hy5, hg5, hl5⟩ := FR.of hf
        obtain ⟨ny, hny⟩ : ∃ ny, Y.length = ny := ⟨_, rfl⟩
        obtain ⟨ay, cy, rfl⟩ := hr5.open hny
        have HR5 := Lib.hid hr5
        have HY := Lib.hid hy5
        have HNY := Lib.hid hny
        have HNY2 : Hid (Y.length ≤ 500) := Lib.hid (by have := HI.out.len; omega)
        have HD5 := Lib.hid (HD4.out.stays hg5)
        have HK5 := Lib.hid (HK4.out.go (Since.of hg5))
        clear hf hr5 hy5 hg5 hl5 hny HD4 HK4
        dsimp only
        go_wp2_with fail
        (with_reducible refine (cloneAt_any t M S _ HD5.out.tree HI.out).mono ?_)
        rintro e w6 ⟨cb, rfl, hc6, hg6⟩
        have HC6 : Hid (St w5.heap.size w6 cb M (Grow w5 w6 fun _ => False)) := Lib.hid ⟨hc6, fun k hk => by
          rcases hk.1 with h | h
          · exact h.elim
          · exact h⟩
        have HD6 := Lib.hid (HD5.out.stays hg6)
        have HR6 := Lib.hid (HR5.out.stays hg6)
        have HK6 := Lib.hid (HK5.out.go (Since.of hg6))
        have HSD : Hid (∀ k, S k → k < w5.heap.size) := Lib.hid HD5.out.tree.lt
        have H56 : Hid (w5.heap.size ≤ w6.heap.size) := Lib.hid hg6.size
        clear hc6 hg6
        dsimp only
        go_wp2_with fail
        (with_reducible refine (filesAt_any cb M _ _ HC6.out.tree HI.out).mono ?_)
        intro e w7 hf
        obtain ⟨v7, Z, rfl, hr7, hz7, hg7, hl7⟩ := FR.of hf
        obtain ⟨nz, hnz⟩ : ∃ nz, Z.length = nz := ⟨_, rfl⟩
        obtain ⟨az, cz, rfl⟩ := hr7.open hnz
        have hpos7 : 0 < w7.heap.size := by have h1 := HK6.out.size; have h2 := hg7.size; have h3 := H0.out; omega
        have HSF := Lib.hid (sameFiles_any _ _ Z Y w7 (hr7.rf hnz hpos7) ((HR6.out.stays hg7).rf HNY.out hpos7) (hz7.trans HY.out.symm) (by have := HI.out.len; omega))
        have HC7 := Lib.hid (HC6.out.stays hg7)
        have HD7 := Lib.hid (HD6.out.stays hg7)
        have HR7 := Lib.hid (HR6.out.stays hg7)
        have HK7 := Lib.hid (HK6.out.go (Since.of hg7))
        have H57 : Hid (w5.heap.size ≤ w7.heap.size) := Lib.hid (Nat.le_trans H56.out hg7.size)
        clear hf hr7 hz7 hg7 hl7 hnz hpos7
        dsimp only
        go_wp2_with fail
        (with_reducible refine HSF.out.mono ?_)
        rintro e w8 ⟨rfl, hg8⟩
        have HC8 := Lib.hid (HC7.out.stays hg8)
        have HD8 := Lib.hid (HD7.out.stays hg8)
        have HR8 := Lib.hid (HR7.out.stays hg8)
        have HK8 := Lib.hid (HK7.out.go (Since.of hg8))
        have H58 : Hid (w5.heap.size ≤ w8.heap.size) := Lib.hid (Nat.le_trans H57.out hg8.size)
        clear hg8
        dsimp only
        go_wp2_with fail
        (with_reducible refine (write_any cb M _ ⟨#[110, 101, 119]⟩ m _ 0 0 [] _ HC8.out.tree HI.out (HM.out _ HK8.out) (lie_nil HC8.out.tree.lt) rfl (by omega)).mono ?_)
        intro e w9 hp
        have hq := HC8.out.puts H58.out hp
        have HI9 := Lib.hid (inv_puts HI.out ⟨#[110, 101, 119]⟩ fun _ => [])
        obtain ⟨⟨q9, M9⟩, hR⟩ : ∃ R, putS M ⟨#[110, 101, 119]⟩ (fun _ => []) = R := ⟨_, rfl⟩
        rw [hR] at hp hq HI9
        obtain rfl := hp.1
        have HC9 := Lib.hid hq.1
        have HD9 : Hid (St w.heap.size w9 t M S) := Lib.hid ⟨HD8.out.tree.keeps hq.2 fun k hk e => by have := HSD.out k hk; omega, HD8.out.from'⟩
        have HR9 := Lib.hid (HR8.out.keeps hq.2 fun k e => .inr e)
        have HK9 : Hid (Since w.heap.size w w9) := Lib.hid (HK8.out.go (hq.2.mono fun k _ e => Nat.le_trans HK5.out.size e))
        have H59 : Hid (w5.heap.size ≤ w9.heap.size) := Lib.hid (Nat.le_trans H58.out hq.2.size)
        clear hp hq hR
        dsimp only
        go_wp2_with fail
        (with_reducible refine (remove_any cb M9 _ ⟨#[97]⟩ m _ HC9.out.tree HI9.out (HM.out _ HK9.out)).mono ?_)
        intro e w10 hp
        have hq := HC9.out.puts H59.out hp
        obtain ⟨⟨q10, M10⟩, hR⟩ : ∃ R, remS M9 ⟨#[97]⟩ = R := ⟨_, rfl⟩
        rw [hR] at hp hq
        obtain rfl := hp.1
        have HD10 : Hid (St w.heap.size w10 t M S) := Lib.hid ⟨HD9.out.tree.keeps hq.2 fun k hk e => by have := HSD.out k hk; omega, HD9.out.from'⟩
        have HR10 := Lib.hid (HR9.out.keeps hq.2 fun k e => .inr e)
        have HK10 : Hid (Since w.heap.size w w10) := Lib.hid (HK9.out.go (hq.2.mono fun k _ e => Nat.le_trans HK5.out.size e))
        have H510 : Hid (w5.heap.size ≤ w10.heap.size) := Lib.hid (Nat.le_trans H59.out hq.2.size)
        have HS10 : Hid (Since w.heap.size w w10 ∧ St w.heap.size w10 t M S ∧ FR w10 W4.heap.size w5.heap.size (.slice ay ny cy) Y ∧ w5.heap.size ≤ w10.heap.size) := Lib.hid ⟨HK10.out, HD10.out, HR10.out, H510.out⟩
        clear hp hq hR HD5 HD6 HD7 HD8 HD9 HD10 HR5 HR6 HR7 HR8 HR9 HR10 HC6 HC7 HC8 HC9 HK6 HK7 HK8 HK9 HK10 H56 H57 H58 H59 H510 HSF
        dsimp only
        go_wp2_with fail
        have HN2 : Hid (l.length = k) := HN
        obtain ⟨kk, hkk⟩ : ∃ kk, kk = k := ⟨_, rfl⟩
        rw [← hkk] at HN2 ⊢
        have hk15 : kk ≤ 15 := by omega
        clear hkk
        go_loopw [10] (fun i wr => ∃ j : Nat, j ≤ kk ∧ i = .int .i64 (j : Int) ∧ Hid (Since w.heap.size w wr ∧ St w.heap.size wr t M S ∧ FR wr W4.heap.size w5.heap.size (.slice ay ny cy) Y ∧ w5.heap.size ≤ wr.heap.size)) (fun i _ => kk - (intOf i).toNat)
        case atStart => exact ⟨0, Nat.zero_le _, rfl, HS10⟩
        case round =>
          obtain ⟨j, hj, rfl, HT⟩ := hrel
          by_cases hjl : j < kk
          · obtain ⟨y, hy⟩ : ∃ y, l[j]? = some y := ⟨_, List.getElem?_eq_getElem (by rw [HN2.out]; exact hjl)⟩
            obtain ⟨b, o, rfl, hcx⟩ := HB.out j y hy
            have hcx2 := HT.out.1.cell hcx (World.block_lt_of_cell? _ _ hcx)
            have hym := List.mem_of_getElem? hy
            have hy2 : y < 256 := HL.out y hym
            have HRD : Hid (readS M (nmS y) = ([UInt8.ofNat x], 0)) := Lib.hid (HHA.out.read HL.out hym)
            have HNX : Hid (∀ V, Calls Tryz.prog 41 #[.int .u8 (y : Int)] V fun e w' => e = .returned (.string (nmS y)) ∧ V.grownBy w' none) := Lib.hid (name_any y hy2)
            clear hy hcx hym
            go_wp2_with fail
            (with_reducible refine (HNX.out _).mono ?_)
            rintro e V ⟨rfl, hg⟩
            have HK4 := Lib.hid (HT.out.1.go (Since.of hg))
            have HD4 := Lib.hid (HT.out.2.1.stays hg)
            have HR4 := Lib.hid (HT.out.2.2.1.stays hg)
            have H54 : Hid (w5.heap.size ≤ V.heap.size) := Lib.hid (Nat.le_trans HT.out.2.2.2 hg.size)
            clear hg hcx2
            dsimp only
            go_wp2_with fail
            (with_reducible refine (read_any t M S (nmS y) m _ HD4.out.tree HI.out (HM.out _ HK4.out)).mono ?_)
            rw [HRD.out]
            rintro e w11 ⟨v, rfl, ho, hg⟩
            obtain ⟨g, cap2, cur, rfl, hgb, hgc, hcur⟩ : ∃ g cap2 cur, v = .slice (some ⟨g, 0, none⟩) 1 cap2 ∧ V.heap.size ≤ g ∧ w11.heap[g]? = some (.cells cur 5 (0, 0)) ∧ cur[0]? = some (.int .u8 (x : Int)) := by
              rcases ho.2 with ⟨h1, h2⟩ | ⟨g, cap, cur, h1, h2, h3, h4, h5, h6, h7⟩
              · simp at h2
              · refine ⟨g, cap, cur, h1, h2, h3, ?_⟩
                have e := encB_at [UInt8.ofNat x] 0 (by simp)
                dsimp only at h7
                rw [← h7, List.getElem?_take, if_pos (by simp)] at e
                rw [← HX.out]
                simpa using e
            have HK11 := Lib.hid (HK4.out.go (Since.of hg))
            have HD11 := Lib.hid (HD4.out.stays hg)
            have HR11 := Lib.hid (HR4.out.stays hg)
            have H511 : Hid (w5.heap.size ≤ w11.heap.size) := Lib.hid (Nat.le_trans H54.out hg.size)
            obtain ⟨yc, yf⟩ := bk_cell hgc 0 _ hcur
            have HGB := Lib.hid hgb
            clear ho hg hgc hcur hgb
            dsimp only
            go_wp2_with fail
            obtain ⟨W6, hW6⟩ : ∃ W6, w11.setCell ⟨g, 0, none⟩ (.int .u8 (((x : Int) + 1) % 256)) = W6 := ⟨_, rfl⟩
            rw [hW6]
            have g6 : w11.grownBy W6 (some g) := by rw [← hW6]; exact bk_set_grown w11 g 0 _
            have h5g : w5.heap.size ≤ g := Nat.le_trans H54.out HGB.out
            have hwg : w.heap.size ≤ w5.heap.size := HK5.out.size
            have HFIN : Hid (Since w.heap.size w W6 ∧ St w.heap.size W6 t M S ∧ FR W6 W4.heap.size w5.heap.size (.slice ay ny cy) Y ∧ w5.heap.size ≤ W6.heap.size) := Lib.hid
              ⟨HK11.out.go (Kept.of g6 _ fun k e => by rw [← Option.some.inj e]; omega), ⟨HD11.out.tree.keeps (Kept.one g6) fun k hk e => by have := HSD.out k hk; omega, HD11.out.from'⟩, HR11.out.keeps (Kept.one g6) (fun k e => .inr (by omega)), Nat.le_trans H511.out g6.size⟩
            clear g6 yc yf hW6
            refine ⟨⟨j + 1, by omega, congrArg (Value.int IntKind.i64) (by omega), HFIN⟩, ?_⟩
            simp only [intOf]
            omega
          · have e : j = kk := by omega
            have hpos : 0 < wr.heap.size := by have h1 := HT.out.1.size; have h3 := H0.out; omega
            go_wp2_with fail
            (with_reducible refine (filesAt_any t M S _ HT.out.2.1.tree HI.out).mono ?_)
            intro e w12 hf
            obtain ⟨v12, Z, rfl, hr12, hz12, hg12, hl12⟩ := FR.of hf
            obtain ⟨nz, hnz⟩ : ∃ nz, Z.length = nz := ⟨_, rfl⟩
            obtain ⟨az, cz, rfl⟩ := hr12.open hnz
            have hpos12 : 0 < w12.heap.size := by have h2 := hg12.size; omega
            have HSF := Lib.hid (sameFiles_any _ _ Z Y w12 (hr12.rf hnz hpos12) ((HT.out.2.2.1.stays hg12).rf HNY.out hpos12) (hz12.trans HY.out.symm) (by have := HI.out.len; omega))
            have HK12 := Lib.hid (HT.out.1.go (Since.of hg12))
            clear hf hr12 hz12 hg12 hl12 hnz hpos12
            dsimp only
            go_wp2_with fail
            (with_reducible refine HSF.out.mono ?_)
            rintro e w13 ⟨rfl, hg⟩
            have HK13 := Lib.hid (HK12.out.go (Since.of hg))
            clear hg
            dsimp only
            go_wp2
            go_ret
            exact ⟨rfl, HK13.out.grown⟩
end Go.Proofs.YtichejodbohldaaGreatDoor
