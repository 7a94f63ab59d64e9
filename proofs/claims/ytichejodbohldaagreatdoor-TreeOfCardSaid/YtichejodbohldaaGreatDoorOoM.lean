/- The law TreeFull returns true. -/
import Derived.Test.YtichejodbohldaaGreatDoorOmM
import Derived.Laws.OwnMore
namespace Go.Proofs.YtichejodbohldaaGreatDoor
open Go.RowKit Go.Maps Go.Lib
set_option maxRecDepth 1000000
/-- The names of the directories. -/
def nmF (i : Nat) : ByteArray := ⟨#[UInt8.ofNat (97 + i / 26 % 26), UInt8.ofNat (97 + i % 26), UInt8.ofNat (97 + i / 676)]⟩
def fullM : Nat → Tr
  | 0 => []
  | i + 1 => (mkdirS (fullM i) (nmF i)).2
theorem inv_full : ∀ i, Inv (fullM i)
  | 0 => inv_nil
  | i + 1 => inv_mkdir (inv_full i) _
theorem part_cells (w : World) (L : List UInt8) (t : TypeId) : Part (w.alloc (.cells (L.map encB).toArray t)) (w.heap.size + 1) (.slice (some ⟨w.heap.size, 0, none⟩) L.length L.length) L :=
  ⟨_, L.length, w.heap.size, 0, rfl, Nat.le_refl _, fun h => by simp at h, Nat.lt_succ_self _, fun _ => rfl, fun j hj => by
    rw [Nat.zero_add, alloc_cell]
    show (L.map encB).toArray[j]? = _
    rw [List.getElem?_toArray]
    exact encB_at L j hj⟩
theorem u8_low (x : Nat) (h : x ≤ 100) : ((UInt8.ofNat (97 + x)).toNat : Int) = 97 + (x : Int) := by rw [UInt8.toNat_ofNat', Nat.mod_eq_of_lt (by omega)]; omega
theorem wrap_low (x : Nat) (h : x ≤ 100) : IntKind.u8.wrap (97 + (x : Int)) = 97 + (x : Int) := by simp [IntKind.wrap, IntKind.bits, IntKind.signed]; omega
/-- Three letters, made a text. -/
theorem conv_three (w : World) (x y z : Nat) (hx : x ≤ 100) (hy : y ≤ 100) (hz : z ≤ 100) : (convert 31 9 (.slice (some ⟨w.heap.size, 0, none⟩) 3 3)).run Tryz.prog (w.alloc (.cells #[.int .u8 (97 + (x : Int)), .int .u8 (97 + (y : Int)), .int .u8 (97 + (z : Int))] 5)) = .ok (.string ⟨#[UInt8.ofNat (97 + x), UInt8.ofNat (97 + y), UInt8.ofNat (97 + z)]⟩) (w.alloc (.cells #[.int .u8 (97 + (x : Int)), .int .u8 (97 + (y : Int)), .int .u8 (97 + (z : Int))] 5)) := by
  have h := conv_any (part_cells w [UInt8.ofNat (97 + x), UInt8.ofNat (97 + y), UInt8.ofNat (97 + z)] 5)
  have e : ([UInt8.ofNat (97 + x), UInt8.ofNat (97 + y), UInt8.ofNat (97 + z)].map encB).toArray = #[.int .u8 (97 + (x : Int)), .int .u8 (97 + (y : Int)), .int .u8 (97 + (z : Int))] := by
    simp only [List.map_cons, List.map_nil, encB, u8_low x hx, u8_low y hy, u8_low z hz]
  rw [e] at h
  exact h
/-! ### Pure: how much there may be in all -/
def nmY (i : Nat) : ByteArray := ⟨#[121]⟩ ++ ⟨#[UInt8.ofNat (97 + i)]⟩
abbrev pX1 : ByteArray := ⟨#[120]⟩
theorem nmY_facts : ∀ i : Fin 18, Pth.cleanS (nmY i.1) = (nmY i.1, 0) ∧ Pth.partsS (nmY i.1) = [nmY i.1] ∧ ¬ nmY i.1 = E0 ∧ ¬ pX1 = nmY i.1 := by decide +kernel
theorem nmY_ne : ∀ i j : Fin 18, i ≠ j → ¬ nmY i.1 = nmY j.1 := by decide +kernel
/-- A file at the top, where none is. -/
theorem put_top {M : Tr} {p : ByteArray} (hc : Pth.cleanS p = (p, 0)) (hp : Pth.partsS p = [p]) (h0 : ¬ p = E0) (hn : getA M p = none) (b : List UInt8) :
    putS M p (fun _ => b) = if b.length ≤ 65536 ∧ M.length + 1 ≤ 500 ∧ sizeT M + b.length ≤ 1048576 then (0, putA M p ⟨false, b⟩) else (55, M) := by
  have hd : dirT M p = false := by unfold dirT; rw [hn, decide_eq_false h0]; rfl
  have ha : aheadT M [p] = false := by
    unfold aheadT
    show fileN M [p] 1 = false
    unfold fileN fileN
    rw [upL_zero]
    unfold fileT dirT
    simp
  have hf : fileS M p = (p, 0) := by
    unfold fileS
    rw [hc]
    simp only [hp, hd, ha]
    simp
  have hup : upL [p] 1 = p := Pth.joinB_one p
  unfold putS
  rw [hf]
  simp only [hp]
  rw [if_neg (by simp)]
  show (if fitsT M [p] 0 b.length = true then (0, putA (mkN M [p] 0) p ⟨false, b⟩) else (55, M)) = _
  have hfit : fitsT M [p] 0 b.length = decide (b.length ≤ 65536 ∧ M.length + 1 ≤ 500 ∧ sizeT M + b.length ≤ 1048576) := by
    unfold fitsT moreT oldT lackN hasT
    rw [show (0 : Nat) + 1 = 1 from rfl, hup, hn, decide_eq_false h0]
    simp only [Option.isSome_none, Bool.or_self, Bool.false_eq_true, if_false, Option.map_none, Option.getD_none, Nat.zero_add]
    rw [Bool.eq_iff_iff]
    simp only [Bool.and_eq_true, decide_eq_true_eq]
    omega
  rw [hfit]
  unfold mkN
  simp only [decide_eq_true_eq]
/-- What the law's second loop keeps of its tree. -/
structure Us (s0 c i : Nat) (M : Tr) : Prop where
  inv : Inv M
  len : M.length ≤ 1 + i
  none' : ∀ j, i ≤ j → j < 18 → getA M (nmY j) = none
  size : sizeT M = s0 + 65536 * min i c
theorem Us.step {s0 c i : Nat} {M : Tr} (h : Us s0 c i M) (hi : i < 18) (h1 : s0 + 65536 * c ≤ 1048576) (h2 : 1048576 < s0 + 65536 * (c + 1)) (b : List UInt8) (hb : b.length = 65536) :
    ((i < c ∧ (putS M (nmY i) fun _ => b).1 = 0) ∨ (c ≤ i ∧ (putS M (nmY i) fun _ => b).1 = 55)) ∧ Us s0 c (i + 1) (putS M (nmY i) fun _ => b).2 := by
  obtain ⟨hc, hp, h0, _⟩ := nmY_facts ⟨i, hi⟩
  dsimp only at hc hp h0
  have hn := h.none' i (Nat.le_refl _) hi
  have hI := inv_puts h.inv (nmY i) fun _ => b
  have hl := h.len
  have hs := h.size
  rw [put_top hc hp h0 hn b] at hI ⊢
  rw [hb] at hI ⊢
  by_cases hic : i < c
  · have hm : min i c = i := by omega
    rw [hm] at hs
    have hmul : 65536 * (i + 1) ≤ 65536 * c := Nat.mul_le_mul_left _ (by omega)
    have hfit : 65536 ≤ 65536 ∧ M.length + 1 ≤ 500 ∧ sizeT M + 65536 ≤ 1048576 := ⟨Nat.le_refl _, by omega, by omega⟩
    rw [if_pos hfit] at hI ⊢
    refine ⟨.inl ⟨hic, rfl⟩, hI, ?_, fun j hj hj2 => ?_, ?_⟩
    · rw [put_len h.inv.asc, hn]; simp; omega
    · rw [getA_put_other _ _ _ _ (nmY_ne ⟨i, hi⟩ ⟨j, hj2⟩ (by simp; omega))]
      exact h.none' j (by omega) hj2
    · have := size_put M h.inv.asc (nmY i) ⟨false, b⟩
      rw [hn, show min (i + 1) c = i + 1 by omega] at *
      simp only [Option.map_none, Option.getD_none, hb] at this
      show sizeT (putA M (nmY i) ⟨false, b⟩) = _
      omega
  · have hm : min i c = c := by omega
    rw [hm] at hs
    have hfit : ¬ (65536 ≤ 65536 ∧ M.length + 1 ≤ 500 ∧ sizeT M + 65536 ≤ 1048576) := fun hx => by omega
    rw [if_neg hfit] at hI ⊢
    refine ⟨.inr ⟨by omega, rfl⟩, hI, by show M.length ≤ _; omega, fun j hj hj2 => h.none' j (by omega) hj2, ?_⟩
    show sizeT M = _
    rw [hs, show min (i + 1) c = c by omega]
theorem Us.start (b : List UInt8) (hb : 65534 ≤ b.length ∧ b.length ≤ 65537) : ∃ s0 c, c ≤ 16 ∧ s0 + 65536 * c ≤ 1048576 ∧ 1048576 < s0 + 65536 * (c + 1) ∧ Us s0 c 0 (putS [] pX1 fun _ => b).2 ∧ ((b.length ≤ 65536 ∧ (putS [] pX1 fun _ => b).1 = 0) ∨ (65536 < b.length ∧ (putS [] pX1 fun _ => b).1 = 55)) := by
  have hI := inv_puts inv_nil pX1 fun _ => b
  have hput := put_top (M := []) (p := pX1) (by decide +kernel) (by decide +kernel) (by decide) rfl b
  rw [hput] at hI ⊢
  by_cases h : b.length ≤ 65536
  · have hs0 : sizeT [] = 0 := rfl
    rw [if_pos ⟨h, by simp, by rw [hs0]; omega⟩] at hI ⊢
    refine ⟨b.length, 15, by omega, by omega, by omega, ⟨hI, Nat.le_refl _, fun j _ hj => ?_, ?_⟩, .inl ⟨h, rfl⟩⟩
    · show getA (putA [] pX1 _) (nmY j) = none
      rw [getA_put_other _ _ _ _ (nmY_facts ⟨j, hj⟩).2.2.2]; rfl
    · show sizeT [(pX1, ⟨false, b⟩)] = _
      show b.length + 0 = _
      simp
  · rw [if_neg (fun hx => h hx.1)] at hI ⊢
    exact ⟨0, 16, Nat.le_refl _, by omega, by omega, ⟨hI, Nat.zero_le _, fun j _ hj => rfl, rfl⟩, .inr ⟨by omega, rfl⟩⟩
theorem Both.far {B : Nat} {w w' : World} {t rb top : Nat} {M N : Tr} {S R : Nat → Prop} (h : Both B w t M S rb N R) (hk : Kept w w' fun k => top ≤ k) (hS : ∀ k, S k → k < top) (hR : ∀ k, R k → k < top) : Both B w' t M S rb N R :=
  ⟨⟨h.st.tree.keeps hk fun k hk2 e => by have := hS k hk2; omega, h.st.from'⟩, h.ref.keeps hk fun k hk2 e => by have := hR k hk2; omega, h.from', h.off, Nat.le_trans h.size hk.size⟩
theorem owns_zeros {w : World} {base n : Nat} {v : Value} (h : w.ownsRow base 5 1 v n (madeCells (Value.cells (.int .u8 0)) (n * 1)).toList) : Owns w base v (List.replicate n 0) := by
  have e : (madeCells (Value.cells (.int .u8 0)) (n * 1)).toList = (List.replicate n (0 : UInt8)).map encB := by
    rw [Nat.mul_one, show Value.cells (.int .u8 0) = #[.int .u8 0] from rfl, toList_madeCells_one, List.map_replicate]; rfl
  rw [e] at h
  show World.ownsRow _ _ _ _ _ _ _
  rw [List.length_replicate]
  exact h
theorem op_make {a : Act} {w : World} {o : Oper} {K : Act → World → Prop} {Q : Exit → Act → World → Prop} (n : Nat) (l c : Operand) (ho : o.op = .makeSlice 31 l c) (hl : a.eval l = .int .i64 (n : Int)) (hc : a.eval c = .int .i64 (n : Int)) (hn : n ≤ 1000000)
    (h : ∀ w', Owns w' w.heap.size (.slice (some ⟨w.heap.size, 0, none⟩) n n) (List.replicate n 0) → w.grownBy w' none → K (a.put o.dst (.slice (some ⟨w.heap.size, 0, none⟩) n n)) w') : o.wp Tryz.prog a w K Q := by
  obtain ⟨i0, hi, hz0, hz1, hz2⟩ := info_parts infoB
  obtain ⟨w', hrun, r1, r2⟩ := run_make_full (P := Tryz.prog) w w.heap.size 31 5 i0 (.int .u8 0) 1 Tryz.underlying31 hi hz0 hz1 .i64 .i64 n (by rw [hz2]; omega) (by unfold maxLen; omega) (Nat.le_refl _)
  unfold Oper.wp
  simp [execOp, ho, hl, hc, hrun, Result.andThen]
  exact h w' (owns_zeros r1) r2
set_option maxHeartbeats 16000000 in
theorem full_law (m : Int) (nn ex : Nat) (w : World) (hm : w.cell? ⟨0, 0, none⟩ = some (.int .i64 m)) (hnn : nn < 65536) (hex : ex < 256) :
    Calls Tryz.prog 6 #[.int .u16 (nn : Int), .int .u8 (ex : Int)] w fun e w' => e = .returned (.bool true) ∧ w.grownBy w' none := by
  have h0 : 0 < w.heap.size := World.block_lt_of_cell? _ _ hm
  have HM : Hid (∀ V, Since w.heap.size w V → V.cell? ⟨0, 0, none⟩ = some (.int .i64 m)) := Lib.hid fun V hV => hV.cell hm h0
  have HKN := Lib.hid (known_any m w hm)
  have H0 := Lib.hid h0
  have q6 : (nn : Int).tmod 6 = ((nn % 6 : Nat) : Int) := by rw [Int.tmod_eq_emod_of_nonneg (by omega)]; omega
  obtain ⟨k6, hk6⟩ : ∃ k6, nn % 6 = k6 := ⟨_, rfl⟩
  have hk5 : k6 ≤ 5 := by omega
  have q4 : (ex : Int).tmod 4 = ((ex % 4 : Nat) : Int) := by rw [Int.tmod_eq_emod_of_nonneg (by omega)]; omega
  obtain ⟨e4, he4⟩ : ∃ e4, ex % 4 = e4 := ⟨_, rfl⟩
  have he3 : e4 ≤ 3 := by omega
  rw [hk6] at q6
  rw [he4] at q4
  clear hm h0 hk6 he4
  go_enter Tryz.func6, Tryz.ntmps6
  go_wp2_with fail
  (with_reducible refine HKN.out.mono ?_)
  rintro e w1 ⟨rfl, hg⟩
  have G1 := Lib.hid hg
  clear hg
  dsimp only
  go_wp2_with fail
  (with_reducible refine (new_any _).mono ?_)
  rintro e w2 ⟨t, rfl, _, ht2, hg2⟩
  have HB2 := Lib.hid (Both.new G1.out.size ht2 hg2)
  have HK2 : Hid (Since w.heap.size w (w2.alloc (.cells #[.slice none 0 0] 30))) := Lib.hid (Since.of (World.grownBy.trans G1.out (World.grownBy.trans hg2 (World.grownBy_alloc _ _ _))))
  clear ht2 hg2
  dsimp only
  go_wp2_with fail
  obtain ⟨rb, hrb⟩ : ∃ rb, w2.heap.size = rb := ⟨_, rfl⟩
  obtain ⟨W3, hW3⟩ : ∃ W3, w2.alloc (.cells #[.slice none 0 0] 30) = W3 := ⟨_, rfl⟩
  rw [hrb, hW3] at HB2
  rw [hW3] at HK2
  rw [hrb, hW3]
  clear hrb hW3
  go_loopw [8] (fun i wr => ∃ j : Nat, j ≤ 497 + k6 ∧ i = .int .i64 (j : Int) ∧ Hid (Since w.heap.size w wr ∧ ∃ S R, Both w.heap.size wr t (fullM j) S rb (fullM j) R)) (fun i _ => 497 + k6 - (intOf i).toNat)
  case atStart => exact ⟨0, Nat.zero_le _, rfl, Lib.hid ⟨HK2.out, _, _, HB2.out⟩⟩
  case round =>
    obtain ⟨j, hj, rfl, HS⟩ := hrel
    obtain ⟨S, R, hbo⟩ := HS.out.2
    by_cases hlt : j < 497 + k6
    · have d1 : decide ((j : Int) < 497 + (k6 : Int)) = true := by simp; omega
      have q1 : (j : Int).tdiv 26 = ((j / 26 : Nat) : Int) := by rw [Int.tdiv_eq_ediv_of_nonneg (by omega)]; omega
      have q2 : ((j / 26 : Nat) : Int).tmod 26 = ((j / 26 % 26 : Nat) : Int) := by rw [Int.tmod_eq_emod_of_nonneg (by omega)]; omega
      have q3 : (j : Int).tmod 26 = ((j % 26 : Nat) : Int) := by rw [Int.tmod_eq_emod_of_nonneg (by omega)]; omega
      have q5 : (j : Int).tdiv 676 = ((j / 676 : Nat) : Int) := by rw [Int.tdiv_eq_ediv_of_nonneg (by omega)]; omega
      have HNM : Hid (nmF j = ⟨#[UInt8.ofNat (97 + j / 26 % 26), UInt8.ofNat (97 + j % 26), UInt8.ofNat (97 + j / 676)]⟩) := Lib.hid rfl
      obtain ⟨x, hx⟩ : ∃ x, j / 26 % 26 = x := ⟨_, rfl⟩
      obtain ⟨y, hy⟩ : ∃ y, j % 26 = y := ⟨_, rfl⟩
      obtain ⟨z, hz⟩ : ∃ z, j / 676 = z := ⟨_, rfl⟩
      obtain ⟨u, hu⟩ : ∃ u, j / 26 = u := ⟨_, rfl⟩
      have hx1 : x ≤ 100 := by omega
      have hy1 : y ≤ 100 := by omega
      have hz1 : z ≤ 100 := by omega
      have hu1 : u ≤ 600 := by omega
      rw [hx, hy, hz] at HNM
      rw [hu] at q1
      rw [hx, hu] at q2
      rw [hy] at q3
      rw [hz] at q5
      have w1' := wrap_low x hx1
      have w2' := wrap_low y hy1
      have w3' := wrap_low z hz1
      have cv := fun V => conv_three V x y z hx1 hy1 hz1
      simp only [← HNM.out] at cv
      have HD := Lib.hid hbo
      clear hbo hx hy hz hu
      have GA : Hid (wr.grownBy (wr.alloc (.cells #[.int .u8 (97 + (x : Int)), .int .u8 (97 + (y : Int)), .int .u8 (97 + (z : Int))] 5)) none) := Lib.hid (World.grownBy_alloc _ _ _)
      have HDA := Lib.hid (HD.out.stays GA.out)
      have HKA := Lib.hid (HS.out.1.go (Since.of GA.out))
      obtain ⟨q, hq⟩ : ∃ q, (mkdirS (fullM j) (nmF j)).1 = q := ⟨_, rfl⟩
      have HQ : Hid (mkdirS (fullM j) (nmF j) = (q, fullM (j + 1))) := Lib.hid (Prod.ext hq rfl)
      clear hq
      go_wp2_with fail
      (with_reducible refine (mkdir_any t (fullM j) S (nmF j) m _ HDA.out.st.tree (inv_full j) (HM.out _ HKA.out)).mono ?_)
      rw [HQ.out]
      intro e w5 hp
      have HD5 := Lib.hid (HDA.out.puts hp)
      have HK5 := Lib.hid (HKA.out.go HD5.out.2)
      obtain rfl := hp.1
      clear hp cv
      dsimp only
      go_wp2_with fail
      (with_reducible refine (refMkdir_any rb (fullM j) R (nmF j) _ HD5.out.1.ref (inv_full j)).mono ?_)
      rw [HQ.out]
      intro e w6 hp
      have HD6 := Lib.hid (HD5.out.1.refs hp)
      have HK6 := Lib.hid (HK5.out.go HD6.out.2)
      obtain rfl := hp.1
      clear hp
      dsimp only
      go_wp2_with fail
      refine ⟨⟨j + 1, by omega, congrArg (Value.int IntKind.i64) (by omega), Lib.hid ⟨HK6.out, _, _, HD6.out.1⟩⟩, ?_⟩
      simp only [intOf]
      omega
    · have d1 : decide ((j : Int) < 497 + (k6 : Int)) = false := by simp; omega
      have HD := Lib.hid hbo
      have HK := Lib.hid HS.out.1
      clear hbo HS HB2 HK2
      obtain ⟨i0, hi, hz0, hz1, hz2⟩ := info_parts infoB
      obtain ⟨nb, hnb⟩ : ∃ nb, 65534 + e4 = nb := ⟨_, rfl⟩
      have hnbI : (65534 : Int) + (e4 : Int) = (nb : Int) := by omega
      have hnbl : nb ≤ 65537 ∧ 65534 ≤ nb := by omega
      have HI0 := Lib.hid (And.intro hi (And.intro hz0 (And.intro hz1 hz2)))
      clear hi hz0 hz1 hz2
      go_wp2_with (at_make; refine wpList_make_full _ rfl _ _ 31 rfl wr.heap.size 5 i0 (.int .u8 0) 1 Tryz.underlying31 HI0.out.1 HI0.out.2.1 HI0.out.2.2.1 .i64 .i64 _ _ nb rfl rfl (by omega) (by omega) (by rw [HI0.out.2.2.2]; omega) (by unfold maxLen; omega) (Nat.le_refl _) ?_; intro w4 hown hgr; have HOW := Lib.hid hown; have HGR := Lib.hid hgr; clear hown hgr)
      have HOZ := Lib.hid (owns_zeros HOW.out)
      have HD4 := Lib.hid (HD.out.stays HGR.out)
      have HK4 := Lib.hid (HK.out.go (Since.of HGR.out))
      obtain ⟨zb, hzb⟩ : ∃ zb : List UInt8, List.replicate nb 0 = zb := ⟨_, rfl⟩
      have hzl : zb.length = nb := by rw [← hzb, List.length_replicate]
      rw [hzb] at HOZ
      have HZL := Lib.hid hzl
      clear hzb hzl HOW
      obtain ⟨top, htop⟩ : ∃ top, w4.heap.size = top := ⟨_, rfl⟩
      have HTOP : Hid (wr.heap.size < top ∧ (∀ k, S k → k < top) ∧ (∀ k, R k → k < top) ∧ w.heap.size ≤ top) := Lib.hid ⟨by
        rw [← htop]
        rcases HOZ.out.2 with ⟨h1, _⟩ | ⟨g, cap, cur, h1, h2, h3, _⟩
        · cases h1
        · have e : wr.heap.size = g := by have := (Value.slice.inj h1).1; simpa using this
          have := bk_size h3
          omega, fun k hk => by rw [← htop]; exact HD4.out.st.tree.lt k hk, fun k hk => by rw [← htop]; exact HD4.out.ref.2 k hk, by rw [← htop]; exact HK4.out.size⟩
      (with_reducible refine (new_any _).mono ?_)
      rintro e w5 ⟨ut, rfl, _, ht5, hg5⟩
      have HU5 : Hid (St top w5 ut [] (Grow w4 w5 fun _ => False)) := Lib.hid (by rw [← htop]; exact St.new ht5)
      have HD5 := Lib.hid (HD4.out.stays hg5)
      have HK5 := Lib.hid (HK4.out.go (Since.of hg5))
      have HO5 := Lib.hid (HOZ.out.stays hg5)
      have HT5 : Hid (top ≤ w5.heap.size) := Lib.hid (by rw [← htop]; exact hg5.size)
      clear ht5 hg5 htop HD4 HK4 HOZ HD HK
      dsimp only
      obtain ⟨s0, c, hc16, hs1, hs2, hus, hq0⟩ := Us.start zb (by rw [HZL.out]; omega)
      obtain ⟨⟨q0, U0⟩, hR0⟩ : ∃ Q, (putS [] pX1 fun _ => zb) = Q := ⟨_, rfl⟩
      rw [hR0] at hus hq0
      have HR0 := Lib.hid hR0
      have HUS := Lib.hid hus
      have HCC := Lib.hid (And.intro hs1 hs2)
      rw [HZL.out] at hq0
      dsimp only at hq0
      clear hR0 hus hs1 hs2
      go_wp2_with fail
      (with_reducible refine (write_any ut [] _ pX1 m _ nb nb zb _ HU5.out.tree inv_nil (HM.out _ HK5.out) (HO5.out.lie (fun k hk e => by
        have h1 := HU5.out.from' k e
        have h2 := HTOP.out.1
        have h3 : wr.heap.size = k := by simpa [Value.ownBlock] using hk
        omega) HU5.out.tree.lt) HZL.out (by omega)).mono ?_)
      rw [HR0.out]
      intro e w6 hp
      have hu6 := HU5.out.puts HT5.out hp
      have HU6 := Lib.hid hu6.1
      have HD6 := Lib.hid (HD5.out.far hu6.2 HTOP.out.2.1 HTOP.out.2.2.1)
      have HK6 : Hid (Since w.heap.size w w6) := Lib.hid (HK5.out.go (hu6.2.mono fun k _ e => Nat.le_trans HTOP.out.2.2.2 e))
      have HT6 : Hid (top ≤ w6.heap.size) := Lib.hid (Nat.le_trans HT5.out hu6.2.size)
      obtain rfl := hp.1
      clear hp hu6 HD5 HK5 HU5 HO5
      dsimp only
      have hq : (q0 = 0 ∧ decide (65536 < (nb : Int)) = false) ∨ (q0 = 55 ∧ decide (65536 < (nb : Int)) = true) := by
        rcases hq0 with ⟨h1, h2⟩ | ⟨h1, h2⟩
        · exact .inl ⟨h2, by simp; omega⟩
        · exact .inr ⟨h2, by simp; omega⟩
      clear hq0
      rcases hq with ⟨rfl, d5⟩ | ⟨rfl, d5⟩
      all_goals
        go_wp2_with fail
        obtain ⟨jj, hjj⟩ : ∃ jj, jj = j := ⟨_, rfl⟩
        have hU0 : Hid (∃ Su U, Since w.heap.size w w6 ∧ Both w.heap.size w6 t (fullM j) S rb (fullM j) R ∧ St top w6 ut U Su ∧ Us s0 c 0 U ∧ top ≤ w6.heap.size) := Lib.hid ⟨_, _, HK6.out, HD6.out, HU6.out, HUS.out, HT6.out⟩
        clear HK6 HD6 HU6 HUS HT6
        go_loopw [12, 13] (fun v i wr2 => ∃ (j2 : Nat) (q : Int), j2 ≤ 18 ∧ i = .int .i64 (j2 : Int) ∧ v = .int .i64 q ∧ (q = 0 ∨ q = 55) ∧ (17 < j2 → q = 55) ∧ Hid (∃ Su U, Since w.heap.size w wr2 ∧ Both w.heap.size wr2 t (fullM j) S rb (fullM j) R ∧ St top wr2 ut U Su ∧ Us s0 c j2 U ∧ top ≤ wr2.heap.size)) (fun _ i _ => 18 - (intOf i).toNat)
        case atStart => exact ⟨0, _, Nat.zero_le _, rfl, rfl, by simp, fun h => by omega, hU0⟩
        case round =>
          obtain ⟨j2, q, hj2, rfl, rfl, hq01, hq17, HS2⟩ := hrel
          obtain ⟨wr2, hwr2⟩ : ∃ wr2 : World, wr2 = wr := ⟨_, rfl⟩
          subst hwr2
          obtain ⟨Su, U, hll⟩ := HS2.out
          have HL := Lib.hid hll
          clear hll HS2
          by_cases h18 : j2 < 18
          · have d6 : decide ((j2 : Int) < 18) = true := by simp; omega
            have hwl := wrap_low j2 (by omega)
            go_wp2_with fail
            refine wp_region_noPanic ?_
            refine wp_region_held_drew (S := fun _ => True) (by kernel_rfl) trivial (fun _ => ?_)
            obtain ⟨W1, hW1⟩ : ∃ W1, wr2.drew = W1 := ⟨_, rfl⟩
            have GD : Hid (wr2.grownBy W1 none) := Lib.hid (by rw [← hW1]; exact ⟨rfl, rfl, rfl, Nat.le_refl _, fun _ _ _ => rfl⟩)
            rw [hW1]
            clear hW1
            obtain ⟨c2, hc2⟩ : ∃ c2, UInt8.ofNat (97 + j2) = c2 := ⟨_, rfl⟩
            have HNY : Hid (nmY j2 = ⟨#[121]⟩ ++ ⟨#[c2]⟩) := Lib.hid (by unfold nmY; rw [hc2])
            have HCL : Hid ((97 : Int) + (j2 : Int) = (c2.toNat : Int)) := Lib.hid (by rw [← hc2]; exact (u8_low j2 (by omega)).symm)
            clear hc2
            have hw64 : IntKind.i64.wrap (97 + (j2 : Int)) = 97 + (j2 : Int) := by simp [IntKind.wrap, IntKind.bits, IntKind.signed]; omega
            refine wpAnyH_take (i := 0) (v := (.pointer (some ⟨ut, 0, none⟩))) rfl (by kernel_rfl) (by kernel_rfl) (by kernel_rfl) (fun _ _ _ h => h) (Or.inl ⟨by rfl, fun V' hV' => by rfl⟩) trivial ?_
            try simp only [Act.put, List.getElem_toArray, List.getElem_cons_zero, List.getElem_cons_succ, List.setIfInBounds_toArray, List.set_cons_zero, List.set_cons_succ]
            refine wpAnyH_take (i := 1) (v := (.int .i64 (j2 : Int))) rfl (by kernel_rfl) (by kernel_rfl) (by kernel_rfl) (fun _ _ _ h => h) (Or.inl ⟨by rfl, fun V' hV' => by rfl⟩) trivial ?_
            try simp only [Act.put, List.getElem_toArray, List.getElem_cons_zero, List.getElem_cons_succ, List.setIfInBounds_toArray, List.set_cons_zero, List.set_cons_succ]
            refine wpAnyH_take (i := 2) (v := (.int .i64 (97 + (j2 : Int)))) rfl (by kernel_rfl) (by kernel_rfl) (by kernel_rfl) (fun _ _ _ h => h) (Or.inl ⟨by rfl, fun V' hV' => by go_simp⟩) trivial ?_
            try simp only [Act.put, List.getElem_toArray, List.getElem_cons_zero, List.getElem_cons_succ, List.setIfInBounds_toArray, List.set_cons_zero, List.set_cons_succ]
            refine wpAnyH_take (i := 3) (v := (.int .u8 (97 + (j2 : Int)))) rfl (by kernel_rfl) (by kernel_rfl) (by kernel_rfl) (fun _ _ _ h => h) (Or.inl ⟨by rfl, fun V' hV' => by go_simp⟩) trivial ?_
            try simp only [Act.put, List.getElem_toArray, List.getElem_cons_zero, List.getElem_cons_succ, List.setIfInBounds_toArray, List.set_cons_zero, List.set_cons_succ]
            refine wpAnyH_ready (rs := [4, 7]) (by kernel_rfl) (by simp) ?_
            refine AllReadyH.cons rfl (fun K hK => ?_) (AllReadyH.cons rfl (fun K hK => ?_) AllReadyH.nil)
            · rw [if_pos (by rfl)]
              go_simp
              refine hK.out _ _ trivial (fun _ => ?_)
              clear hK K
              try simp only [Act.put, List.getElem_toArray, List.getElem_cons_zero, List.getElem_cons_succ, List.setIfInBounds_toArray, List.set_cons_zero, List.set_cons_succ]
              obtain ⟨q8, hq8⟩ : ∃ q8, W1.heap.size = q8 := ⟨_, rfl⟩
              obtain ⟨V1, hV1⟩ : ∃ V1, W1.alloc (.cells #[.int .u8 (97 + (j2 : Int))] 5) = V1 := ⟨_, rfl⟩
              have hpV1 : Part V1 (q8 + 1) (.slice (some ⟨q8, 0, none⟩) 1 1) [c2] := by rw [← hV1, ← hq8]; exact part_one W1 _ _ _ HCL.out
              have gV1 : W1.grownBy V1 none := by rw [← hV1]; exact World.grownBy_alloc _ _ _
              rw [hq8, hV1]
              clear hq8 hV1
              refine wpAnyH_ready (rs := [5, 7]) (by kernel_rfl) (by simp) ?_
              refine AllReadyH.cons rfl (fun K hK => ?_) (AllReadyH.cons rfl (fun K hK => ?_) AllReadyH.nil)
              · rw [if_pos (by rfl)]
                have cv : (convert 31 9 (.slice (some ⟨q8, 0, none⟩) 1 1)).run Tryz.prog V1 = .ok (.string ⟨#[c2]⟩) V1 := conv_any (hpV1)
                go_simp
                refine hK.out _ _ trivial (fun _ => ?_)
                clear hK K
                try simp only [Act.put, List.getElem_toArray, List.getElem_cons_zero, List.getElem_cons_succ, List.setIfInBounds_toArray, List.set_cons_zero, List.set_cons_succ]
                clear cv
                refine wpAnyH_take (i := 6) (v := (.string (⟨#[121]⟩ ++ ⟨#[c2]⟩))) rfl (by kernel_rfl) (by kernel_rfl) (by kernel_rfl) (fun _ _ _ h => h) (Or.inl ⟨by rfl, fun V' hV' => by go_simp⟩) trivial ?_
                try simp only [Act.put, List.getElem_toArray, List.getElem_cons_zero, List.getElem_cons_succ, List.setIfInBounds_toArray, List.set_cons_zero, List.set_cons_succ]
                refine wpAnyH_ready (rs := [7]) (by kernel_rfl) (by simp) ?_
                refine AllReadyH.cons rfl (fun K hK => ?_) AllReadyH.nil
                rw [if_pos (by rfl)]
                refine op_make 65536 _ _ rfl rfl rfl (by omega) (fun V2 hoV2 gV2 => ?_)
                obtain ⟨zb2, hzb2⟩ : ∃ zb2 : List UInt8, List.replicate 65536 0 = zb2 := ⟨_, rfl⟩
                rw [hzb2] at hoV2
                have hzl2 : zb2.length = 65536 := by rw [← hzb2, List.length_replicate]
                obtain ⟨q9, hq9⟩ : ∃ q9, V1.heap.size = q9 := ⟨_, rfl⟩
                rw [hq9] at hoV2 ⊢
                clear hzb2
                refine hK.out _ _ trivial (fun _ => ?_)
                clear hK K
                try simp only [Act.put, List.getElem_toArray, List.getElem_cons_zero, List.getElem_cons_succ, List.setIfInBounds_toArray, List.set_cons_zero, List.set_cons_succ]
                have GV : Hid (wr2.grownBy V2 none) := Lib.hid (World.grownBy.trans GD.out (World.grownBy.trans gV1 gV2))
                have HOV : Hid (Owns V2 q9 (.slice (some ⟨q9, 0, none⟩) 65536 65536) zb2 ∧ wr2.heap.size ≤ q9 ∧ zb2.length = 65536) := Lib.hid ⟨hoV2, by rw [← hq9]; exact Nat.le_trans GD.out.size gV1.size, hzl2⟩
                clear hpV1 hq9 gV1 gV2 hoV2
                refine wpAnyH_ready (rs := [8]) (by kernel_rfl) (by simp) ?_
                refine AllReadyH.cons rfl (fun K hK => ?_) AllReadyH.nil
                rw [if_pos (by rfl)]
                have HBV := Lib.hid (HL.out.2.1.stays GV.out)
                have HKV := Lib.hid (HL.out.1.go (Since.of GV.out))
                have HUV := Lib.hid (HL.out.2.2.1.stays GV.out)
                have HTV : Hid (top ≤ V2.heap.size) := Lib.hid (Nat.le_trans HL.out.2.2.2.2 GV.out.size)
                have HST := HL.out.2.2.2.1.step (by omega) HCC.out.1 HCC.out.2 zb2 HOV.out.2.2
                obtain ⟨⟨q1, U1⟩, hR1⟩ : ∃ Q, (putS U (nmY j2) fun _ => zb2) = Q := ⟨_, rfl⟩
                rw [hR1] at HST
                have HR1 := Lib.hid hR1
                have HUS1 := Lib.hid HST.2
                have hq1 : (q1 = 0 ∨ q1 = 55) ∧ (17 ≤ j2 → q1 = 55) := by
                  rcases HST.1 with ⟨h1, h2⟩ | ⟨h1, h2⟩
                  · exact ⟨.inl h2, fun h => by omega⟩
                  · exact ⟨.inr h2, fun _ => h2⟩
                have HQ1 := Lib.hid hq1
                clear hR1 HST hq1
                have HWR : Hid (Calls Tryz.prog 14 #[.pointer (some ⟨ut, 0, none⟩), .string (⟨#[121]⟩ ++ ⟨#[c2]⟩), .slice (some ⟨q9, 0, none⟩) 65536 65536] V2 (PutsRet ut (q1, U1) V2 Su)) := Lib.hid (by
                  have := write_any ut U Su (nmY j2) m (some ⟨q9, 0, none⟩) 65536 65536 zb2 V2 HUV.out.tree HL.out.2.2.2.1.inv (HM.out _ HKV.out) (HOV.out.1.lie (fun k hk e => by
                    have h1 := HL.out.2.2.1.tree.lt k e
                    have h2 := HOV.out.2.1
                    have h3 : q9 = k := by simpa [Value.ownBlock] using hk
                    omega) HUV.out.tree.lt) HOV.out.2.2 (by omega)
                  rw [HR1.out, HNY.out] at this
                  exact this)
                go_simp
                (with_reducible refine HWR.out.mono ?_)
                intro e V9 hp
                have hu9 := HUV.out.puts HTV.out hp
                have HU9 := Lib.hid hu9.1
                have HB9 := Lib.hid (HBV.out.far hu9.2 HTOP.out.2.1 HTOP.out.2.2.1)
                have HK9 : Hid (Since w.heap.size w V9) := Lib.hid (HKV.out.go (hu9.2.mono fun k _ e => Nat.le_trans HTOP.out.2.2.2 e))
                have HT9 : Hid (top ≤ V9.heap.size) := Lib.hid (Nat.le_trans HTV.out hu9.2.size)
                obtain rfl := hp.1
                clear hp hu9 HBV HKV HUV HTV
                dsimp only
                refine hK.out _ _ trivial (fun _ => ?_)
                clear hK K
                try simp only [Act.put, List.getElem_toArray, List.getElem_cons_zero, List.getElem_cons_succ, List.setIfInBounds_toArray, List.set_cons_zero, List.set_cons_succ]
                refine wpAnyH_ready (rs := [9]) (by kernel_rfl) (by simp) ?_
                refine AllReadyH.cons rfl (fun K hK => ?_) AllReadyH.nil
                rw [if_pos (by rfl)]
                go_simp
                refine hK.out _ _ trivial (fun _ => ?_)
                clear hK K
                try simp only [Act.put, List.getElem_toArray, List.getElem_cons_zero, List.getElem_cons_succ, List.setIfInBounds_toArray, List.set_cons_zero, List.set_cons_succ]
                refine wpAnyH_done (by kernel_rfl) ?_ _
                refine NoPanic.normal ?_
                have hsz9 : sizeT U1 ≤ 1048576 := HUS1.out.inv.size
                obtain ⟨sz, hszE⟩ : ∃ sz, sizeT U1 = sz := ⟨_, rfl⟩
                have HSZ9 : Hid (∀ V S, TreeAt V ut U1 S → Calls Tryz.prog 31 #[.pointer (some ⟨ut, 0, none⟩)] V fun e w' => e = .returned (.int .i64 (sz : Int)) ∧ w' = V) := Lib.hid fun V S hS => by
                  rw [← hszE]; exact size_any ut U1 S V hS
                rw [hszE] at hsz9
                have dsz : decide (1048576 < (sz : Int)) = false := by simp; omega
                clear hszE
                rcases HQ1.out.1 with rfl | rfl
                all_goals
                  go_wp2_with fail
                  (with_reducible refine (HSZ9.out _ _ HU9.out.tree).mono ?_)
                  rintro e V10 ⟨rfl, rfl⟩
                  dsimp only
                  go_wp2_with fail
                  go_roundw
                  case rel => exact ⟨j2 + 1, _, by omega, by go_num, rfl, by simp, fun h => by first | rfl | (have h9 := HQ1.out.2; omega) | (have h9 := HQ1.out.2; simp at h9; omega), Lib.hid ⟨_, U1, HK9.out, HB9.out, HU9.out, HUS1.out, HT9.out⟩⟩
                  case measure => simp [intOf]; omega
              · rw [if_pos (by rfl)]
                refine op_make 65536 _ _ rfl rfl rfl (by omega) (fun V2 hoV2 gV2 => ?_)
                obtain ⟨zb2, hzb2⟩ : ∃ zb2 : List UInt8, List.replicate 65536 0 = zb2 := ⟨_, rfl⟩
                rw [hzb2] at hoV2
                have hzl2 : zb2.length = 65536 := by rw [← hzb2, List.length_replicate]
                obtain ⟨q9, hq9⟩ : ∃ q9, V1.heap.size = q9 := ⟨_, rfl⟩
                rw [hq9] at hoV2 ⊢
                clear hzb2
                refine hK.out _ _ trivial (fun _ => ?_)
                clear hK K
                try simp only [Act.put, List.getElem_toArray, List.getElem_cons_zero, List.getElem_cons_succ, List.setIfInBounds_toArray, List.set_cons_zero, List.set_cons_succ]
                refine wpAnyH_ready (rs := [5]) (by kernel_rfl) (by simp) ?_
                refine AllReadyH.cons rfl (fun K hK => ?_) AllReadyH.nil
                rw [if_pos (by rfl)]
                have cv : (convert 31 9 (.slice (some ⟨q8, 0, none⟩) 1 1)).run Tryz.prog V2 = .ok (.string ⟨#[c2]⟩) V2 := conv_any (hpV1.stays gV2)
                go_simp
                refine hK.out _ _ trivial (fun _ => ?_)
                clear hK K
                try simp only [Act.put, List.getElem_toArray, List.getElem_cons_zero, List.getElem_cons_succ, List.setIfInBounds_toArray, List.set_cons_zero, List.set_cons_succ]
                clear cv
                refine wpAnyH_take (i := 6) (v := (.string (⟨#[121]⟩ ++ ⟨#[c2]⟩))) rfl (by kernel_rfl) (by kernel_rfl) (by kernel_rfl) (fun _ _ _ h => h) (Or.inl ⟨by rfl, fun V' hV' => by go_simp⟩) trivial ?_
                try simp only [Act.put, List.getElem_toArray, List.getElem_cons_zero, List.getElem_cons_succ, List.setIfInBounds_toArray, List.set_cons_zero, List.set_cons_succ]
                have GV : Hid (wr2.grownBy V2 none) := Lib.hid (World.grownBy.trans GD.out (World.grownBy.trans gV1 gV2))
                have HOV : Hid (Owns V2 q9 (.slice (some ⟨q9, 0, none⟩) 65536 65536) zb2 ∧ wr2.heap.size ≤ q9 ∧ zb2.length = 65536) := Lib.hid ⟨hoV2, by rw [← hq9]; exact Nat.le_trans GD.out.size gV1.size, hzl2⟩
                clear hpV1 hq9 gV1 gV2 hoV2
                refine wpAnyH_ready (rs := [8]) (by kernel_rfl) (by simp) ?_
                refine AllReadyH.cons rfl (fun K hK => ?_) AllReadyH.nil
                rw [if_pos (by rfl)]
                have HBV := Lib.hid (HL.out.2.1.stays GV.out)
                have HKV := Lib.hid (HL.out.1.go (Since.of GV.out))
                have HUV := Lib.hid (HL.out.2.2.1.stays GV.out)
                have HTV : Hid (top ≤ V2.heap.size) := Lib.hid (Nat.le_trans HL.out.2.2.2.2 GV.out.size)
                have HST := HL.out.2.2.2.1.step (by omega) HCC.out.1 HCC.out.2 zb2 HOV.out.2.2
                obtain ⟨⟨q1, U1⟩, hR1⟩ : ∃ Q, (putS U (nmY j2) fun _ => zb2) = Q := ⟨_, rfl⟩
                rw [hR1] at HST
                have HR1 := Lib.hid hR1
                have HUS1 := Lib.hid HST.2
                have hq1 : (q1 = 0 ∨ q1 = 55) ∧ (17 ≤ j2 → q1 = 55) := by
                  rcases HST.1 with ⟨h1, h2⟩ | ⟨h1, h2⟩
                  · exact ⟨.inl h2, fun h => by omega⟩
                  · exact ⟨.inr h2, fun _ => h2⟩
                have HQ1 := Lib.hid hq1
                clear hR1 HST hq1
                have HWR : Hid (Calls Tryz.prog 14 #[.pointer (some ⟨ut, 0, none⟩), .string (⟨#[121]⟩ ++ ⟨#[c2]⟩), .slice (some ⟨q9, 0, none⟩) 65536 65536] V2 (PutsRet ut (q1, U1) V2 Su)) := Lib.hid (by
                  have := write_any ut U Su (nmY j2) m (some ⟨q9, 0, none⟩) 65536 65536 zb2 V2 HUV.out.tree HL.out.2.2.2.1.inv (HM.out _ HKV.out) (HOV.out.1.lie (fun k hk e => by
                    have h1 := HL.out.2.2.1.tree.lt k e
                    have h2 := HOV.out.2.1
                    have h3 : q9 = k := by simpa [Value.ownBlock] using hk
                    omega) HUV.out.tree.lt) HOV.out.2.2 (by omega)
                  rw [HR1.out, HNY.out] at this
                  exact this)
                go_simp
                (with_reducible refine HWR.out.mono ?_)
                intro e V9 hp
                have hu9 := HUV.out.puts HTV.out hp
                have HU9 := Lib.hid hu9.1
                have HB9 := Lib.hid (HBV.out.far hu9.2 HTOP.out.2.1 HTOP.out.2.2.1)
                have HK9 : Hid (Since w.heap.size w V9) := Lib.hid (HKV.out.go (hu9.2.mono fun k _ e => Nat.le_trans HTOP.out.2.2.2 e))
                have HT9 : Hid (top ≤ V9.heap.size) := Lib.hid (Nat.le_trans HTV.out hu9.2.size)
                obtain rfl := hp.1
                clear hp hu9 HBV HKV HUV HTV
                dsimp only
                refine hK.out _ _ trivial (fun _ => ?_)
                clear hK K
                try simp only [Act.put, List.getElem_toArray, List.getElem_cons_zero, List.getElem_cons_succ, List.setIfInBounds_toArray, List.set_cons_zero, List.set_cons_succ]
                refine wpAnyH_ready (rs := [9]) (by kernel_rfl) (by simp) ?_
                refine AllReadyH.cons rfl (fun K hK => ?_) AllReadyH.nil
                rw [if_pos (by rfl)]
                go_simp
                refine hK.out _ _ trivial (fun _ => ?_)
                clear hK K
                try simp only [Act.put, List.getElem_toArray, List.getElem_cons_zero, List.getElem_cons_succ, List.setIfInBounds_toArray, List.set_cons_zero, List.set_cons_succ]
                refine wpAnyH_done (by kernel_rfl) ?_ _
                refine NoPanic.normal ?_
                have hsz9 : sizeT U1 ≤ 1048576 := HUS1.out.inv.size
                obtain ⟨sz, hszE⟩ : ∃ sz, sizeT U1 = sz := ⟨_, rfl⟩
                have HSZ9 : Hid (∀ V S, TreeAt V ut U1 S → Calls Tryz.prog 31 #[.pointer (some ⟨ut, 0, none⟩)] V fun e w' => e = .returned (.int .i64 (sz : Int)) ∧ w' = V) := Lib.hid fun V S hS => by
                  rw [← hszE]; exact size_any ut U1 S V hS
                rw [hszE] at hsz9
                have dsz : decide (1048576 < (sz : Int)) = false := by simp; omega
                clear hszE
                rcases HQ1.out.1 with rfl | rfl
                all_goals
                  go_wp2_with fail
                  (with_reducible refine (HSZ9.out _ _ HU9.out.tree).mono ?_)
                  rintro e V10 ⟨rfl, rfl⟩
                  dsimp only
                  go_wp2_with fail
                  go_roundw
                  case rel => exact ⟨j2 + 1, _, by omega, by go_num, rfl, by simp, fun h => by first | rfl | (have h9 := HQ1.out.2; omega) | (have h9 := HQ1.out.2; simp at h9; omega), Lib.hid ⟨_, U1, HK9.out, HB9.out, HU9.out, HUS1.out, HT9.out⟩⟩
                  case measure => simp [intOf]; omega
            · rw [if_pos (by rfl)]
              refine op_make 65536 _ _ rfl rfl rfl (by omega) (fun V1 hoV1 gV1 => ?_)
              obtain ⟨zb2, hzb2⟩ : ∃ zb2 : List UInt8, List.replicate 65536 0 = zb2 := ⟨_, rfl⟩
              rw [hzb2] at hoV1
              have hzl2 : zb2.length = 65536 := by rw [← hzb2, List.length_replicate]
              obtain ⟨q9, hq9⟩ : ∃ q9, W1.heap.size = q9 := ⟨_, rfl⟩
              rw [hq9] at hoV1 ⊢
              clear hzb2
              refine hK.out _ _ trivial (fun _ => ?_)
              clear hK K
              try simp only [Act.put, List.getElem_toArray, List.getElem_cons_zero, List.getElem_cons_succ, List.setIfInBounds_toArray, List.set_cons_zero, List.set_cons_succ]
              refine wpAnyH_ready (rs := [4]) (by kernel_rfl) (by simp) ?_
              refine AllReadyH.cons rfl (fun K hK => ?_) AllReadyH.nil
              rw [if_pos (by rfl)]
              go_simp
              refine hK.out _ _ trivial (fun _ => ?_)
              clear hK K
              try simp only [Act.put, List.getElem_toArray, List.getElem_cons_zero, List.getElem_cons_succ, List.setIfInBounds_toArray, List.set_cons_zero, List.set_cons_succ]
              obtain ⟨q8, hq8⟩ : ∃ q8, V1.heap.size = q8 := ⟨_, rfl⟩
              obtain ⟨V2, hV2⟩ : ∃ V2, V1.alloc (.cells #[.int .u8 (97 + (j2 : Int))] 5) = V2 := ⟨_, rfl⟩
              have hpV2 : Part V2 (q8 + 1) (.slice (some ⟨q8, 0, none⟩) 1 1) [c2] := by rw [← hV2, ← hq8]; exact part_one V1 _ _ _ HCL.out
              have gV2 : V1.grownBy V2 none := by rw [← hV2]; exact World.grownBy_alloc _ _ _
              rw [hq8, hV2]
              clear hq8 hV2
              refine wpAnyH_ready (rs := [5]) (by kernel_rfl) (by simp) ?_
              refine AllReadyH.cons rfl (fun K hK => ?_) AllReadyH.nil
              rw [if_pos (by rfl)]
              have cv : (convert 31 9 (.slice (some ⟨q8, 0, none⟩) 1 1)).run Tryz.prog V2 = .ok (.string ⟨#[c2]⟩) V2 := conv_any (hpV2)
              go_simp
              refine hK.out _ _ trivial (fun _ => ?_)
              clear hK K
              try simp only [Act.put, List.getElem_toArray, List.getElem_cons_zero, List.getElem_cons_succ, List.setIfInBounds_toArray, List.set_cons_zero, List.set_cons_succ]
              clear cv
              refine wpAnyH_take (i := 6) (v := (.string (⟨#[121]⟩ ++ ⟨#[c2]⟩))) rfl (by kernel_rfl) (by kernel_rfl) (by kernel_rfl) (fun _ _ _ h => h) (Or.inl ⟨by rfl, fun V' hV' => by go_simp⟩) trivial ?_
              try simp only [Act.put, List.getElem_toArray, List.getElem_cons_zero, List.getElem_cons_succ, List.setIfInBounds_toArray, List.set_cons_zero, List.set_cons_succ]
              have GV : Hid (wr2.grownBy V2 none) := Lib.hid (World.grownBy.trans GD.out (World.grownBy.trans gV1 gV2))
              have HOV : Hid (Owns V2 q9 (.slice (some ⟨q9, 0, none⟩) 65536 65536) zb2 ∧ wr2.heap.size ≤ q9 ∧ zb2.length = 65536) := Lib.hid ⟨(hoV1.stays gV2), by rw [← hq9]; exact GD.out.size, hzl2⟩
              clear hpV2 hq9 gV1 gV2 hoV1
              refine wpAnyH_ready (rs := [8]) (by kernel_rfl) (by simp) ?_
              refine AllReadyH.cons rfl (fun K hK => ?_) AllReadyH.nil
              rw [if_pos (by rfl)]
              have HBV := Lib.hid (HL.out.2.1.stays GV.out)
              have HKV := Lib.hid (HL.out.1.go (Since.of GV.out))
              have HUV := Lib.hid (HL.out.2.2.1.stays GV.out)
              have HTV : Hid (top ≤ V2.heap.size) := Lib.hid (Nat.le_trans HL.out.2.2.2.2 GV.out.size)
              have HST := HL.out.2.2.2.1.step (by omega) HCC.out.1 HCC.out.2 zb2 HOV.out.2.2
              obtain ⟨⟨q1, U1⟩, hR1⟩ : ∃ Q, (putS U (nmY j2) fun _ => zb2) = Q := ⟨_, rfl⟩
              rw [hR1] at HST
              have HR1 := Lib.hid hR1
              have HUS1 := Lib.hid HST.2
              have hq1 : (q1 = 0 ∨ q1 = 55) ∧ (17 ≤ j2 → q1 = 55) := by
                rcases HST.1 with ⟨h1, h2⟩ | ⟨h1, h2⟩
                · exact ⟨.inl h2, fun h => by omega⟩
                · exact ⟨.inr h2, fun _ => h2⟩
              have HQ1 := Lib.hid hq1
              clear hR1 HST hq1
              have HWR : Hid (Calls Tryz.prog 14 #[.pointer (some ⟨ut, 0, none⟩), .string (⟨#[121]⟩ ++ ⟨#[c2]⟩), .slice (some ⟨q9, 0, none⟩) 65536 65536] V2 (PutsRet ut (q1, U1) V2 Su)) := Lib.hid (by
                have := write_any ut U Su (nmY j2) m (some ⟨q9, 0, none⟩) 65536 65536 zb2 V2 HUV.out.tree HL.out.2.2.2.1.inv (HM.out _ HKV.out) (HOV.out.1.lie (fun k hk e => by
                  have h1 := HL.out.2.2.1.tree.lt k e
                  have h2 := HOV.out.2.1
                  have h3 : q9 = k := by simpa [Value.ownBlock] using hk
                  omega) HUV.out.tree.lt) HOV.out.2.2 (by omega)
                rw [HR1.out, HNY.out] at this
                exact this)
              go_simp
              (with_reducible refine HWR.out.mono ?_)
              intro e V9 hp
              have hu9 := HUV.out.puts HTV.out hp
              have HU9 := Lib.hid hu9.1
              have HB9 := Lib.hid (HBV.out.far hu9.2 HTOP.out.2.1 HTOP.out.2.2.1)
              have HK9 : Hid (Since w.heap.size w V9) := Lib.hid (HKV.out.go (hu9.2.mono fun k _ e => Nat.le_trans HTOP.out.2.2.2 e))
              have HT9 : Hid (top ≤ V9.heap.size) := Lib.hid (Nat.le_trans HTV.out hu9.2.size)
              obtain rfl := hp.1
              clear hp hu9 HBV HKV HUV HTV
              dsimp only
              refine hK.out _ _ trivial (fun _ => ?_)
              clear hK K
              try simp only [Act.put, List.getElem_toArray, List.getElem_cons_zero, List.getElem_cons_succ, List.setIfInBounds_toArray, List.set_cons_zero, List.set_cons_succ]
              refine wpAnyH_ready (rs := [9]) (by kernel_rfl) (by simp) ?_
              refine AllReadyH.cons rfl (fun K hK => ?_) AllReadyH.nil
              rw [if_pos (by rfl)]
              go_simp
              refine hK.out _ _ trivial (fun _ => ?_)
              clear hK K
              try simp only [Act.put, List.getElem_toArray, List.getElem_cons_zero, List.getElem_cons_succ, List.setIfInBounds_toArray, List.set_cons_zero, List.set_cons_succ]
              refine wpAnyH_done (by kernel_rfl) ?_ _
              refine NoPanic.normal ?_
              have hsz9 : sizeT U1 ≤ 1048576 := HUS1.out.inv.size
              obtain ⟨sz, hszE⟩ : ∃ sz, sizeT U1 = sz := ⟨_, rfl⟩
              have HSZ9 : Hid (∀ V S, TreeAt V ut U1 S → Calls Tryz.prog 31 #[.pointer (some ⟨ut, 0, none⟩)] V fun e w' => e = .returned (.int .i64 (sz : Int)) ∧ w' = V) := Lib.hid fun V S hS => by
                rw [← hszE]; exact size_any ut U1 S V hS
              rw [hszE] at hsz9
              have dsz : decide (1048576 < (sz : Int)) = false := by simp; omega
              clear hszE
              rcases HQ1.out.1 with rfl | rfl
              all_goals
                go_wp2_with fail
                (with_reducible refine (HSZ9.out _ _ HU9.out.tree).mono ?_)
                rintro e V10 ⟨rfl, rfl⟩
                dsimp only
                go_wp2_with fail
                go_roundw
                case rel => exact ⟨j2 + 1, _, by omega, by go_num, rfl, by simp, fun h => by first | rfl | (have h9 := HQ1.out.2; omega) | (have h9 := HQ1.out.2; simp at h9; omega), Lib.hid ⟨_, U1, HK9.out, HB9.out, HU9.out, HUS1.out, HT9.out⟩⟩
                case measure => simp [intOf]; omega
          · have d6 : decide ((j2 : Int) < 18) = false := by simp; omega
            obtain rfl := hq17 (by omega)
            have hb := HL.out.2.1
            have HB := Lib.hid hb
            have HKK := Lib.hid HL.out.1
            have hposx : 0 < wr2.heap.size := by have h1 := HKK.out.size; have h2 := H0.out; omega
            obtain ⟨ra, rn, rc, RY, hrn, hry, hrc, hrf, hrfs⟩ := HB.out.ref.read
            have GD2 : Hid (wr2.grownBy wr2.drew none) := Lib.hid ⟨rfl, rfl, rfl, Nat.le_refl _, fun _ _ _ => rfl⟩
            have HRC : Hid (∀ V : World, wr2.grownBy V none → V.cell? ⟨rb, 0, none⟩ = some (.slice ra rn rc)) := Lib.hid fun V hV => hV.cell hrc (by simp)
            have HRF : Hid (nds RY = fullM j ∧ ∀ w', wr2.grownBy w' none → RF w' (.slice ra rn rc) RY) := Lib.hid ⟨hry, hrfs⟩
            have HPX := Lib.hid hposx
            have HLZ : Hid (∀ Z : As Gn, nds Z = fullM j → Z.length ≤ 1000000) := Lib.hid fun Z hz => by
              have h1 := (inv_full j).len
              rw [← hz, mapA_len] at h1
              omega
            have HSAME : Hid (∀ (V V' : World) (az : Option Addr) (nz cz : Nat) (Z : As Gn), wr2.grownBy V none → FR V' V.heap.size V'.heap.size (.slice az nz cz) Z → Z.length = nz → nds Z = fullM j → V.grownBy V' none → Calls Tryz.prog 33 #[.slice az nz cz, .slice ra rn rc] V' fun e w' => e = .returned (.bool true) ∧ V'.grownBy w' none) := Lib.hid fun V V' az nz cz Z hV hfr hnz hz hVV =>
              sameFiles_any _ _ Z RY V' (hfr.rf hnz (by have h1 := HPX.out; have h2 := hV.size; have h3 := hVV.size; omega)) (HRF.out.2 _ (World.grownBy.trans hV hVV)) (hz.trans HRF.out.1.symm) (HLZ.out Z hz)
            have HFI : Hid (∀ V : World, wr2.grownBy V none → Calls Tryz.prog 34 #[.pointer (some ⟨t, 0, none⟩)] V (FilesRet V (fullM j))) := Lib.hid fun V hV => filesAt_any t (fullM j) S V (HB.out.stays hV).st.tree (inv_full j)
            clear hrn hry hrc hrf hrfs hb hposx
            go_wp2_with fail
            go_region_held3 (fun V => V.cell? ⟨rb, 0, none⟩ = some (.slice ra rn rc)) (first | (with_reducible exact HRC.out _ GD2.out) | (with_reducible exact HRC.out _ HG12.out) | (with_reducible exact HRC.out _ HG13.out)) (first | ((with_reducible refine (HFI.out _ GD2.out).mono ?_); intro e w12 hf; obtain ⟨v12, Z, rfl, hr12, hz12, hg12, hl12⟩ := FR.of hf; obtain ⟨nz, hnz⟩ : ∃ nz, Z.length = nz := ⟨_, rfl⟩; obtain ⟨az, cz, rfl⟩ := hr12.open hnz; have HG12 := Lib.hid (World.grownBy.trans GD2.out hg12); have HS13 := Lib.hid (HSAME.out _ _ az nz cz Z GD2.out hr12 hnz hz12 hg12); clear hf hr12 hz12 hg12 hl12 hnz) | ((with_reducible refine HS13.out.mono ?_); rintro e w13 ⟨rfl, hg⟩; have HG13 := Lib.hid (World.grownBy.trans HG12.out hg); clear hg))
            have HK13 := Lib.hid (HKK.out.go (Since.of HG13.out))
            go_wp2
            go_ret
            exact ⟨rfl, HK13.out.grown⟩
end Go.Proofs.YtichejodbohldaaGreatDoor
