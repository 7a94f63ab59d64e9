/- Texts of one ground, in one file: Vf Vg Vh Vi Vj Vk. -/
import Derived.Test.YthdopcdllggdaaaGreatDoorP1
import Derived.Sort.Grow
import Derived.BigRegion
import Derived.RegionTactic
import Derived.ChangeAlike
import Derived.WalkLawsBesides
namespace Go.Proofs.YthdopcdllggdaaaGreatDoor
open Go.RowKit

theorem dash_none (s : ByteArray) (h : ∀ j, j < s.size → byteAt s j ≠ 45) : dashS s = (s, ⟨#[]⟩, false) := by
  have e : Lib.index s.data.toList [45] = -1 := noindex_d 45 s h
  unfold dashS Lib.cut
  rw [e, if_neg (by omega)]
  exact Prod.ext (toB_data s) rfl
theorem dash_hit (s : ByteArray) (i : Nat) (hi : i < s.size) (h1 : byteAt s i = 45) (h2 : ∀ j, j < i → byteAt s j ≠ 45) : dashS s = (s.extract 0 i, s.extract (i + 1) s.size, true) := by
  have e : Lib.index s.data.toList [45] = i := index_d 45 s i hi h1 h2
  unfold dashS Lib.cut
  rw [e, if_pos (by omega)]
  have e1 : toB (s.data.toList.take i) = s.extract 0 i := by rw [← extract_head, toB_data]
  have e2 : toB (s.data.toList.drop (i + 1)) = s.extract (i + 1) s.size := by rw [← extract_tail, toB_data]
  exact Prod.ext e1 (Prod.ext e2 rfl)
theorem numTo_ge (s : ByteArray) (k : Nat) (h : allTo isDig s (k + 1) = true) (h0 : 49 ≤ (byteAt s 0).toNat) : 10 ^ k ≤ numTo s (k + 1) := by
  induction k with
  | zero => rw [numTo, numTo]; omega
  | succ k ih =>
    rw [allTo, Bool.and_eq_true] at h
    have := ih h.1
    rw [numTo, Nat.pow_succ]
    omega
theorem okNum_ref (x : ByteArray) : (refNum x 999999999).2 = okNum x ∧ (okNum x = true → (refNum x 999999999).1 = (num x : Int)) := by
  unfold refNum okNum
  cases hn : isNum x with
  | false => simp
  | true =>
    by_cases h10 : x.size ≤ 10
    · rw [if_pos ⟨rfl, h10⟩]
      refine ⟨?_, fun _ => rfl⟩
      have hd : allDig x = true := by
        unfold isNum at hn
        rw [Bool.and_eq_true] at hn
        exact hn.1
      have hall : allTo isDig x x.size = true := by
        unfold allDig at hd
        rw [Bool.and_eq_true] at hd
        exact hd.1
      have hpos := size_pos x (allDig_pos x hd)
      simp only [Bool.true_and]
      by_cases h9 : x.size ≤ 9
      · rw [decide_eq_true h9]
        have h1 := numTo_lt x x.size hall
        have h2 : (10 : Nat) ^ x.size ≤ 10 ^ 9 := Nat.pow_le_pow_right (by omega) h9
        refine decide_eq_true ?_
        unfold num
        omega
      · rw [decide_eq_false h9]
        have hne : ¬ byteAt x 0 = 48 := by
          have := isNum_iff x hd
          rw [hn, decide_eq_true (by omega : 1 < x.size)] at this
          simpa using this.symm
        have h48 := allTo_at isDig x x.size hall 0 hpos
        simp only [isDig, decide_eq_true_eq] at h48
        have h49 : 49 ≤ (byteAt x 0).toNat := by
          rcases Nat.lt_or_ge 48 (byteAt x 0).toNat with h | h
          · exact h
          · exact absurd (UInt8.toNat_inj.1 (by show _ = 48; omega)) hne
        have e10 : x.size = 9 + 1 := by omega
        have h1 := numTo_ge x 9 (by rw [← e10]; exact hall) h49
        refine decide_eq_false ?_
        unfold num
        rw [e10]
        omega
    · rw [if_neg (by omega)]
      refine ⟨(by simp; omega), fun h => ?_⟩
      simp at h; omega
theorem refNum_at (x : ByteArray) (n : Int) (b : Bool) (hs : x.size ≤ 9223372036854775807) (w : World) (h : refNum x 999999999 = (n, b)) :
    Calls Tryz.prog 18 #[.string x, .int .i64 999999999] w fun e w' => e = .returned (.tuple #[.int .i64 n, .bool b]) ∧ w' = w := by
  have := refNum_any x 999999999 hs w
  rw [h] at this
  exact this
theorem refSplit_at (s : ByteArray) (P : List ByteArray) (hs : s.size ≤ 2000000) (w : World) (h : pieces 46 s = P) :
    Calls Tryz.prog 16 #[.string s, .int .u8 46] w (SplitRet w P) := by
  rw [← h]; exact refSplit_any s 46 hs w
theorem okVer_yes (P : List ByteArray) (marks : ByteArray) (marked : Bool) (h : okVer P marks marked = true) : P.length = 3 ∧ P.all okNum = true := by
  unfold okVer at h
  simp only [Bool.and_eq_true, decide_eq_true_eq] at h
  exact ⟨h.1.1, h.1.2⟩
theorem okVer_marks (P : List ByteArray) (marks : ByteArray) (h : okMarks (pieces 46 marks) = false) : okVer P marks true = false := by
  unfold okVer
  rw [h]; simp
theorem okMarks_many (L : List ByteArray) (h : 5 < L.length) : okMarks L = false := by
  unfold okMarks
  rw [decide_eq_false (by omega), Bool.and_false]

set_option maxRecDepth 1000000
set_option maxHeartbeats 8000000 in
theorem refParse_none (_m : Int) (s : ByteArray) (w : World) (hs : s.size ≤ 2000000) (hno : ∀ j, j < s.size → byteAt s j ≠ 45) :
    Calls Tryz.prog 6 #[.string s] w (VerRet w (parseS s)) := by
  have hd := dash_none s hno
  obtain ⟨core, hco⟩ : ∃ c, s = c := ⟨_, rfl⟩
  obtain ⟨marks, hma⟩ : ∃ c : ByteArray, ⟨#[]⟩ = c := ⟨_, rfl⟩
  obtain ⟨P, hP⟩ : ∃ P, pieces 46 core = P := ⟨_, rfl⟩
  obtain ⟨N, hN⟩ : ∃ N, P.length = N := ⟨_, rfl⟩
  have HE := Lib.hid (show parseS s = parseP P marks false by unfold parseS; rw [hd, ← hP, ← hco, ← hma])
  have HMK : Hid (okVer P marks false = (decide (P.length = 3) && P.all okNum)) := by show _ = _; unfold okVer; simp
  obtain ⟨MM, hMM⟩ : ∃ L : List ByteArray, [] = L := ⟨_, rfl⟩
  have HPRE : Hid (preOf marks false = MM) := by show _ = _; rw [← hMM]; rfl
  have hcs : core.size ≤ 2000000 := by rw [← hco]; exact hs
  have HNO := Lib.hid hno
  have HCO := Lib.hid hco
  have HP := Lib.hid hP
  have HN := Lib.hid hN
  obtain ⟨R, hR⟩ : ∃ R, w.heap.size = R := ⟨_, rfl⟩
  have HR := Lib.hid hR
  have ha1 : (w.alloc (.cells #[.int .i64 0, .int .i64 0, .int .i64 0, .slice none 0 0] 28)).heap.size = R + 1 := by rw [alloc_size, hR]
  have HV1 : Hid (((w.alloc (.cells #[.int .i64 0, .int .i64 0, .int .i64 0, .slice none 0 0] 28)).alloc (.cells #[.int .i64 0, .int .i64 0, .int .i64 0, .slice none 0 0] 28)).heap[R + 1]? = some (.cells #[.int .i64 0, .int .i64 0, .int .i64 0, .slice none 0 0] 28 (0, 0))) := by
    show _ = _
    rw [← ha1]; exact alloc_block _ _
  have HR1 : Hid (((w.alloc (.cells #[.int .i64 0, .int .i64 0, .int .i64 0, .slice none 0 0] 28)).alloc (.cells #[.int .i64 0, .int .i64 0, .int .i64 0, .slice none 0 0] 28)).heap[R]? = some (.cells #[.int .i64 0, .int .i64 0, .int .i64 0, .slice none 0 0] 28 (0, 0))) := by
    refine block_kept ?_ (World.grownBy_alloc _ _ _)
    rw [← hR]; exact alloc_block w _
  have HG1 : Hid (w.grownBy ((w.alloc (.cells #[.int .i64 0, .int .i64 0, .int .i64 0, .slice none 0 0] 28)).alloc (.cells #[.int .i64 0, .int .i64 0, .int .i64 0, .slice none 0 0] 28)) none) := grown_alloc _ (World.grownBy_alloc w _ none)
  clear hd hma hP hN hno ha1 hMM hco
  go_enter Tryz.func6, Tryz.ntmps6
  go_wp2
  generalize hwq : (w.alloc _).alloc _ = wq
  rw [hwq] at HV1 HR1 HG1
  have HVq := Lib.hid HV1.out
  have HRq := Lib.hid HR1.out
  have HGq := Lib.hid HG1.out
  obtain ⟨vb, hvb⟩ : ∃ vb, R + 1 = vb := ⟨_, rfl⟩
  rw [hvb] at HVq ⊢
  have HRV : Hid (R < vb) := by show R < vb; omega
  have HVB := Lib.hid hvb
  obtain ⟨pa, pn, pc, hpsl⟩ : ∃ (a : Option Addr) (n c : Nat), Value.slice none 0 0 = .slice a n c := ⟨_, _, _, rfl⟩
  have HPq : Hid (PartS wq wq.heap.size (.slice pa pn pc) MM) := by
    rw [← hpsl, ← (HPRE.out : preOf marks false = MM)]
    exact PartS.nil (Nat.lt_of_le_of_lt (Nat.zero_le _) (block_size HRq.out))
  have HOBR : Hid ((Value.slice pa pn pc).ownBlock ≠ some R) := by rw [← hpsl]; exact fun h => by cases h
  have HOBV : Hid ((Value.slice pa pn pc).ownBlock ≠ some vb) := by rw [← hpsl]; exact fun h => by cases h
  have HVq2 : Hid (wq.heap[vb]? = some (.cells #[.int .i64 0, .int .i64 0, .int .i64 0, .slice pa pn pc] 28 (0, 0))) := by rw [← hpsl]; exact HVq.out
  clear HV1 HR1 HG1 hwq hvb hpsl HVq
  have HVq := Lib.hid HVq2.out
  clear HVq2
  go_loopw [5, 6] (fun c i wr => ∃ k : Nat, k ≤ s.size ∧ i = .int .i64 k ∧ c = .string s ∧ wq = wr) (fun _ i _ => s.size - (intOf i).toNat)
  case atStart => exact ⟨0, Nat.zero_le _, rfl, rfl, rfl⟩
  case round =>
    obtain ⟨k, hk, rfl, rfl, rfl⟩ := hrel
    by_cases hlt : k < s.size
    · obtain ⟨c, hc⟩ : ∃ c, byteAt s k = c := ⟨_, rfl⟩
      have hc2 : s[k]'hlt = c := by rw [← byteAt_eq]; exact hc
      have hb := HNO.out k hlt
      rw [hc] at hb
      have hb' : ¬ (c.toNat : Int) = 45 := by
        intro e; apply hb; apply UInt8.toNat_inj.1; show c.toNat = 45; omega
      have b1 := beq_no c.toNat 45 hb'
      clear hc hb
      go_wp2
      go_roundw
      case rel => exact ⟨k + 1, by omega, by go_num, rfl, trivial⟩
      case measure => simp [intOf]; omega
    · have hks : k = s.size := by omega
      subst hks
      have hc1 := HCO.out
      clear hlt hk
      subst hc1
      go_wp2_with fail
      (with_reducible refine (refSplit_at s P hcs _ HP.out).mono ?_)
      rintro ee w2 ⟨lv, rfl, hlo, hlg⟩
      dsimp only
      obtain ⟨la, lcap, hlf, hlc, hlm⟩ := hlo.form
      rw [HN.out] at hlf hlc
      subst hlf
      have HPL := Lib.hid (hlo.part (by have := hlg.size; have := block_size HRq.out; omega))
      have HR2 := Lib.hid (block_kept HRq.out hlg)
      have HV2 := Lib.hid (block_kept HVq.out hlg)
      have HG2 := Lib.hid (World.grownBy.trans HGq.out hlg)
      have HP2 := Lib.hid (HPq.out.stays hlg)
      have HS2 := Lib.hid hlg.size
      clear hlo hlg
      by_cases h3 : N = 3
      · subst h3
        have HN3 := HN.out
        obtain ⟨x0, e0⟩ : ∃ x, P[0]? = some x := ⟨_, List.getElem?_eq_getElem (by omega)⟩
        obtain ⟨x1, e1⟩ : ∃ x, P[1]? = some x := ⟨_, List.getElem?_eq_getElem (by omega)⟩
        obtain ⟨x2, e2⟩ : ∃ x, P[2]? = some x := ⟨_, List.getElem?_eq_getElem (by omega)⟩
        obtain ⟨b, o, ea, hbn, g0⟩ := HPL.out.at 0 x0 e0
        obtain ⟨b', o', ea', hx1, g1⟩ := HPL.out.at 1 x1 e1
        obtain ⟨b'', o'', ea'', hx2, g2⟩ := HPL.out.at 2 x2 e2
        have i1 := Addr.mk.inj (Option.some.inj (ea'.symm.trans ea))
        have i2 := Addr.mk.inj (Option.some.inj (ea''.symm.trans ea))
        rw [i1.1, i1.2.1] at g1
        rw [i2.1, i2.2.1] at g2
        rw [Nat.add_zero] at g0
        subst ea
        clear ea' ea'' i1 i2 hx1 hx2 b' b'' o' o''
        have hP3 : P = [x0, x1, x2] := by
          match P, HN3, e0, e1, e2 with
          | [p0, p1, p2], _, h0, h1, h2 =>
            have h0' : p0 = x0 := by simpa using h0
            have h1' : p1 = x1 := by simpa using h1
            have h2' : p2 = x2 := by simpa using h2
            rw [h0', h1', h2']
        have hsz : ∀ p ∈ P, p.size ≤ 9223372036854775807 := by
          intro p hp
          rw [← HP.out] at hp
          have := pieces_size 46 s p hp
          omega
        have z0 := hsz x0 (List.mem_of_getElem? e0)
        have z1 := hsz x1 (List.mem_of_getElem? e1)
        have z2 := hsz x2 (List.mem_of_getElem? e2)
        obtain ⟨n0, b0, k0⟩ : ∃ n b, refNum x0 999999999 = (n, b) := ⟨_, _, rfl⟩
        obtain ⟨n1, b1, k1⟩ : ∃ n b, refNum x1 999999999 = (n, b) := ⟨_, _, rfl⟩
        obtain ⟨n2, b2, k2⟩ : ∃ n b, refNum x2 999999999 = (n, b) := ⟨_, _, rfl⟩
        have hok : okVer P marks false = (b0 && b1 && b2) := by
          rw [HMK.out, hP3]
          have r0 := (okNum_ref x0).1
          have r1 := (okNum_ref x1).1
          have r2 := (okNum_ref x2).1
          rw [k0] at r0
          rw [k1] at r1
          rw [k2] at r2
          simp only at r0 r1 r2
          simp [← r0, ← r1, ← r2, Bool.and_assoc]
        have hval : b0 = true → b1 = true → b2 = true → parseS s = (⟨n0, n1, n2, MM⟩, 0) := by
          intro a0 a1 a2
          have r0 := okNum_ref x0
          have r1 := okNum_ref x1
          have r2 := okNum_ref x2
          rw [k0] at r0
          rw [k1] at r1
          rw [k2] at r2
          rw [HE.out]
          unfold parseP
          rw [hok, a0, a1, a2, if_pos (show (true && true && true) = true from rfl), HPRE.out, hP3]
          have t0 := r0.2 (by rw [← r0.1]; exact a0)
          have t1 := r1.2 (by rw [← r1.1]; exact a1)
          have t2 := r2.2 (by rw [← r2.1]; exact a2)
          simp only at t0 t1 t2
          rw [t0, t1, t2]
          rfl
        have HOK := Lib.hid hok
        have HVAL := Lib.hid hval
        have K0 := Lib.hid k0
        have K1 := Lib.hid k1
        have K2 := Lib.hid k2
        clear hok hval k0 k1 k2 hP3 hsz e0 e1 e2 HN3
        go_wp2_with fail
        (with_reducible refine (refNum_at x0 n0 b0 z0 _ K0.out).mono ?_)
        rintro ee w' ⟨rfl, hw'⟩
        rw [hw']
        clear hw' w'
        dsimp only
        go_wp2_with fail
        (with_reducible refine (refNum_at x1 n1 b1 z1 _ K1.out).mono ?_)
        rintro ee w' ⟨rfl, hw'⟩
        rw [hw']
        clear hw' w'
        dsimp only
        go_wp2_with fail
        (with_reducible refine (refNum_at x2 n2 b2 z2 _ K2.out).mono ?_)
        rintro ee w' ⟨rfl, hw'⟩
        rw [hw']
        clear hw' w'
        dsimp only
        cases hall : (b0 && b1 && b2) with
        | false =>
          have e : Hid (parseS s = (zeroV, 60)) := by
            show _ = _
            rw [HE.out]
            unfold parseP
            rw [HOK.out, hall, if_neg (by simp)]
          obtain ⟨r0, f0⟩ := block_cell HR2.out 0 _ rfl
          obtain ⟨r1, f1⟩ := block_cell HR2.out 1 _ rfl
          obtain ⟨r2, f2⟩ := block_cell HR2.out 2 _ rfl
          obtain ⟨r3, f3⟩ := block_cell HR2.out 3 _ rfl
          have hways : b0 = false ∨ (b0 = true ∧ b1 = false) ∨ (b0 = true ∧ b1 = true ∧ b2 = false) := by
            cases b0 <;> cases b1 <;> cases b2 <;> simp_all
          clear hall
          rcases hways with h | ⟨h, h'⟩ | ⟨h, h', h''⟩
          · subst h
            go_wp2
            generalize hw9 : (((w2.setCell ⟨R, 0, none⟩ _).setCell ⟨R, 1, none⟩ _).setCell ⟨R, 2, none⟩ _).setCell ⟨R, 3, none⟩ _ = w9
            obtain ⟨G9, R9, S9, K9⟩ := lay_ver HG2.out (by rw [HR.out]; exact Nat.le_refl _) HR2.out _ _ _ _ w9 hw9
            obtain ⟨q0, _⟩ := block_cell R9 0 _ rfl
            obtain ⟨q1, _⟩ := block_cell R9 1 _ rfl
            obtain ⟨q2, _⟩ := block_cell R9 2 _ rfl
            obtain ⟨q3, _⟩ := block_cell R9 3 _ rfl
            refine bodyPost_ret (v := .tuple #[verV zeroV (.slice none 0 0), .int .i64 60]) (by simp [results, Tryz.results6, go_sem, q0, q1, q2, q3, verV, zeroV]) rfl ⟨.slice none 0 0, by rw [e.out], ?_, G9⟩
            rw [e.out]
            exact PartS.nil (block_size R9 |> Nat.lt_of_le_of_lt (Nat.zero_le _))
          · subst h h'
            go_wp2
            generalize hw9 : (((w2.setCell ⟨R, 0, none⟩ _).setCell ⟨R, 1, none⟩ _).setCell ⟨R, 2, none⟩ _).setCell ⟨R, 3, none⟩ _ = w9
            obtain ⟨G9, R9, S9, K9⟩ := lay_ver HG2.out (by rw [HR.out]; exact Nat.le_refl _) HR2.out _ _ _ _ w9 hw9
            obtain ⟨q0, _⟩ := block_cell R9 0 _ rfl
            obtain ⟨q1, _⟩ := block_cell R9 1 _ rfl
            obtain ⟨q2, _⟩ := block_cell R9 2 _ rfl
            obtain ⟨q3, _⟩ := block_cell R9 3 _ rfl
            refine bodyPost_ret (v := .tuple #[verV zeroV (.slice none 0 0), .int .i64 60]) (by simp [results, Tryz.results6, go_sem, q0, q1, q2, q3, verV, zeroV]) rfl ⟨.slice none 0 0, by rw [e.out], ?_, G9⟩
            rw [e.out]
            exact PartS.nil (block_size R9 |> Nat.lt_of_le_of_lt (Nat.zero_le _))
          · subst h h' h''
            go_wp2
            generalize hw9 : (((w2.setCell ⟨R, 0, none⟩ _).setCell ⟨R, 1, none⟩ _).setCell ⟨R, 2, none⟩ _).setCell ⟨R, 3, none⟩ _ = w9
            obtain ⟨G9, R9, S9, K9⟩ := lay_ver HG2.out (by rw [HR.out]; exact Nat.le_refl _) HR2.out _ _ _ _ w9 hw9
            obtain ⟨q0, _⟩ := block_cell R9 0 _ rfl
            obtain ⟨q1, _⟩ := block_cell R9 1 _ rfl
            obtain ⟨q2, _⟩ := block_cell R9 2 _ rfl
            obtain ⟨q3, _⟩ := block_cell R9 3 _ rfl
            refine bodyPost_ret (v := .tuple #[verV zeroV (.slice none 0 0), .int .i64 60]) (by simp [results, Tryz.results6, go_sem, q0, q1, q2, q3, verV, zeroV]) rfl ⟨.slice none 0 0, by rw [e.out], ?_, G9⟩
            rw [e.out]
            exact PartS.nil (block_size R9 |> Nat.lt_of_le_of_lt (Nat.zero_le _))
        | true =>
          have hb : b0 = true ∧ b1 = true ∧ b2 = true := by
            cases b0 <;> cases b1 <;> cases b2 <;> simp_all
          obtain ⟨rfl, rfl, rfl⟩ := hb
          have e : Hid (parseS s = (⟨n0, n1, n2, MM⟩, 0)) := HVAL.out rfl rfl rfl
          clear hall
          obtain ⟨y0, fy0⟩ := block_cell HV2.out 0 _ rfl
          obtain ⟨y1, fy1⟩ := block_cell HV2.out 1 _ rfl
          obtain ⟨y2, fy2⟩ := block_cell HV2.out 2 _ rfl
          obtain ⟨y3, fy3⟩ := block_cell HV2.out 3 _ rfl
          have hk3 : w2.grownBy (((w2.setCell ⟨vb, 0, none⟩ (.int .i64 n0)).setCell ⟨vb, 1, none⟩ (.int .i64 n1)).setCell ⟨vb, 2, none⟩ (.int .i64 n2)) (some vb) := World.grownBy.trans (World.grownBy.trans (set_grown _ _ _ _) (set_grown _ _ _ _)) (set_grown _ _ _ _)
          have HR3 := Lib.hid (show (((w2.setCell ⟨vb, 0, none⟩ (.int .i64 n0)).setCell ⟨vb, 1, none⟩ (.int .i64 n1)).setCell ⟨vb, 2, none⟩ (.int .i64 n2)).heap[R]? = _ from (hk3.block R (block_size HR2.out) (by have := HRV.out; simp; omega)).trans HR2.out)
          have hwv : w.heap.size ≤ vb := by rw [HR.out]; exact Nat.le_of_lt HRV.out
          have HG3 := Lib.hid (show w.grownBy (((w2.setCell ⟨vb, 0, none⟩ (.int .i64 n0)).setCell ⟨vb, 1, none⟩ (.int .i64 n1)).setCell ⟨vb, 2, none⟩ (.int .i64 n2)) none from grown_set (grown_set (grown_set HG2.out hwv 0 (.int .i64 n0)) hwv 1 (.int .i64 n1)) hwv 2 (.int .i64 n2))
          have HP3 := Lib.hid (HP2.out.other hk3 HOBV.out)
          have HS3 := Lib.hid hk3.size
          have HV3 := Lib.hid (show (((w2.setCell ⟨vb, 0, none⟩ (.int .i64 n0)).setCell ⟨vb, 1, none⟩ (.int .i64 n1)).setCell ⟨vb, 2, none⟩ (.int .i64 n2)).heap[vb]? = some (.cells #[.int .i64 n0, .int .i64 n1, .int .i64 n2, .slice pa pn pc] 28 (0, 0)) from set_block (set_block (set_block HV2.out 0 _) 1 _) 2 _)
          clear hk3 hwv
          obtain ⟨r0, f0⟩ := block_cell HR3.out 0 _ rfl
          obtain ⟨r1, f1⟩ := block_cell HR3.out 1 _ rfl
          obtain ⟨r2, f2⟩ := block_cell HR3.out 2 _ rfl
          obtain ⟨r3, f3⟩ := block_cell HR3.out 3 _ rfl
          go_wp2
          generalize hw9 : ((((((w2.setCell ⟨vb, 0, none⟩ (.int .i64 n0)).setCell ⟨vb, 1, none⟩ (.int .i64 n1)).setCell ⟨vb, 2, none⟩ (.int .i64 n2)).setCell ⟨R, 0, none⟩ _).setCell ⟨R, 1, none⟩ _).setCell ⟨R, 2, none⟩ _).setCell ⟨R, 3, none⟩ _ = w9
          obtain ⟨G9, R9, S9, K9⟩ := lay_ver HG3.out (by rw [HR.out]; exact Nat.le_refl _) HR3.out _ _ _ _ w9 hw9
          obtain ⟨q0, _⟩ := block_cell R9 0 _ rfl
          obtain ⟨q1, _⟩ := block_cell R9 1 _ rfl
          obtain ⟨q2, _⟩ := block_cell R9 2 _ rfl
          obtain ⟨q3, _⟩ := block_cell R9 3 _ rfl
          refine bodyPost_ret (v := .tuple #[verV ⟨n0, n1, n2, MM⟩ (.slice pa pn pc), .int .i64 0]) (by simp [results, Tryz.results6, go_sem, q0, q1, q2, q3, verV]) rfl ⟨.slice pa pn pc, by rw [e.out], ?_, G9⟩
          rw [e.out]
          exact (HP3.out.other K9 HOBR.out).le (Nat.le_trans HS2.out (Nat.le_trans HS3.out S9))
      · have hne : ¬ (N : Int) = 3 := by omega
        have e : Hid (parseS s = (zeroV, 60)) := by
          show _ = _
          rw [HE.out]
          unfold parseP
          rw [HMK.out, HN.out, decide_eq_false h3, if_neg (by simp)]
        obtain ⟨r0, f0⟩ := block_cell HR2.out 0 _ rfl
        obtain ⟨r1, f1⟩ := block_cell HR2.out 1 _ rfl
        obtain ⟨r2, f2⟩ := block_cell HR2.out 2 _ rfl
        obtain ⟨r3, f3⟩ := block_cell HR2.out 3 _ rfl
        clear h3
        go_wp2
        generalize hw9 : (((w2.setCell ⟨R, 0, none⟩ _).setCell ⟨R, 1, none⟩ _).setCell ⟨R, 2, none⟩ _).setCell ⟨R, 3, none⟩ _ = w9
        obtain ⟨G9, R9, S9, K9⟩ := lay_ver HG2.out (by rw [HR.out]; exact Nat.le_refl _) HR2.out _ _ _ _ w9 hw9
        obtain ⟨q0, _⟩ := block_cell R9 0 _ rfl
        obtain ⟨q1, _⟩ := block_cell R9 1 _ rfl
        obtain ⟨q2, _⟩ := block_cell R9 2 _ rfl
        obtain ⟨q3, _⟩ := block_cell R9 3 _ rfl
        refine bodyPost_ret (v := .tuple #[verV zeroV (.slice none 0 0), .int .i64 60]) (by simp [results, Tryz.results6, go_sem, q0, q1, q2, q3, verV, zeroV]) rfl ⟨.slice none 0 0, by rw [e.out], ?_, G9⟩
        rw [e.out]
        exact PartS.nil (block_size R9 |> Nat.lt_of_le_of_lt (Nat.zero_le _))

set_option maxRecDepth 1000000
set_option maxHeartbeats 8000000 in
theorem refParse_hit (s : ByteArray) (w : World) (hs : s.size ≤ 2000000) (k : Nat) (hk : k < s.size) (hbk : byteAt s k = 45) (hno : ∀ j, j < k → byteAt s j ≠ 45) :
    Calls Tryz.prog 6 #[.string s] w (VerRet w (parseS s)) := by
  have hd := dash_hit s k hk hbk hno
  obtain ⟨marks, hma⟩ : ∃ c : ByteArray, s.extract (k + 1) s.size = c := ⟨_, rfl⟩
  obtain ⟨P, hP⟩ : ∃ P, pieces 46 (s.extract 0 k) = P := ⟨_, rfl⟩
  obtain ⟨N, hN⟩ : ∃ N, P.length = N := ⟨_, rfl⟩
  obtain ⟨MM, hMM⟩ : ∃ M, pieces 46 marks = M := ⟨_, rfl⟩
  have HE := Lib.hid (show parseS s = parseP P marks true by unfold parseS; rw [hd, ← hP, ← hma])
  have HPRE : Hid (preOf marks true = MM) := by show _ = _; rw [← hMM]; rfl
  have hcs : (s.extract 0 k).size ≤ 2000000 := by rw [ByteArray.size_extract]; omega
  have hms : (s.extract (k + 1) s.size).size ≤ 2000000 := by rw [ByteArray.size_extract]; omega
  have HMA := Lib.hid (show pieces 46 (s.extract (k + 1) s.size) = MM by rw [hma]; exact hMM)
  have HSM := Lib.hid (show ∀ p ∈ MM, p.size ≤ 9223372036854775807 by
    intro p hp
    rw [← HMA.out] at hp
    have := pieces_size 46 _ p hp
    omega)
  have HMM := Lib.hid hMM
  have HNO := Lib.hid hno
  have HBK := Lib.hid hbk
  have HP := Lib.hid hP
  have HN := Lib.hid hN
  obtain ⟨R, hR⟩ : ∃ R, w.heap.size = R := ⟨_, rfl⟩
  have HR := Lib.hid hR
  have ha1 : (w.alloc (.cells #[.int .i64 0, .int .i64 0, .int .i64 0, .slice none 0 0] 28)).heap.size = R + 1 := by rw [alloc_size, hR]
  have HV1 : Hid (((w.alloc (.cells #[.int .i64 0, .int .i64 0, .int .i64 0, .slice none 0 0] 28)).alloc (.cells #[.int .i64 0, .int .i64 0, .int .i64 0, .slice none 0 0] 28)).heap[R + 1]? = some (.cells #[.int .i64 0, .int .i64 0, .int .i64 0, .slice none 0 0] 28 (0, 0))) := by
    show _ = _
    rw [← ha1]; exact alloc_block _ _
  have HR1 : Hid (((w.alloc (.cells #[.int .i64 0, .int .i64 0, .int .i64 0, .slice none 0 0] 28)).alloc (.cells #[.int .i64 0, .int .i64 0, .int .i64 0, .slice none 0 0] 28)).heap[R]? = some (.cells #[.int .i64 0, .int .i64 0, .int .i64 0, .slice none 0 0] 28 (0, 0))) := by
    refine block_kept ?_ (World.grownBy_alloc _ _ _)
    rw [← hR]; exact alloc_block w _
  have HG1 : Hid (w.grownBy ((w.alloc (.cells #[.int .i64 0, .int .i64 0, .int .i64 0, .slice none 0 0] 28)).alloc (.cells #[.int .i64 0, .int .i64 0, .int .i64 0, .slice none 0 0] 28)) none) := grown_alloc _ (World.grownBy_alloc w _ none)
  clear hd hma hP hN hno hbk ha1 hMM
  go_enter Tryz.func6, Tryz.ntmps6
  go_wp2
  generalize hwq : (w.alloc _).alloc _ = w1
  rw [hwq] at HV1 HR1 HG1
  obtain ⟨vb, hvb⟩ : ∃ vb, R + 1 = vb := ⟨_, rfl⟩
  rw [hvb] at HV1 ⊢
  have HRV : Hid (R < vb) := by show R < vb; omega
  clear hwq hvb
  go_loopw [5, 6] (fun c i wr => ∃ q : Nat, q ≤ k ∧ i = .int .i64 q ∧ c = .string s ∧ w1 = wr) (fun _ i _ => s.size - (intOf i).toNat)
  case atStart => exact ⟨0, Nat.zero_le _, rfl, rfl, rfl⟩
  case round =>
    obtain ⟨q, hq, rfl, rfl, rfl⟩ := hrel
    by_cases hlt : q < k
    · have hqs : q < s.size := by omega
      obtain ⟨c, hc⟩ : ∃ c, byteAt s q = c := ⟨_, rfl⟩
      have hc2 : s[q]'hqs = c := by rw [← byteAt_eq]; exact hc
      have hb := HNO.out q hlt
      rw [hc] at hb
      have hb' : ¬ (c.toNat : Int) = 45 := by
        intro e; apply hb; apply UInt8.toNat_inj.1; show c.toNat = 45; omega
      have b1 := beq_no c.toNat 45 hb'
      clear hc hb
      go_wp2
      go_roundw
      case rel => exact ⟨q + 1, by omega, by go_num, rfl, trivial⟩
      case measure => simp [intOf]; omega
    · have hqk : q = k := by omega
      subst hqk
      have hc2 : s[q]'hk = 45 := by rw [← byteAt_eq]; exact HBK.out
      clear hlt hq
      go_wp2_with fail
      (with_reducible refine (refSplit_at _ MM hms _ HMA.out).mono ?_)
      rintro ee w2 ⟨lv, rfl, hlo, hlg⟩
      dsimp only
      obtain ⟨pa, pc, hlf, hlc, hlm⟩ := hlo.form
      obtain ⟨pn, hpn⟩ : ∃ n, MM.length = n := ⟨_, rfl⟩
      rw [hpn] at hlf hlc
      subst hlf
      have HPN := Lib.hid hpn
      have hvlt := block_size HV1.out
      have hov : (Value.slice pa pn pc).ownBlock ≠ some vb := by
        intro e
        have := (hlo.block_lt vb e).1
        omega
      have hor : (Value.slice pa pn pc).ownBlock ≠ some R := by
        intro e
        have := (hlo.block_lt R e).1
        have := HRV.out
        omega
      have HOBV := Lib.hid hov
      have HOBR := Lib.hid hor
      have hpp := hlo.part (by have := hlg.size; omega)
      have hs3 : w2.grownBy (w2.setCell ⟨vb, 3, none⟩ (.slice pa pn pc)) (some vb) := set_grown _ _ _ _
      have hr2 := block_kept HR1.out hlg
      have hv2 := block_kept HV1.out hlg
      have hwv : w.heap.size ≤ vb := by rw [HR.out]; exact Nat.le_of_lt HRV.out
      have HRq := Lib.hid (show (w2.setCell ⟨vb, 3, none⟩ (.slice pa pn pc)).heap[R]? = _ from (hs3.block R (block_size hr2) (by have := HRV.out; simp; omega)).trans hr2)
      have HVq := Lib.hid (show (w2.setCell ⟨vb, 3, none⟩ (.slice pa pn pc)).heap[vb]? = some (.cells #[.int .i64 0, .int .i64 0, .int .i64 0, .slice pa pn pc] 28 (0, 0)) from set_block hv2 3 _)
      have HGq := Lib.hid (grown_set (World.grownBy.trans HG1.out hlg) hwv 3 (.slice pa pn pc))
      have HPq := Lib.hid ((hpp.other hs3 hov).le hs3.size)
      obtain ⟨v3, fv3⟩ := block_cell hv2 3 _ rfl
      obtain ⟨v30, _⟩ := block_cell HVq.out 3 _ rfl
      clear hlo hlg hpn hvlt hov hor hpp hs3 hr2 hv2 hwv
      by_cases h5 : 5 < pn
      · have e : Hid (parseS s = (zeroV, 60)) := by
          show _ = _
          rw [HE.out]
          unfold parseP
          rw [okVer_marks P marks (by rw [HMM.out]; exact okMarks_many MM (by rw [HPN.out]; exact h5)), if_neg (by simp)]
        have b5 : 5 < (pn : Int) := by omega
        clear h5
        obtain ⟨r0, f0⟩ := block_cell HRq.out 0 _ rfl
        obtain ⟨r1, f1⟩ := block_cell HRq.out 1 _ rfl
        obtain ⟨r2, f2⟩ := block_cell HRq.out 2 _ rfl
        obtain ⟨r3, f3⟩ := block_cell HRq.out 3 _ rfl
        go_wp2
        generalize hw9 : ((((w2.setCell ⟨vb, 3, none⟩ (.slice pa pn pc)).setCell ⟨R, 0, none⟩ _).setCell ⟨R, 1, none⟩ _).setCell ⟨R, 2, none⟩ _).setCell ⟨R, 3, none⟩ _ = w9
        obtain ⟨G9, R9, S9, K9⟩ := lay_ver HGq.out (by rw [HR.out]; exact Nat.le_refl _) HRq.out _ _ _ _ w9 hw9
        obtain ⟨q0, _⟩ := block_cell R9 0 _ rfl
        obtain ⟨q1, _⟩ := block_cell R9 1 _ rfl
        obtain ⟨q2, _⟩ := block_cell R9 2 _ rfl
        obtain ⟨q3, _⟩ := block_cell R9 3 _ rfl
        refine bodyPost_ret (v := .tuple #[verV zeroV (.slice none 0 0), .int .i64 60]) (by simp [results, Tryz.results6, go_sem, q0, q1, q2, q3, verV, zeroV]) rfl ⟨.slice none 0 0, by rw [e.out], ?_, G9⟩
        rw [e.out]
        exact PartS.nil (block_size R9 |> Nat.lt_of_le_of_lt (Nat.zero_le _))
      · have b5 : decide (5 < (pn : Int)) = false := by simp; omega
        have hpn5 : pn ≤ 5 := by omega
        clear h5
        go_wp2
        generalize hwq9 : w2.setCell ⟨vb, 3, none⟩ (.slice pa pn pc) = wq at HRq HVq HGq HPq v30 ⊢
        clear v3 fv3 hwq9
        go_loopw [7] (fun i wr => ∃ r : Nat, r ≤ pn ∧ i = .int .i64 r ∧ (MM.take r).all okMark = true ∧ wq = wr) (fun i _ => pn - (intOf i).toNat)
        case atStart => exact ⟨0, Nat.zero_le _, rfl, rfl, rfl⟩
        case round =>
          obtain ⟨r, hr, rfl, ho, rfl⟩ := hrel
          have HO := Lib.hid ho
          clear ho
          by_cases hlt : r < pn
          · obtain ⟨x, hx⟩ : ∃ x, MM[r]? = some x := ⟨_, List.getElem?_eq_getElem (by rw [HPN.out]; exact hlt)⟩
            obtain ⟨b, o, e1, _, g1⟩ := HPq.out.at r x hx
            subst e1
            have hxs := HSM.out x (List.mem_of_getElem? hx)
            have HX := Lib.hid hx
            clear hx
            cases hm : okMark x with
            | true =>
              have HT := Lib.hid (take_all MM r x okMark HX.out HO.out hm)
              have HMK := Lib.hid hm
              clear hm
              go_wp2_with fail
              (with_reducible refine (refMark_any x hxs _).mono ?_)
              rintro ee w' ⟨rfl, hw'⟩
              rw [hw', HMK.out]
              clear hw' w'
              dsimp only
              go_wp2
              go_roundw
              case rel => exact ⟨r + 1, by omega, by go_num, HT.out, trivial⟩
              case measure => simp [intOf]; omega
            | false =>
              have e : Hid (parseS s = (zeroV, 60)) := by
                show _ = _
                rw [HE.out]
                unfold parseP
                rw [okVer_marks P marks (by rw [HMM.out]; exact okMarks_no MM r x HX.out hm), if_neg (by simp)]
              have HMK := Lib.hid hm
              clear hm
              go_wp2_with fail
              (with_reducible refine (refMark_any x hxs _).mono ?_)
              rintro ee w' ⟨rfl, hw'⟩
              rw [hw', HMK.out]
              clear hw' w'
              dsimp only
              obtain ⟨r0, f0⟩ := block_cell HRq.out 0 _ rfl
              obtain ⟨r1, f1⟩ := block_cell HRq.out 1 _ rfl
              obtain ⟨r2, f2⟩ := block_cell HRq.out 2 _ rfl
              obtain ⟨r3, f3⟩ := block_cell HRq.out 3 _ rfl
              go_wp2
              generalize hw9 : (((wq.setCell ⟨R, 0, none⟩ _).setCell ⟨R, 1, none⟩ _).setCell ⟨R, 2, none⟩ _).setCell ⟨R, 3, none⟩ _ = w9
              obtain ⟨G9, R9, S9, K9⟩ := lay_ver HGq.out (by rw [HR.out]; exact Nat.le_refl _) HRq.out _ _ _ _ w9 hw9
              obtain ⟨q0, _⟩ := block_cell R9 0 _ rfl
              obtain ⟨q1, _⟩ := block_cell R9 1 _ rfl
              obtain ⟨q2, _⟩ := block_cell R9 2 _ rfl
              obtain ⟨q3, _⟩ := block_cell R9 3 _ rfl
              refine bodyPost_ret (v := .tuple #[verV zeroV (.slice none 0 0), .int .i64 60]) (by simp [results, Tryz.results6, go_sem, q0, q1, q2, q3, verV, zeroV]) rfl ⟨.slice none 0 0, by rw [e.out], ?_, G9⟩
              rw [e.out]
              exact PartS.nil (block_size R9 |> Nat.lt_of_le_of_lt (Nat.zero_le _))
          · have hrn : r = pn := by omega
            subst hrn
            clear hlt hr
            have HMK : Hid (okVer P marks true = (decide (P.length = 3) && P.all okNum)) := by
              show _ = _
              have h := HO.out
              rw [List.take_of_length_le (by rw [HPN.out]; exact Nat.le_refl _)] at h
              unfold okVer okMarks
              rw [HMM.out, h, HPN.out, decide_eq_true hpn5]
              simp
            go_wp2_with fail
            (with_reducible refine (refSplit_at (s.extract 0 q) P hcs _ HP.out).mono ?_)
            rintro ee w2 ⟨lv, rfl, hlo, hlg⟩
            dsimp only
            obtain ⟨la, lcap, hlf, hlc, hlm⟩ := hlo.form
            rw [HN.out] at hlf hlc
            subst hlf
            have HPL := Lib.hid (hlo.part (by have := hlg.size; have := block_size HRq.out; omega))
            have HR2 := Lib.hid (block_kept HRq.out hlg)
            have HV2 := Lib.hid (block_kept HVq.out hlg)
            have HG2 := Lib.hid (World.grownBy.trans HGq.out hlg)
            have HP2 := Lib.hid (HPq.out.stays hlg)
            have HS2 := Lib.hid hlg.size
            clear hlo hlg
            by_cases h3 : N = 3
            · subst h3
              have HN3 := HN.out
              obtain ⟨x0, e0⟩ : ∃ x, P[0]? = some x := ⟨_, List.getElem?_eq_getElem (by omega)⟩
              obtain ⟨x1, e1⟩ : ∃ x, P[1]? = some x := ⟨_, List.getElem?_eq_getElem (by omega)⟩
              obtain ⟨x2, e2⟩ : ∃ x, P[2]? = some x := ⟨_, List.getElem?_eq_getElem (by omega)⟩
              obtain ⟨b, o, ea, hbn, g0⟩ := HPL.out.at 0 x0 e0
              obtain ⟨b', o', ea', hx1, g1⟩ := HPL.out.at 1 x1 e1
              obtain ⟨b'', o'', ea'', hx2, g2⟩ := HPL.out.at 2 x2 e2
              have i1 := Addr.mk.inj (Option.some.inj (ea'.symm.trans ea))
              have i2 := Addr.mk.inj (Option.some.inj (ea''.symm.trans ea))
              rw [i1.1, i1.2.1] at g1
              rw [i2.1, i2.2.1] at g2
              rw [Nat.add_zero] at g0
              subst ea
              clear ea' ea'' i1 i2 hx1 hx2 b' b'' o' o''
              have hP3 : P = [x0, x1, x2] := by
                match P, HN3, e0, e1, e2 with
                | [p0, p1, p2], _, h0, h1, h2 =>
                  have h0' : p0 = x0 := by simpa using h0
                  have h1' : p1 = x1 := by simpa using h1
                  have h2' : p2 = x2 := by simpa using h2
                  rw [h0', h1', h2']
              have hsz : ∀ p ∈ P, p.size ≤ 9223372036854775807 := by
                intro p hp
                rw [← HP.out] at hp
                have := pieces_size 46 (s.extract 0 q) p hp
                omega
              have z0 := hsz x0 (List.mem_of_getElem? e0)
              have z1 := hsz x1 (List.mem_of_getElem? e1)
              have z2 := hsz x2 (List.mem_of_getElem? e2)
              obtain ⟨n0, b0, k0⟩ : ∃ n b, refNum x0 999999999 = (n, b) := ⟨_, _, rfl⟩
              obtain ⟨n1, b1, k1⟩ : ∃ n b, refNum x1 999999999 = (n, b) := ⟨_, _, rfl⟩
              obtain ⟨n2, b2, k2⟩ : ∃ n b, refNum x2 999999999 = (n, b) := ⟨_, _, rfl⟩
              have hok : okVer P marks true = (b0 && b1 && b2) := by
                rw [HMK.out, hP3]
                have r0 := (okNum_ref x0).1
                have r1 := (okNum_ref x1).1
                have r2 := (okNum_ref x2).1
                rw [k0] at r0
                rw [k1] at r1
                rw [k2] at r2
                simp only at r0 r1 r2
                simp [← r0, ← r1, ← r2, Bool.and_assoc]
              have hval : b0 = true → b1 = true → b2 = true → parseS s = (⟨n0, n1, n2, MM⟩, 0) := by
                intro a0 a1 a2
                have r0 := okNum_ref x0
                have r1 := okNum_ref x1
                have r2 := okNum_ref x2
                rw [k0] at r0
                rw [k1] at r1
                rw [k2] at r2
                rw [HE.out]
                unfold parseP
                rw [hok, a0, a1, a2, if_pos (show (true && true && true) = true from rfl), HPRE.out, hP3]
                have t0 := r0.2 (by rw [← r0.1]; exact a0)
                have t1 := r1.2 (by rw [← r1.1]; exact a1)
                have t2 := r2.2 (by rw [← r2.1]; exact a2)
                simp only at t0 t1 t2
                rw [t0, t1, t2]
                rfl
              have HOK := Lib.hid hok
              have HVAL := Lib.hid hval
              have K0 := Lib.hid k0
              have K1 := Lib.hid k1
              have K2 := Lib.hid k2
              clear hok hval k0 k1 k2 hP3 hsz e0 e1 e2 HN3
              go_wp2_with fail
              (with_reducible refine (refNum_at x0 n0 b0 z0 _ K0.out).mono ?_)
              rintro ee w' ⟨rfl, hw'⟩
              rw [hw']
              clear hw' w'
              dsimp only
              go_wp2_with fail
              (with_reducible refine (refNum_at x1 n1 b1 z1 _ K1.out).mono ?_)
              rintro ee w' ⟨rfl, hw'⟩
              rw [hw']
              clear hw' w'
              dsimp only
              go_wp2_with fail
              (with_reducible refine (refNum_at x2 n2 b2 z2 _ K2.out).mono ?_)
              rintro ee w' ⟨rfl, hw'⟩
              rw [hw']
              clear hw' w'
              dsimp only
              cases hall : (b0 && b1 && b2) with
              | false =>
                have e : Hid (parseS s = (zeroV, 60)) := by
                  show _ = _
                  rw [HE.out]
                  unfold parseP
                  rw [HOK.out, hall, if_neg (by simp)]
                obtain ⟨r0, f0⟩ := block_cell HR2.out 0 _ rfl
                obtain ⟨r1, f1⟩ := block_cell HR2.out 1 _ rfl
                obtain ⟨r2, f2⟩ := block_cell HR2.out 2 _ rfl
                obtain ⟨r3, f3⟩ := block_cell HR2.out 3 _ rfl
                have hways : b0 = false ∨ (b0 = true ∧ b1 = false) ∨ (b0 = true ∧ b1 = true ∧ b2 = false) := by
                  cases b0 <;> cases b1 <;> cases b2 <;> simp_all
                clear hall
                rcases hways with h | ⟨h, h'⟩ | ⟨h, h', h''⟩
                · subst h
                  go_wp2
                  generalize hw9 : (((w2.setCell ⟨R, 0, none⟩ _).setCell ⟨R, 1, none⟩ _).setCell ⟨R, 2, none⟩ _).setCell ⟨R, 3, none⟩ _ = w9
                  obtain ⟨G9, R9, S9, K9⟩ := lay_ver HG2.out (by rw [HR.out]; exact Nat.le_refl _) HR2.out _ _ _ _ w9 hw9
                  obtain ⟨q0, _⟩ := block_cell R9 0 _ rfl
                  obtain ⟨q1, _⟩ := block_cell R9 1 _ rfl
                  obtain ⟨q2, _⟩ := block_cell R9 2 _ rfl
                  obtain ⟨q3, _⟩ := block_cell R9 3 _ rfl
                  refine bodyPost_ret (v := .tuple #[verV zeroV (.slice none 0 0), .int .i64 60]) (by simp [results, Tryz.results6, go_sem, q0, q1, q2, q3, verV, zeroV]) rfl ⟨.slice none 0 0, by rw [e.out], ?_, G9⟩
                  rw [e.out]
                  exact PartS.nil (block_size R9 |> Nat.lt_of_le_of_lt (Nat.zero_le _))
                · subst h h'
                  go_wp2
                  generalize hw9 : (((w2.setCell ⟨R, 0, none⟩ _).setCell ⟨R, 1, none⟩ _).setCell ⟨R, 2, none⟩ _).setCell ⟨R, 3, none⟩ _ = w9
                  obtain ⟨G9, R9, S9, K9⟩ := lay_ver HG2.out (by rw [HR.out]; exact Nat.le_refl _) HR2.out _ _ _ _ w9 hw9
                  obtain ⟨q0, _⟩ := block_cell R9 0 _ rfl
                  obtain ⟨q1, _⟩ := block_cell R9 1 _ rfl
                  obtain ⟨q2, _⟩ := block_cell R9 2 _ rfl
                  obtain ⟨q3, _⟩ := block_cell R9 3 _ rfl
                  refine bodyPost_ret (v := .tuple #[verV zeroV (.slice none 0 0), .int .i64 60]) (by simp [results, Tryz.results6, go_sem, q0, q1, q2, q3, verV, zeroV]) rfl ⟨.slice none 0 0, by rw [e.out], ?_, G9⟩
                  rw [e.out]
                  exact PartS.nil (block_size R9 |> Nat.lt_of_le_of_lt (Nat.zero_le _))
                · subst h h' h''
                  go_wp2
                  generalize hw9 : (((w2.setCell ⟨R, 0, none⟩ _).setCell ⟨R, 1, none⟩ _).setCell ⟨R, 2, none⟩ _).setCell ⟨R, 3, none⟩ _ = w9
                  obtain ⟨G9, R9, S9, K9⟩ := lay_ver HG2.out (by rw [HR.out]; exact Nat.le_refl _) HR2.out _ _ _ _ w9 hw9
                  obtain ⟨q0, _⟩ := block_cell R9 0 _ rfl
                  obtain ⟨q1, _⟩ := block_cell R9 1 _ rfl
                  obtain ⟨q2, _⟩ := block_cell R9 2 _ rfl
                  obtain ⟨q3, _⟩ := block_cell R9 3 _ rfl
                  refine bodyPost_ret (v := .tuple #[verV zeroV (.slice none 0 0), .int .i64 60]) (by simp [results, Tryz.results6, go_sem, q0, q1, q2, q3, verV, zeroV]) rfl ⟨.slice none 0 0, by rw [e.out], ?_, G9⟩
                  rw [e.out]
                  exact PartS.nil (block_size R9 |> Nat.lt_of_le_of_lt (Nat.zero_le _))
              | true =>
                have hb : b0 = true ∧ b1 = true ∧ b2 = true := by
                  cases b0 <;> cases b1 <;> cases b2 <;> simp_all
                obtain ⟨rfl, rfl, rfl⟩ := hb
                have e : Hid (parseS s = (⟨n0, n1, n2, MM⟩, 0)) := HVAL.out rfl rfl rfl
                clear hall
                obtain ⟨y0, fy0⟩ := block_cell HV2.out 0 _ rfl
                obtain ⟨y1, fy1⟩ := block_cell HV2.out 1 _ rfl
                obtain ⟨y2, fy2⟩ := block_cell HV2.out 2 _ rfl
                obtain ⟨y3, fy3⟩ := block_cell HV2.out 3 _ rfl
                have hk3 : w2.grownBy (((w2.setCell ⟨vb, 0, none⟩ (.int .i64 n0)).setCell ⟨vb, 1, none⟩ (.int .i64 n1)).setCell ⟨vb, 2, none⟩ (.int .i64 n2)) (some vb) := World.grownBy.trans (World.grownBy.trans (set_grown _ _ _ _) (set_grown _ _ _ _)) (set_grown _ _ _ _)
                have HR3 := Lib.hid (show (((w2.setCell ⟨vb, 0, none⟩ (.int .i64 n0)).setCell ⟨vb, 1, none⟩ (.int .i64 n1)).setCell ⟨vb, 2, none⟩ (.int .i64 n2)).heap[R]? = _ from (hk3.block R (block_size HR2.out) (by have := HRV.out; simp; omega)).trans HR2.out)
                have hwv : w.heap.size ≤ vb := by rw [HR.out]; exact Nat.le_of_lt HRV.out
                have HG3 := Lib.hid (show w.grownBy (((w2.setCell ⟨vb, 0, none⟩ (.int .i64 n0)).setCell ⟨vb, 1, none⟩ (.int .i64 n1)).setCell ⟨vb, 2, none⟩ (.int .i64 n2)) none from grown_set (grown_set (grown_set HG2.out hwv 0 (.int .i64 n0)) hwv 1 (.int .i64 n1)) hwv 2 (.int .i64 n2))
                have HP3 := Lib.hid (HP2.out.other hk3 HOBV.out)
                have HS3 := Lib.hid hk3.size
                have HV3 := Lib.hid (show (((w2.setCell ⟨vb, 0, none⟩ (.int .i64 n0)).setCell ⟨vb, 1, none⟩ (.int .i64 n1)).setCell ⟨vb, 2, none⟩ (.int .i64 n2)).heap[vb]? = some (.cells #[.int .i64 n0, .int .i64 n1, .int .i64 n2, .slice pa r pc] 28 (0, 0)) from set_block (set_block (set_block HV2.out 0 _) 1 _) 2 _)
                clear hk3 hwv
                obtain ⟨r0, f0⟩ := block_cell HR3.out 0 _ rfl
                obtain ⟨r1, f1⟩ := block_cell HR3.out 1 _ rfl
                obtain ⟨r2, f2⟩ := block_cell HR3.out 2 _ rfl
                obtain ⟨r3, f3⟩ := block_cell HR3.out 3 _ rfl
                go_wp2
                generalize hw9 : ((((((w2.setCell ⟨vb, 0, none⟩ (.int .i64 n0)).setCell ⟨vb, 1, none⟩ (.int .i64 n1)).setCell ⟨vb, 2, none⟩ (.int .i64 n2)).setCell ⟨R, 0, none⟩ _).setCell ⟨R, 1, none⟩ _).setCell ⟨R, 2, none⟩ _).setCell ⟨R, 3, none⟩ _ = w9
                obtain ⟨G9, R9, S9, K9⟩ := lay_ver HG3.out (by rw [HR.out]; exact Nat.le_refl _) HR3.out _ _ _ _ w9 hw9
                obtain ⟨q0, _⟩ := block_cell R9 0 _ rfl
                obtain ⟨q1, _⟩ := block_cell R9 1 _ rfl
                obtain ⟨q2, _⟩ := block_cell R9 2 _ rfl
                obtain ⟨q3, _⟩ := block_cell R9 3 _ rfl
                refine bodyPost_ret (v := .tuple #[verV ⟨n0, n1, n2, MM⟩ (.slice pa r pc), .int .i64 0]) (by simp [results, Tryz.results6, go_sem, q0, q1, q2, q3, verV]) rfl ⟨.slice pa r pc, by rw [e.out], ?_, G9⟩
                rw [e.out]
                exact (HP3.out.other K9 HOBR.out).le (Nat.le_trans HS2.out (Nat.le_trans HS3.out S9))
            · have hne : ¬ (N : Int) = 3 := by omega
              have e : Hid (parseS s = (zeroV, 60)) := by
                show _ = _
                rw [HE.out]
                unfold parseP
                rw [HMK.out, HN.out, decide_eq_false h3, if_neg (by simp)]
              obtain ⟨r0, f0⟩ := block_cell HR2.out 0 _ rfl
              obtain ⟨r1, f1⟩ := block_cell HR2.out 1 _ rfl
              obtain ⟨r2, f2⟩ := block_cell HR2.out 2 _ rfl
              obtain ⟨r3, f3⟩ := block_cell HR2.out 3 _ rfl
              clear h3
              go_wp2
              generalize hw9 : (((w2.setCell ⟨R, 0, none⟩ _).setCell ⟨R, 1, none⟩ _).setCell ⟨R, 2, none⟩ _).setCell ⟨R, 3, none⟩ _ = w9
              obtain ⟨G9, R9, S9, K9⟩ := lay_ver HG2.out (by rw [HR.out]; exact Nat.le_refl _) HR2.out _ _ _ _ w9 hw9
              obtain ⟨q0, _⟩ := block_cell R9 0 _ rfl
              obtain ⟨q1, _⟩ := block_cell R9 1 _ rfl
              obtain ⟨q2, _⟩ := block_cell R9 2 _ rfl
              obtain ⟨q3, _⟩ := block_cell R9 3 _ rfl
              refine bodyPost_ret (v := .tuple #[verV zeroV (.slice none 0 0), .int .i64 60]) (by simp [results, Tryz.results6, go_sem, q0, q1, q2, q3, verV, zeroV]) rfl ⟨.slice none 0 0, by rw [e.out], ?_, G9⟩
              rw [e.out]
              exact PartS.nil (block_size R9 |> Nat.lt_of_le_of_lt (Nat.zero_le _))
theorem refParse_any (m : Int) (s : ByteArray) (w : World) (hs : s.size ≤ 2000000) : Calls Tryz.prog 6 #[.string s] w (VerRet w (parseS s)) := by
  rcases first_d 45 s s.size (Nat.le_refl _) with h | ⟨i, h1, h2, h3⟩
  · exact refParse_none m s w hs h
  · exact refParse_hit s w hs i h1 h2 h3
end Go.Proofs.YthdopcdllggdaaaGreatDoor
namespace Go.Proofs.YthdopcdllggdaaaGreatDoor
open Go.RowKit

theorem grown_grow (w : World) (k : Nat) (os : Array Obj) : w.grownBy (Go.Sort.grow (w.drewN k) os) none :=
  ⟨rfl, rfl, rfl, by show w.heap.size ≤ (w.heap ++ os).size; simp, fun j hj _ => by
    show (w.heap ++ os)[j]? = w.heap[j]?
    rw [Array.getElem?_append_left hj]⟩
/-- What of a world the library reads: MaxLen, and the powers of ten. -/
structure Wok (m : Int) (w : World) : Prop where
  len : w.cell? ⟨0, 0, none⟩ = some (.int .i64 m)
  tab : Lib.TabIs Tryz.prog w "internal/strconv.uint64pow10" .u64 Lib.pow10Tab
theorem tab_grown {w w' : World} {name : String} {k : IntKind} {zs : List Int} (h : Lib.TabIs Tryz.prog w name k zs) (hg : w.grownBy w' none) : Lib.TabIs Tryz.prog w' name k zs := by
  unfold Lib.TabIs World.var? at h ⊢
  cases hn : Tryz.prog.globalNamed name with
  | none => rw [hn] at h; cases h
  | some g =>
    rw [hn] at h
    simp only [Option.bind_some] at h ⊢
    cases hb : w.heap[g]? with
    | none => rw [hb] at h; cases h
    | some o =>
      rw [block_kept hb hg]
      rw [hb] at h
      exact h
theorem Wok.stays {m : Int} {w w' : World} (h : Wok m w) (hg : w.grownBy w' none) : Wok m w' := ⟨hg.cell h.len (by simp), tab_grown h.tab hg⟩
theorem Wok.pos {m : Int} {w : World} (h : Wok m w) : 0 < w.heap.size := World.block_lt_of_cell? _ _ h.len

/-- A number's text. -/
def decS (n : Int) : ByteArray := toB (Lib.decDigits n.toNat)
theorem dec_len (k : Nat) : ∀ u : Nat, u < 10 ^ (k + 1) → (Lib.decDigits u).length ≤ k + 1 := by
  induction k with
  | zero =>
    intro u hu
    rw [Lib.decDigits, dif_pos (by omega)]
    exact Nat.le_refl _
  | succ k ih =>
    intro u hu
    rw [Lib.decDigits]
    by_cases h : u < 10
    · rw [dif_pos h]
      show 1 ≤ _
      omega
    · rw [dif_neg h, List.length_append]
      have := ih (u / 10) (by rw [Nat.pow_succ] at hu; omega)
      show _ + 1 ≤ _
      omega
theorem decS_size (n : Int) (h : n ≤ 9223372036854775807) : (decS n).size ≤ 20 := by
  have h1 : n.toNat < 10 ^ 20 := by omega
  have := dec_len 19 n.toNat h1
  unfold decS
  show (Lib.decDigits n.toNat).toArray.size ≤ 20
  simpa using this
theorem itoa_at (n : Int) (h : 0 ≤ n) : (⟨(Lib.itoa n).toArray⟩ : ByteArray) = decS n := by
  unfold Lib.itoa decS toB
  rw [if_neg (by omega)]
theorem itoa_any (m n : Int) (h0 : 0 ≤ n) (h1 : n ≤ 9223372036854775807) (w : World) (hw : Wok m w) :
    Calls Tryz.prog 52 #[.int .i64 n] w fun e w' => e = .returned (.string (decS n)) ∧ w.grownBy w' none := by
  refine (Tryz.strconv_Itoa n (by omega) h1 w hw.tab).mono ?_
  rintro e w' ⟨he, k, os, hw'⟩
  rw [itoa_at n h0] at he
  exact ⟨he, by rw [hw']; exact grown_grow w k os⟩

theorem decS_max (n : Int) : decS (max n 0) = decS n := by unfold decS; rw [show (max n 0).toNat = n.toNat by omega]
set_option maxRecDepth 1000000
set_option maxHeartbeats 1000000 in
theorem digits_any (m n : Int) (h1 : n ≤ 9223372036854775807) (w : World) (hw : Wok m w) :
    Calls Tryz.prog 43 #[.int .i64 n] w fun e w' => e = .returned (.string (decS n)) ∧ w.grownBy w' none := by
  have HW := Lib.hid hw
  have e := Lib.hid (decS_max n)
  clear hw
  go_enter Tryz.func43, Tryz.ntmps43
  go_wp2_with fail
  (with_reducible refine (itoa_any m (max n 0) (by omega) (by omega) _ HW.out).mono ?_)
  rintro ee w1 ⟨rfl, hg⟩
  dsimp only
  have HG := Lib.hid hg
  clear hg
  go_wp2
  go_ret
  exact ⟨by rw [← e.out]; rfl, HG.out⟩

/-- The d-th digit. -/
def digB (d : Nat) : ByteArray := (⟨#[48, 49, 50, 51, 52, 53, 54, 55, 56, 57]⟩ : ByteArray).extract d (d + 1)
theorem digB_eq (d : Nat) (h : d < 10) : digB d = toB [UInt8.ofNat (48 + d)] := by
  have H : ∀ d : Fin 10, digB d.val = toB [UInt8.ofNat (48 + d.val)] := by decide +kernel
  exact H ⟨d, h⟩
theorem decS_small (n : Nat) (h : n < 10) : decS n = digB n := by
  rw [digB_eq n h]
  unfold decS
  rw [Int.toNat_natCast, Lib.decDigits, dif_pos h]
theorem decS_step (n : Nat) (h : ¬ n < 10) : decS n = decS (n / 10 : Nat) ++ digB (n % 10) := by
  rw [digB_eq (n % 10) (Nat.mod_lt _ (by omega))]
  unfold decS
  rw [Int.toNat_natCast, Int.toNat_natCast]
  conv => lhs; rw [Lib.decDigits, dif_neg h]
  refine bytes_ext ?_
  simp [toB]

set_option maxRecDepth 1000000
set_option maxHeartbeats 1000000 in
theorem dec_neg (n : Int) (h : n < 0) (w : World) : Calls Tryz.prog 7 #[.int .i64 n] w fun e w' => e = .returned (.string (decS n)) ∧ ∃ k, w' = w.drewN k := by
  have e : Hid (decS n = digB 0) := by show _ = _; rw [← decS_small 0 (by omega)]; unfold decS; rw [show n.toNat = ((0 : Nat) : Int).toNat by omega]
  have h10 : n < 10 := by omega
  have hm0 : max n 0 = 0 := by omega
  go_enter Tryz.func7, Tryz.ntmps7
  go_wp2
  go_ret
  exact ⟨by rw [e.out]; rfl, 0, rfl⟩
set_option maxRecDepth 1000000
set_option maxHeartbeats 1000000 in
theorem dec_small (n : Nat) (h : n < 10) (w : World) : Calls Tryz.prog 7 #[.int .i64 (n : Int)] w fun e w' => e = .returned (.string (decS n)) ∧ ∃ k, w' = w.drewN k := by
  have e := Lib.hid (decS_small n h)
  have h10 : (n : Int) < 10 := by omega
  have hm0 : max (n : Int) 0 = (n : Int) := by omega
  go_enter Tryz.func7, Tryz.ntmps7
  go_wp2
  go_ret
  exact ⟨by rw [e.out]; rfl, 0, rfl⟩
set_option maxRecDepth 1000000
set_option maxHeartbeats 1000000 in
theorem dec_step (n : Nat) (h : ¬ n < 10) (hn : n ≤ 9223372036854775807) (w : World)
    (ih : ∀ w : World, Calls Tryz.prog 7 #[.int .i64 ((n / 10 : Nat) : Int)] w fun e w' => e = .returned (.string (decS (n / 10 : Nat))) ∧ ∃ k, w' = w.drewN k) :
    Calls Tryz.prog 7 #[.int .i64 (n : Int)] w fun e w' => e = .returned (.string (decS n)) ∧ ∃ k, w' = w.drewN k := by
  have e := Lib.hid (decS_step n h)
  have h10 : decide ((n : Int) < 10) = false := by simp; omega
  have hsz := decS_size ((n / 10 : Nat) : Int) (by omega)
  obtain ⟨q, hq⟩ : ∃ q, decS ((n / 10 : Nat) : Int) = q := ⟨_, rfl⟩
  rw [hq] at hsz ih
  rw [hq] at e
  obtain ⟨d, hd⟩ : ∃ d, n / 10 = d := ⟨_, rfl⟩
  obtain ⟨r, hr⟩ : ∃ r, n % 10 = r := ⟨_, rfl⟩
  rw [hd] at ih
  rw [hr] at e
  have e1 : (n : Int) / 10 = (d : Int) := by omega
  have e2 : (n : Int) % 10 = (r : Int) := by omega
  have e3 : (n : Int).tdiv 10 = (d : Int) := by rw [Int.tdiv_eq_ediv_of_nonneg (by omega)]; exact e1
  have e4 : (n : Int).tmod 10 = (r : Int) := by rw [Int.tmod_eq_emod_of_nonneg (by omega)]; exact e2
  have hr10 : r < 10 := by omega
  have hlb : (digB r).size = 1 := by
    have H : ∀ d : Fin 10, (digB d.val).size = 1 := by decide +kernel
    exact H ⟨r, hr10⟩
  have hlb2 : q.size + ((⟨#[48, 49, 50, 51, 52, 53, 54, 55, 56, 57]⟩ : ByteArray).extract r (r + 1)).size ≤ 9223372036854775807 := by
    have : ((⟨#[48, 49, 50, 51, 52, 53, 54, 55, 56, 57]⟩ : ByteArray).extract r (r + 1)).size = 1 := hlb
    omega
  have IH := Lib.hid ih
  clear ih hd hr hq hlb h
  go_enter Tryz.func7, Tryz.ntmps7
  go_wp2
  go_quiet ((go_at_call 7; exact Calls.quiet_of (IH.out _)))
  go_wp2
  go_ret
  exact ⟨by rw [e.out]; rfl, nq, rfl⟩
theorem dec_any (n : Int) (hn : n ≤ 9223372036854775807) (w : World) : Calls Tryz.prog 7 #[.int .i64 n] w fun e w' => e = .returned (.string (decS n)) ∧ ∃ k, w' = w.drewN k := by
  rcases Int.lt_or_le n 0 with h | h
  · exact dec_neg n h w
  · obtain ⟨k, rfl⟩ := Int.eq_ofNat_of_zero_le h
    have H : ∀ (b k : Nat), k ≤ b → k ≤ 9223372036854775807 → ∀ w : World, Calls Tryz.prog 7 #[.int .i64 (k : Int)] w fun e w' => e = .returned (.string (decS k)) ∧ ∃ k, w' = w.drewN k := by
      intro b
      induction b with
      | zero => intro k hk _ w; exact dec_small k (by omega) w
      | succ b ih =>
        intro k hk hb w
        by_cases h10 : k < 10
        · exact dec_small k h10 w
        · exact dec_step k h10 hb w (ih (k / 10) (by omega) (by omega))
    exact H k k (Nat.le_refl _) (by omega) w
end Go.Proofs.YthdopcdllggdaaaGreatDoor
namespace Go.Proofs.YthdopcdllggdaaaGreatDoor
open Go.RowKit

def dotB : ByteArray := ⟨#[46]⟩
def dashB : ByteArray := ⟨#[45]⟩
/-- The three numbers' text. -/
def coreT (v : Vn) : ByteArray := decS v.maj ++ dotB ++ decS v.min ++ dotB ++ decS v.pat
/-- THE DOCUMENT's TEXT OF A VERSION. -/
def textS (v : Vn) : ByteArray := if v.pre = [] then coreT v else coreT v ++ (dashB ++ joinB dotB v.pre)
/-- A version whose numbers are ints, and whose marks lie below B. -/
structure VerAt (w : World) (B : Nat) (v : Vn) (sl : Value) : Prop where
  maj : -9223372036854775808 ≤ v.maj ∧ v.maj ≤ 9223372036854775807
  min : -9223372036854775808 ≤ v.min ∧ v.min ≤ 9223372036854775807
  pat : -9223372036854775808 ≤ v.pat ∧ v.pat ≤ 9223372036854775807
  few : v.pre.length ≤ 2000000
  short : ∀ p ∈ v.pre, p.size ≤ 2000000
  sum : sumS v.pre ≤ 8000000
  part : PartS w B sl v.pre
theorem VerAt.stays {w w' : World} {B : Nat} {v : Vn} {sl : Value} (h : VerAt w B v sl) (hg : w.grownBy w' none) : VerAt w' B v sl := { h with part := h.part.stays hg }

theorem join_any (B n cap : Nat) (a : Option Addr) (L : List ByteArray) (w : World) (hn : L.length = n) (hL : n ≤ 8000000) (hS : sumS L ≤ 140737488355328) (hB : B ≤ w.heap.size) (hP : PartS w B (.slice a n cap) L) :
    Calls Tryz.prog 44 #[.slice a n cap, .string ⟨#[46]⟩] w fun e w' => e = .returned (.string (joinB dotB L)) ∧ w.grownBy w' none := by
  subst hn
  obtain ⟨a', cap', b, o, h1, h2, h3, h4, h5, h6⟩ := hP
  have he := Value.slice.inj h1
  by_cases h0 : L.length = 0
  · obtain rfl : L = [] := List.eq_nil_of_length_eq_zero h0
    exact (Tryz.strings_Join_none a cap dotB w).mono fun e w' h => ⟨h.1, by rw [h.2]; exact World.grownBy.refl _ _⟩
  · have ha := h5 (by omega)
    rw [he.1, ha]
    exact (Tryz.strings_Join b o cap L dotB w (fun j x hj => h6 j x hj) (by omega) (by omega) (by rw [he.2.2]; exact h2) (Nat.le_trans (joinB_le 46 L) hS)).mono fun e w' h => ⟨h.1, grown_of_below h.2⟩

set_option maxRecDepth 1000000
set_option maxHeartbeats 2000000 in
theorem text_any (m : Int) (B : Nat) (v : Vn) (sl : Value) (w : World) (hw : Wok m w) (hB : B ≤ w.heap.size) (hv : VerAt w B v sl) :
    Calls Tryz.prog 24 #[verV v sl] w fun e w' => e = .returned (.string (textS v)) ∧ w.grownBy w' none := by
  obtain ⟨a, b, c, pre⟩ := v
  obtain ⟨ad, cap, hsl, hcap, hno⟩ := hv.part.form
  subst hsl
  have ha := hv.maj.2
  have hb := hv.min.2
  have hc := hv.pat.2
  simp only at ha hb hc
  have HV := Lib.hid hv
  have HW := Lib.hid hw
  clear hv hw
  obtain ⟨n, hn⟩ : ∃ n, pre.length = n := ⟨_, rfl⟩
  have HN := Lib.hid hn
  unfold verV
  simp only
  rw [hn]
  clear hn
  obtain ⟨W0, hW0⟩ : ∃ W0, w.alloc (.cells #[.int .i64 a, .int .i64 b, .int .i64 c, .slice ad n cap] 28) = W0 := ⟨_, rfl⟩
  have hblk : W0.heap[w.heap.size]? = some (.cells #[.int .i64 a, .int .i64 b, .int .i64 c, .slice ad n cap] 28 (0, 0)) := by rw [← hW0]; exact alloc_block w _
  have hg0 : w.grownBy W0 none := by rw [← hW0]; exact World.grownBy_alloc w _ none
  obtain ⟨R, hR⟩ : ∃ R, w.heap.size = R := ⟨_, rfl⟩
  rw [hR] at hblk
  have HBL := Lib.hid hblk
  have HG0 := Lib.hid hg0
  have HWA := Lib.hid hW0
  have HR := Lib.hid hR
  clear hblk hg0 hW0
  go_enter Tryz.func24, Tryz.ntmps24
  go_wp2
  rw [HWA.out]
  have hC0 : W0.grownBy { W0 with drawn := W0.drawn + 1 } none := ⟨rfl, rfl, rfl, Nat.le_refl _, fun _ _ _ => rfl⟩
  refine wp_region_quiet (C := fun w' => W0.grownBy w' none) (by kernel_rfl) (by kernel_rfl) hC0 ?_
  obtain ⟨c0, _⟩ := block_cell HBL.out 0 _ rfl
  obtain ⟨c1, _⟩ := block_cell HBL.out 1 _ rfl
  obtain ⟨c2, _⟩ := block_cell HBL.out 2 _ rfl
  have hdg : ∀ x : Int, x ≤ 9223372036854775807 → ∀ W, W0.grownBy W none → Calls Tryz.prog 43 #[.int .i64 x] W fun e w' => e = .returned (.string (decS x)) ∧ W0.grownBy w' none := by
    intro x hx W hW
    exact (digits_any m x hx W (HW.out.stays (World.grownBy.trans HG0.out hW))).mono fun e w' h => ⟨h.1, World.grownBy.trans hW h.2⟩
  have hda := hdg a ha
  have hdb := hdg b hb
  have hdc := hdg c hc
  have s1 := decS_size a ha
  have s2 := decS_size b hb
  have s3 := decS_size c hc
  have HT := Lib.hid (show textS ⟨a, b, c, pre⟩ = if pre = [] then decS a ++ dotB ++ decS b ++ dotB ++ decS c else decS a ++ dotB ++ decS b ++ dotB ++ decS c ++ (dashB ++ joinB dotB pre) from rfl)
  obtain ⟨sa, hsa⟩ : ∃ x, decS a = x := ⟨_, rfl⟩
  obtain ⟨sb, hsb⟩ : ∃ x, decS b = x := ⟨_, rfl⟩
  obtain ⟨sc, hsc⟩ : ∃ x, decS c = x := ⟨_, rfl⟩
  rw [hsa] at hda s1 HT
  rw [hsb] at hdb s2 HT
  rw [hsc] at hdc s3 HT
  have z1 : sa.size + 1 ≤ 9223372036854775807 := by omega
  have z2 : sa.size + 1 + sb.size ≤ 9223372036854775807 := by omega
  have z3 : sa.size + 1 + sb.size + 1 ≤ 9223372036854775807 := by omega
  have z4 : sa.size + 1 + sb.size + 1 + sc.size ≤ 9223372036854775807 := by omega
  clear hsa hsb hsc hdg
  refine wpQuiet_step (fun K hK => ?_)
  go_simp
  refine ⟨_, fun W hW => rfl, hK _ ?_⟩
  clear hK K
  refine wpQuiet_step (fun K hK => ?_)
  go_simp
  refine ⟨.int .i64 a, fun W hW => ?_, hK _ ?_⟩
  · rw [hW.cell c0 (by simp)]; exact ⟨rfl, rfl⟩
  clear hK K
  refine wpQuiet_step (fun K hK => ?_)
  go_simp
  refine ⟨.string sa, fun W hW => hda W hW, hK _ ?_⟩
  clear hK K
  refine wpQuiet_step (fun K hK => ?_)
  go_simp
  refine ⟨.string (sa ++ ⟨#[46]⟩), fun W hW => ?_, hK _ ?_⟩
  · rw [if_neg (by omega)]; exact ⟨rfl, rfl⟩
  clear hK K
  refine wpQuiet_step (fun K hK => ?_)
  go_simp
  refine ⟨_, fun W hW => rfl, hK _ ?_⟩
  clear hK K
  refine wpQuiet_step (fun K hK => ?_)
  go_simp
  refine ⟨.int .i64 b, fun W hW => ?_, hK _ ?_⟩
  · rw [hW.cell c1 (by simp)]; exact ⟨rfl, rfl⟩
  clear hK K
  refine wpQuiet_step (fun K hK => ?_)
  go_simp
  refine ⟨.string sb, fun W hW => hdb W hW, hK _ ?_⟩
  clear hK K
  refine wpQuiet_step (fun K hK => ?_)
  go_simp
  refine ⟨.string (sa ++ ⟨#[46]⟩ ++ sb), fun W hW => ?_, hK _ ?_⟩
  · rw [if_neg (by omega)]; exact ⟨rfl, rfl⟩
  clear hK K
  refine wpQuiet_step (fun K hK => ?_)
  go_simp
  refine ⟨.string (sa ++ ⟨#[46]⟩ ++ sb ++ ⟨#[46]⟩), fun W hW => ?_, hK _ ?_⟩
  · rw [if_neg (by omega)]; exact ⟨rfl, rfl⟩
  clear hK K
  refine wpQuiet_step (fun K hK => ?_)
  go_simp
  refine ⟨_, fun W hW => rfl, hK _ ?_⟩
  clear hK K
  refine wpQuiet_step (fun K hK => ?_)
  go_simp
  refine ⟨.int .i64 c, fun W hW => ?_, hK _ ?_⟩
  · rw [hW.cell c2 (by simp)]; exact ⟨rfl, rfl⟩
  clear hK K
  refine wpQuiet_step (fun K hK => ?_)
  go_simp
  refine ⟨.string sc, fun W hW => hdc W hW, hK _ ?_⟩
  clear hK K
  refine wpQuiet_step (fun K hK => ?_)
  go_simp
  refine ⟨.string (sa ++ ⟨#[46]⟩ ++ sb ++ ⟨#[46]⟩ ++ sc), fun W hW => ?_, hK _ ?_⟩
  · rw [if_neg (by omega)]; exact ⟨rfl, rfl⟩
  clear hK K
  refine wpQuiet_step (fun K hK => ?_)
  go_simp
  refine ⟨_, fun W hW => rfl, hK _ ?_⟩
  clear hK K
  refine wpQuiet_nil ?_
  intro W hW
  have HWW := Lib.hid hW
  have hDT : (⟨#[46]⟩ : ByteArray) = dotB := rfl
  rw [hDT]
  obtain ⟨T, hT⟩ : ∃ T, sa ++ dotB ++ sb ++ dotB ++ sc = T := ⟨_, rfl⟩
  have hTs : T.size ≤ 100 := by
    have hd1 : dotB.size = 1 := rfl
    rw [← hT]
    simp only [ByteArray.size_append]
    omega
  rw [hT] at HT ⊢
  have hJ := joinB_le 46 pre
  have hJs := HV.out.sum
  simp only at hJs
  obtain ⟨J, hJJ⟩ : ∃ J, joinB dotB pre = J := ⟨_, rfl⟩
  have hJ2 : J.size ≤ 8000000 := by
    rw [← hJJ]
    exact Nat.le_trans hJ hJs
  have HJ := Lib.hid hJJ
  rw [hJJ] at HT
  obtain ⟨c3, _⟩ := block_cell (block_kept HBL.out hW) 3 _ rfl
  have hn5 : n ≤ 8000000 := by
    have := HV.out.few
    simp only at this
    have := HN.out
    omega
  clear hW hda hdb hdc s1 s2 s3 z1 z2 z3 z4 c0 c1 c2 hT hJ hJJ hC0 hDT
  by_cases h0 : n = 0
  · have hp : pre = [] := List.eq_nil_of_length_eq_zero (by rw [HN.out, h0])
    have e : Hid (textS ⟨a, b, c, pre⟩ = T) := by show _ = _; rw [HT.out, if_pos hp]
    clear hp
    subst h0
    go_wp2
    go_ret
    exact ⟨by rw [e.out]; rfl, World.grownBy.trans HG0.out HWW.out⟩
  · have hp : ¬ pre = [] := by
      intro e
      have := HN.out
      rw [e] at this
      exact h0 this.symm
    have e : Hid (textS ⟨a, b, c, pre⟩ = T ++ (dashB ++ J)) := by show _ = _; rw [HT.out, if_neg hp]
    have hpos : 0 < (n : Int) := by omega
    have z5 : 1 + J.size ≤ 9223372036854775807 := by omega
    have z6 : T.size + (1 + J.size) ≤ 9223372036854775807 := by omega
    clear hp h0
    go_wp2_with fail
    (with_reducible refine (join_any B n cap ad pre _ HN.out hn5 (by omega) (Nat.le_trans hB (Nat.le_trans HG0.out.size HWW.out.size)) (by
      have h := (HV.out.part.stays HG0.out).stays HWW.out
      rw [← HN.out]
      exact h)).mono ?_)
    rintro ee w2 ⟨rfl, hg2⟩
    dsimp only
    rw [HJ.out]
    have HG2 := Lib.hid hg2
    clear hg2
    go_wp2
    go_ret
    exact ⟨by rw [e.out]; rfl, World.grownBy.trans (World.grownBy.trans HG0.out HWW.out) HG2.out⟩
end Go.Proofs.YthdopcdllggdaaaGreatDoor
namespace Go.Proofs.YthdopcdllggdaaaGreatDoor
open Go.RowKit

/-- The text behind k marks. -/
def txT (T : ByteArray) (L : List ByteArray) (k : Nat) : ByteArray := if k = 0 then T else T ++ (dashB ++ joinB dotB (L.take k))
theorem txT_first (T x : ByteArray) (L : List ByteArray) (h : L[0]? = some x) : txT T L 1 = T ++ dashB ++ x := by
  unfold txT
  rw [if_neg (by omega), take_snocL L 0 x h, List.take_zero, List.nil_append, joinB_one, ByteArray.append_assoc]
theorem txT_next (T x : ByteArray) (L : List ByteArray) (k : Nat) (hk : 0 < k) (h : L[k]? = some x) : txT T L (k + 1) = txT T L k ++ dotB ++ x := by
  have hl := (List.getElem?_eq_some_iff.1 h).1
  unfold txT
  rw [if_neg (by omega), if_neg (by omega), take_snocL L k x h, joinB_snoc _ _ _ (by
    intro e
    have h1 := congrArg List.length e
    rw [List.length_take, List.length_nil] at h1
    omega)]
  simp only [ByteArray.append_assoc]
theorem txT_size (T : ByteArray) (L : List ByteArray) (k : Nat) : (txT T L k).size ≤ T.size + 1 + sumS L := by
  unfold txT
  split
  · omega
  · have h1 := joinB_le 46 (L.take k)
    have h2 := sumS_take L k
    have h3 : dashB.size = 1 := rfl
    have h4 : (joinB dotB (L.take k)).size ≤ sumS (L.take k) := h1
    rw [ByteArray.size_append, ByteArray.size_append]
    omega

set_option maxRecDepth 1000000
set_option maxHeartbeats 2000000 in
theorem refText_any (B : Nat) (v : Vn) (sl : Value) (w : World) (_hB : B ≤ w.heap.size) (hv : VerAt w B v sl) :
    Calls Tryz.prog 33 #[verV v sl] w fun e w' => e = .returned (.string (textS v)) ∧ w.grownBy w' none := by
  obtain ⟨a, b, c, pre⟩ := v
  obtain ⟨ad, cap, hsl, hcap, hno⟩ := hv.part.form
  subst hsl
  have ha := hv.maj.2
  have hb := hv.min.2
  have hc := hv.pat.2
  simp only at ha hb hc
  have HV := Lib.hid hv
  clear hv
  obtain ⟨n, hn⟩ : ∃ n, pre.length = n := ⟨_, rfl⟩
  have HN := Lib.hid hn
  unfold verV
  simp only
  rw [hn]
  clear hn
  obtain ⟨W0, hW0⟩ : ∃ W0, w.alloc (.cells #[.int .i64 a, .int .i64 b, .int .i64 c, .slice ad n cap] 28) = W0 := ⟨_, rfl⟩
  have hblk : W0.heap[w.heap.size]? = some (.cells #[.int .i64 a, .int .i64 b, .int .i64 c, .slice ad n cap] 28 (0, 0)) := by rw [← hW0]; exact alloc_block w _
  have hg0 : w.grownBy W0 none := by rw [← hW0]; exact World.grownBy_alloc w _ none
  obtain ⟨R, hR⟩ : ∃ R, w.heap.size = R := ⟨_, rfl⟩
  rw [hR] at hblk
  have HBL := Lib.hid hblk
  have HG0 := Lib.hid hg0
  have HWA := Lib.hid hW0
  clear hblk hg0 hW0
  have s1 := decS_size a ha
  have s2 := decS_size b hb
  have s3 := decS_size c hc
  have hdg : ∀ x : Int, x ≤ 9223372036854775807 → ∀ W, W0.grownBy W none → Calls Tryz.prog 7 #[.int .i64 x] W fun e w' => e = .returned (.string (decS x)) ∧ W0.grownBy w' none := by
    intro x hx W hW
    exact (dec_any x hx W).mono fun e w' h => ⟨h.1, by obtain ⟨k, hk⟩ := h.2; rw [hk]; exact grown_drew k hW⟩
  have hda := hdg a ha
  have hdb := hdg b hb
  have hdc := hdg c hc
  have HT := Lib.hid (show textS ⟨a, b, c, pre⟩ = if pre = [] then decS a ++ dotB ++ decS b ++ dotB ++ decS c else decS a ++ dotB ++ decS b ++ dotB ++ decS c ++ (dashB ++ joinB dotB pre) from rfl)
  obtain ⟨sa, hsa⟩ : ∃ x, decS a = x := ⟨_, rfl⟩
  obtain ⟨sb, hsb⟩ : ∃ x, decS b = x := ⟨_, rfl⟩
  obtain ⟨sc, hsc⟩ : ∃ x, decS c = x := ⟨_, rfl⟩
  rw [hsa] at hda s1 HT
  rw [hsb] at hdb s2 HT
  rw [hsc] at hdc s3 HT
  have z1 : sa.size + 1 ≤ 9223372036854775807 := by omega
  have z2 : sa.size + 1 + sb.size ≤ 9223372036854775807 := by omega
  have z3 : sa.size + 1 + sb.size + 1 ≤ 9223372036854775807 := by omega
  have z4 : sa.size + 1 + sb.size + 1 + sc.size ≤ 9223372036854775807 := by omega
  obtain ⟨c0, _⟩ := block_cell HBL.out 0 _ rfl
  obtain ⟨c1, _⟩ := block_cell HBL.out 1 _ rfl
  obtain ⟨c2, _⟩ := block_cell HBL.out 2 _ rfl
  clear hsa hsb hsc hdg
  go_enter Tryz.func33, Tryz.ntmps33
  go_wp2
  rw [HWA.out]
  have hC0 : W0.grownBy { W0 with drawn := W0.drawn + 1 } none := ⟨rfl, rfl, rfl, Nat.le_refl _, fun _ _ _ => rfl⟩
  refine wp_region_quiet (C := fun w' => W0.grownBy w' none) (by kernel_rfl) (by kernel_rfl) hC0 ?_
  refine wpQuiet_step (fun K hK => ?_)
  go_simp
  refine ⟨_, fun W hW => rfl, hK _ ?_⟩
  clear hK K
  refine wpQuiet_step (fun K hK => ?_)
  go_simp
  refine ⟨.int .i64 a, fun W hW => ?_, hK _ ?_⟩
  · rw [hW.cell c0 (by simp)]; exact ⟨rfl, rfl⟩
  clear hK K
  refine wpQuiet_step (fun K hK => ?_)
  go_simp
  refine ⟨.string sa, fun W hW => hda W hW, hK _ ?_⟩
  clear hK K
  refine wpQuiet_step (fun K hK => ?_)
  go_simp
  refine ⟨.string (sa ++ ⟨#[46]⟩), fun W hW => ?_, hK _ ?_⟩
  · rw [if_neg (by omega)]; exact ⟨rfl, rfl⟩
  clear hK K
  refine wpQuiet_step (fun K hK => ?_)
  go_simp
  refine ⟨_, fun W hW => rfl, hK _ ?_⟩
  clear hK K
  refine wpQuiet_step (fun K hK => ?_)
  go_simp
  refine ⟨.int .i64 b, fun W hW => ?_, hK _ ?_⟩
  · rw [hW.cell c1 (by simp)]; exact ⟨rfl, rfl⟩
  clear hK K
  refine wpQuiet_step (fun K hK => ?_)
  go_simp
  refine ⟨.string sb, fun W hW => hdb W hW, hK _ ?_⟩
  clear hK K
  refine wpQuiet_step (fun K hK => ?_)
  go_simp
  refine ⟨.string (sa ++ ⟨#[46]⟩ ++ sb), fun W hW => ?_, hK _ ?_⟩
  · rw [if_neg (by omega)]; exact ⟨rfl, rfl⟩
  clear hK K
  refine wpQuiet_step (fun K hK => ?_)
  go_simp
  refine ⟨.string (sa ++ ⟨#[46]⟩ ++ sb ++ ⟨#[46]⟩), fun W hW => ?_, hK _ ?_⟩
  · rw [if_neg (by omega)]; exact ⟨rfl, rfl⟩
  clear hK K
  refine wpQuiet_step (fun K hK => ?_)
  go_simp
  refine ⟨_, fun W hW => rfl, hK _ ?_⟩
  clear hK K
  refine wpQuiet_step (fun K hK => ?_)
  go_simp
  refine ⟨.int .i64 c, fun W hW => ?_, hK _ ?_⟩
  · rw [hW.cell c2 (by simp)]; exact ⟨rfl, rfl⟩
  clear hK K
  refine wpQuiet_step (fun K hK => ?_)
  go_simp
  refine ⟨.string sc, fun W hW => hdc W hW, hK _ ?_⟩
  clear hK K
  refine wpQuiet_step (fun K hK => ?_)
  go_simp
  refine ⟨.string (sa ++ ⟨#[46]⟩ ++ sb ++ ⟨#[46]⟩ ++ sc), fun W hW => ?_, hK _ ?_⟩
  · rw [if_neg (by omega)]; exact ⟨rfl, rfl⟩
  clear hK K
  refine wpQuiet_step (fun K hK => ?_)
  go_simp
  refine ⟨_, fun W hW => rfl, hK _ ?_⟩
  clear hK K
  refine wpQuiet_nil ?_
  intro W hW
  have hDT : (⟨#[46]⟩ : ByteArray) = dotB := rfl
  rw [hDT]
  obtain ⟨T, hT⟩ : ∃ T, sa ++ dotB ++ sb ++ dotB ++ sc = T := ⟨_, rfl⟩
  have hTs : T.size ≤ 100 := by
    have hd1 : dotB.size = 1 := rfl
    rw [← hT]
    simp only [ByteArray.size_append]
    omega
  rw [hT] at HT ⊢
  have HGW := Lib.hid (World.grownBy.trans HG0.out hW)
  obtain ⟨c3, _⟩ := block_cell (block_kept HBL.out hW) 3 _ rfl
  have HPW := Lib.hid (show PartS W B (.slice ad n cap) pre from by rw [← HN.out]; exact HV.out.part.stays HGW.out)
  have hsum := HV.out.sum
  simp only at hsum
  have hn5 : n ≤ 8000000 := by
    have := HV.out.few
    simp only at this
    have := HN.out
    omega
  clear hW hC0 hda hdb hdc c0 c1 c2 z1 z2 z3 z4 s1 s2 s3 hT hDT
  go_wp2
  go_loopw [3, 4] (fun s i wr => ∃ k : Nat, k ≤ n ∧ i = .int .i64 k ∧ s = .string (txT T pre k) ∧ W = wr) (fun _ i _ => n - (intOf i).toNat)
  case atStart => exact ⟨0, Nat.zero_le _, rfl, rfl, rfl⟩
  case round =>
    obtain ⟨k, hk, rfl, rfl, rfl⟩ := hrel
    have hz := txT_size T pre k
    by_cases hlt : k < n
    · obtain ⟨x, hx⟩ : ∃ x, pre[k]? = some x := ⟨_, List.getElem?_eq_getElem (by rw [HN.out]; exact hlt)⟩
      obtain ⟨bk, o, e1, _, g1⟩ := HPW.out.at k x hx
      subst e1
      have hxs := HV.out.short x (List.mem_of_getElem? hx)
      by_cases h0 : k = 0
      · subst h0
        have HX := Lib.hid (txT_first T x pre hx)
        have e0 : txT T pre 0 = T := rfl
        rw [e0] at hz ⊢
        rw [Nat.add_zero] at g1
        have z5 : T.size + 1 ≤ 9223372036854775807 := by omega
        have z6 : T.size + 1 + x.size ≤ 9223372036854775807 := by omega
        clear hx e0 hz
        go_wp2
        go_roundw
        case rel => exact ⟨1, by omega, rfl, by rw [HX.out]; rfl, trivial⟩
        case measure => simp [intOf]; omega
      · have HX := Lib.hid (txT_next T x pre k (by omega) hx)
        have hne : ((k : Int) == 0) = false := by simp; omega
        have hne2 : ¬ (k : Int) = 0 := by omega
        obtain ⟨t, ht⟩ : ∃ t, txT T pre k = t := ⟨_, rfl⟩
        rw [ht] at hz HX ⊢
        have z5 : t.size + 1 ≤ 9223372036854775807 := by omega
        have z6 : t.size + 1 + x.size ≤ 9223372036854775807 := by omega
        clear hx ht h0
        go_wp2
        go_roundw
        case rel => exact ⟨k + 1, by omega, by go_num, by rw [HX.out]; rfl, trivial⟩
        case measure => simp [intOf]; omega
    · have hkn : k = n := by omega
      subst hkn
      have e : Hid (textS ⟨a, b, c, pre⟩ = txT T pre k) := by
        show _ = _
        rw [HT.out]
        unfold txT
        by_cases h0 : k = 0
        · rw [if_pos h0, if_pos (List.eq_nil_of_length_eq_zero (by rw [HN.out, h0]))]
        · rw [if_neg h0, if_neg (by intro e; have := HN.out; rw [e] at this; exact h0 this.symm), List.take_of_length_le (by rw [HN.out]; exact Nat.le_refl _)]
      clear hlt hk hz
      go_wp2
      go_ret
      exact ⟨by rw [e.out]; rfl, HGW.out⟩
end Go.Proofs.YthdopcdllggdaaaGreatDoor
namespace Go.Proofs.YthdopcdllggdaaaGreatDoor
open Go.RowKit

/-- How far two lists are alike. -/
theorem list_diff (L M : List ByteArray) (h : L.length = M.length) (hd : ¬ L = M) : ∃ (i : Nat) (x y : ByteArray), L[i]? = some x ∧ M[i]? = some y ∧ ¬ x = y ∧ ∀ j, j < i → L[j]? = M[j]? := by
  induction L generalizing M with
  | nil =>
    have : M = [] := List.eq_nil_of_length_eq_zero h.symm
    exact absurd this.symm hd
  | cons a L ih =>
    cases M with
    | nil => simp at h
    | cons b M =>
      by_cases hab : a = b
      · subst hab
        obtain ⟨i, x, y, h1, h2, h3, h4⟩ := ih M (by simpa using h) (fun e => hd (by rw [e]))
        refine ⟨i + 1, x, y, by simpa using h1, by simpa using h2, h3, fun j hj => ?_⟩
        cases j with
        | zero => rfl
        | succ j => simpa using h4 j (by omega)
      · exact ⟨0, a, b, rfl, rfl, hab, fun j hj => by omega⟩

set_option maxRecDepth 1000000
set_option maxHeartbeats 1000000 in
theorem strings_any (B C n1 n2 c1 c2 : Nat) (a1 a2 : Option Addr) (L M : List ByteArray) (w : World) (hn1 : L.length = n1) (hn2 : M.length = n2) (hb : n1 ≤ 8000000) (hb2 : n2 ≤ 8000000) (h1 : PartS w B (.slice a1 n1 c1) L) (h2 : PartS w C (.slice a2 n2 c2) M) :
    Calls Tryz.prog 48 #[.slice a1 n1 c1, .slice a2 n2 c2] w fun e w' => e = .returned (.bool (decide (L = M))) ∧ w.grownBy w' none := by
  by_cases hl : n1 = n2
  · subst hl
    have HN1 := Lib.hid hn1
    have HN2 := Lib.hid hn2
    have H1 := Lib.hid h1
    have H2 := Lib.hid h2
    clear hn1 hn2 h1 h2
    by_cases he : L = M
    · subst he
      have e : Hid (decide (L = L) = true) := by show _ = _; simp
      go_enter Tryz.func48, Tryz.ntmps48
      go_wp2
      go_loopw [5] (fun i wr => ∃ k : Nat, k ≤ n1 ∧ i = .int .i64 k ∧ w.grownBy wr none) (fun i _ => n1 - (intOf i).toNat)
      case atStart => exact ⟨0, Nat.zero_le _, rfl, World.grownBy.refl _ _⟩
      case round =>
        obtain ⟨k, hk, rfl, hg⟩ := hrel
        by_cases hlt : k < n1
        · obtain ⟨x, hx⟩ : ∃ x, L[k]? = some x := ⟨_, List.getElem?_eq_getElem (by rw [HN1.out]; exact hlt)⟩
          obtain ⟨b1, o1, e1, _, g1⟩ := (H1.out.stays hg).at k x hx
          obtain ⟨b2, o2, e2, _, g2⟩ := (H2.out.stays hg).at k x hx
          subst e1 e2
          have HG := Lib.hid hg
          clear hg hx
          go_wp2
          go_region
          go_wp2
          go_roundw
          case rel => exact ⟨k + 1, by omega, by go_num, ⟨HG.out.os, HG.out.tape, HG.out.output, HG.out.size, HG.out.block⟩⟩
          case measure => simp [intOf]; omega
        · have hkn : k = n1 := by omega
          subst hkn
          clear hlt hk
          have HG := Lib.hid hg
          clear hg
          go_wp2
          go_ret
          exact ⟨by rw [e.out]; rfl, HG.out⟩
    · obtain ⟨i, x, y, hx, hy, hne, hpre⟩ := list_diff L M (by rw [HN1.out, HN2.out]) he
      have e : Hid (decide (L = M) = false) := by show _ = _; simp [he]
      have hi : i < n1 := by
        have := (List.getElem?_eq_some_iff.1 hx).1
        have := HN1.out
        omega
      have HX := Lib.hid hx
      have HY := Lib.hid hy
      have HPRE := Lib.hid hpre
      have c3 := nb_lists x y hne
      have d3 := ne_lists x y hne
      clear he hx hy hne hpre
      go_enter Tryz.func48, Tryz.ntmps48
      go_wp2
      go_loopw [5] (fun j wr => ∃ k : Nat, k ≤ i ∧ j = .int .i64 k ∧ w.grownBy wr none) (fun j _ => n1 - (intOf j).toNat)
      case atStart => exact ⟨0, Nat.zero_le _, rfl, World.grownBy.refl _ _⟩
      case round =>
        obtain ⟨k, hk, rfl, hg⟩ := hrel
        have hkn : k < n1 := by omega
        by_cases hlt : k < i
        · obtain ⟨z, hz⟩ : ∃ z, L[k]? = some z := ⟨_, List.getElem?_eq_getElem (by rw [HN1.out]; exact hkn)⟩
          have hz2 : M[k]? = some z := by rw [← HPRE.out k hlt]; exact hz
          obtain ⟨b1, o1, e1, _, g1⟩ := (H1.out.stays hg).at k z hz
          obtain ⟨b2, o2, e2, _, g2⟩ := (H2.out.stays hg).at k z hz2
          subst e1 e2
          have HG := Lib.hid hg
          clear hg hz hz2
          go_wp2
          go_region
          go_wp2
          go_roundw
          case rel => exact ⟨k + 1, by omega, by go_num, ⟨HG.out.os, HG.out.tape, HG.out.output, HG.out.size, HG.out.block⟩⟩
          case measure => simp [intOf]; omega
        · have hki : k = i := by omega
          subst hki
          obtain ⟨b1, o1, e1, _, g1⟩ := (H1.out.stays hg).at k x HX.out
          obtain ⟨b2, o2, e2, _, g2⟩ := (H2.out.stays hg).at k y HY.out
          subst e1 e2
          have HG := Lib.hid hg
          clear hg hlt hk
          go_wp2
          go_region
          go_wp2
          go_ret
          exact ⟨by rw [e.out]; rfl, ⟨HG.out.os, HG.out.tape, HG.out.output, HG.out.size, HG.out.block⟩⟩
  · have e : Hid (decide (L = M) = false) := by
      show _ = _
      simp only [decide_eq_false_iff_not]
      intro e
      rw [e] at hn1
      omega
    have hne : ((n1 : Int) == (n2 : Int)) = false := by simp; omega
    have hne2 : ¬ (n1 : Int) = (n2 : Int) := by omega
    have hne3 : (n1 == n2) = false := by simp; omega
    have hne4 : ¬ n1 = n2 := hl
    clear hn1 hn2 h1 h2 hl
    go_enter Tryz.func48, Tryz.ntmps48
    go_wp2
    go_ret
    exact ⟨by rw [e.out]; rfl, World.grownBy.refl _ _⟩
end Go.Proofs.YthdopcdllggdaaaGreatDoor
namespace Go.Proofs.YthdopcdllggdaaaGreatDoor
open Go.RowKit

set_option maxRecDepth 1000000
set_option maxHeartbeats 2000000 in
theorem version_any (B C : Nat) (u v : Vn) (su sv : Value) (w : World) (hu : u.pre.length ≤ 8000000) (hv : v.pre.length ≤ 8000000) (h1 : PartS w B su u.pre) (h2 : PartS w C sv v.pre) :
    Calls Tryz.prog 28 #[verV u su, verV v sv] w fun e w' => e = .returned (.bool (decide (u = v))) ∧ w.grownBy w' none := by
  obtain ⟨a, b, c, pu⟩ := u
  obtain ⟨d, f, g, pv⟩ := v
  obtain ⟨ad, cap, hsl, hcap, hno⟩ := h1.form
  subst hsl
  obtain ⟨ad2, cap2, hsl, hcap2, hno2⟩ := h2.form
  subst hsl
  simp only at hu hv h1 h2
  obtain ⟨n1, hn1⟩ : ∃ n, pu.length = n := ⟨_, rfl⟩
  obtain ⟨n2, hn2⟩ : ∃ n, pv.length = n := ⟨_, rfl⟩
  have HN1 := Lib.hid hn1
  have HN2 := Lib.hid hn2
  have H1 := Lib.hid h1
  have H2 := Lib.hid h2
  unfold verV
  simp only
  rw [hn1, hn2]
  rw [hn1] at hu
  rw [hn2] at hv
  obtain ⟨W0, hW0⟩ : ∃ W0, (w.alloc (.cells #[.int .i64 a, .int .i64 b, .int .i64 c, .slice ad n1 cap] 28)).alloc (.cells #[.int .i64 d, .int .i64 f, .int .i64 g, .slice ad2 n2 cap2] 28) = W0 := ⟨_, rfl⟩
  obtain ⟨R, hR⟩ : ∃ R, w.heap.size = R := ⟨_, rfl⟩
  have ha1 : (w.alloc (.cells #[.int .i64 a, .int .i64 b, .int .i64 c, .slice ad n1 cap] 28)).heap.size = R + 1 := by rw [alloc_size, hR]
  have hb1 : W0.heap[R]? = some (.cells #[.int .i64 a, .int .i64 b, .int .i64 c, .slice ad n1 cap] 28 (0, 0)) := by
    rw [← hW0]
    refine block_kept ?_ (World.grownBy_alloc _ _ _)
    rw [← hR]; exact alloc_block w _
  have hb2 : W0.heap[R + 1]? = some (.cells #[.int .i64 d, .int .i64 f, .int .i64 g, .slice ad2 n2 cap2] 28 (0, 0)) := by
    rw [← hW0, ← ha1]; exact alloc_block _ _
  have HG0 := Lib.hid (show w.grownBy W0 none by rw [← hW0]; exact grown_alloc _ (World.grownBy_alloc w _ none))
  have HWA := Lib.hid hW0
  have HB1 := Lib.hid hb1
  have HB2 := Lib.hid hb2
  obtain ⟨c0, _⟩ := block_cell HB1.out 0 _ rfl
  obtain ⟨c1, _⟩ := block_cell HB1.out 1 _ rfl
  obtain ⟨c2, _⟩ := block_cell HB1.out 2 _ rfl
  obtain ⟨c3, _⟩ := block_cell HB1.out 3 _ rfl
  obtain ⟨d0, _⟩ := block_cell HB2.out 0 _ rfl
  obtain ⟨d1, _⟩ := block_cell HB2.out 1 _ rfl
  obtain ⟨d2, _⟩ := block_cell HB2.out 2 _ rfl
  obtain ⟨d3, _⟩ := block_cell HB2.out 3 _ rfl
  clear hn1 hn2 h1 h2 hW0 ha1 hb1 hb2
  have no : ∀ x y : Int, ¬ x = y → (x == y) = false := fun x y h => by simp [h]
  by_cases e1 : a = d
  · subst e1
    by_cases e2 : b = f
    · subst e2
      by_cases e3 : c = g
      · subst e3
        have e : Hid (decide ((⟨a, b, c, pu⟩ : Vn) = ⟨a, b, c, pv⟩) = decide (pu = pv)) := by show _ = _; simp
        clear no
        go_enter Tryz.func28, Tryz.ntmps28
        go_wp2_with fail
        rw [HWA.out]
        (with_reducible refine (strings_any B C n1 n2 cap cap2 ad ad2 pu pv _ HN1.out HN2.out hu hv (by rw [← HN1.out]; exact H1.out.stays HG0.out) (by rw [← HN2.out]; exact H2.out.stays HG0.out)).mono ?_)
        rintro ee w1 ⟨rfl, hg⟩
        dsimp only
        have HG := Lib.hid (World.grownBy.trans HG0.out hg)
        clear hg
        go_wp2
        go_ret
        exact ⟨by rw [e.out]; rfl, HG.out⟩
      · have e : Hid (decide ((⟨a, b, c, pu⟩ : Vn) = ⟨a, b, g, pv⟩) = false) := by show _ = _; simp [e3]
        have n3 := no _ _ e3
        clear no
        go_enter Tryz.func28, Tryz.ntmps28
        go_wp2
        rw [HWA.out]
        go_wp2
        go_ret
        exact ⟨by first | rfl | (rw [e.out]; rfl), HG0.out⟩
    · have e : Hid (decide ((⟨a, b, c, pu⟩ : Vn) = ⟨a, f, g, pv⟩) = false) := by show _ = _; simp [e2]
      have n3 := no _ _ e2
      clear no
      go_enter Tryz.func28, Tryz.ntmps28
      go_wp2
      rw [HWA.out]
      go_wp2
      go_ret
      exact ⟨by first | rfl | (rw [e.out]; rfl), HG0.out⟩
  · have e : Hid (decide ((⟨a, b, c, pu⟩ : Vn) = ⟨d, f, g, pv⟩) = false) := by show _ = _; simp [e1]
    have n3 := no _ _ e1
    clear no
    go_enter Tryz.func28, Tryz.ntmps28
    go_wp2
    rw [HWA.out]
    go_wp2
    go_ret
    exact ⟨by first | rfl | (rw [e.out]; rfl), HG0.out⟩
end Go.Proofs.YthdopcdllggdaaaGreatDoor
