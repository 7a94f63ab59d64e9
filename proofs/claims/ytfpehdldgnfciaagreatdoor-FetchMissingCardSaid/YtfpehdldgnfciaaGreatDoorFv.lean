/- The reference's VersionOf of a text without marks: what stands for its marks is nil. -/
import Derived.Test.YtfpehdldgnfciaaGreatDoorVf
namespace Go.Proofs.YtfpehdldgnfciaaGreatDoor
open Go.RowKit

def VerRet0 (w : World) (R : Vn × Int) (e : Ending) (w' : World) : Prop := e = .returned (.tuple #[verV R.1 (.slice none 0 0), .int .i64 R.2]) ∧ w.grownBy w' none
set_option maxRecDepth 1000000
set_option maxHeartbeats 8000000 in
theorem refParse_none0 (s : ByteArray) (w : World) (hs : s.size ≤ 2000000) (hno : ∀ j, j < s.size → byteAt s j ≠ 45) :
    Calls Tryz.prog 15 #[.string s] w (VerRet0 w (parseS s)) := by
  have hd := dash_none s hno
  obtain ⟨core, hco⟩ : ∃ c, s = c := ⟨_, rfl⟩
  obtain ⟨marks, hma⟩ : ∃ c : ByteArray, ⟨#[]⟩ = c := ⟨_, rfl⟩
  obtain ⟨P, hP⟩ : ∃ P, pieces 46 core = P := ⟨_, rfl⟩
  obtain ⟨N, hN⟩ : ∃ N, P.length = N := ⟨_, rfl⟩
  have HE := Lib.hid (show parseS s = parseP P marks false by unfold parseS; rw [hd, ← hP, ← hco, ← hma])
  have HMK : Hid (okVer P marks false = (decide (P.length = 3) && P.all okNum)) := by show _ = _; unfold okVer; simp
  obtain ⟨MM, hMM⟩ : ∃ L : List ByteArray, [] = L := ⟨_, rfl⟩
  have HPRE : Hid (preOf marks false = MM) := by show _ = _; rw [← hMM]; rfl
  have hcs : core.size ≤ 2000000 := by rw [← hco]; exact hs
  have HNO := Lib.hid hno
  have HCO := Lib.hid hco
  have HP := Lib.hid hP
  have HN := Lib.hid hN
  obtain ⟨R, hR⟩ : ∃ R, w.heap.size = R := ⟨_, rfl⟩
  have HR := Lib.hid hR
  have ha1 : (w.alloc (.cells #[.int .i64 0, .int .i64 0, .int .i64 0, .slice none 0 0] 30)).heap.size = R + 1 := by rw [alloc_size, hR]
  have HV1 : Hid (((w.alloc (.cells #[.int .i64 0, .int .i64 0, .int .i64 0, .slice none 0 0] 30)).alloc (.cells #[.int .i64 0, .int .i64 0, .int .i64 0, .slice none 0 0] 30)).heap[R + 1]? = some (.cells #[.int .i64 0, .int .i64 0, .int .i64 0, .slice none 0 0] 30 (0, 0))) := by
    show _ = _
    rw [← ha1]; exact alloc_block _ _
  have HR1 : Hid (((w.alloc (.cells #[.int .i64 0, .int .i64 0, .int .i64 0, .slice none 0 0] 30)).alloc (.cells #[.int .i64 0, .int .i64 0, .int .i64 0, .slice none 0 0] 30)).heap[R]? = some (.cells #[.int .i64 0, .int .i64 0, .int .i64 0, .slice none 0 0] 30 (0, 0))) := by
    refine block_kept ?_ (World.grownBy_alloc _ _ _)
    rw [← hR]; exact alloc_block w _
  have HG1 : Hid (w.grownBy ((w.alloc (.cells #[.int .i64 0, .int .i64 0, .int .i64 0, .slice none 0 0] 30)).alloc (.cells #[.int .i64 0, .int .i64 0, .int .i64 0, .slice none 0 0] 30)) none) := grown_alloc _ (World.grownBy_alloc w _ none)
  clear hd hma hP hN hno ha1 hMM hco
  go_enter Tryz.func15, Tryz.ntmps15
  go_wp2
  generalize hwq : (w.alloc _).alloc _ = wq
  rw [hwq] at HV1 HR1 HG1
  have HVq := Lib.hid HV1.out
  have HRq := Lib.hid HR1.out
  have HGq := Lib.hid HG1.out
  obtain ⟨vb, hvb⟩ : ∃ vb, R + 1 = vb := ⟨_, rfl⟩
  rw [hvb] at HVq ⊢
  have HRV : Hid (R < vb) := by show R < vb; omega
  have HVB := Lib.hid hvb
  obtain ⟨pa, pn, pc, hpsl⟩ : ∃ (a : Option Addr) (n c : Nat), Value.slice none 0 0 = .slice a n c := ⟨_, _, _, rfl⟩
  have HPq : Hid (PartS wq wq.heap.size (.slice pa pn pc) MM) := by
    rw [← hpsl, ← (HPRE.out : preOf marks false = MM)]
    exact PartS.nil (Nat.lt_of_le_of_lt (Nat.zero_le _) (block_size HRq.out))
  have HOBR : Hid ((Value.slice pa pn pc).ownBlock ≠ some R) := by rw [← hpsl]; exact fun h => by cases h
  have HOBV : Hid ((Value.slice pa pn pc).ownBlock ≠ some vb) := by rw [← hpsl]; exact fun h => by cases h
  have HVq2 : Hid (wq.heap[vb]? = some (.cells #[.int .i64 0, .int .i64 0, .int .i64 0, .slice pa pn pc] 30 (0, 0))) := by rw [← hpsl]; exact HVq.out
  have HPSL := Lib.hid hpsl
  clear HV1 HR1 HG1 hwq hvb hpsl HVq
  have HVq := Lib.hid HVq2.out
  clear HVq2
  go_loopw [5, 6] (fun c i wr => ∃ k : Nat, k ≤ s.size ∧ i = .int .i64 k ∧ c = .string s ∧ wq = wr) (fun _ i _ => s.size - (intOf i).toNat)
  case atStart => exact ⟨0, Nat.zero_le _, rfl, rfl, rfl⟩
  case round =>
    obtain ⟨k, hk, rfl, rfl, rfl⟩ := hrel
    by_cases hlt : k < s.size
    · obtain ⟨c, hc⟩ : ∃ c, byteAt s k = c := ⟨_, rfl⟩
      have hc2 : s[k]'hlt = c := by rw [← byteAt_eq]; exact hc
      have hb := HNO.out k hlt
      rw [hc] at hb
      have hb' : ¬ (c.toNat : Int) = 45 := by
        intro e; apply hb; apply UInt8.toNat_inj.1; show c.toNat = 45; omega
      have b1 := beq_no c.toNat 45 hb'
      clear hc hb
      go_wp2
      go_roundw
      case rel => exact ⟨k + 1, by omega, by go_num, rfl, trivial⟩
      case measure => simp [intOf]; omega
    · have hks : k = s.size := by omega
      subst hks
      have hc1 := HCO.out
      clear hlt hk
      subst hc1
      go_wp2_with fail
      (with_reducible refine (refSplit_at s P hcs _ HP.out).mono ?_)
      rintro ee w2 ⟨lv, rfl, hlo, hlg⟩
      dsimp only
      obtain ⟨la, lcap, hlf, hlc, hlm⟩ := hlo.form
      rw [HN.out] at hlf hlc
      subst hlf
      have HPL := Lib.hid (hlo.part (by have := hlg.size; have := block_size HRq.out; omega))
      have HR2 := Lib.hid (block_kept HRq.out hlg)
      have HV2 := Lib.hid (block_kept HVq.out hlg)
      have HG2 := Lib.hid (World.grownBy.trans HGq.out hlg)
      have HP2 := Lib.hid (HPq.out.stays hlg)
      have HS2 := Lib.hid hlg.size
      clear hlo hlg
      by_cases h3 : N = 3
      · subst h3
        have HN3 := HN.out
        obtain ⟨x0, e0⟩ : ∃ x, P[0]? = some x := ⟨_, List.getElem?_eq_getElem (by omega)⟩
        obtain ⟨x1, e1⟩ : ∃ x, P[1]? = some x := ⟨_, List.getElem?_eq_getElem (by omega)⟩
        obtain ⟨x2, e2⟩ : ∃ x, P[2]? = some x := ⟨_, List.getElem?_eq_getElem (by omega)⟩
        obtain ⟨b, o, ea, hbn, g0⟩ := HPL.out.at 0 x0 e0
        obtain ⟨b', o', ea', hx1, g1⟩ := HPL.out.at 1 x1 e1
        obtain ⟨b'', o'', ea'', hx2, g2⟩ := HPL.out.at 2 x2 e2
        have i1 := Addr.mk.inj (Option.some.inj (ea'.symm.trans ea))
        have i2 := Addr.mk.inj (Option.some.inj (ea''.symm.trans ea))
        rw [i1.1, i1.2.1] at g1
        rw [i2.1, i2.2.1] at g2
        rw [Nat.add_zero] at g0
        subst ea
        clear ea' ea'' i1 i2 hx1 hx2 b' b'' o' o''
        have hP3 : P = [x0, x1, x2] := by
          match P, HN3, e0, e1, e2 with
          | [p0, p1, p2], _, h0, h1, h2 =>
            have h0' : p0 = x0 := by simpa using h0
            have h1' : p1 = x1 := by simpa using h1
            have h2' : p2 = x2 := by simpa using h2
            rw [h0', h1', h2']
        have hsz : ∀ p ∈ P, p.size ≤ 9223372036854775807 := by
          intro p hp
          rw [← HP.out] at hp
          have := pieces_size 46 s p hp
          omega
        have z0 := hsz x0 (List.mem_of_getElem? e0)
        have z1 := hsz x1 (List.mem_of_getElem? e1)
        have z2 := hsz x2 (List.mem_of_getElem? e2)
        obtain ⟨n0, b0, k0⟩ : ∃ n b, refNum x0 999999999 = (n, b) := ⟨_, _, rfl⟩
        obtain ⟨n1, b1, k1⟩ : ∃ n b, refNum x1 999999999 = (n, b) := ⟨_, _, rfl⟩
        obtain ⟨n2, b2, k2⟩ : ∃ n b, refNum x2 999999999 = (n, b) := ⟨_, _, rfl⟩
        have hok : okVer P marks false = (b0 && b1 && b2) := by
          rw [HMK.out, hP3]
          have r0 := (okNum_ref x0).1
          have r1 := (okNum_ref x1).1
          have r2 := (okNum_ref x2).1
          rw [k0] at r0
          rw [k1] at r1
          rw [k2] at r2
          simp only at r0 r1 r2
          simp [← r0, ← r1, ← r2, Bool.and_assoc]
        have hval : b0 = true → b1 = true → b2 = true → parseS s = (⟨n0, n1, n2, MM⟩, 0) := by
          intro a0 a1 a2
          have r0 := okNum_ref x0
          have r1 := okNum_ref x1
          have r2 := okNum_ref x2
          rw [k0] at r0
          rw [k1] at r1
          rw [k2] at r2
          rw [HE.out]
          unfold parseP
          rw [hok, a0, a1, a2, if_pos (show (true && true && true) = true from rfl), HPRE.out, hP3]
          have t0 := r0.2 (by rw [← r0.1]; exact a0)
          have t1 := r1.2 (by rw [← r1.1]; exact a1)
          have t2 := r2.2 (by rw [← r2.1]; exact a2)
          simp only at t0 t1 t2
          rw [t0, t1, t2]
          rfl
        have HOK := Lib.hid hok
        have HVAL := Lib.hid hval
        have K0 := Lib.hid k0
        have K1 := Lib.hid k1
        have K2 := Lib.hid k2
        clear hok hval k0 k1 k2 hP3 hsz e0 e1 e2 HN3
        go_wp2_with fail
        (with_reducible refine (refNum_at x0 n0 b0 z0 _ K0.out).mono ?_)
        rintro ee w' ⟨rfl, hw'⟩
        rw [hw']
        clear hw' w'
        dsimp only
        go_wp2_with fail
        (with_reducible refine (refNum_at x1 n1 b1 z1 _ K1.out).mono ?_)
        rintro ee w' ⟨rfl, hw'⟩
        rw [hw']
        clear hw' w'
        dsimp only
        go_wp2_with fail
        (with_reducible refine (refNum_at x2 n2 b2 z2 _ K2.out).mono ?_)
        rintro ee w' ⟨rfl, hw'⟩
        rw [hw']
        clear hw' w'
        dsimp only
        cases hall : (b0 && b1 && b2) with
        | false =>
          have e : Hid (parseS s = (zeroV, 60)) := by
            show _ = _
            rw [HE.out]
            unfold parseP
            rw [HOK.out, hall, if_neg (by simp)]
          obtain ⟨r0, f0⟩ := block_cell HR2.out 0 _ rfl
          obtain ⟨r1, f1⟩ := block_cell HR2.out 1 _ rfl
          obtain ⟨r2, f2⟩ := block_cell HR2.out 2 _ rfl
          obtain ⟨r3, f3⟩ := block_cell HR2.out 3 _ rfl
          have hways : b0 = false ∨ (b0 = true ∧ b1 = false) ∨ (b0 = true ∧ b1 = true ∧ b2 = false) := by
            cases b0 <;> cases b1 <;> cases b2 <;> simp_all
          clear hall
          rcases hways with h | ⟨h, h'⟩ | ⟨h, h', h''⟩
          · subst h
            go_wp2
            generalize hw9 : (((w2.setCell ⟨R, 0, none⟩ _).setCell ⟨R, 1, none⟩ _).setCell ⟨R, 2, none⟩ _).setCell ⟨R, 3, none⟩ _ = w9
            obtain ⟨G9, R9, S9, K9⟩ := lay_ver HG2.out (by rw [HR.out]; exact Nat.le_refl _) HR2.out _ _ _ _ w9 hw9
            obtain ⟨q0, _⟩ := block_cell R9 0 _ rfl
            obtain ⟨q1, _⟩ := block_cell R9 1 _ rfl
            obtain ⟨q2, _⟩ := block_cell R9 2 _ rfl
            obtain ⟨q3, _⟩ := block_cell R9 3 _ rfl
            refine bodyPost_ret (v := .tuple #[verV zeroV (.slice none 0 0), .int .i64 60]) (by simp [results, Tryz.results15, go_sem, q0, q1, q2, q3, verV, zeroV]) rfl ⟨by rw [e.out], G9⟩
          · subst h h'
            go_wp2
            generalize hw9 : (((w2.setCell ⟨R, 0, none⟩ _).setCell ⟨R, 1, none⟩ _).setCell ⟨R, 2, none⟩ _).setCell ⟨R, 3, none⟩ _ = w9
            obtain ⟨G9, R9, S9, K9⟩ := lay_ver HG2.out (by rw [HR.out]; exact Nat.le_refl _) HR2.out _ _ _ _ w9 hw9
            obtain ⟨q0, _⟩ := block_cell R9 0 _ rfl
            obtain ⟨q1, _⟩ := block_cell R9 1 _ rfl
            obtain ⟨q2, _⟩ := block_cell R9 2 _ rfl
            obtain ⟨q3, _⟩ := block_cell R9 3 _ rfl
            refine bodyPost_ret (v := .tuple #[verV zeroV (.slice none 0 0), .int .i64 60]) (by simp [results, Tryz.results15, go_sem, q0, q1, q2, q3, verV, zeroV]) rfl ⟨by rw [e.out], G9⟩
          · subst h h' h''
            go_wp2
            generalize hw9 : (((w2.setCell ⟨R, 0, none⟩ _).setCell ⟨R, 1, none⟩ _).setCell ⟨R, 2, none⟩ _).setCell ⟨R, 3, none⟩ _ = w9
            obtain ⟨G9, R9, S9, K9⟩ := lay_ver HG2.out (by rw [HR.out]; exact Nat.le_refl _) HR2.out _ _ _ _ w9 hw9
            obtain ⟨q0, _⟩ := block_cell R9 0 _ rfl
            obtain ⟨q1, _⟩ := block_cell R9 1 _ rfl
            obtain ⟨q2, _⟩ := block_cell R9 2 _ rfl
            obtain ⟨q3, _⟩ := block_cell R9 3 _ rfl
            refine bodyPost_ret (v := .tuple #[verV zeroV (.slice none 0 0), .int .i64 60]) (by simp [results, Tryz.results15, go_sem, q0, q1, q2, q3, verV, zeroV]) rfl ⟨by rw [e.out], G9⟩
        | true =>
          have hb : b0 = true ∧ b1 = true ∧ b2 = true := by
            cases b0 <;> cases b1 <;> cases b2 <;> simp_all
          obtain ⟨rfl, rfl, rfl⟩ := hb
          have e : Hid (parseS s = (⟨n0, n1, n2, MM⟩, 0)) := HVAL.out rfl rfl rfl
          clear hall
          obtain ⟨y0, fy0⟩ := block_cell HV2.out 0 _ rfl
          obtain ⟨y1, fy1⟩ := block_cell HV2.out 1 _ rfl
          obtain ⟨y2, fy2⟩ := block_cell HV2.out 2 _ rfl
          obtain ⟨y3, fy3⟩ := block_cell HV2.out 3 _ rfl
          have hk3 : w2.grownBy (((w2.setCell ⟨vb, 0, none⟩ (.int .i64 n0)).setCell ⟨vb, 1, none⟩ (.int .i64 n1)).setCell ⟨vb, 2, none⟩ (.int .i64 n2)) (some vb) := World.grownBy.trans (World.grownBy.trans (set_grown _ _ _ _) (set_grown _ _ _ _)) (set_grown _ _ _ _)
          have HR3 := Lib.hid (show (((w2.setCell ⟨vb, 0, none⟩ (.int .i64 n0)).setCell ⟨vb, 1, none⟩ (.int .i64 n1)).setCell ⟨vb, 2, none⟩ (.int .i64 n2)).heap[R]? = _ from (hk3.block R (block_size HR2.out) (by have := HRV.out; simp; omega)).trans HR2.out)
          have hwv : w.heap.size ≤ vb := by rw [HR.out]; exact Nat.le_of_lt HRV.out
          have HG3 := Lib.hid (show w.grownBy (((w2.setCell ⟨vb, 0, none⟩ (.int .i64 n0)).setCell ⟨vb, 1, none⟩ (.int .i64 n1)).setCell ⟨vb, 2, none⟩ (.int .i64 n2)) none from grown_set (grown_set (grown_set HG2.out hwv 0 (.int .i64 n0)) hwv 1 (.int .i64 n1)) hwv 2 (.int .i64 n2))
          have HP3 := Lib.hid (HP2.out.other hk3 HOBV.out)
          have HS3 := Lib.hid hk3.size
          have HV3 := Lib.hid (show (((w2.setCell ⟨vb, 0, none⟩ (.int .i64 n0)).setCell ⟨vb, 1, none⟩ (.int .i64 n1)).setCell ⟨vb, 2, none⟩ (.int .i64 n2)).heap[vb]? = some (.cells #[.int .i64 n0, .int .i64 n1, .int .i64 n2, .slice pa pn pc] 30 (0, 0)) from set_block (set_block (set_block HV2.out 0 _) 1 _) 2 _)
          clear hk3 hwv
          obtain ⟨r0, f0⟩ := block_cell HR3.out 0 _ rfl
          obtain ⟨r1, f1⟩ := block_cell HR3.out 1 _ rfl
          obtain ⟨r2, f2⟩ := block_cell HR3.out 2 _ rfl
          obtain ⟨r3, f3⟩ := block_cell HR3.out 3 _ rfl
          go_wp2
          generalize hw9 : ((((((w2.setCell ⟨vb, 0, none⟩ (.int .i64 n0)).setCell ⟨vb, 1, none⟩ (.int .i64 n1)).setCell ⟨vb, 2, none⟩ (.int .i64 n2)).setCell ⟨R, 0, none⟩ _).setCell ⟨R, 1, none⟩ _).setCell ⟨R, 2, none⟩ _).setCell ⟨R, 3, none⟩ _ = w9
          obtain ⟨G9, R9, S9, K9⟩ := lay_ver HG3.out (by rw [HR.out]; exact Nat.le_refl _) HR3.out _ _ _ _ w9 hw9
          obtain ⟨q0, _⟩ := block_cell R9 0 _ rfl
          obtain ⟨q1, _⟩ := block_cell R9 1 _ rfl
          obtain ⟨q2, _⟩ := block_cell R9 2 _ rfl
          obtain ⟨q3, _⟩ := block_cell R9 3 _ rfl
          refine bodyPost_ret (v := .tuple #[verV ⟨n0, n1, n2, MM⟩ (.slice pa pn pc), .int .i64 0]) (by simp [results, Tryz.results15, go_sem, q0, q1, q2, q3, verV]) rfl ⟨by rw [e.out, HPSL.out], G9⟩
      · have hne : ¬ (N : Int) = 3 := by omega
        have e : Hid (parseS s = (zeroV, 60)) := by
          show _ = _
          rw [HE.out]
          unfold parseP
          rw [HMK.out, HN.out, decide_eq_false h3, if_neg (by simp)]
        obtain ⟨r0, f0⟩ := block_cell HR2.out 0 _ rfl
        obtain ⟨r1, f1⟩ := block_cell HR2.out 1 _ rfl
        obtain ⟨r2, f2⟩ := block_cell HR2.out 2 _ rfl
        obtain ⟨r3, f3⟩ := block_cell HR2.out 3 _ rfl
        clear h3
        go_wp2
        generalize hw9 : (((w2.setCell ⟨R, 0, none⟩ _).setCell ⟨R, 1, none⟩ _).setCell ⟨R, 2, none⟩ _).setCell ⟨R, 3, none⟩ _ = w9
        obtain ⟨G9, R9, S9, K9⟩ := lay_ver HG2.out (by rw [HR.out]; exact Nat.le_refl _) HR2.out _ _ _ _ w9 hw9
        obtain ⟨q0, _⟩ := block_cell R9 0 _ rfl
        obtain ⟨q1, _⟩ := block_cell R9 1 _ rfl
        obtain ⟨q2, _⟩ := block_cell R9 2 _ rfl
        obtain ⟨q3, _⟩ := block_cell R9 3 _ rfl
        refine bodyPost_ret (v := .tuple #[verV zeroV (.slice none 0 0), .int .i64 60]) (by simp [results, Tryz.results15, go_sem, q0, q1, q2, q3, verV, zeroV]) rfl ⟨by rw [e.out], G9⟩
theorem version_one (w : World) : Calls Tryz.prog 15 #[.string ⟨#[49, 46, 48, 46, 48]⟩] w fun e w' => e = .returned (.tuple #[.agg #[.int .i64 1, .int .i64 0, .int .i64 0, .slice none 0 0], .int .i64 0]) ∧ w.grownBy w' none := by
  have hp : parseS ⟨#[49, 46, 48, 46, 48]⟩ = (⟨1, 0, 0, []⟩, 0) := by decide +kernel
  have h := refParse_none0 ⟨#[49, 46, 48, 46, 48]⟩ w (by decide) (by decide +kernel)
  rw [hp] at h
  exact h
end Go.Proofs.YtfpehdldgnfciaaGreatDoor
