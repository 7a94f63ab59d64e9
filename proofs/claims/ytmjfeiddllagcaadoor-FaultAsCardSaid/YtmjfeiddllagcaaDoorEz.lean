/- The law FaultAs. -/
import Derived.Test.YtmjfeiddllagcaaDoorEy
namespace Go.Proofs.YtmjfeiddllagcaaDoor
open Go.RowKit

set_option maxRecDepth 1000000
theorem rev_snoc {L : List (ByteArray × ByteArray)} {k : Nat} {p : ByteArray × ByteArray} (h : L[k]? = some p) : (L.take (k + 1)).reverse = p :: (L.take k).reverse := by
  rw [List.take_add_one, h]
  simp
theorem wrap_next (code : Int) (h : -9223372036854775808 ≤ code ∧ code ≤ 9223372036854775807) : (code == IntKind.i64.wrap (code + 1)) = false := by
  have h2 : ¬ code = IntKind.i64.wrap (code + 1) := by
    simp only [IntKind.wrap, IntKind.bits, IntKind.signed]
    simp
    omega
  simpa using h2
set_option maxHeartbeats 16000000 in
theorem as_law (n c : Nat) (a : Option Addr) (L : List (ByteArray × ByteArray)) (code : Int) (w : World) (hL : L.length = n) (hn : n ≤ 9223372036854775807) (hcode : -9223372036854775808 ≤ code ∧ code ≤ 9223372036854775807) (hP : LayersAt w a L) (hE : ErrVar w) :
    Calls Tryd.prog 4 #[.slice a n c, .int .i64 code] w fun e w' => e = .returned (.bool true) ∧ w.grownBy w' none := by
  have HL := Lib.hid hL
  have HP := Lib.hid hP
  have HE := Lib.hid hE
  have HN := Lib.hid hn
  have HWR := Lib.hid (wrap_next code hcode)
  clear hL hP hE hn
  go_enter Tryd.func4, Tryd.ntmps4
  go_wp2_with fail
  (with_reducible refine (known6_any w HE.out).mono ?_)
  rintro ee w1 ⟨rfl, g1⟩
  dsimp only
  have G1 := Lib.hid g1
  clear g1
  go_wp2_with fail
  (with_reducible refine (lightL_any n c a L w1 HL.out HN.out (HP.out.stays G1.out)).mono ?_)
  rintro ee w2 ⟨⟨b, rfl, hb⟩, rfl⟩
  dsimp only
  cases b with
  | false =>
    go_wp2
    go_ret
    exact ⟨rfl, G1.out⟩
  | true =>
    obtain ⟨l12, lsz⟩ := hb rfl
    by_cases hn0 : n = 0
    · have z1 : ((n : Int) == 0) = true := by simp [hn0]
      have z2 : (n == 0) = true := by simp [hn0]
      clear hb lsz
      go_wp2
      go_ret
      exact ⟨rfl, G1.out⟩
    · have z1 : ((n : Int) == 0) = false := by simp [hn0]
      have z2 : (n == 0) = false := by simp [hn0]
      by_cases hc0 : code = 0
      · have z3 : (code == 0) = true := by simp [hc0]
        clear hb lsz hc0 hcode
        go_wp2
        go_ret
        exact ⟨rfl, G1.out⟩
      · have z3 : (code == 0) = false := by simp [hc0]
        have HSZ := Lib.hid lsz
        have HC0 := Lib.hid hc0
        have n12 : n ≤ 12 := by have := HL.out; omega
        clear hb lsz hc0
        go_wp2_with fail
        go_loopw [5, 6] (fun e i wr => ∃ k : Nat, k ≤ n ∧ i = .int .i64 k ∧ Hid (Fchain wr (L.take k).reverse code e) ∧ Hid (w.grownBy wr none)) (fun _ i _ => n - (intOf i).toNat)
        case atStart => exact ⟨0, by omega, rfl, .num code, G1.out⟩
        case round =>
          obtain ⟨k, hk, rfl, hch, hgr⟩ := hrel
          by_cases hlt : k < n
          · obtain ⟨⟨op, name⟩, hp⟩ : ∃ p, L[k]? = some p := by
              have : k < L.length := by have := HL.out; omega
              exact ⟨L[k], List.getElem?_eq_getElem this⟩
            obtain ⟨b, o, rfl, c0, c1⟩ := (HP.out.stays hgr.out) k (op, name) hp
            dsimp only at c0 c1
            have u1 : decide ((k : Int) < (n : Int)) = true := by simp; omega
            have u2 : decide (k < n) = true := by simp; omega
            have kI : (k : Int) < (n : Int) := by omega
            have HRV := Lib.hid (rev_snoc hp)
            have HWS := Lib.hid (wrap_some op name (hch.out.grown (show wr.grownBy wr.drew none from ⟨rfl, rfl, rfl, Nat.le_refl _, fun _ _ _ => rfl⟩)) HC0.out)
            clear hp
            go_wp2_with fail
            refine region_quiet_tail 11 (C := fun w' => w' = wr.drew) (by kernel_rfl) (by kernel_rfl) rfl ?_
            simp only [List.take_succ_cons, List.take_zero, List.drop_succ_cons, List.drop_zero]
            repeat (refine wpQuiet_step (fun K hK => ?_); go_simp; (first | refine hK _ ?_ | refine ⟨_, fun W hW => rfl, hK _ ?_⟩ | refine ⟨_, fun W hW => ⟨rfl, rfl⟩, hK _ ?_⟩); clear hK K)
            refine wpQuiet_nil ?_
            rintro w4 rfl
            go_wp2_with fail
            (with_reducible refine HWS.out.mono ?_)
            rintro ee w5 ⟨v5, rfl, hc5, g5⟩
            dsimp only
            have HC5 := Lib.hid hc5
            have G5 := Lib.hid (World.grownBy.trans (show w.grownBy wr.drew none from grown_drew 1 hgr.out) g5)
            clear hc5 g5 HWS
            go_wp2
            go_roundw
            case rel => exact ⟨k + 1, by omega, by go_num, by rw [HRV.out]; exact HC5, G5⟩
            case measure => simp [intOf]; omega
          · have u1 : decide ((k : Int) < (n : Int)) = false := by simp; omega
            have u2 : decide (k < n) = false := by simp; omega
            have kI : ¬ (k : Int) < (n : Int) := by omega
            obtain rfl : k = n := by omega
            go_wp2_with fail
            go_loopw [5, 7] (fun e i wr2 => ∃ j : Nat, j ≤ k ∧ i = .int .i64 ((j : Int) - 1) ∧ Hid (Fchain wr2 (L.take j).reverse code e) ∧ Hid (w.grownBy wr2 none)) (fun _ i _ => (intOf i + 1).toNat)
            case atStart => exact ⟨k, Nat.le_refl _, rfl, hch, hgr⟩
            case round =>
              obtain ⟨j, hj, rfl, hcj, hgj⟩ := hrel
              cases j with
              | zero =>
                have hc := hcj.out
                rw [List.take_zero, List.reverse_nil] at hc
                cases hc
                have HFN := Lib.hid (found_num code wr (HE.out.grown hgj.out))
                clear hcj
                go_wp2_with fail
                (with_reducible refine HFN.out.mono ?_)
                rintro ee w4 ⟨rfl, g4⟩
                dsimp only
                have G4 := Lib.hid (World.grownBy.trans hgj.out g4)
                have HIS := Lib.hid (lawIs_any code code w4 (.num code))
                clear g4
                go_wp2_with fail
                (with_reducible refine HIS.out.mono ?_)
                rintro ee w5 ⟨rfl, rfl⟩
                dsimp only
                have hcc : (code == code) = true := by simp
                rw [hcc]
                go_wp2
                go_ret
                exact ⟨rfl, G4.out⟩
              | succ j =>
                have hjk : j < k := by omega
                obtain ⟨⟨op, name⟩, hp⟩ : ∃ p, L[j]? = some p := by
                  have : j < L.length := by have := HL.out; omega
                  exact ⟨L[j], List.getElem?_eq_getElem this⟩
                have hc := hcj.out
                rw [rev_snoc hp] at hc
                cases hc with
                | fault bb _ _ _ _ e'' hb r =>
                obtain ⟨b, o, rfl, c0, c1⟩ := (HP.out.stays hgj.out) j (op, name) hp
                dsimp only at c0 c1
                have HB := Lib.hid hb
                have HR := Lib.hid r
                have HFF := Lib.hid (found_fault ⟨bb, 0, none⟩ wr (HE.out.grown hgj.out))
                have ij : ((j + 1 : Nat) : Int) - 1 = (j : Int) := by omega
                rw [ij]
                clear hcj hp hb r ij
                go_wp2_with fail
                (with_reducible refine HFF.out.mono ?_)
                rintro ee w4 ⟨rfl, g4⟩
                dsimp only
                have G4 := Lib.hid (World.grownBy.trans hgj.out g4)
                have HB4 := Lib.hid (bk_kept HB.out g4)
                have HR4 := Lib.hid (HR.out.grown g4)
                have d0 := g4.cell c0 (by simp)
                have d1 := g4.cell c1 (by simp)
                obtain ⟨f0, _⟩ := bk_cell HB4.out 0 _ rfl
                obtain ⟨f1, _⟩ := bk_cell HB4.out 1 _ rfl
                clear g4 c0 c1
                have HF4 : Fchain w4.drew ((op, name) :: (L.take j).reverse) code (.iface 39 (.pointer (some ⟨bb, 0, none⟩))) := .fault bb op name _ code e'' HB4.out (HR4.out.grown (show w4.grownBy w4.drew none from ⟨rfl, rfl, rfl, Nat.le_refl _, fun _ _ _ => rfl⟩))
                have HI1 := lawIs_any code code w4.drew HF4
                rw [show (code == code) = true by simp] at HI1
                have HI2 := fun c2 => lawIs_any code c2 w4.drew HF4
                have HX1 := Lib.hid HI1
                have HX2 := Lib.hid HI2
                clear HI1 HI2 HF4
                go_wp2_with fail
                refine wp_region_quiet (C := fun w' => w' = w4.drew) (by kernel_rfl) (by kernel_rfl) rfl ?_
                repeat (refine wpQuiet_step (fun K hK => ?_); go_simp; (first | refine hK _ ?_ | refine ⟨.bool true, HX1.out, hK _ ?_⟩); clear hK K)
                have HX3 := HX2.out (IntKind.i64.wrap (code + 1))
                rw [HWR.out] at HX3
                refine wpQuiet_step (fun K hK => ?_)
                go_simp
                refine ⟨.bool false, HX3, hK _ ?_⟩
                clear hK K
                refine wpQuiet_step (fun K hK => ?_)
                go_simp
                refine hK _ ?_
                clear hK K
                refine wpQuiet_nil ?_
                rintro w6 rfl
                have HU := Lib.hid (unwrap_any bb op name e'' w4.drew HB4.out)
                clear HX3
                go_wp2_with fail
                (with_reducible refine HU.out.mono ?_)
                rintro ee w7 ⟨rfl, rfl⟩
                dsimp only
                go_wp2
                go_roundw
                case rel => exact ⟨j, by omega, rfl, HR4.out.grown (show w4.grownBy w4.drew none from ⟨rfl, rfl, rfl, Nat.le_refl _, fun _ _ _ => rfl⟩), grown_drew 1 G4.out⟩
                case measure => simp [intOf]
end Go.Proofs.YtmjfeiddllagcaaDoor
