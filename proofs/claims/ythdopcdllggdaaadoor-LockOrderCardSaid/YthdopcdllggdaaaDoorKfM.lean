/- The law LockTells returns true. -/
import Derived.Test.YthdopcdllggdaaaDoorKeM
namespace Go.Proofs.YthdopcdllggdaaaDoor
open Go.RowKit
attribute [local irreducible] wpQuiet

theorem ver_block {w w' : World} {r : Nat} {x0 x1 x2 x3 : Value} (h : w.heap[r]? = some (.cells #[x0, x1, x2, x3] 35 (0, 0))) (hg : w.grownBy w' none) :
    w'.cell? ⟨r, 0, none⟩ = some x0 ∧ w'.cell? ⟨r, 1, none⟩ = some x1 ∧ w'.cell? ⟨r, 2, none⟩ = some x2 ∧ w'.cell? ⟨r, 3, none⟩ = some x3 :=
  have h' := block_kept h hg
  ⟨(block_cell h' 0 _ rfl).1, (block_cell h' 1 _ rfl).1, (block_cell h' 2 _ rfl).1, (block_cell h' 3 _ rfl).1⟩

def LightRet (w : World) (n : Nat) (pre : List ByteArray) (e : Ending) (w' : World) : Prop :=
  (∃ b : Bool, e = .returned (.bool b) ∧ (b = true → n ≤ 6 ∧ ∀ p ∈ pre, p.size ≤ 30)) ∧ w.grownBy w' none
set_option maxRecDepth 1000000
set_option maxHeartbeats 4000000 in
theorem light_any (B n cap : Nat) (a : Option Addr) (x y z : Int) (pre : List ByteArray) (w : World) (hn : pre.length = n) (hP : PartS w B (.slice a n cap) pre) :
    Calls Tryd.prog 11 #[.agg #[.int .i64 x, .int .i64 y, .int .i64 z, .slice a n cap]] w (LightRet w n pre) := by
  have HN := Lib.hid hn
  have HP := Lib.hid hP
  clear hn hP
  by_cases h6 : n ≤ 6
  · have d6 : decide (6 < (n : Int)) = false := by simp; omega
    have BB := Lib.hid (alloc_block w (.cells #[.int .i64 x, .int .i64 y, .int .i64 z, .slice a n cap] 35))
    have GA := Lib.hid (World.grownBy_alloc w (.cells #[.int .i64 x, .int .i64 y, .int .i64 z, .slice a n cap] 35) none)
    go_enter Tryd.func11, Tryd.ntmps11
    go_wp2
    go_loopw [3] (fun i wr => ∃ k : Nat, k ≤ n ∧ i = .int .i64 k ∧ Hid (∀ j, j < k → ∀ p, pre[j]? = some p → p.size ≤ 30) ∧ (w.alloc (.cells #[.int .i64 x, .int .i64 y, .int .i64 z, .slice a n cap] 35)).grownBy wr none) (fun i _ => n - (intOf i).toNat)
    case atStart => exact ⟨0, Nat.zero_le _, rfl, fun j hj => by omega, World.grownBy.refl _ _⟩
    case round =>
      obtain ⟨k, hk, rfl, hj, hg⟩ := hrel
      obtain ⟨b0, b1, b2, b3⟩ := ver_block BB.out hg
      have HG := Lib.hid (World.grownBy.trans GA.out hg)
      have HGA := Lib.hid hg
      clear hg b0 b1 b2
      by_cases hlt : k < n
      · obtain ⟨p, hp⟩ : ∃ p, pre[k]? = some p := ⟨_, List.getElem?_eq_getElem (by rw [HN.out]; exact hlt)⟩
        obtain ⟨b, o, e1, _, q1⟩ := (HP.out.stays HG.out).at k p hp
        subst e1
        have HX := Lib.hid hp
        clear hp
        by_cases hs : p.size ≤ 30
        · have ds : decide (30 < (p.size : Int)) = false := by simp; omega
          have HSZ := Lib.hid hs
          clear hs
          go_wp2_with fail
          refine ⟨⟨k + 1, by omega, by go_num, fun j hj' q hq => ?_, HGA.out⟩, by simp [intOf]; omega⟩
          rcases Nat.lt_or_ge j k with h | h
          · exact hj.out j h q hq
          · obtain rfl : j = k := by omega
            rw [HX.out] at hq
            obtain rfl := Option.some.inj hq
            exact HSZ.out
        · have ds : decide (30 < (p.size : Int)) = true := by simp; omega
          clear hs
          go_wp2
          go_ret
          exact ⟨⟨false, rfl, fun h => by cases h⟩, HG.out⟩
      · have hkn : k = n := by omega
        subst hkn
        clear hlt hk
        go_wp2
        go_ret
        refine ⟨⟨true, rfl, fun _ => ⟨h6, fun p hp => ?_⟩⟩, HG.out⟩
        obtain ⟨j, hj1, hj2⟩ := List.getElem_of_mem hp
        exact hj.out j (by rw [← HN.out]; exact hj1) p (by rw [List.getElem?_eq_getElem hj1, hj2])
  · have d6 : decide (6 < (n : Int)) = true := by simp; omega
    clear h6
    go_enter Tryd.func11, Tryd.ntmps11
    go_wp2
    go_ret
    exact ⟨⟨false, rfl, fun h => by cases h⟩, World.grownBy_alloc _ _ _⟩
theorem sum_short (L : List ByteArray) (h : ∀ p ∈ L, p.size ≤ 30) : sumS L ≤ 31 * L.length := by
  induction L with
  | nil => simp [sumS]
  | cons x L ih =>
    have h1 := ih (fun p hp => h p (by simp [hp]))
    have h2 := h x (by simp)
    rw [sumS, List.length_cons]
    omega
theorem light_at {w : World} {B n cap : Nat} {a : Option Addr} {x y z : Int} {p : List ByteArray} (hx : -9223372036854775808 ≤ x ∧ x ≤ 9223372036854775807) (hy : -9223372036854775808 ≤ y ∧ y ≤ 9223372036854775807) (hz : -9223372036854775808 ≤ z ∧ z ≤ 9223372036854775807) (hn : p.length = n) (h6 : n ≤ 6) (hs : ∀ q ∈ p, q.size ≤ 30) (hP : PartS w B (.slice a n cap) p) : VerAt w B ⟨x, y, z, p⟩ (.slice a n cap) :=
  ⟨hx, hy, hz, by simp only; omega, fun q hq => Nat.le_trans (hs q hq) (by omega), by have := sum_short p hs; simp only; omega, hP⟩

/-- Pins as they come in: their numbers are ints, their marks lie somewhere. -/
structure Raw (w : World) (F : Nat) (p : Pc) : Prop where
  maj : -9223372036854775808 ≤ p.v.maj ∧ p.v.maj ≤ 9223372036854775807
  min : -9223372036854775808 ≤ p.v.min ∧ p.v.min ≤ 9223372036854775807
  pat : -9223372036854775808 ≤ p.v.pat ∧ p.v.pat ≤ 9223372036854775807
  size : p.name.size ≤ 9223372036854775807
  part : PartS w F p.sl p.v.pre
theorem Raw.stays {w w' : World} {F : Nat} {p : Pc} (h : Raw w F p) (hg : w.grownBy w' none) : Raw w' F p := { h with part := h.part.stays hg }
theorem raw_part {w : World} {F : Nat} {p : Pc} (h : Raw w F p) : PartS w F (.slice p.ad p.v.pre.length p.cap) p.v.pre := h.part
def FineP (p : Pc) : Prop := p.name.size ≤ 50 ∧ p.v.pre.length ≤ 6 ∧ ∀ q ∈ p.v.pre, q.size ≤ 30
theorem Raw.at {w : World} {F : Nat} {p : Pc} (h : Raw w F p) (hf : FineP p) : PcAt w F p :=
  ⟨light_at h.maj h.min h.pat rfl hf.2.1 hf.2.2 h.part, by have := hf.1; omega⟩
theorem stable_few (n : Nat) (L : List Pc) (h : n < 20) : StableOk n L := fun w base g cap hO hn => stableF_small w base g n cap L hO hn h
set_option maxRecDepth 1000000
set_option maxHeartbeats 8000000 in
theorem tells_law (m : Int) (F n1 n2 c1 c2 : Nat) (a1 a2 : Option Addr) (L M : List Pc) (w : World) (hm : Wok m w) (hn1 : L.length = n1) (hn2 : M.length = n2) (hF : F ≤ w.heap.size)
    (hP1 : PartP w F (.slice a1 n1 c1) L) (hP2 : PartP w F (.slice a2 n2 c2) M) (hR1 : ∀ p ∈ L, Raw w F p) (hR2 : ∀ p ∈ M, Raw w F p) :
    Calls Tryd.prog 4 #[.slice a1 n1 c1, .slice a2 n2 c2] w fun e w' => e = .returned (.bool true) ∧ w.grownBy w' none := by
  have HM := Lib.hid hm
  have HN1 := Lib.hid hn1
  have HN2 := Lib.hid hn2
  have HP1 := Lib.hid hP1
  have HP2 := Lib.hid hP2
  have HR1 := Lib.hid hR1
  have HR2 := Lib.hid hR2
  have HF := Lib.hid hF
  clear hm hn1 hn2 hP1 hP2 hR1 hR2 hF
  by_cases h1 : n1 ≤ 10
  · by_cases h2 : n2 ≤ 10
    · have d1 : decide (10 < (n1 : Int)) = false := by simp; omega
      have d2 : decide (10 < (n2 : Int)) = false := by simp; omega
      have e1 : ¬ 10 < n1 := by omega
      have e2 : ¬ 10 < n2 := by omega
      go_enter Tryd.func4, Tryd.ntmps4
      go_wp2_with fail
      (with_reducible refine (known_any m w HM.out).mono ?_)
      rintro ee w0 ⟨rfl, g0⟩
      have G0 := Lib.hid g0
      clear g0
      dsimp only
      go_wp2_with fail
      obtain ⟨gs, hgs⟩ : ∃ gs, w0.heap.size = gs := ⟨_, rfl⟩
      obtain ⟨W1, hW1⟩ : ∃ W1, w0.alloc (.cells #[.slice a1 n1 c1, .slice a2 n2 c2] 23) = W1 := ⟨_, rfl⟩
      have B1 : Hid (W1.heap[gs]? = some (.cells #[.slice a1 n1 c1, .slice a2 n2 c2] 23 (0, 0))) := Lib.hid (by rw [← hW1, ← hgs]; exact bk_alloc _ _)
      have G1 : Hid (w.grownBy W1 none) := Lib.hid (World.grownBy.trans G0.out (by rw [← hW1]; exact World.grownBy_alloc _ _ _))
      rw [hgs, hW1]
      clear hgs hW1
      go_loopw [22] (fun t wr => ∃ k : Nat, k ≤ 2 ∧ t = .int .i64 k ∧ Hid (∀ j X, j < k → [L, M][j]? = some X → ∀ p ∈ X, FineP p) ∧ Hid (W1.grownBy wr none)) (fun t _ => 2 - (intOf t).toNat)
      case atStart => exact ⟨0, Nat.zero_le _, rfl, Lib.hid (fun j X hj => by omega), Lib.hid (World.grownBy.refl _ _)⟩
      case round =>
        obtain ⟨k, hk, rfl, HOK, HG⟩ := hrel
        by_cases hlt : k < 2
        · obtain ⟨X, a, n, c, hX, hn10, hXn, hXP, hXR, hcell⟩ : ∃ (X : List Pc) (a : Option Addr) (n c : Nat), [L, M][k]? = some X ∧ n ≤ 10 ∧ Hid (X.length = n) ∧ Hid (PartP w F (.slice a n c) X) ∧ Hid (∀ p ∈ X, Raw w F p) ∧ wr.cell? ⟨gs, k, none⟩ = some (.slice a n c) := by
            have hb := bk_kept B1.out HG.out
            rcases (by omega : k = 0 ∨ k = 1) with rfl | rfl
            · exact ⟨L, a1, n1, c1, rfl, h1, HN1, HP1, HR1, (bk_cell hb 0 _ rfl).1⟩
            · exact ⟨M, a2, n2, c2, rfl, h2, HN2, HP2, HR2, (bk_cell hb 1 _ rfl).1⟩
          have HX := Lib.hid hX
          clear hX
          have hk2 : k = 0 ∨ k = 1 := by omega
          go_wp2
          clear hcell hk2
          go_loopw [7] (fun i wi => ∃ j : Nat, j ≤ n ∧ i = .int .i64 j ∧ Hid (∀ t p, t < j → X[t]? = some p → FineP p) ∧ Hid (W1.grownBy wi none)) (fun i _ => n - (intOf i).toNat)
          case atStart => exact ⟨0, Nat.zero_le _, rfl, Lib.hid (fun t p ht => by omega), HG⟩
          case round =>
            obtain ⟨j, hj, rfl, HJ, HGI⟩ := hrel
            by_cases hlj : j < n
            · obtain ⟨p, hp⟩ : ∃ p, X[j]? = some p := ⟨_, List.getElem?_eq_getElem (by rw [hXn.out]; exact hlj)⟩
              have HGW := Lib.hid (World.grownBy.trans G1.out HGI.out)
              obtain ⟨b, o, e, _, hr⟩ := (hXP.out.stays HGW.out).at j p hp
              subst e
              have hraw := (hXR.out p (List.mem_of_getElem? hp)).stays HGW.out
              have hz := hraw.size
              have HRAW := Lib.hid hraw
              have HXJ := Lib.hid hp
              have c0 := range_name hr
              have hv := range_ver hr
              have q0 : wr.cell? ⟨b, o + j * 37 + 1, none⟩ = some (.int .i64 p.v.maj) := hv 0 _ rfl
              have q1 : wr.cell? ⟨b, o + j * 37 + 1 + 1, none⟩ = some (.int .i64 p.v.min) := hv 1 _ rfl
              have q2 : wr.cell? ⟨b, o + j * 37 + 1 + 2, none⟩ = some (.int .i64 p.v.pat) := hv 2 _ rfl
              have q3 : wr.cell? ⟨b, o + j * 37 + 1 + 3, none⟩ = some (.slice p.ad p.v.pre.length p.cap) := hv 3 _ rfl
              clear hraw hp hr hv
              by_cases h50 : p.name.size ≤ 50
              · have d50 : decide (50 < (p.name.size : Int)) = false := by simp; omega
                have d51 : ¬ 50 < p.name.size := by omega
                go_wp2_with fail
                (with_reducible refine (light_any F p.v.pre.length p.cap p.ad p.v.maj p.v.min p.v.pat p.v.pre wr rfl (raw_part HRAW.out)).mono ?_)
                rintro ee w3 ⟨⟨bv, rfl, hbv⟩, g3⟩
                have HG3 := Lib.hid (World.grownBy.trans HGI.out g3)
                clear g3 c0 q0 q1 q2 q3
                dsimp only
                cases bv with
                | true =>
                  have HFP : Hid (FineP p) := Lib.hid ⟨h50, hbv rfl⟩
                  clear hbv
                  go_wp2
                  go_roundw
                  case rel => exact ⟨j + 1, by omega, by go_num, Lib.hid (fun t y ht hy => by
                    rcases Nat.lt_or_ge t j with h | h
                    · exact HJ.out t y h hy
                    · obtain rfl : t = j := by omega
                      rw [HXJ.out] at hy
                      obtain rfl := Option.some.inj hy
                      exact HFP.out), HG3⟩
                  case measure => simp [intOf]; omega
                | false =>
                  go_wp2
                  go_ret
                  exact ⟨rfl, World.grownBy.trans G1.out HG3.out⟩
              · have d50 : decide (50 < (p.name.size : Int)) = true := by simp; omega
                have d51 : 50 < p.name.size := by omega
                go_wp2
                go_ret
                exact ⟨rfl, HGW.out⟩
            · obtain rfl : j = n := by omega
              go_wp2
              go_roundw
              case rel => exact ⟨k + 1, by omega, by go_num, Lib.hid (fun t Y ht hY => by
                rcases Nat.lt_or_ge t k with h | h
                · exact HOK.out t Y h hY
                · obtain rfl : t = k := by omega
                  rw [HX.out] at hY
                  obtain rfl := Option.some.inj hY
                  intro p hp
                  obtain ⟨i, hi, hi2⟩ := List.getElem_of_mem hp
                  exact HJ.out i p (by rw [← hXn.out]; exact hi) (by rw [List.getElem?_eq_getElem hi, hi2])), HGI⟩
              case measure => simp [intOf]; omega
        · obtain rfl : k = 2 := by omega
          have HFL : Hid (∀ p ∈ L, FineP p) := Lib.hid (HOK.out 0 L (by omega) rfl)
          have HFM : Hid (∀ p ∈ M, FineP p) := Lib.hid (HOK.out 1 M (by omega) rfl)
          have GA := Lib.hid (World.grownBy.trans G1.out HG.out)
          clear HOK hlt hk HG
          have HA : Hid (∀ V, w.grownBy V none → PartP V V.heap.size (.slice a1 n1 c1) L ∧ AllAt V V.heap.size L) := Lib.hid (fun V hV => ⟨(HP1.out.stays hV).mono (Nat.le_trans HF.out hV.size), fun p hp => (((HR1.out p hp).stays hV).at (HFL.out p hp)).mono (Nat.le_trans HF.out hV.size)⟩)
          have HB : Hid (∀ V, w.grownBy V none → PartP V V.heap.size (.slice a2 n2 c2) M ∧ AllAt V V.heap.size M) := Lib.hid (fun V hV => ⟨(HP2.out.stays hV).mono (Nat.le_trans HF.out hV.size), fun p hp => (((HR2.out p hp).stays hV).at (HFM.out p hp)).mono (Nat.le_trans HF.out hV.size)⟩)
          go_wp2_with fail
          (with_reducible refine (lockText_any m n1 c1 a1 L (stable_few n1 L (by omega)) wr (HM.out.stays GA.out) HN1.out (by omega) (HA.out _ GA.out).1 (HA.out _ GA.out).2).mono ?_)
          rintro ee w4 ⟨rfl, g4⟩
          have GB := Lib.hid (World.grownBy.trans GA.out g4)
          clear g4
          obtain ⟨T, hT⟩ : ∃ T : ByteArray, (⟨(lockT L).toArray⟩ : ByteArray) = T := ⟨_, rfl⟩
          have HT := Lib.hid hT
          rw [hT]
          clear hT
          dsimp only
          go_wp2_with fail
          (with_reducible refine (refLockText_any n1 c1 a1 L w4 (HM.out.stays GB.out).pos HN1.out (by omega) (HA.out _ GB.out).1 (HA.out _ GB.out).2).mono ?_)
          rw [HT.out]
          rintro ee w5 ⟨rfl, g5⟩
          have GC := Lib.hid (World.grownBy.trans GB.out g5)
          clear g5
          dsimp only
          obtain ⟨B, hB⟩ : ∃ B, allB sameB L M = B := ⟨_, rfl⟩
          have HBB := Lib.hid hB
          clear hB
          go_wp2_with fail
          (with_reducible refine (same_any m w5.heap.size n1 n2 c1 c2 a1 a2 L M w5 (HM.out.stays GC.out) (Nat.le_refl _) HN1.out HN2.out (by omega) (by omega) (HA.out _ GC.out).1 (HB.out _ GC.out).1 (HA.out _ GC.out).2 (HB.out _ GC.out).2).mono ?_)
          rw [HBB.out]
          rintro ee w6 ⟨rfl, g6⟩
          have GD := Lib.hid (World.grownBy.trans GC.out g6)
          clear g6
          dsimp only
          go_wp2_with fail
          (with_reducible refine (samePins_any w6.heap.size n1 n2 c1 c2 a1 a2 L M w6 (Nat.le_refl _) HN1.out HN2.out (by omega) (by omega) (HA.out _ GD.out).1 (HB.out _ GD.out).1 (HA.out _ GD.out).2 (HB.out _ GD.out).2).mono ?_)
          rw [HBB.out]
          rintro ee w7 ⟨rfl, g7⟩
          have GE := Lib.hid (World.grownBy.trans GD.out g7)
          clear g7
          dsimp only
          have hbb : (B == B) = true := by cases B <;> rfl
          go_wp2_with fail
          (with_reducible refine (same_any m w7.heap.size n1 n1 c1 c1 a1 a1 L L w7 (HM.out.stays GE.out) (Nat.le_refl _) HN1.out HN1.out (by omega) (by omega) (HA.out _ GE.out).1 (HA.out _ GE.out).1 (HA.out _ GE.out).2 (HA.out _ GE.out).2).mono ?_)
          rw [all_same L L rfl]
          rintro ee w8 ⟨rfl, g8⟩
          have GF := Lib.hid (World.grownBy.trans GE.out g8)
          clear g8
          dsimp only
          go_wp2
          go_ret
          exact ⟨rfl, GF.out⟩
    · have d1 : decide (10 < (n1 : Int)) = false := by simp; omega
      have d2 : decide (10 < (n2 : Int)) = true := by simp; omega
      have e1 : ¬ 10 < n1 := by omega
      have e2 : 10 < n2 := by omega
      go_enter Tryd.func4, Tryd.ntmps4
      go_wp2_with fail
      (with_reducible refine (known_any m w HM.out).mono ?_)
      rintro ee w0 ⟨rfl, g0⟩
      dsimp only
      go_wp2
      go_ret
      exact ⟨rfl, g0⟩
  · have d1 : decide (10 < (n1 : Int)) = true := by simp; omega
    have e1 : 10 < n1 := by omega
    go_enter Tryd.func4, Tryd.ntmps4
    go_wp2_with fail
    (with_reducible refine (known_any m w HM.out).mono ?_)
    rintro ee w0 ⟨rfl, g0⟩
    dsimp only
    go_wp2
    go_ret
    exact ⟨rfl, g0⟩
end Go.Proofs.YthdopcdllggdaaaDoor
