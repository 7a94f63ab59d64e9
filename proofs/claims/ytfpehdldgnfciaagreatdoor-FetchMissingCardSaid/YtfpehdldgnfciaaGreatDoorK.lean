/- What sha's Sum tells of parts. -/
import Derived.Test.YtfpehdldgnfciaaGreatDoorJ
namespace Go.Proofs.YtfpehdldgnfciaaGreatDoor.Sha
open Go.RowKit Go.Sort

/-- v is a slice of the bytes M, in a block below B. -/
def Part (w : World) (B : Nat) (v : Value) (M : List UInt8) : Prop :=
  ∃ (a : Option Addr) (cap b o : Nat), v = .slice a M.length cap ∧ M.length ≤ cap ∧ (a = none → cap = 0) ∧ b < B ∧ (0 < M.length → a = some ⟨b, o, none⟩) ∧
    ∀ j, j < M.length → w.cell? ⟨b, o + j, none⟩ = some (.int .u8 ((M.getD j 0).toNat : Int))
/-- At a lie slices of bytes, in blocks below B. -/
def Parts (w : World) (B : Nat) (a : Option Addr) (Ls : List (List UInt8)) : Prop :=
  ∃ b o : Nat, b < B ∧ (0 < Ls.length → a = some ⟨b, o, none⟩) ∧ ∀ i (h : i < Ls.length), ∃ v, w.cell? ⟨b, o + i, none⟩ = some v ∧ Part w B v Ls[i]

theorem Part.grown {w w' : World} {B : Nat} {v : Value} {M : List UInt8} {row : Option Nat} (h : Part w B v M) (hg : w.grownBy w' row) (hr : ∀ k, row = some k → B ≤ k) : Part w' B v M := by
  obtain ⟨a, cap, b, o, h1, h2, h6, h3, h4, h5⟩ := h
  exact ⟨a, cap, b, o, h1, h2, h6, h3, h4, fun j hj => hg.cell (h5 j hj) (by intro e; have := hr b e.symm; omega)⟩
theorem Parts.grown {w w' : World} {B : Nat} {a : Option Addr} {Ls : List (List UInt8)} {row : Option Nat} (h : Parts w B a Ls) (hg : w.grownBy w' row) (hr : ∀ k, row = some k → B ≤ k) : Parts w' B a Ls := by
  obtain ⟨b, o, h1, h2, h3⟩ := h
  refine ⟨b, o, h1, h2, fun i hi => ?_⟩
  obtain ⟨v, hv, hp⟩ := h3 i hi
  exact ⟨v, hg.cell hv (by intro e; have := hr b e.symm; omega), hp.grown hg hr⟩

theorem has_fresh (w : World) : Has (w.alloc (.cells fresh 120)) w.heap.size [] :=
  ⟨Array.replicate 64 0, by simp, heap_alloc_new _ _, fun j hj => absurd hj (by simp)⟩

theorem sumSt_le (Ls : List (List UInt8)) (k : Nat) : (Ls.take k).flatten.length ≤ Ls.flatten.length := by
  conv => rhs; rw [← List.take_append_drop k Ls]
  rw [List.flatten_append, List.length_append]; omega
theorem take_next (Ls : List (List UInt8)) (k : Nat) (h : k < Ls.length) : (Ls.take (k + 1)).flatten = (Ls.take k).flatten ++ Ls[k] := by
  rw [List.take_succ_eq_append_getElem h, List.flatten_append]; simp

theorem grown_new {w w1 w2 : World} {k : Nat} (h1 : w.grownBy w1 none) (h2 : w1.grownBy w2 (some k)) (hk : w.heap.size ≤ k) : w.grownBy w2 none :=
  ⟨h2.os.trans h1.os, h2.tape.trans h1.tape, h2.output.trans h1.output, Nat.le_trans h1.size h2.size, fun j hj hne => (h2.block j (Nat.lt_of_lt_of_le hj h1.size) (by simp; omega)).trans (h1.block j hj hne)⟩
theorem grown_setRow {w w1 : World} {k : Nat} (h1 : w.grownBy w1 none) (hk : w.heap.size ≤ k) (c : Array Value) : w.grownBy (w1.setRow k c) none :=
  grown_new h1 (grown_row w1 k c) hk

set_option maxRecDepth 1000000
set_option maxHeartbeats 1000000 in
theorem sum_any (B cap n : Nat) (a : Option Addr) (Ls : List (List UInt8)) (w : World) (hn : Ls.length = n) (hB : B ≤ w.heap.size) (hcap : n ≤ cap) (hc2 : cap ≤ maxLen)
    (htot : Ls.flatten.length ≤ 10000)
    (hT : ∀ j, j < 64 → w.cell? ⟨1, j, none⟩ = some (encW table[j]!)) (hP : Parts w B a Ls) :
    Calls Tryz.prog 31 #[.slice a n cap] w fun e w' => e = .returned (.agg ((digest Ls.flatten).map encB)) ∧ w.grownBy w' none := by
  unfold maxLen at hc2
  have hz : ∀ W : World, (zeroValue 120).run Tryz.prog W = .ok (.agg zeros) W := by intro W; kernel_rfl
  have hz2 : ∀ W : World, (zeroValue 32).run Tryz.prog W = .ok (.agg (Array.replicate 32 (encB 0))) W := by intro W; kernel_rfl
  have HN := Lib.hid hn
  have HT := Lib.hid hT
  have HPP := Lib.hid hP
  clear hn hT hP
  obtain ⟨W0, hW0⟩ : ∃ W0, w.alloc (.cells (Array.replicate 32 (encB 0)) 32) = W0 := ⟨_, rfl⟩
  have hs0 : W0.heap.size = w.heap.size + 1 := by rw [← hW0, alloc_size]
  have hfs := fresh_size
  have hst := run_storeCells_new (P := Tryz.prog) (W0.alloc (.cells fresh 120)) 120 zeros fresh (by rw [fresh_size]; exact info43) (by rw [fresh_size, zeros_size]) fresh_one
  rw [alloc_size, hs0] at hst
  rw [← hW0] at hst
  have HW0 := Lib.hid hW0
  have HS0 := Lib.hid hs0
  clear hW0 hs0
  go_enter Tryz.func31, Tryz.ntmps31
  go_wp2_with (first | (go_at_call 46; refine (start_any _).mono ?_; rintro e w' ⟨rfl, rfl⟩))
  have hb0 : Hid (Has ((W0.alloc (.cells fresh 120)).alloc (.cells fresh 120)) (w.heap.size + 1 + 1) []) := by
    have h := has_fresh (W0.alloc (.cells fresh 120))
    rw [alloc_size, HS0.out] at h
    exact h
  have hres0 : Hid (((W0.alloc (.cells fresh 120)).alloc (.cells fresh 120)).heap[w.heap.size]? = some (.cells (Array.replicate 32 (encB 0)) 32 (0, 0))) := by
    show _ = _
    rw [heap_alloc_old _ _ (by rw [alloc_size, HS0.out]; omega), heap_alloc_old _ _ (by rw [HS0.out]; omega), ← HW0.out, heap_alloc_new]
  have hgr0 : w.grownBy ((W0.alloc (.cells fresh 120)).alloc (.cells fresh 120)) none := by
    rw [← HW0.out]
    exact World.grownBy.trans (World.grownBy.trans (World.grownBy_alloc _ _ _) (World.grownBy_alloc _ _ _)) (World.grownBy_alloc _ _ _)
  have hsz0 : ((W0.alloc (.cells fresh 120)).alloc (.cells fresh 120)).heap.size = w.heap.size + 3 := by rw [alloc_size, alloc_size, HS0.out]
  rw [HW0.out]
  go_loopw [9] (fun i wr => ∃ k : Nat, k ≤ n ∧ i = .int .i64 k ∧ w.grownBy wr none ∧ w.heap.size + 1 + 1 < wr.heap.size ∧ Has wr (w.heap.size + 1 + 1) (Ls.take k).flatten ∧ wr.heap[w.heap.size]? = some (.cells (Array.replicate 32 (encB 0)) 32 (0, 0))) (fun i _ => n - (intOf i).toNat)
  case atStart => exact ⟨0, Nat.zero_le _, rfl, hgr0, by rw [hsz0]; omega, hb0.out, hres0.out⟩
  case round =>
    obtain ⟨k, hk, rfl, hgw, hsw, hhw, hrw⟩ := hrel
    have HHW := Lib.hid hhw
    have HRW := Lib.hid hrw
    clear hhw hrw hst hfs hz hz2 hsz0
    by_cases hlt : k < n
    · obtain ⟨b, o, p1, p2, p3⟩ := HPP.out.grown hgw (by simp)
      obtain ⟨v, hv, ap, cp, bp, op, q1, q2, _, q3, q4, q5⟩ := p3 k (by rw [HN.out]; exact hlt)
      obtain ⟨M, hM⟩ : ∃ M, Ls[k]'(by rw [HN.out]; exact hlt) = M := ⟨_, rfl⟩
      rw [hM] at q1 q2 q4 q5
      obtain ⟨m, hm⟩ : ∃ m, M.length = m := ⟨_, rfl⟩
      have hflat := take_next Ls k (by rw [HN.out]; exact hlt)
      rw [hM] at hflat
      have htl := sumSt_le Ls (k + 1)
      rw [hflat, List.length_append] at htl
      have ha := p2 (by rw [HN.out]; omega)
      subst ha q1
      rw [hm] at q2 q4 q5 htl hv
      have HM := Lib.hid hm
      have HF := Lib.hid hflat
      have HQ4 := Lib.hid q4
      have HQ5 := Lib.hid q5
      have hTr : Hid (∀ j, j < 64 → wr.cell? ⟨1, j, none⟩ = some (encW table[j]!)) := fun j hj => hgw.cell (HT.out j hj) (by simp)
      clear hm hflat q4 q5 p3 p2 hM
      go_wp2_with (go_at_call 47; go_must (refine (add_list (w.heap.size + 1 + 1) bp op cp m _ _ M wr HM.out (by omega) (by omega) q2 (by omega) HQ4.out HQ5.out hTr.out HHW.out).mono ?_); rintro ee ww ⟨rfl, hgw2, hhw2⟩; have HH2 := Lib.hid hhw2; clear hhw2)
      go_roundw
      case rel =>
        refine ⟨k + 1, by omega, by go_num, ?_, ?_, ?_, ?_⟩
        · exact grown_new hgw hgw2 (by omega)
        · exact Nat.lt_of_lt_of_le hsw hgw2.size
        · rw [HF.out]; exact HH2.out
        · rw [hgw2.block _ (by omega) (by simp only [ne_eq, Option.some.injEq]; omega)]; exact HRW.out
      case measure => simp [intOf]; omega
    · have hkn : k = n := by omega
      subst hkn
      clear hlt hk
      have hLL : (Ls.take k).flatten = Ls.flatten := by rw [List.take_of_length_le (by rw [HN.out]; exact Nat.le_refl _)]
      have hh1 : Hid (Has wr (w.heap.size + 1 + 1) Ls.flatten) := by show Has _ _ _; rw [← hLL]; exact HHW.out
      clear hLL
      have hTr : Hid (∀ j, j < 64 → wr.cell? ⟨1, j, none⟩ = some (encW table[j]!)) := fun j hj => hgw.cell (HT.out j hj) (by simp)
      have hks : ((digest Ls.flatten).map encB).size = 32 := by rw [Array.size_map]; exact keyA_size _ _
      have HKS := Lib.hid hks
      have hone : Hid (((digest Ls.flatten).map encB).all (·.oneCell') = true) := by
        show _ = _
        rw [Array.all_map]
        exact Array.all_eq_true.2 fun i hi => rfl
      clear hks
      obtain ⟨KK, hKK⟩ : ∃ KK, (digest Ls.flatten).map encB = KK := ⟨_, rfl⟩
      rw [hKK] at HKS hone
      have HK := Lib.hid hKK
      clear hKK
      go_wp2_with (go_at_call 48; go_must (refine (end_any (w.heap.size + 1 + 1) Ls.flatten wr (by omega) (by omega) hTr.out hh1.out).mono ?_); rintro ee ww ⟨he, hgw2⟩; rw [HK.out] at he; subst he; have hold : Hid (ww.heap[w.heap.size]? = some (.cells (Array.replicate 32 (encB 0)) 32 (0, 0))) := (by show _ = _; rw [hgw2.block _ (by omega) (by simp only [ne_eq, Option.some.injEq]; omega)]; exact HRW.out); have hst := storeCells_row ww w.heap.size 32 32 _ KK hold.out (by rw [info26, HKS.out]) (by rw [HKS.out]; simp) hone.out)
      refine bodyPost_ret (v := .agg KK) ?_ rfl ⟨by rw [HK.out], ?_⟩
      · refine results_cell_row rfl _ _ w.heap.size 32 KK (0, 0) _ rfl ?_ Tryz.underlying32 rfl (by rw [info26, HKS.out])
        exact setRow_heap ww w.heap.size _ KK 32 _ hold.out
      · exact grown_setRow (grown_new hgw hgw2 (by omega)) (Nat.le_refl _) _
end Go.Proofs.YtfpehdldgnfciaaGreatDoor.Sha
