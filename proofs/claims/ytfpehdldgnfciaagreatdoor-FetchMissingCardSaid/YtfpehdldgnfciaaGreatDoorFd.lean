/- What a fetch does with a reply: fetch's short, check, Take. -/
import Derived.Test.YtfpehdldgnfciaaGreatDoorFc
namespace Go.Proofs.YtfpehdldgnfciaaGreatDoor
open Go.RowKit

set_option maxRecDepth 1000000
/-- Nothing has turned but the block F, the block that v owns, and what is new. -/
structure Turned (w : World) (F : Nat) (v : Value) (w' : World) : Prop where
  size : w.heap.size ≤ w'.heap.size
  block : ∀ k, k < w.heap.size → k ≠ F → v.ownBlock ≠ some k → w'.heap[k]? = w.heap[k]?
theorem Turned.trans {w w1 w2 : World} {F : Nat} {v : Value} (h : Turned w F v w1) (h2 : Turned w1 F v w2) : Turned w F v w2 :=
  ⟨Nat.le_trans h.size h2.size, fun k hk h3 h4 => (h2.block k (Nat.lt_of_lt_of_le hk h.size) h3 h4).trans (h.block k hk h3 h4)⟩
theorem Turned.of {w w1 : World} {F : Nat} {v : Value} {r : Option Nat} (h : w.grownBy w1 r) (hr : r = none ∨ r = some F ∨ r = v.ownBlock) : Turned w F v w1 :=
  ⟨h.size, fun k hk h3 h4 => h.block k hk (fun e => by
    have e' : r = some k := by first | exact e | exact e.symm
    rcases hr with rfl | rfl | rfl
    · cases e'
    · exact h3 (Option.some.inj e').symm
    · exact h4 e')⟩
/-- Behind a call on a fetch: its block F and its bytes L, owned; what lay below base is as it was. -/
structure FetTo (w : World) (F base : Nat) (v : Value) (K : Array Value) (n : Int) (L : List UInt8) (fa sp : Int) (dn fl : Bool) (w' : World) : Prop where
  ex : ∃ a c, Fet w' F K n (.slice a L.length c) fa sp dn fl ∧ Owns w' base (.slice a L.length c) L
  bl : Below base w w'
  tu : Turned w F v w'
set_option maxHeartbeats 4000000 in
theorem short_any (F base B m c m2 c2 : Nat) (a a2 : Option Addr) (K : Array Value) (n fa sp : Int) (dn fl : Bool) (L M : List UInt8) (w : World) (h : Fet w F K n (.slice a m c) fa sp dn fl) (ho : Owns w base (.slice a m c) L) (hL : L.length = m) (hP : Part w B (.slice a2 m2 c2) M) (hM : M.length = m2)
    (hb : m + m2 ≤ 1000000) (hbase : base ≤ F) (h0 : 0 ≤ fa) (h3 : fa < 3) :
    Calls Tryz.prog 21 #[.pointer (some ⟨F, 0, none⟩), .slice a2 m2 c2] w fun e w' => e = .returned .nilIface ∧ FetTo w F base (.slice a m c) K n (L ++ M) (fa + 1) sp dn fl w' := by
  have hsz := h.size
  have hap := ho.apart h.blk (by decide)
  obtain ⟨c37, c39, c40, c41, c42, c43⟩ := h.cells
  have HH := Lib.hid h
  have HO := Lib.hid ho
  have HL := Lib.hid hL
  have HP := Lib.hid hP
  have HM := Lib.hid hM
  have HAP := Lib.hid hap
  have e3 : decide (4 ≤ fa + 1) = false := by simp; omega
  obtain ⟨m3, hm3⟩ : ∃ m3, (L ++ M).length = m3 := ⟨_, rfl⟩
  have HLM := Lib.hid hm3
  clear hm3
  clear h ho hL hP hM hap c37 c40 c41 c42 c43
  go_enter Tryz.func21, Tryz.ntmps21
  go_wp2_with ((with_reducible refine app_part (o := ⟨some 11, _, _, _, _, _⟩) rfl _ _ rfl base B (.slice a m c) (.slice a2 m2 c2) L M ?_ HO.out ?_ HP.out ?_ ?_ ?_); (exact rfl); (exact rfl); (have := HL.out; have := HM.out; omega); (omega); (intro v2 w2 ho2 hg2); have HO2 := Lib.hid ho2; have HG2 := Lib.hid hg2; have HF2 := Lib.hid (HH.out.other hg2 HAP.out); obtain ⟨a3, c3, e2, _⟩ := ho2.open HLM.out; subst e2; clear ho2 hg2 c39; obtain ⟨d37, d39, d40, d41, d42, d43⟩ := HF2.out.cells; have r39 := HF2.out.free 39; have r40 := HF2.out.free 40; clear d37 d41 d42 d43)
  go_ret
  have hF := (HF2.out.setB (.slice a3 m3 c3)).setFa (fa + 1)
  have hO := (HO2.out.other (bk_set_grown w2 F 39 (.slice a3 m3 c3)) (HO2.out.apart HF2.out.blk (by decide))).other (bk_set_grown _ F 40 (.int .i64 (fa + 1))) (HO2.out.apart HF2.out.blk (by decide))
  refine ⟨rfl, ⟨a3, c3, ?_, ?_⟩, ?_, ?_⟩
  · rw [HLM.out]; exact hF
  · rw [HLM.out]; exact hO
  · have b1 : Below base w w2 := below_grown HG2.out (fun k hk => (HO.out.block_lt k hk).1) (by omega)
    have b2 := below_grown (base := base) (bk_set_grown w2 F 39 (.slice a3 m3 c3)) (fun k hk => by have := Option.some.inj hk; omega) (by have := b1.size; omega)
    have b3 := below_grown (base := base) (bk_set_grown (w2.setCell ⟨F, 39, none⟩ (.slice a3 m3 c3)) F 40 (.int .i64 (fa + 1))) (fun k hk => by have := Option.some.inj hk; omega) (by have := b1.size; have := b2.size; omega)
    exact below_trans (below_trans b1 b2) b3
  · exact ((Turned.of HG2.out (.inr (.inr rfl))).trans (Turned.of (bk_set_grown w2 F 39 (.slice a3 m3 c3)) (.inr (.inl rfl)))).trans (Turned.of (bk_set_grown _ F 40 (.int .i64 (fa + 1))) (.inr (.inl rfl)))
set_option maxHeartbeats 4000000 in
theorem check_more (F n m c : Nat) (K : Array Value) (a : Option Addr) (fa sp : Int) (dn fl : Bool) (w : World) (h : Fet w F K n (.slice a m c) fa sp dn fl) (hm : m < n) :
    Calls Tryz.prog 22 #[.pointer (some ⟨F, 0, none⟩)] w fun e w' => e = .returned .nilIface ∧ ∃ d, w' = w.drewN d := by
  obtain ⟨c37, c39, c40, c41, c42, c43⟩ := h.cells
  clear h c40 c41 c42 c43
  go_enter Tryz.func22, Tryz.ntmps22
  go_wp2
  go_region
  all_goals
    go_wp2
    go_ret
    exact ⟨rfl, 1, rfl⟩
set_option maxHeartbeats 4000000 in
theorem check_done (F m c B : Nat) (a : Option Addr) (M : List UInt8) (fa sp : Int) (dn fl : Bool) (w : World) (h : Fet w F (keyV M) m (.slice a m c) fa sp dn fl) (hP : Part w B (.slice a m c) M) (hB : B ≤ w.heap.size) (hM : M.length ≤ 10000) (hT : Tab w) :
    Calls Tryz.prog 22 #[.pointer (some ⟨F, 0, none⟩)] w fun e w' => e = .returned .nilIface ∧ Fet w' F (keyV M) m (.slice a m c) fa sp true fl ∧ ∃ w1, w.grownBy w1 none ∧ w1.grownBy w' (some F) := by
  obtain ⟨c37, c39, c40, c41, c42, c43⟩ := h.cells
  have HH := Lib.hid h
  have g0 : w.grownBy w.drew none := grown_drew 1 (World.grownBy.refl _ _)
  have HR := Lib.hid (right_yes F m c B a M fa sp dn fl w.drew (h.stays g0) (hP.stays g0) hB hM (hT.stays g0))
  have G0 := Lib.hid g0
  have hlt : ((m : Int) < (m : Int)) = False := by simp
  clear h hP hB hM hT c40 c41 c42 c43 g0
  go_enter Tryz.func22, Tryz.ntmps22
  go_wp2
  go_region
  all_goals
    go_wp2_with ((with_reducible refine HR.out.mono ?_); rintro ee w1 ⟨rfl, hg1⟩; dsimp only; have HG1 := Lib.hid (World.grownBy.trans G0.out hg1); clear hg1; obtain ⟨d37, d39, d40, d41, d42, d43⟩ := (HH.out.stays HG1.out).cells; have r42 := (HH.out.stays HG1.out).free 42; clear d37 d39 d40 d41 d43)
    go_ret
    exact ⟨rfl, (HH.out.stays HG1.out).setDn true, w1, HG1.out, bk_set_grown _ _ _ _⟩
end Go.Proofs.YtfpehdldgnfciaaGreatDoor
