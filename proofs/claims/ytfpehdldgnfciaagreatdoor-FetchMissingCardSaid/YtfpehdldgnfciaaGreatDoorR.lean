/- The reference's sum of parts. -/
import Derived.Test.YtfpehdldgnfciaaGreatDoorM
namespace Go.Proofs.YtfpehdldgnfciaaGreatDoor.Sha
open Go.RowKit Go.Sort

set_option maxRecDepth 1000000
set_option maxHeartbeats 1000000 in
theorem of_any (B cap n : Nat) (a : Option Addr) (Ls : List (List UInt8)) (w : World) (hn : Ls.length = n) (hcap : n ≤ cap) (hc2 : cap ≤ maxLen)
    (htot : Ls.flatten.length ≤ 10000) (hP : Parts w B a Ls) :
    Calls Tryz.prog 16 #[.slice a n cap] w fun e w' => e = .returned (.agg ((digest Ls.flatten).map encB)) ∧ w.grownBy w' none := by
  unfold maxLen at hc2
  obtain ⟨Z32, hZ32⟩ : ∃ Z : Array Value, Array.replicate 32 (encB 0) = Z := ⟨_, rfl⟩
  have hz26 : ∀ W : World, (zeroValue 32).run Tryz.prog W = .ok (.agg Z32) W := by intro W; rw [← hZ32]; kernel_rfl
  have hzs : Z32.size = 32 := by rw [← hZ32]; simp
  have HN := Lib.hid hn
  have HPP := Lib.hid hP
  have HZ := Lib.hid hZ32
  have HZS := Lib.hid hzs
  clear hn hP hZ32 hzs
  obtain ⟨W0, hW0⟩ : ∃ W0, w.alloc (.cells Z32 32) = W0 := ⟨_, rfl⟩
  have hs0 : W0.heap.size = w.heap.size + 1 := by rw [← hW0, alloc_size]
  have hg0 : w.grownBy W0 none := by rw [← hW0]; exact World.grownBy_alloc _ _ _
  have hb0 : Hid (W0.heap[w.heap.size]? = some (.cells Z32 32 (0, 0))) := by show _ = _; rw [← hW0, heap_alloc_new]
  have HW0 := Lib.hid hW0
  have HS0 := Lib.hid hs0
  clear hW0 hs0
  go_enter Tryz.func16, Tryz.ntmps16
  go_wp2
  rw [HW0.out]
  clear hz26
  go_loopw [3, 4] (fun v i wr => ∃ (k m cp : Nat) (ad : Option Addr), k ≤ n ∧ i = .int .i64 k ∧ v = .slice ad m cp ∧ m = (Ls.take k).flatten.length ∧ cp ≤ 9223372036854775807 ∧ Owns wr W0.heap.size v (Ls.take k).flatten ∧ W0.grownBy wr none) (fun _ i _ => n - (intOf i).toNat)
  case atStart => exact ⟨0, 0, 0, none, by omega, rfl, rfl, rfl, by omega, Owns.nil _ _, World.grownBy.refl _ _⟩
  case round =>
    obtain ⟨k, m, cp, ad, hk, rfl, rfl, hm, hcp, hown, hgw⟩ := hrel
    have HM := Lib.hid hm
    have HO := Lib.hid hown
    have hle := sumSt_le Ls k
    have hm2 : m ≤ 10000 := by omega
    clear hm hown
    by_cases hlt : k < n
    · obtain ⟨b, o, p1, p2, p3⟩ := HPP.out.grown (World.grownBy.trans hg0 hgw) (by simp)
      obtain ⟨v, hv, hpart⟩ := p3 k (by rw [HN.out]; exact hlt)
      obtain ⟨M, hM⟩ : ∃ M, Ls[k]'(by rw [HN.out]; exact hlt) = M := ⟨_, rfl⟩
      rw [hM] at hpart
      have hflat := take_next Ls k (by rw [HN.out]; exact hlt)
      rw [hM] at hflat
      have htl := sumSt_le Ls (k + 1)
      rw [hflat, List.length_append] at htl
      have ha := p2 (by rw [HN.out]; omega)
      subst ha
      have HF := Lib.hid hflat
      have HPA := Lib.hid hpart
      clear hflat hpart p3 p2 hM
      go_wp2_with ((with_reducible refine app_part (o := ⟨some 16, _, _, _, _, _⟩) rfl _ _ rfl W0.heap.size B (.slice ad m cp) v (Ls.take k).flatten M ?_ HO.out ?_ HPA.out ?_ hgw.size ?_); (exact rfl); (exact rfl); (omega); (intro v2 w2 ho2 hg2); have HO2 := Lib.hid ho2; have HG2 := Lib.hid (HO.out.grown hgw hg2); clear ho2 hg2)
      go_roundw
      case rel =>
        obtain ⟨ad2, cp2, h1, h2, h3⟩ := HO2.out.form
        refine ⟨k + 1, _, cp2, ad2, by omega, by go_num, h1, by rw [HF.out], h3, ?_, HG2.out⟩
        rw [HF.out]; exact HO2.out
      case measure => simp [intOf]; omega
    · have hkn : k = n := by omega
      subst hkn
      clear hlt hk hle
      have hLL : (Ls.take k).flatten = Ls.flatten := by rw [List.take_of_length_le (by rw [HN.out]; exact Nat.le_refl _)]
      have hml : Hid (Ls.flatten.length = m) := by show _ = _; rw [HM.out, hLL]
      have hpt : Hid (Part wr wr.heap.size (.slice ad m cp) Ls.flatten) := by
        have h := HO.out.part (by have := hgw.size; have := HS0.out; omega)
        rw [hLL] at h
        exact h
      clear hLL
      obtain ⟨KK, hKK⟩ : ∃ KK, (digest Ls.flatten).map encB = KK := ⟨_, rfl⟩
      have HKS : Hid (KK.size = 32) := by show _ = _; rw [← hKK, Array.size_map]; exact keyA_size _ _
      have hone : Hid (KK.all (·.oneCell') = true) := by
        show _ = _
        rw [← hKK, Array.all_map]
        exact Array.all_eq_true.2 fun i hi => rfl
      have HK := Lib.hid hKK
      clear hKK
      go_wp2_with (go_at_call 35; go_must (refine (refsum_any wr.heap.size m cp ad Ls.flatten wr hml.out hm2 hpt.out).mono ?_); rintro ee ww ⟨he, hgw2⟩; rw [HK.out] at he; subst he; have hgt := World.grownBy.trans hgw hgw2; have hold : Hid (ww.heap[w.heap.size]? = some (.cells Z32 32 (0, 0))) := (by show _ = _; rw [hgt.block _ (by rw [HS0.out]; omega) (by simp)]; exact hb0.out); have hst := storeCells_row ww w.heap.size 32 32 _ KK hold.out (by rw [info26, HKS.out]) (by rw [HKS.out, HZS.out]) hone.out; have hks := HKS.out)
      refine bodyPost_ret (v := .agg KK) ?_ rfl ⟨by rw [HK.out], ?_⟩
      · refine results_cell_row rfl _ _ w.heap.size 32 KK (0, 0) _ rfl ?_ Tryz.underlying32 rfl (by rw [info26, HKS.out])
        exact setRow_heap ww w.heap.size _ KK 32 _ hold.out
      · exact grown_setRow (World.grownBy.trans hg0 hgt) (Nat.le_refl _) _
end Go.Proofs.YtfpehdldgnfciaaGreatDoor.Sha
