/- The law LockReads returns true. -/
import Derived.Test.YthdopcdllggdaaaDoorKlM
import Derived.Test.YthdopcdllggdaaaDoorKeM
namespace Go.Proofs.YthdopcdllggdaaaDoor
open Go.RowKit
attribute [local irreducible] wpQuiet

theorem pins_same (L M : List Pc) (h : L.map mp = M.map mp) : allB pinsB L M = true := by
  refine allB_yes pinsB L M (by have := congrArg List.length h; simpa using this) (fun i p q hp hq => ?_)
  have h2 : (L.map mp)[i]? = (M.map mp)[i]? := by rw [h]
  rw [List.getElem?_map, List.getElem?_map, hp, hq] at h2
  have h := Option.some.inj h2
  have h1 : p.name = q.name := congrArg (·.1) h
  have h2 : p.v = q.v := congrArg (·.2.1) h
  have h3 : p.key = q.key := congrArg (·.2.2) h
  unfold pinsB
  rw [h1, h2, h3]
  simp
/-- help.Pins of what lies somewhere. -/
theorem helpPins_at (B n1 n2 c1 c2 : Nat) (a1 a2 : Option Addr) (L M : List Pc) (w : World) (hB : B ≤ w.heap.size) (hn1 : L.length = n1) (hn2 : M.length = n2) (h81 : n1 ≤ 1000000) (h82 : n2 ≤ 1000000)
    (hP1 : PartP w B (.slice a1 n1 c1) L) (hP2 : PartP w B (.slice a2 n2 c2) M) (hA1 : AllAt w B L) (hA2 : AllAt w B M) (b : Bool) (hb : allB pinsB L M = b) :
    Calls Tryd.prog 9 #[.slice a1 n1 c1, .slice a2 n2 c2] w fun e w' => e = .returned (.bool b) ∧ w.grownBy w' none := by
  rw [← hb]
  exact helpPins_any B n1 n2 c1 c2 a1 a2 L M w hB hn1 hn2 h81 h82 hP1 hP2 hA1 hA2
set_option maxRecDepth 1000000
set_option maxHeartbeats 4000000 in
theorem lockOf_any (m : Int) (s : ByteArray) (w : World) (hs : s.size ≤ 9223372036854775807) (hm : MaxAt m w) : Calls Tryd.prog 8 #[.string s] w (PkRet (lockS s) w) := by
  cases ho : openB s with
  | false => exact lockOf_no s w hs ho
  | true => exact lockOf_yes m s w hs ho hm
set_option maxHeartbeats 8000000 in
theorem reads_law (m : Int) (s : ByteArray) (w : World) (hw : Wok m w) (hs : s.size ≤ 9223372036854775807) : Calls Tryd.prog 3 #[.string s] w fun e w' => e = .returned (.bool true) ∧ w.grownBy w' none := by
  have HW := Lib.hid hw
  clear hw
  by_cases h3 : 3000 < s.size
  · have d3 : (3000 : Int) < (s.size : Int) := by omega
    go_enter Tryd.func3, Tryd.ntmps3
    go_wp2_with fail
    (with_reducible refine (known_any m w HW.out).mono ?_)
    rintro ee w0 ⟨rfl, g0⟩
    dsimp only
    go_wp2
    go_ret
    exact ⟨rfl, g0⟩
  · have d3 : ¬ (3000 : Int) < (s.size : Int) := by omega
    go_enter Tryd.func3, Tryd.ntmps3
    go_wp2_with fail
    (with_reducible refine (known_any m w HW.out).mono ?_)
    rintro ee w0 ⟨rfl, g0⟩
    have G0 := Lib.hid g0
    clear g0
    dsimp only
    go_wp2_with fail
    (with_reducible refine (lParse_any m s w0 hs (HW.out.stays G0.out).max).mono ?_)
    rintro ee w1 ⟨hg, h⟩
    have G1 := Lib.hid (World.grownBy.trans G0.out hg)
    rcases h with ⟨k, hk, rfl⟩ | ⟨v, L, hL, rfl, hO, hA⟩
    · have HK := Lib.hid hk
      clear hg hk
      dsimp only
      go_wp2_with fail
      (with_reducible refine (lockOf_any m s w1 hs (HW.out.stays G1.out).max).mono ?_)
      rintro ee w2 ⟨hg, ⟨k2, hk2, rfl⟩ | ⟨v2, L2, hL2, _, _, _⟩⟩
      case inr => rw [HK.out] at hL2; cases hL2
      obtain rfl : k2 = k := by rw [HK.out] at hk2; exact (Sum.inl.inj hk2).symm
      have G2 := Lib.hid (World.grownBy.trans G1.out hg)
      clear hg hk2
      dsimp only
      go_wp2_with fail
      (with_reducible refine (helpPins_at w2.heap.size 0 0 0 0 none none [] [] w2 (Nat.le_refl _) rfl rfl (by omega) (by omega) (PartP.empty (HW.out.stays G2.out).pos) (PartP.empty (HW.out.stays G2.out).pos) (AllAt.empty _ _) (AllAt.empty _ _) true rfl).mono ?_)
      rintro ee w3 ⟨rfl, hg⟩
      dsimp only
      go_wp2
      go_ret
      exact ⟨rfl, World.grownBy.trans G2.out hg⟩
    · obtain ⟨a1, c1, e1, _, _⟩ := hO.form
      obtain ⟨n, hn⟩ : ∃ n, L.length = n := ⟨_, rfl⟩
      rw [hn] at e1
      subst e1
      have HN := Lib.hid hn
      have HL : Hid (lockS s = .inr (L.map mp)) := Lib.hid hL
      have HO := Lib.hid hO
      have HA := Lib.hid hA
      obtain ⟨ht, ho⟩ := lock_told s L hL
      have hfew := lock_few s L hL
      have hn1 : n ≤ 100 := by omega
      have HST := Lib.hid (stable_of n L ho (by omega))
      have HT : Hid ((⟨(lockT L).toArray⟩ : ByteArray) = s) := Lib.hid ht
      have HP1 := Lib.hid (hO.part (HW.out.stays G1.out).pos)
      clear hg hL hO hA ht ho hfew hn
      dsimp only
      go_wp2_with fail
      (with_reducible refine (lockOf_any m s w1 hs (HW.out.stays G1.out).max).mono ?_)
      rintro ee w2 ⟨hg, ⟨k2, hk2, _⟩ | ⟨v2, M, hM, rfl, hO2, hA2⟩⟩
      · rw [HL.out] at hk2; cases hk2
      have hLM : L.map mp = M.map mp := by rw [HL.out] at hM; exact Sum.inr.inj hM
      have hnM : M.length = n := by have := congrArg List.length hLM; rw [List.length_map, List.length_map, HN.out] at this; exact this.symm
      obtain ⟨a2, c2, e2, _, _⟩ := hO2.form
      rw [hnM] at e2
      subst e2
      have G2 := Lib.hid (World.grownBy.trans G1.out hg)
      have HP2 := Lib.hid (hO2.part (HW.out.stays G2.out).pos)
      have HPL := Lib.hid ((HP1.out.stays hg).mono hg.size)
      have HAL : Hid (AllAt w2 w2.heap.size L) := Lib.hid (fun p hp => ((HA.out p hp).stays hg).mono hg.size)
      have HAM := Lib.hid hA2
      have HNM := Lib.hid hnM
      have HEQ := Lib.hid (pins_same L M hLM)
      clear hg hM hO2 hA2 hLM hnM
      dsimp only
      go_wp2_with fail
      (with_reducible refine (helpPins_at w2.heap.size n n c1 c2 a1 a2 L M w2 (Nat.le_refl _) HN.out HNM.out (by omega) (by omega) HPL.out HP2.out HAL.out HAM.out true HEQ.out).mono ?_)
      rintro ee w3 ⟨rfl, hg⟩
      have G3 := Lib.hid (World.grownBy.trans G2.out hg)
      have HP3 := Lib.hid ((HPL.out.stays hg).mono hg.size)
      have HA3 : Hid (AllAt w3 w3.heap.size L) := Lib.hid (fun p hp => ((HAL.out p hp).stays hg).mono hg.size)
      clear hg
      dsimp only
      go_wp2_with fail
      (with_reducible refine (lockText_any m n c1 a1 L HST.out w3 (HW.out.stays G3.out) HN.out (by omega) HP3.out HA3.out).mono ?_)
      rw [HT.out]
      rintro ee w4 ⟨rfl, hg⟩
      dsimp only
      go_wp2
      go_ret
      exact ⟨rfl, World.grownBy.trans G3.out hg⟩
end Go.Proofs.YthdopcdllggdaaaDoor
