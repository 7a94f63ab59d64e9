/- Texts of one ground, in one file: Lr Ls Lz L0. -/
import Derived.Test.YthdopcdllggdaaaGreatDoorP6
namespace Go.Proofs.YthdopcdllggdaaaGreatDoor
open Go.RowKit

/-- Are two pins alike, part by part? -/
def pinsB (p q : Pc) : Bool := decide (p.name = q.name) && decide (p.v = q.v) && decide (p.key = q.key)
attribute [local irreducible] wpQuiet
set_option maxRecDepth 1000000
set_option maxHeartbeats 16000000 in
theorem helpPins_any (B n1 n2 c1 c2 : Nat) (a1 a2 : Option Addr) (L M : List Pc) (w : World) (hB : B ≤ w.heap.size) (hn1 : L.length = n1) (hn2 : M.length = n2) (h81 : n1 ≤ 1000000) (h82 : n2 ≤ 1000000)
    (hP1 : PartP w B (.slice a1 n1 c1) L) (hP2 : PartP w B (.slice a2 n2 c2) M) (hA1 : AllAt w B L) (hA2 : AllAt w B M) :
    Calls Tryz.prog 10 #[.slice a1 n1 c1, .slice a2 n2 c2] w fun e w' => e = .returned (.bool (allB pinsB L M)) ∧ w.grownBy w' none := by
  by_cases hne : n1 = n2
  · subst hne
    have HB := Lib.hid hB
    have HN1 := Lib.hid hn1
    have HN2 := Lib.hid hn2
    have HP1 := Lib.hid hP1
    have HP2 := Lib.hid hP2
    have HA1 := Lib.hid hA1
    have HA2 := Lib.hid hA2
    clear hB hn1 hn2 hP1 hP2 hA1 hA2 h82
    go_enter Tryz.func10, Tryz.ntmps10
    go_wp2
    go_loopw [5] (fun i wr => ∃ k : Nat, k ≤ n1 ∧ i = .int .i64 k ∧ Hid (w.grownBy wr none) ∧ Hid (UpToB pinsB L M k)) (fun i _ => n1 - (intOf i).toNat)
    case atStart => exact ⟨0, Nat.zero_le _, rfl, World.grownBy.refl _ _, fun i p q h => absurd h (Nat.not_lt_zero _)⟩
    case round =>
      obtain ⟨k, hk, rfl, HG, HU⟩ := hrel
      by_cases hlt : k < n1
      · obtain ⟨p, hx⟩ : ∃ p, L[k]? = some p := ⟨_, List.getElem?_eq_getElem (by rw [HN1.out]; exact hlt)⟩
        obtain ⟨q, hy⟩ : ∃ q, M[k]? = some q := ⟨_, List.getElem?_eq_getElem (by rw [HN2.out]; exact hlt)⟩
        obtain ⟨b1, o1, e1, _, r1⟩ := (HP1.out.stays HG.out).at k p hx
        obtain ⟨b2, o2, e2, _, r2⟩ := (HP2.out.stays HG.out).at k q hy
        subst e1 e2
        have HX := Lib.hid hx
        have HY := Lib.hid hy
        have HX1 := Lib.hid (HA1.out p (List.mem_of_getElem? hx))
        have HY1 := Lib.hid (HA2.out q (List.mem_of_getElem? hy))
        have hn1 : wr.cell? ⟨b1, o1 + k * 37, none⟩ = some (.string p.name) := range_name r1
        have hn2 : wr.cell? ⟨b2, o2 + k * 37, none⟩ = some (.string q.name) := range_name r2
        have HV1 := Lib.hid (range_ver r1)
        have HV2 := Lib.hid (range_ver r2)
        have HK1 := Lib.hid (range_key r1)
        have HK2 := Lib.hid (range_key r2)
        have HEQ := Lib.hid (key_neq p.key q.key p.hk q.hk)
        clear hx hy r1 r2
        have hc1 : ∀ W, wr.grownBy W none → Calls Tryz.prog 28 #[.agg (verC p.v p.sl).toArray, .agg (verC q.v q.sl).toArray] W fun e w' => e = .returned (.bool (decide (p.v = q.v))) ∧ wr.grownBy w' none := fun W hW => by
          have hx := (HX1.out.stays (World.grownBy.trans HG.out hW)).ver
          have hy := (HY1.out.stays (World.grownBy.trans HG.out hW)).ver
          exact (version_any B B p.v q.v p.sl q.sl W (by have := hx.few; omega) (by have := hy.few; omega) hx.part hy.part).mono fun e w' h => ⟨h.1, World.grownBy.trans hW h.2⟩
        have HS : Hid (pinsB p q = (decide (p.name = q.name) && decide (p.v = q.v) && decide (p.key = q.key))) := Lib.hid rfl
        obtain ⟨x, hxx⟩ : ∃ x, p.name = x := ⟨_, rfl⟩
        obtain ⟨y, hyy⟩ : ∃ y, q.name = y := ⟨_, rfl⟩
        rw [hxx, hyy] at HS
        rw [hxx] at hn1
        rw [hyy] at hn2
        clear hxx hyy
        by_cases hxy : x = y
        · subst hxy
          by_cases ht : p.v = q.v
          · rw [decide_eq_true ht] at hc1 HS
            by_cases hk2 : p.key = q.key
            · have HE : Hid (pinsB p q = true) := Lib.hid (by rw [HS.out, decide_eq_true rfl, decide_eq_true hk2]; rfl)
              rw [decide_eq_true hk2] at HEQ
              clear hk2 HS ht
              have hC0 : wr.grownBy { wr with drawn := wr.drawn + 1 } none := ⟨rfl, rfl, rfl, Nat.le_refl _, fun _ _ _ => rfl⟩
              go_wp2_with fail
              refine wp_region_quiet (C := fun w' => wr.grownBy w' none) (by kernel_rfl) (by kernel_rfl) hC0 ?_
              refine @wpQuiet_step _ _ _ _ _ _ _ (fun K hK => ?_)
              go_simp
              first | refine hK _ ?_ | refine ⟨_, fun W hW => rfl, hK _ ?_⟩ | refine ⟨_, fun W hW => ⟨rfl, rfl⟩, hK _ ?_⟩
              clear hK K
              refine @wpQuiet_step _ _ _ _ _ _ _ (fun K hK => ?_)
              go_simp
              first | refine hK _ ?_ | refine ⟨_, fun W hW => rfl, hK _ ?_⟩ | refine ⟨_, fun W hW => ⟨rfl, rfl⟩, hK _ ?_⟩
              clear hK K
              refine @wpQuiet_step _ _ _ _ _ _ _ (fun K hK => ?_)
              go_simp
              first | refine hK _ ?_ | refine ⟨_, fun W hW => rfl, hK _ ?_⟩ | refine ⟨_, fun W hW => ⟨rfl, rfl⟩, hK _ ?_⟩
              clear hK K
              refine @wpQuiet_step _ _ _ _ _ _ _ (fun K hK => ?_)
              go_simp
              first | refine hK _ ?_ | refine ⟨_, fun W hW => rfl, hK _ ?_⟩ | refine ⟨_, fun W hW => ⟨rfl, rfl⟩, hK _ ?_⟩
              clear hK K
              refine @wpQuiet_step _ _ _ _ _ _ _ (fun K hK => ?_)
              go_simp
              refine ⟨.string x, fun W hW => ?_, hK _ ?_⟩
              · rw [hW.cell hn1 (by simp)]; exact ⟨rfl, rfl⟩
              clear hK K
              refine @wpQuiet_step _ _ _ _ _ _ _ (fun K hK => ?_)
              go_simp
              first | refine hK _ ?_ | refine ⟨_, fun W hW => rfl, hK _ ?_⟩ | refine ⟨_, fun W hW => ⟨rfl, rfl⟩, hK _ ?_⟩
              clear hK K
              refine @wpQuiet_step _ _ _ _ _ _ _ (fun K hK => ?_)
              go_simp
              first | refine hK _ ?_ | refine ⟨_, fun W hW => rfl, hK _ ?_⟩ | refine ⟨_, fun W hW => ⟨rfl, rfl⟩, hK _ ?_⟩
              clear hK K
              refine @wpQuiet_step _ _ _ _ _ _ _ (fun K hK => ?_)
              go_simp
              first | refine hK _ ?_ | refine ⟨_, fun W hW => rfl, hK _ ?_⟩ | refine ⟨_, fun W hW => ⟨rfl, rfl⟩, hK _ ?_⟩
              clear hK K
              refine @wpQuiet_step _ _ _ _ _ _ _ (fun K hK => ?_)
              go_simp
              first | refine hK _ ?_ | refine ⟨_, fun W hW => rfl, hK _ ?_⟩ | refine ⟨_, fun W hW => ⟨rfl, rfl⟩, hK _ ?_⟩
              clear hK K
              refine @wpQuiet_step _ _ _ _ _ _ _ (fun K hK => ?_)
              go_simp
              refine ⟨.string x, fun W hW => ?_, hK _ ?_⟩
              · rw [hW.cell hn2 (by simp)]; exact ⟨rfl, rfl⟩
              clear hK K
              refine @wpQuiet_step _ _ _ _ _ _ _ (fun K hK => ?_)
              go_simp
              first | refine hK _ ?_ | refine ⟨_, fun W hW => rfl, hK _ ?_⟩ | refine ⟨_, fun W hW => ⟨rfl, rfl⟩, hK _ ?_⟩
              clear hK K
              refine @wpQuiet_step _ _ _ _ _ _ _ (fun K hK => ?_)
              go_simp
              first | refine hK _ ?_ | refine ⟨_, fun W hW => rfl, hK _ ?_⟩ | refine ⟨_, fun W hW => ⟨rfl, rfl⟩, hK _ ?_⟩
              clear hK K
              refine @wpQuiet_step _ _ _ _ _ _ _ (fun K hK => ?_)
              rw [if_pos (by kernel_rfl)]
              go_simp
              first | refine hK _ ?_ | refine ⟨_, fun W hW => rfl, hK _ ?_⟩ | refine ⟨_, fun W hW => ⟨rfl, rfl⟩, hK _ ?_⟩
              clear hK K
              refine @wpQuiet_step _ _ _ _ _ _ _ (fun K hK => ?_)
              rw [if_pos (by kernel_rfl)]
              go_simp
              first | refine hK _ ?_ | refine ⟨_, fun W hW => rfl, hK _ ?_⟩ | refine ⟨_, fun W hW => ⟨rfl, rfl⟩, hK _ ?_⟩
              clear hK K
              refine @wpQuiet_step _ _ _ _ _ _ _ (fun K hK => ?_)
              rw [if_pos (by kernel_rfl)]
              go_simp
              first | refine hK _ ?_ | refine ⟨_, fun W hW => rfl, hK _ ?_⟩ | refine ⟨_, fun W hW => ⟨rfl, rfl⟩, hK _ ?_⟩
              clear hK K
              refine @wpQuiet_step _ _ _ _ _ _ _ (fun K hK => ?_)
              rw [if_pos (by kernel_rfl)]
              go_simp
              first | refine hK _ ?_ | refine ⟨_, fun W hW => rfl, hK _ ?_⟩ | refine ⟨_, fun W hW => ⟨rfl, rfl⟩, hK _ ?_⟩
              clear hK K
              refine @quiet_midG _ _ _ _ _ _ _ (by kernel_rfl) 28 _ rfl b1 (o1 + k * 37 + 1) rfl (verC p.v p.sl) _ (fun W hW => range_stays HV1.out hW (by simp)) Tryz.underlying28 rfl infoV_size ?_
              try simp only [Act.put, List.setIfInBounds_toArray, List.set_cons_zero, List.set_cons_succ]
              refine @wpQuiet_step _ _ _ _ _ _ _ (fun K hK => ?_)
              rw [if_pos (by kernel_rfl)]
              go_simp
              first | refine hK _ ?_ | refine ⟨_, fun W hW => rfl, hK _ ?_⟩ | refine ⟨_, fun W hW => ⟨rfl, rfl⟩, hK _ ?_⟩
              clear hK K
              refine @wpQuiet_step _ _ _ _ _ _ _ (fun K hK => ?_)
              rw [if_pos (by kernel_rfl)]
              go_simp
              first | refine hK _ ?_ | refine ⟨_, fun W hW => rfl, hK _ ?_⟩ | refine ⟨_, fun W hW => ⟨rfl, rfl⟩, hK _ ?_⟩
              clear hK K
              refine @wpQuiet_step _ _ _ _ _ _ _ (fun K hK => ?_)
              rw [if_pos (by kernel_rfl)]
              go_simp
              first | refine hK _ ?_ | refine ⟨_, fun W hW => rfl, hK _ ?_⟩ | refine ⟨_, fun W hW => ⟨rfl, rfl⟩, hK _ ?_⟩
              clear hK K
              refine @wpQuiet_step _ _ _ _ _ _ _ (fun K hK => ?_)
              rw [if_pos (by kernel_rfl)]
              go_simp
              first | refine hK _ ?_ | refine ⟨_, fun W hW => rfl, hK _ ?_⟩ | refine ⟨_, fun W hW => ⟨rfl, rfl⟩, hK _ ?_⟩
              clear hK K
              refine @quiet_midG _ _ _ _ _ _ _ (by kernel_rfl) 28 _ rfl b2 (o2 + k * 37 + 1) rfl (verC q.v q.sl) _ (fun W hW => range_stays HV2.out hW (by simp)) Tryz.underlying28 rfl infoV_size ?_
              try simp only [Act.put, List.setIfInBounds_toArray, List.set_cons_zero, List.set_cons_succ]
              refine @wpQuiet_step _ _ _ _ _ _ _ (fun K hK => ?_)
              rw [if_pos (by kernel_rfl)]
              go_simp
              refine ⟨.bool true, fun W hW => hc1 W hW, hK _ ?_⟩
              clear hK K
              refine @wpQuiet_step _ _ _ _ _ _ _ (fun K hK => ?_)
              rw [if_pos (by kernel_rfl)]
              go_simp
              first | refine hK _ ?_ | refine ⟨_, fun W hW => rfl, hK _ ?_⟩ | refine ⟨_, fun W hW => ⟨rfl, rfl⟩, hK _ ?_⟩
              clear hK K
              refine @wpQuiet_step _ _ _ _ _ _ _ (fun K hK => ?_)
              go_simp
              first | refine hK _ ?_ | refine ⟨_, fun W hW => rfl, hK _ ?_⟩ | refine ⟨_, fun W hW => ⟨rfl, rfl⟩, hK _ ?_⟩
              clear hK K
              refine @wpQuiet_step _ _ _ _ _ _ _ (fun K hK => ?_)
              go_simp
              first | refine hK _ ?_ | refine ⟨_, fun W hW => rfl, hK _ ?_⟩ | refine ⟨_, fun W hW => ⟨rfl, rfl⟩, hK _ ?_⟩
              clear hK K
              refine @wpQuiet_step _ _ _ _ _ _ _ (fun K hK => ?_)
              rw [if_pos (by kernel_rfl)]
              go_simp
              first | refine hK _ ?_ | refine ⟨_, fun W hW => rfl, hK _ ?_⟩ | refine ⟨_, fun W hW => ⟨rfl, rfl⟩, hK _ ?_⟩
              clear hK K
              refine @wpQuiet_step _ _ _ _ _ _ _ (fun K hK => ?_)
              rw [if_pos (by kernel_rfl)]
              go_simp
              first | refine hK _ ?_ | refine ⟨_, fun W hW => rfl, hK _ ?_⟩ | refine ⟨_, fun W hW => ⟨rfl, rfl⟩, hK _ ?_⟩
              clear hK K
              refine @wpQuiet_step _ _ _ _ _ _ _ (fun K hK => ?_)
              rw [if_pos (by kernel_rfl)]
              go_simp
              first | refine hK _ ?_ | refine ⟨_, fun W hW => rfl, hK _ ?_⟩ | refine ⟨_, fun W hW => ⟨rfl, rfl⟩, hK _ ?_⟩
              clear hK K
              refine @wpQuiet_step _ _ _ _ _ _ _ (fun K hK => ?_)
              rw [if_pos (by kernel_rfl)]
              go_simp
              first | refine hK _ ?_ | refine ⟨_, fun W hW => rfl, hK _ ?_⟩ | refine ⟨_, fun W hW => ⟨rfl, rfl⟩, hK _ ?_⟩
              clear hK K
              refine @quiet_midG _ _ _ _ _ _ _ (by kernel_rfl) 33 _ rfl b1 (o1 + k * 37 + 5) rfl (keyC p.key) _ (fun W hW => range_stays HK1.out hW (by simp)) Tryz.underlying33 rfl (by rw [keyC_len]; exact infoK_size) ?_
              try simp only [Act.put, List.setIfInBounds_toArray, List.set_cons_zero, List.set_cons_succ]
              refine @wpQuiet_step _ _ _ _ _ _ _ (fun K hK => ?_)
              rw [if_pos (by kernel_rfl)]
              go_simp
              first | refine hK _ ?_ | refine ⟨_, fun W hW => rfl, hK _ ?_⟩ | refine ⟨_, fun W hW => ⟨rfl, rfl⟩, hK _ ?_⟩
              clear hK K
              refine @wpQuiet_step _ _ _ _ _ _ _ (fun K hK => ?_)
              rw [if_pos (by kernel_rfl)]
              go_simp
              first | refine hK _ ?_ | refine ⟨_, fun W hW => rfl, hK _ ?_⟩ | refine ⟨_, fun W hW => ⟨rfl, rfl⟩, hK _ ?_⟩
              clear hK K
              refine @wpQuiet_step _ _ _ _ _ _ _ (fun K hK => ?_)
              rw [if_pos (by kernel_rfl)]
              go_simp
              first | refine hK _ ?_ | refine ⟨_, fun W hW => rfl, hK _ ?_⟩ | refine ⟨_, fun W hW => ⟨rfl, rfl⟩, hK _ ?_⟩
              clear hK K
              refine @wpQuiet_step _ _ _ _ _ _ _ (fun K hK => ?_)
              rw [if_pos (by kernel_rfl)]
              go_simp
              first | refine hK _ ?_ | refine ⟨_, fun W hW => rfl, hK _ ?_⟩ | refine ⟨_, fun W hW => ⟨rfl, rfl⟩, hK _ ?_⟩
              clear hK K
              refine @quiet_midG _ _ _ _ _ _ _ (by kernel_rfl) 33 _ rfl b2 (o2 + k * 37 + 5) rfl (keyC q.key) _ (fun W hW => range_stays HK2.out hW (by simp)) Tryz.underlying33 rfl (by rw [keyC_len]; exact infoK_size) ?_
              try simp only [Act.put, List.setIfInBounds_toArray, List.set_cons_zero, List.set_cons_succ]
              refine @wpQuiet_step _ _ _ _ _ _ _ (fun K hK => ?_)
              rw [if_pos (by kernel_rfl)]
              refine ⟨.bool false, fun W hW => ?_, hK _ ?_⟩
              · have h := HEQ.out W
                have hg := run_eqGuard_agg (P := Tryz.prog) (w := W) .neq 33
                unfold Oper.quietAt
                simp [execOp, Act.eval, h, eqGuard, Result.andThen, Oper.quietUpon]
              clear hK K
              try simp only [Act.put, List.setIfInBounds_toArray, List.set_cons_zero, List.set_cons_succ]
              refine @wpQuiet_step _ _ _ _ _ _ _ (fun K hK => ?_)
              go_simp
              first | refine hK _ ?_ | refine ⟨_, fun W hW => rfl, hK _ ?_⟩ | refine ⟨_, fun W hW => ⟨rfl, rfl⟩, hK _ ?_⟩
              clear hK K
              refine wpQuiet_nil ?_
              intro W hW
              have HGE := Lib.hid (World.grownBy.trans HG.out hW)
              clear hW hC0 hn1 hn2 hc1
              have HU2 := Lib.hid (HU.out.next HX.out HY.out HE.out)
              go_wp2
              go_roundw
              case rel => exact ⟨k + 1, by omega, by go_num, HGE, HU2⟩
              case measure => simp [intOf]; omega
            · have HE : Hid (pinsB p q = false) := Lib.hid (by rw [HS.out, decide_eq_false hk2]; simp)
              rw [decide_eq_false hk2] at HEQ
              clear hk2 HS ht
              have hC0 : wr.grownBy { wr with drawn := wr.drawn + 1 } none := ⟨rfl, rfl, rfl, Nat.le_refl _, fun _ _ _ => rfl⟩
              go_wp2_with fail
              refine wp_region_quiet (C := fun w' => wr.grownBy w' none) (by kernel_rfl) (by kernel_rfl) hC0 ?_
              refine @wpQuiet_step _ _ _ _ _ _ _ (fun K hK => ?_)
              go_simp
              first | refine hK _ ?_ | refine ⟨_, fun W hW => rfl, hK _ ?_⟩ | refine ⟨_, fun W hW => ⟨rfl, rfl⟩, hK _ ?_⟩
              clear hK K
              refine @wpQuiet_step _ _ _ _ _ _ _ (fun K hK => ?_)
              go_simp
              first | refine hK _ ?_ | refine ⟨_, fun W hW => rfl, hK _ ?_⟩ | refine ⟨_, fun W hW => ⟨rfl, rfl⟩, hK _ ?_⟩
              clear hK K
              refine @wpQuiet_step _ _ _ _ _ _ _ (fun K hK => ?_)
              go_simp
              first | refine hK _ ?_ | refine ⟨_, fun W hW => rfl, hK _ ?_⟩ | refine ⟨_, fun W hW => ⟨rfl, rfl⟩, hK _ ?_⟩
              clear hK K
              refine @wpQuiet_step _ _ _ _ _ _ _ (fun K hK => ?_)
              go_simp
              first | refine hK _ ?_ | refine ⟨_, fun W hW => rfl, hK _ ?_⟩ | refine ⟨_, fun W hW => ⟨rfl, rfl⟩, hK _ ?_⟩
              clear hK K
              refine @wpQuiet_step _ _ _ _ _ _ _ (fun K hK => ?_)
              go_simp
              refine ⟨.string x, fun W hW => ?_, hK _ ?_⟩
              · rw [hW.cell hn1 (by simp)]; exact ⟨rfl, rfl⟩
              clear hK K
              refine @wpQuiet_step _ _ _ _ _ _ _ (fun K hK => ?_)
              go_simp
              first | refine hK _ ?_ | refine ⟨_, fun W hW => rfl, hK _ ?_⟩ | refine ⟨_, fun W hW => ⟨rfl, rfl⟩, hK _ ?_⟩
              clear hK K
              refine @wpQuiet_step _ _ _ _ _ _ _ (fun K hK => ?_)
              go_simp
              first | refine hK _ ?_ | refine ⟨_, fun W hW => rfl, hK _ ?_⟩ | refine ⟨_, fun W hW => ⟨rfl, rfl⟩, hK _ ?_⟩
              clear hK K
              refine @wpQuiet_step _ _ _ _ _ _ _ (fun K hK => ?_)
              go_simp
              first | refine hK _ ?_ | refine ⟨_, fun W hW => rfl, hK _ ?_⟩ | refine ⟨_, fun W hW => ⟨rfl, rfl⟩, hK _ ?_⟩
              clear hK K
              refine @wpQuiet_step _ _ _ _ _ _ _ (fun K hK => ?_)
              go_simp
              first | refine hK _ ?_ | refine ⟨_, fun W hW => rfl, hK _ ?_⟩ | refine ⟨_, fun W hW => ⟨rfl, rfl⟩, hK _ ?_⟩
              clear hK K
              refine @wpQuiet_step _ _ _ _ _ _ _ (fun K hK => ?_)
              go_simp
              refine ⟨.string x, fun W hW => ?_, hK _ ?_⟩
              · rw [hW.cell hn2 (by simp)]; exact ⟨rfl, rfl⟩
              clear hK K
              refine @wpQuiet_step _ _ _ _ _ _ _ (fun K hK => ?_)
              go_simp
              first | refine hK _ ?_ | refine ⟨_, fun W hW => rfl, hK _ ?_⟩ | refine ⟨_, fun W hW => ⟨rfl, rfl⟩, hK _ ?_⟩
              clear hK K
              refine @wpQuiet_step _ _ _ _ _ _ _ (fun K hK => ?_)
              go_simp
              first | refine hK _ ?_ | refine ⟨_, fun W hW => rfl, hK _ ?_⟩ | refine ⟨_, fun W hW => ⟨rfl, rfl⟩, hK _ ?_⟩
              clear hK K
              refine @wpQuiet_step _ _ _ _ _ _ _ (fun K hK => ?_)
              rw [if_pos (by kernel_rfl)]
              go_simp
              first | refine hK _ ?_ | refine ⟨_, fun W hW => rfl, hK _ ?_⟩ | refine ⟨_, fun W hW => ⟨rfl, rfl⟩, hK _ ?_⟩
              clear hK K
              refine @wpQuiet_step _ _ _ _ _ _ _ (fun K hK => ?_)
              rw [if_pos (by kernel_rfl)]
              go_simp
              first | refine hK _ ?_ | refine ⟨_, fun W hW => rfl, hK _ ?_⟩ | refine ⟨_, fun W hW => ⟨rfl, rfl⟩, hK _ ?_⟩
              clear hK K
              refine @wpQuiet_step _ _ _ _ _ _ _ (fun K hK => ?_)
              rw [if_pos (by kernel_rfl)]
              go_simp
              first | refine hK _ ?_ | refine ⟨_, fun W hW => rfl, hK _ ?_⟩ | refine ⟨_, fun W hW => ⟨rfl, rfl⟩, hK _ ?_⟩
              clear hK K
              refine @wpQuiet_step _ _ _ _ _ _ _ (fun K hK => ?_)
              rw [if_pos (by kernel_rfl)]
              go_simp
              first | refine hK _ ?_ | refine ⟨_, fun W hW => rfl, hK _ ?_⟩ | refine ⟨_, fun W hW => ⟨rfl, rfl⟩, hK _ ?_⟩
              clear hK K
              refine @quiet_midG _ _ _ _ _ _ _ (by kernel_rfl) 28 _ rfl b1 (o1 + k * 37 + 1) rfl (verC p.v p.sl) _ (fun W hW => range_stays HV1.out hW (by simp)) Tryz.underlying28 rfl infoV_size ?_
              try simp only [Act.put, List.setIfInBounds_toArray, List.set_cons_zero, List.set_cons_succ]
              refine @wpQuiet_step _ _ _ _ _ _ _ (fun K hK => ?_)
              rw [if_pos (by kernel_rfl)]
              go_simp
              first | refine hK _ ?_ | refine ⟨_, fun W hW => rfl, hK _ ?_⟩ | refine ⟨_, fun W hW => ⟨rfl, rfl⟩, hK _ ?_⟩
              clear hK K
              refine @wpQuiet_step _ _ _ _ _ _ _ (fun K hK => ?_)
              rw [if_pos (by kernel_rfl)]
              go_simp
              first | refine hK _ ?_ | refine ⟨_, fun W hW => rfl, hK _ ?_⟩ | refine ⟨_, fun W hW => ⟨rfl, rfl⟩, hK _ ?_⟩
              clear hK K
              refine @wpQuiet_step _ _ _ _ _ _ _ (fun K hK => ?_)
              rw [if_pos (by kernel_rfl)]
              go_simp
              first | refine hK _ ?_ | refine ⟨_, fun W hW => rfl, hK _ ?_⟩ | refine ⟨_, fun W hW => ⟨rfl, rfl⟩, hK _ ?_⟩
              clear hK K
              refine @wpQuiet_step _ _ _ _ _ _ _ (fun K hK => ?_)
              rw [if_pos (by kernel_rfl)]
              go_simp
              first | refine hK _ ?_ | refine ⟨_, fun W hW => rfl, hK _ ?_⟩ | refine ⟨_, fun W hW => ⟨rfl, rfl⟩, hK _ ?_⟩
              clear hK K
              refine @quiet_midG _ _ _ _ _ _ _ (by kernel_rfl) 28 _ rfl b2 (o2 + k * 37 + 1) rfl (verC q.v q.sl) _ (fun W hW => range_stays HV2.out hW (by simp)) Tryz.underlying28 rfl infoV_size ?_
              try simp only [Act.put, List.setIfInBounds_toArray, List.set_cons_zero, List.set_cons_succ]
              refine @wpQuiet_step _ _ _ _ _ _ _ (fun K hK => ?_)
              rw [if_pos (by kernel_rfl)]
              go_simp
              refine ⟨.bool true, fun W hW => hc1 W hW, hK _ ?_⟩
              clear hK K
              refine @wpQuiet_step _ _ _ _ _ _ _ (fun K hK => ?_)
              rw [if_pos (by kernel_rfl)]
              go_simp
              first | refine hK _ ?_ | refine ⟨_, fun W hW => rfl, hK _ ?_⟩ | refine ⟨_, fun W hW => ⟨rfl, rfl⟩, hK _ ?_⟩
              clear hK K
              refine @wpQuiet_step _ _ _ _ _ _ _ (fun K hK => ?_)
              go_simp
              first | refine hK _ ?_ | refine ⟨_, fun W hW => rfl, hK _ ?_⟩ | refine ⟨_, fun W hW => ⟨rfl, rfl⟩, hK _ ?_⟩
              clear hK K
              refine @wpQuiet_step _ _ _ _ _ _ _ (fun K hK => ?_)
              go_simp
              first | refine hK _ ?_ | refine ⟨_, fun W hW => rfl, hK _ ?_⟩ | refine ⟨_, fun W hW => ⟨rfl, rfl⟩, hK _ ?_⟩
              clear hK K
              refine @wpQuiet_step _ _ _ _ _ _ _ (fun K hK => ?_)
              rw [if_pos (by kernel_rfl)]
              go_simp
              first | refine hK _ ?_ | refine ⟨_, fun W hW => rfl, hK _ ?_⟩ | refine ⟨_, fun W hW => ⟨rfl, rfl⟩, hK _ ?_⟩
              clear hK K
              refine @wpQuiet_step _ _ _ _ _ _ _ (fun K hK => ?_)
              rw [if_pos (by kernel_rfl)]
              go_simp
              first | refine hK _ ?_ | refine ⟨_, fun W hW => rfl, hK _ ?_⟩ | refine ⟨_, fun W hW => ⟨rfl, rfl⟩, hK _ ?_⟩
              clear hK K
              refine @wpQuiet_step _ _ _ _ _ _ _ (fun K hK => ?_)
              rw [if_pos (by kernel_rfl)]
              go_simp
              first | refine hK _ ?_ | refine ⟨_, fun W hW => rfl, hK _ ?_⟩ | refine ⟨_, fun W hW => ⟨rfl, rfl⟩, hK _ ?_⟩
              clear hK K
              refine @wpQuiet_step _ _ _ _ _ _ _ (fun K hK => ?_)
              rw [if_pos (by kernel_rfl)]
              go_simp
              first | refine hK _ ?_ | refine ⟨_, fun W hW => rfl, hK _ ?_⟩ | refine ⟨_, fun W hW => ⟨rfl, rfl⟩, hK _ ?_⟩
              clear hK K
              refine @quiet_midG _ _ _ _ _ _ _ (by kernel_rfl) 33 _ rfl b1 (o1 + k * 37 + 5) rfl (keyC p.key) _ (fun W hW => range_stays HK1.out hW (by simp)) Tryz.underlying33 rfl (by rw [keyC_len]; exact infoK_size) ?_
              try simp only [Act.put, List.setIfInBounds_toArray, List.set_cons_zero, List.set_cons_succ]
              refine @wpQuiet_step _ _ _ _ _ _ _ (fun K hK => ?_)
              rw [if_pos (by kernel_rfl)]
              go_simp
              first | refine hK _ ?_ | refine ⟨_, fun W hW => rfl, hK _ ?_⟩ | refine ⟨_, fun W hW => ⟨rfl, rfl⟩, hK _ ?_⟩
              clear hK K
              refine @wpQuiet_step _ _ _ _ _ _ _ (fun K hK => ?_)
              rw [if_pos (by kernel_rfl)]
              go_simp
              first | refine hK _ ?_ | refine ⟨_, fun W hW => rfl, hK _ ?_⟩ | refine ⟨_, fun W hW => ⟨rfl, rfl⟩, hK _ ?_⟩
              clear hK K
              refine @wpQuiet_step _ _ _ _ _ _ _ (fun K hK => ?_)
              rw [if_pos (by kernel_rfl)]
              go_simp
              first | refine hK _ ?_ | refine ⟨_, fun W hW => rfl, hK _ ?_⟩ | refine ⟨_, fun W hW => ⟨rfl, rfl⟩, hK _ ?_⟩
              clear hK K
              refine @wpQuiet_step _ _ _ _ _ _ _ (fun K hK => ?_)
              rw [if_pos (by kernel_rfl)]
              go_simp
              first | refine hK _ ?_ | refine ⟨_, fun W hW => rfl, hK _ ?_⟩ | refine ⟨_, fun W hW => ⟨rfl, rfl⟩, hK _ ?_⟩
              clear hK K
              refine @quiet_midG _ _ _ _ _ _ _ (by kernel_rfl) 33 _ rfl b2 (o2 + k * 37 + 5) rfl (keyC q.key) _ (fun W hW => range_stays HK2.out hW (by simp)) Tryz.underlying33 rfl (by rw [keyC_len]; exact infoK_size) ?_
              try simp only [Act.put, List.setIfInBounds_toArray, List.set_cons_zero, List.set_cons_succ]
              refine @wpQuiet_step _ _ _ _ _ _ _ (fun K hK => ?_)
              rw [if_pos (by kernel_rfl)]
              refine ⟨.bool true, fun W hW => ?_, hK _ ?_⟩
              · have h := HEQ.out W
                have hg := run_eqGuard_agg (P := Tryz.prog) (w := W) .neq 33
                unfold Oper.quietAt
                simp [execOp, Act.eval, h, eqGuard, Result.andThen, Oper.quietUpon]
              clear hK K
              try simp only [Act.put, List.setIfInBounds_toArray, List.set_cons_zero, List.set_cons_succ]
              refine @wpQuiet_step _ _ _ _ _ _ _ (fun K hK => ?_)
              go_simp
              first | refine hK _ ?_ | refine ⟨_, fun W hW => rfl, hK _ ?_⟩ | refine ⟨_, fun W hW => ⟨rfl, rfl⟩, hK _ ?_⟩
              clear hK K
              refine wpQuiet_nil ?_
              intro W hW
              have HGE := Lib.hid (World.grownBy.trans HG.out hW)
              clear hW hC0 hn1 hn2 hc1
              have HF := Lib.hid (allB_no pinsB L M k p q HX.out HY.out HE.out)
              go_wp2
              go_ret
              exact ⟨by rw [HF.out]; rfl, HGE.out⟩
          · have HE : Hid (pinsB p q = false) := Lib.hid (by rw [HS.out, decide_eq_false ht]; simp)
            rw [decide_eq_false ht] at hc1
            skip
            clear ht HS HEQ
            have hC0 : wr.grownBy { wr with drawn := wr.drawn + 1 } none := ⟨rfl, rfl, rfl, Nat.le_refl _, fun _ _ _ => rfl⟩
            go_wp2_with fail
            refine wp_region_quiet (C := fun w' => wr.grownBy w' none) (by kernel_rfl) (by kernel_rfl) hC0 ?_
            refine @wpQuiet_step _ _ _ _ _ _ _ (fun K hK => ?_)
            go_simp
            first | refine hK _ ?_ | refine ⟨_, fun W hW => rfl, hK _ ?_⟩ | refine ⟨_, fun W hW => ⟨rfl, rfl⟩, hK _ ?_⟩
            clear hK K
            refine @wpQuiet_step _ _ _ _ _ _ _ (fun K hK => ?_)
            go_simp
            first | refine hK _ ?_ | refine ⟨_, fun W hW => rfl, hK _ ?_⟩ | refine ⟨_, fun W hW => ⟨rfl, rfl⟩, hK _ ?_⟩
            clear hK K
            refine @wpQuiet_step _ _ _ _ _ _ _ (fun K hK => ?_)
            go_simp
            first | refine hK _ ?_ | refine ⟨_, fun W hW => rfl, hK _ ?_⟩ | refine ⟨_, fun W hW => ⟨rfl, rfl⟩, hK _ ?_⟩
            clear hK K
            refine @wpQuiet_step _ _ _ _ _ _ _ (fun K hK => ?_)
            go_simp
            first | refine hK _ ?_ | refine ⟨_, fun W hW => rfl, hK _ ?_⟩ | refine ⟨_, fun W hW => ⟨rfl, rfl⟩, hK _ ?_⟩
            clear hK K
            refine @wpQuiet_step _ _ _ _ _ _ _ (fun K hK => ?_)
            go_simp
            refine ⟨.string x, fun W hW => ?_, hK _ ?_⟩
            · rw [hW.cell hn1 (by simp)]; exact ⟨rfl, rfl⟩
            clear hK K
            refine @wpQuiet_step _ _ _ _ _ _ _ (fun K hK => ?_)
            go_simp
            first | refine hK _ ?_ | refine ⟨_, fun W hW => rfl, hK _ ?_⟩ | refine ⟨_, fun W hW => ⟨rfl, rfl⟩, hK _ ?_⟩
            clear hK K
            refine @wpQuiet_step _ _ _ _ _ _ _ (fun K hK => ?_)
            go_simp
            first | refine hK _ ?_ | refine ⟨_, fun W hW => rfl, hK _ ?_⟩ | refine ⟨_, fun W hW => ⟨rfl, rfl⟩, hK _ ?_⟩
            clear hK K
            refine @wpQuiet_step _ _ _ _ _ _ _ (fun K hK => ?_)
            go_simp
            first | refine hK _ ?_ | refine ⟨_, fun W hW => rfl, hK _ ?_⟩ | refine ⟨_, fun W hW => ⟨rfl, rfl⟩, hK _ ?_⟩
            clear hK K
            refine @wpQuiet_step _ _ _ _ _ _ _ (fun K hK => ?_)
            go_simp
            first | refine hK _ ?_ | refine ⟨_, fun W hW => rfl, hK _ ?_⟩ | refine ⟨_, fun W hW => ⟨rfl, rfl⟩, hK _ ?_⟩
            clear hK K
            refine @wpQuiet_step _ _ _ _ _ _ _ (fun K hK => ?_)
            go_simp
            refine ⟨.string x, fun W hW => ?_, hK _ ?_⟩
            · rw [hW.cell hn2 (by simp)]; exact ⟨rfl, rfl⟩
            clear hK K
            refine @wpQuiet_step _ _ _ _ _ _ _ (fun K hK => ?_)
            go_simp
            first | refine hK _ ?_ | refine ⟨_, fun W hW => rfl, hK _ ?_⟩ | refine ⟨_, fun W hW => ⟨rfl, rfl⟩, hK _ ?_⟩
            clear hK K
            refine @wpQuiet_step _ _ _ _ _ _ _ (fun K hK => ?_)
            go_simp
            first | refine hK _ ?_ | refine ⟨_, fun W hW => rfl, hK _ ?_⟩ | refine ⟨_, fun W hW => ⟨rfl, rfl⟩, hK _ ?_⟩
            clear hK K
            refine @wpQuiet_step _ _ _ _ _ _ _ (fun K hK => ?_)
            rw [if_pos (by kernel_rfl)]
            go_simp
            first | refine hK _ ?_ | refine ⟨_, fun W hW => rfl, hK _ ?_⟩ | refine ⟨_, fun W hW => ⟨rfl, rfl⟩, hK _ ?_⟩
            clear hK K
            refine @wpQuiet_step _ _ _ _ _ _ _ (fun K hK => ?_)
            rw [if_pos (by kernel_rfl)]
            go_simp
            first | refine hK _ ?_ | refine ⟨_, fun W hW => rfl, hK _ ?_⟩ | refine ⟨_, fun W hW => ⟨rfl, rfl⟩, hK _ ?_⟩
            clear hK K
            refine @wpQuiet_step _ _ _ _ _ _ _ (fun K hK => ?_)
            rw [if_pos (by kernel_rfl)]
            go_simp
            first | refine hK _ ?_ | refine ⟨_, fun W hW => rfl, hK _ ?_⟩ | refine ⟨_, fun W hW => ⟨rfl, rfl⟩, hK _ ?_⟩
            clear hK K
            refine @wpQuiet_step _ _ _ _ _ _ _ (fun K hK => ?_)
            rw [if_pos (by kernel_rfl)]
            go_simp
            first | refine hK _ ?_ | refine ⟨_, fun W hW => rfl, hK _ ?_⟩ | refine ⟨_, fun W hW => ⟨rfl, rfl⟩, hK _ ?_⟩
            clear hK K
            refine @quiet_midG _ _ _ _ _ _ _ (by kernel_rfl) 28 _ rfl b1 (o1 + k * 37 + 1) rfl (verC p.v p.sl) _ (fun W hW => range_stays HV1.out hW (by simp)) Tryz.underlying28 rfl infoV_size ?_
            try simp only [Act.put, List.setIfInBounds_toArray, List.set_cons_zero, List.set_cons_succ]
            refine @wpQuiet_step _ _ _ _ _ _ _ (fun K hK => ?_)
            rw [if_pos (by kernel_rfl)]
            go_simp
            first | refine hK _ ?_ | refine ⟨_, fun W hW => rfl, hK _ ?_⟩ | refine ⟨_, fun W hW => ⟨rfl, rfl⟩, hK _ ?_⟩
            clear hK K
            refine @wpQuiet_step _ _ _ _ _ _ _ (fun K hK => ?_)
            rw [if_pos (by kernel_rfl)]
            go_simp
            first | refine hK _ ?_ | refine ⟨_, fun W hW => rfl, hK _ ?_⟩ | refine ⟨_, fun W hW => ⟨rfl, rfl⟩, hK _ ?_⟩
            clear hK K
            refine @wpQuiet_step _ _ _ _ _ _ _ (fun K hK => ?_)
            rw [if_pos (by kernel_rfl)]
            go_simp
            first | refine hK _ ?_ | refine ⟨_, fun W hW => rfl, hK _ ?_⟩ | refine ⟨_, fun W hW => ⟨rfl, rfl⟩, hK _ ?_⟩
            clear hK K
            refine @wpQuiet_step _ _ _ _ _ _ _ (fun K hK => ?_)
            rw [if_pos (by kernel_rfl)]
            go_simp
            first | refine hK _ ?_ | refine ⟨_, fun W hW => rfl, hK _ ?_⟩ | refine ⟨_, fun W hW => ⟨rfl, rfl⟩, hK _ ?_⟩
            clear hK K
            refine @quiet_midG _ _ _ _ _ _ _ (by kernel_rfl) 28 _ rfl b2 (o2 + k * 37 + 1) rfl (verC q.v q.sl) _ (fun W hW => range_stays HV2.out hW (by simp)) Tryz.underlying28 rfl infoV_size ?_
            try simp only [Act.put, List.setIfInBounds_toArray, List.set_cons_zero, List.set_cons_succ]
            refine @wpQuiet_step _ _ _ _ _ _ _ (fun K hK => ?_)
            rw [if_pos (by kernel_rfl)]
            go_simp
            refine ⟨.bool false, fun W hW => hc1 W hW, hK _ ?_⟩
            clear hK K
            refine @wpQuiet_step _ _ _ _ _ _ _ (fun K hK => ?_)
            rw [if_pos (by kernel_rfl)]
            go_simp
            first | refine hK _ ?_ | refine ⟨_, fun W hW => rfl, hK _ ?_⟩ | refine ⟨_, fun W hW => ⟨rfl, rfl⟩, hK _ ?_⟩
            clear hK K
            refine @wpQuiet_step _ _ _ _ _ _ _ (fun K hK => ?_)
            go_simp
            first | refine hK _ ?_ | refine ⟨_, fun W hW => rfl, hK _ ?_⟩ | refine ⟨_, fun W hW => ⟨rfl, rfl⟩, hK _ ?_⟩
            clear hK K
            refine @wpQuiet_step _ _ _ _ _ _ _ (fun K hK => ?_)
            go_simp
            first | refine hK _ ?_ | refine ⟨_, fun W hW => rfl, hK _ ?_⟩ | refine ⟨_, fun W hW => ⟨rfl, rfl⟩, hK _ ?_⟩
            clear hK K
            refine @quiet_skip _ _ _ _ _ _ _ (by kernel_rfl) ?_
            try simp only [Act.put, List.setIfInBounds_toArray, List.set_cons_zero, List.set_cons_succ]
            refine @quiet_skip _ _ _ _ _ _ _ (by kernel_rfl) ?_
            try simp only [Act.put, List.setIfInBounds_toArray, List.set_cons_zero, List.set_cons_succ]
            refine @quiet_skip _ _ _ _ _ _ _ (by kernel_rfl) ?_
            try simp only [Act.put, List.setIfInBounds_toArray, List.set_cons_zero, List.set_cons_succ]
            refine @quiet_skip _ _ _ _ _ _ _ (by kernel_rfl) ?_
            try simp only [Act.put, List.setIfInBounds_toArray, List.set_cons_zero, List.set_cons_succ]
            refine @quiet_skip _ _ _ _ _ _ _ (by kernel_rfl) ?_
            try simp only [Act.put, List.setIfInBounds_toArray, List.set_cons_zero, List.set_cons_succ]
            refine @quiet_skip _ _ _ _ _ _ _ (by kernel_rfl) ?_
            try simp only [Act.put, List.setIfInBounds_toArray, List.set_cons_zero, List.set_cons_succ]
            refine @quiet_skip _ _ _ _ _ _ _ (by kernel_rfl) ?_
            try simp only [Act.put, List.setIfInBounds_toArray, List.set_cons_zero, List.set_cons_succ]
            refine @quiet_skip _ _ _ _ _ _ _ (by kernel_rfl) ?_
            try simp only [Act.put, List.setIfInBounds_toArray, List.set_cons_zero, List.set_cons_succ]
            refine @quiet_skip _ _ _ _ _ _ _ (by kernel_rfl) ?_
            try simp only [Act.put, List.setIfInBounds_toArray, List.set_cons_zero, List.set_cons_succ]
            refine @quiet_skip _ _ _ _ _ _ _ (by kernel_rfl) ?_
            try simp only [Act.put, List.setIfInBounds_toArray, List.set_cons_zero, List.set_cons_succ]
            refine @quiet_skip _ _ _ _ _ _ _ (by kernel_rfl) ?_
            try simp only [Act.put, List.setIfInBounds_toArray, List.set_cons_zero, List.set_cons_succ]
            refine @wpQuiet_step _ _ _ _ _ _ _ (fun K hK => ?_)
            go_simp
            first | refine hK _ ?_ | refine ⟨_, fun W hW => rfl, hK _ ?_⟩ | refine ⟨_, fun W hW => ⟨rfl, rfl⟩, hK _ ?_⟩
            clear hK K
            refine wpQuiet_nil ?_
            intro W hW
            have HGE := Lib.hid (World.grownBy.trans HG.out hW)
            clear hW hC0 hn1 hn2 hc1
            have HF := Lib.hid (allB_no pinsB L M k p q HX.out HY.out HE.out)
            go_wp2
            go_ret
            exact ⟨by rw [HF.out]; rfl, HGE.out⟩
        · have HE : Hid (pinsB p q = false) := Lib.hid (by rw [HS.out, decide_eq_false hxy]; simp)
          have e1 := nb_lists x y hxy
          have e2 := ne_lists x y hxy
          clear hxy HS HEQ
          have hC0 : wr.grownBy { wr with drawn := wr.drawn + 1 } none := ⟨rfl, rfl, rfl, Nat.le_refl _, fun _ _ _ => rfl⟩
          go_wp2_with fail
          refine wp_region_quiet (C := fun w' => wr.grownBy w' none) (by kernel_rfl) (by kernel_rfl) hC0 ?_
          refine @wpQuiet_step _ _ _ _ _ _ _ (fun K hK => ?_)
          go_simp
          first | refine hK _ ?_ | refine ⟨_, fun W hW => rfl, hK _ ?_⟩ | refine ⟨_, fun W hW => ⟨rfl, rfl⟩, hK _ ?_⟩
          clear hK K
          refine @wpQuiet_step _ _ _ _ _ _ _ (fun K hK => ?_)
          go_simp
          first | refine hK _ ?_ | refine ⟨_, fun W hW => rfl, hK _ ?_⟩ | refine ⟨_, fun W hW => ⟨rfl, rfl⟩, hK _ ?_⟩
          clear hK K
          refine @wpQuiet_step _ _ _ _ _ _ _ (fun K hK => ?_)
          go_simp
          first | refine hK _ ?_ | refine ⟨_, fun W hW => rfl, hK _ ?_⟩ | refine ⟨_, fun W hW => ⟨rfl, rfl⟩, hK _ ?_⟩
          clear hK K
          refine @wpQuiet_step _ _ _ _ _ _ _ (fun K hK => ?_)
          go_simp
          first | refine hK _ ?_ | refine ⟨_, fun W hW => rfl, hK _ ?_⟩ | refine ⟨_, fun W hW => ⟨rfl, rfl⟩, hK _ ?_⟩
          clear hK K
          refine @wpQuiet_step _ _ _ _ _ _ _ (fun K hK => ?_)
          go_simp
          refine ⟨.string x, fun W hW => ?_, hK _ ?_⟩
          · rw [hW.cell hn1 (by simp)]; exact ⟨rfl, rfl⟩
          clear hK K
          refine @wpQuiet_step _ _ _ _ _ _ _ (fun K hK => ?_)
          go_simp
          first | refine hK _ ?_ | refine ⟨_, fun W hW => rfl, hK _ ?_⟩ | refine ⟨_, fun W hW => ⟨rfl, rfl⟩, hK _ ?_⟩
          clear hK K
          refine @wpQuiet_step _ _ _ _ _ _ _ (fun K hK => ?_)
          go_simp
          first | refine hK _ ?_ | refine ⟨_, fun W hW => rfl, hK _ ?_⟩ | refine ⟨_, fun W hW => ⟨rfl, rfl⟩, hK _ ?_⟩
          clear hK K
          refine @wpQuiet_step _ _ _ _ _ _ _ (fun K hK => ?_)
          go_simp
          first | refine hK _ ?_ | refine ⟨_, fun W hW => rfl, hK _ ?_⟩ | refine ⟨_, fun W hW => ⟨rfl, rfl⟩, hK _ ?_⟩
          clear hK K
          refine @wpQuiet_step _ _ _ _ _ _ _ (fun K hK => ?_)
          go_simp
          first | refine hK _ ?_ | refine ⟨_, fun W hW => rfl, hK _ ?_⟩ | refine ⟨_, fun W hW => ⟨rfl, rfl⟩, hK _ ?_⟩
          clear hK K
          refine @wpQuiet_step _ _ _ _ _ _ _ (fun K hK => ?_)
          go_simp
          refine ⟨.string y, fun W hW => ?_, hK _ ?_⟩
          · rw [hW.cell hn2 (by simp)]; exact ⟨rfl, rfl⟩
          clear hK K
          refine @wpQuiet_step _ _ _ _ _ _ _ (fun K hK => ?_)
          go_simp
          first | refine hK _ ?_ | refine ⟨_, fun W hW => rfl, hK _ ?_⟩ | refine ⟨_, fun W hW => ⟨rfl, rfl⟩, hK _ ?_⟩
          clear hK K
          clear e1 e2
          refine @wpQuiet_step _ _ _ _ _ _ _ (fun K hK => ?_)
          go_simp
          first | refine hK _ ?_ | refine ⟨_, fun W hW => rfl, hK _ ?_⟩ | refine ⟨_, fun W hW => ⟨rfl, rfl⟩, hK _ ?_⟩
          clear hK K
          refine @quiet_skip _ _ _ _ _ _ _ (by kernel_rfl) ?_
          try simp only [Act.put, List.setIfInBounds_toArray, List.set_cons_zero, List.set_cons_succ]
          refine @quiet_skip _ _ _ _ _ _ _ (by kernel_rfl) ?_
          try simp only [Act.put, List.setIfInBounds_toArray, List.set_cons_zero, List.set_cons_succ]
          refine @quiet_skip _ _ _ _ _ _ _ (by kernel_rfl) ?_
          try simp only [Act.put, List.setIfInBounds_toArray, List.set_cons_zero, List.set_cons_succ]
          refine @quiet_skip _ _ _ _ _ _ _ (by kernel_rfl) ?_
          try simp only [Act.put, List.setIfInBounds_toArray, List.set_cons_zero, List.set_cons_succ]
          refine @quiet_skip _ _ _ _ _ _ _ (by kernel_rfl) ?_
          try simp only [Act.put, List.setIfInBounds_toArray, List.set_cons_zero, List.set_cons_succ]
          refine @quiet_skip _ _ _ _ _ _ _ (by kernel_rfl) ?_
          try simp only [Act.put, List.setIfInBounds_toArray, List.set_cons_zero, List.set_cons_succ]
          refine @quiet_skip _ _ _ _ _ _ _ (by kernel_rfl) ?_
          try simp only [Act.put, List.setIfInBounds_toArray, List.set_cons_zero, List.set_cons_succ]
          refine @quiet_skip _ _ _ _ _ _ _ (by kernel_rfl) ?_
          try simp only [Act.put, List.setIfInBounds_toArray, List.set_cons_zero, List.set_cons_succ]
          refine @quiet_skip _ _ _ _ _ _ _ (by kernel_rfl) ?_
          try simp only [Act.put, List.setIfInBounds_toArray, List.set_cons_zero, List.set_cons_succ]
          refine @quiet_skip _ _ _ _ _ _ _ (by kernel_rfl) ?_
          try simp only [Act.put, List.setIfInBounds_toArray, List.set_cons_zero, List.set_cons_succ]
          refine @quiet_skip _ _ _ _ _ _ _ (by kernel_rfl) ?_
          try simp only [Act.put, List.setIfInBounds_toArray, List.set_cons_zero, List.set_cons_succ]
          refine @quiet_skip _ _ _ _ _ _ _ (by kernel_rfl) ?_
          try simp only [Act.put, List.setIfInBounds_toArray, List.set_cons_zero, List.set_cons_succ]
          refine @wpQuiet_step _ _ _ _ _ _ _ (fun K hK => ?_)
          go_simp
          first | refine hK _ ?_ | refine ⟨_, fun W hW => rfl, hK _ ?_⟩ | refine ⟨_, fun W hW => ⟨rfl, rfl⟩, hK _ ?_⟩
          clear hK K
          refine @wpQuiet_step _ _ _ _ _ _ _ (fun K hK => ?_)
          go_simp
          first | refine hK _ ?_ | refine ⟨_, fun W hW => rfl, hK _ ?_⟩ | refine ⟨_, fun W hW => ⟨rfl, rfl⟩, hK _ ?_⟩
          clear hK K
          refine @quiet_skip _ _ _ _ _ _ _ (by kernel_rfl) ?_
          try simp only [Act.put, List.setIfInBounds_toArray, List.set_cons_zero, List.set_cons_succ]
          refine @quiet_skip _ _ _ _ _ _ _ (by kernel_rfl) ?_
          try simp only [Act.put, List.setIfInBounds_toArray, List.set_cons_zero, List.set_cons_succ]
          refine @quiet_skip _ _ _ _ _ _ _ (by kernel_rfl) ?_
          try simp only [Act.put, List.setIfInBounds_toArray, List.set_cons_zero, List.set_cons_succ]
          refine @quiet_skip _ _ _ _ _ _ _ (by kernel_rfl) ?_
          try simp only [Act.put, List.setIfInBounds_toArray, List.set_cons_zero, List.set_cons_succ]
          refine @quiet_skip _ _ _ _ _ _ _ (by kernel_rfl) ?_
          try simp only [Act.put, List.setIfInBounds_toArray, List.set_cons_zero, List.set_cons_succ]
          refine @quiet_skip _ _ _ _ _ _ _ (by kernel_rfl) ?_
          try simp only [Act.put, List.setIfInBounds_toArray, List.set_cons_zero, List.set_cons_succ]
          refine @quiet_skip _ _ _ _ _ _ _ (by kernel_rfl) ?_
          try simp only [Act.put, List.setIfInBounds_toArray, List.set_cons_zero, List.set_cons_succ]
          refine @quiet_skip _ _ _ _ _ _ _ (by kernel_rfl) ?_
          try simp only [Act.put, List.setIfInBounds_toArray, List.set_cons_zero, List.set_cons_succ]
          refine @quiet_skip _ _ _ _ _ _ _ (by kernel_rfl) ?_
          try simp only [Act.put, List.setIfInBounds_toArray, List.set_cons_zero, List.set_cons_succ]
          refine @quiet_skip _ _ _ _ _ _ _ (by kernel_rfl) ?_
          try simp only [Act.put, List.setIfInBounds_toArray, List.set_cons_zero, List.set_cons_succ]
          refine @quiet_skip _ _ _ _ _ _ _ (by kernel_rfl) ?_
          try simp only [Act.put, List.setIfInBounds_toArray, List.set_cons_zero, List.set_cons_succ]
          refine @wpQuiet_step _ _ _ _ _ _ _ (fun K hK => ?_)
          go_simp
          first | refine hK _ ?_ | refine ⟨_, fun W hW => rfl, hK _ ?_⟩ | refine ⟨_, fun W hW => ⟨rfl, rfl⟩, hK _ ?_⟩
          clear hK K
          refine wpQuiet_nil ?_
          intro W hW
          have HGE := Lib.hid (World.grownBy.trans HG.out hW)
          clear hW hC0 hn1 hn2 hc1
          have HF := Lib.hid (allB_no pinsB L M k p q HX.out HY.out HE.out)
          go_wp2
          go_ret
          exact ⟨by rw [HF.out]; rfl, HGE.out⟩
      · obtain rfl : k = n1 := by omega
        have HE := Lib.hid (HU.out.all HN1.out HN2.out)
        go_wp2
        go_ret
        exact ⟨by rw [HE.out]; rfl, HG.out⟩
  · have e : Hid (allB pinsB L M = false) := Lib.hid (allB_len _ _ _ (by omega))
    have hne1 : ((n1 : Int) == (n2 : Int)) = false := by simp; omega
    have hne2 : ¬ (n1 : Int) = (n2 : Int) := by omega
    have hne3 : (n1 == n2) = false := by simp; omega
    clear hn1 hn2 hP1 hP2 hA1 hA2
    go_enter Tryz.func10, Tryz.ntmps10
    go_wp2
    go_ret
    exact ⟨by rw [e.out]; rfl, World.grownBy.refl _ _⟩
end Go.Proofs.YthdopcdllggdaaaGreatDoor
namespace Go.Proofs.YthdopcdllggdaaaGreatDoor
open Go.RowKit

/-- What of a world the program reads here. -/
def MaxAt (m : Int) (w : World) : Prop := w.cell? ⟨0, 0, none⟩ = some (.int .i64 m)
theorem MaxAt.stays {m : Int} {w w' : World} (h : MaxAt m w) (hg : w.grownBy w' none) : MaxAt m w' := hg.cell h (by simp)
theorem MaxAt.pos {m : Int} {w : World} (h : MaxAt m w) : 0 < w.heap.size := Nat.zero_lt_of_lt (World.block_lt_of_cell? _ _ h)
theorem PartS.shorter {w : World} {B n cap : Nat} {a : Option Addr} {M : List ByteArray} (h : PartS w B (.slice a (n + 1) cap) M) (hM : M.length = n + 1) : PartS w B (.slice a n cap) M.dropLast := by
  obtain ⟨a', cap', b, o, h1, h2, h3, h4, h5, h6⟩ := h
  have e := Value.slice.inj h1
  refine ⟨a', cap', b, o, by rw [e.1, e.2.2, List.length_dropLast, hM]; rfl, by rw [List.length_dropLast]; omega, h3, h4, fun _ => h5 (by omega), fun j x hj => h6 j x ?_⟩
  have hjl := (List.getElem?_eq_some_iff.1 hj).1
  rw [List.length_dropLast] at hjl
  rw [List.getElem?_dropLast, if_pos (by omega)] at hj
  exact hj
def linesS (s : ByteArray) : List ByteArray := if (pieces 10 s).getLast? = some ⟨#[]⟩ then (pieces 10 s).dropLast else pieces 10 s
theorem linesS_len (s : ByteArray) : (linesS s).length ≤ s.size + 1 := by
  have := pieces_le 10 s
  unfold linesS
  split
  · rw [List.length_dropLast]; omega
  · exact this
theorem linesS_mem (s : ByteArray) (x : ByteArray) (h : x ∈ linesS s) : x.size ≤ s.size := by
  unfold linesS at h
  split at h
  · exact pieces_size 10 s x ((List.dropLast_sublist _).subset h)
  · exact pieces_size 10 s x h
def LinesRet (w : World) (L : List ByteArray) (e : Ending) (w' : World) : Prop := ∃ ad n cp, e = .returned (.slice ad n cp) ∧ L.length = n ∧ PartS w' w'.heap.size (.slice ad n cp) L ∧ w.grownBy w' none
theorem split_part (m : Int) (s : ByteArray) (hs : s.size ≤ 2000000) (w : World) (hm : MaxAt m w) :
    Calls Tryz.prog 64 #[.string s, .string ⟨#[10]⟩] w (LinesRet w (pieces 10 s)) := by
  refine (Tryz.strings_Split s ⟨#[10]⟩ m w (by omega) hm (by decide)).mono fun e w' h => ?_
  obtain ⟨h1, h2⟩ := h
  refine ⟨_, _, _, h1, pieces_len 10 s, ?_, by rw [h2]; exact World.grownBy_alloc _ _ _⟩
  rw [h2, alloc_size]
  exact part_block w (pieces 10 s) 9 _ (pieces_len 10 s)
theorem refSplit_part (s : ByteArray) (hs : s.size ≤ 2000000) (w : World) (hp : 0 < w.heap.size) :
    Calls Tryz.prog 16 #[.string s, .int .u8 10] w (LinesRet w (pieces 10 s)) := by
  refine (refSplit_any s 10 hs w).mono fun e w' h => ?_
  obtain ⟨v', rfl, h2, h3⟩ := h
  have hg := h3.size
  have hP := h2.part (by omega)
  obtain ⟨a, cap, e, _, _⟩ := h2.form
  rw [e] at hP
  exact ⟨a, _, cap, by rw [e], rfl, hP, h3⟩
set_option maxRecDepth 1000000
set_option maxHeartbeats 1000000 in
theorem of_any (m : Int) (s : ByteArray) (hs : s.size ≤ 2000000) (w : World) (hm : MaxAt m w) : Calls Tryz.prog 56 #[.string s] w (LinesRet w (linesS s)) := by
  have HM := Lib.hid hm
  have HP0 := Lib.hid hm.pos
  clear hm
  go_enter Tryz.func56, Tryz.ntmps56
  go_wp2_with fail
  (with_reducible refine (split_part m s hs _ HM.out).mono ?_)
  rintro ee w1 h
  obtain ⟨ad, n, cp, rfl, hn, hP, hg⟩ := h
  dsimp only
  have hpp := pieces_le 10 s
  have hne := pieces_ne 10 s
  obtain ⟨P, hPP⟩ : ∃ P, pieces 10 s = P := ⟨_, rfl⟩
  have HE : Hid (linesS s = if P.getLast? = some ⟨#[]⟩ then P.dropLast else P) := by show _ = _; unfold linesS; rw [hPP]
  rw [hPP] at hn hP hpp hne
  clear hPP
  obtain ⟨k, rfl⟩ : ∃ k, n = k + 1 := by
    cases P with
    | nil => exact absurd rfl hne
    | cons a b => exact ⟨b.length, by rw [← hn]; rfl⟩
  obtain ⟨x, hx⟩ : ∃ x, P[k]? = some x := ⟨_, List.getElem?_eq_getElem (by omega)⟩
  have hlast : P.getLast? = some x := by rw [List.getLast?_eq_getElem?, hn]; exact hx
  obtain ⟨b, o, rfl, _, q1⟩ := hP.at k x hx
  obtain ⟨_, _, e3, hcap, _⟩ := hP.form
  have ec := (Value.slice.inj e3).2.2
  have hk1 : k + 1 ≤ cp := by omega
  have hk2 : k ≤ 8000000 := by omega
  have HN := Lib.hid hn
  have HPA := Lib.hid hP
  have HG := Lib.hid hg
  have HL := Lib.hid hlast
  clear hn hP hg hlast hx hpp hne hcap ec e3
  by_cases h0 : x = ⟨#[]⟩
  · have HE2 : Hid (linesS s = P.dropLast) := by show _ = _; rw [HE.out, HL.out, if_pos (by rw [h0])]
    subst h0
    go_wp2
    go_ret
    refine ⟨_, _, _, rfl, ?_, ?_, HG.out⟩
    · rw [HE2.out, List.length_dropLast, HN.out]; rfl
    · rw [HE2.out]; exact HPA.out.shorter HN.out
  · have HE2 : Hid (linesS s = P) := by show _ = _; rw [HE.out, HL.out, if_neg (by simpa using h0)]
    have f1 := empty_no x h0
    have f2 := ne_list x [] h0
    clear h0
    go_wp2
    go_ret
    refine ⟨_, _, _, rfl, ?_, ?_, HG.out⟩
    · rw [HE2.out, HN.out]
    · rw [HE2.out]; exact HPA.out
set_option maxRecDepth 1000000
set_option maxHeartbeats 1000000 in
theorem refLines_any (m : Int) (s : ByteArray) (hs : s.size ≤ 2000000) (w : World) (hm : MaxAt m w) : Calls Tryz.prog 30 #[.string s] w (LinesRet w (linesS s)) := by
  have HM := Lib.hid hm
  have HP0 := Lib.hid hm.pos
  clear hm
  go_enter Tryz.func30, Tryz.ntmps30
  go_wp2_with fail
  (with_reducible refine (refSplit_part s hs _ HP0.out).mono ?_)
  rintro ee w1 h
  obtain ⟨ad, n, cp, rfl, hn, hP, hg⟩ := h
  dsimp only
  have hpp := pieces_le 10 s
  have hne := pieces_ne 10 s
  obtain ⟨P, hPP⟩ : ∃ P, pieces 10 s = P := ⟨_, rfl⟩
  have HE : Hid (linesS s = if P.getLast? = some ⟨#[]⟩ then P.dropLast else P) := by show _ = _; unfold linesS; rw [hPP]
  rw [hPP] at hn hP hpp hne
  clear hPP
  obtain ⟨k, rfl⟩ : ∃ k, n = k + 1 := by
    cases P with
    | nil => exact absurd rfl hne
    | cons a b => exact ⟨b.length, by rw [← hn]; rfl⟩
  obtain ⟨x, hx⟩ : ∃ x, P[k]? = some x := ⟨_, List.getElem?_eq_getElem (by omega)⟩
  have hlast : P.getLast? = some x := by rw [List.getLast?_eq_getElem?, hn]; exact hx
  obtain ⟨b, o, rfl, _, q1⟩ := hP.at k x hx
  obtain ⟨_, _, e3, hcap, _⟩ := hP.form
  have ec := (Value.slice.inj e3).2.2
  have hk1 : k + 1 ≤ cp := by omega
  have hk2 : k ≤ 8000000 := by omega
  have HN := Lib.hid hn
  have HPA := Lib.hid hP
  have HG := Lib.hid hg
  have HL := Lib.hid hlast
  clear hn hP hg hlast hx hpp hne hcap ec e3
  by_cases h0 : x = ⟨#[]⟩
  · have HE2 : Hid (linesS s = P.dropLast) := by show _ = _; rw [HE.out, HL.out, if_pos (by rw [h0])]
    subst h0
    go_wp2
    go_ret
    refine ⟨_, _, _, rfl, ?_, ?_, HG.out⟩
    · rw [HE2.out, List.length_dropLast, HN.out]; rfl
    · rw [HE2.out]; exact HPA.out.shorter HN.out
  · have HE2 : Hid (linesS s = P) := by show _ = _; rw [HE.out, HL.out, if_neg (by simpa using h0)]
    have f1 := empty_no x h0
    have f2 := ne_list x [] h0
    clear h0
    go_wp2
    go_ret
    refine ⟨_, _, _, rfl, ?_, ?_, HG.out⟩
    · rw [HE2.out, HN.out]
    · rw [HE2.out]; exact HPA.out
end Go.Proofs.YthdopcdllggdaaaGreatDoor
namespace Go.Proofs.YthdopcdllggdaaaGreatDoor
open Go.RowKit

def VerNew (w : World) (R : Vn × Int) (e : Ending) (w' : World) : Prop :=
  ∃ sl, e = .returned (.tuple #[verV R.1 sl, .int .i64 R.2]) ∧ PartS w' w'.heap.size sl R.1.pre ∧ w.grownBy w' none ∧ ∀ q, sl.ownBlock = some q → w.heap.size ≤ q
set_option maxRecDepth 1000000
set_option maxHeartbeats 4000000 in
theorem parse_new (m : Int) (s : ByteArray) (w : World) (hs : s.size ≤ 2000000) (hm : w.cell? ⟨0, 0, none⟩ = some (.int .i64 m)) :
    Calls Tryz.prog 65 #[.string s] w (VerNew w (parseS s)) := by
  obtain ⟨core, marks, marked, hd⟩ : ∃ a b c, dashS s = (a, b, c) := ⟨_, _, _, rfl⟩
  obtain ⟨P, hP⟩ : ∃ P, pieces 46 core = P := ⟨_, rfl⟩
  obtain ⟨N, hN⟩ : ∃ N, P.length = N := ⟨_, rfl⟩
  have hE := Lib.hid (show parseS s = parseP P marks marked by unfold parseS; rw [hd, hP])
  have hcs : core.size ≤ 8000000 := by have := (dash_size s).1; rw [hd] at this; simp only at this; omega
  have hms : marks.size ≤ 2000000 := by have := (dash_size s).2; rw [hd] at this; simp only at this; omega
  have HD := Lib.hid hd
  have HP := Lib.hid hP
  have HN := Lib.hid hN
  have HM := Lib.hid hm
  obtain ⟨R, hR⟩ : ∃ R, w.heap.size = R := ⟨_, rfl⟩
  have HR := Lib.hid hR
  clear hd hP hN hm
  go_enter Tryz.func65, Tryz.ntmps65
  go_wp2_with fail
  have HM1 : Hid ((w.alloc (.cells #[.int .i64 0, .int .i64 0, .int .i64 0, .slice none 0 0] 28)).cell? ⟨0, 0, none⟩ = some (.int .i64 m)) := (World.grownBy_alloc w _ none).cell HM.out (by simp)
  (with_reducible refine (cut_any m s core marks marked _ (by omega) HM1.out HD.out).mono ?_)
  rintro ee w1 ⟨rfl, nn, hw1⟩
  have HG1 : Hid (w.grownBy w1 none) := by rw [hw1]; exact grown_drew nn (World.grownBy_alloc w _ none)
  have HR1 : Hid (w1.heap[R]? = some (.cells #[.int .i64 0, .int .i64 0, .int .i64 0, .slice none 0 0] 28 (0, 0))) := by rw [hw1, ← HR.out]; exact alloc_block w _
  clear hw1 HM1
  dsimp only
  go_wp2_with fail
  (with_reducible refine (split_any core m N P _ hcs (HG1.out.cell HM.out (by simp)) HP.out HN.out).mono ?_)
  rintro ee w2 ⟨rfl, hw2⟩
  have HPp : Hid (PartS w2 w2.heap.size (.slice (some ⟨w1.heap.size, 0, none⟩) N N) P) := by
    have := part_block w1 P 9 N HN.out
    rw [← hw2] at this
    exact this.le (by rw [hw2, alloc_size]; exact Nat.le_refl _)
  have HG2 : Hid (w.grownBy w2 none) := by rw [hw2]; exact grown_alloc _ HG1.out
  have HR2 : Hid (w2.heap[R]? = some (.cells #[.int .i64 0, .int .i64 0, .int .i64 0, .slice none 0 0] 28 (0, 0))) := block_kept HR1.out (by rw [hw2]; exact World.grownBy_alloc _ _ _)
  clear hw2 hR
  obtain ⟨ap, hap⟩ : ∃ a : Option Addr, some ⟨w1.heap.size, 0, none⟩ = a := ⟨_, rfl⟩
  rw [hap] at HPp ⊢
  clear hap HR1
  dsimp only
  by_cases h3 : N = 3
  · subst h3
    have HNB : Hid ((w2.alloc (.cells #[.int .i64 0, .int .i64 0, .int .i64 0] 103)).heap[w2.heap.size]? = some (.cells (numsC P 0 0) 103 (0, 0))) := alloc_block w2 _
    have HR3 := Lib.hid (block_kept HR2.out (World.grownBy_alloc w2 (.cells #[.int .i64 0, .int .i64 0, .int .i64 0] 103) none))
    have HG3 := Lib.hid (grown_alloc (.cells #[.int .i64 0, .int .i64 0, .int .i64 0] 103) HG2.out)
    have HP3 := Lib.hid (HPp.out.stays (World.grownBy_alloc w2 (.cells #[.int .i64 0, .int .i64 0, .int .i64 0] 103) none))
    have HRlt := Lib.hid (block_size HR2.out)
    go_wp2
    obtain ⟨nb, hnb⟩ : ∃ nb, w2.heap.size = nb := ⟨_, rfl⟩
    rw [hnb] at HNB HP3 HRlt ⊢
    have HGN := Lib.hid (show w.heap.size ≤ nb by rw [← hnb]; exact HG2.out.size)
    clear hnb
    go_loopw [9, 10, 28] (fun i p t wr => ∃ k : Nat, k ≤ 3 ∧ t = .int .i64 k ∧ (P.take k).all okNum = true ∧ wr.heap[nb]? = some (.cells (numsC P k 0) 103 (0, 0)) ∧ wr.heap[R]? = some (.cells #[.int .i64 0, .int .i64 0, .int .i64 0, .slice none 0 0] 28 (0, 0)) ∧ PartS wr nb (.slice ap 3 3) P ∧ w.grownBy wr none) (fun _ _ t _ => 3 - (intOf t).toNat)
    case atStart => exact ⟨0, by omega, rfl, rfl, HNB.out, HR3.out, HP3.out, HG3.out⟩
    case round =>
      obtain ⟨k, hk, rfl, ho, hnb, hrr, hpp, hg⟩ := hrel
      have HO := Lib.hid ho
      have HNR := Lib.hid hnb
      have HRX := Lib.hid hrr
      have HPR := Lib.hid hpp
      have HGX := Lib.hid hg
      clear ho hnb hrr hpp hg
      by_cases hlt : k < 3
      · obtain ⟨x, hx⟩ : ∃ x, P[k]? = some x := ⟨_, List.getElem?_eq_getElem (by rw [HN.out]; exact hlt)⟩
        obtain ⟨b, o, e1, hbn, g1⟩ := HPR.out.at k x hx
        subst e1
        have HX := Lib.hid hx
        have HXA := Lib.hid (show strAt P k = x by have := strAt_eq P k (by rw [HN.out]; exact hlt); rw [hx] at this; exact (Option.some.inj this).symm)
        have hxs : x.size ≤ 8000000 := by
          have := pieces_size 46 core x (by rw [HP.out]; exact List.mem_of_getElem? hx)
          omega
        have hs9 : x.size ≤ 9223372036854775807 := by omega
        clear hx
        cases hnum : isNum x with
        | false =>
          have e : Hid (parseS s = (zeroV, 60)) := by
            show _ = _
            rw [hE.out]
            unfold parseP
            rw [okVer_no P marks marked k x HX.out (by unfold okNum; rw [hnum, Bool.false_and]), if_neg (by simp)]
          have HU := Lib.hid hnum
          clear hnum
          go_wp2_with fail
          (with_reducible refine (isNum_any x hs9 _).mono ?_)
          rintro ee w4 ⟨rfl, g2⟩
          dsimp only
          rw [HU.out]
          have HRY := Lib.hid (block_kept HRX.out g2)
          have HGY := Lib.hid (World.grownBy.trans HGX.out g2)
          clear g2
          obtain ⟨r0, f0⟩ := block_cell HRY.out 0 _ rfl
          obtain ⟨r1, f1⟩ := block_cell HRY.out 1 _ rfl
          obtain ⟨r2, f2⟩ := block_cell HRY.out 2 _ rfl
          obtain ⟨r3, f3⟩ := block_cell HRY.out 3 _ rfl
          go_wp2
          generalize hw9 : (((w4.setCell ⟨R, 0, none⟩ _).setCell ⟨R, 1, none⟩ _).setCell ⟨R, 2, none⟩ _).setCell ⟨R, 3, none⟩ _ = w9
          obtain ⟨G9, R9, S9, K9⟩ := lay_ver HGY.out (by rw [HR.out]; exact Nat.le_refl _) HRY.out _ _ _ _ w9 hw9
          obtain ⟨q0, _⟩ := block_cell R9 0 _ rfl
          obtain ⟨q1, _⟩ := block_cell R9 1 _ rfl
          obtain ⟨q2, _⟩ := block_cell R9 2 _ rfl
          obtain ⟨q3, _⟩ := block_cell R9 3 _ rfl
          refine bodyPost_ret (v := .tuple #[verV zeroV (.slice none 0 0), .int .i64 60]) (by simp [results, Tryz.results65, go_sem, q0, q1, q2, q3, verV, zeroV]) rfl ⟨.slice none 0 0, by rw [e.out], ?_, G9, fun q h => by cases h⟩
          rw [e.out]
          exact PartS.nil (block_size R9 |> Nat.lt_of_le_of_lt (Nat.zero_le _))
        | true =>
          have HU := Lib.hid hnum
          by_cases h9 : 9 < x.size
          · have e : Hid (parseS s = (zeroV, 60)) := by
              show _ = _
              rw [hE.out]
              unfold parseP
              rw [okVer_no P marks marked k x HX.out (by unfold okNum; rw [hnum, decide_eq_false (by omega)]; rfl), if_neg (by simp)]
            have b9 : 9 < (x.size : Int) := by omega
            clear hnum h9
            go_wp2_with fail
            (with_reducible refine (isNum_any x hs9 _).mono ?_)
            rintro ee w4 ⟨rfl, g2⟩
            dsimp only
            rw [HU.out]
            have HRY := Lib.hid (block_kept HRX.out g2)
            have HGY := Lib.hid (World.grownBy.trans HGX.out g2)
            clear g2
            obtain ⟨r0, f0⟩ := block_cell HRY.out 0 _ rfl
            obtain ⟨r1, f1⟩ := block_cell HRY.out 1 _ rfl
            obtain ⟨r2, f2⟩ := block_cell HRY.out 2 _ rfl
            obtain ⟨r3, f3⟩ := block_cell HRY.out 3 _ rfl
            go_wp2
            generalize hw9 : (((w4.setCell ⟨R, 0, none⟩ _).setCell ⟨R, 1, none⟩ _).setCell ⟨R, 2, none⟩ _).setCell ⟨R, 3, none⟩ _ = w9
            obtain ⟨G9, R9, S9, K9⟩ := lay_ver HGY.out (by rw [HR.out]; exact Nat.le_refl _) HRY.out _ _ _ _ w9 hw9
            obtain ⟨q0, _⟩ := block_cell R9 0 _ rfl
            obtain ⟨q1, _⟩ := block_cell R9 1 _ rfl
            obtain ⟨q2, _⟩ := block_cell R9 2 _ rfl
            obtain ⟨q3, _⟩ := block_cell R9 3 _ rfl
            refine bodyPost_ret (v := .tuple #[verV zeroV (.slice none 0 0), .int .i64 60]) (by simp [results, Tryz.results65, go_sem, q0, q1, q2, q3, verV, zeroV]) rfl ⟨.slice none 0 0, by rw [e.out], ?_, G9, fun q h => by cases h⟩
            rw [e.out]
            exact PartS.nil (block_size R9 |> Nat.lt_of_le_of_lt (Nat.zero_le _))
          · have HOK := Lib.hid (show okNum x = true by unfold okNum; rw [hnum, decide_eq_true (by omega)]; rfl)
            have b9 : decide (9 < (x.size : Int)) = false := by simp; omega
            clear hnum h9
            go_wp2_with fail
            (with_reducible refine (isNum_any x hs9 _).mono ?_)
            rintro ee w4 ⟨rfl, g2⟩
            dsimp only
            rw [HU.out]
            have HRY := Lib.hid (block_kept HRX.out g2)
            have HGY := Lib.hid (World.grownBy.trans HGX.out g2)
            have HNY := Lib.hid (block_kept HNR.out g2)
            have HPY := Lib.hid (HPR.out.stays g2)
            clear g2
            go_wp2_with ((with_reducible refine conv_bytes (o := ⟨some 43, _, _, _, _, _⟩) rfl _ rfl x ?_ ?_); go_must (exact rfl); (intro cap2 w5 hl3 hg3); have HL3 := Lib.hid hl3; have HG5 := Lib.hid (World.grownBy.trans HGY.out hg3); have HR5 := Lib.hid (block_kept HRY.out hg3); have HN5 := Lib.hid (block_kept HNY.out hg3); have HP5 := Lib.hid (HPY.out.stays hg3); clear hl3 hg3)
            obtain ⟨bb, hbb⟩ : ∃ bb, w4.heap.size = bb := ⟨_, rfl⟩
            rw [hbb] at HL3
            have hbnb : Hid (nb < bb) := by
              show _ < _
              rw [← hbb]; exact block_size HNY.out
            go_loopw [12, 45] (fun c t wq => ∃ q : Nat, q ≤ x.size ∧ t = .int .i64 q ∧ wq.heap[nb]? = some (.cells (numsC P k (numTo x q : Int)) 103 (0, 0)) ∧ wq.heap[R]? = some (.cells #[.int .i64 0, .int .i64 0, .int .i64 0, .slice none 0 0] 28 (0, 0)) ∧ PartS wq nb (.slice (some ⟨b, o, none⟩) 3 3) P ∧ LieB wq bb x ∧ w.grownBy wq none) (fun _ t _ => x.size - (intOf t).toNat)
            case atStart => exact ⟨0, Nat.zero_le _, rfl, HN5.out, HR5.out, HP5.out, HL3.out, HG5.out⟩
            case round =>
              obtain ⟨q, hq, rfl, y1, y2, y3, y4, y5⟩ := hrel
              have Y1 := Lib.hid y1
              have Y2 := Lib.hid y2
              have Y3 := Lib.hid y3
              have Y4 := Lib.hid y4
              have Y5 := Lib.hid y5
              clear y1 y2 y3 y4 y5
              by_cases hql : q < x.size
              · have hcell := Y4.out q hql
                obtain ⟨c, hc⟩ : ∃ c, byteAt x q = c := ⟨_, rfl⟩
                rw [hc] at hcell
                have hdig := okNum_dig x HOK.out q hql
                rw [hc] at hdig
                simp only [isDig, decide_eq_true_eq] at hdig
                obtain ⟨t1, t2⟩ := hdig
                have hbd := okNum_bound x HOK.out q (by omega)
                have HT := Lib.hid (show numTo x (q + 1) = 10 * numTo x q + (c.toNat - 48) by rw [numTo, hc])
                obtain ⟨z, hz⟩ : ∃ z, numTo x q = z := ⟨_, rfl⟩
                rw [hz] at HT hbd
                obtain ⟨n0, fn0⟩ := block_cell Y1.out k _ (numsC_at P k _ hlt)
                rw [hz] at n0
                have u1 : 0 ≤ (c.toNat : Int) - 48 := by omega
                have u2 : (c.toNat : Int) - 48 ≤ 9 := by omega
                clear hc hz
                go_wp2
                go_roundw
                case rel =>
                  have hv : (10 * (z : Int) + ((c.toNat : Int) - 48)) = (numTo x (q + 1) : Int) := by rw [HT.out]; omega
                  refine ⟨q + 1, by omega, by go_num, ?_, ?_, ?_, ?_, ?_⟩
                  · have := set_block Y1.out k (.int .i64 (10 * (z : Int) + ((c.toNat : Int) - 48)))
                    rw [numsC_set P k _ _ hlt] at this
                    rw [← hv]; exact this
                  · exact ((set_grown _ nb k _).block R (block_size Y2.out) (by have := HRlt.out; simp; omega)).trans Y2.out
                  · exact Y3.out.grown (set_grown _ nb k _) (fun j hj => by have := Option.some.inj hj; omega)
                  · exact Y4.out.grown (set_grown _ nb k _) (by have := hbnb.out; simp; omega)
                  · exact grown_set Y5.out HGN.out k _
                case measure => simp [intOf]; omega
              · have hqm : q = x.size := by omega
                subst hqm
                clear hql hq
                have HT := Lib.hid (take_all P k x okNum HX.out HO.out HOK.out)
                have HNN := Lib.hid (show numsC P k (numTo x x.size : Int) = numsC P (k + 1) 0 by
                  have := numsC_next P k hlt
                  rw [HXA.out] at this
                  exact this)
                go_wp2
                go_roundw
                case rel => exact ⟨k + 1, by omega, by go_num, HT.out, by rw [← HNN.out]; exact Y1.out, Y2.out, Y3.out, Y5.out⟩
                case measure => simp [intOf]; omega
      · have hk3 : k = 3 := by omega
        subst hk3
        clear hlt hk
        have hall : Hid (P.all okNum = true) := by
          have := HO.out
          rw [List.take_of_length_le (by rw [HN.out]; exact Nat.le_refl _)] at this
          exact this
        obtain ⟨a0, ha0⟩ : ∃ a : Int, (num (strAt P 0) : Int) = a := ⟨_, rfl⟩
        obtain ⟨a1, ha1⟩ : ∃ a : Int, (num (strAt P 1) : Int) = a := ⟨_, rfl⟩
        obtain ⟨a2, ha2⟩ : ∃ a : Int, (num (strAt P 2) : Int) = a := ⟨_, rfl⟩
        obtain ⟨n0, _⟩ := block_cell HNR.out 0 (.int .i64 (num (strAt P 0) : Int)) rfl
        obtain ⟨n1, _⟩ := block_cell HNR.out 1 (.int .i64 (num (strAt P 1) : Int)) rfl
        obtain ⟨n2, _⟩ := block_cell HNR.out 2 (.int .i64 (num (strAt P 2) : Int)) rfl
        rw [ha0] at n0
        rw [ha1] at n1
        rw [ha2] at n2
        have HA := Lib.hid (And.intro ha0 (And.intro ha1 ha2))
        clear ha0 ha1 ha2
        have HNR2 := Lib.hid (block_size HRX.out)
        have hg6 : wr.grownBy (wr.alloc (.cells #[.int .i64 a0, .int .i64 a1, .int .i64 a2, .slice none 0 0] 28)) none := World.grownBy_alloc wr _ none
        have HR6 := Lib.hid (block_kept HRX.out hg6)
        have HG6 := Lib.hid (World.grownBy.trans HGX.out hg6)
        have HV6 := Lib.hid (alloc_block wr (.cells #[.int .i64 a0, .int .i64 a1, .int .i64 a2, .slice none 0 0] 28))
        clear hg6
        cases marked with
        | false =>
          obtain ⟨r0, f0⟩ := block_cell HR6.out 0 _ rfl
          obtain ⟨r1, f1⟩ := block_cell HR6.out 1 _ rfl
          obtain ⟨r2, f2⟩ := block_cell HR6.out 2 _ rfl
          obtain ⟨r3, f3⟩ := block_cell HR6.out 3 _ rfl
          have e : Hid (parseS s = (⟨a0, a1, a2, []⟩, 0)) := by
            show _ = _
            rw [hE.out]
            unfold parseP okVer
            rw [HN.out, hall.out, HA.out.1, HA.out.2.1, HA.out.2.2]
            rfl
          go_wp2
          generalize hw9 : ((((wr.alloc _).setCell ⟨R, 0, none⟩ _).setCell ⟨R, 1, none⟩ _).setCell ⟨R, 2, none⟩ _).setCell ⟨R, 3, none⟩ _ = w9
          obtain ⟨G9, R9, S9, K9⟩ := lay_ver HG6.out (by rw [HR.out]; exact Nat.le_refl _) HR6.out _ _ _ _ w9 hw9
          obtain ⟨q0, _⟩ := block_cell R9 0 _ rfl
          obtain ⟨q1, _⟩ := block_cell R9 1 _ rfl
          obtain ⟨q2, _⟩ := block_cell R9 2 _ rfl
          obtain ⟨q3, _⟩ := block_cell R9 3 _ rfl
          refine bodyPost_ret (v := .tuple #[verV ⟨a0, a1, a2, []⟩ (.slice none 0 0), .int .i64 0]) (by simp [results, Tryz.results65, go_sem, q0, q1, q2, q3, verV]) rfl ⟨.slice none 0 0, by rw [e.out], ?_, G9, fun q h => by cases h⟩
          rw [e.out]
          exact PartS.nil (block_size R9 |> Nat.lt_of_le_of_lt (Nat.zero_le _))
        | true =>
          obtain ⟨M, hM⟩ : ∃ M, pieces 46 marks = M := ⟨_, rfl⟩
          obtain ⟨n, hn⟩ : ∃ n, M.length = n := ⟨_, rfl⟩
          have HPM := Lib.hid hM
          have HPN := Lib.hid hn
          have hnm : n ≤ 8000000 := by rw [← hn, ← hM]; have := pieces_le 46 marks; omega
          have HSM : Hid (∀ p ∈ M, p.size ≤ 8000000) := by
            intro p hp
            rw [← hM] at hp
            have := pieces_size 46 marks p hp
            omega
          clear hM hn
          go_wp2_with fail
          (with_reducible refine (split_any marks m n M _ (by omega) (HG6.out.cell HM.out (by simp)) HPM.out HPN.out).mono ?_)
          rintro ee w7 ⟨rfl, hw7⟩
          obtain ⟨vb, hvb⟩ : ∃ vb, wr.heap.size = vb := ⟨_, rfl⟩
          have hap2 : ∃ ap2 : Option Addr, some ⟨(wr.alloc (.cells #[.int .i64 a0, .int .i64 a1, .int .i64 a2, .slice none 0 0] 28)).heap.size, 0, none⟩ = ap2 := ⟨_, rfl⟩
          obtain ⟨ap2, hap2⟩ := hap2
          have hg7 : (wr.alloc (.cells #[.int .i64 a0, .int .i64 a1, .int .i64 a2, .slice none 0 0] 28)).grownBy w7 none := by rw [hw7]; exact World.grownBy_alloc _ _ _
          have HPp7 : Hid (PartS w7 w7.heap.size (.slice ap2 n n) M) := by
            have := part_block (wr.alloc (.cells #[.int .i64 a0, .int .i64 a1, .int .i64 a2, .slice none 0 0] 28)) M 9 n HPN.out
            rw [← hw7] at this
            rw [← hap2]
            exact this.le (by rw [hw7]; exact Nat.le_of_eq (alloc_size _ _).symm)
          have HOB : Hid ((Value.slice ap2 n n).ownBlock ≠ some vb) := by
            rw [← hap2, ← hvb]
            show some _ ≠ some _
            rw [alloc_size]; simp
          have HOR : Hid ((Value.slice ap2 n n).ownBlock ≠ some R) := by
            have := HNR2.out
            rw [← hap2]
            show some _ ≠ some _
            rw [alloc_size]; simp; omega
          have HNW : Hid (∀ q, (Value.slice ap2 n n).ownBlock = some q → w.heap.size ≤ q) := Lib.hid (fun q h => by
            have h1 := HNR2.out
            have h2 := HR.out
            rw [← hap2] at h
            have h3 := Option.some.inj (show some _ = some q from h)
            dsimp only at h3
            rw [alloc_size] at h3
            have h4 : R = w.heap.size := h2.symm
            omega)
          have HR7 := Lib.hid (block_kept HR6.out hg7)
          have HG7 := Lib.hid (World.grownBy.trans HG6.out hg7)
          have HV7 := Lib.hid (block_kept HV6.out hg7)
          have HRV : Hid (R < vb) := by rw [← hvb]; exact HNR2.out
          rw [hap2]
          rw [hvb] at HV7 ⊢
          clear hg7 hw7 hap2 hvb HV6
          have hwv : w.heap.size ≤ vb := by rw [HR.out]; exact Nat.le_of_lt HRV.out
          have hs8 : w7.grownBy (w7.setCell ⟨vb, 3, none⟩ (.slice ap2 n n)) (some vb) := set_grown _ _ _ _
          have HR8 := Lib.hid (show (w7.setCell ⟨vb, 3, none⟩ (.slice ap2 n n)).heap[R]? = _ from (hs8.block R (block_size HR7.out) (by have := HRV.out; simp; omega)).trans HR7.out)
          have HP8 := Lib.hid (HPp7.out.other hs8 HOB.out)
          have HV8 := Lib.hid (show (w7.setCell ⟨vb, 3, none⟩ (.slice ap2 n n)).heap[vb]? = some (.cells #[.int .i64 a0, .int .i64 a1, .int .i64 a2, .slice ap2 n n] 28 (0, 0)) from set_block HV7.out 3 _)
          have HG8 := Lib.hid (grown_set HG7.out hwv 3 (.slice ap2 n n))
          obtain ⟨v3, fv3⟩ := block_cell HV7.out 3 _ rfl
          obtain ⟨v30, _⟩ := block_cell HV8.out 3 _ rfl
          clear hs8 hwv
          dsimp only
          go_wp2_with fail
          (with_reducible refine (goodMarks_any _ n n ap2 M _ HPN.out hnm HSM.out HP8.out).mono ?_)
          rintro ee w9 ⟨rfl, g9⟩
          dsimp only
          have HR9 := Lib.hid (block_kept HR8.out g9)
          have HV9 := Lib.hid (block_kept HV8.out g9)
          have HP9 := Lib.hid (HP8.out.stays g9)
          have HG9 := Lib.hid (World.grownBy.trans HG8.out g9)
          have HS9 := Lib.hid (show w7.heap.size ≤ w9.heap.size from Nat.le_trans (set_grown w7 vb 3 (.slice ap2 n n)).size g9.size)
          clear g9 v3 fv3 v30
          obtain ⟨r0, f0⟩ := block_cell HR9.out 0 _ rfl
          obtain ⟨r1, f1⟩ := block_cell HR9.out 1 _ rfl
          obtain ⟨r2, f2⟩ := block_cell HR9.out 2 _ rfl
          obtain ⟨r3, f3⟩ := block_cell HR9.out 3 _ rfl
          cases hok : okMarks M with
          | false =>
            have e : Hid (parseS s = (zeroV, 60)) := by
              show _ = _
              rw [hE.out]
              unfold parseP okVer
              rw [HN.out, hall.out, HPM.out, hok, if_neg (by simp)]
            go_wp2
            generalize hw10 : (((w9.setCell ⟨R, 0, none⟩ _).setCell ⟨R, 1, none⟩ _).setCell ⟨R, 2, none⟩ _).setCell ⟨R, 3, none⟩ _ = w10
            obtain ⟨G9, R9, S9, K9⟩ := lay_ver HG9.out (by rw [HR.out]; exact Nat.le_refl _) HR9.out _ _ _ _ w10 hw10
            obtain ⟨q0, _⟩ := block_cell R9 0 _ rfl
            obtain ⟨q1, _⟩ := block_cell R9 1 _ rfl
            obtain ⟨q2, _⟩ := block_cell R9 2 _ rfl
            obtain ⟨q3, _⟩ := block_cell R9 3 _ rfl
            refine bodyPost_ret (v := .tuple #[verV zeroV (.slice none 0 0), .int .i64 60]) (by simp [results, Tryz.results65, go_sem, q0, q1, q2, q3, verV, zeroV]) rfl ⟨.slice none 0 0, by rw [e.out], ?_, G9, fun q h => by cases h⟩
            rw [e.out]
            exact PartS.nil (block_size R9 |> Nat.lt_of_le_of_lt (Nat.zero_le _))
          | true =>
            have e : Hid (parseS s = (⟨a0, a1, a2, M⟩, 0)) := by
              show _ = _
              rw [hE.out]
              unfold parseP okVer preOf
              rw [HN.out, hall.out, HPM.out, hok, HA.out.1, HA.out.2.1, HA.out.2.2]
              rfl
            obtain ⟨v0, _⟩ := block_cell HV9.out 0 _ rfl
            obtain ⟨v1, _⟩ := block_cell HV9.out 1 _ rfl
            obtain ⟨v2, _⟩ := block_cell HV9.out 2 _ rfl
            obtain ⟨v3, _⟩ := block_cell HV9.out 3 _ rfl
            go_wp2
            generalize hw10 : (((w9.setCell ⟨R, 0, none⟩ _).setCell ⟨R, 1, none⟩ _).setCell ⟨R, 2, none⟩ _).setCell ⟨R, 3, none⟩ _ = w10
            obtain ⟨G9, R9, S9, K9⟩ := lay_ver HG9.out (by rw [HR.out]; exact Nat.le_refl _) HR9.out _ _ _ _ w10 hw10
            obtain ⟨q0, _⟩ := block_cell R9 0 _ rfl
            obtain ⟨q1, _⟩ := block_cell R9 1 _ rfl
            obtain ⟨q2, _⟩ := block_cell R9 2 _ rfl
            obtain ⟨q3, _⟩ := block_cell R9 3 _ rfl
            refine bodyPost_ret (v := .tuple #[verV ⟨a0, a1, a2, M⟩ (.slice ap2 n n), .int .i64 0]) (by simp [results, Tryz.results65, go_sem, q0, q1, q2, q3, verV]) rfl ⟨.slice ap2 n n, by rw [e.out], ?_, G9, HNW.out⟩
            rw [e.out]
            refine (HP9.out.other K9 ?_).le ?_
            · exact HOR.out
            · exact Nat.le_trans HS9.out S9
  · have hne : ¬ (N : Int) = 3 := by omega
    obtain ⟨r0, f0⟩ := block_cell HR2.out 0 _ rfl
    obtain ⟨r1, f1⟩ := block_cell HR2.out 1 _ rfl
    obtain ⟨r2, f2⟩ := block_cell HR2.out 2 _ rfl
    obtain ⟨r3, f3⟩ := block_cell HR2.out 3 _ rfl
    clear h3
    have e : Hid (parseS s = (zeroV, 60)) := by
      show _ = _
      rw [hE.out]
      unfold parseP okVer
      rw [HN.out, decide_eq_false (by omega : ¬ N = 3), if_neg (by simp)]
    go_wp2
    generalize hw9 : (((w2.setCell ⟨R, 0, none⟩ _).setCell ⟨R, 1, none⟩ _).setCell ⟨R, 2, none⟩ _).setCell ⟨R, 3, none⟩ _ = w9
    obtain ⟨G9, R9, S9, K9⟩ := lay_ver HG2.out (by rw [HR.out]; exact Nat.le_refl _) HR2.out _ _ _ _ w9 hw9
    obtain ⟨q0, _⟩ := block_cell R9 0 _ rfl
    obtain ⟨q1, _⟩ := block_cell R9 1 _ rfl
    obtain ⟨q2, _⟩ := block_cell R9 2 _ rfl
    obtain ⟨q3, _⟩ := block_cell R9 3 _ rfl
    refine bodyPost_ret (v := .tuple #[verV zeroV (.slice none 0 0), .int .i64 60]) (by simp [results, Tryz.results65, go_sem, q0, q1, q2, q3, verV, zeroV]) rfl ⟨.slice none 0 0, by rw [e.out], ?_, G9, fun q h => by cases h⟩
    rw [e.out]
    exact PartS.nil (block_size R9 |> Nat.lt_of_le_of_lt (Nat.zero_le _))
end Go.Proofs.YthdopcdllggdaaaGreatDoor
namespace Go.Proofs.YthdopcdllggdaaaGreatDoor
open Go.RowKit

set_option maxRecDepth 1000000
set_option maxHeartbeats 8000000 in
theorem refParse_none_new (_m : Int) (s : ByteArray) (w : World) (hs : s.size ≤ 2000000) (hno : ∀ j, j < s.size → byteAt s j ≠ 45) :
    Calls Tryz.prog 6 #[.string s] w (VerNew w (parseS s)) := by
  have hd := dash_none s hno
  obtain ⟨core, hco⟩ : ∃ c, s = c := ⟨_, rfl⟩
  obtain ⟨marks, hma⟩ : ∃ c : ByteArray, ⟨#[]⟩ = c := ⟨_, rfl⟩
  obtain ⟨P, hP⟩ : ∃ P, pieces 46 core = P := ⟨_, rfl⟩
  obtain ⟨N, hN⟩ : ∃ N, P.length = N := ⟨_, rfl⟩
  have HE := Lib.hid (show parseS s = parseP P marks false by unfold parseS; rw [hd, ← hP, ← hco, ← hma])
  have HMK : Hid (okVer P marks false = (decide (P.length = 3) && P.all okNum)) := by show _ = _; unfold okVer; simp
  obtain ⟨MM, hMM⟩ : ∃ L : List ByteArray, [] = L := ⟨_, rfl⟩
  have HPRE : Hid (preOf marks false = MM) := by show _ = _; rw [← hMM]; rfl
  have hcs : core.size ≤ 2000000 := by rw [← hco]; exact hs
  have HNO := Lib.hid hno
  have HCO := Lib.hid hco
  have HP := Lib.hid hP
  have HN := Lib.hid hN
  obtain ⟨R, hR⟩ : ∃ R, w.heap.size = R := ⟨_, rfl⟩
  have HR := Lib.hid hR
  have ha1 : (w.alloc (.cells #[.int .i64 0, .int .i64 0, .int .i64 0, .slice none 0 0] 28)).heap.size = R + 1 := by rw [alloc_size, hR]
  have HV1 : Hid (((w.alloc (.cells #[.int .i64 0, .int .i64 0, .int .i64 0, .slice none 0 0] 28)).alloc (.cells #[.int .i64 0, .int .i64 0, .int .i64 0, .slice none 0 0] 28)).heap[R + 1]? = some (.cells #[.int .i64 0, .int .i64 0, .int .i64 0, .slice none 0 0] 28 (0, 0))) := by
    show _ = _
    rw [← ha1]; exact alloc_block _ _
  have HR1 : Hid (((w.alloc (.cells #[.int .i64 0, .int .i64 0, .int .i64 0, .slice none 0 0] 28)).alloc (.cells #[.int .i64 0, .int .i64 0, .int .i64 0, .slice none 0 0] 28)).heap[R]? = some (.cells #[.int .i64 0, .int .i64 0, .int .i64 0, .slice none 0 0] 28 (0, 0))) := by
    refine block_kept ?_ (World.grownBy_alloc _ _ _)
    rw [← hR]; exact alloc_block w _
  have HG1 : Hid (w.grownBy ((w.alloc (.cells #[.int .i64 0, .int .i64 0, .int .i64 0, .slice none 0 0] 28)).alloc (.cells #[.int .i64 0, .int .i64 0, .int .i64 0, .slice none 0 0] 28)) none) := grown_alloc _ (World.grownBy_alloc w _ none)
  clear hd hma hP hN hno ha1 hMM hco
  go_enter Tryz.func6, Tryz.ntmps6
  go_wp2
  generalize hwq : (w.alloc _).alloc _ = wq
  rw [hwq] at HV1 HR1 HG1
  have HVq := Lib.hid HV1.out
  have HRq := Lib.hid HR1.out
  have HGq := Lib.hid HG1.out
  obtain ⟨vb, hvb⟩ : ∃ vb, R + 1 = vb := ⟨_, rfl⟩
  rw [hvb] at HVq ⊢
  have HRV : Hid (R < vb) := by show R < vb; omega
  have HVB := Lib.hid hvb
  obtain ⟨pa, pn, pc, hpsl⟩ : ∃ (a : Option Addr) (n c : Nat), Value.slice none 0 0 = .slice a n c := ⟨_, _, _, rfl⟩
  have HPq : Hid (PartS wq wq.heap.size (.slice pa pn pc) MM) := by
    rw [← hpsl, ← (HPRE.out : preOf marks false = MM)]
    exact PartS.nil (Nat.lt_of_le_of_lt (Nat.zero_le _) (block_size HRq.out))
  have HNW : Hid (∀ q, (Value.slice pa pn pc).ownBlock = some q → w.heap.size ≤ q) := Lib.hid (by rw [← hpsl]; exact fun q h => by cases h)
  have HOBR : Hid ((Value.slice pa pn pc).ownBlock ≠ some R) := by rw [← hpsl]; exact fun h => by cases h
  have HOBV : Hid ((Value.slice pa pn pc).ownBlock ≠ some vb) := by rw [← hpsl]; exact fun h => by cases h
  have HVq2 : Hid (wq.heap[vb]? = some (.cells #[.int .i64 0, .int .i64 0, .int .i64 0, .slice pa pn pc] 28 (0, 0))) := by rw [← hpsl]; exact HVq.out
  clear HV1 HR1 HG1 hwq hvb hpsl HVq
  have HVq := Lib.hid HVq2.out
  clear HVq2
  go_loopw [5, 6] (fun c i wr => ∃ k : Nat, k ≤ s.size ∧ i = .int .i64 k ∧ c = .string s ∧ wq = wr) (fun _ i _ => s.size - (intOf i).toNat)
  case atStart => exact ⟨0, Nat.zero_le _, rfl, rfl, rfl⟩
  case round =>
    obtain ⟨k, hk, rfl, rfl, rfl⟩ := hrel
    by_cases hlt : k < s.size
    · obtain ⟨c, hc⟩ : ∃ c, byteAt s k = c := ⟨_, rfl⟩
      have hc2 : s[k]'hlt = c := by rw [← byteAt_eq]; exact hc
      have hb := HNO.out k hlt
      rw [hc] at hb
      have hb' : ¬ (c.toNat : Int) = 45 := by
        intro e; apply hb; apply UInt8.toNat_inj.1; show c.toNat = 45; omega
      have b1 := beq_no c.toNat 45 hb'
      clear hc hb
      go_wp2
      go_roundw
      case rel => exact ⟨k + 1, by omega, by go_num, rfl, trivial⟩
      case measure => simp [intOf]; omega
    · have hks : k = s.size := by omega
      subst hks
      have hc1 := HCO.out
      clear hlt hk
      subst hc1
      go_wp2_with fail
      (with_reducible refine (refSplit_at s P hcs _ HP.out).mono ?_)
      rintro ee w2 ⟨lv, rfl, hlo, hlg⟩
      dsimp only
      obtain ⟨la, lcap, hlf, hlc, hlm⟩ := hlo.form
      rw [HN.out] at hlf hlc
      subst hlf
      have HPL := Lib.hid (hlo.part (by have := hlg.size; have := block_size HRq.out; omega))
      have HR2 := Lib.hid (block_kept HRq.out hlg)
      have HV2 := Lib.hid (block_kept HVq.out hlg)
      have HG2 := Lib.hid (World.grownBy.trans HGq.out hlg)
      have HP2 := Lib.hid (HPq.out.stays hlg)
      have HS2 := Lib.hid hlg.size
      clear hlo hlg
      by_cases h3 : N = 3
      · subst h3
        have HN3 := HN.out
        obtain ⟨x0, e0⟩ : ∃ x, P[0]? = some x := ⟨_, List.getElem?_eq_getElem (by omega)⟩
        obtain ⟨x1, e1⟩ : ∃ x, P[1]? = some x := ⟨_, List.getElem?_eq_getElem (by omega)⟩
        obtain ⟨x2, e2⟩ : ∃ x, P[2]? = some x := ⟨_, List.getElem?_eq_getElem (by omega)⟩
        obtain ⟨b, o, ea, hbn, g0⟩ := HPL.out.at 0 x0 e0
        obtain ⟨b', o', ea', hx1, g1⟩ := HPL.out.at 1 x1 e1
        obtain ⟨b'', o'', ea'', hx2, g2⟩ := HPL.out.at 2 x2 e2
        have i1 := Addr.mk.inj (Option.some.inj (ea'.symm.trans ea))
        have i2 := Addr.mk.inj (Option.some.inj (ea''.symm.trans ea))
        rw [i1.1, i1.2.1] at g1
        rw [i2.1, i2.2.1] at g2
        rw [Nat.add_zero] at g0
        subst ea
        clear ea' ea'' i1 i2 hx1 hx2 b' b'' o' o''
        have hP3 : P = [x0, x1, x2] := by
          match P, HN3, e0, e1, e2 with
          | [p0, p1, p2], _, h0, h1, h2 =>
            have h0' : p0 = x0 := by simpa using h0
            have h1' : p1 = x1 := by simpa using h1
            have h2' : p2 = x2 := by simpa using h2
            rw [h0', h1', h2']
        have hsz : ∀ p ∈ P, p.size ≤ 9223372036854775807 := by
          intro p hp
          rw [← HP.out] at hp
          have := pieces_size 46 s p hp
          omega
        have z0 := hsz x0 (List.mem_of_getElem? e0)
        have z1 := hsz x1 (List.mem_of_getElem? e1)
        have z2 := hsz x2 (List.mem_of_getElem? e2)
        obtain ⟨n0, b0, k0⟩ : ∃ n b, refNum x0 999999999 = (n, b) := ⟨_, _, rfl⟩
        obtain ⟨n1, b1, k1⟩ : ∃ n b, refNum x1 999999999 = (n, b) := ⟨_, _, rfl⟩
        obtain ⟨n2, b2, k2⟩ : ∃ n b, refNum x2 999999999 = (n, b) := ⟨_, _, rfl⟩
        have hok : okVer P marks false = (b0 && b1 && b2) := by
          rw [HMK.out, hP3]
          have r0 := (okNum_ref x0).1
          have r1 := (okNum_ref x1).1
          have r2 := (okNum_ref x2).1
          rw [k0] at r0
          rw [k1] at r1
          rw [k2] at r2
          simp only at r0 r1 r2
          simp [← r0, ← r1, ← r2, Bool.and_assoc]
        have hval : b0 = true → b1 = true → b2 = true → parseS s = (⟨n0, n1, n2, MM⟩, 0) := by
          intro a0 a1 a2
          have r0 := okNum_ref x0
          have r1 := okNum_ref x1
          have r2 := okNum_ref x2
          rw [k0] at r0
          rw [k1] at r1
          rw [k2] at r2
          rw [HE.out]
          unfold parseP
          rw [hok, a0, a1, a2, if_pos (show (true && true && true) = true from rfl), HPRE.out, hP3]
          have t0 := r0.2 (by rw [← r0.1]; exact a0)
          have t1 := r1.2 (by rw [← r1.1]; exact a1)
          have t2 := r2.2 (by rw [← r2.1]; exact a2)
          simp only at t0 t1 t2
          rw [t0, t1, t2]
          rfl
        have HOK := Lib.hid hok
        have HVAL := Lib.hid hval
        have K0 := Lib.hid k0
        have K1 := Lib.hid k1
        have K2 := Lib.hid k2
        clear hok hval k0 k1 k2 hP3 hsz e0 e1 e2 HN3
        go_wp2_with fail
        (with_reducible refine (refNum_at x0 n0 b0 z0 _ K0.out).mono ?_)
        rintro ee w' ⟨rfl, hw'⟩
        rw [hw']
        clear hw' w'
        dsimp only
        go_wp2_with fail
        (with_reducible refine (refNum_at x1 n1 b1 z1 _ K1.out).mono ?_)
        rintro ee w' ⟨rfl, hw'⟩
        rw [hw']
        clear hw' w'
        dsimp only
        go_wp2_with fail
        (with_reducible refine (refNum_at x2 n2 b2 z2 _ K2.out).mono ?_)
        rintro ee w' ⟨rfl, hw'⟩
        rw [hw']
        clear hw' w'
        dsimp only
        cases hall : (b0 && b1 && b2) with
        | false =>
          have e : Hid (parseS s = (zeroV, 60)) := by
            show _ = _
            rw [HE.out]
            unfold parseP
            rw [HOK.out, hall, if_neg (by simp)]
          obtain ⟨r0, f0⟩ := block_cell HR2.out 0 _ rfl
          obtain ⟨r1, f1⟩ := block_cell HR2.out 1 _ rfl
          obtain ⟨r2, f2⟩ := block_cell HR2.out 2 _ rfl
          obtain ⟨r3, f3⟩ := block_cell HR2.out 3 _ rfl
          have hways : b0 = false ∨ (b0 = true ∧ b1 = false) ∨ (b0 = true ∧ b1 = true ∧ b2 = false) := by
            cases b0 <;> cases b1 <;> cases b2 <;> simp_all
          clear hall
          rcases hways with h | ⟨h, h'⟩ | ⟨h, h', h''⟩
          · subst h
            go_wp2
            generalize hw9 : (((w2.setCell ⟨R, 0, none⟩ _).setCell ⟨R, 1, none⟩ _).setCell ⟨R, 2, none⟩ _).setCell ⟨R, 3, none⟩ _ = w9
            obtain ⟨G9, R9, S9, K9⟩ := lay_ver HG2.out (by rw [HR.out]; exact Nat.le_refl _) HR2.out _ _ _ _ w9 hw9
            obtain ⟨q0, _⟩ := block_cell R9 0 _ rfl
            obtain ⟨q1, _⟩ := block_cell R9 1 _ rfl
            obtain ⟨q2, _⟩ := block_cell R9 2 _ rfl
            obtain ⟨q3, _⟩ := block_cell R9 3 _ rfl
            refine bodyPost_ret (v := .tuple #[verV zeroV (.slice none 0 0), .int .i64 60]) (by simp [results, Tryz.results6, go_sem, q0, q1, q2, q3, verV, zeroV]) rfl ⟨.slice none 0 0, by rw [e.out], ?_, G9, fun q h => by cases h⟩
            rw [e.out]
            exact PartS.nil (block_size R9 |> Nat.lt_of_le_of_lt (Nat.zero_le _))
          · subst h h'
            go_wp2
            generalize hw9 : (((w2.setCell ⟨R, 0, none⟩ _).setCell ⟨R, 1, none⟩ _).setCell ⟨R, 2, none⟩ _).setCell ⟨R, 3, none⟩ _ = w9
            obtain ⟨G9, R9, S9, K9⟩ := lay_ver HG2.out (by rw [HR.out]; exact Nat.le_refl _) HR2.out _ _ _ _ w9 hw9
            obtain ⟨q0, _⟩ := block_cell R9 0 _ rfl
            obtain ⟨q1, _⟩ := block_cell R9 1 _ rfl
            obtain ⟨q2, _⟩ := block_cell R9 2 _ rfl
            obtain ⟨q3, _⟩ := block_cell R9 3 _ rfl
            refine bodyPost_ret (v := .tuple #[verV zeroV (.slice none 0 0), .int .i64 60]) (by simp [results, Tryz.results6, go_sem, q0, q1, q2, q3, verV, zeroV]) rfl ⟨.slice none 0 0, by rw [e.out], ?_, G9, fun q h => by cases h⟩
            rw [e.out]
            exact PartS.nil (block_size R9 |> Nat.lt_of_le_of_lt (Nat.zero_le _))
          · subst h h' h''
            go_wp2
            generalize hw9 : (((w2.setCell ⟨R, 0, none⟩ _).setCell ⟨R, 1, none⟩ _).setCell ⟨R, 2, none⟩ _).setCell ⟨R, 3, none⟩ _ = w9
            obtain ⟨G9, R9, S9, K9⟩ := lay_ver HG2.out (by rw [HR.out]; exact Nat.le_refl _) HR2.out _ _ _ _ w9 hw9
            obtain ⟨q0, _⟩ := block_cell R9 0 _ rfl
            obtain ⟨q1, _⟩ := block_cell R9 1 _ rfl
            obtain ⟨q2, _⟩ := block_cell R9 2 _ rfl
            obtain ⟨q3, _⟩ := block_cell R9 3 _ rfl
            refine bodyPost_ret (v := .tuple #[verV zeroV (.slice none 0 0), .int .i64 60]) (by simp [results, Tryz.results6, go_sem, q0, q1, q2, q3, verV, zeroV]) rfl ⟨.slice none 0 0, by rw [e.out], ?_, G9, fun q h => by cases h⟩
            rw [e.out]
            exact PartS.nil (block_size R9 |> Nat.lt_of_le_of_lt (Nat.zero_le _))
        | true =>
          have hb : b0 = true ∧ b1 = true ∧ b2 = true := by
            cases b0 <;> cases b1 <;> cases b2 <;> simp_all
          obtain ⟨rfl, rfl, rfl⟩ := hb
          have e : Hid (parseS s = (⟨n0, n1, n2, MM⟩, 0)) := HVAL.out rfl rfl rfl
          clear hall
          obtain ⟨y0, fy0⟩ := block_cell HV2.out 0 _ rfl
          obtain ⟨y1, fy1⟩ := block_cell HV2.out 1 _ rfl
          obtain ⟨y2, fy2⟩ := block_cell HV2.out 2 _ rfl
          obtain ⟨y3, fy3⟩ := block_cell HV2.out 3 _ rfl
          have hk3 : w2.grownBy (((w2.setCell ⟨vb, 0, none⟩ (.int .i64 n0)).setCell ⟨vb, 1, none⟩ (.int .i64 n1)).setCell ⟨vb, 2, none⟩ (.int .i64 n2)) (some vb) := World.grownBy.trans (World.grownBy.trans (set_grown _ _ _ _) (set_grown _ _ _ _)) (set_grown _ _ _ _)
          have HR3 := Lib.hid (show (((w2.setCell ⟨vb, 0, none⟩ (.int .i64 n0)).setCell ⟨vb, 1, none⟩ (.int .i64 n1)).setCell ⟨vb, 2, none⟩ (.int .i64 n2)).heap[R]? = _ from (hk3.block R (block_size HR2.out) (by have := HRV.out; simp; omega)).trans HR2.out)
          have hwv : w.heap.size ≤ vb := by rw [HR.out]; exact Nat.le_of_lt HRV.out
          have HG3 := Lib.hid (show w.grownBy (((w2.setCell ⟨vb, 0, none⟩ (.int .i64 n0)).setCell ⟨vb, 1, none⟩ (.int .i64 n1)).setCell ⟨vb, 2, none⟩ (.int .i64 n2)) none from grown_set (grown_set (grown_set HG2.out hwv 0 (.int .i64 n0)) hwv 1 (.int .i64 n1)) hwv 2 (.int .i64 n2))
          have HP3 := Lib.hid (HP2.out.other hk3 HOBV.out)
          have HS3 := Lib.hid hk3.size
          have HV3 := Lib.hid (show (((w2.setCell ⟨vb, 0, none⟩ (.int .i64 n0)).setCell ⟨vb, 1, none⟩ (.int .i64 n1)).setCell ⟨vb, 2, none⟩ (.int .i64 n2)).heap[vb]? = some (.cells #[.int .i64 n0, .int .i64 n1, .int .i64 n2, .slice pa pn pc] 28 (0, 0)) from set_block (set_block (set_block HV2.out 0 _) 1 _) 2 _)
          clear hk3 hwv
          obtain ⟨r0, f0⟩ := block_cell HR3.out 0 _ rfl
          obtain ⟨r1, f1⟩ := block_cell HR3.out 1 _ rfl
          obtain ⟨r2, f2⟩ := block_cell HR3.out 2 _ rfl
          obtain ⟨r3, f3⟩ := block_cell HR3.out 3 _ rfl
          go_wp2
          generalize hw9 : ((((((w2.setCell ⟨vb, 0, none⟩ (.int .i64 n0)).setCell ⟨vb, 1, none⟩ (.int .i64 n1)).setCell ⟨vb, 2, none⟩ (.int .i64 n2)).setCell ⟨R, 0, none⟩ _).setCell ⟨R, 1, none⟩ _).setCell ⟨R, 2, none⟩ _).setCell ⟨R, 3, none⟩ _ = w9
          obtain ⟨G9, R9, S9, K9⟩ := lay_ver HG3.out (by rw [HR.out]; exact Nat.le_refl _) HR3.out _ _ _ _ w9 hw9
          obtain ⟨q0, _⟩ := block_cell R9 0 _ rfl
          obtain ⟨q1, _⟩ := block_cell R9 1 _ rfl
          obtain ⟨q2, _⟩ := block_cell R9 2 _ rfl
          obtain ⟨q3, _⟩ := block_cell R9 3 _ rfl
          refine bodyPost_ret (v := .tuple #[verV ⟨n0, n1, n2, MM⟩ (.slice pa pn pc), .int .i64 0]) (by simp [results, Tryz.results6, go_sem, q0, q1, q2, q3, verV]) rfl ⟨.slice pa pn pc, by rw [e.out], ?_, G9, HNW.out⟩
          rw [e.out]
          exact (HP3.out.other K9 HOBR.out).le (Nat.le_trans HS2.out (Nat.le_trans HS3.out S9))
      · have hne : ¬ (N : Int) = 3 := by omega
        have e : Hid (parseS s = (zeroV, 60)) := by
          show _ = _
          rw [HE.out]
          unfold parseP
          rw [HMK.out, HN.out, decide_eq_false h3, if_neg (by simp)]
        obtain ⟨r0, f0⟩ := block_cell HR2.out 0 _ rfl
        obtain ⟨r1, f1⟩ := block_cell HR2.out 1 _ rfl
        obtain ⟨r2, f2⟩ := block_cell HR2.out 2 _ rfl
        obtain ⟨r3, f3⟩ := block_cell HR2.out 3 _ rfl
        clear h3
        go_wp2
        generalize hw9 : (((w2.setCell ⟨R, 0, none⟩ _).setCell ⟨R, 1, none⟩ _).setCell ⟨R, 2, none⟩ _).setCell ⟨R, 3, none⟩ _ = w9
        obtain ⟨G9, R9, S9, K9⟩ := lay_ver HG2.out (by rw [HR.out]; exact Nat.le_refl _) HR2.out _ _ _ _ w9 hw9
        obtain ⟨q0, _⟩ := block_cell R9 0 _ rfl
        obtain ⟨q1, _⟩ := block_cell R9 1 _ rfl
        obtain ⟨q2, _⟩ := block_cell R9 2 _ rfl
        obtain ⟨q3, _⟩ := block_cell R9 3 _ rfl
        refine bodyPost_ret (v := .tuple #[verV zeroV (.slice none 0 0), .int .i64 60]) (by simp [results, Tryz.results6, go_sem, q0, q1, q2, q3, verV, zeroV]) rfl ⟨.slice none 0 0, by rw [e.out], ?_, G9, fun q h => by cases h⟩
        rw [e.out]
        exact PartS.nil (block_size R9 |> Nat.lt_of_le_of_lt (Nat.zero_le _))

set_option maxRecDepth 1000000
set_option maxHeartbeats 8000000 in
theorem refParse_hit_new (s : ByteArray) (w : World) (hs : s.size ≤ 2000000) (k : Nat) (hk : k < s.size) (hbk : byteAt s k = 45) (hno : ∀ j, j < k → byteAt s j ≠ 45) :
    Calls Tryz.prog 6 #[.string s] w (VerNew w (parseS s)) := by
  have hd := dash_hit s k hk hbk hno
  obtain ⟨marks, hma⟩ : ∃ c : ByteArray, s.extract (k + 1) s.size = c := ⟨_, rfl⟩
  obtain ⟨P, hP⟩ : ∃ P, pieces 46 (s.extract 0 k) = P := ⟨_, rfl⟩
  obtain ⟨N, hN⟩ : ∃ N, P.length = N := ⟨_, rfl⟩
  obtain ⟨MM, hMM⟩ : ∃ M, pieces 46 marks = M := ⟨_, rfl⟩
  have HE := Lib.hid (show parseS s = parseP P marks true by unfold parseS; rw [hd, ← hP, ← hma])
  have HPRE : Hid (preOf marks true = MM) := by show _ = _; rw [← hMM]; rfl
  have hcs : (s.extract 0 k).size ≤ 2000000 := by rw [ByteArray.size_extract]; omega
  have hms : (s.extract (k + 1) s.size).size ≤ 2000000 := by rw [ByteArray.size_extract]; omega
  have HMA := Lib.hid (show pieces 46 (s.extract (k + 1) s.size) = MM by rw [hma]; exact hMM)
  have HSM := Lib.hid (show ∀ p ∈ MM, p.size ≤ 9223372036854775807 by
    intro p hp
    rw [← HMA.out] at hp
    have := pieces_size 46 _ p hp
    omega)
  have HMM := Lib.hid hMM
  have HNO := Lib.hid hno
  have HBK := Lib.hid hbk
  have HP := Lib.hid hP
  have HN := Lib.hid hN
  obtain ⟨R, hR⟩ : ∃ R, w.heap.size = R := ⟨_, rfl⟩
  have HR := Lib.hid hR
  have ha1 : (w.alloc (.cells #[.int .i64 0, .int .i64 0, .int .i64 0, .slice none 0 0] 28)).heap.size = R + 1 := by rw [alloc_size, hR]
  have HV1 : Hid (((w.alloc (.cells #[.int .i64 0, .int .i64 0, .int .i64 0, .slice none 0 0] 28)).alloc (.cells #[.int .i64 0, .int .i64 0, .int .i64 0, .slice none 0 0] 28)).heap[R + 1]? = some (.cells #[.int .i64 0, .int .i64 0, .int .i64 0, .slice none 0 0] 28 (0, 0))) := by
    show _ = _
    rw [← ha1]; exact alloc_block _ _
  have HR1 : Hid (((w.alloc (.cells #[.int .i64 0, .int .i64 0, .int .i64 0, .slice none 0 0] 28)).alloc (.cells #[.int .i64 0, .int .i64 0, .int .i64 0, .slice none 0 0] 28)).heap[R]? = some (.cells #[.int .i64 0, .int .i64 0, .int .i64 0, .slice none 0 0] 28 (0, 0))) := by
    refine block_kept ?_ (World.grownBy_alloc _ _ _)
    rw [← hR]; exact alloc_block w _
  have HG1 : Hid (w.grownBy ((w.alloc (.cells #[.int .i64 0, .int .i64 0, .int .i64 0, .slice none 0 0] 28)).alloc (.cells #[.int .i64 0, .int .i64 0, .int .i64 0, .slice none 0 0] 28)) none) := grown_alloc _ (World.grownBy_alloc w _ none)
  clear hd hma hP hN hno hbk ha1 hMM
  go_enter Tryz.func6, Tryz.ntmps6
  go_wp2
  generalize hwq : (w.alloc _).alloc _ = w1
  rw [hwq] at HV1 HR1 HG1
  obtain ⟨vb, hvb⟩ : ∃ vb, R + 1 = vb := ⟨_, rfl⟩
  rw [hvb] at HV1 ⊢
  have HRV : Hid (R < vb) := by show R < vb; omega
  clear hwq hvb
  go_loopw [5, 6] (fun c i wr => ∃ q : Nat, q ≤ k ∧ i = .int .i64 q ∧ c = .string s ∧ w1 = wr) (fun _ i _ => s.size - (intOf i).toNat)
  case atStart => exact ⟨0, Nat.zero_le _, rfl, rfl, rfl⟩
  case round =>
    obtain ⟨q, hq, rfl, rfl, rfl⟩ := hrel
    by_cases hlt : q < k
    · have hqs : q < s.size := by omega
      obtain ⟨c, hc⟩ : ∃ c, byteAt s q = c := ⟨_, rfl⟩
      have hc2 : s[q]'hqs = c := by rw [← byteAt_eq]; exact hc
      have hb := HNO.out q hlt
      rw [hc] at hb
      have hb' : ¬ (c.toNat : Int) = 45 := by
        intro e; apply hb; apply UInt8.toNat_inj.1; show c.toNat = 45; omega
      have b1 := beq_no c.toNat 45 hb'
      clear hc hb
      go_wp2
      go_roundw
      case rel => exact ⟨q + 1, by omega, by go_num, rfl, trivial⟩
      case measure => simp [intOf]; omega
    · have hqk : q = k := by omega
      subst hqk
      have hc2 : s[q]'hk = 45 := by rw [← byteAt_eq]; exact HBK.out
      clear hlt hq
      go_wp2_with fail
      (with_reducible refine (refSplit_at _ MM hms _ HMA.out).mono ?_)
      rintro ee w2 ⟨lv, rfl, hlo, hlg⟩
      dsimp only
      obtain ⟨pa, pc, hlf, hlc, hlm⟩ := hlo.form
      obtain ⟨pn, hpn⟩ : ∃ n, MM.length = n := ⟨_, rfl⟩
      rw [hpn] at hlf hlc
      subst hlf
      have HPN := Lib.hid hpn
      have hvlt := block_size HV1.out
      have hov : (Value.slice pa pn pc).ownBlock ≠ some vb := by
        intro e
        have := (hlo.block_lt vb e).1
        omega
      have hor : (Value.slice pa pn pc).ownBlock ≠ some R := by
        intro e
        have := (hlo.block_lt R e).1
        have := HRV.out
        omega
      have HNW : Hid (∀ q, (Value.slice pa pn pc).ownBlock = some q → w.heap.size ≤ q) := Lib.hid (fun q e => by
        have h1 := (hlo.block_lt q e).1
        have h2 := HRV.out
        have h3 : w.heap.size = R := HR.out
        omega)
      have HOBV := Lib.hid hov
      have HOBR := Lib.hid hor
      have hpp := hlo.part (by have := hlg.size; omega)
      have hs3 : w2.grownBy (w2.setCell ⟨vb, 3, none⟩ (.slice pa pn pc)) (some vb) := set_grown _ _ _ _
      have hr2 := block_kept HR1.out hlg
      have hv2 := block_kept HV1.out hlg
      have hwv : w.heap.size ≤ vb := by rw [HR.out]; exact Nat.le_of_lt HRV.out
      have HRq := Lib.hid (show (w2.setCell ⟨vb, 3, none⟩ (.slice pa pn pc)).heap[R]? = _ from (hs3.block R (block_size hr2) (by have := HRV.out; simp; omega)).trans hr2)
      have HVq := Lib.hid (show (w2.setCell ⟨vb, 3, none⟩ (.slice pa pn pc)).heap[vb]? = some (.cells #[.int .i64 0, .int .i64 0, .int .i64 0, .slice pa pn pc] 28 (0, 0)) from set_block hv2 3 _)
      have HGq := Lib.hid (grown_set (World.grownBy.trans HG1.out hlg) hwv 3 (.slice pa pn pc))
      have HPq := Lib.hid ((hpp.other hs3 hov).le hs3.size)
      obtain ⟨v3, fv3⟩ := block_cell hv2 3 _ rfl
      obtain ⟨v30, _⟩ := block_cell HVq.out 3 _ rfl
      clear hlo hlg hpn hvlt hov hor hpp hs3 hr2 hv2 hwv
      by_cases h5 : 5 < pn
      · have e : Hid (parseS s = (zeroV, 60)) := by
          show _ = _
          rw [HE.out]
          unfold parseP
          rw [okVer_marks P marks (by rw [HMM.out]; exact okMarks_many MM (by rw [HPN.out]; exact h5)), if_neg (by simp)]
        have b5 : 5 < (pn : Int) := by omega
        clear h5
        obtain ⟨r0, f0⟩ := block_cell HRq.out 0 _ rfl
        obtain ⟨r1, f1⟩ := block_cell HRq.out 1 _ rfl
        obtain ⟨r2, f2⟩ := block_cell HRq.out 2 _ rfl
        obtain ⟨r3, f3⟩ := block_cell HRq.out 3 _ rfl
        go_wp2
        generalize hw9 : ((((w2.setCell ⟨vb, 3, none⟩ (.slice pa pn pc)).setCell ⟨R, 0, none⟩ _).setCell ⟨R, 1, none⟩ _).setCell ⟨R, 2, none⟩ _).setCell ⟨R, 3, none⟩ _ = w9
        obtain ⟨G9, R9, S9, K9⟩ := lay_ver HGq.out (by rw [HR.out]; exact Nat.le_refl _) HRq.out _ _ _ _ w9 hw9
        obtain ⟨q0, _⟩ := block_cell R9 0 _ rfl
        obtain ⟨q1, _⟩ := block_cell R9 1 _ rfl
        obtain ⟨q2, _⟩ := block_cell R9 2 _ rfl
        obtain ⟨q3, _⟩ := block_cell R9 3 _ rfl
        refine bodyPost_ret (v := .tuple #[verV zeroV (.slice none 0 0), .int .i64 60]) (by simp [results, Tryz.results6, go_sem, q0, q1, q2, q3, verV, zeroV]) rfl ⟨.slice none 0 0, by rw [e.out], ?_, G9, fun q h => by cases h⟩
        rw [e.out]
        exact PartS.nil (block_size R9 |> Nat.lt_of_le_of_lt (Nat.zero_le _))
      · have b5 : decide (5 < (pn : Int)) = false := by simp; omega
        have hpn5 : pn ≤ 5 := by omega
        clear h5
        go_wp2
        generalize hwq9 : w2.setCell ⟨vb, 3, none⟩ (.slice pa pn pc) = wq at HRq HVq HGq HPq v30 ⊢
        clear v3 fv3 hwq9
        go_loopw [7] (fun i wr => ∃ r : Nat, r ≤ pn ∧ i = .int .i64 r ∧ (MM.take r).all okMark = true ∧ wq = wr) (fun i _ => pn - (intOf i).toNat)
        case atStart => exact ⟨0, Nat.zero_le _, rfl, rfl, rfl⟩
        case round =>
          obtain ⟨r, hr, rfl, ho, rfl⟩ := hrel
          have HO := Lib.hid ho
          clear ho
          by_cases hlt : r < pn
          · obtain ⟨x, hx⟩ : ∃ x, MM[r]? = some x := ⟨_, List.getElem?_eq_getElem (by rw [HPN.out]; exact hlt)⟩
            obtain ⟨b, o, e1, _, g1⟩ := HPq.out.at r x hx
            subst e1
            have hxs := HSM.out x (List.mem_of_getElem? hx)
            have HX := Lib.hid hx
            clear hx
            cases hm : okMark x with
            | true =>
              have HT := Lib.hid (take_all MM r x okMark HX.out HO.out hm)
              have HMK := Lib.hid hm
              clear hm
              go_wp2_with fail
              (with_reducible refine (refMark_any x hxs _).mono ?_)
              rintro ee w' ⟨rfl, hw'⟩
              rw [hw', HMK.out]
              clear hw' w'
              dsimp only
              go_wp2
              go_roundw
              case rel => exact ⟨r + 1, by omega, by go_num, HT.out, trivial⟩
              case measure => simp [intOf]; omega
            | false =>
              have e : Hid (parseS s = (zeroV, 60)) := by
                show _ = _
                rw [HE.out]
                unfold parseP
                rw [okVer_marks P marks (by rw [HMM.out]; exact okMarks_no MM r x HX.out hm), if_neg (by simp)]
              have HMK := Lib.hid hm
              clear hm
              go_wp2_with fail
              (with_reducible refine (refMark_any x hxs _).mono ?_)
              rintro ee w' ⟨rfl, hw'⟩
              rw [hw', HMK.out]
              clear hw' w'
              dsimp only
              obtain ⟨r0, f0⟩ := block_cell HRq.out 0 _ rfl
              obtain ⟨r1, f1⟩ := block_cell HRq.out 1 _ rfl
              obtain ⟨r2, f2⟩ := block_cell HRq.out 2 _ rfl
              obtain ⟨r3, f3⟩ := block_cell HRq.out 3 _ rfl
              go_wp2
              generalize hw9 : (((wq.setCell ⟨R, 0, none⟩ _).setCell ⟨R, 1, none⟩ _).setCell ⟨R, 2, none⟩ _).setCell ⟨R, 3, none⟩ _ = w9
              obtain ⟨G9, R9, S9, K9⟩ := lay_ver HGq.out (by rw [HR.out]; exact Nat.le_refl _) HRq.out _ _ _ _ w9 hw9
              obtain ⟨q0, _⟩ := block_cell R9 0 _ rfl
              obtain ⟨q1, _⟩ := block_cell R9 1 _ rfl
              obtain ⟨q2, _⟩ := block_cell R9 2 _ rfl
              obtain ⟨q3, _⟩ := block_cell R9 3 _ rfl
              refine bodyPost_ret (v := .tuple #[verV zeroV (.slice none 0 0), .int .i64 60]) (by simp [results, Tryz.results6, go_sem, q0, q1, q2, q3, verV, zeroV]) rfl ⟨.slice none 0 0, by rw [e.out], ?_, G9, fun q h => by cases h⟩
              rw [e.out]
              exact PartS.nil (block_size R9 |> Nat.lt_of_le_of_lt (Nat.zero_le _))
          · have hrn : r = pn := by omega
            subst hrn
            clear hlt hr
            have HMK : Hid (okVer P marks true = (decide (P.length = 3) && P.all okNum)) := by
              show _ = _
              have h := HO.out
              rw [List.take_of_length_le (by rw [HPN.out]; exact Nat.le_refl _)] at h
              unfold okVer okMarks
              rw [HMM.out, h, HPN.out, decide_eq_true hpn5]
              simp
            go_wp2_with fail
            (with_reducible refine (refSplit_at (s.extract 0 q) P hcs _ HP.out).mono ?_)
            rintro ee w2 ⟨lv, rfl, hlo, hlg⟩
            dsimp only
            obtain ⟨la, lcap, hlf, hlc, hlm⟩ := hlo.form
            rw [HN.out] at hlf hlc
            subst hlf
            have HPL := Lib.hid (hlo.part (by have := hlg.size; have := block_size HRq.out; omega))
            have HR2 := Lib.hid (block_kept HRq.out hlg)
            have HV2 := Lib.hid (block_kept HVq.out hlg)
            have HG2 := Lib.hid (World.grownBy.trans HGq.out hlg)
            have HP2 := Lib.hid (HPq.out.stays hlg)
            have HS2 := Lib.hid hlg.size
            clear hlo hlg
            by_cases h3 : N = 3
            · subst h3
              have HN3 := HN.out
              obtain ⟨x0, e0⟩ : ∃ x, P[0]? = some x := ⟨_, List.getElem?_eq_getElem (by omega)⟩
              obtain ⟨x1, e1⟩ : ∃ x, P[1]? = some x := ⟨_, List.getElem?_eq_getElem (by omega)⟩
              obtain ⟨x2, e2⟩ : ∃ x, P[2]? = some x := ⟨_, List.getElem?_eq_getElem (by omega)⟩
              obtain ⟨b, o, ea, hbn, g0⟩ := HPL.out.at 0 x0 e0
              obtain ⟨b', o', ea', hx1, g1⟩ := HPL.out.at 1 x1 e1
              obtain ⟨b'', o'', ea'', hx2, g2⟩ := HPL.out.at 2 x2 e2
              have i1 := Addr.mk.inj (Option.some.inj (ea'.symm.trans ea))
              have i2 := Addr.mk.inj (Option.some.inj (ea''.symm.trans ea))
              rw [i1.1, i1.2.1] at g1
              rw [i2.1, i2.2.1] at g2
              rw [Nat.add_zero] at g0
              subst ea
              clear ea' ea'' i1 i2 hx1 hx2 b' b'' o' o''
              have hP3 : P = [x0, x1, x2] := by
                match P, HN3, e0, e1, e2 with
                | [p0, p1, p2], _, h0, h1, h2 =>
                  have h0' : p0 = x0 := by simpa using h0
                  have h1' : p1 = x1 := by simpa using h1
                  have h2' : p2 = x2 := by simpa using h2
                  rw [h0', h1', h2']
              have hsz : ∀ p ∈ P, p.size ≤ 9223372036854775807 := by
                intro p hp
                rw [← HP.out] at hp
                have := pieces_size 46 (s.extract 0 q) p hp
                omega
              have z0 := hsz x0 (List.mem_of_getElem? e0)
              have z1 := hsz x1 (List.mem_of_getElem? e1)
              have z2 := hsz x2 (List.mem_of_getElem? e2)
              obtain ⟨n0, b0, k0⟩ : ∃ n b, refNum x0 999999999 = (n, b) := ⟨_, _, rfl⟩
              obtain ⟨n1, b1, k1⟩ : ∃ n b, refNum x1 999999999 = (n, b) := ⟨_, _, rfl⟩
              obtain ⟨n2, b2, k2⟩ : ∃ n b, refNum x2 999999999 = (n, b) := ⟨_, _, rfl⟩
              have hok : okVer P marks true = (b0 && b1 && b2) := by
                rw [HMK.out, hP3]
                have r0 := (okNum_ref x0).1
                have r1 := (okNum_ref x1).1
                have r2 := (okNum_ref x2).1
                rw [k0] at r0
                rw [k1] at r1
                rw [k2] at r2
                simp only at r0 r1 r2
                simp [← r0, ← r1, ← r2, Bool.and_assoc]
              have hval : b0 = true → b1 = true → b2 = true → parseS s = (⟨n0, n1, n2, MM⟩, 0) := by
                intro a0 a1 a2
                have r0 := okNum_ref x0
                have r1 := okNum_ref x1
                have r2 := okNum_ref x2
                rw [k0] at r0
                rw [k1] at r1
                rw [k2] at r2
                rw [HE.out]
                unfold parseP
                rw [hok, a0, a1, a2, if_pos (show (true && true && true) = true from rfl), HPRE.out, hP3]
                have t0 := r0.2 (by rw [← r0.1]; exact a0)
                have t1 := r1.2 (by rw [← r1.1]; exact a1)
                have t2 := r2.2 (by rw [← r2.1]; exact a2)
                simp only at t0 t1 t2
                rw [t0, t1, t2]
                rfl
              have HOK := Lib.hid hok
              have HVAL := Lib.hid hval
              have K0 := Lib.hid k0
              have K1 := Lib.hid k1
              have K2 := Lib.hid k2
              clear hok hval k0 k1 k2 hP3 hsz e0 e1 e2 HN3
              go_wp2_with fail
              (with_reducible refine (refNum_at x0 n0 b0 z0 _ K0.out).mono ?_)
              rintro ee w' ⟨rfl, hw'⟩
              rw [hw']
              clear hw' w'
              dsimp only
              go_wp2_with fail
              (with_reducible refine (refNum_at x1 n1 b1 z1 _ K1.out).mono ?_)
              rintro ee w' ⟨rfl, hw'⟩
              rw [hw']
              clear hw' w'
              dsimp only
              go_wp2_with fail
              (with_reducible refine (refNum_at x2 n2 b2 z2 _ K2.out).mono ?_)
              rintro ee w' ⟨rfl, hw'⟩
              rw [hw']
              clear hw' w'
              dsimp only
              cases hall : (b0 && b1 && b2) with
              | false =>
                have e : Hid (parseS s = (zeroV, 60)) := by
                  show _ = _
                  rw [HE.out]
                  unfold parseP
                  rw [HOK.out, hall, if_neg (by simp)]
                obtain ⟨r0, f0⟩ := block_cell HR2.out 0 _ rfl
                obtain ⟨r1, f1⟩ := block_cell HR2.out 1 _ rfl
                obtain ⟨r2, f2⟩ := block_cell HR2.out 2 _ rfl
                obtain ⟨r3, f3⟩ := block_cell HR2.out 3 _ rfl
                have hways : b0 = false ∨ (b0 = true ∧ b1 = false) ∨ (b0 = true ∧ b1 = true ∧ b2 = false) := by
                  cases b0 <;> cases b1 <;> cases b2 <;> simp_all
                clear hall
                rcases hways with h | ⟨h, h'⟩ | ⟨h, h', h''⟩
                · subst h
                  go_wp2
                  generalize hw9 : (((w2.setCell ⟨R, 0, none⟩ _).setCell ⟨R, 1, none⟩ _).setCell ⟨R, 2, none⟩ _).setCell ⟨R, 3, none⟩ _ = w9
                  obtain ⟨G9, R9, S9, K9⟩ := lay_ver HG2.out (by rw [HR.out]; exact Nat.le_refl _) HR2.out _ _ _ _ w9 hw9
                  obtain ⟨q0, _⟩ := block_cell R9 0 _ rfl
                  obtain ⟨q1, _⟩ := block_cell R9 1 _ rfl
                  obtain ⟨q2, _⟩ := block_cell R9 2 _ rfl
                  obtain ⟨q3, _⟩ := block_cell R9 3 _ rfl
                  refine bodyPost_ret (v := .tuple #[verV zeroV (.slice none 0 0), .int .i64 60]) (by simp [results, Tryz.results6, go_sem, q0, q1, q2, q3, verV, zeroV]) rfl ⟨.slice none 0 0, by rw [e.out], ?_, G9, fun q h => by cases h⟩
                  rw [e.out]
                  exact PartS.nil (block_size R9 |> Nat.lt_of_le_of_lt (Nat.zero_le _))
                · subst h h'
                  go_wp2
                  generalize hw9 : (((w2.setCell ⟨R, 0, none⟩ _).setCell ⟨R, 1, none⟩ _).setCell ⟨R, 2, none⟩ _).setCell ⟨R, 3, none⟩ _ = w9
                  obtain ⟨G9, R9, S9, K9⟩ := lay_ver HG2.out (by rw [HR.out]; exact Nat.le_refl _) HR2.out _ _ _ _ w9 hw9
                  obtain ⟨q0, _⟩ := block_cell R9 0 _ rfl
                  obtain ⟨q1, _⟩ := block_cell R9 1 _ rfl
                  obtain ⟨q2, _⟩ := block_cell R9 2 _ rfl
                  obtain ⟨q3, _⟩ := block_cell R9 3 _ rfl
                  refine bodyPost_ret (v := .tuple #[verV zeroV (.slice none 0 0), .int .i64 60]) (by simp [results, Tryz.results6, go_sem, q0, q1, q2, q3, verV, zeroV]) rfl ⟨.slice none 0 0, by rw [e.out], ?_, G9, fun q h => by cases h⟩
                  rw [e.out]
                  exact PartS.nil (block_size R9 |> Nat.lt_of_le_of_lt (Nat.zero_le _))
                · subst h h' h''
                  go_wp2
                  generalize hw9 : (((w2.setCell ⟨R, 0, none⟩ _).setCell ⟨R, 1, none⟩ _).setCell ⟨R, 2, none⟩ _).setCell ⟨R, 3, none⟩ _ = w9
                  obtain ⟨G9, R9, S9, K9⟩ := lay_ver HG2.out (by rw [HR.out]; exact Nat.le_refl _) HR2.out _ _ _ _ w9 hw9
                  obtain ⟨q0, _⟩ := block_cell R9 0 _ rfl
                  obtain ⟨q1, _⟩ := block_cell R9 1 _ rfl
                  obtain ⟨q2, _⟩ := block_cell R9 2 _ rfl
                  obtain ⟨q3, _⟩ := block_cell R9 3 _ rfl
                  refine bodyPost_ret (v := .tuple #[verV zeroV (.slice none 0 0), .int .i64 60]) (by simp [results, Tryz.results6, go_sem, q0, q1, q2, q3, verV, zeroV]) rfl ⟨.slice none 0 0, by rw [e.out], ?_, G9, fun q h => by cases h⟩
                  rw [e.out]
                  exact PartS.nil (block_size R9 |> Nat.lt_of_le_of_lt (Nat.zero_le _))
              | true =>
                have hb : b0 = true ∧ b1 = true ∧ b2 = true := by
                  cases b0 <;> cases b1 <;> cases b2 <;> simp_all
                obtain ⟨rfl, rfl, rfl⟩ := hb
                have e : Hid (parseS s = (⟨n0, n1, n2, MM⟩, 0)) := HVAL.out rfl rfl rfl
                clear hall
                obtain ⟨y0, fy0⟩ := block_cell HV2.out 0 _ rfl
                obtain ⟨y1, fy1⟩ := block_cell HV2.out 1 _ rfl
                obtain ⟨y2, fy2⟩ := block_cell HV2.out 2 _ rfl
                obtain ⟨y3, fy3⟩ := block_cell HV2.out 3 _ rfl
                have hk3 : w2.grownBy (((w2.setCell ⟨vb, 0, none⟩ (.int .i64 n0)).setCell ⟨vb, 1, none⟩ (.int .i64 n1)).setCell ⟨vb, 2, none⟩ (.int .i64 n2)) (some vb) := World.grownBy.trans (World.grownBy.trans (set_grown _ _ _ _) (set_grown _ _ _ _)) (set_grown _ _ _ _)
                have HR3 := Lib.hid (show (((w2.setCell ⟨vb, 0, none⟩ (.int .i64 n0)).setCell ⟨vb, 1, none⟩ (.int .i64 n1)).setCell ⟨vb, 2, none⟩ (.int .i64 n2)).heap[R]? = _ from (hk3.block R (block_size HR2.out) (by have := HRV.out; simp; omega)).trans HR2.out)
                have hwv : w.heap.size ≤ vb := by rw [HR.out]; exact Nat.le_of_lt HRV.out
                have HG3 := Lib.hid (show w.grownBy (((w2.setCell ⟨vb, 0, none⟩ (.int .i64 n0)).setCell ⟨vb, 1, none⟩ (.int .i64 n1)).setCell ⟨vb, 2, none⟩ (.int .i64 n2)) none from grown_set (grown_set (grown_set HG2.out hwv 0 (.int .i64 n0)) hwv 1 (.int .i64 n1)) hwv 2 (.int .i64 n2))
                have HP3 := Lib.hid (HP2.out.other hk3 HOBV.out)
                have HS3 := Lib.hid hk3.size
                have HV3 := Lib.hid (show (((w2.setCell ⟨vb, 0, none⟩ (.int .i64 n0)).setCell ⟨vb, 1, none⟩ (.int .i64 n1)).setCell ⟨vb, 2, none⟩ (.int .i64 n2)).heap[vb]? = some (.cells #[.int .i64 n0, .int .i64 n1, .int .i64 n2, .slice pa r pc] 28 (0, 0)) from set_block (set_block (set_block HV2.out 0 _) 1 _) 2 _)
                clear hk3 hwv
                obtain ⟨r0, f0⟩ := block_cell HR3.out 0 _ rfl
                obtain ⟨r1, f1⟩ := block_cell HR3.out 1 _ rfl
                obtain ⟨r2, f2⟩ := block_cell HR3.out 2 _ rfl
                obtain ⟨r3, f3⟩ := block_cell HR3.out 3 _ rfl
                go_wp2
                generalize hw9 : ((((((w2.setCell ⟨vb, 0, none⟩ (.int .i64 n0)).setCell ⟨vb, 1, none⟩ (.int .i64 n1)).setCell ⟨vb, 2, none⟩ (.int .i64 n2)).setCell ⟨R, 0, none⟩ _).setCell ⟨R, 1, none⟩ _).setCell ⟨R, 2, none⟩ _).setCell ⟨R, 3, none⟩ _ = w9
                obtain ⟨G9, R9, S9, K9⟩ := lay_ver HG3.out (by rw [HR.out]; exact Nat.le_refl _) HR3.out _ _ _ _ w9 hw9
                obtain ⟨q0, _⟩ := block_cell R9 0 _ rfl
                obtain ⟨q1, _⟩ := block_cell R9 1 _ rfl
                obtain ⟨q2, _⟩ := block_cell R9 2 _ rfl
                obtain ⟨q3, _⟩ := block_cell R9 3 _ rfl
                refine bodyPost_ret (v := .tuple #[verV ⟨n0, n1, n2, MM⟩ (.slice pa r pc), .int .i64 0]) (by simp [results, Tryz.results6, go_sem, q0, q1, q2, q3, verV]) rfl ⟨.slice pa r pc, by rw [e.out], ?_, G9, HNW.out⟩
                rw [e.out]
                exact (HP3.out.other K9 HOBR.out).le (Nat.le_trans HS2.out (Nat.le_trans HS3.out S9))
            · have hne : ¬ (N : Int) = 3 := by omega
              have e : Hid (parseS s = (zeroV, 60)) := by
                show _ = _
                rw [HE.out]
                unfold parseP
                rw [HMK.out, HN.out, decide_eq_false h3, if_neg (by simp)]
              obtain ⟨r0, f0⟩ := block_cell HR2.out 0 _ rfl
              obtain ⟨r1, f1⟩ := block_cell HR2.out 1 _ rfl
              obtain ⟨r2, f2⟩ := block_cell HR2.out 2 _ rfl
              obtain ⟨r3, f3⟩ := block_cell HR2.out 3 _ rfl
              clear h3
              go_wp2
              generalize hw9 : (((w2.setCell ⟨R, 0, none⟩ _).setCell ⟨R, 1, none⟩ _).setCell ⟨R, 2, none⟩ _).setCell ⟨R, 3, none⟩ _ = w9
              obtain ⟨G9, R9, S9, K9⟩ := lay_ver HG2.out (by rw [HR.out]; exact Nat.le_refl _) HR2.out _ _ _ _ w9 hw9
              obtain ⟨q0, _⟩ := block_cell R9 0 _ rfl
              obtain ⟨q1, _⟩ := block_cell R9 1 _ rfl
              obtain ⟨q2, _⟩ := block_cell R9 2 _ rfl
              obtain ⟨q3, _⟩ := block_cell R9 3 _ rfl
              refine bodyPost_ret (v := .tuple #[verV zeroV (.slice none 0 0), .int .i64 60]) (by simp [results, Tryz.results6, go_sem, q0, q1, q2, q3, verV, zeroV]) rfl ⟨.slice none 0 0, by rw [e.out], ?_, G9, fun q h => by cases h⟩
              rw [e.out]
              exact PartS.nil (block_size R9 |> Nat.lt_of_le_of_lt (Nat.zero_le _))
theorem refParse_new (m : Int) (s : ByteArray) (w : World) (hs : s.size ≤ 2000000) : Calls Tryz.prog 6 #[.string s] w (VerNew w (parseS s)) := by
  rcases first_d 45 s s.size (Nat.le_refl _) with h | ⟨i, h1, h2, h3⟩
  · exact refParse_none_new m s w hs h
  · exact refParse_hit_new s w hs i h1 h2 h3
end Go.Proofs.YthdopcdllggdaaaGreatDoor
