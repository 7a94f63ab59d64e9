/- Whether two lists, two versions are alike. -/
import Derived.Test.YtmjfeiddllagcaaDoorBk
import Derived.Test.YtmjfeiddllagcaaDoorQt
import Derived.RegionTactic
import Derived.ChangeAlike
namespace Go.Proofs.YtmjfeiddllagcaaDoor
open Go.RowKit

/-- How far two lists are alike. -/
theorem list_diff (L M : List ByteArray) (h : L.length = M.length) (hd : ¬ L = M) : ∃ (i : Nat) (x y : ByteArray), L[i]? = some x ∧ M[i]? = some y ∧ ¬ x = y ∧ ∀ j, j < i → L[j]? = M[j]? := by
  induction L generalizing M with
  | nil =>
    have : M = [] := List.eq_nil_of_length_eq_zero h.symm
    exact absurd this.symm hd
  | cons a L ih =>
    cases M with
    | nil => simp at h
    | cons b M =>
      by_cases hab : a = b
      · subst hab
        obtain ⟨i, x, y, h1, h2, h3, h4⟩ := ih M (by simpa using h) (fun e => hd (by rw [e]))
        refine ⟨i + 1, x, y, by simpa using h1, by simpa using h2, h3, fun j hj => ?_⟩
        cases j with
        | zero => rfl
        | succ j => simpa using h4 j (by omega)
      · exact ⟨0, a, b, rfl, rfl, hab, fun j hj => by omega⟩

set_option maxRecDepth 1000000
set_option maxHeartbeats 1000000 in
theorem strings_any (B C n1 n2 c1 c2 : Nat) (a1 a2 : Option Addr) (L M : List ByteArray) (w : World) (hn1 : L.length = n1) (hn2 : M.length = n2) (hb : n1 ≤ 8000000) (hb2 : n2 ≤ 8000000) (h1 : PartS w B (.slice a1 n1 c1) L) (h2 : PartS w C (.slice a2 n2 c2) M) :
    Calls Tryd.prog 15 #[.slice a1 n1 c1, .slice a2 n2 c2] w fun e w' => e = .returned (.bool (decide (L = M))) ∧ w.grownBy w' none := by
  by_cases hl : n1 = n2
  · subst hl
    have HN1 := Lib.hid hn1
    have HN2 := Lib.hid hn2
    have H1 := Lib.hid h1
    have H2 := Lib.hid h2
    clear hn1 hn2 h1 h2
    by_cases he : L = M
    · subst he
      have e : Hid (decide (L = L) = true) := by show _ = _; simp
      go_enter Tryd.func15, Tryd.ntmps15
      go_wp2
      go_loopw [5] (fun i wr => ∃ k : Nat, k ≤ n1 ∧ i = .int .i64 k ∧ w.grownBy wr none) (fun i _ => n1 - (intOf i).toNat)
      case atStart => exact ⟨0, Nat.zero_le _, rfl, World.grownBy.refl _ _⟩
      case round =>
        obtain ⟨k, hk, rfl, hg⟩ := hrel
        by_cases hlt : k < n1
        · obtain ⟨x, hx⟩ : ∃ x, L[k]? = some x := ⟨_, List.getElem?_eq_getElem (by rw [HN1.out]; exact hlt)⟩
          obtain ⟨b1, o1, e1, _, g1⟩ := (H1.out.stays hg).at k x hx
          obtain ⟨b2, o2, e2, _, g2⟩ := (H2.out.stays hg).at k x hx
          subst e1 e2
          have HG := Lib.hid hg
          clear hg hx
          go_wp2
          go_region
          go_wp2
          go_roundw
          case rel => exact ⟨k + 1, by omega, by go_num, ⟨HG.out.os, HG.out.tape, HG.out.output, HG.out.size, HG.out.block⟩⟩
          case measure => simp [intOf]; omega
        · have hkn : k = n1 := by omega
          subst hkn
          clear hlt hk
          have HG := Lib.hid hg
          clear hg
          go_wp2
          go_ret
          exact ⟨by rw [e.out]; rfl, HG.out⟩
    · obtain ⟨i, x, y, hx, hy, hne, hpre⟩ := list_diff L M (by rw [HN1.out, HN2.out]) he
      have e : Hid (decide (L = M) = false) := by show _ = _; simp [he]
      have hi : i < n1 := by
        have := (List.getElem?_eq_some_iff.1 hx).1
        have := HN1.out
        omega
      have HX := Lib.hid hx
      have HY := Lib.hid hy
      have HPRE := Lib.hid hpre
      have c3 := nb_lists x y hne
      have d3 := ne_lists x y hne
      clear he hx hy hne hpre
      go_enter Tryd.func15, Tryd.ntmps15
      go_wp2
      go_loopw [5] (fun j wr => ∃ k : Nat, k ≤ i ∧ j = .int .i64 k ∧ w.grownBy wr none) (fun j _ => n1 - (intOf j).toNat)
      case atStart => exact ⟨0, Nat.zero_le _, rfl, World.grownBy.refl _ _⟩
      case round =>
        obtain ⟨k, hk, rfl, hg⟩ := hrel
        have hkn : k < n1 := by omega
        by_cases hlt : k < i
        · obtain ⟨z, hz⟩ : ∃ z, L[k]? = some z := ⟨_, List.getElem?_eq_getElem (by rw [HN1.out]; exact hkn)⟩
          have hz2 : M[k]? = some z := by rw [← HPRE.out k hlt]; exact hz
          obtain ⟨b1, o1, e1, _, g1⟩ := (H1.out.stays hg).at k z hz
          obtain ⟨b2, o2, e2, _, g2⟩ := (H2.out.stays hg).at k z hz2
          subst e1 e2
          have HG := Lib.hid hg
          clear hg hz hz2
          go_wp2
          go_region
          go_wp2
          go_roundw
          case rel => exact ⟨k + 1, by omega, by go_num, ⟨HG.out.os, HG.out.tape, HG.out.output, HG.out.size, HG.out.block⟩⟩
          case measure => simp [intOf]; omega
        · have hki : k = i := by omega
          subst hki
          obtain ⟨b1, o1, e1, _, g1⟩ := (H1.out.stays hg).at k x HX.out
          obtain ⟨b2, o2, e2, _, g2⟩ := (H2.out.stays hg).at k y HY.out
          subst e1 e2
          have HG := Lib.hid hg
          clear hg hlt hk
          go_wp2
          go_region
          go_wp2
          go_ret
          exact ⟨by rw [e.out]; rfl, ⟨HG.out.os, HG.out.tape, HG.out.output, HG.out.size, HG.out.block⟩⟩
  · have e : Hid (decide (L = M) = false) := by
      show _ = _
      simp only [decide_eq_false_iff_not]
      intro e
      rw [e] at hn1
      omega
    have hne : ((n1 : Int) == (n2 : Int)) = false := by simp; omega
    have hne2 : ¬ (n1 : Int) = (n2 : Int) := by omega
    have hne3 : (n1 == n2) = false := by simp; omega
    have hne4 : ¬ n1 = n2 := hl
    clear hn1 hn2 h1 h2 hl
    go_enter Tryd.func15, Tryd.ntmps15
    go_wp2
    go_ret
    exact ⟨by rw [e.out]; rfl, World.grownBy.refl _ _⟩
end Go.Proofs.YtmjfeiddllagcaaDoor
