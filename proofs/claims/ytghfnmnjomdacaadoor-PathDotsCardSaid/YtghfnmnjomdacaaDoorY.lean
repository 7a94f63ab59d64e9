/- Parent and base of a clean path: as the program tells them, as the reference does. -/
import Derived.Test.YtghfnmnjomdacaaDoorX
namespace Go.Proofs.YtghfnmnjomdacaaDoor
open Go.RowKit

theorem last_bytes (s : ByteArray) (j : Nat) (h : j < s.size) : s.data[j]! = byteAt s j := by
  rw [byteAt_eq s j h]
  have h' : j < s.data.size := h
  rw [getElem!_pos s.data j h']; rfl
theorem last_none (s : ByteArray) (h : NS s) : Lib.lastIndexByte s 47 = -1 := by
  rcases Lib.lastIndexByte_spec s 47 with ⟨e, _⟩ | ⟨i, hi, e, hc, _⟩
  · exact e
  · exfalso
    rw [last_bytes s i hi] at hc
    have hl : s.data.toList.length = s.size := by simp
    refine h (byteAt s i) ?_ (UInt8.toNat_inj.1 (by show _ = 47; omega))
    rw [byteAt_eq s i hi]
    exact (by simp : s.data[i]'hi ∈ s.data.toList)
theorem last_some (a t : ByteArray) (h : NS t) : Lib.lastIndexByte (a ++ slash ++ t) 47 = a.size := by
  have hz : (a ++ slash ++ t).size = a.size + 1 + t.size := by rw [ByteArray.size_append, ByteArray.size_append]; rfl
  have hat : byteAt (a ++ slash ++ t) a.size = 47 := by
    rw [byteAt_eq _ _ (by omega)]
    rw [ByteArray.getElem_append_left (by rw [ByteArray.size_append]; show a.size < a.size + 1; omega), ByteArray.getElem_append_right (Nat.le_refl _)]
    simp [slash]
    rfl
  have hno : ∀ j, a.size < j → j < (a ++ slash ++ t).size → byteAt (a ++ slash ++ t) j ≠ 47 := by
    intro j h1 h2
    rw [byteAt_eq _ _ h2, ByteArray.getElem_append_right (by rw [ByteArray.size_append]; show a.size + 1 ≤ j; omega)]
    refine h _ ?_
    exact (by simp : t.data[j - (a ++ slash).size]'(by rw [ByteArray.size_append]; show j - (a.size + 1) < t.size; omega) ∈ t.data.toList)
  rcases Lib.lastIndexByte_spec (a ++ slash ++ t) 47 with ⟨_, hn⟩ | ⟨i, hi, e, hc, hn⟩
  · have := hn a.size (by omega)
    rw [last_bytes _ _ (by omega), hat] at this
    exact absurd rfl this
  · rw [e]
    rw [last_bytes _ _ hi] at hc
    have hc' : byteAt (a ++ slash ++ t) i = 47 := UInt8.toNat_inj.1 (by show _ = 47; omega)
    rcases Nat.lt_trichotomy i a.size with h1 | h1 | h1
    · have := hn a.size h1 (by omega)
      rw [last_bytes _ _ (by omega), hat] at this
      exact absurd rfl this
    · rw [h1]
    · exact absurd hc' (hno i h1 hi)

set_option maxRecDepth 1000000
set_option maxHeartbeats 1000000 in
theorem parent_none (p : ByteArray) (hp : p.size ≤ 100000) (hq : Lib.lastIndexByte p 47 = -1) (w : World) :
    Calls Tryd.prog 15 #[.string p] w fun e w' => e = .returned (.string ⟨#[]⟩) ∧ w' = w := by
  have HQ := Lib.hid hq
  have he : Hid (p.extract 0 0 = ⟨#[]⟩) := by show _ = _; apply ByteArray.size_eq_zero_iff.1; rw [ByteArray.size_extract]; omega
  clear hq
  go_enter Tryd.func15, Tryd.ntmps15
  go_wp2_with fail
  (with_reducible refine (last_any p (-1) _ hp HQ.out).mono ?_)
  rintro ee w' ⟨rfl, hw'⟩
  rw [hw']
  clear hw' w'
  dsimp only
  go_wp2
  go_ret
  exact ⟨by rw [← he.out]; rfl, rfl⟩
set_option maxRecDepth 1000000
set_option maxHeartbeats 1000000 in
theorem parent_some (p : ByteArray) (n : Nat) (hn : n < p.size) (hp : p.size ≤ 100000) (hq : Lib.lastIndexByte p 47 = n) (w : World) :
    Calls Tryd.prog 15 #[.string p] w fun e w' => e = .returned (.string (p.extract 0 n)) ∧ w' = w := by
  have HQ := Lib.hid hq
  clear hq
  go_enter Tryd.func15, Tryd.ntmps15
  go_wp2_with fail
  (with_reducible refine (last_any p n _ hp HQ.out).mono ?_)
  rintro ee w' ⟨rfl, hw'⟩
  rw [hw']
  clear hw' w'
  dsimp only
  go_wp2
  go_ret
  exact ⟨rfl, rfl⟩
set_option maxRecDepth 1000000
set_option maxHeartbeats 1000000 in
theorem base_none (p : ByteArray) (hp : p.size ≤ 100000) (hq : Lib.lastIndexByte p 47 = -1) (w : World) :
    Calls Tryd.prog 17 #[.string p] w fun e w' => e = .returned (.string p) ∧ w' = w := by
  have HQ := Lib.hid hq
  have he : Hid (p.extract 0 p.size = p) := by show _ = _; exact ByteArray.extract_zero_size
  clear hq
  go_enter Tryd.func17, Tryd.ntmps17
  go_wp2_with fail
  (with_reducible refine (last_any p (-1) _ hp HQ.out).mono ?_)
  rintro ee w' ⟨rfl, hw'⟩
  rw [hw']
  clear hw' w'
  dsimp only
  go_wp2
  go_ret
  exact ⟨by first | rfl | (conv => rhs; rw [← he.out]), rfl⟩
set_option maxRecDepth 1000000
set_option maxHeartbeats 1000000 in
theorem base_some (p : ByteArray) (n : Nat) (hn : n < p.size) (hp : p.size ≤ 100000) (hq : Lib.lastIndexByte p 47 = n) (w : World) :
    Calls Tryd.prog 17 #[.string p] w fun e w' => e = .returned (.string (p.extract (n + 1) p.size)) ∧ w' = w := by
  have HQ := Lib.hid hq
  clear hq
  go_enter Tryd.func17, Tryd.ntmps17
  go_wp2_with fail
  (with_reducible refine (last_any p n _ hp HQ.out).mono ?_)
  rintro ee w' ⟨rfl, hw'⟩
  rw [hw']
  clear hw' w'
  dsimp only
  go_wp2
  go_ret
  exact ⟨rfl, rfl⟩

/-- The last part, or nothing. -/
def lastB (L : List ByteArray) : ByteArray := L.getLast?.getD ⟨#[]⟩
theorem list_end (L : List ByteArray) (h : L ≠ []) : ∃ A t, L = A ++ [t] := ⟨L.dropLast, L.getLast h, (List.dropLast_concat_getLast h).symm⟩
theorem extract_left (a b : ByteArray) : (a ++ b).extract 0 a.size = a := by
  apply ByteArray.ext
  simp [← ByteArray.size_data]
theorem extract_right (a b : ByteArray) : (a ++ b).extract a.size (a ++ b).size = b := by
  apply ByteArray.ext
  simp [← ByteArray.size_data]
theorem parent_clean (L : List ByteArray) (h : ∀ p ∈ L, Part p) (p : ByteArray) (he : joinB L = p) (hp : p.size ≤ 100000) (w : World) :
    Calls Tryd.prog 15 #[.string p] w fun e w' => e = .returned (.string (joinB L.dropLast)) ∧ w' = w := by
  by_cases h0 : L = []
  · subst h0
    exact parent_none p hp (by rw [← he]; decide) w
  · obtain ⟨A, t, rfl⟩ := list_end L h0
    have ht : Part t := h t (by simp)
    rw [List.dropLast_concat]
    by_cases hA : A = []
    · subst hA
      rw [List.nil_append, joinB_one] at he
      rw [joinB_nil]
      exact parent_none p hp (by rw [← he]; exact last_none t ht.ns) w
    · rw [joinB_snoc A t hA] at he
      have hl := last_some (joinB A) t ht.ns
      have hz : (joinB A ++ slash ++ t).size = (joinB A).size + 1 + t.size := by rw [ByteArray.size_append, ByteArray.size_append]; rfl
      rw [he] at hl hz
      have hx : p.extract 0 (joinB A).size = joinB A := by rw [← he, ByteArray.append_assoc]; exact extract_left _ _
      have := parent_some p (joinB A).size (by omega) hp hl w
      rwa [hx] at this
theorem base_clean (L : List ByteArray) (h : ∀ p ∈ L, Part p) (p : ByteArray) (he : joinB L = p) (hp : p.size ≤ 100000) (w : World) :
    Calls Tryd.prog 17 #[.string p] w fun e w' => e = .returned (.string (lastB L)) ∧ w' = w := by
  by_cases h0 : L = []
  · subst h0
    have := base_none p hp (by rw [← he]; decide) w
    rw [← he] at this ⊢
    exact this
  · obtain ⟨A, t, rfl⟩ := list_end L h0
    have ht : Part t := h t (by simp)
    have hlb : lastB (A ++ [t]) = t := by unfold lastB; simp
    rw [hlb]
    by_cases hA : A = []
    · subst hA
      rw [List.nil_append, joinB_one] at he
      subst he
      exact base_none t hp (last_none t ht.ns) w
    · rw [joinB_snoc A t hA] at he
      have hl := last_some (joinB A) t ht.ns
      have hz : (joinB A ++ slash ++ t).size = (joinB A).size + 1 + t.size := by rw [ByteArray.size_append, ByteArray.size_append]; rfl
      rw [he] at hl hz
      have hx : p.extract ((joinB A).size + 1) p.size = t := by
        have := extract_right (joinB A ++ slash) t
        rw [he, ByteArray.size_append] at this
        exact this
      have := base_some p (joinB A).size (by omega) hp hl w
      rwa [hx] at this

theorem PartS.short {w : World} {B n cap : Nat} {a : Option Addr} {L : List ByteArray} (h : PartS w B (.slice a n cap) L) (hn : L.length = n) : PartS w B (.slice a (n - 1) cap) L.dropLast := by
  obtain ⟨a', cap', b, o, h1, h2, h3, h4, h5, h6⟩ := h
  have e := Value.slice.inj h1
  have hl : L.dropLast.length = n - 1 := by rw [List.length_dropLast, hn]
  refine ⟨a, cap, b, o, by rw [hl], by rw [hl]; have := e.2.2; omega, fun hh => by rw [e.2.2]; exact h3 (by rw [← e.1, hh]), h4, fun hh => by rw [e.1]; exact h5 (by omega), fun j x hj => h6 j x ?_⟩
  have hj2 := (List.getElem?_eq_some_iff.1 hj).1
  rw [List.dropLast_eq_take, List.getElem?_take, if_pos (by omega)] at hj
  exact hj

set_option maxRecDepth 1000000
set_option maxHeartbeats 1000000 in
theorem refParent_clean (L : List ByteArray) (p : ByteArray) (hL : partsS p = L) (hp : p.size ≤ 200) (hl : L.length ≤ 12) (hs : sumS L ≤ 100000) (w : World) (hw : 0 < w.heap.size) :
    Calls Tryd.prog 16 #[.string p] w fun e w' => e = .returned (.string (joinB L.dropLast)) ∧ w.grownBy w' none := by
  obtain ⟨r, hr⟩ : ∃ r, L.length = r := ⟨_, rfl⟩
  have HL := Lib.hid hL
  have HR := Lib.hid hr
  have HW := Lib.hid hw
  have HP5 := Lib.hid (show p.size ≤ 100000 by omega)
  clear hL hw
  by_cases h0 : r = 0
  · have h1 : L = [] := List.eq_nil_of_length_eq_zero (by omega)
    subst h0
    have e : Hid (joinB L.dropLast = ⟨#[]⟩) := by show _ = _; rw [h1]; rfl
    clear h1 hr
    go_enter Tryd.func16, Tryd.ntmps16
    go_wp2_with fail
    (with_reducible refine (refparts_at p L 0 HP5.out _ HW.out HL.out HR.out).mono ?_)
    rintro ee w1 ⟨a, cap, rfl, hc1, hc2, hf, hg⟩
    dsimp only
    have HF := Lib.hid hf
    have HG := Lib.hid hg
    clear hf hg
    go_wp2
    go_ret
    exact ⟨by rw [e.out]; rfl, HG.out⟩
  · have hpos : 0 < (r : Int) := by omega
    have hne : ((r : Int) == 0) = false := by simp; omega
    have hr12 : r ≤ 12 := by omega
    have HS := Lib.hid (show sumS L.dropLast ≤ 100000000 by have := sumS_drop L; omega)
    have HDL := Lib.hid (show L.dropLast.length = r - 1 by rw [List.length_dropLast, hr])
    clear hr
    go_enter Tryd.func16, Tryd.ntmps16
    go_wp2_with fail
    (with_reducible refine (refparts_at p L r HP5.out _ HW.out HL.out HR.out).mono ?_)
    rintro ee w1 ⟨a, cap, rfl, hc1, hc2, hf, hg⟩
    dsimp only
    have HF := Lib.hid (hf.short HR.out)
    have HG := Lib.hid hg
    clear hf hg
    go_wp2_with fail
    (with_reducible refine (glue_any _ (r - 1) cap a L.dropLast _ HDL.out (by omega) HS.out HF.out).mono ?_)
    rintro ee w' ⟨rfl, hw'⟩
    rw [hw']
    clear hw' w'
    dsimp only
    go_wp2
    go_ret
    exact ⟨rfl, HG.out⟩

set_option maxRecDepth 1000000
set_option maxHeartbeats 1000000 in
theorem refBase_clean (L : List ByteArray) (p : ByteArray) (hL : partsS p = L) (hp : p.size ≤ 200) (hl : L.length ≤ 12) (w : World) (hw : 0 < w.heap.size) :
    Calls Tryd.prog 18 #[.string p] w fun e w' => e = .returned (.string (lastB L)) ∧ w.grownBy w' none := by
  have HL := Lib.hid hL
  have HW := Lib.hid hw
  have HP5 := Lib.hid (show p.size ≤ 100000 by omega)
  clear hL hw
  by_cases h0 : L = []
  · have e : Hid (lastB L = ⟨#[]⟩) := by show _ = _; rw [h0]; rfl
    have HR := Lib.hid (show L.length = 0 by rw [h0]; rfl)
    clear h0
    go_enter Tryd.func18, Tryd.ntmps18
    go_wp2_with fail
    (with_reducible refine (refparts_at p L 0 HP5.out _ HW.out HL.out HR.out).mono ?_)
    rintro ee w1 ⟨a, cap, rfl, hc1, hc2, hf, hg⟩
    dsimp only
    have HG := Lib.hid hg
    clear hf hg
    go_wp2
    go_ret
    exact ⟨by rw [e.out]; rfl, HG.out⟩
  · obtain ⟨A, t, hA⟩ := list_end L h0
    obtain ⟨r, hr⟩ : ∃ r, A.length = r := ⟨_, rfl⟩
    have HR := Lib.hid (show L.length = r + 1 by rw [hA, List.length_append, hr]; rfl)
    have e : Hid (lastB L = t) := by show _ = _; rw [hA]; unfold lastB; simp
    have hr12 : r ≤ 12 := by have := HR.out; omega
    have HLt := Lib.hid (show L[r]? = some t by rw [hA, ← hr]; simp)
    have hne : (((r + 1 : Nat) : Int) == 0) = false := by simp; omega
    clear h0 hA hr hl
    go_enter Tryd.func18, Tryd.ntmps18
    go_wp2_with fail
    (with_reducible refine (refparts_at p L (r + 1) HP5.out _ HW.out HL.out HR.out).mono ?_)
    rintro ee w1 ⟨a, cap, rfl, hc1, hc2, hf, hg⟩
    dsimp only
    obtain ⟨b, o, e1, g1⟩ : ∃ b o, a = some ⟨b, o, none⟩ ∧ w1.cell? ⟨b, o + r, none⟩ = some (.string t) := by
      obtain ⟨a', cap', b, o, f1, f2, f3, f4, f5, f6⟩ := hf
      have e := Value.slice.inj f1
      exact ⟨b, o, by rw [e.1]; exact f5 (by have := HR.out; omega), f6 r t HLt.out⟩
    subst e1
    have HG := Lib.hid hg
    clear hf hg
    go_wp2
    go_ret
    exact ⟨by rw [e.out]; rfl, HG.out⟩
end Go.Proofs.YtghfnmnjomdacaaDoor
