/- Whether a path is below another one: as the program tells it, as the reference does. -/
import Derived.Test.YtghfnmnjomdacaaDoorU
namespace Go.Proofs.YtghfnmnjomdacaaDoor
open Go.RowKit

theorem eq_list (x : ByteArray) (l : List UInt8) (h : x = ⟨l.toArray⟩) : x.toList = l := by
  rw [h, ByteArray.toList_eq]
theorem ne_lists (x y : ByteArray) (h : ¬ x = y) : ¬ x.toList = y.toList := by
  intro e
  apply h
  rw [ByteArray.toList_eq, ByteArray.toList_eq] at e
  apply ByteArray.ext
  apply Array.ext'
  rw [e]
theorem nb_lists (x y : ByteArray) (h : ¬ x = y) : (x.toList == y.toList) = false := by
  rw [beq_eq_false_iff_ne]; exact ne_lists x y h

set_option maxRecDepth 1000000
set_option maxHeartbeats 1000000 in
theorem within_any (p d : ByteArray) (hd : d.size ≤ 100000) (w : World) :
    Calls Tryd.prog 19 #[.string p, .string d] w fun e w' => e = .returned (.bool (withinS p d)) ∧ w' = w := by
  by_cases h0 : d = ⟨#[]⟩
  · have e : Hid (withinS p d = true) := by show _ = _; unfold withinS; simp [h0]
    subst h0
    go_enter Tryd.func19, Tryd.ntmps19
    go_wp2
    go_ret
    exact ⟨by rw [e.out]; rfl, rfl⟩
  · have c1 := empty_no d h0
    have d1 := ne_list d [] h0
    by_cases h1 : p = d
    · have e : Hid (withinS p d = true) := by show _ = _; unfold withinS; simp [h1]
      subst h1
      clear h0
      go_enter Tryd.func19, Tryd.ntmps19
      go_wp2
      go_ret
      exact ⟨by rw [e.out]; rfl, rfl⟩
    · obtain ⟨b, hb⟩ : ∃ b, Lib.hasPrefix p.data.toList (d ++ slash).data.toList = b := ⟨_, rfl⟩
      have e : Hid (withinS p d = b) := by show _ = _; unfold withinS; simp [h0, h1, ← hb]
      have c2 := nb_lists p d h1
      have d2 := ne_lists p d h1
      have HB := Lib.hid hb
      have q1 : d.size + 1 ≤ 9223372036854775807 := by omega
      clear h0 h1 hb
      go_enter Tryd.func19, Tryd.ntmps19
      go_wp2_with fail
      (with_reducible refine (has_at p (d ++ ⟨#[47]⟩) b _ HB.out).mono ?_)
      rintro ee w' ⟨rfl, hw'⟩
      rw [hw']
      clear hw' w'
      dsimp only
      go_wp2
      go_ret
      exact ⟨by rw [e.out]; rfl, rfl⟩

theorem below_eq (p d : ByteArray) (h : d.size < p.size) : Lib.hasPrefix p.data.toList (d ++ slash).data.toList = (decide (p.extract 0 d.size = d) && (byteAt p d.size == 47)) := by
  have hd : (d ++ slash).data.toList = d.data.toList ++ [47] := by simp [slash]
  have hl : p.data.toList.length = p.size := by simp
  have hm : d.data.toList.length = d.size := by simp
  have hb : p.data.toList[d.size]'(by omega) = byteAt p d.size := by
    unfold byteAt
    rw [List.getD_eq_getElem?_getD, List.getElem?_eq_getElem (by omega)]; rfl
  rw [← Lib.hasPrefix_of_take, hd, List.length_append, hm, hl]
  rw [show ([47] : List UInt8).length = 1 from rfl, decide_eq_true (by omega), Bool.true_and, List.take_succ_eq_append_getElem (by omega), hb]
  have he : p.extract 0 d.size = d ↔ p.data.toList.take d.size = d.data.toList := by
    rw [← Lib.extract_from_zero]
    constructor
    · intro e; rw [e]
    · intro e
      apply ByteArray.ext
      exact Array.ext' e
  rw [Bool.eq_iff_iff, beq_iff_eq, Bool.and_eq_true, decide_eq_true_eq, beq_iff_eq, he]
  constructor
  · intro e
    have := List.append_inj e (by rw [List.length_take]; omega)
    exact ⟨this.1, by simpa using this.2⟩
  · rintro ⟨e1, e2⟩
    rw [e1, e2]
theorem below_no (p d : ByteArray) (h : ¬ d.size < p.size) : Lib.hasPrefix p.data.toList (d ++ slash).data.toList = false := by
  rw [← Lib.hasPrefix_of_take]
  have hd : (d ++ slash).data.toList.length = d.size + 1 := by simp [slash]
  have hl : p.data.toList.length = p.size := by simp
  rw [decide_eq_false (by omega), Bool.false_and]

set_option maxRecDepth 1000000
set_option maxHeartbeats 1000000 in
theorem refwithin_any (p d : ByteArray) (hp : p.size ≤ 100000) (hd : d.size ≤ 100000) (w : World) :
    Calls Tryd.prog 20 #[.string p, .string d] w fun e w' => e = .returned (.bool (withinS p d)) ∧ w' = w := by
  by_cases h0 : d = ⟨#[]⟩
  · have e : Hid (withinS p d = true) := by show _ = _; unfold withinS; simp [h0]
    subst h0
    go_enter Tryd.func20, Tryd.ntmps20
    go_wp2
    go_ret
    exact ⟨by rw [e.out]; rfl, rfl⟩
  · have c1 := empty_no d h0
    have d1 := ne_list d [] h0
    by_cases h1 : p = d
    · have e : Hid (withinS p d = true) := by show _ = _; unfold withinS; simp [h1]
      subst h1
      clear h0
      go_enter Tryd.func20, Tryd.ntmps20
      go_wp2
      go_ret
      exact ⟨by rw [e.out]; rfl, rfl⟩
    · have c2 := nb_lists p d h1
      have d2 := ne_lists p d h1
      by_cases h2 : d.size < p.size
      · have h3 : (d.size : Int) < (p.size : Int) := by omega
        by_cases h4 : p.extract 0 d.size = d
        · obtain ⟨c, hc⟩ : ∃ c, byteAt p d.size = c := ⟨_, rfl⟩
          have e : Hid (withinS p d = (c == 47)) := by
            show _ = _; unfold withinS; rw [below_eq p d h2]; simp [h0, h1, h4, hc]
          have hc2 : p[d.size]'h2 = c := by rw [← byteAt_eq]; exact hc
          have HC := Lib.hid hc
          by_cases hb : c = 47
          · subst hb
            clear h0 h1 hc
            go_enter Tryd.func20, Tryd.ntmps20
            go_wp2
            go_ret
            exact ⟨by rw [e.out]; rfl, rfl⟩
          · have hb' : ¬ (c.toNat : Int) = 47 := by
              intro e; apply hb; apply UInt8.toNat_inj.1; show c.toNat = 47; omega
            have b1 := beq_no c.toNat 47 hb'
            have e2 : Hid (withinS p d = false) := by show _ = _; rw [e.out]; simpa using hb
            clear h0 h1 hc hb e
            go_enter Tryd.func20, Tryd.ntmps20
            go_wp2
            go_ret
            exact ⟨by rw [e2.out]; rfl, rfl⟩
        · have e : Hid (withinS p d = false) := by
            show _ = _; unfold withinS; rw [below_eq p d h2]; simp [h0, h1, h4]
          have c3 := nb_lists _ _ h4
          have d3 := ne_lists _ _ h4
          clear h0 h1 h2 h4
          go_enter Tryd.func20, Tryd.ntmps20
          go_wp2
          go_ret
          exact ⟨by rw [e.out]; rfl, rfl⟩
      · have h3 : decide (d.size < p.size) = false := by simp; omega
        have e : Hid (withinS p d = false) := by
          show _ = _; unfold withinS; rw [below_no p d h2]; simp [h0, h1]
        clear h0 h1 h2
        go_enter Tryd.func20, Tryd.ntmps20
        go_wp2
        go_ret
        exact ⟨by rw [e.out]; rfl, rfl⟩
end Go.Proofs.YtghfnmnjomdacaaDoor
