/- Marks held against one another: as package ver does it. -/
import Derived.Test.YtkngfkjnohbbiaaDoorVl
namespace Go.Proofs.YtkngfkjnohbbiaaDoor
open Go.RowKit

set_option maxRecDepth 1000000
set_option maxHeartbeats 2000000 in
theorem cmpMark_any (x y : ByteArray) (hx : x.size ≤ 8000000) (hy : y.size ≤ 8000000) (w : World) :
    Calls Tryd.prog 51 #[.string x, .string y] w fun e w' => e = .returned (.int .i64 (cmpMk x y)) ∧ w.grownBy w' none := by
  obtain ⟨b1, h1⟩ : ∃ b, allDig x = b := ⟨_, rfl⟩
  obtain ⟨b2, h2⟩ : ∃ b, allDig y = b := ⟨_, rfl⟩
  have e : Hid (cmpMk x y = if b1 = true then (if b2 = true then orI (Lib.compareInt x.size y.size) (cmpB x y) else -1) else if b2 = true then 1 else cmpB x y) := by show _ = _; unfold cmpMk; rw [h1, h2]
  have H1 := Lib.hid h1
  have H2 := Lib.hid h2
  have hx9 : x.size ≤ 9223372036854775807 := by omega
  have hy9 : y.size ≤ 9223372036854775807 := by omega
  clear h1 h2
  go_enter Tryd.func51, Tryd.ntmps51
  go_wp2_with fail
  (with_reducible refine (allDig_any x hx9 _).mono ?_)
  rintro ee w1 ⟨rfl, g1⟩
  dsimp only
  rw [H1.out]
  have G1 := Lib.hid g1
  clear g1
  go_wp2_with fail
  (with_reducible refine (allDig_any y hy9 _).mono ?_)
  rintro ee w2 ⟨rfl, g2⟩
  dsimp only
  rw [H2.out]
  have G2 := Lib.hid (World.grownBy.trans G1.out g2)
  clear g2
  cases b1 with
  | true =>
    cases b2 with
    | true =>
      have e2 : Hid (cmpMk x y = orI (Lib.compareInt x.size y.size) (cmpB x y)) := e.out
      go_wp2_with fail
      (with_reducible refine (Tryd.cmp_Compare_int _ _ _).mono ?_)
      rintro ee w' ⟨rfl, hw'⟩
      rw [hw']
      clear hw' w'
      dsimp only
      go_wp2_with fail
      (with_reducible refine (cmpStr_any x y _).mono ?_)
      rintro ee w' ⟨rfl, hw'⟩
      rw [hw']
      clear hw' w'
      dsimp only
      obtain ⟨p, hp⟩ : ∃ p, Lib.compareInt (x.size : Int) (y.size : Int) = p := ⟨_, rfl⟩
      obtain ⟨q, hq⟩ : ∃ q, cmpB x y = q := ⟨_, rfl⟩
      rw [hp, hq] at e2 ⊢
      clear hp hq e
      have hcells : Hid (∀ (j : Nat) (z : Int), [p, q][j]? = some z → (w2.alloc (.cells #[.int .i64 p, .int .i64 q] 3)).cell? ⟨w2.heap.size, 0 + j, none⟩ = some (.int .i64 z)) := by
        intro j z hj
        have hl := (List.getElem?_eq_some_iff.1 hj).1
        have h0 : j < 2 := by simpa using hl
        rw [Nat.zero_add, alloc_cell]
        match j, h0 with
        | 0, _ => have e : p = z := by simpa using hj
                  rw [e]; rfl
        | 1, _ => have e : q = z := by simpa using hj
                  rw [e]; rfl
      go_wp2_with fail
      (with_reducible refine (or_any w2.heap.size 0 2 2 [p, q] rfl (by omega) _ hcells.out).mono ?_)
      rintro ee w' ⟨rfl, hw'⟩
      rw [hw']
      clear hw' w'
      dsimp only
      have e3 : Hid (cmpMk x y = orL [p, q]) := by
        show _ = _
        rw [e2.out]
        unfold orI orL
        by_cases h : p = 0
        · rw [if_pos h, if_pos h]
          show q = if q = 0 then orL [] else q
          by_cases h : q = 0
          · rw [if_pos h, h]; rfl
          · rw [if_neg h]
        · rw [if_neg h, if_neg h]
      go_wp2
      go_ret
      exact ⟨by rw [e3.out]; rfl, grown_alloc _ G2.out⟩
    | false =>
      have e2 : Hid (cmpMk x y = -1) := e.out
      go_wp2
      go_ret
      exact ⟨by rw [e2.out]; rfl, G2.out⟩
  | false =>
    cases b2 with
    | true =>
      have e2 : Hid (cmpMk x y = 1) := e.out
      go_wp2
      go_ret
      exact ⟨by rw [e2.out]; rfl, G2.out⟩
    | false =>
      have e2 : Hid (cmpMk x y = cmpB x y) := e.out
      go_wp2_with fail
      (with_reducible refine (cmpStr_any x y _).mono ?_)
      rintro ee w' ⟨rfl, hw'⟩
      rw [hw']
      clear hw' w'
      dsimp only
      go_wp2
      go_ret
      exact ⟨by rw [e2.out]; rfl, G2.out⟩
end Go.Proofs.YtkngfkjnohbbiaaDoor
