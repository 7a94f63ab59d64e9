/- The next version: as package ver tells it, as the reference does. -/
import Derived.Test.YtkngfkjnohbbiaaDoorVp
namespace Go.Proofs.YtkngfkjnohbbiaaDoor
open Go.RowKit

/-- THE DOCUMENT's NEXT VERSION. -/
def nextS (v : Vn) (part : Int) : Vn :=
  if part = 0 then (if v.maj < 999999999 then ⟨v.maj + 1, 0, 0, []⟩ else ⟨v.maj, v.min, v.pat, []⟩)
  else if part = 1 then (if v.min < 999999999 then ⟨v.maj, v.min + 1, 0, []⟩ else ⟨v.maj, v.min, v.pat, []⟩)
  else (if v.pat < 999999999 then ⟨v.maj, v.min, v.pat + 1, []⟩ else ⟨v.maj, v.min, v.pat, []⟩)

set_option maxRecDepth 1000000
set_option maxHeartbeats 2000000 in
theorem next_any (B : Nat) (v : Vn) (sl : Value) (part : Int) (w : World) (hv : VerAt w B v sl) :
    Calls Tryd.prog 18 #[verV v sl, .int .i64 part] w fun e w' => e = .returned (verV (nextS v part) (.slice none 0 0)) ∧ w.grownBy w' none := by
  obtain ⟨a, b, c, pre⟩ := v
  obtain ⟨ad, cap, hsl, hcap, hno⟩ := hv.part.form
  subst hsl
  have ha := hv.maj
  have hb := hv.min
  have hc := hv.pat
  simp only at ha hb hc
  clear hv hcap hno
  obtain ⟨n, hn⟩ : ∃ n, pre.length = n := ⟨_, rfl⟩
  unfold verV
  simp only
  rw [hn]
  clear hn
  by_cases p0 : part = 0
  · subst p0
    by_cases m : a < 999999999
    · have e : nextS ⟨a, b, c, pre⟩ 0 = ⟨a + 1, 0, 0, []⟩ := by unfold nextS; simp [m]
      rw [e]
      simp only
      clear e
      go_enter Tryd.func18, Tryd.ntmps18
      go_wp2
      refine bodyPost_ret (v := .agg #[.int .i64 (a + 1), .int .i64 0, .int .i64 0, .slice none 0 0]) (by simp [results, Tryd.results18, go_sem]) rfl ⟨rfl, ?_⟩
      first
        | exact grown_alloc _ (grown_alloc _ (World.grownBy_alloc w _ none))
        | exact grown_alloc _ (World.grownBy_alloc w _ none)
    · have e : nextS ⟨a, b, c, pre⟩ 0 = ⟨a, b, c, []⟩ := by unfold nextS; simp [m]
      rw [e]
      simp only
      clear e
      have md : decide (a < 999999999) = false := by simp; omega
      clear m
      go_enter Tryd.func18, Tryd.ntmps18
      go_wp2
      refine bodyPost_ret (v := .agg #[.int .i64 a, .int .i64 b, .int .i64 c, .slice none 0 0]) (by simp [results, Tryd.results18, go_sem]) rfl ⟨rfl, ?_⟩
      first
        | exact grown_alloc _ (grown_alloc _ (World.grownBy_alloc w _ none))
        | exact grown_alloc _ (World.grownBy_alloc w _ none)
  · have n0 : (part == 0) = false := by simp [p0]
    by_cases p1 : part = 1
    · subst p1
      by_cases m : b < 999999999
      · have e : nextS ⟨a, b, c, pre⟩ 1 = ⟨a, b + 1, 0, []⟩ := by unfold nextS; simp [m]
        rw [e]
        simp only
        clear e
        go_enter Tryd.func18, Tryd.ntmps18
        go_wp2
        refine bodyPost_ret (v := .agg #[.int .i64 a, .int .i64 (b + 1), .int .i64 0, .slice none 0 0]) (by simp [results, Tryd.results18, go_sem]) rfl ⟨rfl, ?_⟩
        first
          | exact grown_alloc _ (grown_alloc _ (World.grownBy_alloc w _ none))
          | exact grown_alloc _ (World.grownBy_alloc w _ none)
      · have e : nextS ⟨a, b, c, pre⟩ 1 = ⟨a, b, c, []⟩ := by unfold nextS; simp [m]
        rw [e]
        simp only
        clear e
        have md : decide (b < 999999999) = false := by simp; omega
        clear m
        go_enter Tryd.func18, Tryd.ntmps18
        go_wp2
        refine bodyPost_ret (v := .agg #[.int .i64 a, .int .i64 b, .int .i64 c, .slice none 0 0]) (by simp [results, Tryd.results18, go_sem]) rfl ⟨rfl, ?_⟩
        first
          | exact grown_alloc _ (grown_alloc _ (World.grownBy_alloc w _ none))
          | exact grown_alloc _ (World.grownBy_alloc w _ none)
    · have n1 : (part == 1) = false := by simp [p1]
      have n2 : (part != 0) = true := by simp [p0]
      have n3 : (part != 1) = true := by simp [p1]
      by_cases m : c < 999999999
      · have e : nextS ⟨a, b, c, pre⟩ part = ⟨a, b, c + 1, []⟩ := by unfold nextS; simp [m, p0, p1]
        rw [e]
        simp only
        clear e
        go_enter Tryd.func18, Tryd.ntmps18
        go_wp2
        refine bodyPost_ret (v := .agg #[.int .i64 a, .int .i64 b, .int .i64 (c + 1), .slice none 0 0]) (by simp [results, Tryd.results18, go_sem]) rfl ⟨rfl, ?_⟩
        first
          | exact grown_alloc _ (grown_alloc _ (World.grownBy_alloc w _ none))
          | exact grown_alloc _ (World.grownBy_alloc w _ none)
      · have e : nextS ⟨a, b, c, pre⟩ part = ⟨a, b, c, []⟩ := by unfold nextS; simp [m, p0, p1]
        rw [e]
        simp only
        clear e
        have md : decide (c < 999999999) = false := by simp; omega
        clear m
        go_enter Tryd.func18, Tryd.ntmps18
        go_wp2
        refine bodyPost_ret (v := .agg #[.int .i64 a, .int .i64 b, .int .i64 c, .slice none 0 0]) (by simp [results, Tryd.results18, go_sem]) rfl ⟨rfl, ?_⟩
        first
          | exact grown_alloc _ (grown_alloc _ (World.grownBy_alloc w _ none))
          | exact grown_alloc _ (World.grownBy_alloc w _ none)

set_option maxRecDepth 1000000
set_option maxHeartbeats 2000000 in
theorem refNext_any (B : Nat) (v : Vn) (sl : Value) (part : Int) (w : World) (hv : VerAt w B v sl) :
    Calls Tryd.prog 19 #[verV v sl, .int .i64 part] w fun e w' => e = .returned (verV (nextS v part) (.slice none 0 0)) ∧ w.grownBy w' none := by
  obtain ⟨a, b, c, pre⟩ := v
  obtain ⟨ad, cap, hsl, hcap, hno⟩ := hv.part.form
  subst hsl
  have ha := hv.maj
  have hb := hv.min
  have hc := hv.pat
  simp only at ha hb hc
  clear hv hcap hno
  obtain ⟨n, hn⟩ : ∃ n, pre.length = n := ⟨_, rfl⟩
  unfold verV
  simp only
  rw [hn]
  clear hn
  by_cases p0 : part = 0
  · subst p0
    by_cases m : a < 999999999
    · have e : nextS ⟨a, b, c, pre⟩ 0 = ⟨a + 1, 0, 0, []⟩ := by unfold nextS; simp [m]
      rw [e]
      simp only
      clear e
      go_enter Tryd.func19, Tryd.ntmps19
      go_wp2
      refine bodyPost_ret (v := .agg #[.int .i64 (a + 1), .int .i64 0, .int .i64 0, .slice none 0 0]) (by simp [results, Tryd.results19, go_sem]) rfl ⟨rfl, ?_⟩
      first
        | exact grown_alloc _ (grown_alloc _ (World.grownBy_alloc w _ none))
        | exact grown_alloc _ (World.grownBy_alloc w _ none)
    · have e : nextS ⟨a, b, c, pre⟩ 0 = ⟨a, b, c, []⟩ := by unfold nextS; simp [m]
      rw [e]
      simp only
      clear e
      have md : decide (a < 999999999) = false := by simp; omega
      clear m
      go_enter Tryd.func19, Tryd.ntmps19
      go_wp2
      refine bodyPost_ret (v := .agg #[.int .i64 a, .int .i64 b, .int .i64 c, .slice none 0 0]) (by simp [results, Tryd.results19, go_sem]) rfl ⟨rfl, ?_⟩
      first
        | exact grown_alloc _ (grown_alloc _ (World.grownBy_alloc w _ none))
        | exact grown_alloc _ (World.grownBy_alloc w _ none)
  · have n0 : (part == 0) = false := by simp [p0]
    by_cases p1 : part = 1
    · subst p1
      by_cases m : b < 999999999
      · have e : nextS ⟨a, b, c, pre⟩ 1 = ⟨a, b + 1, 0, []⟩ := by unfold nextS; simp [m]
        rw [e]
        simp only
        clear e
        go_enter Tryd.func19, Tryd.ntmps19
        go_wp2
        refine bodyPost_ret (v := .agg #[.int .i64 a, .int .i64 (b + 1), .int .i64 0, .slice none 0 0]) (by simp [results, Tryd.results19, go_sem]) rfl ⟨rfl, ?_⟩
        first
          | exact grown_alloc _ (grown_alloc _ (World.grownBy_alloc w _ none))
          | exact grown_alloc _ (World.grownBy_alloc w _ none)
      · have e : nextS ⟨a, b, c, pre⟩ 1 = ⟨a, b, c, []⟩ := by unfold nextS; simp [m]
        rw [e]
        simp only
        clear e
        have md : decide (b < 999999999) = false := by simp; omega
        clear m
        go_enter Tryd.func19, Tryd.ntmps19
        go_wp2
        refine bodyPost_ret (v := .agg #[.int .i64 a, .int .i64 b, .int .i64 c, .slice none 0 0]) (by simp [results, Tryd.results19, go_sem]) rfl ⟨rfl, ?_⟩
        first
          | exact grown_alloc _ (grown_alloc _ (World.grownBy_alloc w _ none))
          | exact grown_alloc _ (World.grownBy_alloc w _ none)
    · have n1 : (part == 1) = false := by simp [p1]
      have n2 : (part != 0) = true := by simp [p0]
      have n3 : (part != 1) = true := by simp [p1]
      by_cases m : c < 999999999
      · have e : nextS ⟨a, b, c, pre⟩ part = ⟨a, b, c + 1, []⟩ := by unfold nextS; simp [m, p0, p1]
        rw [e]
        simp only
        clear e
        have hm := Lib.hid (show moreS c = c + 1 by unfold moreS; rw [if_neg (by omega)])
        have hcall := Lib.hid (fun w => more_any c hc.1 hc.2 w)
        go_enter Tryd.func19, Tryd.ntmps19
        go_wp2_with fail
        (with_reducible refine (hcall.out _).mono ?_)
        rintro ee w' ⟨rfl, hw'⟩
        rw [hw', hm.out]
        clear hw' w'
        dsimp only
        go_wp2
        refine bodyPost_ret (v := .agg #[.int .i64 a, .int .i64 b, .int .i64 (c + 1), .slice none 0 0]) (by simp [results, Tryd.results19, go_sem]) rfl ⟨rfl, ?_⟩
        first
          | exact grown_alloc _ (grown_alloc _ (World.grownBy_alloc w _ none))
          | exact grown_alloc _ (World.grownBy_alloc w _ none)
      · have e : nextS ⟨a, b, c, pre⟩ part = ⟨a, b, c, []⟩ := by unfold nextS; simp [m, p0, p1]
        rw [e]
        simp only
        clear e
        have hm := Lib.hid (show moreS c = c by unfold moreS; rw [if_pos (by omega)])
        have hcall := Lib.hid (fun w => more_any c hc.1 hc.2 w)
        go_enter Tryd.func19, Tryd.ntmps19
        go_wp2_with fail
        (with_reducible refine (hcall.out _).mono ?_)
        rintro ee w' ⟨rfl, hw'⟩
        rw [hw', hm.out]
        clear hw' w'
        dsimp only
        go_wp2
        refine bodyPost_ret (v := .agg #[.int .i64 a, .int .i64 b, .int .i64 c, .slice none 0 0]) (by simp [results, Tryd.results19, go_sem]) rfl ⟨rfl, ?_⟩
        first
          | exact grown_alloc _ (grown_alloc _ (World.grownBy_alloc w _ none))
          | exact grown_alloc _ (World.grownBy_alloc w _ none)
end Go.Proofs.YtkngfkjnohbbiaaDoor
