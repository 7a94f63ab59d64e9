/- The law VerNext returns true. -/
import Derived.Test.YtkngfkjnohbbiaaDoorWe
import Derived.Deep.RegionHeld3
import Derived.Deep.CutRange
namespace Go.Proofs.YtkngfkjnohbbiaaDoor
open Go.RowKit

theorem int_load {w : World} {a : Addr} {z : Int} (h : w.cell? a = some (.int .i64 z)) : (Instr.loadAt 3 (.pointer (some a))).run Tryd.prog w = .ok (.int .i64 z) w := by
  go_simp
theorem oneIf_any (b : Bool) (w : World) : Calls Tryd.prog 20 #[.bool b] w fun e w' => e = .returned (.int .i64 (if b then 1 else 0)) ∧ w' = w := by
  cases b
  · go_enter Tryd.func20, Tryd.ntmps20
    go_wp2
    go_ret
    exact ⟨rfl, rfl⟩
  · go_enter Tryd.func20, Tryd.ntmps20
    go_wp2
    go_ret
    exact ⟨rfl, rfl⟩
theorem refNext_at (B : Nat) (v : Vn) (sl : Value) (part : Int) (u : Vn) (w : World) (hv : VerAt w B v sl) (h : nextS v part = u) :
    Calls Tryd.prog 19 #[verV v sl, .int .i64 part] w fun e w' => e = .returned (verV u (.slice none 0 0)) ∧ w.grownBy w' none := by
  rw [← h]; exact refNext_any B v sl part w hv
def stepAt (A B C part : Int) : Int := if part = 0 then A else if part = 1 then B else C
theorem ci_up (x : Int) : Lib.compareInt (x + 1) x = 1 := by unfold Lib.compareInt; rw [if_neg (by omega), if_pos (by omega)]
theorem ci_same (x : Int) : Lib.compareInt x x = 0 := by unfold Lib.compareInt; rw [if_neg (by omega), if_neg (by omega)]
/-- What the step on is, and that it is above. -/
theorem next_facts (A B C part : Int) (P : List ByteArray) (hP : P ≠ []) (ha : 0 ≤ A ∧ A < 1000000000) (hb : 0 ≤ B ∧ B < 1000000000) (hc : 0 ≤ C ∧ C < 1000000000) : ∃ X Y Z : Int, nextS ⟨A, B, C, P⟩ part = ⟨X, Y, Z, []⟩ ∧
    (0 ≤ X ∧ X < 1000000000) ∧ (0 ≤ Y ∧ Y < 1000000000) ∧ (0 ≤ Z ∧ Z < 1000000000) ∧ cmpV ⟨X, Y, Z, []⟩ ⟨A, B, C, P⟩ = 1 ∧ (¬ stepAt A B C part = 999999999 → cmpV ⟨X, Y, Z, []⟩ ⟨A, B, C, []⟩ = 1) := by
  have hm : cmpMs [] P = 1 := by
    obtain ⟨x, r, rfl⟩ := List.exists_cons_of_ne_nil hP
    have h1 : min (r.length + 1) 1 = 1 := by omega
    have e3 : Lib.compareInt 1 0 = 1 := by decide
    unfold cmpMs
    simp [h1, e3]
  unfold nextS stepAt
  simp only
  by_cases p0 : part = 0
  · rw [if_pos p0, if_pos p0]
    by_cases m : A < 999999999
    · rw [if_pos m]
      refine ⟨_, _, _, rfl, by omega, by omega, by omega, ?_, fun _ => ?_⟩
      · rw [cmpV_lex]; simp only [ci_up]; simp
      · rw [cmpV_lex]; simp only [ci_up]; simp
    · rw [if_neg m]
      refine ⟨_, _, _, rfl, by omega, by omega, by omega, ?_, fun h => absurd (by omega) h⟩
      rw [cmpV_lex]; simp only [ci_same]; simpa using hm
  · rw [if_neg p0, if_neg p0]
    by_cases p1 : part = 1
    · rw [if_pos p1, if_pos p1]
      by_cases m : B < 999999999
      · rw [if_pos m]
        refine ⟨_, _, _, rfl, by omega, by omega, by omega, ?_, fun _ => ?_⟩
        · rw [cmpV_lex]; simp only [ci_up, ci_same]; simp
        · rw [cmpV_lex]; simp only [ci_up, ci_same]; simp
      · rw [if_neg m]
        refine ⟨_, _, _, rfl, by omega, by omega, by omega, ?_, fun h => absurd (by omega) h⟩
        rw [cmpV_lex]; simp only [ci_same]; simpa using hm
    · rw [if_neg p1, if_neg p1]
      by_cases m : C < 999999999
      · rw [if_pos m]
        refine ⟨_, _, _, rfl, by omega, by omega, by omega, ?_, fun _ => ?_⟩
        · rw [cmpV_lex]; simp only [ci_up, ci_same]; simp
        · rw [cmpV_lex]; simp only [ci_up, ci_same]; simp
      · rw [if_neg m]
        refine ⟨_, _, _, rfl, by omega, by omega, by omega, ?_, fun h => absurd (by omega) h⟩
        rw [cmpV_lex]; simp only [ci_same]; simpa using hm
theorem at_none {w : World} (X Y Z : Int) (ha : 0 ≤ X ∧ X < 1000000000) (hb : 0 ≤ Y ∧ Y < 1000000000) (hc : 0 ≤ Z ∧ Z < 1000000000) (B : Nat) (hB : 0 < B) : VerAt w B ⟨X, Y, Z, []⟩ (.slice none 0 0) :=
  ⟨by simp only; omega, by simp only; omega, by simp only; omega, by simp, by simp, by simp [sumS], PartS.nil hB⟩

set_option maxRecDepth 1000000
set_option maxHeartbeats 16000000 in
theorem nextlaw_any (m : Int) (a b c part : Int) (ha : 0 ≤ a ∧ a < 4294967296) (hb : 0 ≤ b ∧ b < 4294967296) (hc : 0 ≤ c ∧ c < 4294967296) (hpt : -9223372036854775808 ≤ part ∧ part ≤ 9223372036854775807) (w : World) (hm : Wok m w) :
    Calls Tryd.prog 6 #[.int .u32 a, .int .u32 b, .int .u32 c, .int .i64 part] w fun e w' => e = .returned (.bool true) ∧ w.grownBy w' none := by
  have HM := Lib.hid hm
  have HPT := Lib.hid hpt
  clear hm hpt
  go_enter Tryd.func6, Tryd.ntmps6
  go_wp2_with fail
  (with_reducible refine (known_any m _ HM.out).mono ?_)
  rintro ee w0 ⟨rfl, g0⟩
  dsimp only
  have G0 := Lib.hid g0
  clear g0
  go_wp2_with fail
  obtain ⟨A, hA⟩ : ∃ A, a % 1000000000 = A := ⟨_, rfl⟩
  obtain ⟨B, hB⟩ : ∃ A, b % 1000000000 = A := ⟨_, rfl⟩
  obtain ⟨C, hC⟩ : ∃ A, c % 1000000000 = A := ⟨_, rfl⟩
  rw [hA, hB, hC]
  have RA : Hid (0 ≤ A ∧ A < 1000000000) := ⟨by omega, by omega⟩
  have RB : Hid (0 ≤ B ∧ B < 1000000000) := ⟨by omega, by omega⟩
  have RC : Hid (0 ≤ C ∧ C < 1000000000) := ⟨by omega, by omega⟩
  clear hA hB hC ha hb hc
  obtain ⟨X, Y, Z, hn, rx, ry, rz, hc1, hc2⟩ := next_facts A B C part [⟨#[120]⟩] (by simp) RA.out RB.out RC.out
  have HN := Lib.hid hn
  have RX := Lib.hid rx
  have RY := Lib.hid ry
  have RZ := Lib.hid rz
  have C1 := Lib.hid hc1
  have C2 := Lib.hid hc2
  clear hn rx ry rz hc1 hc2
  have B1 := Lib.hid (alloc_block (w0.alloc (.cells #[.string ⟨#[120]⟩] 9)) (.cells #[.int .i64 A, .int .i64 B, .int .i64 C, .slice (some ⟨w0.heap.size, 0, none⟩) 1 1] 25))
  rw [alloc_size] at B1
  have G1 := Lib.hid (grown_alloc (.cells #[.int .i64 A, .int .i64 B, .int .i64 C, .slice (some ⟨w0.heap.size, 0, none⟩) 1 1] 25) (grown_alloc (.cells #[.string ⟨#[120]⟩] 9) G0.out))
  have P1 := Lib.hid ((part_str w0 ⟨#[120]⟩ 9).stays (World.grownBy_alloc (w0.alloc (.cells #[.string ⟨#[120]⟩] 9)) (.cells #[.int .i64 A, .int .i64 B, .int .i64 C, .slice (some ⟨w0.heap.size, 0, none⟩) 1 1] 25) none))
  have L0 : Hid (w0.heap.size + 1 ≤ ((w0.alloc (.cells #[.string ⟨#[120]⟩] 9)).alloc (.cells #[.int .i64 A, .int .i64 B, .int .i64 C, .slice (some ⟨w0.heap.size, 0, none⟩) 1 1] 25)).heap.size) := by
    show _ ≤ _
    rw [alloc_size, alloc_size]; omega
  obtain ⟨W1, hW1⟩ : ∃ W1, (w0.alloc (.cells #[.string ⟨#[120]⟩] 9)).alloc (.cells #[.int .i64 A, .int .i64 B, .int .i64 C, .slice (some ⟨w0.heap.size, 0, none⟩) 1 1] 25) = W1 := ⟨_, rfl⟩
  rw [hW1] at B1 G1 P1 L0 ⊢
  have VA : Hid (∀ W', W1.grownBy W' none → VerAt W' (w0.heap.size + 1) ⟨A, B, C, [⟨#[120]⟩]⟩ (.slice (some ⟨w0.heap.size, 0, none⟩) 1 1)) := fun W' hg =>
    ⟨by have := RA.out; simp only; omega, by have := RB.out; simp only; omega, by have := RC.out; simp only; omega, by simp, show ∀ p ∈ [(⟨#[120]⟩ : ByteArray)], p.size ≤ 2000000 by decide, show sumS [(⟨#[120]⟩ : ByteArray)] ≤ 8000000 by decide, P1.out.stays hg⟩
  clear hW1
  refine (next_at _ ⟨A, B, C, [⟨#[120]⟩]⟩ _ part _ _ (VA.out _ (World.grownBy.refl _ _)) HN.out).mono ?_
  rintro ee w2 ⟨rfl, g2⟩
  dsimp only
  have G2 := Lib.hid g2
  clear g2
  have E2 := Lib.hid (show verV ⟨X, Y, Z, []⟩ (.slice none 0 0) = .agg #[.int .i64 X, .int .i64 Y, .int .i64 Z, .slice none 0 0] from rfl)
  rw [E2.out]
  clear E2
  go_upto_region 5 with fail
  have B2 := Lib.hid (alloc_block w2 (.cells #[.int .i64 X, .int .i64 Y, .int .i64 Z, .slice none 0 0] 25))
  have s2 := World.grownBy_alloc w2 (.cells #[.int .i64 X, .int .i64 Y, .int .i64 Z, .slice none 0 0] 25) none
  obtain ⟨W2, hW2⟩ : ∃ W2, w2.alloc (.cells #[.int .i64 X, .int .i64 Y, .int .i64 Z, .slice none 0 0] 25) = W2 := ⟨_, rfl⟩
  rw [hW2] at B2 s2 ⊢
  have T2 := Lib.hid (World.grownBy.trans G2.out s2)
  have L1 := Lib.hid (block_kept B1.out T2.out)
  clear hW2 s2
  obtain ⟨c0, c1, c2, c3⟩ := ver_block L1.out (World.grownBy.refl _ _)
  obtain ⟨z, hz⟩ : ∃ z, stepAt A B C part = z := ⟨_, rfl⟩
  have HZ := Lib.hid hz
  clear hz
  go_cut [11] from 28 to 44 (fun s wx => s = .int .i64 z ∧ wx = (W2.alloc (.cells #[.int .i64 A, .int .i64 B, .int .i64 C] 3)).drew)
  case first =>
    have hpt := HPT.out
    by_cases p1 : part < 0
    · have d1 : decide (part < 0) = true := by simp [p1]
      have mx : max part 0 = 0 := by omega
      refine wp_region_noPanic ?_
      refine wp_region_held_drew (S := fun V => W2.grownBy V none) (by kernel_rfl) (show W2.grownBy W2.drew none from ⟨rfl, rfl, rfl, Nat.le_refl _, fun _ _ _ => rfl⟩) (fun g0 => ?_)
      refine wpAnyH_take (i := 0) (v := .pointer (some ⟨w0.heap.size + 1, 0, none⟩)) rfl (by kernel_rfl) (by kernel_rfl) (by kernel_rfl) (fun _ _ _ h => h) (Or.inl ⟨by rfl, fun V hV => ?_⟩) g0 ?_
      · rfl
      try simp only [Act.put, List.getElem_toArray, List.getElem_cons_zero, List.getElem_cons_succ, List.setIfInBounds_toArray, List.set_cons_zero, List.set_cons_succ]
      refine wpAnyH_take (i := 1) (v := .int .i64 A) rfl (by kernel_rfl) (by kernel_rfl) (by kernel_rfl) (fun _ _ _ h => h) (Or.inl ⟨by rfl, fun V hV => ?_⟩) g0 ?_
      · have h := int_load (hV.cell c0 (by simp))
        simp [execOp, Act.eval, h, Result.andThen]
      try simp only [Act.put, List.getElem_toArray, List.getElem_cons_zero, List.getElem_cons_succ, List.setIfInBounds_toArray, List.set_cons_zero, List.set_cons_succ]
      refine wpAnyH_take (i := 2) (v := .pointer (some ⟨w0.heap.size + 1, 1, none⟩)) rfl (by kernel_rfl) (by kernel_rfl) (by kernel_rfl) (fun _ _ _ h => h) (Or.inl ⟨by rfl, fun V hV => ?_⟩) g0 ?_
      · rfl
      try simp only [Act.put, List.getElem_toArray, List.getElem_cons_zero, List.getElem_cons_succ, List.setIfInBounds_toArray, List.set_cons_zero, List.set_cons_succ]
      refine wpAnyH_take (i := 3) (v := .int .i64 B) rfl (by kernel_rfl) (by kernel_rfl) (by kernel_rfl) (fun _ _ _ h => h) (Or.inl ⟨by rfl, fun V hV => ?_⟩) g0 ?_
      · have h := int_load (hV.cell c1 (by simp))
        simp [execOp, Act.eval, h, Result.andThen]
      try simp only [Act.put, List.getElem_toArray, List.getElem_cons_zero, List.getElem_cons_succ, List.setIfInBounds_toArray, List.set_cons_zero, List.set_cons_succ]
      refine wpAnyH_take (i := 4) (v := .pointer (some ⟨w0.heap.size + 1, 2, none⟩)) rfl (by kernel_rfl) (by kernel_rfl) (by kernel_rfl) (fun _ _ _ h => h) (Or.inl ⟨by rfl, fun V hV => ?_⟩) g0 ?_
      · rfl
      try simp only [Act.put, List.getElem_toArray, List.getElem_cons_zero, List.getElem_cons_succ, List.setIfInBounds_toArray, List.set_cons_zero, List.set_cons_succ]
      refine wpAnyH_take (i := 5) (v := .int .i64 C) rfl (by kernel_rfl) (by kernel_rfl) (by kernel_rfl) (fun _ _ _ h => h) (Or.inl ⟨by rfl, fun V hV => ?_⟩) g0 ?_
      · have h := int_load (hV.cell c2 (by simp))
        simp [execOp, Act.eval, h, Result.andThen]
      try simp only [Act.put, List.getElem_toArray, List.getElem_cons_zero, List.getElem_cons_succ, List.setIfInBounds_toArray, List.set_cons_zero, List.set_cons_succ]
      refine wpAnyH_take (i := 7) (v := .int .i64 part) rfl (by kernel_rfl) (by kernel_rfl) (by kernel_rfl) (fun _ _ _ h => h) (Or.inl ⟨by rfl, fun V hV => ?_⟩) g0 ?_
      · rfl
      try simp only [Act.put, List.getElem_toArray, List.getElem_cons_zero, List.getElem_cons_succ, List.setIfInBounds_toArray, List.set_cons_zero, List.set_cons_succ]
      refine wpAnyH_take (i := 8) (v := .int .i64 0) rfl (by kernel_rfl) (by kernel_rfl) (by kernel_rfl) (fun _ _ _ h => h) (Or.inl ⟨by rfl, fun V hV => ?_⟩) g0 ?_
      · simp [execOp, mx, go_sem]
      try simp only [Act.put, List.getElem_toArray, List.getElem_cons_zero, List.getElem_cons_succ, List.setIfInBounds_toArray, List.set_cons_zero, List.set_cons_succ]
      refine wpAnyH_take (i := 9) (v := .int .i64 part) rfl (by kernel_rfl) (by kernel_rfl) (by kernel_rfl) (fun _ _ _ h => h) (Or.inl ⟨by rfl, fun V hV => ?_⟩) g0 ?_
      · rfl
      try simp only [Act.put, List.getElem_toArray, List.getElem_cons_zero, List.getElem_cons_succ, List.setIfInBounds_toArray, List.set_cons_zero, List.set_cons_succ]
      refine wpAnyH_take (i := 10) (v := .bool true) rfl (by kernel_rfl) (by kernel_rfl) (by kernel_rfl) (fun _ _ _ h => h) (Or.inl ⟨by rfl, fun V hV => ?_⟩) g0 ?_
      · simp [execOp, d1, go_sem]
      try simp only [Act.put, List.getElem_toArray, List.getElem_cons_zero, List.getElem_cons_succ, List.setIfInBounds_toArray, List.set_cons_zero, List.set_cons_succ]
      refine wpAnyH_ready (rs := [6, 11]) (by kernel_rfl) (by simp) ?_
      refine AllReadyH.cons rfl (fun K hK => ?_) (AllReadyH.cons rfl (fun K hK => ?_) AllReadyH.nil)
      · rw [if_pos (by rfl)]
        go_simp
        refine hK.out _ _ (World.grownBy.trans g0 (World.grownBy_alloc _ _ _)) (fun g2 => ?_)
        clear hK K
        try simp only [Act.put, List.getElem_toArray, List.getElem_cons_zero, List.getElem_cons_succ, List.setIfInBounds_toArray, List.set_cons_zero, List.set_cons_succ]
        refine wpAnyH_ready (rs := [11]) (by kernel_rfl) (by simp) ?_
        refine AllReadyH.cons rfl (fun K hK => ?_) AllReadyH.nil
        rw [if_pos (by rfl)]
        go_simp
        refine (oneIf_any _ _).mono ?_
        rintro ee V1 ⟨rfl, rfl⟩
        dsimp only
        refine hK.out _ _ g2 (fun _ => ?_)
        clear hK K
        try simp only [Act.put, List.getElem_toArray, List.getElem_cons_zero, List.getElem_cons_succ, List.setIfInBounds_toArray, List.set_cons_zero, List.set_cons_succ]
        refine wpAnyH_take (i := 12) (v := .int .i64 2) rfl (by kernel_rfl) (by kernel_rfl) (by kernel_rfl) (fun _ _ _ h => h) (Or.inl ⟨by rfl, fun V hV => ?_⟩) g2 ?_
        · rfl
        try simp only [Act.put, List.getElem_toArray, List.getElem_cons_zero, List.getElem_cons_succ, List.setIfInBounds_toArray, List.set_cons_zero, List.set_cons_succ]
        refine wpAnyH_take (i := 13) (v := .int .i64 2) rfl (by kernel_rfl) (by kernel_rfl) (by kernel_rfl) (fun _ _ _ h => h) (Or.inl ⟨by rfl, fun V hV => ?_⟩) g2 ?_
        · rfl
        try simp only [Act.put, List.getElem_toArray, List.getElem_cons_zero, List.getElem_cons_succ, List.setIfInBounds_toArray, List.set_cons_zero, List.set_cons_succ]
        refine wpAnyH_take (i := 14) (v := .int .i64 2) rfl (by kernel_rfl) (by kernel_rfl) (by kernel_rfl) (fun _ _ _ h => h) (Or.inl ⟨by rfl, fun V hV => ?_⟩) g2 ?_
        · simp [execOp, go_sem]
        try simp only [Act.put, List.getElem_toArray, List.getElem_cons_zero, List.getElem_cons_succ, List.setIfInBounds_toArray, List.set_cons_zero, List.set_cons_succ]
        refine wpAnyH_take (i := 15) (v := .pointer (some ⟨W2.heap.size, 2, none⟩)) rfl (by kernel_rfl) (by kernel_rfl) (by kernel_rfl) (fun _ _ _ h => h) (Or.inl ⟨by rfl, fun V hV => ?_⟩) g2 ?_
        · simp [execOp, Act.eval, Result.andThen, go_sem]
        try simp only [Act.put, List.getElem_toArray, List.getElem_cons_zero, List.getElem_cons_succ, List.setIfInBounds_toArray, List.set_cons_zero, List.set_cons_succ]
        refine wpAnyH_ready (rs := [16]) (by kernel_rfl) (by simp) ?_
        refine AllReadyH.cons rfl (fun K hK => ?_) AllReadyH.nil
        rw [if_pos (by rfl)]
        go_simp
        refine hK.out _ _ g2 (fun _ => ?_)
        clear hK K
        try simp only [Act.put, List.getElem_toArray, List.getElem_cons_zero, List.getElem_cons_succ, List.setIfInBounds_toArray, List.set_cons_zero, List.set_cons_succ]
        refine wpAnyH_take (i := 17) (v := .int .i64 C) rfl (by kernel_rfl) (by kernel_rfl) (by kernel_rfl) (fun _ _ _ h => h) (Or.inl ⟨by rfl, fun V hV => ?_⟩) g2 ?_
        · rfl
        try simp only [Act.put, List.getElem_toArray, List.getElem_cons_zero, List.getElem_cons_succ, List.setIfInBounds_toArray, List.set_cons_zero, List.set_cons_succ]
        refine wpAnyH_done (by kernel_rfl) ?_ _
        refine NoPanic.normal ?_
        go_wp2_with fail
        go_meet
        exact ⟨congrArg (Value.int .i64) (by rw [← HZ.out]; unfold stepAt; rw [if_neg (by omega), if_neg (by omega)]), rfl⟩
      · rw [if_pos (by rfl)]
        go_simp
        refine (oneIf_any _ _).mono ?_
        rintro ee V1 ⟨rfl, rfl⟩
        dsimp only
        refine hK.out _ _ g0 (fun _ => ?_)
        clear hK K
        try simp only [Act.put, List.getElem_toArray, List.getElem_cons_zero, List.getElem_cons_succ, List.setIfInBounds_toArray, List.set_cons_zero, List.set_cons_succ]
        refine wpAnyH_take (i := 12) (v := .int .i64 2) rfl (by kernel_rfl) (by kernel_rfl) (by kernel_rfl) (fun _ _ _ h => h) (Or.inl ⟨by rfl, fun V hV => ?_⟩) g0 ?_
        · rfl
        try simp only [Act.put, List.getElem_toArray, List.getElem_cons_zero, List.getElem_cons_succ, List.setIfInBounds_toArray, List.set_cons_zero, List.set_cons_succ]
        refine wpAnyH_take (i := 13) (v := .int .i64 2) rfl (by kernel_rfl) (by kernel_rfl) (by kernel_rfl) (fun _ _ _ h => h) (Or.inl ⟨by rfl, fun V hV => ?_⟩) g0 ?_
        · rfl
        try simp only [Act.put, List.getElem_toArray, List.getElem_cons_zero, List.getElem_cons_succ, List.setIfInBounds_toArray, List.set_cons_zero, List.set_cons_succ]
        refine wpAnyH_take (i := 14) (v := .int .i64 2) rfl (by kernel_rfl) (by kernel_rfl) (by kernel_rfl) (fun _ _ _ h => h) (Or.inl ⟨by rfl, fun V hV => ?_⟩) g0 ?_
        · simp [execOp, go_sem]
        try simp only [Act.put, List.getElem_toArray, List.getElem_cons_zero, List.getElem_cons_succ, List.setIfInBounds_toArray, List.set_cons_zero, List.set_cons_succ]
        refine wpAnyH_ready (rs := [6]) (by kernel_rfl) (by simp) ?_
        refine AllReadyH.cons rfl (fun K hK => ?_) AllReadyH.nil
        rw [if_pos (by rfl)]
        go_simp
        refine hK.out _ _ (World.grownBy.trans g0 (World.grownBy_alloc _ _ _)) (fun g2 => ?_)
        clear hK K
        try simp only [Act.put, List.getElem_toArray, List.getElem_cons_zero, List.getElem_cons_succ, List.setIfInBounds_toArray, List.set_cons_zero, List.set_cons_succ]
        refine wpAnyH_take (i := 15) (v := .pointer (some ⟨W2.heap.size, 2, none⟩)) rfl (by kernel_rfl) (by kernel_rfl) (by kernel_rfl) (fun _ _ _ h => h) (Or.inl ⟨by rfl, fun V hV => ?_⟩) g2 ?_
        · simp [execOp, Act.eval, Result.andThen, go_sem]
        try simp only [Act.put, List.getElem_toArray, List.getElem_cons_zero, List.getElem_cons_succ, List.setIfInBounds_toArray, List.set_cons_zero, List.set_cons_succ]
        refine wpAnyH_ready (rs := [16]) (by kernel_rfl) (by simp) ?_
        refine AllReadyH.cons rfl (fun K hK => ?_) AllReadyH.nil
        rw [if_pos (by rfl)]
        go_simp
        refine hK.out _ _ g2 (fun _ => ?_)
        clear hK K
        try simp only [Act.put, List.getElem_toArray, List.getElem_cons_zero, List.getElem_cons_succ, List.setIfInBounds_toArray, List.set_cons_zero, List.set_cons_succ]
        refine wpAnyH_take (i := 17) (v := .int .i64 C) rfl (by kernel_rfl) (by kernel_rfl) (by kernel_rfl) (fun _ _ _ h => h) (Or.inl ⟨by rfl, fun V hV => ?_⟩) g2 ?_
        · rfl
        try simp only [Act.put, List.getElem_toArray, List.getElem_cons_zero, List.getElem_cons_succ, List.setIfInBounds_toArray, List.set_cons_zero, List.set_cons_succ]
        refine wpAnyH_done (by kernel_rfl) ?_ _
        refine NoPanic.normal ?_
        go_wp2_with fail
        go_meet
        exact ⟨congrArg (Value.int .i64) (by rw [← HZ.out]; unfold stepAt; rw [if_neg (by omega), if_neg (by omega)]), rfl⟩
    · have d1 : decide (part < 0) = false := by simp; omega
      by_cases p2 : part = 0
      · subst p2
        have mn : (min 0 2 : Int) = 0 := by decide
        refine wp_region_noPanic ?_
        refine wp_region_held_drew (S := fun V => W2.grownBy V none) (by kernel_rfl) (show W2.grownBy W2.drew none from ⟨rfl, rfl, rfl, Nat.le_refl _, fun _ _ _ => rfl⟩) (fun g0 => ?_)
        refine wpAnyH_take (i := 0) (v := .pointer (some ⟨w0.heap.size + 1, 0, none⟩)) rfl (by kernel_rfl) (by kernel_rfl) (by kernel_rfl) (fun _ _ _ h => h) (Or.inl ⟨by rfl, fun V hV => ?_⟩) g0 ?_
        · rfl
        try simp only [Act.put, List.getElem_toArray, List.getElem_cons_zero, List.getElem_cons_succ, List.setIfInBounds_toArray, List.set_cons_zero, List.set_cons_succ]
        refine wpAnyH_take (i := 1) (v := .int .i64 A) rfl (by kernel_rfl) (by kernel_rfl) (by kernel_rfl) (fun _ _ _ h => h) (Or.inl ⟨by rfl, fun V hV => ?_⟩) g0 ?_
        · have h := int_load (hV.cell c0 (by simp))
          simp [execOp, Act.eval, h, Result.andThen]
        try simp only [Act.put, List.getElem_toArray, List.getElem_cons_zero, List.getElem_cons_succ, List.setIfInBounds_toArray, List.set_cons_zero, List.set_cons_succ]
        refine wpAnyH_take (i := 2) (v := .pointer (some ⟨w0.heap.size + 1, 1, none⟩)) rfl (by kernel_rfl) (by kernel_rfl) (by kernel_rfl) (fun _ _ _ h => h) (Or.inl ⟨by rfl, fun V hV => ?_⟩) g0 ?_
        · rfl
        try simp only [Act.put, List.getElem_toArray, List.getElem_cons_zero, List.getElem_cons_succ, List.setIfInBounds_toArray, List.set_cons_zero, List.set_cons_succ]
        refine wpAnyH_take (i := 3) (v := .int .i64 B) rfl (by kernel_rfl) (by kernel_rfl) (by kernel_rfl) (fun _ _ _ h => h) (Or.inl ⟨by rfl, fun V hV => ?_⟩) g0 ?_
        · have h := int_load (hV.cell c1 (by simp))
          simp [execOp, Act.eval, h, Result.andThen]
        try simp only [Act.put, List.getElem_toArray, List.getElem_cons_zero, List.getElem_cons_succ, List.setIfInBounds_toArray, List.set_cons_zero, List.set_cons_succ]
        refine wpAnyH_take (i := 4) (v := .pointer (some ⟨w0.heap.size + 1, 2, none⟩)) rfl (by kernel_rfl) (by kernel_rfl) (by kernel_rfl) (fun _ _ _ h => h) (Or.inl ⟨by rfl, fun V hV => ?_⟩) g0 ?_
        · rfl
        try simp only [Act.put, List.getElem_toArray, List.getElem_cons_zero, List.getElem_cons_succ, List.setIfInBounds_toArray, List.set_cons_zero, List.set_cons_succ]
        refine wpAnyH_take (i := 5) (v := .int .i64 C) rfl (by kernel_rfl) (by kernel_rfl) (by kernel_rfl) (fun _ _ _ h => h) (Or.inl ⟨by rfl, fun V hV => ?_⟩) g0 ?_
        · have h := int_load (hV.cell c2 (by simp))
          simp [execOp, Act.eval, h, Result.andThen]
        try simp only [Act.put, List.getElem_toArray, List.getElem_cons_zero, List.getElem_cons_succ, List.setIfInBounds_toArray, List.set_cons_zero, List.set_cons_succ]
        refine wpAnyH_take (i := 7) (v := .int .i64 0) rfl (by kernel_rfl) (by kernel_rfl) (by kernel_rfl) (fun _ _ _ h => h) (Or.inl ⟨by rfl, fun V hV => ?_⟩) g0 ?_
        · rfl
        try simp only [Act.put, List.getElem_toArray, List.getElem_cons_zero, List.getElem_cons_succ, List.setIfInBounds_toArray, List.set_cons_zero, List.set_cons_succ]
        refine wpAnyH_take (i := 8) (v := .int .i64 0) rfl (by kernel_rfl) (by kernel_rfl) (by kernel_rfl) (fun _ _ _ h => h) (Or.inl ⟨by rfl, fun V hV => ?_⟩) g0 ?_
        · simp [execOp, go_sem]
        try simp only [Act.put, List.getElem_toArray, List.getElem_cons_zero, List.getElem_cons_succ, List.setIfInBounds_toArray, List.set_cons_zero, List.set_cons_succ]
        refine wpAnyH_take (i := 9) (v := .int .i64 0) rfl (by kernel_rfl) (by kernel_rfl) (by kernel_rfl) (fun _ _ _ h => h) (Or.inl ⟨by rfl, fun V hV => ?_⟩) g0 ?_
        · rfl
        try simp only [Act.put, List.getElem_toArray, List.getElem_cons_zero, List.getElem_cons_succ, List.setIfInBounds_toArray, List.set_cons_zero, List.set_cons_succ]
        refine wpAnyH_take (i := 10) (v := .bool false) rfl (by kernel_rfl) (by kernel_rfl) (by kernel_rfl) (fun _ _ _ h => h) (Or.inl ⟨by rfl, fun V hV => ?_⟩) g0 ?_
        · simp [execOp, go_sem]
        try simp only [Act.put, List.getElem_toArray, List.getElem_cons_zero, List.getElem_cons_succ, List.setIfInBounds_toArray, List.set_cons_zero, List.set_cons_succ]
        refine wpAnyH_ready (rs := [6, 11]) (by kernel_rfl) (by simp) ?_
        refine AllReadyH.cons rfl (fun K hK => ?_) (AllReadyH.cons rfl (fun K hK => ?_) AllReadyH.nil)
        · rw [if_pos (by rfl)]
          go_simp
          refine hK.out _ _ (World.grownBy.trans g0 (World.grownBy_alloc _ _ _)) (fun g2 => ?_)
          clear hK K
          try simp only [Act.put, List.getElem_toArray, List.getElem_cons_zero, List.getElem_cons_succ, List.setIfInBounds_toArray, List.set_cons_zero, List.set_cons_succ]
          refine wpAnyH_ready (rs := [11]) (by kernel_rfl) (by simp) ?_
          refine AllReadyH.cons rfl (fun K hK => ?_) AllReadyH.nil
          rw [if_pos (by rfl)]
          go_simp
          refine (oneIf_any _ _).mono ?_
          rintro ee V1 ⟨rfl, rfl⟩
          dsimp only
          refine hK.out _ _ g2 (fun _ => ?_)
          clear hK K
          try simp only [Act.put, List.getElem_toArray, List.getElem_cons_zero, List.getElem_cons_succ, List.setIfInBounds_toArray, List.set_cons_zero, List.set_cons_succ]
          refine wpAnyH_take (i := 12) (v := .int .i64 0) rfl (by kernel_rfl) (by kernel_rfl) (by kernel_rfl) (fun _ _ _ h => h) (Or.inl ⟨by rfl, fun V hV => ?_⟩) g2 ?_
          · rfl
          try simp only [Act.put, List.getElem_toArray, List.getElem_cons_zero, List.getElem_cons_succ, List.setIfInBounds_toArray, List.set_cons_zero, List.set_cons_succ]
          refine wpAnyH_take (i := 13) (v := .int .i64 0) rfl (by kernel_rfl) (by kernel_rfl) (by kernel_rfl) (fun _ _ _ h => h) (Or.inl ⟨by rfl, fun V hV => ?_⟩) g2 ?_
          · rfl
          try simp only [Act.put, List.getElem_toArray, List.getElem_cons_zero, List.getElem_cons_succ, List.setIfInBounds_toArray, List.set_cons_zero, List.set_cons_succ]
          refine wpAnyH_take (i := 14) (v := .int .i64 0) rfl (by kernel_rfl) (by kernel_rfl) (by kernel_rfl) (fun _ _ _ h => h) (Or.inl ⟨by rfl, fun V hV => ?_⟩) g2 ?_
          · simp [execOp, mn, go_sem]
          try simp only [Act.put, List.getElem_toArray, List.getElem_cons_zero, List.getElem_cons_succ, List.setIfInBounds_toArray, List.set_cons_zero, List.set_cons_succ]
          refine wpAnyH_take (i := 15) (v := .pointer (some ⟨W2.heap.size, 0, none⟩)) rfl (by kernel_rfl) (by kernel_rfl) (by kernel_rfl) (fun _ _ _ h => h) (Or.inl ⟨by rfl, fun V hV => ?_⟩) g2 ?_
          · simp [execOp, Act.eval, Result.andThen, go_sem]
          try simp only [Act.put, List.getElem_toArray, List.getElem_cons_zero, List.getElem_cons_succ, List.setIfInBounds_toArray, List.set_cons_zero, List.set_cons_succ]
          refine wpAnyH_ready (rs := [16]) (by kernel_rfl) (by simp) ?_
          refine AllReadyH.cons rfl (fun K hK => ?_) AllReadyH.nil
          rw [if_pos (by rfl)]
          go_simp
          refine hK.out _ _ g2 (fun _ => ?_)
          clear hK K
          try simp only [Act.put, List.getElem_toArray, List.getElem_cons_zero, List.getElem_cons_succ, List.setIfInBounds_toArray, List.set_cons_zero, List.set_cons_succ]
          refine wpAnyH_take (i := 17) (v := .int .i64 A) rfl (by kernel_rfl) (by kernel_rfl) (by kernel_rfl) (fun _ _ _ h => h) (Or.inl ⟨by rfl, fun V hV => ?_⟩) g2 ?_
          · rfl
          try simp only [Act.put, List.getElem_toArray, List.getElem_cons_zero, List.getElem_cons_succ, List.setIfInBounds_toArray, List.set_cons_zero, List.set_cons_succ]
          refine wpAnyH_done (by kernel_rfl) ?_ _
          refine NoPanic.normal ?_
          go_wp2_with fail
          go_meet
          exact ⟨congrArg (Value.int .i64) (by rw [← HZ.out]; unfold stepAt; rw [if_pos rfl]), rfl⟩
        · rw [if_pos (by rfl)]
          go_simp
          refine (oneIf_any _ _).mono ?_
          rintro ee V1 ⟨rfl, rfl⟩
          dsimp only
          refine hK.out _ _ g0 (fun _ => ?_)
          clear hK K
          try simp only [Act.put, List.getElem_toArray, List.getElem_cons_zero, List.getElem_cons_succ, List.setIfInBounds_toArray, List.set_cons_zero, List.set_cons_succ]
          refine wpAnyH_take (i := 12) (v := .int .i64 0) rfl (by kernel_rfl) (by kernel_rfl) (by kernel_rfl) (fun _ _ _ h => h) (Or.inl ⟨by rfl, fun V hV => ?_⟩) g0 ?_
          · rfl
          try simp only [Act.put, List.getElem_toArray, List.getElem_cons_zero, List.getElem_cons_succ, List.setIfInBounds_toArray, List.set_cons_zero, List.set_cons_succ]
          refine wpAnyH_take (i := 13) (v := .int .i64 0) rfl (by kernel_rfl) (by kernel_rfl) (by kernel_rfl) (fun _ _ _ h => h) (Or.inl ⟨by rfl, fun V hV => ?_⟩) g0 ?_
          · rfl
          try simp only [Act.put, List.getElem_toArray, List.getElem_cons_zero, List.getElem_cons_succ, List.setIfInBounds_toArray, List.set_cons_zero, List.set_cons_succ]
          refine wpAnyH_take (i := 14) (v := .int .i64 0) rfl (by kernel_rfl) (by kernel_rfl) (by kernel_rfl) (fun _ _ _ h => h) (Or.inl ⟨by rfl, fun V hV => ?_⟩) g0 ?_
          · simp [execOp, mn, go_sem]
          try simp only [Act.put, List.getElem_toArray, List.getElem_cons_zero, List.getElem_cons_succ, List.setIfInBounds_toArray, List.set_cons_zero, List.set_cons_succ]
          refine wpAnyH_ready (rs := [6]) (by kernel_rfl) (by simp) ?_
          refine AllReadyH.cons rfl (fun K hK => ?_) AllReadyH.nil
          rw [if_pos (by rfl)]
          go_simp
          refine hK.out _ _ (World.grownBy.trans g0 (World.grownBy_alloc _ _ _)) (fun g2 => ?_)
          clear hK K
          try simp only [Act.put, List.getElem_toArray, List.getElem_cons_zero, List.getElem_cons_succ, List.setIfInBounds_toArray, List.set_cons_zero, List.set_cons_succ]
          refine wpAnyH_take (i := 15) (v := .pointer (some ⟨W2.heap.size, 0, none⟩)) rfl (by kernel_rfl) (by kernel_rfl) (by kernel_rfl) (fun _ _ _ h => h) (Or.inl ⟨by rfl, fun V hV => ?_⟩) g2 ?_
          · simp [execOp, Act.eval, Result.andThen, go_sem]
          try simp only [Act.put, List.getElem_toArray, List.getElem_cons_zero, List.getElem_cons_succ, List.setIfInBounds_toArray, List.set_cons_zero, List.set_cons_succ]
          refine wpAnyH_ready (rs := [16]) (by kernel_rfl) (by simp) ?_
          refine AllReadyH.cons rfl (fun K hK => ?_) AllReadyH.nil
          rw [if_pos (by rfl)]
          go_simp
          refine hK.out _ _ g2 (fun _ => ?_)
          clear hK K
          try simp only [Act.put, List.getElem_toArray, List.getElem_cons_zero, List.getElem_cons_succ, List.setIfInBounds_toArray, List.set_cons_zero, List.set_cons_succ]
          refine wpAnyH_take (i := 17) (v := .int .i64 A) rfl (by kernel_rfl) (by kernel_rfl) (by kernel_rfl) (fun _ _ _ h => h) (Or.inl ⟨by rfl, fun V hV => ?_⟩) g2 ?_
          · rfl
          try simp only [Act.put, List.getElem_toArray, List.getElem_cons_zero, List.getElem_cons_succ, List.setIfInBounds_toArray, List.set_cons_zero, List.set_cons_succ]
          refine wpAnyH_done (by kernel_rfl) ?_ _
          refine NoPanic.normal ?_
          go_wp2_with fail
          go_meet
          exact ⟨congrArg (Value.int .i64) (by rw [← HZ.out]; unfold stepAt; rw [if_pos rfl]), rfl⟩
      · by_cases p3 : part = 1
        · subst p3
          have mx : (max 1 0 : Int) = 1 := by decide
          have mn : (min 1 2 : Int) = 1 := by decide
          refine wp_region_noPanic ?_
          refine wp_region_held_drew (S := fun V => W2.grownBy V none) (by kernel_rfl) (show W2.grownBy W2.drew none from ⟨rfl, rfl, rfl, Nat.le_refl _, fun _ _ _ => rfl⟩) (fun g0 => ?_)
          refine wpAnyH_take (i := 0) (v := .pointer (some ⟨w0.heap.size + 1, 0, none⟩)) rfl (by kernel_rfl) (by kernel_rfl) (by kernel_rfl) (fun _ _ _ h => h) (Or.inl ⟨by rfl, fun V hV => ?_⟩) g0 ?_
          · rfl
          try simp only [Act.put, List.getElem_toArray, List.getElem_cons_zero, List.getElem_cons_succ, List.setIfInBounds_toArray, List.set_cons_zero, List.set_cons_succ]
          refine wpAnyH_take (i := 1) (v := .int .i64 A) rfl (by kernel_rfl) (by kernel_rfl) (by kernel_rfl) (fun _ _ _ h => h) (Or.inl ⟨by rfl, fun V hV => ?_⟩) g0 ?_
          · have h := int_load (hV.cell c0 (by simp))
            simp [execOp, Act.eval, h, Result.andThen]
          try simp only [Act.put, List.getElem_toArray, List.getElem_cons_zero, List.getElem_cons_succ, List.setIfInBounds_toArray, List.set_cons_zero, List.set_cons_succ]
          refine wpAnyH_take (i := 2) (v := .pointer (some ⟨w0.heap.size + 1, 1, none⟩)) rfl (by kernel_rfl) (by kernel_rfl) (by kernel_rfl) (fun _ _ _ h => h) (Or.inl ⟨by rfl, fun V hV => ?_⟩) g0 ?_
          · rfl
          try simp only [Act.put, List.getElem_toArray, List.getElem_cons_zero, List.getElem_cons_succ, List.setIfInBounds_toArray, List.set_cons_zero, List.set_cons_succ]
          refine wpAnyH_take (i := 3) (v := .int .i64 B) rfl (by kernel_rfl) (by kernel_rfl) (by kernel_rfl) (fun _ _ _ h => h) (Or.inl ⟨by rfl, fun V hV => ?_⟩) g0 ?_
          · have h := int_load (hV.cell c1 (by simp))
            simp [execOp, Act.eval, h, Result.andThen]
          try simp only [Act.put, List.getElem_toArray, List.getElem_cons_zero, List.getElem_cons_succ, List.setIfInBounds_toArray, List.set_cons_zero, List.set_cons_succ]
          refine wpAnyH_take (i := 4) (v := .pointer (some ⟨w0.heap.size + 1, 2, none⟩)) rfl (by kernel_rfl) (by kernel_rfl) (by kernel_rfl) (fun _ _ _ h => h) (Or.inl ⟨by rfl, fun V hV => ?_⟩) g0 ?_
          · rfl
          try simp only [Act.put, List.getElem_toArray, List.getElem_cons_zero, List.getElem_cons_succ, List.setIfInBounds_toArray, List.set_cons_zero, List.set_cons_succ]
          refine wpAnyH_take (i := 5) (v := .int .i64 C) rfl (by kernel_rfl) (by kernel_rfl) (by kernel_rfl) (fun _ _ _ h => h) (Or.inl ⟨by rfl, fun V hV => ?_⟩) g0 ?_
          · have h := int_load (hV.cell c2 (by simp))
            simp [execOp, Act.eval, h, Result.andThen]
          try simp only [Act.put, List.getElem_toArray, List.getElem_cons_zero, List.getElem_cons_succ, List.setIfInBounds_toArray, List.set_cons_zero, List.set_cons_succ]
          refine wpAnyH_take (i := 7) (v := .int .i64 1) rfl (by kernel_rfl) (by kernel_rfl) (by kernel_rfl) (fun _ _ _ h => h) (Or.inl ⟨by rfl, fun V hV => ?_⟩) g0 ?_
          · rfl
          try simp only [Act.put, List.getElem_toArray, List.getElem_cons_zero, List.getElem_cons_succ, List.setIfInBounds_toArray, List.set_cons_zero, List.set_cons_succ]
          refine wpAnyH_take (i := 8) (v := .int .i64 1) rfl (by kernel_rfl) (by kernel_rfl) (by kernel_rfl) (fun _ _ _ h => h) (Or.inl ⟨by rfl, fun V hV => ?_⟩) g0 ?_
          · simp [execOp, mx, go_sem]
          try simp only [Act.put, List.getElem_toArray, List.getElem_cons_zero, List.getElem_cons_succ, List.setIfInBounds_toArray, List.set_cons_zero, List.set_cons_succ]
          refine wpAnyH_take (i := 9) (v := .int .i64 1) rfl (by kernel_rfl) (by kernel_rfl) (by kernel_rfl) (fun _ _ _ h => h) (Or.inl ⟨by rfl, fun V hV => ?_⟩) g0 ?_
          · rfl
          try simp only [Act.put, List.getElem_toArray, List.getElem_cons_zero, List.getElem_cons_succ, List.setIfInBounds_toArray, List.set_cons_zero, List.set_cons_succ]
          refine wpAnyH_take (i := 10) (v := .bool false) rfl (by kernel_rfl) (by kernel_rfl) (by kernel_rfl) (fun _ _ _ h => h) (Or.inl ⟨by rfl, fun V hV => ?_⟩) g0 ?_
          · simp [execOp, go_sem]
          try simp only [Act.put, List.getElem_toArray, List.getElem_cons_zero, List.getElem_cons_succ, List.setIfInBounds_toArray, List.set_cons_zero, List.set_cons_succ]
          refine wpAnyH_ready (rs := [6, 11]) (by kernel_rfl) (by simp) ?_
          refine AllReadyH.cons rfl (fun K hK => ?_) (AllReadyH.cons rfl (fun K hK => ?_) AllReadyH.nil)
          · rw [if_pos (by rfl)]
            go_simp
            refine hK.out _ _ (World.grownBy.trans g0 (World.grownBy_alloc _ _ _)) (fun g2 => ?_)
            clear hK K
            try simp only [Act.put, List.getElem_toArray, List.getElem_cons_zero, List.getElem_cons_succ, List.setIfInBounds_toArray, List.set_cons_zero, List.set_cons_succ]
            refine wpAnyH_ready (rs := [11]) (by kernel_rfl) (by simp) ?_
            refine AllReadyH.cons rfl (fun K hK => ?_) AllReadyH.nil
            rw [if_pos (by rfl)]
            go_simp
            refine (oneIf_any _ _).mono ?_
            rintro ee V1 ⟨rfl, rfl⟩
            dsimp only
            refine hK.out _ _ g2 (fun _ => ?_)
            clear hK K
            try simp only [Act.put, List.getElem_toArray, List.getElem_cons_zero, List.getElem_cons_succ, List.setIfInBounds_toArray, List.set_cons_zero, List.set_cons_succ]
            refine wpAnyH_take (i := 12) (v := .int .i64 0) rfl (by kernel_rfl) (by kernel_rfl) (by kernel_rfl) (fun _ _ _ h => h) (Or.inl ⟨by rfl, fun V hV => ?_⟩) g2 ?_
            · rfl
            try simp only [Act.put, List.getElem_toArray, List.getElem_cons_zero, List.getElem_cons_succ, List.setIfInBounds_toArray, List.set_cons_zero, List.set_cons_succ]
            refine wpAnyH_take (i := 13) (v := .int .i64 1) rfl (by kernel_rfl) (by kernel_rfl) (by kernel_rfl) (fun _ _ _ h => h) (Or.inl ⟨by rfl, fun V hV => ?_⟩) g2 ?_
            · rfl
            try simp only [Act.put, List.getElem_toArray, List.getElem_cons_zero, List.getElem_cons_succ, List.setIfInBounds_toArray, List.set_cons_zero, List.set_cons_succ]
            refine wpAnyH_take (i := 14) (v := .int .i64 1) rfl (by kernel_rfl) (by kernel_rfl) (by kernel_rfl) (fun _ _ _ h => h) (Or.inl ⟨by rfl, fun V hV => ?_⟩) g2 ?_
            · simp [execOp, mn, go_sem]
            try simp only [Act.put, List.getElem_toArray, List.getElem_cons_zero, List.getElem_cons_succ, List.setIfInBounds_toArray, List.set_cons_zero, List.set_cons_succ]
            refine wpAnyH_take (i := 15) (v := .pointer (some ⟨W2.heap.size, 1, none⟩)) rfl (by kernel_rfl) (by kernel_rfl) (by kernel_rfl) (fun _ _ _ h => h) (Or.inl ⟨by rfl, fun V hV => ?_⟩) g2 ?_
            · simp [execOp, Act.eval, Result.andThen, go_sem]
            try simp only [Act.put, List.getElem_toArray, List.getElem_cons_zero, List.getElem_cons_succ, List.setIfInBounds_toArray, List.set_cons_zero, List.set_cons_succ]
            refine wpAnyH_ready (rs := [16]) (by kernel_rfl) (by simp) ?_
            refine AllReadyH.cons rfl (fun K hK => ?_) AllReadyH.nil
            rw [if_pos (by rfl)]
            go_simp
            refine hK.out _ _ g2 (fun _ => ?_)
            clear hK K
            try simp only [Act.put, List.getElem_toArray, List.getElem_cons_zero, List.getElem_cons_succ, List.setIfInBounds_toArray, List.set_cons_zero, List.set_cons_succ]
            refine wpAnyH_take (i := 17) (v := .int .i64 B) rfl (by kernel_rfl) (by kernel_rfl) (by kernel_rfl) (fun _ _ _ h => h) (Or.inl ⟨by rfl, fun V hV => ?_⟩) g2 ?_
            · rfl
            try simp only [Act.put, List.getElem_toArray, List.getElem_cons_zero, List.getElem_cons_succ, List.setIfInBounds_toArray, List.set_cons_zero, List.set_cons_succ]
            refine wpAnyH_done (by kernel_rfl) ?_ _
            refine NoPanic.normal ?_
            go_wp2_with fail
            go_meet
            exact ⟨congrArg (Value.int .i64) (by rw [← HZ.out]; unfold stepAt; rw [if_neg (by decide), if_pos rfl]), rfl⟩
          · rw [if_pos (by rfl)]
            go_simp
            refine (oneIf_any _ _).mono ?_
            rintro ee V1 ⟨rfl, rfl⟩
            dsimp only
            refine hK.out _ _ g0 (fun _ => ?_)
            clear hK K
            try simp only [Act.put, List.getElem_toArray, List.getElem_cons_zero, List.getElem_cons_succ, List.setIfInBounds_toArray, List.set_cons_zero, List.set_cons_succ]
            refine wpAnyH_take (i := 12) (v := .int .i64 0) rfl (by kernel_rfl) (by kernel_rfl) (by kernel_rfl) (fun _ _ _ h => h) (Or.inl ⟨by rfl, fun V hV => ?_⟩) g0 ?_
            · rfl
            try simp only [Act.put, List.getElem_toArray, List.getElem_cons_zero, List.getElem_cons_succ, List.setIfInBounds_toArray, List.set_cons_zero, List.set_cons_succ]
            refine wpAnyH_take (i := 13) (v := .int .i64 1) rfl (by kernel_rfl) (by kernel_rfl) (by kernel_rfl) (fun _ _ _ h => h) (Or.inl ⟨by rfl, fun V hV => ?_⟩) g0 ?_
            · rfl
            try simp only [Act.put, List.getElem_toArray, List.getElem_cons_zero, List.getElem_cons_succ, List.setIfInBounds_toArray, List.set_cons_zero, List.set_cons_succ]
            refine wpAnyH_take (i := 14) (v := .int .i64 1) rfl (by kernel_rfl) (by kernel_rfl) (by kernel_rfl) (fun _ _ _ h => h) (Or.inl ⟨by rfl, fun V hV => ?_⟩) g0 ?_
            · simp [execOp, mn, go_sem]
            try simp only [Act.put, List.getElem_toArray, List.getElem_cons_zero, List.getElem_cons_succ, List.setIfInBounds_toArray, List.set_cons_zero, List.set_cons_succ]
            refine wpAnyH_ready (rs := [6]) (by kernel_rfl) (by simp) ?_
            refine AllReadyH.cons rfl (fun K hK => ?_) AllReadyH.nil
            rw [if_pos (by rfl)]
            go_simp
            refine hK.out _ _ (World.grownBy.trans g0 (World.grownBy_alloc _ _ _)) (fun g2 => ?_)
            clear hK K
            try simp only [Act.put, List.getElem_toArray, List.getElem_cons_zero, List.getElem_cons_succ, List.setIfInBounds_toArray, List.set_cons_zero, List.set_cons_succ]
            refine wpAnyH_take (i := 15) (v := .pointer (some ⟨W2.heap.size, 1, none⟩)) rfl (by kernel_rfl) (by kernel_rfl) (by kernel_rfl) (fun _ _ _ h => h) (Or.inl ⟨by rfl, fun V hV => ?_⟩) g2 ?_
            · simp [execOp, Act.eval, Result.andThen, go_sem]
            try simp only [Act.put, List.getElem_toArray, List.getElem_cons_zero, List.getElem_cons_succ, List.setIfInBounds_toArray, List.set_cons_zero, List.set_cons_succ]
            refine wpAnyH_ready (rs := [16]) (by kernel_rfl) (by simp) ?_
            refine AllReadyH.cons rfl (fun K hK => ?_) AllReadyH.nil
            rw [if_pos (by rfl)]
            go_simp
            refine hK.out _ _ g2 (fun _ => ?_)
            clear hK K
            try simp only [Act.put, List.getElem_toArray, List.getElem_cons_zero, List.getElem_cons_succ, List.setIfInBounds_toArray, List.set_cons_zero, List.set_cons_succ]
            refine wpAnyH_take (i := 17) (v := .int .i64 B) rfl (by kernel_rfl) (by kernel_rfl) (by kernel_rfl) (fun _ _ _ h => h) (Or.inl ⟨by rfl, fun V hV => ?_⟩) g2 ?_
            · rfl
            try simp only [Act.put, List.getElem_toArray, List.getElem_cons_zero, List.getElem_cons_succ, List.setIfInBounds_toArray, List.set_cons_zero, List.set_cons_succ]
            refine wpAnyH_done (by kernel_rfl) ?_ _
            refine NoPanic.normal ?_
            go_wp2_with fail
            go_meet
            exact ⟨congrArg (Value.int .i64) (by rw [← HZ.out]; unfold stepAt; rw [if_neg (by decide), if_pos rfl]), rfl⟩
        · have mx : max part 0 = part := by omega
          have wr : IntKind.i64.wrap part = part := by rw [IntKind.wrap_i64]; omega
          have wr0 : IntKind.i64.wrap 0 = 0 := by decide
          have mn : min part 2 = 2 := by omega
          refine wp_region_noPanic ?_
          refine wp_region_held_drew (S := fun V => W2.grownBy V none) (by kernel_rfl) (show W2.grownBy W2.drew none from ⟨rfl, rfl, rfl, Nat.le_refl _, fun _ _ _ => rfl⟩) (fun g0 => ?_)
          refine wpAnyH_take (i := 0) (v := .pointer (some ⟨w0.heap.size + 1, 0, none⟩)) rfl (by kernel_rfl) (by kernel_rfl) (by kernel_rfl) (fun _ _ _ h => h) (Or.inl ⟨by rfl, fun V hV => ?_⟩) g0 ?_
          · rfl
          try simp only [Act.put, List.getElem_toArray, List.getElem_cons_zero, List.getElem_cons_succ, List.setIfInBounds_toArray, List.set_cons_zero, List.set_cons_succ]
          refine wpAnyH_take (i := 1) (v := .int .i64 A) rfl (by kernel_rfl) (by kernel_rfl) (by kernel_rfl) (fun _ _ _ h => h) (Or.inl ⟨by rfl, fun V hV => ?_⟩) g0 ?_
          · have h := int_load (hV.cell c0 (by simp))
            simp [execOp, Act.eval, h, Result.andThen]
          try simp only [Act.put, List.getElem_toArray, List.getElem_cons_zero, List.getElem_cons_succ, List.setIfInBounds_toArray, List.set_cons_zero, List.set_cons_succ]
          refine wpAnyH_take (i := 2) (v := .pointer (some ⟨w0.heap.size + 1, 1, none⟩)) rfl (by kernel_rfl) (by kernel_rfl) (by kernel_rfl) (fun _ _ _ h => h) (Or.inl ⟨by rfl, fun V hV => ?_⟩) g0 ?_
          · rfl
          try simp only [Act.put, List.getElem_toArray, List.getElem_cons_zero, List.getElem_cons_succ, List.setIfInBounds_toArray, List.set_cons_zero, List.set_cons_succ]
          refine wpAnyH_take (i := 3) (v := .int .i64 B) rfl (by kernel_rfl) (by kernel_rfl) (by kernel_rfl) (fun _ _ _ h => h) (Or.inl ⟨by rfl, fun V hV => ?_⟩) g0 ?_
          · have h := int_load (hV.cell c1 (by simp))
            simp [execOp, Act.eval, h, Result.andThen]
          try simp only [Act.put, List.getElem_toArray, List.getElem_cons_zero, List.getElem_cons_succ, List.setIfInBounds_toArray, List.set_cons_zero, List.set_cons_succ]
          refine wpAnyH_take (i := 4) (v := .pointer (some ⟨w0.heap.size + 1, 2, none⟩)) rfl (by kernel_rfl) (by kernel_rfl) (by kernel_rfl) (fun _ _ _ h => h) (Or.inl ⟨by rfl, fun V hV => ?_⟩) g0 ?_
          · rfl
          try simp only [Act.put, List.getElem_toArray, List.getElem_cons_zero, List.getElem_cons_succ, List.setIfInBounds_toArray, List.set_cons_zero, List.set_cons_succ]
          refine wpAnyH_take (i := 5) (v := .int .i64 C) rfl (by kernel_rfl) (by kernel_rfl) (by kernel_rfl) (fun _ _ _ h => h) (Or.inl ⟨by rfl, fun V hV => ?_⟩) g0 ?_
          · have h := int_load (hV.cell c2 (by simp))
            simp [execOp, Act.eval, h, Result.andThen]
          try simp only [Act.put, List.getElem_toArray, List.getElem_cons_zero, List.getElem_cons_succ, List.setIfInBounds_toArray, List.set_cons_zero, List.set_cons_succ]
          refine wpAnyH_take (i := 7) (v := .int .i64 part) rfl (by kernel_rfl) (by kernel_rfl) (by kernel_rfl) (fun _ _ _ h => h) (Or.inl ⟨by rfl, fun V hV => ?_⟩) g0 ?_
          · rfl
          try simp only [Act.put, List.getElem_toArray, List.getElem_cons_zero, List.getElem_cons_succ, List.setIfInBounds_toArray, List.set_cons_zero, List.set_cons_succ]
          refine wpAnyH_take (i := 8) (v := .int .i64 part) rfl (by kernel_rfl) (by kernel_rfl) (by kernel_rfl) (fun _ _ _ h => h) (Or.inl ⟨by rfl, fun V hV => ?_⟩) g0 ?_
          · simp [execOp, mx, go_sem]
          try simp only [Act.put, List.getElem_toArray, List.getElem_cons_zero, List.getElem_cons_succ, List.setIfInBounds_toArray, List.set_cons_zero, List.set_cons_succ]
          refine wpAnyH_take (i := 9) (v := .int .i64 part) rfl (by kernel_rfl) (by kernel_rfl) (by kernel_rfl) (fun _ _ _ h => h) (Or.inl ⟨by rfl, fun V hV => ?_⟩) g0 ?_
          · rfl
          try simp only [Act.put, List.getElem_toArray, List.getElem_cons_zero, List.getElem_cons_succ, List.setIfInBounds_toArray, List.set_cons_zero, List.set_cons_succ]
          refine wpAnyH_take (i := 10) (v := .bool false) rfl (by kernel_rfl) (by kernel_rfl) (by kernel_rfl) (fun _ _ _ h => h) (Or.inl ⟨by rfl, fun V hV => ?_⟩) g0 ?_
          · simp [execOp, d1, go_sem]
          try simp only [Act.put, List.getElem_toArray, List.getElem_cons_zero, List.getElem_cons_succ, List.setIfInBounds_toArray, List.set_cons_zero, List.set_cons_succ]
          refine wpAnyH_ready (rs := [6, 11]) (by kernel_rfl) (by simp) ?_
          refine AllReadyH.cons rfl (fun K hK => ?_) (AllReadyH.cons rfl (fun K hK => ?_) AllReadyH.nil)
          · rw [if_pos (by rfl)]
            go_simp
            refine hK.out _ _ (World.grownBy.trans g0 (World.grownBy_alloc _ _ _)) (fun g2 => ?_)
            clear hK K
            try simp only [Act.put, List.getElem_toArray, List.getElem_cons_zero, List.getElem_cons_succ, List.setIfInBounds_toArray, List.set_cons_zero, List.set_cons_succ]
            refine wpAnyH_ready (rs := [11]) (by kernel_rfl) (by simp) ?_
            refine AllReadyH.cons rfl (fun K hK => ?_) AllReadyH.nil
            rw [if_pos (by rfl)]
            go_simp
            refine (oneIf_any _ _).mono ?_
            rintro ee V1 ⟨rfl, rfl⟩
            dsimp only
            refine hK.out _ _ g2 (fun _ => ?_)
            clear hK K
            try simp only [Act.put, List.getElem_toArray, List.getElem_cons_zero, List.getElem_cons_succ, List.setIfInBounds_toArray, List.set_cons_zero, List.set_cons_succ]
            refine wpAnyH_take (i := 12) (v := .int .i64 0) rfl (by kernel_rfl) (by kernel_rfl) (by kernel_rfl) (fun _ _ _ h => h) (Or.inl ⟨by rfl, fun V hV => ?_⟩) g2 ?_
            · rfl
            try simp only [Act.put, List.getElem_toArray, List.getElem_cons_zero, List.getElem_cons_succ, List.setIfInBounds_toArray, List.set_cons_zero, List.set_cons_succ]
            refine wpAnyH_take (i := 13) (v := .int .i64 part) rfl (by kernel_rfl) (by kernel_rfl) (by kernel_rfl) (fun _ _ _ h => h) (Or.inl ⟨by rfl, fun V hV => ?_⟩) g2 ?_
            · simp [execOp, wr, wr0, go_sem]
            try simp only [Act.put, List.getElem_toArray, List.getElem_cons_zero, List.getElem_cons_succ, List.setIfInBounds_toArray, List.set_cons_zero, List.set_cons_succ]
            refine wpAnyH_take (i := 14) (v := .int .i64 2) rfl (by kernel_rfl) (by kernel_rfl) (by kernel_rfl) (fun _ _ _ h => h) (Or.inl ⟨by rfl, fun V hV => ?_⟩) g2 ?_
            · simp [execOp, mn, go_sem]
            try simp only [Act.put, List.getElem_toArray, List.getElem_cons_zero, List.getElem_cons_succ, List.setIfInBounds_toArray, List.set_cons_zero, List.set_cons_succ]
            refine wpAnyH_take (i := 15) (v := .pointer (some ⟨W2.heap.size, 2, none⟩)) rfl (by kernel_rfl) (by kernel_rfl) (by kernel_rfl) (fun _ _ _ h => h) (Or.inl ⟨by rfl, fun V hV => ?_⟩) g2 ?_
            · simp [execOp, Act.eval, Result.andThen, go_sem]
            try simp only [Act.put, List.getElem_toArray, List.getElem_cons_zero, List.getElem_cons_succ, List.setIfInBounds_toArray, List.set_cons_zero, List.set_cons_succ]
            refine wpAnyH_ready (rs := [16]) (by kernel_rfl) (by simp) ?_
            refine AllReadyH.cons rfl (fun K hK => ?_) AllReadyH.nil
            rw [if_pos (by rfl)]
            go_simp
            refine hK.out _ _ g2 (fun _ => ?_)
            clear hK K
            try simp only [Act.put, List.getElem_toArray, List.getElem_cons_zero, List.getElem_cons_succ, List.setIfInBounds_toArray, List.set_cons_zero, List.set_cons_succ]
            refine wpAnyH_take (i := 17) (v := .int .i64 C) rfl (by kernel_rfl) (by kernel_rfl) (by kernel_rfl) (fun _ _ _ h => h) (Or.inl ⟨by rfl, fun V hV => ?_⟩) g2 ?_
            · rfl
            try simp only [Act.put, List.getElem_toArray, List.getElem_cons_zero, List.getElem_cons_succ, List.setIfInBounds_toArray, List.set_cons_zero, List.set_cons_succ]
            refine wpAnyH_done (by kernel_rfl) ?_ _
            refine NoPanic.normal ?_
            go_wp2_with fail
            go_meet
            exact ⟨congrArg (Value.int .i64) (by rw [← HZ.out]; unfold stepAt; rw [if_neg p2, if_neg p3]), rfl⟩
          · rw [if_pos (by rfl)]
            go_simp
            refine (oneIf_any _ _).mono ?_
            rintro ee V1 ⟨rfl, rfl⟩
            dsimp only
            refine hK.out _ _ g0 (fun _ => ?_)
            clear hK K
            try simp only [Act.put, List.getElem_toArray, List.getElem_cons_zero, List.getElem_cons_succ, List.setIfInBounds_toArray, List.set_cons_zero, List.set_cons_succ]
            refine wpAnyH_take (i := 12) (v := .int .i64 0) rfl (by kernel_rfl) (by kernel_rfl) (by kernel_rfl) (fun _ _ _ h => h) (Or.inl ⟨by rfl, fun V hV => ?_⟩) g0 ?_
            · rfl
            try simp only [Act.put, List.getElem_toArray, List.getElem_cons_zero, List.getElem_cons_succ, List.setIfInBounds_toArray, List.set_cons_zero, List.set_cons_succ]
            refine wpAnyH_take (i := 13) (v := .int .i64 part) rfl (by kernel_rfl) (by kernel_rfl) (by kernel_rfl) (fun _ _ _ h => h) (Or.inl ⟨by rfl, fun V hV => ?_⟩) g0 ?_
            · simp [execOp, wr, wr0, go_sem]
            try simp only [Act.put, List.getElem_toArray, List.getElem_cons_zero, List.getElem_cons_succ, List.setIfInBounds_toArray, List.set_cons_zero, List.set_cons_succ]
            refine wpAnyH_take (i := 14) (v := .int .i64 2) rfl (by kernel_rfl) (by kernel_rfl) (by kernel_rfl) (fun _ _ _ h => h) (Or.inl ⟨by rfl, fun V hV => ?_⟩) g0 ?_
            · simp [execOp, mn, go_sem]
            try simp only [Act.put, List.getElem_toArray, List.getElem_cons_zero, List.getElem_cons_succ, List.setIfInBounds_toArray, List.set_cons_zero, List.set_cons_succ]
            refine wpAnyH_ready (rs := [6]) (by kernel_rfl) (by simp) ?_
            refine AllReadyH.cons rfl (fun K hK => ?_) AllReadyH.nil
            rw [if_pos (by rfl)]
            go_simp
            refine hK.out _ _ (World.grownBy.trans g0 (World.grownBy_alloc _ _ _)) (fun g2 => ?_)
            clear hK K
            try simp only [Act.put, List.getElem_toArray, List.getElem_cons_zero, List.getElem_cons_succ, List.setIfInBounds_toArray, List.set_cons_zero, List.set_cons_succ]
            refine wpAnyH_take (i := 15) (v := .pointer (some ⟨W2.heap.size, 2, none⟩)) rfl (by kernel_rfl) (by kernel_rfl) (by kernel_rfl) (fun _ _ _ h => h) (Or.inl ⟨by rfl, fun V hV => ?_⟩) g2 ?_
            · simp [execOp, Act.eval, Result.andThen, go_sem]
            try simp only [Act.put, List.getElem_toArray, List.getElem_cons_zero, List.getElem_cons_succ, List.setIfInBounds_toArray, List.set_cons_zero, List.set_cons_succ]
            refine wpAnyH_ready (rs := [16]) (by kernel_rfl) (by simp) ?_
            refine AllReadyH.cons rfl (fun K hK => ?_) AllReadyH.nil
            rw [if_pos (by rfl)]
            go_simp
            refine hK.out _ _ g2 (fun _ => ?_)
            clear hK K
            try simp only [Act.put, List.getElem_toArray, List.getElem_cons_zero, List.getElem_cons_succ, List.setIfInBounds_toArray, List.set_cons_zero, List.set_cons_succ]
            refine wpAnyH_take (i := 17) (v := .int .i64 C) rfl (by kernel_rfl) (by kernel_rfl) (by kernel_rfl) (fun _ _ _ h => h) (Or.inl ⟨by rfl, fun V hV => ?_⟩) g2 ?_
            · rfl
            try simp only [Act.put, List.getElem_toArray, List.getElem_cons_zero, List.getElem_cons_succ, List.setIfInBounds_toArray, List.set_cons_zero, List.set_cons_succ]
            refine wpAnyH_done (by kernel_rfl) ?_ _
            refine NoPanic.normal ?_
            go_wp2_with fail
            go_meet
            exact ⟨congrArg (Value.int .i64) (by rw [← HZ.out]; unfold stepAt; rw [if_neg p2, if_neg p3]), rfl⟩
  case rest =>
    obtain ⟨rfl, rfl⟩ := hcut
    have B3 := World.grownBy_alloc W2 (.cells #[.int .i64 A, .int .i64 B, .int .i64 C] 3) none
    have g3 : W2.grownBy (W2.alloc (.cells #[.int .i64 A, .int .i64 B, .int .i64 C] 3)).drew none := World.grownBy.trans B3 ⟨rfl, rfl, rfl, Nat.le_refl _, fun _ _ _ => rfl⟩
    obtain ⟨W3, hW3⟩ : ∃ W3, (W2.alloc (.cells #[.int .i64 A, .int .i64 B, .int .i64 C] 3)).drew = W3 := ⟨_, rfl⟩
    rw [hW3] at g3 ⊢
    have T3 := Lib.hid (World.grownBy.trans T2.out g3)
    have GW := Lib.hid (World.grownBy.trans G1.out T3.out)
    have M1 := Lib.hid (block_kept L1.out g3)
    have M2 := Lib.hid (block_kept B2.out g3)
    have L3 : Hid (w0.heap.size + 1 ≤ W3.heap.size) := Nat.le_trans L0.out T3.out.size
    clear B3 hW3 g3 c0 c1 c2 c3
    have n3 := (block_cell M2.out 3 _ rfl).1
    have k1 : Hid (∀ W', W3.grownBy W' none → Calls Tryd.prog 19 #[.agg #[.int .i64 A, .int .i64 B, .int .i64 C, .slice (some ⟨w0.heap.size, 0, none⟩) 1 1], .int .i64 part] W' fun e w' => e = .returned (.agg #[.int .i64 X, .int .i64 Y, .int .i64 Z, .slice none 0 0]) ∧ W3.grownBy w' none) :=
      fun W' hg => (refNext_at _ ⟨A, B, C, [⟨#[120]⟩]⟩ _ part _ W' (VA.out W' (World.grownBy.trans T3.out hg)) HN.out).mono fun e w' h => ⟨h.1, World.grownBy.trans hg h.2⟩
    have k2 : Hid (∀ W', W3.grownBy W' none → Calls Tryd.prog 12 #[.agg #[.int .i64 X, .int .i64 Y, .int .i64 Z, .slice none 0 0], .agg #[.int .i64 X, .int .i64 Y, .int .i64 Z, .slice none 0 0]] W' fun e w' => e = .returned (.bool true) ∧ W3.grownBy w' none) :=
      fun W' hg => (version_at 1 1 0 0 X Y Z [] none none 0 0 W' rfl rfl (by omega) (PartS.nil (by omega)) (PartS.nil (by omega))).mono fun e w' h => ⟨h.1, World.grownBy.trans hg h.2⟩
    have hC6 : W3.grownBy { W3 with drawn := W3.drawn + 1 } none := ⟨rfl, rfl, rfl, Nat.le_refl _, fun _ _ _ => rfl⟩
    go_wp2
    refine wp_region_quiet (C := fun w' => W3.grownBy w' none) (by kernel_rfl) (by kernel_rfl) hC6 ?_
    clear hC6
    refine wpQuiet_step (fun K hK => ?_)
    go_simp
    refine ⟨_, fun W hW => rfl, hK _ ?_⟩
    clear hK K
    refine wpQuiet_step (fun K hK => ?_)
    go_simp
    refine ⟨.slice none 0 0, fun W hW => ?_, hK _ ?_⟩
    · rw [hW.cell n3 (by simp)]; exact ⟨rfl, rfl⟩
    clear hK K
    refine wpQuiet_step (fun K hK => ?_)
    go_simp
    refine ⟨_, fun W hW => rfl, hK _ ?_⟩
    clear hK K
    refine wpQuiet_step (fun K hK => ?_)
    go_simp
    refine ⟨_, fun W hW => rfl, hK _ ?_⟩
    clear hK K
    refine wpQuiet_step (fun K hK => ?_)
    go_simp
    refine ⟨_, fun W hW => rfl, hK _ ?_⟩
    clear hK K
    refine wpQuiet_step (fun K hK => ?_)
    rw [if_pos (by rfl)]
    refine ⟨.agg #[.int .i64 X, .int .i64 Y, .int .i64 Z, .slice none 0 0], fun W' hW' => ?_, hK _ ?_⟩
    · have h := ver_load (block_kept M2.out hW') rfl
      unfold Oper.quietAt
      simp [execOp, Act.eval, h, Result.andThen, Oper.quietUpon]
    clear hK K
    go_simp
    refine wpQuiet_step (fun K hK => ?_)
    rw [if_pos (by rfl)]
    refine ⟨.agg #[.int .i64 A, .int .i64 B, .int .i64 C, .slice (some ⟨w0.heap.size, 0, none⟩) 1 1], fun W' hW' => ?_, hK _ ?_⟩
    · have h := ver_load (block_kept M1.out hW') rfl
      unfold Oper.quietAt
      simp [execOp, Act.eval, h, Result.andThen, Oper.quietUpon]
    clear hK K
    go_simp
    refine wpQuiet_step (fun K hK => ?_)
    go_simp
    refine ⟨_, fun W hW => rfl, hK _ ?_⟩
    clear hK K
    refine wpQuiet_step (fun K hK => ?_)
    go_simp
    refine ⟨.agg #[.int .i64 X, .int .i64 Y, .int .i64 Z, .slice none 0 0], fun W' hW' => k1.out W' hW', hK _ ?_⟩
    clear hK K
    refine wpQuiet_step (fun K hK => ?_)
    go_simp
    refine ⟨.bool true, fun W' hW' => k2.out W' hW', hK _ ?_⟩
    clear hK K
    refine wpQuiet_step (fun K hK => ?_)
    go_simp
    refine ⟨_, fun W hW => rfl, hK _ ?_⟩
    clear hK K
    refine wpQuiet_step (fun K hK => ?_)
    go_simp
    refine ⟨_, fun W hW => rfl, hK _ ?_⟩
    clear hK K
    refine wpQuiet_nil ?_
    intro W6 hW6
    have H6 := Lib.hid hW6
    clear hW6 n3
    obtain ⟨b10, b11, b12, b13⟩ := ver_block M1.out H6.out
    obtain ⟨b20, b21, b22, b23⟩ := ver_block M2.out H6.out
    go_wp2_with fail
    clear b10 b11 b12 b13 b20 b21 b22 b23
    refine (cmp_at 1 _ ⟨X, Y, Z, []⟩ ⟨A, B, C, [⟨#[120]⟩]⟩ (.slice none 0 0) _ 1 _ (at_none X Y Z RX.out RY.out RZ.out 1 (by omega)) (VA.out _ (World.grownBy.trans T3.out H6.out)) C1.out).mono ?_
    rintro ee w7 ⟨rfl, g7⟩
    dsimp only
    have G7 := Lib.hid (World.grownBy.trans H6.out g7)
    clear g7
    by_cases hz : z = 999999999
    · subst hz
      go_wp2
      go_ret
      exact ⟨rfl, World.grownBy.trans GW.out G7.out⟩
    · have hz1 : (z == 999999999) = false := by simp [hz]
      have C3 := Lib.hid (C2.out (by rw [HZ.out]; exact hz))
      obtain ⟨b10, b11, b12, b13⟩ := ver_block M1.out G7.out
      obtain ⟨b20, b21, b22, b23⟩ := ver_block M2.out G7.out
      go_wp2_with fail
      clear b10 b11 b12 b13 b20 b21 b22 b23
      refine (cmp_at 1 1 ⟨X, Y, Z, []⟩ ⟨A, B, C, []⟩ (.slice none 0 0) (.slice none 0 0) 1 _ (at_none X Y Z RX.out RY.out RZ.out 1 (by omega)) (at_none A B C RA.out RB.out RC.out 1 (by omega)) C3.out).mono ?_
      rintro ee w8 ⟨rfl, g8⟩
      dsimp only
      have G8 := Lib.hid (World.grownBy.trans G7.out g8)
      clear g8
      go_wp2
      go_ret
      exact ⟨rfl, World.grownBy.trans GW.out G8.out⟩
end Go.Proofs.YtkngfkjnohbbiaaDoor
