/- Which blocks of a script are open: script's step, whole. -/
import Derived.Test.YtmjdkgbblccpgaaDoorBi
namespace Go.Proofs.YtmjdkgbblccpgaaDoor
open Go.RowKit

def stepB (L : List Int) (k : Int) : List Int × Bool :=
  if k = 7 ∨ k = 8 then (L ++ [k], decide (L.length < 8))
  else if k = 9 then (if L.getLast? = some 7 then (L.dropLast ++ [9], true) else (L, false))
  else if k = 10 then (if L = [] then (L, false) else (L.dropLast, true))
  else (L, true)
/-- Nothing that was there is otherwise but the block p, and v's own. -/
structure Kept (w w' : World) (p : Nat) (v : Value) : Prop where
  os : w'.os = w.os
  tape : w'.tape = w.tape
  output : w'.output = w.output
  size : w.heap.size ≤ w'.heap.size
  block : ∀ j, j < w.heap.size → j ≠ p → v.ownBlock ≠ some j → w'.heap[j]? = w.heap[j]?
theorem Kept.refl (w : World) (p : Nat) (v : Value) : Kept w w p v := ⟨rfl, rfl, rfl, Nat.le_refl _, fun _ _ _ _ => rfl⟩
theorem Kept.grown {w w1 w2 : World} {p : Nat} {v : Value} (h : Kept w w1 p v) (hg : w1.grownBy w2 none) : Kept w w2 p v :=
  ⟨hg.os.trans h.os, hg.tape.trans h.tape, hg.output.trans h.output, Nat.le_trans h.size hg.size, fun j hj h1 h2 => (hg.block j (Nat.lt_of_lt_of_le hj h.size) (by simp)).trans (h.block j hj h1 h2)⟩
theorem Kept.own {w w1 w2 : World} {p : Nat} {v : Value} (h : Kept w w1 p v) (hg : w1.grownBy w2 v.ownBlock) : Kept w w2 p v :=
  ⟨hg.os.trans h.os, hg.tape.trans h.tape, hg.output.trans h.output, Nat.le_trans h.size hg.size, fun j hj h1 h2 => (hg.block j (Nat.lt_of_lt_of_le hj h.size) (fun e => h2 e.symm)).trans (h.block j hj h1 h2)⟩
theorem Kept.set {w w1 : World} {p : Nat} {v : Value} (h : Kept w w1 p v) (i : Nat) (u : Value) : Kept w (w1.setCell ⟨p, i, none⟩ u) p v :=
  ⟨h.os, h.tape, h.output, by simpa [World.setCell] using h.size, fun j hj h1 h2 => by
    rw [(set_grown w1 p i u).block j (Nat.lt_of_lt_of_le hj h.size) (by simp; omega)]
    exact h.block j hj h1 h2⟩
def StepTo (w : World) (p base : Nat) (v : Value) (L : List Int) (k : Int) (e : Ending) (w' : World) : Prop :=
  ∃ v', e = .returned (.bool (stepB L k).2) ∧ w'.heap[p]? = some (.cells #[v'] 51 (0, 0)) ∧ OwnsI w' base v' (stepB L k).1 ∧ Kept w w' p v

theorem OwnsI.slice {w : World} {base : Nat} {v : Value} {L : List Int} (h : OwnsI w base v L) : ∃ a n cap, v = .slice a n cap := by
  obtain ⟨a, cap, h1, _⟩ := h.form
  exact ⟨a, _, cap, h1⟩
theorem own_block {w w' : World} {p base n cp : Nat} {a : Option Addr} {L : List Int} {o : Obj} (HO : Hid (OwnsI w base (.slice a n cp) L)) (HP : Hid (w.heap[p]? = some (.cells #[.slice a n cp] 51 (0, 0)))) (hb : p < base) (hg : (w.alloc o).grownBy w' (Value.slice a n cp).ownBlock) : w'.heap[p]? = some (.cells #[.slice a n cp] 51 (0, 0)) := by
  have h1 := block_kept HP.out (World.grownBy_alloc w o none)
  rw [hg.block p (block_size h1) (fun e => by have := (HO.out.block_lt p e.symm).1; omega)]
  exact h1

set_option maxRecDepth 1000000
set_option maxHeartbeats 2000000 in
theorem step_put (p base n cp : Nat) (a : Option Addr) (L : List Int) (k : Int) (w : World) (hn : L.length = n) (hn8 : n ≤ 1000000) (hp : w.heap[p]? = some (.cells #[.slice a n cp] 51 (0, 0))) (ho : OwnsI w base (.slice a n cp) L) (hb : p < base) (hbw : base ≤ w.heap.size) (hk : k = 7 ∨ k = 8) :
    Calls Tryd.prog 24 #[.pointer (some ⟨p, 0, none⟩), .int .i64 k] w (StepTo w p base (.slice a n cp) L k) := by
  have hs : stepB L k = (L ++ [k], decide (L.length < 8)) := by unfold stepB; rw [if_pos hk]
  have HS : Hid ((stepB L k).1 = L ++ [k] ∧ (stepB L k).2 = decide ((n : Int) < 8)) := by
    show _ ∧ _
    rw [hs, hn]
    exact ⟨rfl, decide_eq_decide.2 (by omega)⟩
  have HP := Lib.hid hp
  have HO := Lib.hid ho
  have HN := Lib.hid hn
  have c0 : w.cell? ⟨p, 0, none⟩ = some (.slice a n cp) := (block_cell hp 0 _ rfl).1
  have c1 := (block_cell hp 0 _ rfl).2
  have hpw := block_size hp
  clear hp ho hs hn
  rcases hk with rfl | rfl
  · go_enter Tryd.func24, Tryd.ntmps24
    go_wp2_with (at_builtin; go_must (with_reducible refine app_int (o := ⟨some 21, _, _, _, _, _⟩) rfl _ _ rfl base (.slice a n cp) L 7 w.heap.size ?_ (HO.out.alloc _) ?_ ?_ ?_ ?_ ?_); go_must (exact rfl); go_must (exact rfl); go_must (exact alloc_cell _ _ _ _); go_must ((have := HN.out; omega)); go_must ((rw [alloc_size]; omega)); (intro v' w' ho' hg'); obtain ⟨a2, n2, cp2, rfl⟩ := ho'.slice; have HO2 := Lib.hid ho'; have HG2 := Lib.hid hg'; have HP2 := Lib.hid (own_block HO HP hb hg'); have c2 := (block_cell HP2.out 0 _ rfl).1; have c3 := (block_cell HP2.out 0 _ rfl).2; clear ho' hg')
    go_ret
    refine ⟨.slice a2 n2 cp2, by rw [HS.out.2]; rfl, set_block HP2.out 0 _, ?_, ((Kept.refl w p (.slice a n cp)).grown (World.grownBy_alloc w _ none) |>.own HG2.out).set 0 _⟩
    rw [HS.out.1]
    exact HO2.out.other (set_grown _ p 0 _) (fun e => by have := (HO2.out.block_lt p e).1; omega)
  · go_enter Tryd.func24, Tryd.ntmps24
    go_wp2_with (at_builtin; go_must (with_reducible refine app_int (o := ⟨some 21, _, _, _, _, _⟩) rfl _ _ rfl base (.slice a n cp) L 8 w.heap.size ?_ (HO.out.alloc _) ?_ ?_ ?_ ?_ ?_); go_must (exact rfl); go_must (exact rfl); go_must (exact alloc_cell _ _ _ _); go_must ((have := HN.out; omega)); go_must ((rw [alloc_size]; omega)); (intro v' w' ho' hg'); obtain ⟨a2, n2, cp2, rfl⟩ := ho'.slice; have HO2 := Lib.hid ho'; have HG2 := Lib.hid hg'; have HP2 := Lib.hid (own_block HO HP hb hg'); have c2 := (block_cell HP2.out 0 _ rfl).1; have c3 := (block_cell HP2.out 0 _ rfl).2; clear ho' hg')
    go_ret
    refine ⟨.slice a2 n2 cp2, by rw [HS.out.2]; rfl, set_block HP2.out 0 _, ?_, ((Kept.refl w p (.slice a n cp)).grown (World.grownBy_alloc w _ none) |>.own HG2.out).set 0 _⟩
    rw [HS.out.1]
    exact HO2.out.other (set_grown _ p 0 _) (fun e => by have := (HO2.out.block_lt p e).1; omega)

theorem list_last {α : Type} (L : List α) (h : L ≠ []) : ∃ M x, L = M ++ [x] := ⟨L.dropLast, L.getLast h, (List.dropLast_concat_getLast h).symm⟩
set_option maxRecDepth 1000000
set_option maxHeartbeats 2000000 in
theorem step_other (p base n cp : Nat) (a : Option Addr) (L : List Int) (k : Int) (w : World) (hn : L.length = n) (hn8 : n ≤ 1000000) (hp : w.heap[p]? = some (.cells #[.slice a n cp] 51 (0, 0))) (ho : OwnsI w base (.slice a n cp) L) (h7 : ¬ k = 7) (h8 : ¬ k = 8) (h9 : ¬ k = 9) (h10 : ¬ k = 10) :
    Calls Tryd.prog 24 #[.pointer (some ⟨p, 0, none⟩), .int .i64 k] w (StepTo w p base (.slice a n cp) L k) := by
  have HS : Hid (stepB L k = (L, true)) := Lib.hid (by unfold stepB; rw [if_neg (by omega), if_neg h9, if_neg h10])
  have HP := Lib.hid hp
  have HO := Lib.hid ho
  have c0 : w.cell? ⟨p, 0, none⟩ = some (.slice a n cp) := (block_cell hp 0 _ rfl).1
  have c1 := (block_cell hp 0 _ rfl).2
  have n7 : (k == 7) = false := by simp [h7]
  have n8 : (k == 8) = false := by simp [h8]
  have n9 : (k == 9) = false := by simp [h9]
  have n10 : (k == 10) = false := by simp [h10]
  clear hp ho hn h7 h8 h9 h10
  go_enter Tryd.func24, Tryd.ntmps24
  go_wp2
  go_ret
  refine ⟨.slice a n cp, by rw [HS.out]; rfl, HP.out, by rw [HS.out]; exact HO.out, Kept.refl _ _ _⟩

set_option maxHeartbeats 2000000 in
theorem step_nil (p base cp : Nat) (a : Option Addr) (k : Int) (w : World) (hp : w.heap[p]? = some (.cells #[.slice a 0 cp] 51 (0, 0))) (ho : OwnsI w base (.slice a 0 cp) []) (hk : k = 9 ∨ k = 10) :
    Calls Tryd.prog 24 #[.pointer (some ⟨p, 0, none⟩), .int .i64 k] w (StepTo w p base (.slice a 0 cp) [] k) := by
  have HS : Hid (stepB [] k = ([], false)) := Lib.hid (by rcases hk with rfl | rfl <;> rfl)
  have HP := Lib.hid hp
  have HO := Lib.hid ho
  have c0 : w.cell? ⟨p, 0, none⟩ = some (.slice a 0 cp) := (block_cell hp 0 _ rfl).1
  have c1 := (block_cell hp 0 _ rfl).2
  clear hp ho
  rcases hk with rfl | rfl
  all_goals
    go_enter Tryd.func24, Tryd.ntmps24
    go_wp2
    go_ret
    exact ⟨.slice a 0 cp, by rw [HS.out]; rfl, HP.out, by rw [HS.out]; exact HO.out, Kept.refl _ _ _⟩

set_option maxHeartbeats 2000000 in
theorem step_end (p base n cp : Nat) (a : Option Addr) (L : List Int) (w : World) (hn : L.length = n + 1) (hn8 : n ≤ 1000000) (hp : w.heap[p]? = some (.cells #[.slice a (n + 1) cp] 51 (0, 0))) (ho : OwnsI w base (.slice a (n + 1) cp) L) (hb : p < base) :
    Calls Tryd.prog 24 #[.pointer (some ⟨p, 0, none⟩), .int .i64 10] w (StepTo w p base (.slice a (n + 1) cp) L 10) := by
  have HS : Hid (stepB L 10 = (L.dropLast, true)) := Lib.hid (by
    unfold stepB
    rw [if_neg (by omega), if_neg (by omega), if_pos rfl, if_neg (fun e => by subst e; simp at hn)])
  have HP := Lib.hid hp
  have HO := Lib.hid ho
  have hc : n + 1 ≤ cp := by
    obtain ⟨a', c', e, h1, _⟩ := ho.form
    have := Value.slice.inj e
    omega
  have HD := Lib.hid (ho.shorter hn (by omega))
  have c0 : w.cell? ⟨p, 0, none⟩ = some (.slice a (n + 1) cp) := (block_cell hp 0 _ rfl).1
  have c1 := (block_cell hp 0 _ rfl).2
  obtain ⟨M, x, rfl⟩ := list_last L (fun e => by subst e; simp at hn)
  obtain ⟨g, rfl, hg, hc2, _⟩ := ho.last hn
  clear hp ho hn
  go_enter Tryd.func24, Tryd.ntmps24
  go_wp2
  go_ret
  refine ⟨.slice (some ⟨g, 0, none⟩) n cp, by rw [HS.out]; rfl, set_block HP.out 0 _, ?_, (Kept.refl w p _).set 0 _⟩
  rw [HS.out]
  exact HD.out.other (set_grown _ p 0 _) (fun e => by have := (HO.out.block_lt p e).1; omega)

set_option maxHeartbeats 2000000 in
theorem step_else (p base n cp : Nat) (a : Option Addr) (L : List Int) (x : Int) (w : World) (hn : (L ++ [x]).length = n + 1) (hn8 : n ≤ 1000000) (hp : w.heap[p]? = some (.cells #[.slice a (n + 1) cp] 51 (0, 0))) (ho : OwnsI w base (.slice a (n + 1) cp) (L ++ [x])) (hb : p < base) :
    Calls Tryd.prog 24 #[.pointer (some ⟨p, 0, none⟩), .int .i64 9] w (StepTo w p base (.slice a (n + 1) cp) (L ++ [x]) 9) := by
  have HP := Lib.hid hp
  have HO := Lib.hid ho
  have hc : n + 1 ≤ cp := by
    obtain ⟨a', c', e, h1, _⟩ := ho.form
    have := Value.slice.inj e
    omega
  have c0 : w.cell? ⟨p, 0, none⟩ = some (.slice a (n + 1) cp) := (block_cell hp 0 _ rfl).1
  have c1 := (block_cell hp 0 _ rfl).2
  obtain ⟨g, rfl, hg, hc2, c2, c3, h4⟩ := ho.last hn
  rw [Nat.add_sub_cancel] at c2 c3 h4
  have n0 : decide ((n : Int) < 0) = false := by simp
  have H4 := Lib.hid h4
  have hne : ¬ g = p := by omega
  clear hp ho hn h4
  by_cases hx : x = 7
  · subst hx
    have HS : Hid (stepB (L ++ [7]) 9 = (L ++ [9], true)) := Lib.hid (by
      unfold stepB
      rw [if_neg (by omega), if_pos rfl, if_pos (by simp)]
      simp)
    go_enter Tryd.func24, Tryd.ntmps24
    go_wp2
    go_ret
    refine ⟨.slice (some ⟨g, 0, none⟩) (n + 1) cp, by rw [HS.out]; rfl, ?_, ?_, (Kept.refl w p (.slice (some ⟨g, 0, none⟩) (n + 1) cp)).own (set_grown _ g n _)⟩
    · rw [(set_grown w g n _).block p (block_size HP.out) (by simp; omega)]
      exact HP.out
    · rw [HS.out]
      exact H4.out 9
  · have HS : Hid (stepB (L ++ [x]) 9 = (L ++ [x], false)) := Lib.hid (by
      unfold stepB
      rw [if_neg (by omega), if_pos rfl, if_neg (by simp [hx])])
    have n7 : (x == 7) = false := by simp [hx]
    have n7b : (x != 7) = true := by simp [hx]
    clear hx
    go_enter Tryd.func24, Tryd.ntmps24
    go_wp2
    go_ret
    refine ⟨.slice (some ⟨g, 0, none⟩) (n + 1) cp, by rw [HS.out]; rfl, HP.out, by rw [HS.out]; exact HO.out, Kept.refl _ _ _⟩
theorem step_any (p base n cp : Nat) (a : Option Addr) (L : List Int) (k : Int) (w : World) (hn : L.length = n) (hn8 : n ≤ 1000000) (hp : w.heap[p]? = some (.cells #[.slice a n cp] 51 (0, 0))) (ho : OwnsI w base (.slice a n cp) L) (hb : p < base) (hbw : base ≤ w.heap.size) :
    Calls Tryd.prog 24 #[.pointer (some ⟨p, 0, none⟩), .int .i64 k] w (StepTo w p base (.slice a n cp) L k) := by
  by_cases h7 : k = 7 ∨ k = 8
  · exact step_put p base n cp a L k w hn hn8 hp ho hb hbw h7
  by_cases h9 : k = 9 ∨ k = 10
  · cases L with
    | nil =>
      obtain rfl : n = 0 := hn.symm
      exact step_nil p base cp a k w hp ho h9
    | cons y t =>
      obtain ⟨M, x, e⟩ := list_last (y :: t) (by simp)
      obtain ⟨j, rfl⟩ : ∃ j, n = j + 1 := ⟨t.length, by rw [← hn]; rfl⟩
      rw [e] at hn ho ⊢
      rcases h9 with rfl | rfl
      · exact step_else p base j cp a M x w hn (by omega) hp ho hb
      · exact step_end p base j cp a _ w hn (by omega) hp ho hb
  · exact step_other p base n cp a L k w hn hn8 hp ho (by omega) (by omega) (by omega) (by omega)
end Go.Proofs.YtmjdkgbblccpgaaDoor
