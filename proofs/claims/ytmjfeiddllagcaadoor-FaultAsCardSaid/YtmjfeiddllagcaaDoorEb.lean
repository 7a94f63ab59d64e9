/- fault.ends: unwrapping a chain of faults comes to an end. -/
import Derived.Test.YtmjfeiddllagcaaDoorEa
namespace Go.Proofs.YtmjfeiddllagcaaDoor
open Go.RowKit

set_option maxRecDepth 1000000
theorem infoPart : (Tryd.prog.info? 71).map (·.size) = some 2 := by kernel_rfl
/-- append of one part where there is room for just one. -/
theorem app_room {w : World} {ops : Array Oper} {rest : List Oper} {o : Oper} {a : Act} {Q : Exit → Act → World → Prop} (hgd : o.guard = none) (s x : Operand)
    (ho : o.op = .call { callee := .builtin .append, args := #[s, x], argTypes := #[72, 72] }) (T N : Nat) (e0 d0 e1 d1 : Value) (hs : a.eval s = .slice (some ⟨T, 0, none⟩) 0 1) (hx : a.eval x = .slice (some ⟨N, 0, none⟩) 1 1)
    (hT : w.heap[T]? = some (.cells #[e0, d0] 71 (0, 0))) (hN : w.heap[N]? = some (.cells #[e1, d1] 71 (0, 0))) (h1 : e1.oneCell' = true) (h2 : d1.oneCell' = true)
    (h : wpList Tryd.prog ops Q rest (a.put o.dst (.slice (some ⟨T, 0, none⟩) 1 1)) (w.setRow T #[e1, d1])) : wpList Tryd.prog ops Q (o :: rest) a w := by
  refine wpList_plain hgd fun K hK => ?_
  obtain ⟨i, hi, hsz⟩ := Option.map_eq_some_iff.1 infoPart
  have hr := run_append_room (P := Tryd.prog) w 72 o.type 71 i Tryd.underlying72 hi T 0 1 #[e0, d0] hT ⟨N, 0, none⟩ 1 1 [e1, d1] (by rw [hsz]; rfl) (fun j u hu => by
    match j, hu with
    | 0, hu => simp at hu; subst hu; exact (bk_cell hN 0 e1 rfl).1
    | 1, hu => simp at hu; subst hu; exact (bk_cell hN 1 d1 rfl).1) (fun u hu => by simp at hu; rcases hu with rfl | rfl <;> assumption) (by omega) (by simp)
  unfold Oper.wp execOp
  simp only [ho, resolve, invoke, builtin, Sem.run_bind, Sem.run_pure, Result.andThen_ok, List.map_toArray, List.map_cons, List.map_nil, hs, hx, hr]
  exact hK _ _ (by simpa using h)
theorem er_row (w : World) (b : Nat) (c : Array Value) : w.grownBy (w.setRow b c) (some b) :=
  ⟨rfl, rfl, rfl, by simp [World.setRow], fun k _ hne => setRow_other w b k c (fun e => hne (by rw [e]))⟩
/-- What is written over a part turns no chain. -/
theorem Fchain.setRow {w : World} {l : List (ByteArray × ByteArray)} {k : Int} {e : Value} {b : Nat} {c c' : Array Value} {t : TypeId} {f : Nat × Nat} (h : Fchain w l k e) (hb : w.heap[b]? = some (.cells c t f)) (ht : t ≠ 43) : Fchain (w.setRow b c') l k e := by
  induction h with
  | num k => exact .num k
  | fault b2 op name l k e h r ih =>
    refine .fault b2 op name l k e ?_ ih
    rw [setRow_other w b b2 c' (fun e2 => ?_)]
    · exact h
    · subst e2
      rw [h] at hb
      injection hb with hb
      injection hb with _ h4
      exact ht h4.symm
/-- What the loop of ends keeps: i were unwrapped; todo holds one more (j = 1), with the faults l' on it, or none. -/
structure EndsR (w : World) (n : Nat) (k : Int) (i j d : Nat) (l' : List (ByteArray × ByteArray)) (e' : Value) (wr : World) : Prop where
  g : w.grownBy wr none
  t : wr.heap[w.heap.size]? = some (.cells #[e', .int .i64 d] 71 (0, 0))
  one : j = 1 → Fchain wr l' k e' ∧ i + l'.length = n ∧ d = i
  j1 : j ≤ 1
  i1 : i ≤ n + 1
set_option maxHeartbeats 8000000 in
theorem ends_any {l : List (ByteArray × ByteArray)} {k : Int} {e : Value} (n : Nat) (w : World) (h : Fchain w l k e) (hl : l.length = n) (hn : n ≤ 1000) :
    Calls Tryd.prog 22 #[e] w fun ev w' => ev = .returned (.bool true) ∧ w.grownBy w' none := by
  have H := Lib.hid h
  obtain ⟨t, v, rfl⟩ := h.shape
  have HL := Lib.hid hl
  clear h hl
  go_enter Tryd.func22, Tryd.ntmps22
  go_wp2
  go_loopw [3, 4] (fun todo i wr => ∃ (ii j d : Nat) (l' : List (ByteArray × ByteArray)) (e' : Value), todo = .slice (some ⟨w.heap.size, 0, none⟩) j 1 ∧ i = .int .i64 ii ∧ EndsR w n k ii j d l' e' wr) (fun _ i _ => n + 1 - (intOf i).toNat)
  case atStart =>
    refine ⟨0, 1, 0, l, .iface t v, rfl, rfl, World.grownBy_alloc _ _ _, bk_alloc _ _, fun _ => ⟨H.out.grown (World.grownBy_alloc _ _ _), by have := HL.out; omega, rfl⟩, Nat.le_refl _, by omega⟩
  case round =>
    obtain ⟨i, j, d, l', e', rfl, rfl, hR⟩ := hrel
    have HR := Lib.hid hR
    have hi := hR.i1
    have hj := hR.j1
    have j01 : j = 0 ∨ j = 1 := by omega
    clear hR
    rcases j01 with rfl | rfl
    · go_wp2
      go_ret
      exact ⟨rfl, HR.out.g⟩
    · obtain ⟨hc, hil, hdi⟩ := HR.out.one rfl
      have hid := hdi.symm
      clear hdi
      subst hid
      obtain ⟨t', v', rfl⟩ := hc.shape
      have HC := Lib.hid hc
      have c0 := bk_cell HR.out.t 0 _ rfl
      have c1 := bk_cell HR.out.t 1 _ rfl
      have hsz := HR.out.g.size
      have hT := bk_size HR.out.t
      have q1 : decide ((16777216 : Int) < (i : Int)) = false := by simp; omega
      have q2 : decide ((1048576 : Int) < (i : Int)) = false := by simp; omega
      clear hc
      go_wp2_with fail
      obtain ⟨W1, hW1⟩ : ∃ W1, wr.alloc (.cells #[.iface t' v', .int .i64 (i : Int)] 71) = W1 := ⟨_, rfl⟩
      have g1 : wr.grownBy W1 none := by rw [← hW1]; exact World.grownBy_alloc _ _ _
      have bP : W1.heap[wr.heap.size]? = some (.cells #[.iface t' v', .int .i64 (i : Int)] 71 (0, 0)) := by rw [← hW1]; exact bk_alloc _ _
      have HC1 := Lib.hid (HC.out.grown g1)
      have G1 := Lib.hid g1
      have BP := Lib.hid bP
      rw [hW1]
      clear hW1 g1 bP c0 c1
      obtain ⟨x, hx⟩ : ∃ x, Value.iface t' v' = x := ⟨_, rfl⟩
      have hc1 := HC1.out
      rw [hx] at hc1
      cases hc1 with
      | num =>
        injection hx with hx1 hx2
        subst hx1
        subst hx2
        (with_reducible refine (below_num k W1).mono ?_)
        rintro ee w2 ⟨rfl, rfl⟩
        dsimp only
        simp only [List.length_nil] at hil
        go_wp2
        refine wp_loop_rounds 1 ?_
        rw [rounds_succ]
        go_wp2
        exact ⟨⟨i + 1, 0, i, [], .iface 25 (.int .i64 k), rfl, by push_cast; rfl, World.grownBy.trans HR.out.g G1.out, bk_kept HR.out.t G1.out, fun h => by omega, by omega, by omega⟩, by simp only [intOf]; omega⟩
      | fault b op name l'' _ e'' hb r =>
        injection hx with hx1 hx2
        subst hx1
        subst hx2
        obtain ⟨t2, v2, rfl⟩ := r.shape
        have HR2 := Lib.hid r
        (with_reducible refine (below_fault b op name t2 v2 W1 hb).mono ?_)
        rintro ee w2 ⟨rfl, rfl⟩
        dsimp only
        simp only [List.length_cons] at hil
        obtain ⟨W2, hW2⟩ : ∃ W2, W1.alloc (.cells #[.iface t2 v2] 27) = W2 := ⟨_, rfl⟩
        have g2 : W1.grownBy W2 none := by rw [← hW2]; exact World.grownBy_alloc _ _ _
        have bE : W2.heap[W1.heap.size]? = some (.cells #[.iface t2 v2] 27 (0, 0)) := by rw [← hW2]; exact bk_alloc _ _
        obtain ⟨dE, _⟩ := bk_cell bE 0 _ rfl
        obtain ⟨dP, _⟩ := bk_cell (bk_kept BP.out g2) 1 _ rfl
        have G2 := Lib.hid (World.grownBy.trans G1.out g2)
        have B2 := Lib.hid (bk_kept HR.out.t G2.out)
        have HR3 := Lib.hid (HR2.out.grown g2)
        rw [hW2]
        clear hW2 g2 bE hb
        have BN : Hid ((W2.alloc (.cells #[.iface t2 v2, .int .i64 ((i : Int) + 1)] 71)).heap[W2.heap.size]? = some (.cells #[.iface t2 v2, .int .i64 ((i : Int) + 1)] 71 (0, 0))) := bk_alloc _ _
        have BT := Lib.hid (bk_kept B2.out (World.grownBy_alloc W2 (.cells #[.iface t2 v2, .int .i64 ((i : Int) + 1)] 71) none))
        go_wp2_with fail
        refine wp_loop_rounds 2 ?_
        rw [rounds_succ]
        go_wp2_with ((with_reducible refine app_room (o := ⟨some 49, _, _, _, _, _⟩) rfl _ _ rfl w.heap.size W2.heap.size _ _ (.iface t2 v2) (.int .i64 ((i : Int) + 1)) ?_ ?_ BT.out BN.out ?_ ?_ ?_); (exact rfl); (exact rfl); (exact rfl); (exact rfl))
        rw [rounds_succ]
        go_wp2
        have gN := World.grownBy_alloc W2 (.cells #[.iface t2 v2, .int .i64 ((i : Int) + 1)] 71) none
        exact ⟨⟨i + 1, 1, i + 1, l'', .iface t2 v2, rfl, by push_cast; rfl, grown_new (World.grownBy.trans HR.out.g (World.grownBy.trans G2.out gN)) (er_row _ _ _) (Nat.le_refl _), by rw [setRow_heap _ _ _ _ 71 _ BT.out]; push_cast; rfl, fun _ => ⟨(HR3.out.grown gN).setRow BT.out (by decide), by omega, rfl⟩, by omega, by omega⟩, by simp only [intOf]; omega⟩
end Go.Proofs.YtmjfeiddllagcaaDoor
