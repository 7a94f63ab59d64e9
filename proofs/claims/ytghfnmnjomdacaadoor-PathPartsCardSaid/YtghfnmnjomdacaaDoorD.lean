/- Slices of texts that a call owns, and what is put behind them. -/
import Derived.Test.YtghfnmnjomdacaaDoorC
import Derived.Laws.AppendOwnNone
import Derived.Laws.OwnMore
import Derived.Deep.MidRow
namespace Go.Proofs.YtghfnmnjomdacaaDoor
open Go.RowKit

theorem alloc_cell (w : World) (c : Array Value) (t : TypeId) (i : Nat) : (w.alloc (.cells c t)).cell? ⟨w.heap.size, i, none⟩ = c[i]? := by
  simp [World.alloc, World.cell?, -World.alloc_eq]
theorem alloc_frozen (w : World) (c : Array Value) (t : TypeId) (i : Nat) : (w.alloc (.cells c t)).frozen? ⟨w.heap.size, i, none⟩ = false := by
  simp [World.alloc, World.frozen?, -World.alloc_eq]
theorem alloc_size (w : World) (o : Obj) : (w.alloc o).heap.size = w.heap.size + 1 := by
  show (w.heap.push o).size = _
  simp
theorem cell_in {w : World} {b : Nat} {c : Array Value} {t : TypeId} (h : w.heap[b]? = some (.cells c t (0, 0))) (j : Nat) : w.cell? ⟨b, j, none⟩ = c[j]? := by
  simp [World.cell?, h]
theorem grown_new {w w1 w2 : World} {k : Nat} (h1 : w.grownBy w1 none) (h2 : w1.grownBy w2 (some k)) (hk : w.heap.size ≤ k) : w.grownBy w2 none :=
  ⟨h2.os.trans h1.os, h2.tape.trans h1.tape, h2.output.trans h1.output, Nat.le_trans h1.size h2.size, fun j hj hne => (h2.block j (Nat.lt_of_lt_of_le hj h1.size) (by simp; omega)).trans (h1.block j hj hne)⟩

/-- v holds the texts L, in a block that was made from base on. -/
def OwnsS (w : World) (base : Nat) (v : Value) (L : List ByteArray) : Prop := w.ownsRow base 9 1 v L.length (L.map Value.string)
/-- v is the texts M, which lie anywhere below B. -/
def PartS (w : World) (B : Nat) (v : Value) (M : List ByteArray) : Prop :=
  ∃ a cap b o, v = .slice a M.length cap ∧ M.length ≤ cap ∧ (a = none → cap = 0) ∧ b < B ∧ (0 < M.length → a = some ⟨b, o, none⟩) ∧ ∀ j x, M[j]? = some x → w.cell? ⟨b, o + j, none⟩ = some (.string x)

theorem OwnsS.nil (w : World) (base : Nat) : OwnsS w base (.slice none 0 0) [] := World.ownsRow_nil w base 9 1
theorem OwnsS.form {w : World} {base : Nat} {v : Value} {L : List ByteArray} (h : OwnsS w base v L) : ∃ a cap, v = .slice a L.length cap ∧ L.length ≤ cap ∧ cap ≤ maxLen := by
  rcases h.2 with ⟨h1, h2⟩ | ⟨g, cap, cur, h1, h2, h3, h4, h5, _⟩
  · exact ⟨none, 0, by rw [h1, h2], by omega, by unfold maxLen; omega⟩
  · exact ⟨_, cap, h1, h4, h5⟩
theorem OwnsS.part {w : World} {base : Nat} {v : Value} {L : List ByteArray} (h : OwnsS w base v L) (hp : 0 < w.heap.size) : PartS w w.heap.size v L := by
  rcases h.2 with ⟨h1, h2⟩ | ⟨g, cap, cur, h1, h2, h3, h4, h5, h6, h7⟩
  · exact ⟨none, 0, 0, 0, by rw [h1, h2], by omega, fun _ => rfl, hp, fun h => by omega, fun j x hj => by
      have := (List.getElem?_eq_some_iff.1 hj).1; omega⟩
  · refine ⟨_, cap, g, 0, h1, h4, fun h => by simp at h, (Array.getElem?_eq_some_iff.1 h3).1, fun _ => rfl, fun j x hj => ?_⟩
    have hl := (List.getElem?_eq_some_iff.1 hj).1
    rw [Nat.zero_add, cell_in h3]
    have e : (L.map Value.string)[j]? = some (.string x) := by rw [List.getElem?_map, hj]; rfl
    rw [← h7, List.getElem?_take, if_pos (by omega)] at e
    simpa using e
theorem OwnsS.grown {w w1 w2 : World} {v : Value} {L : List ByteArray} (h : OwnsS w1 w.heap.size v L) (h1 : w.grownBy w1 none) (h2 : w1.grownBy w2 v.ownBlock) : w.grownBy w2 none := by
  cases e : v.ownBlock with
  | none => rw [e] at h2; exact World.grownBy.trans h1 h2
  | some k => rw [e] at h2; exact grown_new h1 h2 (World.ownsRow.lt h k e).1
theorem OwnsS.alloc {w : World} {base : Nat} {v : Value} {L : List ByteArray} (h : OwnsS w base v L) (o : Obj) : OwnsS (w.alloc o) base v L := World.ownsRow.alloc h o
theorem OwnsS.step {w wr w2 : World} {v : Value} {L : List ByteArray} {o : Obj} (hgw : w.grownBy wr none) (ho : OwnsS wr w.heap.size v L) (hg : (wr.alloc o).drew.grownBy w2 v.ownBlock) : w.grownBy w2 none := by
  have h := World.grownBy.trans hgw (World.grownBy_alloc wr o none)
  exact OwnsS.grown (w1 := wr.alloc o) (ho.alloc o) h ⟨hg.os, hg.tape, hg.output, hg.size, hg.block⟩
theorem PartS.grown {w w' : World} {B : Nat} {v : Value} {M : List ByteArray} {r : Option Nat} (h : PartS w B v M) (hg : w.grownBy w' r) (hr : ∀ k, r = some k → B ≤ k) : PartS w' B v M := by
  obtain ⟨a, cap, b, o, h1, h2, h3, h4, h5, h6⟩ := h
  exact ⟨a, cap, b, o, h1, h2, h3, h4, h5, fun j x hj => hg.cell (h6 j x hj) (fun e => by have := hr b e.symm; omega)⟩
/-- One text, in a block of its own. -/
theorem part_str (w : World) (x : ByteArray) (t : TypeId) : PartS (w.alloc (.cells #[.string x] t)) (w.heap.size + 1) (.slice (some ⟨w.heap.size, 0, none⟩) 1 1) [x] :=
  ⟨_, 1, w.heap.size, 0, rfl, Nat.le_refl _, fun h => by simp at h, by omega, fun _ => rfl, fun j y hj => by
    have hl := (List.getElem?_eq_some_iff.1 hj).1
    have h0 : j = 0 := by simpa using hl
    subst h0
    have e : x = y := by simpa using hj
    rw [Nat.add_zero, alloc_cell, e]; rfl⟩

theorem info9 : (Tryd.prog.info? 9).map (fun i => (i.zero, i.size, i.bytes)) = some (some (.string ByteArray.empty), 1, 16) := by kernel_rfl

/-- append of texts that lie anywhere to texts that the call owns. -/
theorem app_str {w : World} {ops : Array Oper} {rest : List Oper} {o : Oper} {a : Act} {Q : Exit → Act → World → Prop} (hgd : o.guard = none) (s x : Operand)
    (ho : o.op = .call { callee := .builtin .append, args := #[s, x], argTypes := #[29, 29] }) (base B : Nat) (v xv : Value) (L M : List ByteArray) (hs : a.eval s = v) (hown : OwnsS w base v L)
    (hx : a.eval x = xv) (hp : PartS w B xv M) (hb : L.length + M.length ≤ 1000000) (hbase : base ≤ w.heap.size)
    (h : ∀ v' w', OwnsS w' base v' (L ++ M) → w.grownBy w' v.ownBlock → wpList Tryd.prog ops Q rest (a.put o.dst v') w') : wpList Tryd.prog ops Q (o :: rest) a w := by
  obtain ⟨i0, hi, hz0, hz1, hz2⟩ := info_parts info9
  obtain ⟨ap, cap, b, of, h1, h2, h6, h3, h4, h5⟩ := hp
  subst h1
  cases ap with
  | none =>
    have hc := h6 rfl
    have hm : M = [] := List.eq_nil_of_length_eq_zero (by omega)
    subst hm
    have hc' : cap = 0 := by omega
    subst hc'
    refine wpList_append_own_none hgd s x 29 ho base 9 i0 1 Tryd.underlying29 hi v L.length (L.map Value.string) hs hown hx ?_
    exact h v w (by simpa using hown) (World.grownBy.refl _ _)
  | some ad =>
    refine wpList_append_own w hgd s x 29 ho base 9 i0 (.string ByteArray.empty) 1 16 Tryd.underlying29 hi hz0 hz1 hz2 rfl (by decide) v L.length (L.map Value.string) hs hown ad M.length cap (M.map Value.string) hx (by simp) ?_ ?_ (by unfold maxLen; omega) (by omega) hbase ?_
    · intro j u hu
      have hj : j < M.length := by have := (List.getElem?_eq_some_iff.1 hu).1; simpa using this
      have e := h4 (by omega)
      rw [List.getElem?_map, List.getElem?_eq_getElem hj] at hu
      have hu' : Value.string M[j] = u := by simpa using hu
      rw [Option.some.inj e, Addr.add_mid, h5 j M[j] (List.getElem?_eq_getElem hj), hu']
    · intro u hu
      obtain ⟨y, _, rfl⟩ := List.mem_map.1 hu
      rfl
    · intro v' w' h7 h8 _
      refine h v' w' ?_ h8
      show World.ownsRow _ _ _ _ _ _ _
      rw [List.length_append, List.map_append]
      exact h7

/-- The same, within a region whose order is drawn. -/
theorem step_str {w : World} {ops : Array Oper} {o : Oper} {a : Act} {K : Act → World → Prop} {Q : Exit → Act → World → Prop} {E : Prop} (hgd : o.guard = none) (s x : Operand)
    (ho : o.op = .call { callee := .builtin .append, args := #[s, x], argTypes := #[29, 29] }) (base B : Nat) (v xv : Value) (L M : List ByteArray) (hs : a.eval s = v) (hown : OwnsS w base v L)
    (hx : a.eval x = xv) (hp : PartS w B xv M) (hb : L.length + M.length ≤ 1000000) (hbase : base ≤ w.heap.size)
    (h : ∀ v' w', OwnsS w' base v' (L ++ M) → w.grownBy w' v.ownBlock → K (a.put o.dst v') w') : if Region.wanted o (yielded ops a.tmps) = true then Oper.wp Tryd.prog o a w K Q else E := by
  rw [if_pos (by simp [Region.wanted, hgd])]
  obtain ⟨i0, hi, hz0, hz1, hz2⟩ := info_parts info9
  obtain ⟨ap, cap, b, of, h1, h2, h6, h3, h4, h5⟩ := hp
  subst h1
  cases ap with
  | none =>
    have hc := h6 rfl
    have hm : M = [] := List.eq_nil_of_length_eq_zero (by omega)
    subst hm
    have hc' : cap = 0 := by omega
    subst hc'
    have hrun := run_append_owned_none (P := Tryd.prog) (w := w) base 29 o.type 9 i0 1 Tryd.underlying29 hi v L.length (L.map Value.string) hown
    unfold Oper.wp
    simp [execOp, ho, resolve, invoke, builtin, hs, hx, hrun, Result.andThen]
    exact h v w (by simpa using hown) (World.grownBy.refl _ _)
  | some ad =>
    refine wp_append_own w s x 29 ho base 9 i0 (.string ByteArray.empty) 1 16 Tryd.underlying29 hi hz0 hz1 hz2 rfl (by decide) v L.length (L.map Value.string) hs hown ad M.length cap (M.map Value.string) hx (by simp) ?_ ?_ (by unfold maxLen; omega) (by omega) hbase ?_
    · intro j u hu
      have hj : j < M.length := by have := (List.getElem?_eq_some_iff.1 hu).1; simpa using this
      have e := h4 (by omega)
      rw [List.getElem?_map, List.getElem?_eq_getElem hj] at hu
      have hu' : Value.string M[j] = u := by simpa using hu
      rw [Option.some.inj e, Addr.add_mid, h5 j M[j] (List.getElem?_eq_getElem hj), hu']
    · intro u hu
      obtain ⟨y, _, rfl⟩ := List.mem_map.1 hu
      rfl
    · intro v' w' h7 h8 _
      refine h v' w' ?_ h8
      show World.ownsRow _ _ _ _ _ _ _
      rw [List.length_append, List.map_append]
      exact h7
end Go.Proofs.YtghfnmnjomdacaaDoor
