/- Slices of bytes: which lie anywhere, which the call owns. -/
import Derived.Test.YtmjfeiddllagcaaDoorBy
import Derived.Laws.AppendOwnNone
import Derived.Laws.IdiomStrings
namespace Go.Proofs.YtmjfeiddllagcaaDoor
open Go.RowKit

def encB (x : UInt8) : Value := .int .u8 (x.toNat : Int)
/-- v is a slice of the bytes M, in a block below B. -/
def Part (w : World) (B : Nat) (v : Value) (M : List UInt8) : Prop :=
  ∃ (a : Option Addr) (cap b o : Nat), v = .slice a M.length cap ∧ M.length ≤ cap ∧ (a = none → cap = 0) ∧ b < B ∧ (0 < M.length → a = some ⟨b, o, none⟩) ∧
    ∀ j, j < M.length → w.cell? ⟨b, o + j, none⟩ = some (.int .u8 ((M.getD j 0).toNat : Int))
theorem Part.grown {w w' : World} {B : Nat} {v : Value} {M : List UInt8} {row : Option Nat} (h : Part w B v M) (hg : w.grownBy w' row) (hr : ∀ k, row = some k → B ≤ k) : Part w' B v M := by
  obtain ⟨a, cap, b, o, h1, h2, h6, h3, h4, h5⟩ := h
  exact ⟨a, cap, b, o, h1, h2, h6, h3, h4, fun j hj => hg.cell (h5 j hj) (by intro e; have := hr b e.symm; omega)⟩
theorem Part.stays {w w' : World} {B : Nat} {v : Value} {M : List UInt8} (h : Part w B v M) (hg : w.grownBy w' none) : Part w' B v M := h.grown hg (fun k hk => by simp at hk)
theorem Part.le {w : World} {B C : Nat} {v : Value} {M : List UInt8} (h : Part w B v M) (hB : B ≤ C) : Part w C v M := by
  obtain ⟨a, cap, b, o, h1, h2, h6, h3, h4, h5⟩ := h
  exact ⟨a, cap, b, o, h1, h2, h6, by omega, h4, h5⟩
/-- v holds L, in a block that was made from base on. -/
def Owns (w : World) (base : Nat) (v : Value) (L : List UInt8) : Prop := w.ownsRow base 5 1 v L.length (L.map encB)
theorem Owns.nil (w : World) (base : Nat) : Owns w base (.slice none 0 0) [] := World.ownsRow_nil w base 5 1
theorem Owns.form {w : World} {base : Nat} {v : Value} {L : List UInt8} (h : Owns w base v L) : ∃ a cap, v = .slice a L.length cap ∧ L.length ≤ cap ∧ cap ≤ maxLen := by
  rcases h.2 with ⟨h1, h2⟩ | ⟨g, cap, cur, h1, h2, h3, h4, h5, _⟩
  · exact ⟨none, 0, by rw [h1, h2], by omega, by unfold maxLen; omega⟩
  · exact ⟨_, cap, h1, h4, h5⟩
theorem encB_at (L : List UInt8) (j : Nat) (h : j < L.length) : (L.map encB)[j]? = some (.int .u8 ((L.getD j 0).toNat : Int)) := by
  rw [List.getElem?_map, List.getElem?_eq_getElem h, List.getD_eq_getElem?_getD, List.getElem?_eq_getElem h]
  rfl
theorem Owns.part {w : World} {base : Nat} {v : Value} {L : List UInt8} (h : Owns w base v L) (hp : 0 < w.heap.size) : Part w w.heap.size v L := by
  rcases h.2 with ⟨h1, h2⟩ | ⟨g, cap, cur, h1, h2, h3, h4, h5, h6, h7⟩
  · exact ⟨none, 0, 0, 0, by rw [h1, h2], by omega, fun _ => rfl, hp, fun h => by omega, fun j hj => by omega⟩
  · refine ⟨_, cap, g, 0, h1, h4, fun h => by simp at h, (Array.getElem?_eq_some_iff.1 h3).1, fun _ => rfl, fun j hj => ?_⟩
    rw [Nat.zero_add, cell_in h3]
    have e := encB_at L j hj
    rw [← h7, List.getElem?_take, if_pos (by omega)] at e
    simpa using e
theorem Owns.block_lt {w : World} {base : Nat} {v : Value} {L : List UInt8} (h : Owns w base v L) (k : Nat) (e : v.ownBlock = some k) : base ≤ k ∧ k < w.heap.size := World.ownsRow.lt h k e
theorem Owns.grown {w w1 w2 : World} {v : Value} {L : List UInt8} (h : Owns w1 w.heap.size v L) (h1 : w.grownBy w1 none) (h2 : w1.grownBy w2 v.ownBlock) : w.grownBy w2 none := by
  cases e : v.ownBlock with
  | none => rw [e] at h2; exact World.grownBy.trans h1 h2
  | some k => rw [e] at h2; exact grown_new h1 h2 (h.block_lt k e).1
theorem Owns.alloc {w : World} {base : Nat} {v : Value} {L : List UInt8} (h : Owns w base v L) (o : Obj) : Owns (w.alloc o) base v L := World.ownsRow.alloc h o
theorem Owns.stays {w w1 : World} {base : Nat} {v : Value} {L : List UInt8} (h : Owns w base v L) (hg : w.grownBy w1 none) : Owns w1 base v L :=
  World.ownsRow.kept h hg (by cases v.ownBlock with
    | none => exact .inl rfl
    | some k => exact .inr (by simp))
/-- One byte in a block of its own, owned. -/
theorem owns_one (w : World) (base : Nat) (c : UInt8) (hb : base ≤ w.heap.size) : Owns (w.alloc (.cells #[.int .u8 (c.toNat : Int)] 5)) base (.slice (some ⟨w.heap.size, 0, none⟩) 1 1) [c] := by
  refine ⟨by simp, .inr ⟨w.heap.size, 1, #[.int .u8 (c.toNat : Int)], rfl, hb, ?_, by simp, by unfold maxLen; omega, rfl, rfl⟩⟩
  show (w.heap.push _)[w.heap.size]? = _
  simp
theorem infoB : (Tryd.prog.info? 5).map (fun i => (i.zero, i.size, i.bytes)) = some (some (.int .u8 0), 1, 1) := by kernel_rfl
/-- append of bytes that lie anywhere to bytes that the call owns. -/
theorem app_part {w : World} {ops : Array Oper} {rest : List Oper} {o : Oper} {a : Act} {Q : Exit → Act → World → Prop} (hgd : o.guard = none) (s x : Operand)
    (ho : o.op = .call { callee := .builtin .append, args := #[s, x], argTypes := #[59, 59] }) (base B : Nat) (v xv : Value) (L M : List UInt8) (hs : a.eval s = v) (hown : Owns w base v L)
    (hx : a.eval x = xv) (hp : Part w B xv M) (hb : L.length + M.length ≤ 8000000) (hbase : base ≤ w.heap.size)
    (h : ∀ v' w', Owns w' base v' (L ++ M) → w.grownBy w' v.ownBlock → wpList Tryd.prog ops Q rest (a.put o.dst v') w') : wpList Tryd.prog ops Q (o :: rest) a w := by
  obtain ⟨i0, hi, hz0, hz1, hz2⟩ := info_parts infoB
  obtain ⟨ap, cap, b, of, h1, h2, h6, h3, h4, h5⟩ := hp
  subst h1
  cases ap with
  | none =>
    have hc := h6 rfl
    have hm : M = [] := List.eq_nil_of_length_eq_zero (by omega)
    subst hm
    have hc' : cap = 0 := by omega
    subst hc'
    refine wpList_append_own_none hgd s x 59 ho base 5 i0 1 Tryd.underlying59 hi v L.length (L.map encB) hs hown hx ?_
    exact h v w (by simpa using hown) (World.grownBy.refl _ _)
  | some ad =>
    refine wpList_append_own w hgd s x 59 ho base 5 i0 (.int .u8 0) 1 1 Tryd.underlying59 hi hz0 hz1 hz2 rfl (by decide) v L.length (L.map encB) hs hown ad M.length cap (M.map encB) hx (by simp) ?_ ?_ (by unfold maxLen; omega) (by omega) hbase ?_
    · intro j u hu
      have hj : j < M.length := by have := (List.getElem?_eq_some_iff.1 hu).1; simpa using this
      have e := h4 (by omega)
      rw [Option.some.inj e, Addr.add_mid, h5 j hj, ← hu, encB_at M j hj]
    · intro u hu
      obtain ⟨y, _, rfl⟩ := List.mem_map.1 hu
      rfl
    · intro v' w' h7 h8 _
      refine h v' w' ?_ h8
      show World.ownsRow _ _ _ _ _ _ _
      rw [List.length_append, List.map_append]
      exact h7
/-- One byte, in a block of its own. -/
theorem part_one (w : World) (x : Int) (c : UInt8) (t : TypeId) (hx : x = (c.toNat : Int)) : Part (w.alloc (.cells #[.int .u8 x] t)) (w.heap.size + 1) (.slice (some ⟨w.heap.size, 0, none⟩) 1 1) [c] :=
  ⟨_, 1, w.heap.size, 0, rfl, Nat.le_refl _, fun h => by simp at h, by omega, fun _ => rfl, fun j hj => by
    have : j = 0 := by simpa using hj
    subst this
    rw [Nat.add_zero, alloc_cell, hx]; rfl⟩
/-- append, as one step of a region that draws its order. -/
theorem step_part {w : World} {ops : Array Oper} {o : Oper} {a : Act} {K : Act → World → Prop} {Q : Exit → Act → World → Prop} {E : Prop} (hgd : o.guard = none) (s x : Operand)
    (ho : o.op = .call { callee := .builtin .append, args := #[s, x], argTypes := #[59, 59] }) (base B : Nat) (v xv : Value) (L M : List UInt8) (hs : a.eval s = v) (hown : Owns w base v L)
    (hx : a.eval x = xv) (hp : Part w B xv M) (hb : L.length + M.length ≤ 8000000) (hbase : base ≤ w.heap.size)
    (h : ∀ v' w', Owns w' base v' (L ++ M) → w.grownBy w' v.ownBlock → K (a.put o.dst v') w') : if Region.wanted o (yielded ops a.tmps) = true then Oper.wp Tryd.prog o a w K Q else E := by
  rw [if_pos (by simp [Region.wanted, hgd])]
  obtain ⟨i0, hi, hz0, hz1, hz2⟩ := info_parts infoB
  obtain ⟨ap, cap, b, of, h1, h2, h6, h3, h4, h5⟩ := hp
  subst h1
  cases ap with
  | none =>
    have hc := h6 rfl
    have hm : M = [] := List.eq_nil_of_length_eq_zero (by omega)
    subst hm
    have hc' : cap = 0 := by omega
    subst hc'
    have hrun := run_append_owned_none (P := Tryd.prog) (w := w) base 59 o.type 5 i0 1 Tryd.underlying59 hi v L.length (L.map encB) hown
    unfold Oper.wp
    simp [execOp, ho, resolve, invoke, builtin, hs, hx, hrun, Result.andThen]
    exact h v w (by simpa using hown) (World.grownBy.refl _ _)
  | some ad =>
    refine wp_append_own w s x 59 ho base 5 i0 (.int .u8 0) 1 1 Tryd.underlying59 hi hz0 hz1 hz2 rfl (by decide) v L.length (L.map encB) hs hown ad M.length cap (M.map encB) hx (by simp) ?_ ?_ (by unfold maxLen; omega) (by omega) hbase ?_
    · intro j u hu
      have hj : j < M.length := by have := (List.getElem?_eq_some_iff.1 hu).1; simpa using this
      have e := h4 (by omega)
      rw [Option.some.inj e, Addr.add_mid, h5 j hj, ← hu, encB_at M j hj]
    · intro u hu
      obtain ⟨y, _, rfl⟩ := List.mem_map.1 hu
      rfl
    · intro v' w' h7 h8 _
      refine h v' w' ?_ h8
      show World.ownsRow _ _ _ _ _ _ _
      rw [List.length_append, List.map_append]
      exact h7
theorem conv_part {w : World} {B : Nat} {v : Value} {L : List UInt8} (h : Part w B v L) (hl : 0 < L.length) : (convert 59 9 v).run Tryd.prog w = .ok (.string ⟨L.toArray⟩) w := by
  obtain ⟨a, cap, b, o, rfl, _, _, _, h4, h5⟩ := h
  rw [h4 hl]
  refine run_convert_bytes_back w 59 9 5 ⟨b, o, none⟩ cap L Tryd.underlying59 Tryd.underlying5 Tryd.underlying9 fun j hj => ?_
  rw [Addr.add_mid, h5 j hj]
  simp [List.getD_eq_getElem?_getD, List.getElem?_eq_getElem hj]
end Go.Proofs.YtmjfeiddllagcaaDoor
