/- Texts of one ground, in one file: By Bo Bk Gb. -/
import Derived.Test.YtichejodbohldaaGreatDoorP1
import Derived.Laws.IdiomStrings
import Derived.Laws.AppendOwnNone
import Derived.Maps.AppendAt
import Derived.StringKeys
import Derived.WalkLawsBesides
namespace Go.Proofs.YtichejodbohldaaGreatDoor
open Go.RowKit

/-- The bytes of s lie in block b. -/
def LieB (w : World) (b : Nat) (s : ByteArray) : Prop := ∀ j, j < s.size → w.cell? ⟨b, j, none⟩ = some (.int .u8 ((byteAt s j).toNat : Int))
theorem LieB.stays {w w' : World} {b : Nat} {s : ByteArray} (h : LieB w b s) (hg : w.grownBy w' none) : LieB w' b s := fun j hj => hg.cell (h j hj) (by simp)
theorem LieB.grown {w w' : World} {b : Nat} {s : ByteArray} {r : Option Nat} (h : LieB w b s) (hg : w.grownBy w' r) (hr : r ≠ some b) : LieB w' b s := fun j hj => hg.cell (h j hj) (fun e => hr e.symm)

theorem conv_bytes {w : World} {ops : Array Oper} {rest : List Oper} {o : Oper} {a : Act} {Q : Exit → Act → World → Prop} (hgd : o.guard = none) (x : Operand)
    (ho : o.op = .convert 9 31 x) (s : ByteArray) (hx : a.eval x = .string s)
    (h : ∀ cap w', LieB w' w.heap.size s → w.grownBy w' none → wpList Tryz.prog ops Q rest (a.put o.dst (.slice (some ⟨w.heap.size, 0, none⟩) s.size cap)) w') : wpList Tryz.prog ops Q (o :: rest) a w := by
  refine wpList_plain hgd fun K hK => ?_
  have hrun := run_bytes_of_string (P := Tryz.prog) w 9 31 5 s Tryz.underlying9 Tryz.underlying31 Tryz.underlying5
  unfold Oper.wp
  simp [execOp, ho, hx, hrun, Result.andThen]
  refine hK _ _ (h _ _ ?_ ?_)
  · intro j hj
    have e : (w.drew.alloc (.cells (bytesRow s (grownCap w s.size 0 5)) 5 ((bytesRow s (grownCap w s.size 0 5)).size, (bytesRow s (grownCap w s.size 0 5)).size + 1))).heap[w.heap.size]? = some (.cells (bytesRow s (grownCap w s.size 0 5)) 5 ((bytesRow s (grownCap w s.size 0 5)).size, (bytesRow s (grownCap w s.size 0 5)).size + 1)) := by
      show (w.heap.push _)[w.heap.size]? = _
      simp
    rw [← World.alloc_eq] at *
    simp only [World.cell?]
    have e2 : (bytesRow s (grownCap w s.size 0 5))[j]? = some (.int .u8 ((byteAt s j).toNat : Int)) := by
      unfold bytesRow
      rw [Array.getElem?_append_left (by simpa using hj), Array.getElem?_map, Array.getElem?_eq_getElem (by simpa using hj), byteAt_eq s j hj]
      rfl
    first
      | (rw [e]; exact e2)
      | (simp [e2])
  · exact ⟨rfl, rfl, rfl, by first | (show w.heap.size ≤ (w.heap.push _).size; simp) | simp, fun k hk _ => by
      first
        | (show (w.heap.push _)[k]? = _; rw [Array.getElem?_push, if_neg (by omega)])
        | simp [Array.getElem?_push, Nat.ne_of_lt hk]⟩
end Go.Proofs.YtichejodbohldaaGreatDoor
namespace Go.Proofs.YtichejodbohldaaGreatDoor
open Go.RowKit

def encB (x : UInt8) : Value := .int .u8 (x.toNat : Int)
/-- v is a slice of the bytes M, in a block below B. -/
def Part (w : World) (B : Nat) (v : Value) (M : List UInt8) : Prop :=
  ∃ (a : Option Addr) (cap b o : Nat), v = .slice a M.length cap ∧ M.length ≤ cap ∧ (a = none → cap = 0) ∧ b < B ∧ (0 < M.length → a = some ⟨b, o, none⟩) ∧
    ∀ j, j < M.length → w.cell? ⟨b, o + j, none⟩ = some (.int .u8 ((M.getD j 0).toNat : Int))
theorem Part.grown {w w' : World} {B : Nat} {v : Value} {M : List UInt8} {row : Option Nat} (h : Part w B v M) (hg : w.grownBy w' row) (hr : ∀ k, row = some k → B ≤ k) : Part w' B v M := by
  obtain ⟨a, cap, b, o, h1, h2, h6, h3, h4, h5⟩ := h
  exact ⟨a, cap, b, o, h1, h2, h6, h3, h4, fun j hj => hg.cell (h5 j hj) (by intro e; have := hr b e.symm; omega)⟩
theorem Part.stays {w w' : World} {B : Nat} {v : Value} {M : List UInt8} (h : Part w B v M) (hg : w.grownBy w' none) : Part w' B v M := h.grown hg (fun k hk => by simp at hk)
theorem Part.le {w : World} {B C : Nat} {v : Value} {M : List UInt8} (h : Part w B v M) (hB : B ≤ C) : Part w C v M := by
  obtain ⟨a, cap, b, o, h1, h2, h6, h3, h4, h5⟩ := h
  exact ⟨a, cap, b, o, h1, h2, h6, by omega, h4, h5⟩
/-- v holds L, in a block that was made from base on. -/
def Owns (w : World) (base : Nat) (v : Value) (L : List UInt8) : Prop := w.ownsRow base 5 1 v L.length (L.map encB)
theorem Owns.nil (w : World) (base : Nat) : Owns w base (.slice none 0 0) [] := World.ownsRow_nil w base 5 1
theorem Owns.form {w : World} {base : Nat} {v : Value} {L : List UInt8} (h : Owns w base v L) : ∃ a cap, v = .slice a L.length cap ∧ L.length ≤ cap ∧ cap ≤ maxLen := by
  rcases h.2 with ⟨h1, h2⟩ | ⟨g, cap, cur, h1, h2, h3, h4, h5, _⟩
  · exact ⟨none, 0, by rw [h1, h2], by omega, by unfold maxLen; omega⟩
  · exact ⟨_, cap, h1, h4, h5⟩
theorem encB_at (L : List UInt8) (j : Nat) (h : j < L.length) : (L.map encB)[j]? = some (.int .u8 ((L.getD j 0).toNat : Int)) := by
  rw [List.getElem?_map, List.getElem?_eq_getElem h, List.getD_eq_getElem?_getD, List.getElem?_eq_getElem h]
  rfl
theorem Owns.part {w : World} {base : Nat} {v : Value} {L : List UInt8} (h : Owns w base v L) (hp : 0 < w.heap.size) : Part w w.heap.size v L := by
  rcases h.2 with ⟨h1, h2⟩ | ⟨g, cap, cur, h1, h2, h3, h4, h5, h6, h7⟩
  · exact ⟨none, 0, 0, 0, by rw [h1, h2], by omega, fun _ => rfl, hp, fun h => by omega, fun j hj => by omega⟩
  · refine ⟨_, cap, g, 0, h1, h4, fun h => by simp at h, (Array.getElem?_eq_some_iff.1 h3).1, fun _ => rfl, fun j hj => ?_⟩
    rw [Nat.zero_add, cell_in h3]
    have e := encB_at L j hj
    rw [← h7, List.getElem?_take, if_pos (by omega)] at e
    simpa using e
theorem Owns.block_lt {w : World} {base : Nat} {v : Value} {L : List UInt8} (h : Owns w base v L) (k : Nat) (e : v.ownBlock = some k) : base ≤ k ∧ k < w.heap.size := World.ownsRow.lt h k e
theorem Owns.grown {w w1 w2 : World} {v : Value} {L : List UInt8} (h : Owns w1 w.heap.size v L) (h1 : w.grownBy w1 none) (h2 : w1.grownBy w2 v.ownBlock) : w.grownBy w2 none := by
  cases e : v.ownBlock with
  | none => rw [e] at h2; exact World.grownBy.trans h1 h2
  | some k => rw [e] at h2; exact grown_new h1 h2 (h.block_lt k e).1
theorem Owns.alloc {w : World} {base : Nat} {v : Value} {L : List UInt8} (h : Owns w base v L) (o : Obj) : Owns (w.alloc o) base v L := World.ownsRow.alloc h o
theorem Owns.stays {w w1 : World} {base : Nat} {v : Value} {L : List UInt8} (h : Owns w base v L) (hg : w.grownBy w1 none) : Owns w1 base v L :=
  World.ownsRow.kept h hg (by cases v.ownBlock with
    | none => exact .inl rfl
    | some k => exact .inr (by simp))
/-- One byte in a block of its own, owned. -/
theorem owns_one (w : World) (base : Nat) (c : UInt8) (hb : base ≤ w.heap.size) : Owns (w.alloc (.cells #[.int .u8 (c.toNat : Int)] 5)) base (.slice (some ⟨w.heap.size, 0, none⟩) 1 1) [c] := by
  refine ⟨by simp, .inr ⟨w.heap.size, 1, #[.int .u8 (c.toNat : Int)], rfl, hb, ?_, by simp, by unfold maxLen; omega, rfl, rfl⟩⟩
  show (w.heap.push _)[w.heap.size]? = _
  simp
theorem infoB : (Tryz.prog.info? 5).map (fun i => (i.zero, i.size, i.bytes)) = some (some (.int .u8 0), 1, 1) := by kernel_rfl
/-- append of bytes that lie anywhere to bytes that the call owns. -/
theorem app_part {w : World} {ops : Array Oper} {rest : List Oper} {o : Oper} {a : Act} {Q : Exit → Act → World → Prop} (hgd : o.guard = none) (s x : Operand)
    (ho : o.op = .call { callee := .builtin .append, args := #[s, x], argTypes := #[31, 31] }) (base B : Nat) (v xv : Value) (L M : List UInt8) (hs : a.eval s = v) (hown : Owns w base v L)
    (hx : a.eval x = xv) (hp : Part w B xv M) (hb : L.length + M.length ≤ 8000000) (hbase : base ≤ w.heap.size)
    (h : ∀ v' w', Owns w' base v' (L ++ M) → w.grownBy w' v.ownBlock → wpList Tryz.prog ops Q rest (a.put o.dst v') w') : wpList Tryz.prog ops Q (o :: rest) a w := by
  obtain ⟨i0, hi, hz0, hz1, hz2⟩ := info_parts infoB
  obtain ⟨ap, cap, b, of, h1, h2, h6, h3, h4, h5⟩ := hp
  subst h1
  cases ap with
  | none =>
    have hc := h6 rfl
    have hm : M = [] := List.eq_nil_of_length_eq_zero (by omega)
    subst hm
    have hc' : cap = 0 := by omega
    subst hc'
    refine wpList_append_own_none hgd s x 31 ho base 5 i0 1 Tryz.underlying31 hi v L.length (L.map encB) hs hown hx ?_
    exact h v w (by simpa using hown) (World.grownBy.refl _ _)
  | some ad =>
    refine wpList_append_own w hgd s x 31 ho base 5 i0 (.int .u8 0) 1 1 Tryz.underlying31 hi hz0 hz1 hz2 rfl (by decide) v L.length (L.map encB) hs hown ad M.length cap (M.map encB) hx (by simp) ?_ ?_ (by unfold maxLen; omega) (by omega) hbase ?_
    · intro j u hu
      have hj : j < M.length := by have := (List.getElem?_eq_some_iff.1 hu).1; simpa using this
      have e := h4 (by omega)
      rw [Option.some.inj e, Addr.add_mid, h5 j hj, ← hu, encB_at M j hj]
    · intro u hu
      obtain ⟨y, _, rfl⟩ := List.mem_map.1 hu
      rfl
    · intro v' w' h7 h8 _
      refine h v' w' ?_ h8
      show World.ownsRow _ _ _ _ _ _ _
      rw [List.length_append, List.map_append]
      exact h7
/-- One byte, in a block of its own. -/
theorem part_one (w : World) (x : Int) (c : UInt8) (t : TypeId) (hx : x = (c.toNat : Int)) : Part (w.alloc (.cells #[.int .u8 x] t)) (w.heap.size + 1) (.slice (some ⟨w.heap.size, 0, none⟩) 1 1) [c] :=
  ⟨_, 1, w.heap.size, 0, rfl, Nat.le_refl _, fun h => by simp at h, by omega, fun _ => rfl, fun j hj => by
    have : j = 0 := by simpa using hj
    subst this
    rw [Nat.add_zero, alloc_cell, hx]; rfl⟩
/-- append, as one step of a region that draws its order. -/
theorem step_part {w : World} {ops : Array Oper} {o : Oper} {a : Act} {K : Act → World → Prop} {Q : Exit → Act → World → Prop} {E : Prop} (hgd : o.guard = none) (s x : Operand)
    (ho : o.op = .call { callee := .builtin .append, args := #[s, x], argTypes := #[31, 31] }) (base B : Nat) (v xv : Value) (L M : List UInt8) (hs : a.eval s = v) (hown : Owns w base v L)
    (hx : a.eval x = xv) (hp : Part w B xv M) (hb : L.length + M.length ≤ 8000000) (hbase : base ≤ w.heap.size)
    (h : ∀ v' w', Owns w' base v' (L ++ M) → w.grownBy w' v.ownBlock → K (a.put o.dst v') w') : if Region.wanted o (yielded ops a.tmps) = true then Oper.wp Tryz.prog o a w K Q else E := by
  rw [if_pos (by simp [Region.wanted, hgd])]
  obtain ⟨i0, hi, hz0, hz1, hz2⟩ := info_parts infoB
  obtain ⟨ap, cap, b, of, h1, h2, h6, h3, h4, h5⟩ := hp
  subst h1
  cases ap with
  | none =>
    have hc := h6 rfl
    have hm : M = [] := List.eq_nil_of_length_eq_zero (by omega)
    subst hm
    have hc' : cap = 0 := by omega
    subst hc'
    have hrun := run_append_owned_none (P := Tryz.prog) (w := w) base 31 o.type 5 i0 1 Tryz.underlying31 hi v L.length (L.map encB) hown
    unfold Oper.wp
    simp [execOp, ho, resolve, invoke, builtin, hs, hx, hrun, Result.andThen]
    exact h v w (by simpa using hown) (World.grownBy.refl _ _)
  | some ad =>
    refine wp_append_own w s x 31 ho base 5 i0 (.int .u8 0) 1 1 Tryz.underlying31 hi hz0 hz1 hz2 rfl (by decide) v L.length (L.map encB) hs hown ad M.length cap (M.map encB) hx (by simp) ?_ ?_ (by unfold maxLen; omega) (by omega) hbase ?_
    · intro j u hu
      have hj : j < M.length := by have := (List.getElem?_eq_some_iff.1 hu).1; simpa using this
      have e := h4 (by omega)
      rw [Option.some.inj e, Addr.add_mid, h5 j hj, ← hu, encB_at M j hj]
    · intro u hu
      obtain ⟨y, _, rfl⟩ := List.mem_map.1 hu
      rfl
    · intro v' w' h7 h8 _
      refine h v' w' ?_ h8
      show World.ownsRow _ _ _ _ _ _ _
      rw [List.length_append, List.map_append]
      exact h7
theorem conv_part {w : World} {B : Nat} {v : Value} {L : List UInt8} (h : Part w B v L) (hl : 0 < L.length) : (convert 31 9 v).run Tryz.prog w = .ok (.string ⟨L.toArray⟩) w := by
  obtain ⟨a, cap, b, o, rfl, _, _, _, h4, h5⟩ := h
  rw [h4 hl]
  refine run_convert_bytes_back w 31 9 5 ⟨b, o, none⟩ cap L Tryz.underlying31 Tryz.underlying5 Tryz.underlying9 fun j hj => ?_
  rw [Addr.add_mid, h5 j hj]
  simp [List.getD_eq_getElem?_getD, List.getElem?_eq_getElem hj]
end Go.Proofs.YtichejodbohldaaGreatDoor
namespace Go.Proofs.YtichejodbohldaaGreatDoor
open Go.RowKit

theorem bk_kept {w w' : World} {b : Nat} {c : Obj} (h : w.heap[b]? = some c) (hg : w.grownBy w' none) : w'.heap[b]? = some c :=
  (hg.block b (Array.getElem?_eq_some_iff.1 h).1 (by simp)).trans h
theorem bk_alloc (w : World) (o : Obj) : (w.alloc o).heap[w.heap.size]? = some o := by
  show (w.heap.push o)[w.heap.size]? = some o
  simp
theorem bk_cell {w : World} {b : Nat} {c : Array Value} {t : TypeId} (h : w.heap[b]? = some (.cells c t (0, 0))) (j : Nat) (v : Value) (hj : c[j]? = some v) : w.cell? ⟨b, j, none⟩ = some v ∧ w.frozen? ⟨b, j, none⟩ = false := by
  refine ⟨by rw [cell_in h, hj], ?_⟩
  simp [World.frozen?, h]
theorem bk_size {w : World} {b : Nat} {o : Obj} (h : w.heap[b]? = some o) : b < w.heap.size := (Array.getElem?_eq_some_iff.1 h).1
theorem bk_set {w : World} {b : Nat} {c : Array Value} {t : TypeId} {f : Nat × Nat} (h : w.heap[b]? = some (.cells c t f)) (i : Nat) (v : Value) : (w.setCell ⟨b, i, none⟩ v).heap[b]? = some (.cells (c.setIfInBounds i v) t f) := by
  simp [World.setCell, Array.getElem?_modify, h]
theorem bk_set_grown (w : World) (b i : Nat) (v : Value) : w.grownBy (w.setCell ⟨b, i, none⟩ v) (some b) :=
  ⟨rfl, rfl, rfl, by simp [World.setCell], fun k hk hne => by
    have : ¬ b = k := fun e => hne (by rw [e])
    simp [World.setCell, Array.getElem?_modify, this]⟩
theorem bk_grown_set {w0 w : World} {b : Nat} (h : w0.grownBy w none) (hb : w0.heap.size ≤ b) (i : Nat) (v : Value) : w0.grownBy (w.setCell ⟨b, i, none⟩ v) none := grown_new h (bk_set_grown w b i v) hb
/-- Only what was made from base on has turned. -/
theorem below_grown {w w' : World} {base : Nat} {r : Option Nat} (h : w.grownBy w' r) (hr : ∀ k, r = some k → base ≤ k) (hb : base ≤ w.heap.size) : Below base w w' :=
  ⟨h.os, h.tape, h.output, h.size, fun k hk => h.block k (Nat.lt_of_lt_of_le hk hb) (fun e => by have := hr k (by first | exact e | exact e.symm); omega)⟩
theorem below_trans {w w1 w2 : World} {base : Nat} (h1 : Below base w w1) (h2 : Below base w1 w2) : Below base w w2 :=
  ⟨h2.os.trans h1.os, h2.tape.trans h1.tape, h2.output.trans h1.output, Nat.le_trans h1.size h2.size, fun k hk => (h2.block k hk).trans (h1.block k hk)⟩
theorem below_le {w w' : World} {base c : Nat} (h : Below base w w') (hc : c ≤ base) : Below c w w' := ⟨h.os, h.tape, h.output, h.size, fun k hk => h.block k (Nat.lt_of_lt_of_le hk hc)⟩
theorem below_drew {w : World} {base : Nat} (n : Nat) : Below base w (w.drewN n) := ⟨rfl, rfl, rfl, Nat.le_refl _, fun _ _ => rfl⟩
theorem below_cell {w w' : World} {base b : Nat} (h : Below base w w') (hb : b < base) (j : Nat) : w'.cell? ⟨b, j, none⟩ = w.cell? ⟨b, j, none⟩ := by
  simp only [World.cell?, h.block b hb]
theorem Part.below {w w' : World} {B base : Nat} {v : Value} {M : List UInt8} (h : Part w B v M) (hg : Below base w w') (hB : B ≤ base) : Part w' B v M := by
  obtain ⟨a, cap, b, o, h1, h2, h6, h3, h4, h5⟩ := h
  exact ⟨a, cap, b, o, h1, h2, h6, h3, h4, fun j hj => by rw [below_cell hg (Nat.lt_of_lt_of_le h3 hB)]; exact h5 j hj⟩
theorem Owns.other {w w1 : World} {base b : Nat} {v : Value} {L : List UInt8} (h : Owns w base v L) (hg : w.grownBy w1 (some b)) (hb : v.ownBlock ≠ some b) : Owns w1 base v L :=
  World.ownsRow.kept h hg (by cases e : v.ownBlock with
    | none => exact .inl rfl
    | some k => exact .inr (by rw [e] at hb; exact fun e2 => hb (by first | exact e2 | exact e2.symm)))
theorem Owns.open {w : World} {base m : Nat} {v : Value} {L : List UInt8} (h : Owns w base v L) (hL : L.length = m) : ∃ a c, v = .slice a m c ∧ c ≤ maxLen := by
  obtain ⟨a, c, e, _, h2⟩ := h.form
  exact ⟨a, c, by rw [e, hL], h2⟩
/-- A block of another kind is not the one that owned bytes lie in. -/
theorem Owns.apart {w : World} {base b : Nat} {v : Value} {L : List UInt8} {c : Array Value} {t : TypeId} {f : Nat × Nat} (h : Owns w base v L) (hb : w.heap[b]? = some (.cells c t f)) (ht : t ≠ 5) : v.ownBlock ≠ some b := by
  intro e
  rcases h.2 with ⟨h1, _⟩ | ⟨g, cap, cur, h1, h2, h3, _⟩
  · rw [h1] at e; simp [Value.ownBlock] at e
  · rw [h1] at e
    have e2 : g = b := by simpa [Value.ownBlock] using e
    subst e2
    rw [h3] at hb
    injection hb with hb
    injection hb with _ h4
    exact ht h4.symm
end Go.Proofs.YtichejodbohldaaGreatDoor
namespace Go.Proofs.YtichejodbohldaaGreatDoor
open Go.RowKit Go.Maps

/-- Of the blocks that were there, those of S alone have turned. -/
structure Kept (w w' : World) (S : Nat → Prop) : Prop where
  os : w'.os = w.os
  tape : w'.tape = w.tape
  output : w'.output = w.output
  size : w.heap.size ≤ w'.heap.size
  block : ∀ k, k < w.heap.size → ¬ S k → w'.heap[k]? = w.heap[k]?
theorem Kept.refl (w : World) (S : Nat → Prop) : Kept w w S := ⟨rfl, rfl, rfl, Nat.le_refl _, fun _ _ _ => rfl⟩
theorem Kept.trans {a b c : World} {S T : Nat → Prop} (h : Kept a b S) (k : Kept b c T) (hT : ∀ i, T i → S i ∨ a.heap.size ≤ i) : Kept a c S :=
  ⟨k.os.trans h.os, k.tape.trans h.tape, k.output.trans h.output, Nat.le_trans h.size k.size, fun i hi hn =>
    (k.block i (Nat.lt_of_lt_of_le hi h.size) (fun e => by rcases hT i e with e | e; exact hn e; omega)).trans (h.block i hi hn)⟩
theorem Kept.mono {w w' : World} {S T : Nat → Prop} (h : Kept w w' S) (hT : ∀ i, i < w.heap.size → S i → T i) : Kept w w' T :=
  ⟨h.os, h.tape, h.output, h.size, fun i hi hn => h.block i hi fun e => hn (hT i hi e)⟩
theorem Kept.of {w w' : World} {r : Option Nat} (h : w.grownBy w' r) (S : Nat → Prop) (hr : ∀ k, r = some k → S k) : Kept w w' S :=
  ⟨h.os, h.tape, h.output, h.size, fun i hi hn => h.block i hi fun e => hn (hr i e.symm)⟩
theorem Kept.ofNone {w w' : World} (h : w.grownBy w' none) (S : Nat → Prop) : Kept w w' S := Kept.of h S (fun k hk => by cases hk)
theorem Kept.then {a b c : World} {S : Nat → Prop} (h : Kept a b S) (k : b.grownBy c none) : Kept a c S := h.trans (Kept.ofNone k S) (fun _ h => .inl h)
theorem Kept.grown {w w' : World} (h : Kept w w' fun _ => False) : w.grownBy w' none := ⟨h.os, h.tape, h.output, h.size, fun k hk _ => h.block k hk fun e => e⟩
theorem Kept.below {w w' : World} {S : Nat → Prop} {B : Nat} (h : Kept w w' S) (hS : ∀ k, S k → B ≤ k) (hB : B ≤ w.heap.size) : Below B w w' :=
  ⟨h.os, h.tape, h.output, h.size, fun k hk => h.block k (Nat.lt_of_lt_of_le hk hB) fun e => by have := hS k e; omega⟩
theorem Kept.bk {w w' : World} {S : Nat → Prop} {b : Nat} {o : Obj} (h : Kept w w' S) (hb : w.heap[b]? = some o) (hn : ¬ S b) : w'.heap[b]? = some o := (h.block b (bk_size hb) hn).trans hb
theorem Kept.one {w w' : World} {b : Nat} (h : w.grownBy w' (some b)) : Kept w w' (· = b) := Kept.of h _ fun _ e => (Option.some.inj e).symm
theorem Owns.keeps {w w' : World} {S : Nat → Prop} {base : Nat} {v : Value} {L : List UInt8} (h : Owns w base v L) (hk : Kept w w' S) (hn : ∀ k, v.ownBlock = some k → ¬ S k) : Owns w' base v L := by
  obtain ⟨h0, h1⟩ := h
  refine ⟨h0, ?_⟩
  rcases h1 with h1 | ⟨g, cap, cur, h1, h2, h3, h4⟩
  · exact .inl h1
  · exact .inr ⟨g, cap, cur, h1, h2, hk.bk h3 (hn g (by rw [h1]; rfl)), h4⟩
theorem Part.keeps {w w' : World} {S : Nat → Prop} {B : Nat} {v : Value} {M : List UInt8} (h : Part w B v M) (hk : Kept w w' S) (hn : ∀ k, S k → B ≤ k) : Part w' B v M := by
  obtain ⟨a, cap, b, o, h1, h2, h6, h3, h4, h5⟩ := h
  refine ⟨a, cap, b, o, h1, h2, h6, h3, h4, fun j hj => ?_⟩
  have hc := h5 j hj
  have hb : b < w.heap.size := World.block_lt_of_cell? _ _ hc
  rw [← hc]
  exact World.cell?_of_block (hk.block b hb fun e => by have := hn b e; omega)

/-! ### A map of texts to nodes -/
def TM : TypeId := 70
/-- Block b is the map of E. -/
def MapAt (w : World) (b : Nat) (E : As Value) : Prop := w.ownsMap Tryz.prog 9 RV b E.length (encA E) ∧ AscA E
theorem lawS : Keyed Tryz.prog 9 := string_keyed Tryz.underlying9
theorem zeroN (w : World) : (zeroValue 81).run Tryz.prog w = .ok (.agg #[.bool false, .slice none 0 0]) w := by kernel_rfl
def zeroNode : Value := .agg #[.bool false, .slice none 0 0]
theorem MapAt.look {w : World} {b : Nat} {E : As Value} (h : MapAt w b E) (p : ByteArray) (hp : p.size ≤ 1000000) :
    (Instr.lookup 70 (.map (some b)) (.string p) false).run Tryz.prog w = .ok ((getA E p).getD zeroNode) w := by
  obtain ⟨v, ps, hrun, hv⟩ := h.1.lookup (zd := .held zeroNode) (zp := []) lawS Tryz.underlying70 (zeroN w) rfl (WideMaps.keyOf_string_mk Tryz.underlying9 (s := p) (by unfold maxLen; omega))
  have e : (DataW.held v : DataW Value) = .held ((getA E p).getD zeroNode) := by
    rw [← encA_at]
    unfold RV at hv
    have := Option.some.inj hv
    exact (Prod.mk.inj this).1
  obtain rfl := DataW.held.inj e
  exact hrun
theorem MapAt.lookOk {w : World} {b : Nat} {E : As Value} (h : MapAt w b E) (p : ByteArray) (hp : p.size ≤ 1000000) :
    (Instr.lookup 70 (.map (some b)) (.string p) true).run Tryz.prog w = .ok (.tuple #[(getA E p).getD zeroNode, .bool (getA E p).isSome]) w := by
  obtain ⟨v, ps, hrun, hv⟩ := h.1.look_ok (zd := .held zeroNode) (zp := []) lawS Tryz.underlying70 (zeroN w) rfl (WideMaps.keyOf_string_mk Tryz.underlying9 (s := p) (by unfold maxLen; omega))
  have e : (DataW.held v : DataW Value) = .held ((getA E p).getD zeroNode) := by
    rw [← encA_at]
    unfold RV at hv
    have := Option.some.inj hv
    exact (Prod.mk.inj this).1
  obtain rfl := DataW.held.inj e
  have := encA_has E p
  unfold keyL at this
  rw [this] at hrun
  exact hrun
theorem MapAt.len {w : World} {b : Nat} {E : As Value} (h : MapAt w b E) (ty : TypeId) : (Builtin.len_ #[70] ty #[.map (some b)]).run Tryz.prog w = .ok (.int .i64 (E.length : Nat)) w := by
  rw [h.1.len Tryz.underlying70 ty, encA_size]
/-- A map that reads so may be bounded by its own length. -/
theorem ownsMap_tight {w : World} {b n : Nat} {E : As Value} (h : w.ownsMap Tryz.prog 9 RV b n (encA E)) : w.ownsMap Tryz.prog 9 RV b E.length (encA E) := by
  obtain ⟨es, clock, hb, F, hs, hD⟩ := h
  refine ⟨es, clock, hb, F, ?_, hD⟩
  have : Maps.size (encA E) = es.size := by rw [hD]; simp [Maps.size, length_sorted]
  rw [← this, encA_size]; exact Nat.le_refl _
theorem MapAt.update {w : World} {b : Nat} {E : As Value} (h : MapAt w b E) (p : ByteArray) (hp : p.size ≤ 1000000) (hE : E.length ≤ 1000000) (v : Value) :
    ∃ w', (Instr.mapUpdate 70 (.map (some b)) (.string p) v).run Tryz.prog w = .ok () w' ∧ MapAt w' b (putA E p v) ∧ w.grownBy w' (some b) ∧ w'.heap.size = w.heap.size := by
  obtain ⟨w', hrun, h1, h2⟩ := h.1.store (d := .held v) (ps := []) lawS Tryz.underlying70 (by unfold maxLen; omega) (WideMaps.keyOf_string_mk Tryz.underlying9 (s := p) (by unfold maxLen; omega)) rfl
  have e := encA_put h.2 p v
  unfold keyL at e
  rw [e] at h1
  refine ⟨w', hrun, ⟨ownsMap_tight h1, h.2.put p v⟩, h2.grown, ?_⟩
  obtain ⟨es, clock, es', clock', hb, rfl⟩ := h2
  simp [ChangeMaps.setBlock]
theorem MapAt.delete {w : World} {b : Nat} {E : As Value} (h : MapAt w b E) (p : ByteArray) (hp : p.size ≤ 1000000) (ty : TypeId) :
    ∃ w', (Builtin.delete_ #[70, 9] ty #[.map (some b), .string p]).run Tryz.prog w = .ok (.tuple #[]) w' ∧ MapAt w' b (delA E p) ∧ w.grownBy w' (some b) ∧ w'.heap.size = w.heap.size := by
  obtain ⟨w', hrun, h1, h2⟩ := h.1.drop lawS Tryz.underlying70 (WideMaps.keyOf_string_mk Tryz.underlying9 (s := p) (by unfold maxLen; omega)) ty
  have e := encA_del E p
  unfold keyL at e
  rw [e] at h1
  refine ⟨w', hrun, ⟨ownsMap_tight h1, h.2.del p⟩, h2.grown, ?_⟩
  obtain ⟨es, clock, es', clock', hb, rfl⟩ := h2
  simp [ChangeMaps.setBlock]
theorem MapAt.keeps {w w' : World} {S : Nat → Prop} {b : Nat} {E : As Value} (h : MapAt w b E) (hk : Kept w w' S) (hn : ¬ S b) : MapAt w' b E := by
  obtain ⟨⟨es, clock, hb, F, hs, hD⟩, h2⟩ := h
  exact ⟨⟨es, clock, hk.bk hb hn, F, hs, hD⟩, h2⟩
theorem MapAt.lt {w : World} {b : Nat} {E : As Value} (h : MapAt w b E) : b < w.heap.size := h.1.lt
theorem map_made (w : World) : MapAt (w.alloc (.map #[] 0)) w.heap.size [] := ⟨World.ownsMap_made _ _ _ _, List.Pairwise.nil⟩
theorem MapAt.no_cells {w : World} {b : Nat} {E : As Value} {c : Array Value} {t : TypeId} {f : Nat × Nat} (h : MapAt w b E) (hb : w.heap[b]? = some (.cells c t f)) : False := by
  obtain ⟨⟨es, clock, hb2, _⟩, _⟩ := h
  rw [hb] at hb2; cases hb2

/-! ### A tree -/
/-- A file's bytes, or a directory. -/
structure Nd where
  dir : Bool
  b : List UInt8
deriving DecidableEq
abbrev Tr := As Nd
/-- A node, and the slice that its bytes lie in. -/
structure Gn where
  nd : Nd
  v : Value
def Gn.val (g : Gn) : Value := .agg #[.bool g.nd.dir, g.v]
def sizeT (M : Tr) : Nat := sumA (fun n => n.b.length) M
/-- The blocks of a tree. -/
def Own (tb mb : Nat) (X : As Gn) (k : Nat) : Prop := k = tb ∨ k = mb ∨ ∃ e ∈ X, e.2.v.ownBlock = some k
structure TreeIn (w : World) (tb mb : Nat) (X : As Gn) : Prop where
  head : w.heap[tb]? = some (.cells #[.map (some mb), .int .i64 (sizeT (mapA Gn.nd X) : Nat)] 72 (0, 0))
  map : MapAt w mb (mapA Gn.val X)
  row : ∀ e ∈ X, Owns w 0 e.2.v e.2.nd.b
  apart : X.Pairwise fun a b => ∀ k, a.2.v.ownBlock = some k → b.2.v.ownBlock ≠ some k
theorem TreeIn.asc {w : World} {tb mb : Nat} {X : As Gn} (h : TreeIn w tb mb X) : AscA X := h.map.2.of_map
theorem TreeIn.own_lt {w : World} {tb mb : Nat} {X : As Gn} (h : TreeIn w tb mb X) {k : Nat} (hk : Own tb mb X k) : k < w.heap.size := by
  rcases hk with rfl | rfl | ⟨e, he, hk⟩
  · exact bk_size h.head
  · exact h.map.lt
  · exact ((h.row e he).block_lt k hk).2
theorem TreeIn.keeps {w w' : World} {tb mb : Nat} {X : As Gn} {S : Nat → Prop} (h : TreeIn w tb mb X) (hk : Kept w w' S) (hn : ∀ k, Own tb mb X k → ¬ S k) : TreeIn w' tb mb X :=
  ⟨hk.bk h.head (hn tb (.inl rfl)), h.map.keeps hk (hn mb (.inr (.inl rfl))), fun e he => (h.row e he).keeps hk fun k e2 => hn k (.inr (.inr ⟨e, he, e2⟩)), h.apart⟩
theorem TreeIn.stays {w w' : World} {tb mb : Nat} {X : As Gn} (h : TreeIn w tb mb X) (hk : w.grownBy w' none) : TreeIn w' tb mb X := h.keeps (Kept.ofNone hk fun _ => False) fun _ _ e => e
theorem TreeIn.ne {w : World} {tb mb : Nat} {X : As Gn} (h : TreeIn w tb mb X) : tb ≠ mb := fun e => by have := h.head; rw [e] at this; exact h.map.no_cells this
theorem TreeIn.row_tb {w : World} {tb mb : Nat} {X : As Gn} (h : TreeIn w tb mb X) {e : ByteArray × Gn} (he : e ∈ X) : e.2.v.ownBlock ≠ some tb := (h.row e he).apart h.head (by decide)
theorem TreeIn.row_mb {w : World} {tb mb : Nat} {X : As Gn} (h : TreeIn w tb mb X) {e : ByteArray × Gn} (he : e ∈ X) : e.2.v.ownBlock ≠ some mb := by
  intro e2
  rcases (h.row e he).2 with ⟨h1, _⟩ | ⟨g, cap, cur, h1, h2, h3, _⟩
  · rw [h1] at e2; simp [Value.ownBlock] at e2
  · rw [h1] at e2
    have e3 : g = mb := by simpa [Value.ownBlock] using e2
    subst e3
    exact h.map.no_cells h3
theorem TreeIn.cells {w : World} {tb mb : Nat} {X : As Gn} (h : TreeIn w tb mb X) : w.cell? ⟨tb, 0, none⟩ = some (.map (some mb)) ∧ w.cell? ⟨tb, 1, none⟩ = some (.int .i64 (sizeT (mapA Gn.nd X) : Nat)) ∧ w.frozen? ⟨tb, 1, none⟩ = false ∧ w.frozen? ⟨tb, 0, none⟩ = false :=
  ⟨(bk_cell h.head 0 _ rfl).1, (bk_cell h.head 1 _ rfl).1, (bk_cell h.head 1 _ rfl).2, (bk_cell h.head 0 _ rfl).2⟩
theorem TreeIn.look {w : World} {tb mb : Nat} {X : As Gn} (h : TreeIn w tb mb X) (p : ByteArray) (hp : p.size ≤ 1000000) :
    (Instr.lookup 70 (.map (some mb)) (.string p) false).run Tryz.prog w = .ok (((getA X p).map Gn.val).getD zeroNode) w := by
  rw [h.map.look p hp, getA_map]
theorem TreeIn.lookOk {w : World} {tb mb : Nat} {X : As Gn} (h : TreeIn w tb mb X) (p : ByteArray) (hp : p.size ≤ 1000000) :
    (Instr.lookup 70 (.map (some mb)) (.string p) true).run Tryz.prog w = .ok (.tuple #[((getA X p).map Gn.val).getD zeroNode, .bool (getA X p).isSome]) w := by
  rw [h.map.lookOk p hp, getA_map, Option.isSome_map]
end Go.Proofs.YtichejodbohldaaGreatDoor
