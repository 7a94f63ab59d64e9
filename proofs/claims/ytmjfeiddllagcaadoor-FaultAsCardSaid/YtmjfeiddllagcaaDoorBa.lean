/- Blocks of cells, bytes of texts, slices of texts: the ground of all that follows. -/
import Derived.Test.YtmjfeiddllagcaaDoorSh
import Derived.WalkKit
import Derived.WalkSpells
import Derived.Deep.QuietTactic
import Derived.BigQuiet
import Derived.IntWalk
import Derived.Lib.Hide
import Derived.Lib.SplitLaws
import Derived.Lib.Join
import Derived.Outline
import Derived.OwnWalk
import Derived.ArgAppend
import Derived.Laws.AppendOwnNone
import Derived.Laws.OwnMore
import Derived.Deep.MidRow
namespace Go.Proofs.YtmjfeiddllagcaaDoor
open Go.RowKit

theorem alloc_cell (w : World) (c : Array Value) (t : TypeId) (i : Nat) : (w.alloc (.cells c t)).cell? ⟨w.heap.size, i, none⟩ = c[i]? := by
  simp [World.alloc, World.cell?, -World.alloc_eq]
theorem alloc_frozen (w : World) (c : Array Value) (t : TypeId) (i : Nat) : (w.alloc (.cells c t)).frozen? ⟨w.heap.size, i, none⟩ = false := by
  simp [World.alloc, World.frozen?, -World.alloc_eq]
theorem alloc_size (w : World) (o : Obj) : (w.alloc o).heap.size = w.heap.size + 1 := by
  show (w.heap.push o).size = _
  simp
theorem cell_in {w : World} {b : Nat} {c : Array Value} {t : TypeId} (h : w.heap[b]? = some (.cells c t (0, 0))) (j : Nat) : w.cell? ⟨b, j, none⟩ = c[j]? := by
  simp [World.cell?, h]
theorem grown_new {w w1 w2 : World} {k : Nat} (h1 : w.grownBy w1 none) (h2 : w1.grownBy w2 (some k)) (hk : w.heap.size ≤ k) : w.grownBy w2 none :=
  ⟨h2.os.trans h1.os, h2.tape.trans h1.tape, h2.output.trans h1.output, Nat.le_trans h1.size h2.size, fun j hj hne => (h2.block j (Nat.lt_of_lt_of_le hj h1.size) (by simp; omega)).trans (h1.block j hj hne)⟩
theorem grown_drew {w w1 : World} (n : Nat) (h : w.grownBy w1 none) : w.grownBy (w1.drewN n) none := ⟨h.os, h.tape, h.output, h.size, h.block⟩
theorem grown_alloc {w w1 : World} (o : Obj) (h : w.grownBy w1 none) : w.grownBy (w1.alloc o) none := World.grownBy.trans h (World.grownBy_alloc _ _ _)
theorem below_of_grown {w w' : World} (h : w.grownBy w' none) : Below w.heap.size w w' := ⟨h.os, h.tape, h.output, h.size, fun k hk => h.block k hk (by simp)⟩
theorem grown_of_below {w w' : World} (h : Below w.heap.size w w') : w.grownBy w' none := ⟨h.os, h.tape, h.output, h.size, fun k hk _ => h.block k hk⟩
theorem frozen_kept {w w1 : World} (h : w.grownBy w1 none) {b : Nat} (hb : b < w.heap.size) (o : Nat) : w1.frozen? ⟨b, o, none⟩ = w.frozen? ⟨b, o, none⟩ := by
  have e := h.block b hb (by simp)
  simp only [World.frozen?, e]

theorem beq_no (a : Nat) (k : Int) (h : (a : Int) ≠ k) : ((a : Int) == k) = false := by simp [h]
theorem eq_list (x : ByteArray) (l : List UInt8) (h : x = ⟨l.toArray⟩) : x.toList = l := by
  rw [h, ByteArray.toList_eq]
theorem ne_list (x : ByteArray) (l : List UInt8) (h : ¬ x = ⟨l.toArray⟩) : ¬ x.toList = l := by
  intro e
  apply h
  rw [ByteArray.toList_eq] at e
  apply ByteArray.ext
  apply Array.ext'
  rw [e]
theorem nb_list (x : ByteArray) (l : List UInt8) (h : ¬ x = ⟨l.toArray⟩) : (x.toList == l) = false := by
  rw [beq_eq_false_iff_ne]; exact ne_list x l h
theorem ne_lists (x y : ByteArray) (h : ¬ x = y) : ¬ x.toList = y.toList := by
  intro e
  apply h
  rw [ByteArray.toList_eq, ByteArray.toList_eq] at e
  apply ByteArray.ext
  apply Array.ext'
  rw [e]
theorem nb_lists (x y : ByteArray) (h : ¬ x = y) : (x.toList == y.toList) = false := by
  rw [beq_eq_false_iff_ne]; exact ne_lists x y h
theorem empty_no (x : ByteArray) (h : ¬ x = ⟨#[]⟩) : x.toList.isEmpty = false := by
  cases hl : x.toList with
  | nil => exact absurd hl (ne_list x [] h)
  | cons _ _ => rfl
theorem bytes_ext {x y : ByteArray} (h : x.data.toList = y.data.toList) : x = y := by
  apply ByteArray.ext
  exact Array.ext' h

def byteAt (s : ByteArray) (i : Nat) : UInt8 := s.data.toList.getD i 0
theorem byteAt_eq (s : ByteArray) (i : Nat) (h : i < s.size) : byteAt s i = s[i] := by
  unfold byteAt
  rw [List.getD_eq_getElem?_getD, Array.getElem?_toList, Array.getElem?_eq_getElem (by simpa using h)]; rfl
theorem byteAt_extract (s : ByteArray) (a j : Nat) (h : a + j < s.size) : byteAt (s.extract a s.size) j = byteAt s (a + j) := by
  have h1 : j < (s.extract a s.size).size := by rw [ByteArray.size_extract]; omega
  rw [byteAt_eq _ _ h1, byteAt_eq _ _ h, ByteArray.getElem_extract]
theorem byteAt_extract' (s : ByteArray) (a b j : Nat) (h : a + j < b) (hb : b ≤ s.size) : byteAt (s.extract a b) j = byteAt s (a + j) := by
  have h1 : j < (s.extract a b).size := by rw [ByteArray.size_extract]; omega
  rw [byteAt_eq _ _ h1, byteAt_eq _ _ (by omega), ByteArray.getElem_extract]
def toB (l : List UInt8) : ByteArray := ⟨l.toArray⟩
theorem toB_data (s : ByteArray) : toB s.data.toList = s := by
  apply ByteArray.ext; simp [toB]
theorem data_toB (l : List UInt8) : (toB l).data.toList = l := by simp [toB]
theorem data_len (s : ByteArray) : s.data.toList.length = s.size := by simp
theorem byteAt_mem (s : ByteArray) (j : Nat) (h : j < s.size) : byteAt s j ∈ s.data.toList := by
  unfold byteAt
  rw [List.getD_eq_getElem?_getD, List.getElem?_eq_getElem (by rw [data_len]; exact h)]
  exact List.getElem_mem _

/-- v holds the texts L, in a block that was made from base on. -/
def OwnsS (w : World) (base : Nat) (v : Value) (L : List ByteArray) : Prop := w.ownsRow base 9 1 v L.length (L.map Value.string)
/-- v is the texts M, which lie anywhere below B. -/
def PartS (w : World) (B : Nat) (v : Value) (M : List ByteArray) : Prop :=
  ∃ a cap b o, v = .slice a M.length cap ∧ M.length ≤ cap ∧ (a = none → cap = 0) ∧ b < B ∧ (0 < M.length → a = some ⟨b, o, none⟩) ∧ ∀ j x, M[j]? = some x → w.cell? ⟨b, o + j, none⟩ = some (.string x)

theorem OwnsS.nil (w : World) (base : Nat) : OwnsS w base (.slice none 0 0) [] := World.ownsRow_nil w base 9 1
theorem OwnsS.form {w : World} {base : Nat} {v : Value} {L : List ByteArray} (h : OwnsS w base v L) : ∃ a cap, v = .slice a L.length cap ∧ L.length ≤ cap ∧ cap ≤ maxLen := by
  rcases h.2 with ⟨h1, h2⟩ | ⟨g, cap, cur, h1, h2, h3, h4, h5, _⟩
  · exact ⟨none, 0, by rw [h1, h2], by omega, by unfold maxLen; omega⟩
  · exact ⟨_, cap, h1, h4, h5⟩
theorem OwnsS.block_lt {w : World} {base : Nat} {v : Value} {L : List ByteArray} (h : OwnsS w base v L) (k : Nat) (e : v.ownBlock = some k) : base ≤ k ∧ k < w.heap.size := World.ownsRow.lt h k e
theorem OwnsS.part {w : World} {base : Nat} {v : Value} {L : List ByteArray} (h : OwnsS w base v L) (hp : 0 < w.heap.size) : PartS w w.heap.size v L := by
  have hlt := OwnsS.block_lt h
  rcases h.2 with ⟨h1, h2⟩ | ⟨g, cap, cur, h1, h2, h3, h4, h5, h6, h7⟩
  · exact ⟨none, 0, 0, 0, by rw [h1, h2], by omega, fun _ => rfl, hp, fun hh => by omega, fun j x hj => by
      have := (List.getElem?_eq_some_iff.1 hj).1; omega⟩
  · have hg := (hlt g (by rw [h1]; rfl)).2
    refine ⟨some ⟨g, 0, none⟩, cap, g, 0, h1, h4, (fun h => by cases h), hg, fun _ => rfl, fun j x hj => ?_⟩
    have hjl := (List.getElem?_eq_some_iff.1 hj).1
    rw [Nat.zero_add, cell_in h3]
    have e : (L.map Value.string)[j]? = some (.string x) := by rw [List.getElem?_map, hj]; rfl
    rw [← h7, List.getElem?_take, if_pos (by omega)] at e
    simpa using e
theorem OwnsS.grown {w w1 w2 : World} {v : Value} {L : List ByteArray} (h : OwnsS w1 w.heap.size v L) (h1 : w.grownBy w1 none) (h2 : w1.grownBy w2 v.ownBlock) : w.grownBy w2 none := by
  cases e : v.ownBlock with
  | none => rw [e] at h2; exact World.grownBy.trans h1 h2
  | some k => rw [e] at h2; exact grown_new h1 h2 (World.ownsRow.lt h k e).1
theorem OwnsS.alloc {w : World} {base : Nat} {v : Value} {L : List ByteArray} (h : OwnsS w base v L) (o : Obj) : OwnsS (w.alloc o) base v L := World.ownsRow.alloc h o
theorem OwnsS.stays {w w1 : World} {base : Nat} {v : Value} {L : List ByteArray} (h : OwnsS w base v L) (hg : w.grownBy w1 none) : OwnsS w1 base v L :=
  World.ownsRow.kept h hg (by cases v.ownBlock with
    | none => exact .inl rfl
    | some k => exact .inr (by simp))
theorem OwnsS.mono {w : World} {b c : Nat} {v : Value} {L : List ByteArray} (h : OwnsS w b v L) (hc : c ≤ b) : OwnsS w c v L := by
  refine ⟨h.1, ?_⟩
  rcases h.2 with h1 | ⟨g, cap, cur, h1, h2, h3⟩
  · exact .inl h1
  · exact .inr ⟨g, cap, cur, h1, Nat.le_trans hc h2, h3⟩
theorem OwnsS.shorter {w : World} {b n cap : Nat} {a : Option Addr} {L : List ByteArray} (h : OwnsS w b (.slice a n cap) L) (hn : L.length = n) (h0 : 0 < n) : OwnsS w b (.slice a (n - 1) cap) L.dropLast := by
  have hl : L.dropLast.length = n - 1 := by rw [List.length_dropLast, hn]
  refine ⟨by simp, ?_⟩
  rcases h.2 with ⟨h1, h2⟩ | ⟨g, cp, cur, h1, h2, h3, h4, h5, h6, h7⟩
  · omega
  · have e := Value.slice.inj h1
    refine .inr ⟨g, cap, cur, by rw [e.1, hl], h2, h3, ?_, ?_, ?_, ?_⟩
    · have := e.2.1; rw [hl]; have := e.2.2; omega
    · rw [e.2.2]; exact h5
    · rw [e.2.2]; exact h6
    · rw [hl, List.map_dropLast, ← h7, List.dropLast_eq_take, List.length_take, List.take_take]
      congr 1
      have : cur.toList.length = cp := by simpa using h6
      omega
theorem PartS.grown {w w' : World} {B : Nat} {v : Value} {M : List ByteArray} {r : Option Nat} (h : PartS w B v M) (hg : w.grownBy w' r) (hr : ∀ k, r = some k → B ≤ k) : PartS w' B v M := by
  obtain ⟨a, cap, b, o, h1, h2, h3, h4, h5, h6⟩ := h
  exact ⟨a, cap, b, o, h1, h2, h3, h4, h5, fun j x hj => hg.cell (h6 j x hj) (fun e => by have := hr b e.symm; omega)⟩
theorem PartS.stays {w w' : World} {B : Nat} {v : Value} {M : List ByteArray} (h : PartS w B v M) (hg : w.grownBy w' none) : PartS w' B v M := h.grown hg (fun k hk => by simp at hk)
theorem PartS.le {w : World} {B B' : Nat} {v : Value} {M : List ByteArray} (h : PartS w B v M) (hB : B ≤ B') : PartS w B' v M := by
  obtain ⟨a, cap, b, o, h1, h2, h3, h4, h5, h6⟩ := h
  exact ⟨a, cap, b, o, h1, h2, h3, by omega, h5, h6⟩
theorem PartS.form {w : World} {B : Nat} {v : Value} {M : List ByteArray} (h : PartS w B v M) : ∃ a cap, v = .slice a M.length cap ∧ M.length ≤ cap ∧ (a = none → cap = 0) := by
  obtain ⟨a, cap, b, o, h1, h2, h3, h4, h5, h6⟩ := h
  exact ⟨a, cap, h1, h2, h3⟩
/-- The k-th text of a part, by its cell. -/
theorem PartS.at {w : World} {B n cap : Nat} {a : Option Addr} {M : List ByteArray} (h : PartS w B (.slice a n cap) M) (k : Nat) (x : ByteArray) (hk : M[k]? = some x) : ∃ b o, a = some ⟨b, o, none⟩ ∧ b < B ∧ w.cell? ⟨b, o + k, none⟩ = some (.string x) := by
  obtain ⟨a', cap', b, o, f1, f2, f3, f4, f5, f6⟩ := h
  have e := Value.slice.inj f1
  have hl := (List.getElem?_eq_some_iff.1 hk).1
  exact ⟨b, o, by rw [e.1]; exact f5 (by omega), f4, f6 k x hk⟩
theorem PartS.nil {w : World} {B : Nat} (h : 0 < B) : PartS w B (.slice none 0 0) [] :=
  ⟨none, 0, 0, 0, rfl, Nat.le_refl _, fun _ => rfl, h, fun h => by simp at h, fun j x hj => by simp at hj⟩
/-- Texts that lie in a block of their own. -/
theorem part_block (w : World) (P : List ByteArray) (t : TypeId) (n : Nat) (hn : P.length = n) : PartS (w.alloc (.cells (P.map Value.string).toArray t)) (w.heap.size + 1) (.slice (some ⟨w.heap.size, 0, none⟩) n n) P :=
  ⟨_, n, w.heap.size, 0, by rw [hn], by rw [hn]; exact Nat.le_refl _, fun h => by simp at h, by omega, fun _ => rfl, fun j y hj => by
    rw [Nat.zero_add, alloc_cell]; simp [hj]⟩
/-- One text, in a block of its own. -/
theorem part_str (w : World) (x : ByteArray) (t : TypeId) : PartS (w.alloc (.cells #[.string x] t)) (w.heap.size + 1) (.slice (some ⟨w.heap.size, 0, none⟩) 1 1) [x] :=
  part_block w [x] t 1 rfl

theorem infoS : (Tryd.prog.info? 9).map (fun i => (i.zero, i.size, i.bytes)) = some (some (.string ByteArray.empty), 1, 16) := by kernel_rfl

/-- append of texts that lie anywhere to texts that the call owns. -/
theorem app_str {w : World} {ops : Array Oper} {rest : List Oper} {o : Oper} {a : Act} {Q : Exit → Act → World → Prop} (hgd : o.guard = none) (s x : Operand)
    (ho : o.op = .call { callee := .builtin .append, args := #[s, x], argTypes := #[29, 29] }) (base B : Nat) (v xv : Value) (L M : List ByteArray) (hs : a.eval s = v) (hown : OwnsS w base v L)
    (hx : a.eval x = xv) (hp : PartS w B xv M) (hb : L.length + M.length ≤ 8000000) (hbase : base ≤ w.heap.size)
    (h : ∀ v' w', OwnsS w' base v' (L ++ M) → w.grownBy w' v.ownBlock → wpList Tryd.prog ops Q rest (a.put o.dst v') w') : wpList Tryd.prog ops Q (o :: rest) a w := by
  obtain ⟨i0, hi, hz0, hz1, hz2⟩ := info_parts infoS
  obtain ⟨ap, cap, b, of, h1, h2, h6, h3, h4, h5⟩ := hp
  subst h1
  cases ap with
  | none =>
    have hc := h6 rfl
    have hm : M = [] := List.eq_nil_of_length_eq_zero (by omega)
    subst hm
    have hc' : cap = 0 := by omega
    subst hc'
    refine wpList_append_own_none hgd s x 29 ho base 9 i0 1 Tryd.underlying29 hi v L.length (L.map Value.string) hs hown hx ?_
    exact h v w (by simpa using hown) (World.grownBy.refl _ _)
  | some ad =>
    refine wpList_append_own w hgd s x 29 ho base 9 i0 (.string ByteArray.empty) 1 16 Tryd.underlying29 hi hz0 hz1 hz2 rfl (by decide) v L.length (L.map Value.string) hs hown ad M.length cap (M.map Value.string) hx (by simp) ?_ ?_ (by unfold maxLen; omega) (by omega) hbase ?_
    · intro j u hu
      have hj : j < M.length := by have := (List.getElem?_eq_some_iff.1 hu).1; simpa using this
      have e := h4 (by omega)
      rw [List.getElem?_map, List.getElem?_eq_getElem hj] at hu
      have hu' : Value.string M[j] = u := by simpa using hu
      rw [Option.some.inj e, Addr.add_mid, h5 j M[j] (List.getElem?_eq_getElem hj), hu']
    · intro u hu
      obtain ⟨y, _, rfl⟩ := List.mem_map.1 hu
      rfl
    · intro v' w' h7 h8 _
      refine h v' w' ?_ h8
      show World.ownsRow _ _ _ _ _ _ _
      rw [List.length_append, List.map_append]
      exact h7

/-- Parts, put together with a text between. -/
def joinB (sep : ByteArray) (L : List ByteArray) : ByteArray := ⟨(Lib.join (L.map (·.data.toList)) sep.data.toList).toArray⟩
theorem joinB_nil (sep : ByteArray) : joinB sep [] = ByteArray.empty := rfl
theorem joinB_one (sep x : ByteArray) : joinB sep [x] = x := by
  unfold joinB
  simp [Lib.join_one]
theorem joinB_snoc (sep : ByteArray) (L : List ByteArray) (x : ByteArray) (h : L ≠ []) : joinB sep (L ++ [x]) = joinB sep L ++ sep ++ x := by
  obtain ⟨y, r, rfl⟩ : ∃ y r, L = y :: r := List.exists_cons_of_ne_nil h
  unfold joinB
  rw [List.cons_append, List.map_cons, List.map_cons, Lib.join_cons, Lib.join_cons]
  apply ByteArray.ext
  apply Array.ext'
  simp [Lib.joinTail]
theorem joinB_app (sep : ByteArray) (A B : List ByteArray) (ha : A ≠ []) (hb : B ≠ []) : joinB sep (A ++ B) = joinB sep A ++ sep ++ joinB sep B := by
  obtain ⟨y, r, rfl⟩ : ∃ y r, A = y :: r := List.exists_cons_of_ne_nil ha
  obtain ⟨z, t, rfl⟩ : ∃ y r, B = y :: r := List.exists_cons_of_ne_nil hb
  unfold joinB
  apply ByteArray.ext
  apply Array.ext'
  simp only [List.cons_append, List.map_cons, Lib.join_cons, List.map_append]
  simp [Lib.joinTail]
def strAt (L : List ByteArray) (i : Nat) : ByteArray := L.getD i ByteArray.empty
theorem strAt_eq (L : List ByteArray) (i : Nat) (h : i < L.length) : L[i]? = some (strAt L i) := by
  unfold strAt
  rw [List.getD_eq_getElem?_getD, List.getElem?_eq_getElem h]; rfl
theorem take_snocL {α : Type} (L : List α) (k : Nat) (b : α) (h : L[k]? = some b) : L.take (k + 1) = L.take k ++ [b] := by
  rw [List.take_add_one, h]; rfl
/-- All the bytes of the parts, and one for each. -/
def sumS : List ByteArray → Nat
  | [] => 0
  | x :: r => x.size + 1 + sumS r
theorem sumS_snoc (L : List ByteArray) (x : ByteArray) : sumS (L ++ [x]) = sumS L + x.size + 1 := by
  induction L with
  | nil => simp [sumS]
  | cons y r ih => simp only [List.cons_append, sumS, ih]; omega
theorem sumS_app (L M : List ByteArray) : sumS (L ++ M) = sumS L + sumS M := by
  induction L with
  | nil => simp [sumS]
  | cons x r ih => simp only [List.cons_append, sumS, ih]; omega
theorem sumS_take (L : List ByteArray) (k : Nat) : sumS (L.take k) ≤ sumS L := by
  induction L generalizing k with
  | nil => simp [sumS]
  | cons y r ih => cases k with
    | zero => simp [sumS]
    | succ k => simp only [List.take_succ_cons, sumS]; have := ih k; omega
theorem sumS_le (L : List ByteArray) (c : Nat) (h : ∀ p ∈ L, p.size ≤ c) : sumS L ≤ L.length * (c + 1) := by
  induction L with
  | nil => simp [sumS]
  | cons x r ih =>
    have h1 := h x (by simp)
    have h2 := ih fun p hp => h p (by simp [hp])
    simp only [sumS, List.length_cons, Nat.add_mul]
    omega
theorem joinB_size (d : UInt8) (L : List ByteArray) (h : L ≠ []) : (joinB ⟨#[d]⟩ L).size + 1 = sumS L := by
  cases L with
  | nil => exact absurd rfl h
  | cons y r =>
    have h : ∀ (r : List ByteArray), (Lib.joinTail (⟨#[d]⟩ : ByteArray).data.toList (r.map (·.data.toList))).length = sumS r := by
      intro r
      induction r with
      | nil => rfl
      | cons z r ih =>
        simp only [Lib.joinTail, List.map_cons, List.flatten_cons, List.length_append, sumS] at ih ⊢
        rw [ih]; simp; omega
    show (Lib.join _ _).toArray.size + 1 = _
    rw [List.map_cons, Lib.join_cons, List.size_toArray, List.length_append, h]
    simp [sumS]; omega
theorem joinB_le (d : UInt8) (L : List ByteArray) : (joinB ⟨#[d]⟩ L).size ≤ sumS L := by
  by_cases h : L = []
  · subst h; exact Nat.le_refl _
  · have := joinB_size d L h; omega
end Go.Proofs.YtmjfeiddllagcaaDoor
