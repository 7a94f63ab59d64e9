/- What a script's lines are, as a list; the lines that the call owns; what stays beside a step. -/
import Derived.Test.YtmjdkgbblccpgaaDoorTi
import Derived.Test.YtmjdkgbblccpgaaDoorTj
namespace Go.Proofs.YtmjdkgbblccpgaaDoor
open Go.RowKit

def cmtL (l : List UInt8) : Bool := match trimB l with
  | c :: _ => c == 35
  | [] => false
theorem cmt_has (l : List UInt8) : Lib.hasPrefix (trimB l) [35] = cmtL l := by
  unfold cmtL
  cases trimB l with
  | nil => rfl
  | cons c r => exact prefix_one c 35 r
/-- A line of a script: some none where it says nothing, none where it is wrong. -/
def readW : Option (List (List UInt8)) → Option (Option Ln)
  | none => none
  | some [] => some none
  | some (x :: r) => (lineOf ((x :: r).map toB)).map some
def readS (x : ByteArray) : Option (Option Ln) := if cmtL x.data.toList = true then some none else readW (wordsL x.data.toList)
/-- The lines of a script behind i lines, out told, op open; or the number of what is wrong. -/
def parseS : List ByteArray → Nat → List Ln → List Int → Nat ⊕ List Ln
  | [], _, out, op => if op = [] then .inr out else .inl 0
  | x :: r, i, out, op => match readS x with
    | none => .inl (i + 1)
    | some none => parseS r (i + 1) out op
    | some (some l) => if out.length = 200 ∨ (stepB op l.kind).2 = false then .inl (i + 1) else parseS r (i + 1) (out ++ [l]) (stepB op l.kind).1
def scriptS (s : ByteArray) : Nat ⊕ List Ln := if 65536 < s.size then .inl 0 else parseS (linesS s) 0 [] []

def OwnsL (w : World) (base : Nat) (v : Value) (L : List Ln) : Prop := w.ownsRow base 41 6 v L.length (L.flatMap fun l => (lnC l).toList)
theorem OwnsL.nil (w : World) (base : Nat) : OwnsL w base (.slice none 0 0) [] := World.ownsRow_nil w base 41 6
theorem OwnsL.form {w : World} {base : Nat} {v : Value} {L : List Ln} (h : OwnsL w base v L) : ∃ a cap, v = .slice a L.length cap ∧ L.length ≤ cap ∧ cap ≤ maxLen := by
  rcases h.2 with ⟨h1, h2⟩ | ⟨g, cap, cur, h1, h2, h3, h4, h5, _⟩
  · exact ⟨none, 0, by rw [h1, h2], by omega, by unfold maxLen; omega⟩
  · exact ⟨_, cap, h1, h4, h5⟩
theorem OwnsL.block_lt {w : World} {base : Nat} {v : Value} {L : List Ln} (h : OwnsL w base v L) (k : Nat) (e : v.ownBlock = some k) : base ≤ k ∧ k < w.heap.size := World.ownsRow.lt h k e
theorem OwnsL.alloc {w : World} {base : Nat} {v : Value} {L : List Ln} (h : OwnsL w base v L) (o : Obj) : OwnsL (w.alloc o) base v L := World.ownsRow.alloc h o
theorem OwnsL.stays {w w1 : World} {base : Nat} {v : Value} {L : List Ln} (h : OwnsL w base v L) (hg : w.grownBy w1 none) : OwnsL w1 base v L :=
  World.ownsRow.kept h hg (by cases v.ownBlock with
    | none => exact .inl rfl
    | some k => exact .inr (by simp))
theorem OwnsL.grown {w w1 w2 : World} {base : Nat} {v : Value} {L : List Ln} (h : OwnsL w1 base v L) (hb : w.heap.size ≤ base) (h1 : w.grownBy w1 none) (h2 : w1.grownBy w2 v.ownBlock) : w.grownBy w2 none := by
  cases e : v.ownBlock with
  | none => rw [e] at h2; exact World.grownBy.trans h1 h2
  | some k => rw [e] at h2; exact grown_new h1 h2 (Nat.le_trans hb (World.ownsRow.lt h k e).1)
theorem OwnsL.mono {w : World} {b c : Nat} {v : Value} {L : List Ln} (h : OwnsL w b v L) (hc : c ≤ b) : OwnsL w c v L := by
  refine ⟨h.1, ?_⟩
  rcases h.2 with h1 | ⟨g, cap, cur, h1, h2, h3⟩
  · exact .inl h1
  · exact .inr ⟨g, cap, cur, h1, Nat.le_trans hc h2, h3⟩
theorem lns_len (L : List Ln) : (L.flatMap fun l => (lnC l).toList).length = L.length * 6 := by
  induction L with
  | nil => rfl
  | cons a r ih => rw [List.flatMap_cons, List.length_append, ih]; show 6 + _ = _; simp; omega
/-- The block of the k-th line that is owned. -/
theorem OwnsL.cell {w : World} {base : Nat} {v : Value} {L : List Ln} (h : OwnsL w base v L) (k : Nat) (l : Ln) (hk : L[k]? = some l) : ∃ g cap, v = .slice (some ⟨g, 0, none⟩) L.length cap ∧ base ≤ g ∧ L.length ≤ cap ∧ ∀ j x, (lnC l)[j]? = some x → w.cell? ⟨g, 6 * k + j, none⟩ = some x := by
  have hkl := (List.getElem?_eq_some_iff.1 hk).1
  rcases h.2 with ⟨h1, h2⟩ | ⟨g, cap, cur, h1, h2, h3, h4, h5, h6, h7⟩
  · omega
  · refine ⟨g, cap, h1, h2, h4, fun j x hj => ?_⟩
    have hj6 : j < 6 := (Array.getElem?_eq_some_iff.1 hj).1
    rw [cell_in h3]
    have e : (L.flatMap fun l => (lnC l).toList)[6 * k + j]? = some x := by
      have e1 : L = L.take k ++ l :: L.drop (k + 1) := by
        have := List.take_append_drop k L
        rw [List.drop_eq_getElem_cons hkl] at this
        have e2 : L[k] = l := by rw [List.getElem?_eq_getElem hkl] at hk; exact Option.some.inj hk
        rw [e2] at this
        exact this.symm
      have e3 : ((L.take k).flatMap fun l => (lnC l).toList).length = 6 * k := by rw [lns_len, List.length_take]; omega
      rw [e1, List.flatMap_append, List.getElem?_append_right (by omega), e3, show 6 * k + j - 6 * k = j by omega, List.flatMap_cons, List.getElem?_append_left (by show j < 6; exact hj6)]
      simpa using hj
    rw [← h7, List.getElem?_take, if_pos (by omega)] at e
    simpa using e
theorem infoL : (Tryd.prog.info? 41).map (fun i => (i.zero, i.size, i.bytes)) = some (some (.agg (lnC ⟨0, E0, E0, E0, 0, false⟩)), 6, 72) := by kernel_rfl
/-- append of one line, that lies in a block of its own. -/
theorem app_line {w : World} {ops : Array Oper} {rest : List Oper} {o : Oper} {a : Act} {Q : Exit → Act → World → Prop} (hgd : o.guard = none) (s x : Operand)
    (ho : o.op = .call { callee := .builtin .append, args := #[s, x], argTypes := #[29, 29] }) (base : Nat) (v : Value) (L : List Ln) (y : Ln) (b : Nat) (hs : a.eval s = v) (hown : OwnsL w base v L)
    (hx : a.eval x = .slice (some ⟨b, 0, none⟩) 1 1) (hp : ∀ j x, (lnC y)[j]? = some x → w.cell? ⟨b, j, none⟩ = some x) (hb : L.length ≤ 1000000) (hbase : base ≤ w.heap.size)
    (h : ∀ v' w', OwnsL w' base v' (L ++ [y]) → w.grownBy w' v.ownBlock → wpList Tryd.prog ops Q rest (a.put o.dst v') w') : wpList Tryd.prog ops Q (o :: rest) a w := by
  obtain ⟨i0, hi, hz0, hz1, hz2⟩ := info_parts infoL
  refine wpList_append_own w hgd s x 29 ho base 41 i0 _ 6 72 Tryd.underlying29 hi hz0 hz1 hz2 rfl (by decide) v L.length (L.flatMap fun l => (lnC l).toList) hs hown ⟨b, 0, none⟩ 1 1 (lnC y).toList hx rfl ?_ ?_ (by unfold maxLen; omega) (by omega) hbase ?_
  · intro j u hu
    rw [Addr.add_mid, Nat.zero_add]
    exact hp j u (by simpa using hu)
  · intro u hu
    simp [lnC] at hu
    rcases hu with rfl | rfl | rfl | rfl | rfl | rfl <;> rfl
  · intro v' w' h7 h8 _
    refine h v' w' ?_ h8
    show World.ownsRow _ _ _ _ _ _ _
    rw [List.length_append, List.flatMap_append]
    simpa using h7
/-- Blocks of lines and of ints are never one. -/
theorem OwnsL.apart {w : World} {b c : Nat} {v u : Value} {L : List Ln} {M : List Int} (h : OwnsL w b v L) (h2 : OwnsI w c u M) (k : Nat) (e : v.ownBlock = some k) : u.ownBlock ≠ some k := by
  intro e2
  rcases h.2 with ⟨h1, _⟩ | ⟨g, cap, cur, h1, _, h3, _⟩
  · rw [h1] at e; cases e
  · rcases h2.2 with ⟨f1, _⟩ | ⟨g2, cap2, cur2, f1, _, f3, _⟩
    · rw [f1] at e2; cases e2
    · rw [h1] at e; rw [f1] at e2
      obtain rfl : g = k := Option.some.inj e
      obtain rfl : g2 = g := Option.some.inj e2
      rw [h3] at f3
      have := Option.some.inj f3
      injection this with _ h4 _
      cases h4
theorem Kept.to_grown {w0 w w' : World} {p : Nat} {v : Value} {base : Nat} {L : List Int} (h : Kept w w' p v) (hg : w0.grownBy w none) (hp : w0.heap.size ≤ p) (ho : OwnsI w base v L) (hb : w0.heap.size ≤ base) : w0.grownBy w' none :=
  ⟨h.os.trans hg.os, h.tape.trans hg.tape, h.output.trans hg.output, Nat.le_trans hg.size h.size, fun j hj _ => by
    rw [h.block j (Nat.lt_of_lt_of_le hj hg.size) (by omega) (fun e => by have := (ho.block_lt j e).1; omega)]
    exact hg.block j hj (by simp)⟩
theorem Kept.lines {w w' : World} {p : Nat} {u : Value} {base c : Nat} {M : List Int} {v : Value} {L : List Ln} (h : Kept w w' p u) (hI : OwnsI w c u M) (hL : OwnsL w base v L) (hp : p < base) : OwnsL w' base v L := by
  have hap := hL.apart hI
  refine ⟨hL.1, ?_⟩
  rcases hL.2 with h1 | ⟨g, cap, cur, h1, h2, h3, h4⟩
  · exact .inl h1
  · exact .inr ⟨g, cap, cur, h1, h2, by rw [h.block g (block_size h3) (by omega) (hap g (by rw [h1]; rfl))]; exact h3, h4⟩
theorem Kept.part {w w' : World} {p n cp : Nat} {a : Option Addr} {base B : Nat} {M : List Int} {v : Value} {P : List ByteArray} (h : Kept w w' p (.slice a n cp)) (hx : w.heap[p]? = some (.cells #[.slice a n cp] 51 (0, 0))) (hI : OwnsI w base (.slice a n cp) M) (hP : PartS w B v P) (hB : B ≤ base) (hBw : B ≤ w.heap.size) : PartS w' B v P := by
  obtain ⟨a', cap, b, o, h1, h2, h3, h4, h5, h6⟩ := hP
  refine ⟨a', cap, b, o, h1, h2, h3, h4, h5, fun j x hj => ?_⟩
  have hc := h6 j x hj
  have hne : b ≠ p := by
    rintro rfl
    rw [cell_in hx] at hc
    have := List.mem_of_getElem? (l := [Value.slice a n cp]) (by simpa using hc)
    simp at this
  have hb := h.block b (by omega) hne (fun e => by have := (hI.block_lt b e).1; omega)
  rw [← hc]
  unfold World.cell?
  rw [hb]
end Go.Proofs.YtmjdkgbblccpgaaDoor
