/- Slices of ints that the call owns: script's open blocks. -/
import Derived.Test.YtmjdkgbblccpgaaDoorSj
import Derived.Laws.AppendOwnNone
namespace Go.Proofs.YtmjdkgbblccpgaaDoor
open Go.RowKit

def OwnsI (w : World) (base : Nat) (v : Value) (L : List Int) : Prop := w.ownsRow base 3 1 v L.length (L.map (Value.int .i64))
theorem OwnsI.nil (w : World) (base : Nat) : OwnsI w base (.slice none 0 0) [] := World.ownsRow_nil w base 3 1
theorem OwnsI.form {w : World} {base : Nat} {v : Value} {L : List Int} (h : OwnsI w base v L) : ∃ a cap, v = .slice a L.length cap ∧ L.length ≤ cap ∧ cap ≤ maxLen := by
  rcases h.2 with ⟨h1, h2⟩ | ⟨g, cap, cur, h1, h2, h3, h4, h5, _⟩
  · exact ⟨none, 0, by rw [h1, h2], by omega, by unfold maxLen; omega⟩
  · exact ⟨_, cap, h1, h4, h5⟩
theorem OwnsI.block_lt {w : World} {base : Nat} {v : Value} {L : List Int} (h : OwnsI w base v L) (k : Nat) (e : v.ownBlock = some k) : base ≤ k ∧ k < w.heap.size := World.ownsRow.lt h k e
theorem OwnsI.alloc {w : World} {base : Nat} {v : Value} {L : List Int} (h : OwnsI w base v L) (o : Obj) : OwnsI (w.alloc o) base v L := World.ownsRow.alloc h o
theorem OwnsI.stays {w w1 : World} {base : Nat} {v : Value} {L : List Int} (h : OwnsI w base v L) (hg : w.grownBy w1 none) : OwnsI w1 base v L :=
  World.ownsRow.kept h hg (by cases v.ownBlock with
    | none => exact .inl rfl
    | some k => exact .inr (by simp))
theorem OwnsI.other {w w1 : World} {base c : Nat} {v : Value} {L : List Int} (h : OwnsI w base v L) (hg : w.grownBy w1 (some c)) (hc : v.ownBlock ≠ some c) : OwnsI w1 base v L :=
  World.ownsRow.kept h hg (by
    cases e : v.ownBlock with
    | none => exact .inl rfl
    | some k => rw [e] at hc; exact .inr hc)
/-- The last one of what is owned, by its cell. -/
theorem OwnsI.last {w : World} {base n cap : Nat} {a : Option Addr} {L : List Int} {x : Int} (h : OwnsI w base (.slice a n cap) (L ++ [x])) (hn : (L ++ [x]).length = n) :
    ∃ g, a = some ⟨g, 0, none⟩ ∧ base ≤ g ∧ n ≤ cap ∧ w.cell? ⟨g, n - 1, none⟩ = some (.int .i64 x) ∧ w.frozen? ⟨g, n - 1, none⟩ = false ∧ ∀ y : Int, OwnsI (w.setCell ⟨g, n - 1, none⟩ (.int .i64 y)) base (.slice a n cap) (L ++ [y]) := by
  rcases h.2 with ⟨h1, h2⟩ | ⟨g, cp, cur, h1, h2, h3, h4, h5, h6, h7⟩
  · simp at h2
  · have e := Value.slice.inj h1
    have hln : L.length + 1 = n := by simpa using hn
    have hat : cur[n - 1]? = some (.int .i64 x) := by
      have : (((L ++ [x]).map (Value.int .i64)))[n - 1]? = some (.int .i64 x) := by
        rw [List.map_append, List.getElem?_append_right (by simp; omega)]
        simp [← hln]
      rw [← h7, List.getElem?_take, if_pos (by rw [hn]; omega)] at this
      simpa using this
    refine ⟨g, e.1, h2, by rw [e.2.2]; omega, (block_cell h3 _ _ hat).1, (block_cell h3 _ _ hat).2, fun y => ⟨by simp, .inr ⟨g, cp, cur.setIfInBounds (n - 1) (.int .i64 y), ?_, h2, set_block h3 _ _, ?_, h5, ?_, ?_⟩⟩⟩
    · rw [e.1, e.2.2, ← hn]; simp
    · simpa using h4
    · simpa using h6
    · have hl1 : (L ++ [y]).length = L.length + 1 := by simp
      have hl2 : (L ++ [x]).length = L.length + 1 := by simp
      rw [hl2] at h7
      rw [hl1, Array.toList_setIfInBounds, List.take_set, h7, List.map_append, List.map_append, show n - 1 = (L.map (Value.int .i64)).length by simp; omega]
      simp
theorem OwnsI.shorter {w : World} {b n cap : Nat} {a : Option Addr} {L : List Int} (h : OwnsI w b (.slice a n cap) L) (hn : L.length = n) (h0 : 0 < n) : OwnsI w b (.slice a (n - 1) cap) L.dropLast := by
  have hl : L.dropLast.length = n - 1 := by rw [List.length_dropLast, hn]
  refine ⟨by simp, ?_⟩
  rcases h.2 with ⟨h1, h2⟩ | ⟨g, cp, cur, h1, h2, h3, h4, h5, h6, h7⟩
  · omega
  · have e := Value.slice.inj h1
    refine .inr ⟨g, cap, cur, by rw [e.1, hl], h2, h3, ?_, ?_, ?_, ?_⟩
    · have := e.2.1; rw [hl]; have := e.2.2; omega
    · rw [e.2.2]; exact h5
    · rw [e.2.2]; exact h6
    · rw [hl, List.map_dropLast, ← h7, List.dropLast_eq_take, List.length_take, List.take_take]
      congr 1
      have : cur.toList.length = cp := by simpa using h6
      omega
theorem infoI : (Tryd.prog.info? 3).map (fun i => (i.zero, i.size, i.bytes)) = some (some (.int .i64 0), 1, 8) := by kernel_rfl
/-- append of one int, that lies in a block of its own. -/
theorem app_int {w : World} {ops : Array Oper} {rest : List Oper} {o : Oper} {a : Act} {Q : Exit → Act → World → Prop} (hgd : o.guard = none) (s x : Operand)
    (ho : o.op = .call { callee := .builtin .append, args := #[s, x], argTypes := #[51, 51] }) (base : Nat) (v : Value) (L : List Int) (y : Int) (b : Nat) (hs : a.eval s = v) (hown : OwnsI w base v L)
    (hx : a.eval x = .slice (some ⟨b, 0, none⟩) 1 1) (hp : w.cell? ⟨b, 0, none⟩ = some (.int .i64 y)) (hb : L.length ≤ 1000000) (hbase : base ≤ w.heap.size)
    (h : ∀ v' w', OwnsI w' base v' (L ++ [y]) → w.grownBy w' v.ownBlock → wpList Tryd.prog ops Q rest (a.put o.dst v') w') : wpList Tryd.prog ops Q (o :: rest) a w := by
  obtain ⟨i0, hi, hz0, hz1, hz2⟩ := info_parts infoI
  refine wpList_append_own w hgd s x 51 ho base 3 i0 (.int .i64 0) 1 8 Tryd.underlying51 hi hz0 hz1 hz2 rfl (by decide) v L.length (L.map (Value.int .i64)) hs hown ⟨b, 0, none⟩ 1 1 [.int .i64 y] hx rfl ?_ ?_ (by unfold maxLen; omega) (by omega) hbase ?_
  · intro j u hu
    match j with
    | 0 => rw [← Option.some.inj hu]; exact hp
    | j + 1 => cases hu
  · intro u hu
    simp at hu
    subst hu
    rfl
  · intro v' w' h7 h8 _
    refine h v' w' ?_ h8
    show World.ownsRow _ _ _ _ _ _ _
    rw [List.length_append, List.map_append]
    exact h7
end Go.Proofs.YtmjdkgbblccpgaaDoor
