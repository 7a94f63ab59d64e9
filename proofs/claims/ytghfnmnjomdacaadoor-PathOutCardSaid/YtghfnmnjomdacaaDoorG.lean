/- The way of a path, as a function of lists; and how parts are put behind parts that came in. -/
import Derived.Test.YtghfnmnjomdacaaDoorF
import Derived.ArgAppend
import Derived.Lib.BufferOwn
namespace Go.Proofs.YtghfnmnjomdacaaDoor
open Go.RowKit

def dot : ByteArray := ⟨#[46]⟩
def dots : ByteArray := ⟨#[46, 46]⟩

/-- The way through parts: 0 and the parts that stay, or an error's number. nb parts may not be taken away. -/
def walkL (nb : Nat) : List ByteArray → List ByteArray → Int × List ByteArray
  | out, [] => (0, out)
  | out, p :: ps =>
    if p = ⟨#[]⟩ ∨ p = dot then walkL nb out ps
    else if p = dots then (if out.length = nb then (51, []) else walkL nb out.dropLast ps)
    else if okPart p = true then walkL nb (out ++ [p]) ps
    else (50, [])
/-- The path that s leads to from root on. -/
def walkS (root : List ByteArray) (s : ByteArray) : ByteArray × Int :=
  if Lib.hasPrefix s.data.toList slash.data.toList = true then (⟨#[]⟩, 51)
  else if (walkL root.length root (pieces s)).1 ≠ 0 then (⟨#[]⟩, (walkL root.length root (pieces s)).1)
  else if 12 < (walkL root.length root (pieces s)).2.length then (⟨#[]⟩, 50)
  else (joinB (walkL root.length root (pieces s)).2, 0)

/-- A slice without room, whose texts lie anywhere. -/
def FullS (w : World) (v : Value) (L : List ByteArray) : Prop := (∃ a, v = .slice a L.length L.length ∧ (a = none → L.length = 0)) ∧ ∃ B, B ≤ w.heap.size ∧ PartS w B v L
theorem PartS.le {w : World} {B B' : Nat} {v : Value} {M : List ByteArray} (h : PartS w B v M) (hB : B ≤ B') : PartS w B' v M := by
  obtain ⟨a, cap, b, o, h1, h2, h3, h4, h5, h6⟩ := h
  exact ⟨a, cap, b, o, h1, h2, h3, by omega, h5, h6⟩
theorem OwnsS.mono {w : World} {b c : Nat} {v : Value} {L : List ByteArray} (h : OwnsS w b v L) (hc : c ≤ b) : OwnsS w c v L := by
  refine ⟨h.1, ?_⟩
  rcases h.2 with h1 | ⟨g, cap, cur, h1, h2, h3⟩
  · exact .inl h1
  · exact .inr ⟨g, cap, cur, h1, Nat.le_trans hc h2, h3⟩
theorem OwnsS.shorter {w : World} {b n cap : Nat} {a : Option Addr} {L : List ByteArray} (h : OwnsS w b (.slice a n cap) L) (hn : L.length = n) (h0 : 0 < n) : OwnsS w b (.slice a (n - 1) cap) L.dropLast := by
  have hl : L.dropLast.length = n - 1 := by rw [List.length_dropLast, hn]
  refine ⟨by simp, ?_⟩
  rcases h.2 with ⟨h1, h2⟩ | ⟨g, cp, cur, h1, h2, h3, h4, h5, h6, h7⟩
  · omega
  · have e := Value.slice.inj h1
    refine .inr ⟨g, cap, cur, by rw [e.1, hl], h2, h3, ?_, ?_, ?_, ?_⟩
    · have := e.2.1; rw [hl]; have := e.2.2; omega
    · rw [e.2.2]; exact h5
    · rw [e.2.2]; exact h6
    · rw [hl, List.map_dropLast, ← h7, List.dropLast_eq_take, List.length_take, List.take_take]
      congr 1
      have : cur.toList.length = cp := by simpa using h6
      omega

theorem app_out {w1 w : World} {ops : Array Oper} {rest : List Oper} {o : Oper} {a : Act} {Q : Exit → Act → World → Prop} (hgd : o.guard = none) (s x : Operand)
    (ho : o.op = .call { callee := .builtin .append, args := #[s, x], argTypes := #[29, 29] }) (B : Nat) (v xv : Value) (L : List ByteArray) (y : ByteArray) (hs : a.eval s = v) (hown : FullS w v L ∨ OwnsS w w1.heap.size v L)
    (hx : a.eval x = xv) (hp : PartS w B xv [y]) (hb : L.length + 1 ≤ 1000000) (hgw : w1.grownBy w none)
    (h : ∀ v' w', OwnsS w' w1.heap.size v' (L ++ [y]) → w1.grownBy w' none → wpList Tryd.prog ops Q rest (a.put o.dst v') w') : wpList Tryd.prog ops Q (o :: rest) a w := by
  rcases hown with ⟨⟨ao, hv, hno⟩, ⟨B', _, hP⟩⟩ | hown
  · obtain ⟨i0, hi, hz0, hz1, hz2⟩ := info_parts info9
    obtain ⟨ap, cap, b, of, h1, h2, h6, h3, h4, h5⟩ := hp
    have hap := h4 (by simp)
    subst hap
    obtain ⟨a2, cap2, b2, of2, g1, g2, g6, g3, g4, g5⟩ := hP
    have he := Value.slice.inj (hv.symm.trans g1)
    have hal : (a.eval s) = .slice ao L.length L.length := hs.trans hv
    refine wpList_append_grows w hgd s x 29 ho 9 i0 (.string ByteArray.empty) 1 16 Tryd.underlying29 hi hz0 hz1 hz2 rfl (by decide) ao L.length L.length (L.map Value.string) hal (fun e => ⟨hno e, hno e⟩) (by simp) ?_
      ⟨b, of, none⟩ 1 cap [.string y] (by rw [hx, h1]; rfl) rfl ?_ ?_ (by omega) (by unfold maxLen; omega) (by omega) ?_
    · intro b3 hb3 j u hu
      have hj : j < L.length := by have := (List.getElem?_eq_some_iff.1 hu).1; simpa using this
      have e := g4 (by omega)
      rw [← he.1, hb3] at e
      rw [List.getElem?_map, List.getElem?_eq_getElem hj] at hu
      have hu' : Value.string L[j] = u := by simpa using hu
      rw [Option.some.inj e, Addr.add_mid, g5 j L[j] (List.getElem?_eq_getElem hj), hu']
    · intro j u hu
      have hj : j = 0 := by have := (List.getElem?_eq_some_iff.1 hu).1; simpa using this
      subst hj
      have hu' : Value.string y = u := by simpa using hu
      rw [Addr.add_mid, h5 0 y rfl, hu']
    · intro u hu
      rw [List.mem_singleton.1 hu]; rfl
    · intro v' w' h7 h8
      refine h v' w' ?_ (World.grownBy.trans hgw h8)
      refine OwnsS.mono (b := w.heap.size) ?_ hgw.size
      show World.ownsRow _ _ _ _ _ _ _
      rw [List.length_append, List.map_append]
      exact h7
  · refine app_str hgd s x ho w1.heap.size B v xv L [y] hs hown hx hp (by simpa using hb) hgw.size fun v' w' h1 h2 => h v' w' h1 ?_
    exact OwnsS.grown hown hgw h2
end Go.Proofs.YtghfnmnjomdacaaDoor
