/- A tree and the reference's beside it. -/
import Derived.Test.YtichejodbohldaaGreatDoorOkM
namespace Go.Proofs.YtichejodbohldaaGreatDoor
open Go.RowKit Go.Maps Go.Lib
set_option maxRecDepth 1000000
/-- The program's tree M and the reference's N, both made by the call, apart. -/
structure Both (B : Nat) (w : World) (t : Nat) (M : Tr) (S : Nat → Prop) (rb : Nat) (N : Tr) (R : Nat → Prop) : Prop where
  st : St B w t M S
  ref : RefAt w rb N R
  from' : ∀ k, R k → B ≤ k
  off : ∀ k, S k → ¬ R k
  size : B ≤ w.heap.size
theorem RefAt.rbIn {w : World} {rb : Nat} {N : Tr} {R : Nat → Prop} (h : RefAt w rb N R) : R rb := by
  obtain ⟨⟨a, c, Y, _, _, h3⟩, _⟩ := h
  exact h3 rb (.inl rfl)
theorem Both.stays {B : Nat} {w w' : World} {t rb : Nat} {M N : Tr} {S R : Nat → Prop} (h : Both B w t M S rb N R) (hg : w.grownBy w' none) : Both B w' t M S rb N R :=
  ⟨h.st.stays hg, h.ref.stays hg, h.from', h.off, Nat.le_trans h.size hg.size⟩
theorem Both.puts {B : Nat} {w w' : World} {t rb : Nat} {M N : Tr} {S R : Nat → Prop} {Q : Int × Tr} {e : Ending} (h : Both B w t M S rb N R) (hp : PutsRet t Q w S e w') : Both B w' t Q.2 (Grow w w' S) rb N R ∧ Since B w w' := by
  have hs := h.st.puts h.size hp
  refine ⟨⟨hs.1, h.ref.keeps hp.2.2 fun k hk e => h.off k e hk, h.from', fun k hk e => ?_, Nat.le_trans h.size hp.2.2.size⟩, hs.2⟩
  rcases hk.1 with h1 | h1
  · exact h.off k h1 e
  · have := h.ref.2 k e; omega
theorem Both.refs {B : Nat} {w w' : World} {t rb : Nat} {M N : Tr} {S R : Nat → Prop} {Q : Int × Tr} {e : Ending} (h : Both B w t M S rb N R) (hp : RefRet rb Q w R e w') : Both B w' t M S rb Q.2 (Grow w w' R) ∧ Since B w w' := by
  have hr := h.ref.rbIn
  refine ⟨⟨⟨h.st.tree.keeps hp.2.2 fun k hk e => h.off k hk (e ▸ hr), h.st.from'⟩, hp.2.1, fun k hk => ?_, fun k hk e => ?_, Nat.le_trans h.size hp.2.2.size⟩, hp.2.2.mono fun k _ e => by rw [e]; exact h.from' rb hr⟩
  · rcases hk.1 with h1 | h1
    · exact h.from' k h1
    · exact Nat.le_trans h.size h1
  · rcases e.1 with h1 | h1
    · exact h.off k hk h1
    · have := h.st.tree.lt k hk; omega
/-- The reference's tree, just made. -/
theorem ref_new {w : World} (hw : w.heap[w.heap.size]? = none) : RefAt (w.alloc (.cells #[.slice none 0 0] 30)) w.heap.size [] (· = w.heap.size) := by
  refine ⟨⟨none, 0, [], ⟨bk_alloc _ _, OwnsF.nil _ _, fun e he => (by cases he), List.Pairwise.nil⟩, rfl, fun k hk => ?_⟩, fun k hk => by rw [hk, alloc_size]; omega⟩
  rcases hk with h | h | ⟨e, he, _⟩
  · exact h
  · cases h
  · cases he
theorem Both.new {B : Nat} {w w1 : World} {t : Nat} (hB : B ≤ w.heap.size) (h1 : TreeAt w1 t [] (Grow w w1 fun _ => False)) (hg : w.grownBy w1 none) :
    Both B (w1.alloc (.cells #[.slice none 0 0] 30)) t [] (Grow w w1 fun _ => False) w1.heap.size [] (· = w1.heap.size) := by
  have hs := St.new h1
  refine ⟨⟨(hs.stays (World.grownBy_alloc _ _ _)).tree, fun k hk => Nat.le_trans hB (hs.from' k hk)⟩, ref_new (by simp), fun k hk => ?_, fun k hk e => ?_, ?_⟩
  · rw [hk]; exact Nat.le_trans hB hg.size
  · have := h1.lt k hk; omega
  · rw [alloc_size]; exact Nat.le_succ_of_le (Nat.le_trans hB hg.size)
/-- The reference's list, to be read. -/
theorem RefAt.read {w : World} {rb : Nat} {N : Tr} {R : Nat → Prop} (h : RefAt w rb N R) : ∃ a n c Y, Y.length = n ∧ nds Y = N ∧ w.cell? ⟨rb, 0, none⟩ = some (.slice a n c) ∧ RF w (.slice a n c) Y ∧ ∀ w', w.grownBy w' none → RF w' (.slice a n c) Y := by
  obtain ⟨⟨a, c, Y, h1, h2, _⟩, _⟩ := h
  have hpos : 0 < w.heap.size := Nat.lt_of_le_of_lt (Nat.zero_le _) (bk_size h1.head)
  have hf : RF w (.slice a Y.length c) Y := h1.own.rf rfl fun e he => ⟨by obtain ⟨x, y, hv, _⟩ := (h1.row e he).form; exact ⟨x, y, hv⟩, _, (h1.row e he).part hpos⟩
  exact ⟨a, Y.length, c, Y, rfl, h2, h1.cell.1, hf, fun w' hg => hf.stays hg⟩
end Go.Proofs.YtichejodbohldaaGreatDoor
