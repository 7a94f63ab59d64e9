/- Texts of one ground, in one file: Qt La Lb Lc Ld Le Lf Lg Lh Li Lw Lj Lk. -/
import Derived.Test.YthdopcdllggdaaaGreatDoorRows
import Derived.StillTailTactics
import Derived.Deep.QuietTactic
import Derived.Test.YthdopcdllggdaaaGreatDoorP2
import Derived.Test.YthdopcdllggdaaaGreatDoorP3
import Derived.RangeFuncNested
import Derived.RangeFuncBox
import Derived.RangeFuncBound
import Derived.RangeFuncCalls
import Derived.RangeFuncLeaves
import Derived.Shelf.Abstract
import Derived.OwnWalkIn
import Derived.TacticsInMore
import Derived.LoopNIn
import Derived.LoopIn
import Derived.Maps.AppendAt
import Derived.Great.BuildSlice
import Derived.Shelf.Strings.BuilderK
import Derived.Test.YthdopcdllggdaaaGreatDoorP1
namespace Go.Proofs.YthdopcdllggdaaaGreatDoor

section
variable {P : Program} {ops : Array Oper} {md : Region.Mode} {C : World → Prop}

/-- Whatever order the first n operations come in, each is quiet, and at their end G holds. -/
def HeadQ (P : Program) (md : Region.Mode) (ops : Array Oper) (C : World → Prop) (n : Nat) (G : Array Bool → Act → Prop) : Nat → Array Bool → Act → Prop
  | 0, ls, a => G ls a
  | f + 1, ls, a => Region.ready md ops ls ≠ [] ∧ ∀ i ∈ Region.ready md ops ls, i < n ∧ qOp P ops C i (HeadQ P md ops C n G f (ls.setIfInBounds i true)) a

theorem headQ_any {n g : Nat} {G : Array Bool → Act → Prop} {Q : Exit → Act → World → Prop} (hG : ∀ ls a w, C w → G ls a → wpAny P md ops Q g ls a w) (f : Nat) :
    ∀ (ls : Array Bool) (a : Act) (w : World), C w → HeadQ P md ops C n G f ls a → wpAny P md ops Q (f + g) ls a w := by
  induction f with
  | zero => intro ls a w hw h; rw [Nat.zero_add]; exact hG _ _ _ hw h
  | succ f ih =>
    intro ls a w hw h
    rw [Nat.add_right_comm]
    refine ⟨fun e => absurd e h.1, fun i hi => ?_⟩
    exact wpOp_of_qOp hw (fun a' w' hw' h' => ih _ a' w' hw' h') (h.2 i hi).2

/-- An operation of the head that may come now may be taken now. -/
theorem headQ_take {n i : Nat} {o : Oper} {v : Value} {G : Array Bool → Act → Prop} (ho : ops[i]? = some o) (hsel : Region.noSelect ops = true)
    (hs : Region.sinkB md ops n = true) (hc : Region.chainB md ops n = true) (hn : n < ops.size) (hin : i < n) (hG : ∀ ls a, G ls a → ∀ j ∈ Region.ready md ops ls, n ≤ j) (f : Nat) :
    ∀ (ls : Array Bool) (a : Act), HeadInv md ops n ls →
      (∀ j oj, ops[j]? = some oj → j ≠ i → ls.getD j true = false → (∀ e ∈ oj.after, Region.binds md e = true → e.on ≠ i) → o.apart ops oj = true) →
      i ∈ Region.ready md ops ls → YieldsIn P ops C o v a → HeadQ P md ops C n G f (ls.setIfInBounds i true) (a.put o.dst v) → HeadQ P md ops C n G (f + 1) ls a := by
  induction f with
  | zero =>
    intro ls a inv _ hr hy H
    refine ⟨fun e => (by rw [e] at hr; cases hr), fun j hj => ?_⟩
    have hjn : j < n := (Nat.lt_or_ge j n).elim id fun h => absurd hj (tail_waits hs hc hn inv _ i rfl hin (mem_ready.1 hr).1 j h)
    refine ⟨hjn, ?_⟩
    rcases Decidable.em (j = i) with rfl | hne
    · exact hy.qOp ho H
    · exact absurd (hG _ _ H j (ready_mono hj hne)) (by omega)
  | succ f ih =>
    intro ls a inv hfree hr hy H
    have hun := (mem_ready.1 hr).1
    refine ⟨fun e => (by rw [e] at hr; cases hr), fun j hj => ?_⟩
    have hjn : j < n := (Nat.lt_or_ge j n).elim id fun h => absurd hj (tail_waits hs hc hn inv _ i rfl hin hun j h)
    refine ⟨hjn, ?_⟩
    rcases Decidable.em (j = i) with rfl | hne
    · exact hy.qOp ho H
    obtain ⟨hju, oj, hoj, hall⟩ := mem_ready.1 hj
    have hno : ∀ e ∈ oj.after, Region.binds md e = true → e.on ≠ i := by
      intro e he hb h1
      have h2 := hall e he hb
      rw [h1, getD_both hun] at h2
      cases h2
    refine qOp_mono (fun a' h3 => ih _ a' (inv.set hj hjn) ?_ (ready_mono hr (Ne.symm hne)) h3.1 ?_)
      (qOp_put hoj (hfree j oj hoj hne hju hno) (fun cs b => Region.noSelect_spec hsel i o cs b ho) (fun cs b => Region.noSelect_spec hsel j oj cs b hoj) hy (H.2 j (ready_mono hj hne)).2)
    · intro k ok hk hki hku hkn
      refine hfree k ok hk hki ?_ hkn
      rcases Decidable.em (j = k) with rfl | hjk
      · exact hju
      · rwa [getD_set_ne true hjk] at hku
    · rw [Array.setIfInBounds_comm _ _ hne]; exact h3.2

theorem headQ_lex {n g : Nat} {L : Act → Prop} (hsel : Region.noSelect ops = true) (hs : Region.sinkB md ops n = true) (hc : Region.chainB md ops n = true) (hn : n < ops.size) (l : List Oper) :
    ∀ (k : Nat) (ls : Array Bool) (a : Act), (∀ j, j < l.length → l[j]? = ops[k + j]?) → k + l.length = n → HeadInv md ops n ls → Region.lexHead md ops g l.length k ls = true →
      wpQuiet P ops C L l a → HeadQ P md ops C n (fun ls' a' => Region.seqB md ops g n ls' = true ∧ L a') l.length ls a := by
  induction l with
  | nil =>
    intro k ls a _ hk _ hB h
    obtain rfl : k = n := by simpa using hk
    exact ⟨by simpa [Region.lexHead] using hB, h⟩
  | cons o l ih =>
    intro k ls a hl hk inv hB h
    have h0 : ops[k]? = some o := by simpa using (hl 0 (by simp)).symm
    simp only [List.length_cons, Region.lexHead, Bool.and_eq_true] at hB
    have hkn : k < n := by simp only [List.length_cons] at hk; omega
    have hr : k ∈ Region.ready md ops ls := by simpa using hB.1.1
    have hq : qOp P ops C k (wpQuiet P ops C L l) a := by unfold qOp; simp only [h0]; exact h
    obtain ⟨v, hy, hK⟩ := yieldsIn_of_qOp h0 hq
    refine headQ_take h0 hsel hs hc hn hkn (fun _ _ hL => seqB_ready hL.1) l.length ls a inv (Region.free_spec h0 hB.1.2) hr hy (ih (k + 1) _ _ ?_ ?_ (inv.set hr hkn) hB.2 hK)
    · intro j hj
      have := hl (j + 1) (by simp; omega)
      simpa [Nat.add_assoc, Nat.add_comm 1 j] using this
    · simp only [List.length_cons] at hk; omega

/-- The head read and called quietly, in worlds of the class C, what comes behind it in order. -/
theorem region_quiet_tail {id : Nat} {Q : Exit → Act → World → Prop} {a : Act} {w : World} {l : List Oper} (n : Nat) (hm : P.follows .mixedOrders = true) (hB : Region.lexTailB .any l.toArray n = true) (hC : C { w with drawn := w.drawn + 1 })
    (h : wpQuiet P l.toArray C (fun a' => ∀ w', C w' → wpList P l.toArray Q (l.drop n) a' w') (l.take n) a) : (Code.region id l.toArray true).wp P Q a w := by
  simp only [Region.lexTailB, Bool.and_eq_true, decide_eq_true_eq] at hB
  obtain ⟨⟨⟨⟨hsel, hn⟩, hs⟩, hc⟩, hlex⟩ := hB
  have hn' : n < l.length := by simpa using hn
  have htl : (l.take n).length = n := by simp; omega
  have hdl : (l.drop n).length = l.toArray.size - n := by simp
  have inv : HeadInv .any l.toArray n (Array.replicate l.toArray.size false) :=
    ⟨by simp, fun j _ _ hl => (by rw [getD_replicate_false] at hl; cases hl), fun t _ ht => getD_in (by simpa using ht) (getD_replicate_false _ _)⟩
  have H := headQ_lex (md := .any) (g := l.toArray.size - n) hsel hs hc hn (l.take n) 0 _ a (fun j hj => by
    have : j < n := by rw [htl] at hj; exact hj
    simp [this]) (by simpa using htl) inv (by rw [htl]; exact hlex) h
  refine wp_region_any hm ?_
  have T := headQ_any (Q := Q) (g := l.toArray.size - n) (fun ls a' w' hw hL => by
    have := wpAny_of_seq (md := .any) (Q' := Q) (l.drop n) n ls a' w' (fun j => by simp [List.getElem?_drop]) (by rw [hdl]; exact hL.1) (hL.2 w' hw)
    rwa [hdl] at this) _ _ _ { w with drawn := w.drawn + 1 } hC H
  rw [htl, show n + (l.toArray.size - n) = l.toArray.size by omega] at T
  exact T
end
end Go.Proofs.YthdopcdllggdaaaGreatDoor
namespace Go.Proofs.YthdopcdllggdaaaGreatDoor
open Go.RowKit

/-- A pin, and where its version's marks lie. -/
structure Pc where
  name : ByteArray
  v : Vn
  ad : Option Addr
  cap : Nat
  key : Array UInt8
  hk : key.size = 32
instance : Inhabited Pc := ⟨⟨⟨#[]⟩, zeroV, none, 0, Array.replicate 32 0, by simp⟩⟩
def Pc.sl (p : Pc) : Value := .slice p.ad p.v.pre.length p.cap
def verC (v : Vn) (sl : Value) : List Value := [.int .i64 v.maj, .int .i64 v.min, .int .i64 v.pat, sl]
def keyC (K : Array UInt8) : List Value := K.toList.map Sha.encB
/-- A pin's 37 cells. -/
def Pc.enc (p : Pc) : List Value := .string p.name :: (verC p.v p.sl ++ keyC p.key)
theorem keyC_len (p : Pc) : (keyC p.key).length = 32 := by simp [keyC, p.hk]
theorem enc_len (p : Pc) : p.enc.length = 37 := by simp [Pc.enc, verC, keyC_len]
theorem keyC_one (K : Array UInt8) : ∀ u ∈ keyC K, u.oneCell' = true := fun u hu => by
  obtain ⟨x, _, rfl⟩ := List.mem_map.1 hu
  rfl
theorem enc_one (p : Pc) : ∀ u ∈ p.enc, u.oneCell' = true := fun u hu => by
  unfold Pc.enc verC at hu
  simp only [List.cons_append, List.nil_append, List.mem_cons] at hu
  rcases hu with rfl | rfl | rfl | rfl | rfl | h
  · rfl
  · rfl
  · rfl
  · rfl
  · rfl
  · exact keyC_one _ u h
theorem keyC_arr (K : Array UInt8) : (keyC K).toArray = K.map Sha.encB := by apply Array.ext'; simp [keyC]
theorem verC_val (v : Vn) (sl : Value) : (.agg (verC v sl).toArray : Value) = verV v sl := rfl
/-- Its version's marks lie below B; its texts are not without end. -/
structure PcAt (w : World) (B : Nat) (p : Pc) : Prop where
  ver : VerAt w B p.v p.sl
  name : p.name.size ≤ 1000000
theorem PcAt.stays {w w' : World} {B : Nat} {p : Pc} (h : PcAt w B p) (hg : w.grownBy w' none) : PcAt w' B p := ⟨h.ver.stays hg, h.name⟩
theorem part_mono {w : World} {B C : Nat} {v : Value} {L : List ByteArray} (h : PartS w B v L) (hc : B ≤ C) : PartS w C v L := by
  obtain ⟨a, cap, b, o, h1, h2, h3, h4, h5⟩ := h
  exact ⟨a, cap, b, o, h1, h2, h3, Nat.lt_of_lt_of_le h4 hc, h5⟩
theorem VerAt.mono {w : World} {B C : Nat} {v : Vn} {sl : Value} (h : VerAt w B v sl) (hc : B ≤ C) : VerAt w C v sl := { h with part := part_mono h.part hc }
theorem PcAt.mono {w : World} {B C : Nat} {p : Pc} (h : PcAt w B p) (hc : B ≤ C) : PcAt w C p := ⟨h.ver.mono hc, h.name⟩

def rowsC (L : List Pc) : List Value := L.flatMap Pc.enc
theorem rowsC_len (L : List Pc) : (rowsC L).length = L.length * 37 := by
  induction L with
  | nil => rfl
  | cons a r ih =>
    unfold rowsC at *
    rw [List.flatMap_cons, List.length_append, ih, enc_len, List.length_cons]
    omega
theorem rowsC_at (L : List Pc) (k j : Nat) (p : Pc) (hk : L[k]? = some p) (hj : j < 37) : (rowsC L)[k * 37 + j]? = p.enc[j]? := by
  induction L generalizing k with
  | nil => simp at hk
  | cons a r ih =>
    unfold rowsC at *
    rw [List.flatMap_cons]
    cases k with
    | zero =>
      simp only [List.getElem?_cons_zero, Option.some.injEq] at hk
      subst hk
      rw [Nat.zero_mul, Nat.zero_add, List.getElem?_append_left (by rw [enc_len]; exact hj)]
    | succ k =>
      rw [List.getElem?_append_right (by rw [enc_len]; omega), enc_len, show (k + 1) * 37 + j - 37 = k * 37 + j by omega]
      exact ih k (by simpa using hk)
theorem rowsC_snoc (L : List Pc) (p : Pc) : rowsC (L ++ [p]) = rowsC L ++ p.enc := by simp [rowsC]
theorem rowsC_app (L M : List Pc) : rowsC (L ++ M) = rowsC L ++ rowsC M := by simp [rowsC]
theorem rowsC_one (L : List Pc) : ∀ u ∈ rowsC L, u.oneCell' = true := fun u hu => by
  obtain ⟨p, _, h⟩ := List.mem_flatMap.1 hu
  exact enc_one p u h

/-- v holds the pins L, in a block that was made from base on. -/
def OwnsP (w : World) (base : Nat) (v : Value) (L : List Pc) : Prop := w.ownsRow base 35 37 v L.length (rowsC L)
/-- v is the pins L, which lie anywhere below B. -/
def PartP (w : World) (B : Nat) (v : Value) (L : List Pc) : Prop :=
  ∃ a cap b o, v = .slice a L.length cap ∧ L.length ≤ cap ∧ (a = none → cap = 0) ∧ b < B ∧ (0 < L.length → a = some ⟨b, o, none⟩) ∧ ∀ k p, L[k]? = some p → w.rangeAt b (o + k * 37) p.enc
theorem OwnsP.nil (w : World) (base : Nat) : OwnsP w base (.slice none 0 0) [] := World.ownsRow_nil w base 35 37
theorem OwnsP.form {w : World} {base : Nat} {v : Value} {L : List Pc} (h : OwnsP w base v L) : ∃ a cap, v = .slice a L.length cap ∧ L.length ≤ cap ∧ cap ≤ maxLen := by
  rcases h.2 with ⟨h1, h2⟩ | ⟨g, cap, cur, h1, h2, h3, h4, h5, _⟩
  · exact ⟨none, 0, by rw [h1, h2], by omega, by unfold maxLen; omega⟩
  · exact ⟨_, cap, h1, h4, h5⟩
theorem OwnsP.block_lt {w : World} {base : Nat} {v : Value} {L : List Pc} (h : OwnsP w base v L) (k : Nat) (e : v.ownBlock = some k) : base ≤ k ∧ k < w.heap.size := World.ownsRow.lt h k e
theorem OwnsP.alloc {w : World} {base : Nat} {v : Value} {L : List Pc} (h : OwnsP w base v L) (o : Obj) : OwnsP (w.alloc o) base v L := World.ownsRow.alloc h o
theorem OwnsP.stays {w w1 : World} {base : Nat} {v : Value} {L : List Pc} (h : OwnsP w base v L) (hg : w.grownBy w1 none) : OwnsP w1 base v L :=
  World.ownsRow.kept h hg (by cases v.ownBlock with
    | none => exact .inl rfl
    | some k => exact .inr (by simp))
theorem OwnsP.grown {w w1 w2 : World} {base : Nat} {v : Value} {L : List Pc} (h : OwnsP w1 base v L) (hb : w.heap.size ≤ base) (h1 : w.grownBy w1 none) (h2 : w1.grownBy w2 v.ownBlock) : w.grownBy w2 none := by
  cases e : v.ownBlock with
  | none => rw [e] at h2; exact World.grownBy.trans h1 h2
  | some k => rw [e] at h2; exact grown_new h1 h2 (Nat.le_trans hb (World.ownsRow.lt h k e).1)
theorem OwnsP.mono {w : World} {b c : Nat} {v : Value} {L : List Pc} (h : OwnsP w b v L) (hc : c ≤ b) : OwnsP w c v L := by
  refine ⟨h.1, ?_⟩
  rcases h.2 with h1 | ⟨g, cap, cur, h1, h2, h3⟩
  · exact .inl h1
  · exact .inr ⟨g, cap, cur, h1, Nat.le_trans hc h2, h3⟩
theorem row_range {w : World} {g : Nat} {cur : Array Value} {t : TypeId} {L : List Pc} {n : Nat} (h3 : w.heap[g]? = some (.cells cur t (0, 0))) (h7 : cur.toList.take n = rowsC L) (k : Nat) (p : Pc) (hk : L[k]? = some p) : w.rangeAt g (k * 37) p.enc := by
  intro j v hj
  have hj37 : j < 37 := by have := (List.getElem?_eq_some_iff.1 hj).1; rw [enc_len] at this; exact this
  rw [cell_in h3]
  have e := rowsC_at L k j p hk hj37
  rw [hj, ← h7, List.getElem?_take] at e
  split at e
  · simpa using e
  · cases e
theorem OwnsP.part {w : World} {base : Nat} {v : Value} {L : List Pc} (h : OwnsP w base v L) (hp : 0 < w.heap.size) : PartP w w.heap.size v L := by
  have hlt := OwnsP.block_lt h
  rcases h.2 with ⟨h1, h2⟩ | ⟨g, cap, cur, h1, h2, h3, h4, h5, h6, h7⟩
  · exact ⟨none, 0, 0, 0, by rw [h1, h2], by omega, fun _ => rfl, hp, fun hh => by omega, fun j x hj => by
      have := (List.getElem?_eq_some_iff.1 hj).1; omega⟩
  · have hg := (hlt g (by rw [h1]; rfl)).2
    refine ⟨some ⟨g, 0, none⟩, cap, g, 0, h1, h4, (fun h => by cases h), hg, fun _ => rfl, fun k p hk => ?_⟩
    rw [Nat.zero_add]
    exact row_range h3 h7 k p hk
theorem range_stays {w w' : World} {b o : Nat} {l : List Value} {r : Option Nat} (h : w.rangeAt b o l) (hg : w.grownBy w' r) (hr : r ≠ some b) : w'.rangeAt b o l :=
  fun j v hj => hg.cell (h j v hj) (fun e => hr e.symm)
theorem PartP.stays {w w' : World} {B : Nat} {v : Value} {L : List Pc} (h : PartP w B v L) (hg : w.grownBy w' none) : PartP w' B v L := by
  obtain ⟨a, cap, b, o, h1, h2, h3, h4, h5, h6⟩ := h
  exact ⟨a, cap, b, o, h1, h2, h3, h4, h5, fun k p hk => range_stays (h6 k p hk) hg (by simp)⟩
theorem PartP.grown {w w' : World} {B : Nat} {v : Value} {L : List Pc} {r : Option Nat} (h : PartP w B v L) (hg : w.grownBy w' r) (hr : ∀ q, r = some q → B ≤ q) : PartP w' B v L := by
  obtain ⟨a, cap, b, o, h1, h2, h3, h4, h5, h6⟩ := h
  exact ⟨a, cap, b, o, h1, h2, h3, h4, h5, fun k p hk => range_stays (h6 k p hk) hg (fun e => by have := hr b e; omega)⟩
theorem PartP.mono {w : World} {B C : Nat} {v : Value} {L : List Pc} (h : PartP w B v L) (hc : B ≤ C) : PartP w C v L := by
  obtain ⟨a, cap, b, o, h1, h2, h3, h4, h5⟩ := h
  exact ⟨a, cap, b, o, h1, h2, h3, Nat.lt_of_lt_of_le h4 hc, h5⟩
theorem PartP.form {w : World} {B : Nat} {v : Value} {L : List Pc} (h : PartP w B v L) : ∃ a cap, v = .slice a L.length cap ∧ L.length ≤ cap ∧ (a = none → cap = 0) := by
  obtain ⟨a, cap, b, o, h1, h2, h3, _⟩ := h
  exact ⟨a, cap, h1, h2, h3⟩
/-- Where the k-th pin lies. -/
theorem PartP.at {w : World} {B : Nat} {a : Option Addr} {n cap : Nat} {L : List Pc} (h : PartP w B (.slice a n cap) L) (k : Nat) (p : Pc) (hk : L[k]? = some p) : ∃ b o, a = some ⟨b, o, none⟩ ∧ b < B ∧ w.rangeAt b (o + k * 37) p.enc := by
  obtain ⟨a', cap', b, o, h1, h2, h3, h4, h5, h6⟩ := h
  have hkl := (List.getElem?_eq_some_iff.1 hk).1
  exact ⟨b, o, (Value.slice.inj h1).1.trans (h5 (by omega)), h4, h6 k p hk⟩
/-- A pin's parts, out of its cells. -/
theorem range_name {w : World} {b o : Nat} {p : Pc} (h : w.rangeAt b o p.enc) : w.cell? ⟨b, o, none⟩ = some (.string p.name) := h 0 _ rfl
theorem range_ver {w : World} {b o : Nat} {p : Pc} (h : w.rangeAt b o p.enc) : w.rangeAt b (o + 1) (verC p.v p.sl) := fun j v hj => by
  have hj4 : j < 4 := (List.getElem?_eq_some_iff.1 hj).1
  have := h (j + 1) v (by unfold Pc.enc; rw [List.getElem?_cons_succ, List.getElem?_append_left (by exact hj4)]; exact hj)
  rw [show o + 1 + j = o + (j + 1) by omega]
  exact this
theorem range_key {w : World} {b o : Nat} {p : Pc} (h : w.rangeAt b o p.enc) : w.rangeAt b (o + 5) (keyC p.key) := fun j v hj => by
  have := h (j + 5) v (by unfold Pc.enc verC; simpa using hj)
  rw [show o + 5 + j = o + (j + 5) by omega]
  exact this
def zeroP : Array Value := #[.string ⟨#[]⟩, .int .i64 0, .int .i64 0, .int .i64 0, .slice none 0 0] ++ Array.replicate 32 (.int .u8 0)
theorem infoP : (Tryz.prog.info? 35).map (fun i => (i.zero, i.size, i.bytes)) = some (some (.agg zeroP), 37, 96) := by kernel_rfl
theorem infoP_size : (Tryz.prog.info? 35).map (·.size) = some 37 := by kernel_rfl
theorem infoV_size : (Tryz.prog.info? 28).map (·.size) = some 4 := by kernel_rfl
theorem infoK_size : (Tryz.prog.info? 33).map (·.size) = some 32 := by kernel_rfl
/-- append of one pin, that lies in a block of its own. -/
theorem app_pin {w : World} {ops : Array Oper} {rest : List Oper} {o : Oper} {a : Act} {Q : Exit → Act → World → Prop} (hgd : o.guard = none) (s x : Operand)
    (ho : o.op = .call { callee := .builtin .append, args := #[s, x], argTypes := #[25, 25] }) (base : Nat) (v : Value) (L : List Pc) (y : Pc) (b : Nat) (hs : a.eval s = v) (hown : OwnsP w base v L)
    (hx : a.eval x = .slice (some ⟨b, 0, none⟩) 1 1) (hp : w.rangeAt b 0 y.enc) (hb : L.length ≤ 1000000) (hbase : base ≤ w.heap.size)
    (h : ∀ v' w', OwnsP w' base v' (L ++ [y]) → w.grownBy w' v.ownBlock → wpList Tryz.prog ops Q rest (a.put o.dst v') w') : wpList Tryz.prog ops Q (o :: rest) a w := by
  obtain ⟨i0, hi, hz0, hz1, hz2⟩ := info_parts infoP
  refine wpList_append_own w hgd s x 25 ho base 35 i0 _ 37 96 Tryz.underlying25 hi hz0 hz1 hz2 rfl (by decide) v L.length (rowsC L) hs hown ⟨b, 0, none⟩ 1 1 y.enc hx (by rw [enc_len]) ?_ (enc_one y) (by unfold maxLen; omega) (by omega) hbase ?_
  · intro j u hu
    rw [Addr.add_mid]
    exact hp j u hu
  · intro v' w' h7 h8 _
    refine h v' w' ?_ h8
    show World.ownsRow _ _ _ _ _ _ _
    rw [List.length_append, rowsC_snoc]
    exact h7
end Go.Proofs.YthdopcdllggdaaaGreatDoor
namespace Go.Proofs.YthdopcdllggdaaaGreatDoor
open Go.RowKit

def lowB (c : UInt8) : Bool := decide (97 ≤ c.toNat ∧ c.toNat ≤ 122)
def nameB (c : UInt8) : Bool := decide ((97 ≤ c.toNat ∧ c.toNat ≤ 122) ∨ (48 ≤ c.toNat ∧ c.toNat ≤ 57) ∨ c.toNat = 45)
/-- WHICH TEXTS ARE NAMES. -/
def okName (s : ByteArray) : Bool := decide (0 < s.size) && decide (s.size ≤ 32) && lowB (byteAt s 0) && allTo nameB s s.size
theorem nameB_low (c : UInt8) (h : lowB c = true) : nameB c = true := by
  simp only [lowB, nameB, decide_eq_true_eq] at *; exact .inl h
theorem nameB_cases (c : UInt8) : (lowB c = true ∧ 97 ≤ (c.toNat : Int) ∧ (c.toNat : Int) ≤ 122) ∨ (lowB c = false ∧ nameB c = true ∧ 48 ≤ (c.toNat : Int) ∧ (c.toNat : Int) ≤ 57) ∨ (lowB c = false ∧ nameB c = true ∧ c = 45) ∨ (nameB c = false ∧ lowB c = false ∧ ¬ (c.toNat : Int) = 45 ∧ ((c.toNat : Int) < 48 ∨ (57 < (c.toNat : Int) ∧ (c.toNat : Int) < 97) ∨ 122 < (c.toNat : Int))) := by
  simp only [lowB, nameB, decide_eq_true_eq, decide_eq_false_iff_not]
  by_cases h1 : 97 ≤ c.toNat ∧ c.toNat ≤ 122
  · exact .inl ⟨h1, by omega, by omega⟩
  · by_cases h2 : 48 ≤ c.toNat ∧ c.toNat ≤ 57
    · exact .inr (.inl ⟨h1, .inr (.inl h2), by omega, by omega⟩)
    · by_cases h3 : c.toNat = 45
      · exact .inr (.inr (.inl ⟨h1, .inr (.inr h3), UInt8.toNat_inj.1 h3⟩))
      · exact .inr (.inr (.inr ⟨by omega, h1, by omega, by omega⟩))
set_option maxRecDepth 1000000
set_option maxHeartbeats 1000000 in
theorem nameByte_any (c : UInt8) (b : Bool) (w : World) :
    Calls Tryz.prog 76 #[.int .u8 (c.toNat : Int), .bool b] w fun e w' => e = .returned (.bool (nameB c && (lowB c || !b))) ∧ w' = w := by
  have hc := c.toNat_lt
  rcases nameB_cases c with ⟨h1, b1, b2⟩ | ⟨h1, h2, b1, b2⟩ | ⟨h1, h2, rfl⟩ | ⟨h1, h2, b0, h3⟩
  · have e : Hid ((nameB c && (lowB c || !b)) = true) := by show _ = _; rw [nameB_low c h1, h1]; rfl
    clear h1
    go_enter Tryz.func76, Tryz.ntmps76
    go_wp2
    go_ret
    exact ⟨by rw [e.out]; rfl, rfl⟩
  · have e : Hid ((nameB c && (lowB c || !b)) = !b) := by show _ = _; rw [h1, h2]; simp
    have b3 : decide (97 ≤ (c.toNat : Int)) = false := by simp; omega
    clear h1 h2
    go_enter Tryz.func76, Tryz.ntmps76
    go_wp2
    go_ret
    exact ⟨by rw [e.out]; rfl, rfl⟩
  · have e : Hid ((nameB 45 && (lowB 45 || !b)) = !b) := by show _ = _; rw [h1, h2]; simp
    clear h1 h2
    go_enter Tryz.func76, Tryz.ntmps76
    go_wp2
    go_ret
    exact ⟨by rw [e.out]; rfl, rfl⟩
  · have e : Hid ((nameB c && (lowB c || !b)) = false) := by show _ = _; rw [h1]; rfl
    have b9 := beq_no c.toNat 45 (by omega)
    clear h1 h2
    rcases h3 with h3 | ⟨h3, h4⟩ | h3
    · have b3 : decide (97 ≤ (c.toNat : Int)) = false := by simp; omega
      have b4 : decide (48 ≤ (c.toNat : Int)) = false := by simp; omega
      go_enter Tryz.func76, Tryz.ntmps76
      go_wp2
      go_ret
      exact ⟨by rw [e.out]; rfl, rfl⟩
    · have b3 : decide (97 ≤ (c.toNat : Int)) = false := by simp; omega
      have b4 : 48 ≤ (c.toNat : Int) := by omega
      have b5 : decide ((c.toNat : Int) ≤ 57) = false := by simp; omega
      go_enter Tryz.func76, Tryz.ntmps76
      go_wp2
      go_ret
      exact ⟨by rw [e.out]; rfl, rfl⟩
    · have b3 : 97 ≤ (c.toNat : Int) := by omega
      have b6 : decide ((c.toNat : Int) ≤ 122) = false := by simp; omega
      have b4 : 48 ≤ (c.toNat : Int) := by omega
      have b5 : decide ((c.toNat : Int) ≤ 57) = false := by simp; omega
      go_enter Tryz.func76, Tryz.ntmps76
      go_wp2
      go_ret
      exact ⟨by rw [e.out]; rfl, rfl⟩
theorem okName_no (s : ByteArray) (k : Nat) (hk : k < s.size) (h : nameB (byteAt s k) = false) : okName s = false := by
  unfold okName; rw [allTo_not nameB s k s.size hk h]; simp
theorem okName_low (s : ByteArray) (h : lowB (byteAt s 0) = false) : okName s = false := by
  unfold okName; rw [h]; simp
set_option maxHeartbeats 1000000 in
theorem name_any (s : ByteArray) (hs : s.size ≤ 9223372036854775807) (w : World) :
    Calls Tryz.prog 67 #[.string s] w fun e w' => e = .returned (.bool (okName s)) ∧ w' = w := by
  go_enter Tryz.func67, Tryz.ntmps67
  go_wp2
  go_loopw [2, 3, 6] (fun r _ i wr => ∃ k : Nat, k ≤ s.size ∧ i = .int .i64 k ∧ r = .bool false ∧ allTo nameB s k = true ∧ (0 < k → lowB (byteAt s 0) = true) ∧ w = wr) (fun _ _ i _ => s.size - (intOf i).toNat)
  case atStart => exact ⟨0, Nat.zero_le _, rfl, rfl, rfl, fun h => by omega, rfl⟩
  case round =>
    obtain ⟨k, hk, rfl, rfl, ho, hl, rfl⟩ := hrel
    by_cases hlt : k < s.size
    · obtain ⟨c, hc⟩ : ∃ c, byteAt s k = c := ⟨_, rfl⟩
      have hc2 : s[k]'hlt = c := by rw [← byteAt_eq]; exact hc
      have HO := Lib.hid ho
      have HL := Lib.hid hl
      have HC := Lib.hid hc
      have hc3 := c.toNat_lt
      clear ho hc hl
      by_cases h0 : k = 0
      · subst h0
        by_cases hb : lowB c = true
        · have HX := Lib.hid (show allTo nameB s (0 + 1) = true by rw [allTo, HO.out, HC.out, nameB_low c hb]; rfl)
          have HN := Lib.hid (show (nameB c && (lowB c || !true)) = true by rw [nameB_low c hb, hb]; rfl)
          have HB := Lib.hid hb
          clear hb
          go_wp2_with ((with_reducible refine (nameByte_any c true _).mono ?_); rintro ee w1 ⟨rfl, rfl⟩; dsimp only; rw [HN.out])
          go_roundw
          case rel => exact ⟨1, by omega, rfl, rfl, HX.out, fun _ => by rw [HC.out]; exact HB.out, trivial⟩
          case measure => simp [intOf]; omega
        · have hb' : lowB c = false := by simpa using hb
          have e := Lib.hid (okName_low s (by rw [HC.out]; exact hb'))
          have HN := Lib.hid (show (nameB c && (lowB c || !true)) = false by rw [hb']; simp)
          clear hb hb'
          go_wp2_with ((with_reducible refine (nameByte_any c true _).mono ?_); rintro ee w1 ⟨rfl, rfl⟩; dsimp only; rw [HN.out])
          go_ret
          exact ⟨by rw [e.out]; rfl, rfl⟩
      · have hk0 : ((k : Int) == 0) = false := by simp; omega
        have hk1 : ¬ (k : Int) = 0 := by omega
        by_cases hb : nameB c = true
        · have HX := Lib.hid (show allTo nameB s (k + 1) = true by rw [allTo, HO.out, HC.out, hb]; rfl)
          have HN := Lib.hid (show (nameB c && (lowB c || !false)) = true by rw [hb]; simp)
          clear hb
          go_wp2_with ((with_reducible refine (nameByte_any c false _).mono ?_); rintro ee w1 ⟨rfl, rfl⟩; dsimp only; rw [HN.out])
          go_roundw
          case rel => exact ⟨k + 1, by omega, by go_num, rfl, HX.out, fun _ => HL.out (by omega), trivial⟩
          case measure => simp [intOf]; omega
        · have hb' : nameB c = false := by simpa using hb
          have e := Lib.hid (okName_no s k hlt (by rw [HC.out]; exact hb'))
          have HN := Lib.hid (show (nameB c && (lowB c || !false)) = false by rw [hb']; rfl)
          clear hb hb'
          go_wp2_with ((with_reducible refine (nameByte_any c false _).mono ?_); rintro ee w1 ⟨rfl, rfl⟩; dsimp only; rw [HN.out])
          go_ret
          exact ⟨by rw [e.out]; rfl, rfl⟩
    · have hkm : k = s.size := by omega
      subst hkm
      by_cases h0 : s = ⟨#[]⟩
      · have e : Hid (okName s = false) := by show _ = _; unfold okName; rw [h0]; rfl
        subst h0
        clear ho hl
        go_wp2
        go_ret
        exact ⟨by rw [e.out]; rfl, rfl⟩
      · have hpos := size_pos s h0
        have hl2 := hl hpos
        have e : Hid (okName s = decide (s.size ≤ 32)) := by show _ = _; unfold okName; rw [ho, hl2, decide_eq_true hpos]; simp
        have c1 := empty_no s h0
        have d1 := ne_list s [] h0
        clear ho h0 hl hl2
        by_cases h32 : s.size ≤ 32
        · have b : (s.size : Int) ≤ 32 := by omega
          go_wp2
          go_ret
          exact ⟨by rw [e.out]; simp [h32], rfl⟩
        · have b : decide ((s.size : Int) ≤ 32) = false := by simp; omega
          go_wp2
          go_ret
          exact ⟨by rw [e.out]; simp [h32], rfl⟩
set_option maxHeartbeats 2000000 in
theorem refName_any (s : ByteArray) (hs : s.size ≤ 9223372036854775807) (w : World) :
    Calls Tryz.prog 31 #[.string s] w fun e w' => e = .returned (.bool (okName s)) ∧ w' = w := by
  by_cases h0 : s = ⟨#[]⟩
  · have e : Hid (okName s = false) := by show _ = _; unfold okName; rw [h0]; rfl
    subst h0
    go_enter Tryz.func31, Tryz.ntmps31
    go_wp2
    go_ret
    exact ⟨by rw [e.out]; rfl, rfl⟩
  have hpos := size_pos s h0
  have b1 : decide ((s.size : Int) < 1) = false := by simp; omega
  by_cases h32 : 32 < s.size
  · have e : Hid (okName s = false) := by show _ = _; unfold okName; rw [decide_eq_false (by omega : ¬ s.size ≤ 32)]; simp
    have b2 : 32 < (s.size : Int) := by omega
    clear h0 h32 hpos
    go_enter Tryz.func31, Tryz.ntmps31
    go_wp2
    go_ret
    exact ⟨by rw [e.out]; rfl, rfl⟩
  have b2 : decide (32 < (s.size : Int)) = false := by simp; omega
  obtain ⟨z, hz⟩ : ∃ z, byteAt s 0 = z := ⟨_, rfl⟩
  have hz2 : s[0]'hpos = z := by rw [← byteAt_eq]; exact hz
  have hz3 := z.toNat_lt
  by_cases hlz : lowB z = true
  · have hok : Hid (okName s = allTo nameB s s.size) := by show _ = _; unfold okName; rw [hz, hlz, decide_eq_true hpos, decide_eq_true (by omega : s.size ≤ 32)]; simp
    simp only [lowB, decide_eq_true_eq] at hlz
    have b3 : decide ((z.toNat : Int) < 97) = false := by simp; omega
    have b4 : decide (122 < (z.toNat : Int)) = false := by simp; omega
    clear h0 h32 hz hlz
    go_enter Tryz.func31, Tryz.ntmps31
    go_wp2
    clear hz2 b3 b4
    go_loopw [2, 3, 4] (fun r i _ wr => ∃ k : Nat, k ≤ s.size ∧ i = .int .i64 k ∧ r = .bool false ∧ allTo nameB s k = true ∧ w = wr) (fun _ i _ _ => s.size - (intOf i).toNat)
    case atStart => exact ⟨0, Nat.zero_le _, rfl, rfl, rfl, rfl⟩
    case round =>
      obtain ⟨k, hk, rfl, rfl, ho, rfl⟩ := hrel
      by_cases hlt : k < s.size
      · obtain ⟨c, hc⟩ : ∃ c, byteAt s k = c := ⟨_, rfl⟩
        have hc2 : s[k]'hlt = c := by rw [← byteAt_eq]; exact hc
        have HO := Lib.hid ho
        have HC := Lib.hid hc
        have hc3 := c.toNat_lt
        clear ho hc
        rcases nameB_cases c with ⟨h1, b5, b6⟩ | ⟨h1, h2, b5, b6⟩ | ⟨h1, h2, rfl⟩ | ⟨h1, h2, b0, h3⟩
        · have HX := Lib.hid (show allTo nameB s (k + 1) = true by rw [allTo, HO.out, HC.out, nameB_low c h1]; rfl)
          clear h1
          go_wp2
          go_roundw
          case rel => exact ⟨k + 1, by omega, by go_num, rfl, HX.out, trivial⟩
          case measure => simp [intOf]; omega
        · have HX := Lib.hid (show allTo nameB s (k + 1) = true by rw [allTo, HO.out, HC.out, h2]; rfl)
          have b7 : decide (97 ≤ (c.toNat : Int)) = false := by simp; omega
          clear h1 h2
          go_wp2
          go_roundw
          case rel => exact ⟨k + 1, by omega, by go_num, rfl, HX.out, trivial⟩
          case measure => simp [intOf]; omega
        · have HX := Lib.hid (show allTo nameB s (k + 1) = true by rw [allTo, HO.out, HC.out, h2]; rfl)
          clear h1 h2
          go_wp2
          go_roundw
          case rel => exact ⟨k + 1, by omega, by go_num, rfl, HX.out, trivial⟩
          case measure => simp [intOf]; omega
        · have e := Lib.hid (okName_no s k hlt (by rw [HC.out]; exact h1))
          have b9 := beq_no c.toNat 45 (by omega)
          clear h1 h2
          rcases h3 with h3 | ⟨h3, h4⟩ | h3
          · have b3 : decide (97 ≤ (c.toNat : Int)) = false := by simp; omega
            have b4 : decide (48 ≤ (c.toNat : Int)) = false := by simp; omega
            go_wp2
            go_ret
            exact ⟨by rw [e.out]; rfl, rfl⟩
          · have b3 : decide (97 ≤ (c.toNat : Int)) = false := by simp; omega
            have b4 : 48 ≤ (c.toNat : Int) := by omega
            have b5 : decide ((c.toNat : Int) ≤ 57) = false := by simp; omega
            go_wp2
            go_ret
            exact ⟨by rw [e.out]; rfl, rfl⟩
          · have b3 : 97 ≤ (c.toNat : Int) := by omega
            have b6 : decide ((c.toNat : Int) ≤ 122) = false := by simp; omega
            have b4 : 48 ≤ (c.toNat : Int) := by omega
            have b5 : decide ((c.toNat : Int) ≤ 57) = false := by simp; omega
            go_wp2
            go_ret
            exact ⟨by rw [e.out]; rfl, rfl⟩
      · have hkm : k = s.size := by omega
        subst hkm
        have e := Lib.hid (hok.out.trans ho)
        clear ho
        go_wp2
        go_ret
        exact ⟨by rw [e.out]; rfl, rfl⟩
  · have hlz' : lowB z = false := by simpa using hlz
    have e := Lib.hid (okName_low s (by rw [hz]; exact hlz'))
    have h3 : (z.toNat : Int) < 97 ∨ (decide ((z.toNat : Int) < 97) = false ∧ 122 < (z.toNat : Int)) := by
      simp only [lowB, decide_eq_false_iff_not] at hlz'
      by_cases h : (z.toNat : Int) < 97
      · exact .inl h
      · exact .inr ⟨decide_eq_false h, by omega⟩
    clear h0 h32 hz hlz hlz'
    rcases h3 with h3 | ⟨h3, h4⟩
    · go_enter Tryz.func31, Tryz.ntmps31
      go_wp2
      go_ret
      exact ⟨by rw [e.out]; rfl, rfl⟩
    · go_enter Tryz.func31, Tryz.ntmps31
      go_wp2
      go_ret
      exact ⟨by rw [e.out]; rfl, rfl⟩
end Go.Proofs.YthdopcdllggdaaaGreatDoor
namespace Go.Proofs.YthdopcdllggdaaaGreatDoor
open Go.RowKit

def lessB (x y : ByteArray) : Bool := Op.bytesLess x.toList y.toList
/-- Texts in order of their bytes. -/
def cmpB (x y : ByteArray) : Int := if lessB x y = true then -1 else if x = y then 0 else 1
theorem less_self (l : List UInt8) : Op.bytesLess l l = false := by
  induction l with
  | nil => rfl
  | cons a l ih => simp [Op.bytesLess, ih]
/-- The three ways. -/
theorem cmpB_ways (x y : ByteArray) : (Op.bytesLess x.toList y.toList = true ∧ cmpB x y = -1) ∨ (x = y ∧ cmpB x y = 0) ∨ (Op.bytesLess x.toList y.toList = false ∧ (x.toList == y.toList) = false ∧ ¬ x.toList = y.toList ∧ cmpB x y = 1) := by
  unfold cmpB lessB
  cases h : Op.bytesLess x.toList y.toList with
  | true => exact .inl ⟨rfl, rfl⟩
  | false =>
    by_cases he : x = y
    · exact .inr (.inl ⟨he, by rw [if_neg (by simp), if_pos he]⟩)
    · exact .inr (.inr ⟨rfl, nb_lists x y he, ne_lists x y he, by rw [if_neg (by simp), if_neg he]⟩)
set_option maxRecDepth 1000000
theorem isNaN_any (s : ByteArray) (w : World) : Calls Tryz.prog 39 #[.string s] w fun e w' => e = .returned (.bool false) ∧ w' = w := by
  go_enter Tryz.func39, Tryz.ntmps39
  go_wp2
  go_ret
  exact ⟨rfl, rfl⟩
set_option maxHeartbeats 1000000 in
theorem cmpS_any (x y : ByteArray) (w : World) : Calls Tryz.prog 21 #[.string x, .string y] w fun e w' => e = .returned (.int .i64 (cmpB x y)) ∧ w' = w := by
  rcases cmpB_ways x y with ⟨h1, h2⟩ | ⟨rfl, h2⟩ | ⟨h1, h3, h4, h2⟩
  · rw [h2]
    clear h2
    go_enter Tryz.func21, Tryz.ntmps21
    go_wp2_with ((with_reducible refine (isNaN_any _ _).mono ?_); rintro ee w1 ⟨rfl, rfl⟩; dsimp only)
    go_ret
    exact ⟨rfl, rfl⟩
  · rw [h2]
    clear h2
    have h1 := less_self x.toList
    go_enter Tryz.func21, Tryz.ntmps21
    go_wp2_with ((with_reducible refine (isNaN_any _ _).mono ?_); rintro ee w1 ⟨rfl, rfl⟩; dsimp only)
    go_ret
    exact ⟨rfl, rfl⟩
  · rw [h2]
    clear h2
    go_enter Tryz.func21, Tryz.ntmps21
    go_wp2_with ((with_reducible refine (isNaN_any _ _).mono ?_); rintro ee w1 ⟨rfl, rfl⟩; dsimp only)
    go_ret
    exact ⟨rfl, rfl⟩
set_option maxHeartbeats 2000000 in
/-- Two pins held against one another by name: two blocks are laid. -/
theorem byName_any (p q : Pc) (W : World) : Calls Tryz.prog 20 #[.agg p.enc.toArray, .agg q.enc.toArray] W fun e w' => e = .returned (.int .i64 (cmpB p.name q.name)) ∧ ∃ n os, w' = Sort.grow (W.drewN n) os := by
  have hp : p.enc.toArray[0]? = some (.string p.name) := rfl
  have hq : q.enc.toArray[0]? = some (.string q.name) := rfl
  obtain ⟨x, hx⟩ : ∃ x, p.name = x := ⟨_, rfl⟩
  obtain ⟨y, hy⟩ : ∃ y, q.name = y := ⟨_, rfl⟩
  obtain ⟨C, hC⟩ : ∃ C, p.enc.toArray = C := ⟨_, rfl⟩
  obtain ⟨D, hD⟩ : ∃ D, q.enc.toArray = D := ⟨_, rfl⟩
  rw [hx, hC] at hp
  rw [hy, hD] at hq
  rw [hx, hy, hC, hD]
  clear hx hy hC hD
  have c1 : ((W.alloc (.cells C 35)).alloc (.cells D 35)).cell? ⟨W.heap.size, 0, none⟩ = some (.string x) := by
    rw [← hp]
    exact (World.cell?_of_block ((World.grownBy_alloc _ _ none).block _ (by rw [alloc_size]; exact Nat.lt_succ_self _) (by simp))).trans (alloc_cell _ _ _ _)
  have c2 : ((W.alloc (.cells C 35)).alloc (.cells D 35)).cell? ⟨W.heap.size + 1, 0, none⟩ = some (.string y) := by
    rw [← hq, ← alloc_size W (.cells C 35)]; exact alloc_cell _ _ _ _
  have HC := Lib.hid (cmpS_any x y)
  clear hp hq
  go_enter Tryz.func20, Tryz.ntmps20
  go_wp2_with ((with_reducible refine (HC.out _).mono ?_); rintro ee w1 ⟨rfl, rfl⟩; dsimp only)
  go_ret
  exact ⟨rfl, 0, _, by rw [Sort.alloc_eq_grow, Sort.alloc_eq_grow, Sort.grow_grow]; rfl⟩
theorem cmpLays_name (blk off size : Nat) (w : World) : Go.Proofs.CmpLays Tryz.prog 20 #[] Pc.enc 37 (fun x y => cmpB x.name y.name) blk off size w :=
  fun _ _ _ _ x y => byName_any x y _
end Go.Proofs.YthdopcdllggdaaaGreatDoor
namespace Go.Proofs.YthdopcdllggdaaaGreatDoor
open Go.RowKit Go.Sort

def lessP (x y : Pc) : Bool := lessB x.name y.name
/-- x put into a list that is turned round: behind all that are above it. -/
def rins (x : Pc) : List Pc → List Pc
  | [] => [x]
  | y :: r => if lessP x y = true then y :: rins x r else x :: y :: r
def insP (A : List Pc) (x : Pc) : List Pc := (rins x A.reverse).reverse
/-- PINS BY NAME, EQUAL ONES AS THEY STAND. -/
def sortP (L : List Pc) : List Pc := L.foldl insP []
theorem lt_is (x y : Pc) : ltOf (fun x y : Pc => cmpB x.name y.name) x y = lessP x y := by
  show decide (cmpB x.name y.name < 0) = lessB x.name y.name
  rcases cmpB_ways x.name y.name with ⟨h1, h2⟩ | ⟨h1, h2⟩ | ⟨h1, _, _, h2⟩
  · rw [h2]; unfold lessB; rw [h1]; rfl
  · rw [h2]; unfold lessB; rw [h1, less_self]; rfl
  · rw [h2]; unfold lessB; rw [h1]; rfl
theorem lt_eq : ltOf (fun x y : Pc => cmpB x.name y.name) = lessP := by funext x y; exact lt_is x y
theorem rins_len (x : Pc) (L : List Pc) : (rins x L).length = L.length + 1 := by
  induction L with
  | nil => rfl
  | cons y r ih => unfold rins; split <;> simp [ih]
theorem insP_len (A : List Pc) (x : Pc) : (insP A x).length = A.length + 1 := by simp [insP, rins_len]
theorem fold_len (R : List Pc) (A : List Pc) : (R.foldl insP A).length = A.length + R.length := by
  induction R generalizing A with
  | nil => rfl
  | cons x R ih => rw [List.foldl_cons, ih, insP_len, List.length_cons]; omega
theorem sortP_len (L : List Pc) : (sortP L).length = L.length := by unfold sortP; rw [fold_len]; simp
theorem rins_perm (x : Pc) (L : List Pc) : (rins x L).Perm (x :: L) := by
  induction L with
  | nil => exact List.Perm.refl _
  | cons y r ih =>
    unfold rins
    split
    · exact (ih.cons y).trans (List.Perm.swap x y r)
    · exact List.Perm.refl _
theorem insP_perm (A : List Pc) (x : Pc) : (insP A x).Perm (x :: A) := by
  unfold insP
  exact (List.reverse_perm _).trans ((rins_perm x A.reverse).trans ((List.reverse_perm A).cons x))
theorem fold_perm (R : List Pc) (A : List Pc) : (R.foldl insP A).Perm (A ++ R) := by
  induction R generalizing A with
  | nil => simp
  | cons x R ih =>
    rw [List.foldl_cons]
    refine (ih (insP A x)).trans (((insP_perm A x).append_right R).trans ?_)
    exact List.perm_middle.symm
theorem sortP_perm (L : List Pc) : (sortP L).Perm L := by
  have := fold_perm L []
  simpa [sortP] using this
theorem sortP_mem (L : List Pc) (p : Pc) : p ∈ sortP L ↔ p ∈ L := (sortP_perm L).mem_iff

theorem arr_at (d : Array Pc) (P : List Pc) (x : Pc) (S : List Pc) (h : d.toList = P ++ x :: S) : d[P.length]! = x := by
  have hs : P.length < d.size := by rw [← Array.length_toList, h]; simp
  rw [getElem!_pos d _ hs, ← Array.getElem_toList]
  simp [h]
theorem swp_list (d : Array Pc) (r : List Pc) (x y : Pc) (S : List Pc) (h : d.toList = r ++ y :: x :: S) : (swp d (r.length + 1) r.length).toList = r ++ x :: y :: S := by
  have h1 : d[r.length]! = y := arr_at d r y (x :: S) h
  have h2 : d[r.length + 1]! = x := by
    have := arr_at d (r ++ [y]) x S (by simp [h])
    simpa using this
  unfold swp
  rw [h1, h2, Array.toList_setIfInBounds, Array.toList_setIfInBounds, h]
  rw [List.set_append_right _ _ (by omega), Nat.add_sub_cancel_left]
  simp [List.set_cons_succ, List.set_cons_zero, List.set_append_right]
theorem inner_list : ∀ (P : List Pc) (x : Pc) (S : List Pc) (d : Array Pc), d.toList = P.reverse ++ x :: S → (insInner lessP 0 P.length d).toList = (rins x P).reverse ++ S := by
  intro P
  induction P with
  | nil =>
    intro x S d h
    simpa [insInner, rins] using h
  | cons y r ih =>
    intro x S d h
    have h' : d.toList = r.reverse ++ y :: x :: S := by simpa using h
    have h1 : d[r.length]! = y := by have := arr_at d r.reverse y (x :: S) h'; simpa using this
    have h2 : d[r.length + 1]! = x := by
      have := arr_at d (r.reverse ++ [y]) x S (by simp [h'])
      simpa using this
    rw [List.length_cons]
    unfold insInner rins
    rw [h1, h2]
    have hgt : decide (r.length + 1 > 0) = true := by simp
    by_cases hl : lessP x y = true
    · rw [if_pos (by simp [hl]), if_pos hl]
      have hs := swp_list d r.reverse x y S h'
      rw [List.length_reverse] at hs
      rw [ih x (y :: S) _ hs]
      simp
    · rw [if_neg (by simp [hl]), if_neg hl, h']
      simp
theorem outer_list (n : Nat) : ∀ (R A : List Pc) (d : Array Pc), d.toList = A ++ R → n = A.length + R.length → (insOuter lessP 0 n A.length d).toList = R.foldl insP A := by
  intro R
  induction R with
  | nil =>
    intro A d h hn
    unfold insOuter
    rw [if_neg (by simp at hn; omega)]
    simpa using h
  | cons x R ih =>
    intro A d h hn
    unfold insOuter
    rw [List.length_cons] at hn
    rw [if_pos (by omega), List.foldl_cons]
    have h1 := inner_list A.reverse x R d (by simpa using h)
    rw [List.length_reverse] at h1
    have h2 := ih (insP A x) (insInner lessP 0 A.length d) (by rw [h1]; rfl) (by rw [insP_len]; omega)
    rw [insP_len] at h2
    exact h2
theorem sort_list (d : Array Pc) : (insertionSort lessP d 0 d.size).toList = sortP d.toList := by
  unfold insertionSort
  cases h : d.toList with
  | nil =>
    have : d.size = 0 := by rw [← Array.length_toList, h]; rfl
    unfold insOuter
    rw [if_neg (by omega), h]; rfl
  | cons x R =>
    have hs : d.size = R.length + 1 := by rw [← Array.length_toList, h]; rfl
    have := outer_list d.size R [x] d (by simpa using h) (by simp [hs]; omega)
    simpa [sortP, insP, rins] using this

/-- In order: none is above one behind it. -/
def OrdP (L : List Pc) : Prop := ∀ (i j : Nat) (x y : Pc), i < j → L[i]? = some x → L[j]? = some y → lessP y x = false
theorem insP_last (A : List Pc) (x : Pc) (h : ∀ y ∈ A, lessP x y = false) : insP A x = A ++ [x] := by
  unfold insP
  cases hr : A.reverse with
  | nil => have : A = [] := by simpa using hr
           rw [this]; rfl
  | cons y r =>
    have hy : y ∈ A := by rw [← List.mem_reverse, hr]; simp
    unfold rins
    rw [if_neg (by rw [h y hy]; simp), ← hr]
    simp
theorem fold_ord (R : List Pc) (A : List Pc) (h : OrdP (A ++ R)) : R.foldl insP A = A ++ R := by
  induction R generalizing A with
  | nil => simp
  | cons x R ih =>
    rw [List.foldl_cons, insP_last A x (fun y hy => by
      obtain ⟨i, hi, e⟩ := List.mem_iff_getElem.1 hy
      refine h i A.length y x hi ?_ ?_
      · rw [List.getElem?_append_left hi, List.getElem?_eq_getElem hi, e]
      · simp), ih (A ++ [x]) (by simpa using h)]
    simp
theorem sortP_ord (L : List Pc) (h : OrdP L) : sortP L = L := by
  have := fold_ord L [] (by simpa using h)
  simpa [sortP] using this
theorem arr_get (d : Array Pc) (i : Nat) (h : i < d.size) : d.toList[i]? = some d[i]! := by
  rw [getElem!_pos d i h, Array.getElem?_toList, Array.getElem?_eq_getElem h]
theorem outer_ord (d : Array Pc) (h : OrdP d.toList) (a b : Nat) (hb : b ≤ d.size) : ∀ (k i : Nat), k = b - i → a < i → insOuter lessP a b i d = d := by
  intro k
  induction k with
  | zero => intro i hk _; unfold insOuter; rw [if_neg (by omega)]
  | succ k ih =>
    intro i hk hi
    unfold insOuter
    rw [if_pos (by omega)]
    have e : insInner lessP a i d = d := by
      obtain ⟨j, rfl⟩ : ∃ j, i = j + 1 := ⟨i - 1, by omega⟩
      unfold insInner
      rw [h j (j + 1) d[j]! d[j + 1]! (by omega) (arr_get d j (by omega)) (arr_get d (j + 1) (by omega))]
      simp
    rw [e]
    exact ih (i + 1) (by omega) (by omega)
theorem sort_ord (d : Array Pc) (h : OrdP d.toList) (a b : Nat) (hb : b ≤ d.size) : insertionSort lessP d a b = d := by
  unfold insertionSort
  exact outer_ord d h a b hb _ (a + 1) rfl (by omega)
end Go.Proofs.YthdopcdllggdaaaGreatDoor
namespace Go.Proofs.YthdopcdllggdaaaGreatDoor
open Go.RowKit Go.Shelf
attribute [local go_sem] Oper.semAt_some

section
variable {F : Fence} {n : Nat} {P : Program} {ops : Array Oper} {Q : Exit → Act → World → Prop} {a : Act} {w : World} {rest : List Oper} {o : Oper}
theorem in_load_mid (hgd : o.guard = none) (ty : TypeId) (x : Operand) (ho : o.op = .load ty x)
    (b k : Nat) (hx : a.eval x = .pointer (some ⟨b, k, none⟩)) (cs : List Value) (d : TypeDesc) (hc : w.rangeAt b k cs)
    (hu : P.underlying ty = some d) (hd : d.isRow = true) (hi : (P.info? ty).map (·.size) = some cs.length)
    (h : wpListIn F n P ops Q rest (a.put o.dst (.agg cs.toArray)) w) : wpListIn F n P ops Q (o :: rest) a w := by
  refine wpListIn_plain hgd fun K hK => ?_
  unfold Oper.wpIn
  refine ⟨?_, ?_⟩
  · simp [Oper.about, ho]
  · rw [Oper.semAt_plain F _ _ (by rw [ho]; intro c hc'; cases hc')]
    unfold execOp
    simp only [ho, hx, Instr.loadAt, Instr.sureAddr, Sem.run_bind, Sem.run_pure, Result.andThen_ok, run_loadVar_mid w b k ty cs d hc hu hd hi]
    exact hK _ _ h
theorem in_load_row (hgd : o.guard = none) (ty : TypeId) (x : Operand) (ho : o.op = .load ty x)
    (g : Nat) (hx : a.eval x = .pointer (some ⟨g, 0, none⟩)) (t : TypeId) (cs : Array Value) (fr : Nat × Nat) (d : TypeDesc) (hg : w.heap[g]? = some (.cells cs t fr))
    (hu : P.underlying ty = some d) (hd : (match d with | .struct _ | .array _ _ => true | _ => false) = true) (hi : (P.info? ty).map (·.size) = some cs.size)
    (h : wpListIn F n P ops Q rest (a.put o.dst (.agg cs)) w) : wpListIn F n P ops Q (o :: rest) a w := by
  refine wpListIn_plain hgd fun K hK => ?_
  unfold Oper.wpIn
  refine ⟨?_, ?_⟩
  · simp [Oper.about, ho]
  · rw [Oper.semAt_plain F _ _ (by rw [ho]; intro c hc'; cases hc')]
    unfold execOp
    simp only [ho, hx, Instr.loadAt, Instr.sureAddr, Sem.run_bind, Sem.run_pure, Result.andThen_ok, run_loadVar_row w g t ty cs fr d hg hu hd hi]
    exact hK _ _ h
theorem in_store_row (hgd : o.guard = none) (ty : TypeId) (x y : Operand) (ho : o.op = .store ty x y)
    (g : Nat) (cells : Array Value) (hx : a.eval x = .pointer (some ⟨g, 0, none⟩)) (hy : a.eval y = .agg cells)
    (t : TypeId) (old : Array Value) (hg : w.heap[g]? = some (.cells old t (0, 0))) (hi : (P.info? ty).map (·.size) = some cells.size)
    (hold : old.size = cells.size) (h1 : cells.all (·.oneCell') = true)
    (h : wpListIn F n P ops Q rest (a.put o.dst undef) (w.setRow g cells)) : wpListIn F n P ops Q (o :: rest) a w := by
  refine wpListIn_plain hgd fun K hK => ?_
  unfold Oper.wpIn
  refine ⟨?_, ?_⟩
  · simp [Oper.about, ho]
  · rw [Oper.semAt_plain F _ _ (by rw [ho]; intro c hc'; cases hc')]
    unfold execOp
    simp only [ho, hx, hy, Instr.storeAt, Instr.sureAddr, Sem.run_bind, Sem.run_pure, Result.andThen_ok, run_storeVar_row w g t ty old cells hg hi hold h1]
    exact hK _ _ h
end
theorem setRow_heap (W : World) (b : Nat) (B C : Array Value) (t : TypeId) (f : Nat × Nat) (h : W.heap[b]? = some (.cells B t f)) : (W.setRow b C).heap[b]? = some (.cells C t f) := by
  obtain ⟨hlt, hk⟩ := Array.getElem?_eq_some_iff.1 h
  unfold World.setRow
  show (W.heap.modify b _)[b]? = _
  rw [Array.getElem?_eq_getElem (by rw [Array.size_modify]; exact hlt), Array.getElem_modify_self, hk]
theorem setRow_grown (W : World) (b : Nat) (C : Array Value) : W.grownBy (W.setRow b C) (some b) :=
  ⟨rfl, rfl, rfl, by simp [World.setRow], fun k _ hk => by
    have : ¬ b = k := fun e => hk (by rw [e])
    simp [World.setRow, Array.getElem?_modify, this]⟩
theorem enc_all (p : Pc) : p.enc.toArray.all (·.oneCell') = true := Array.all_eq_true_iff_forall_mem.2 (fun v hv => enc_one p v (by simpa using hv))
theorem zeroPin (W : World) : (zeroValue 35).run Tryz.prog W = .ok (.agg zeroP) W := by kernel_rfl
theorem zeroP_size : zeroP.size = 37 := by simp [zeroP]
theorem zeroP_cells : (Value.agg zeroP).cells.size = 37 := zeroP_size
theorem fold_set (l : List Value) : ∀ (k : Nat) (Z : Array Value), k + l.length ≤ Z.size → ((l.zipIdx k).foldl (fun cs x => cs.setIfInBounds (0 + x.2) x.1) Z).toList = Z.toList.take k ++ l ++ Z.toList.drop (k + l.length) := by
  induction l with
  | nil => intro k Z h; simp
  | cons v l ih =>
    intro k Z h
    rw [List.length_cons] at h
    rw [List.zipIdx_cons, List.foldl_cons, ih (k + 1) _ (by simp; omega)]
    simp only [Nat.zero_add, Array.toList_setIfInBounds, List.length_cons]
    have hk : k < Z.toList.length := by simp; omega
    rw [List.take_set, List.drop_set_of_lt (by omega), show k + (l.length + 1) = k + 1 + l.length by omega]
    have e : (Z.toList.take (k + 1)).set k v = Z.toList.take k ++ [v] := by
      have hl : (Z.toList.take k).length = k := by rw [List.length_take]; omega
      rw [List.take_add_one, List.getElem?_eq_getElem hk, List.set_append_right _ _ (by omega), hl, Nat.sub_self]
      rfl
    rw [e]
    simp
theorem fill_one (n : Nat) (Z C : Array Value) (hz : Z.size = n) (hC : C.size = n) : Instr.fill (fun i => some (i * n, n)) Z [(0, .agg C)] = some C := by
  unfold Instr.fill
  simp only [Nat.zero_mul]
  have h1 : (Value.agg C).cells = C := rfl
  rw [h1, if_neg (by simp [hz, hC])]
  unfold Instr.fill
  congr 1
  have h2 := fold_set C.toList 0 Z (by simp [hz, hC])
  rw [← Array.foldl_toList, Array.toList_zipIdx]
  apply Array.ext'
  rw [List.take_zero, List.nil_append, Nat.zero_add, List.drop_eq_nil_of_le (by simp [hz, hC]), List.append_nil] at h2
  exact h2
section
variable {ops : Array Oper} {Q : Exit → Act → World → Prop} {a : Act} {w : World} {rest : List Oper} {o : Oper}
/-- A slice of one pin. -/
theorem slice_pin (hg : o.guard = none) (x : Operand) (ho : o.op = .buildSlice 25 1 #[(0, x)]) (C : Array Value) (hC : C.size = 37) (hx : a.eval x = .agg C)
    (h : wpList Tryz.prog ops Q rest (a.put o.dst (.slice (some ⟨w.heap.size, 0, none⟩) 1 1)) (w.alloc (.cells C 35))) : wpList Tryz.prog ops Q (o :: rest) a w := by
  obtain ⟨i0, hi, hz0, hz1, hz2⟩ := info_parts infoP
  refine wpList_buildSlice hg 25 35 1 #[(0, x)] ho C i0 _ Tryz.underlying25 hi hz0 (by rw [hz1]; decide) (by rw [hz1]; decide) ?_ h
  rw [hz1]
  simp only [List.map_toArray, List.map_cons, List.map_nil, hx]
  exact fill_one 37 _ C (by simp) hC
theorem in_slice_pin {F : Fence} {n : Nat} (hg : o.guard = none) (x : Operand) (ho : o.op = .buildSlice 25 1 #[(0, x)]) (C : Array Value) (hC : C.size = 37) (hx : a.eval x = .agg C)
    (h : wpListIn F n Tryz.prog ops Q rest (a.put o.dst (.slice (some ⟨w.heap.size, 0, none⟩) 1 1)) (w.alloc (.cells C 35))) : wpListIn F n Tryz.prog ops Q (o :: rest) a w := by
  obtain ⟨i0, hi, hz0, hz1, hz2⟩ := info_parts infoP
  have hr : (Instr.buildSlice 25 1 #[(0, a.eval x)]).run Tryz.prog w = .ok (.slice (some ⟨w.heap.size, 0, none⟩) 1 1) (w.alloc (.cells C 35)) := by
    refine run_buildSlice w 25 35 1 #[(0, a.eval x)] C i0 _ Tryz.underlying25 hi hz0 (by rw [hz1]; decide) (by rw [hz1]; decide) ?_
    rw [hz1, hx]
    exact fill_one 37 _ C (by simp) hC
  refine wpListIn_plain hg fun K hK => ?_
  unfold Oper.wpIn
  refine ⟨?_, ?_⟩
  · simp [Oper.about, ho]
  · rw [Oper.semAt_plain F _ _ (by rw [ho]; intro c hc'; cases hc')]
    unfold execOp
    simp only [ho, Sem.run_bind]
    simp only [List.map_toArray, List.map_cons, List.map_nil, hr, Result.andThen_ok]
    exact hK _ _ h
end
end Go.Proofs.YthdopcdllggdaaaGreatDoor
namespace Go.Proofs.YthdopcdllggdaaaGreatDoor
open Go.RowKit Go.Shelf
attribute [local go_sem] Oper.semAt_some

def pinV (p : Pc) : Array Value := #[.agg p.enc.toArray]
set_option maxRecDepth 1000000
set_option maxHeartbeats 8000000 in
theorem vals1_in (F : Fence) (m : Nat) (hF : F.fn 42) (hro : F.round = none) (hm : 1 ≤ m) (l Bs n0 n cap : Nat) (a : Option Addr) (L : List Pc) (hn : L.length = n) (hn2 : n ≤ 1000000) (J Jx : List Pc → World → Prop) (W : World)
    (hJ : AbidesFrom W.heap.size J) (hY : ∀ pre x W1, J pre W1 → pre.length < n → YieldAt F (m - 1) Tryz.prog l (pinV x) W1 fun e W' =>
      (e = .returned (.bool true) ∧ J (pre ++ [x]) W' ∧ Below n0 W1 W') ∨ (e = .returned (.bool false) ∧ Jx (pre ++ [x]) W'))
    (hBs : W.cell? ⟨Bs, 0, none⟩ = some (.slice a n cap)) (hP : PartP W n0 (.slice a n cap) L) (hnw : n0 ≤ W.heap.size) (h0 : J [] W) :
    CallsIn F m Tryz.prog 42 #[.func (.yield l) #[] #[], .pointer (some ⟨Bs, 0, none⟩)] W fun e W' => (∃ v, e = .returned v) ∧
      ((∃ ys, ys = L ∧ J ys W') ∨ (∃ pre, True ∧ Jx pre W')) := by
  have hz := zeroPin
  have hzs := zeroP_size
  obtain ⟨Z, hZ⟩ : ∃ Z, zeroP = Z := ⟨_, rfl⟩
  rw [hZ] at hz hzs
  have HZS := Lib.hid hzs
  have HN := Lib.hid hn
  have HP := Lib.hid hP
  have HJ := Lib.hid hJ
  have HY := Lib.hid hY
  have HNW := Lib.hid hnw
  clear hZ hzs hn hP hJ hY hnw
  refine callsIn_of_wp Tryz.func42 rfl hF ?_ hro
  simp only [Tryz.ntmps42, List.size_toArray, List.length_cons, List.length_nil, Nat.reduceAdd, Nat.reduceSub, Array.replicate_succ, Array.replicate_zero, List.push_toArray, List.append_toArray, List.nil_append, List.cons_append]
  gi_wp2
  gi_loopw [7] (fun i wr => ∃ k : Nat, k ≤ n ∧ i = .int .i64 k ∧ Hid (J (L.take k) wr ∧ Below n0 W wr)) (fun i _ => n - (intOf i).toNat)
  case atStart => exact ⟨0, Nat.zero_le _, rfl, Lib.hid ⟨by simpa using h0, Below.refl _ _⟩⟩
  case round =>
    obtain ⟨k, hk, rfl, HR⟩ := hrel
    by_cases hlt : k < n
    · obtain ⟨x, hx⟩ : ∃ x, L[k]? = some x := ⟨_, List.getElem?_eq_getElem (by rw [HN.out]; exact hlt)⟩
      obtain ⟨b, o, hab, hb, hrg⟩ := HP.out.at k x hx
      subst hab
      have hrg2 : wr.rangeAt b (o + k * 37) x.enc := fun j v hj => (HR.out.2.cell (p := ⟨b, o + k * 37 + j, none⟩) hb).trans (hrg j v hj)
      have HRG := Lib.hid hrg2
      have HTK : Hid (L.take (k + 1) = L.take k ++ [x]) := Lib.hid (by rw [List.take_add_one, hx]; rfl)
      have HAL := Lib.hid (enc_all x)
      have HSZ : Hid (x.enc.toArray.size = 37) := Lib.hid (by rw [List.size_toArray, enc_len])
      have HI : Hid ((Tryz.prog.info? 35).map (·.size) = some x.enc.length) := Lib.hid (by rw [enc_len]; exact infoP_size)
      clear hrg hrg2 hx
      obtain ⟨C, hC⟩ : ∃ C, x.enc.toArray = C := ⟨_, rfl⟩
      have HC := Lib.hid hC
      rw [hC] at HAL HSZ
      have HI2 : Hid ((Tryz.prog.info? 35).map (·.size) = some C.size) := Lib.hid (by rw [HSZ.out]; exact infoP_size)
      clear hC
      have HG2 : Hid (wr.grownBy ((wr.alloc (.cells Z 35)).setRow wr.heap.size C) none) := Lib.hid (grown_new (World.grownBy_alloc wr _ none) (setRow_grown _ _ _) (Nat.le_refl _))
      have HJ2 := Lib.hid (HJ.out _ _ _ none HR.out.1 HG2.out (fun r e => by cases e))
      obtain ⟨fn, tmps, assign, body, hy, hR⟩ := HY.out _ x _ HJ2.out (by rw [List.length_take, HN.out]; omega)
      unfold pinV at hy
      rw [HC.out] at hy
      have HRR := Lib.hid hR
      clear hR
      have HB2 : Hid (Below n0 W ((wr.alloc (.cells Z 35)).setRow wr.heap.size C)) := Lib.hid (HR.out.2.grown HG2.out (by have := HR.out.2.size; have := HNW.out; omega) (fun k e => by cases e))
      gi_wp2_with (first
        | ((with_reducible refine in_load_mid (o := ⟨some 10, _, _, _, _, _⟩) rfl 35 _ rfl b (o + k * 37) ?_ x.enc _ HRG.out Tryz.underlying35 ?_ HI.out ?_); (rfl); (rfl); (rw [HC.out]))
        | ((with_reducible refine in_store_row (o := ⟨none, _, _, _, _, _⟩) rfl 35 _ _ rfl wr.heap.size C ?_ ?_ 35 Z (alloc_block _ _) HI2.out ?_ HAL.out ?_); (rfl); (rfl); (rw [HSZ.out, HZS.out]))
        | ((with_reducible refine in_load_row (o := ⟨some 12, _, _, _, _, _⟩) rfl 35 _ rfl wr.heap.size ?_ 35 C (0, 0) _ (setRow_heap _ _ _ C 35 _ (alloc_block _ _)) Tryz.underlying35 ?_ HI2.out ?_); (rfl); (rfl)))
      refine HRR.out.mono ?_
      rintro e W3 (⟨rfl, hJ3, hk3⟩ | ⟨rfl, hJx3⟩)
      · have HJ3 := Lib.hid hJ3
        have HK3 := Lib.hid (HB2.out.trans hk3)
        clear hJ3 hk3
        gi_wp2
        go_roundw
        case rel => exact ⟨k + 1, by omega, by go_num, Lib.hid ⟨by rw [HTK.out]; exact HJ3.out, HK3.out⟩⟩
        case measure => simp [intOf]; omega
      · have HX3 := Lib.hid hJx3
        clear hJx3
        gi_wp2
        refine bodyPost_ret (results_none rfl _ _ _) rfl ?_
        exact ⟨⟨_, rfl⟩, .inr ⟨_, trivial, HX3.out⟩⟩
    · obtain rfl : k = n := by omega
      gi_wp2
      go_end0
      exact ⟨⟨_, rfl⟩, .inl ⟨_, rfl, by have := HR.out.1; rwa [List.take_of_length_le (by rw [HN.out]; exact Nat.le_refl _)] at this⟩⟩
end Go.Proofs.YthdopcdllggdaaaGreatDoor
namespace Go.Proofs.YthdopcdllggdaaaGreatDoor
open Go.RowKit Go.Shelf
attribute [local go_sem] Oper.semAt_some

set_option maxRecDepth 1000000
theorem values_any (v : Value) (a : Option Addr) (n cap : Nat) (hv : v = .slice a n cap) (w : World) : Calls Tryz.prog 23 #[v] w fun e w' => e = .returned (.func (.func 42) #[] #[.pointer (some ⟨w.heap.size, 0, none⟩)]) ∧ w' = w.alloc (.cells #[v] 25) := by
  subst hv
  have hmf : ∀ (fn : Fn) (first cap : Array Value) (w : World), (Instr.makeFunc fn first cap).run Tryz.prog w = .ok (.func fn first cap) w := fun _ _ _ _ => rfl
  go_enter Tryz.func23, Tryz.ntmps23
  go_wp2
  go_ret
  exact ⟨rfl, rfl⟩
theorem vals_stops (F : Fence) (m : Nat) (hF : F.fn 42) (hro : F.round = none) (hm : 1 ≤ m) (Bs n0 n cap : Nat) (a : Option Addr) (L : List Pc) (hn : L.length = n) (hn2 : n ≤ 1000000) (w : World) (hb : Bs < w.heap.size) (h0 : n0 ≤ w.heap.size)
    (hBs : w.cell? ⟨Bs, 0, none⟩ = some (.slice a n cap)) (hP : PartP w n0 (.slice a n cap) L) :
    SeqStopsK F m Tryz.prog 42 #[.pointer (some ⟨Bs, 0, none⟩)] pinV (Below n0) (fun ys => ys = L) (fun _ => True) n w := by
  intro l J Jx W hW hJ _ hY hj
  refine vals1_in F m hF hro hm l Bs n0 n cap a L hn hn2 J Jx W hJ hY ((hW.cell (p := ⟨Bs, 0, none⟩) hb).trans hBs) ?_ (Nat.le_trans h0 hW.size) hj
  obtain ⟨a', cap', b, o, h1, h2, h3, h4, h5, h6⟩ := hP
  exact ⟨a', cap', b, o, h1, h2, h3, h4, h5, fun k p hk j v hv => (hW.cell (p := ⟨b, o + k * 37 + j, none⟩) (Nat.lt_of_lt_of_le h4 h0)).trans (h6 k p hk j v hv)⟩
theorem cells_own {β : Type} (B : Nat) (t : TypeId) (f : β → Array Value) : Own (fun s W => W.heap[B]? = some (.cells (f s) t (0, 0))) := by
  intro s X Y row hs hg hrow
  refine (hg.block B (Array.getElem?_eq_some_iff.1 hs).1 (fun e => ?_)).trans hs
  obtain ⟨o, ho, hc⟩ := hrow B e.symm
  rw [hs] at ho; cases ho; cases hc
theorem setRow_others (W : World) (b : Nat) (C B : Array Value) (t : TypeId) (f : Nat × Nat) (h : W.heap[b]? = some (.cells B t f)) : KeepsOthers W (W.setRow b C) :=
  KeepsOthers.of_grownBy (setRow_grown W b C) (fun j o ej hj => by cases ej; rw [h] at hj; cases hj; rfl)
set_option maxHeartbeats 8000000 in
theorem append_in (m : Nat) (hm : 6 ≤ m) (Bs n0 n cap : Nat) (a : Option Addr) (L : List Pc) (hn : L.length = n) (hn2 : n ≤ 1000000) (w : World) (hb : Bs < w.heap.size) (h0 : n0 ≤ w.heap.size)
    (hBs : w.cell? ⟨Bs, 0, none⟩ = some (.slice a n cap)) (hP : PartP w n0 (.slice a n cap) L) :
    CallsIn Fence.wide m Tryz.prog 50 #[.slice none 0 0, .func (.func 42) #[] #[.pointer (some ⟨Bs, 0, none⟩)]] w fun e w' => ∃ v, e = .returned v ∧ OwnsP w' w.heap.size v L ∧ Below w.heap.size w w' := by
  have h1 : 1 ≤ m := by omega
  have hz := zeroPin
  have hzs := zeroP_size
  obtain ⟨Z, hZ⟩ : ∃ Z, zeroP = Z := ⟨_, rfl⟩
  rw [hZ] at hz hzs
  have HZS := Lib.hid hzs
  clear hZ hzs
  obtain ⟨i0, hi, hz0, hz1, hz2⟩ := info_parts infoP
  have HI0 := Lib.hid (And.intro hi (And.intro hz0 (And.intro hz1 hz2)))
  clear hi hz0 hz1 hz2
  refine callsIn_of_wp_marks Tryz.func50 rfl trivial ?_ rfl
  simp only [Tryz.ntmps50, List.size_toArray, List.length_cons, List.length_nil, Nat.reduceAdd, Nat.reduceSub, Array.replicate_succ, Array.replicate_zero, List.push_toArray, List.append_toArray, List.nil_append, List.cons_append]
  gi_wp2
  have bO := Boxed.new w 25 (.slice none 0 0)
  have hB0 : Below w.heap.size w (w.alloc (.cells #[.slice none 0 0] 25)) := (Below.refl _ w).alloc (Nat.le_refl _) _
  have hsz : (w.alloc (.cells #[.slice none 0 0] 25)).heap.size = w.heap.size + 1 := alloc_size _ _
  have hBs2 := (hB0.cell (p := ⟨Bs, 0, none⟩) hb).trans hBs
  have hP2 := hP.stays (World.grownBy_alloc w (.cells #[.slice none 0 0] 25) none)
  obtain ⟨W0, hW0⟩ : ∃ W0, w.alloc (.cells #[.slice none 0 0] 25) = W0 := ⟨_, rfl⟩
  rw [hW0] at bO hB0 hsz hBs2 hP2 ⊢
  clear hW0
  have HS := Lib.hid (vals_stops Fence.wide (m - 1) trivial rfl (by omega) Bs n0 n cap a L hn hn2 W0 (by omega) (by omega) hBs2 hP2)
  have HSZ := Lib.hid hsz
  have HN0 := Lib.hid h0
  clear hBs2 hP2 hBs hP hsz
  refine wpIn_rangeFunc_ownH rfl h1 (gf := 42) (lb := #[.pointer (some ⟨Bs, 0, none⟩)]) rfl trivial (enters_of Tryz.func42 (by kernel_rfl) rfl)
    HS.out belowK_t (belowK_b (by have := HSZ.out; omega)) (Below.refl _ _) (fun _ => rfl)
    (fun pre W => (∃ v, Boxed W w.heap.size 25 v ∧ W.ownsRow w.heap.size 35 37 v pre.length (rowsC pre) ∧ True) ∧ Below w.heap.size w W)
    (fun _ _ _ => False)
    (OwnFrom.and (Own.from (holdsRow_own w.heap.size w.heap.size 25 35 37 (fun pre : List Pc => pre.length) (fun pre => rowsC pre) (fun _ _ => True)) _) (ownFrom_below (Nat.le_refl _) (by have := HSZ.out; omega)))
    (fun _ _ _ _ _ hs _ _ => hs)
    ⟨⟨_, bO, World.ownsRow_nil _ _ _ _, trivial⟩, hB0⟩
    (fun x a' W => ∃ Bx, w.heap.size < Bx ∧ W.heap[Bx]? = some (.cells x.enc.toArray 35 (0, 0)) ∧ a' = { tmps := #[.slice none 0 0, .func (.func 42) #[] #[.pointer (some ⟨Bs, 0, none⟩)], .pointer (some ⟨w.heap.size, 0, none⟩), undef, .slice none 0 0, .pointer (some ⟨Bx, 0, none⟩), .func (.func 42) #[] #[.pointer (some ⟨Bs, 0, none⟩)], .agg x.enc.toArray, undef, undef, undef, undef, undef], defers := [] })
    (fun x a' _ X Y row hs hg hr => by obtain ⟨Bx, h1, h2, h3⟩ := hs; exact ⟨Bx, h1, cells_own Bx 35 (fun (_ : Unit) => x.enc.toArray) () X Y row h2 hg (fun r e => (hr r e).2), h3⟩)
    ?assign ?body ?done ?stop
  case assign =>
    rintro l pre x W K ⟨⟨v, hv, hrow, _⟩, hB⟩ hK
    have HV := Lib.hid hv
    have HROW := Lib.hid hrow
    have HB := Lib.hid hB
    have HK := Lib.hid hK
    have HAL := Lib.hid (enc_all x)
    have HSZX : Hid (x.enc.toArray.size = 37) := Lib.hid (by rw [List.size_toArray, enc_len])
    clear hv hrow hB hK
    obtain ⟨C, hC⟩ : ∃ C, x.enc.toArray = C := ⟨_, rfl⟩
    have HC := Lib.hid hC
    unfold pinV
    rw [hC] at HAL HSZX ⊢
    have HI2 : Hid ((Tryz.prog.info? 35).map (·.size) = some C.size) := Lib.hid (by rw [HSZX.out]; exact infoP_size)
    clear hC
    have hg : W.grownBy ((W.alloc (.cells Z 35)).setRow W.heap.size C) none := grown_new (World.grownBy_alloc W _ none) (setRow_grown _ _ _) (Nat.le_refl _)
    have HG := Lib.hid hg
    clear hg
    gi_wp2_with ((with_reducible refine in_store_row (o := ⟨none, _, _, _, _, _⟩) rfl 35 _ _ rfl W.heap.size C ?_ ?_ 35 Z (alloc_block _ _) HI2.out ?_ HAL.out ?_); (rfl); (rfl); (rw [HSZX.out, HZS.out]))
    refine HK.out _ _ (((KeepsOthers.alloc _ _).trans (setRow_others _ _ _ _ _ _ (alloc_block _ _))).from _) ((Below.refl n0 W).grown HG.out (by have := HB.out.size; have := HN0.out; omega) (fun k e => by cases e)) ⟨⟨v, HV.out.kept HG.out (by simp), World.ownsRow.kept HROW.out HG.out (by cases v.ownBlock <;> simp), trivial⟩, HB.out.grown HG.out HB.out.size (fun k e => by cases e)⟩ ⟨W.heap.size, HV.out.lt, ?_, ?_⟩
    · rw [HC.out]; exact setRow_heap _ _ _ _ _ _ (alloc_block _ _)
    · rw [HC.out]; rfl
  case body =>
    rintro l pre x a' W hl ⟨r, hr⟩ ⟨⟨v, hv, hrow, _⟩, hB⟩ ⟨Bx, hBx, bX, rfl⟩ hlt
    have hc := hv.cell
    have HV := Lib.hid hv
    have HROW := Lib.hid hrow
    have HB := Lib.hid hB
    have HAL := Lib.hid (enc_one x)
    have HSZX : Hid (x.enc.toArray.size = 37) := Lib.hid (by rw [List.size_toArray, enc_len])
    clear hv hrow hB hr
    obtain ⟨C, hC⟩ : ∃ C, x.enc.toArray = C := ⟨_, rfl⟩
    have HC := Lib.hid hC
    rw [hC] at HSZX bX ⊢
    have HI2 : Hid ((Tryz.prog.info? 35).map (·.size) = some C.size) := Lib.hid (by rw [HSZX.out]; exact infoP_size)
    have HBX := Lib.hid bX
    clear hC bX
    have HLT := Lib.hid hlt
    have hW := HB.out.size
    have hnp : pre.length ≤ 1000000 := by omega
    gi_wp2_with (first
      | ((with_reducible refine in_load_row (o := ⟨some 9, _, _, _, _, _⟩) rfl 35 _ rfl Bx ?_ 35 C (0, 0) _ HBX.out Tryz.underlying35 ?_ HI2.out ?_); (rfl); (rfl))
      | ((with_reducible refine in_slice_pin (o := ⟨some 10, _, _, _, _, _⟩) rfl _ rfl C HSZX.out ?_ ?_); (rfl))
      | (gi_at_builtin; go_must (with_reducible refine wpListIn_append_own (o := ⟨some 11, _, _, _, _, _⟩) _ rfl _ _ 25 rfl w.heap.size 35 i0 _ 37 96 Tryz.underlying25 HI0.out.1 HI0.out.2.1 HI0.out.2.2.1 HI0.out.2.2.2 zeroP_cells (by decide) v pre.length (rowsC pre) ?_ (HROW.out.alloc _) ⟨W.heap.size, 0, none⟩ 1 1 x.enc ?_ ?_ ?_ ?_ ?_ ?_ ?_ ?_); go_must (exact rfl); go_must (exact rfl); go_must (rw [enc_len]); go_must ((intro j u hu; rw [Addr.add_mid, alloc_cell, ← HC.out]; simpa using hu)); go_must (exact HAL.out); go_must ((unfold maxLen; omega)); go_must (omega); go_must ((rw [alloc_size]; omega)); (intro v' w1 hown' hgrow _); (have HGR := Lib.hid hgrow); (have HOW := Lib.hid hown'); (obtain ⟨g', cap', hv'⟩ := ownsRow_succ hown'); (subst hv'); (have HAP := Lib.hid (HV.out.appended (by decide) HROW.out hW (Nat.le_refl _) hown' hgrow)); (clear hown' hgrow); (have hc1 := HAP.out.1.cell); (have hf1 := HAP.out.1.frozen)))
    have h2 := HAP.out.2
    exact ⟨h2.2.2.1.from _, h2.2.2.2.mono (Nat.le_trans HN0.out (Nat.le_refl _)), ⟨_, h2.1, by rw [List.length_append, rowsC_snoc]; exact h2.2.1, trivial⟩, HB.out.trans h2.2.2.2⟩
  case done =>
    rintro D ys W hD rfl ⟨⟨v, hv, hrow, _⟩, hB⟩ hK
    have hc := hv.cell
    have HROW := Lib.hid hrow
    have HB := Lib.hid hB
    have HK := Lib.hid hK
    clear hv hrow hB hK
    gi_wp2
    refine ⟨by simp, .inl ⟨_, _, rfl, run_takeDeferred HK.out, ?_⟩⟩
    exact ⟨_, results_tmp rfl _ _ _, v, rfl, ownsRow_putObj HROW.out _ HK.out rfl, HB.out.trans (belowK_b (w := w) (Nat.le_refl _) W D _ _ (by have := HSZ.out; omega) HK.out rfl rfl)⟩
  case stop =>
    rintro D c pre W _ _ h _
    exact h.elim
end Go.Proofs.YthdopcdllggdaaaGreatDoor
namespace Go.Proofs.YthdopcdllggdaaaGreatDoor
open Go.RowKit Go.Sort

set_option maxRecDepth 1000000
theorem collect_any (n cap : Nat) (a : Option Addr) (Bs n0 : Nat) (L : List Pc) (hn : L.length = n) (hn2 : n ≤ 1000000) (w : World) (hb : Bs < w.heap.size) (h0 : n0 ≤ w.heap.size)
    (hBs : w.cell? ⟨Bs, 0, none⟩ = some (.slice a n cap)) (hP : PartP w n0 (.slice a n cap) L) :
    Calls Tryz.prog 40 #[.func (.func 42) #[] #[.pointer (some ⟨Bs, 0, none⟩)]] w fun e w' => ∃ v, e = .returned v ∧ OwnsP w' w.heap.size v L ∧ w.grownBy w' none := by
  have HC : Hid (Calls Tryz.prog 50 #[.slice none 0 0, .func (.func 42) #[] #[.pointer (some ⟨Bs, 0, none⟩)]] w fun e w' => ∃ v, e = .returned v ∧ OwnsP w' w.heap.size v L ∧ Below w.heap.size w w') := Lib.hid (callsIn_wide.1 (append_in 10 (by omega) Bs n0 n cap a L hn hn2 w hb h0 hBs hP))
  clear hn hb h0 hBs hP hn2
  go_enter Tryz.func40, Tryz.ntmps40
  go_wp2_with fail
  (with_reducible refine HC.out.mono ?_)
  rintro ee w1 ⟨v, rfl, hO, hB⟩
  obtain ⟨a1, c1, e1, _, _⟩ := hO.form
  have HO := Lib.hid hO
  have HG := Lib.hid (grown_of_below hB)
  subst e1
  clear hO hB
  dsimp only
  go_wp2
  go_ret
  exact ⟨_, rfl, HO.out, HG.out⟩

/-- What a row holds, as the library's sort asks it. -/
theorem flat_rows (d : Array Pc) : (flatK Pc.enc 37 d).toList = rowsC d.toList := by
  apply List.ext_getElem?
  intro t
  by_cases h : t < d.size * 37
  · have hk : t / 37 < d.size := by omega
    have h1 := get_flatK Pc.enc 37 d t h
    have h2 := rowsC_at d.toList (t / 37) (t % 37) d[t / 37]! (arr_get d _ hk) (Nat.mod_lt _ (by omega))
    rw [show t / 37 * 37 + t % 37 = t by omega] at h2
    rw [h2]
    have hs : t < (flatK Pc.enc 37 d).size := by rw [size_flatK]; exact h
    rw [getElem!_pos (flatK Pc.enc 37 d) t hs] at h1
    rw [Array.getElem?_toList, Array.getElem?_eq_getElem hs, h1]
    have h3 : t % 37 < (Pc.enc d[t / 37]!).length := by rw [enc_len]; exact Nat.mod_lt _ (by omega)
    rw [getElem!_pos (Pc.enc d[t / 37]!) (t % 37) h3, List.getElem?_eq_getElem h3]
  · rw [List.getElem?_eq_none (l := (flatK Pc.enc 37 d).toList) (by rw [Array.length_toList, size_flatK]; omega), List.getElem?_eq_none (l := rowsC d.toList) (by rw [rowsC_len, Array.length_toList]; omega)]
theorem holds_of {w : World} {base g n cap : Nat} {L : List Pc} (h : OwnsP w base (.slice (some ⟨g, 0, none⟩) n cap) L) : HoldsK Pc.enc 37 w g 0 L.toArray := by
  intro t ht
  rw [size_flatK] at ht
  have ht2 : t < (rowsC L).length := by rw [rowsC_len]; simpa using ht
  have hs : t < (flatK Pc.enc 37 L.toArray).size := by rw [size_flatK]; exact ht
  have e : (flatK Pc.enc 37 L.toArray)[t]! = (rowsC L)[t] := by
    have h1 := flat_rows L.toArray
    rw [getElem!_pos _ t hs, ← Array.getElem_toList]
    simp only [h1]
  rw [Nat.zero_add]
  show w.cell? _ = some ((flatK Pc.enc 37 L.toArray)[t]!) ∧ _
  rw [e]
  rcases h.2 with ⟨h1, h2⟩ | ⟨g', cap', cur, h1, h2, h3, h4, h5, h6, h7⟩
  · cases h1
  · obtain rfl : g = g' := by have := (Value.slice.inj h1).1; simpa using this
    refine ⟨?_, by simp [World.frozen?, h3]⟩
    rw [cell_in h3]
    have e2 : (rowsC L)[t]? = some (rowsC L)[t] := List.getElem?_eq_getElem ht2
    rw [← e2, ← h7, List.getElem?_take, if_pos (by rw [rowsC_len] at ht2; exact ht2)]
    simp
/-- .. and what is left behind the sort. -/
theorem owns_sorted {w : World} {base g n cap q : Nat} {L M : List Pc} {os : Array Obj} (h : OwnsP w base (.slice (some ⟨g, 0, none⟩) n cap) L) (hn : L.length = n) (hM : M.length = n) : OwnsP (sortWorldK Pc.enc 37 w g 0 q M.toArray os) base (.slice (some ⟨g, 0, none⟩) n cap) M ∧ w.grownBy (sortWorldK Pc.enc 37 w g 0 q M.toArray os) (some g) := by
  rcases h.2 with ⟨h1, h2⟩ | ⟨g', cap', cur, h1, h2, h3, h4, h5, h6, h7⟩
  · cases h1
  · obtain rfl : g = g' := by have := (Value.slice.inj h1).1; simpa using this
    have hlt := (Array.getElem?_eq_some_iff.1 h3).1
    have hb : (sortWorldK Pc.enc 37 w g 0 q M.toArray os).heap[g]? = some (.cells (putCells id 0 (flatK Pc.enc 37 M.toArray) cur) 35 (0, 0)) := by
      show ((w.heap.modify g (onCells (putCells id 0 (flatK Pc.enc 37 M.toArray)))) ++ os)[g]? = _
      rw [Array.getElem?_append_left (by rw [Array.size_modify]; exact hlt), Array.getElem?_modify, if_pos rfl, h3]
      rfl
    have ef : (flatK Pc.enc 37 M.toArray).toList = rowsC M := flat_rows M.toArray
    have hfs : (flatK Pc.enc 37 M.toArray).size = n * 37 := by rw [size_flatK]; simp [hM]
    have hcap : n ≤ cap' := by rw [hn] at h4; exact h4
    have hcur : n * 37 ≤ cur.size := by rw [h6]; exact Nat.mul_le_mul_right 37 hcap
    refine ⟨⟨by rw [rowsC_len, hM], .inr ⟨g, cap', _, by rw [hM, h1, hn], h2, hb, by rw [hM]; exact hcap, h5, by simp [putCells, h6], ?_⟩⟩, ⟨rfl, rfl, rfl, ?_, ?_⟩⟩
    · rw [← ef, hM]
      apply List.ext_getElem?
      intro t
      rw [List.getElem?_take]
      by_cases ht : t < n * 37
      · rw [if_pos ht]
        have hc : t < cur.size := by omega
        simp only [putCells, Array.getElem?_toList, Array.getElem?_mapIdx, Array.getElem?_eq_getElem hc, Option.map_some]
        rw [if_pos ⟨by omega, by omega⟩, Nat.sub_zero, Array.getElem?_eq_getElem (by omega), id, getElem!_pos _ t (by omega)]
      · rw [if_neg ht, List.getElem?_eq_none (by simp [hM]; omega)]
    · show _ ≤ ((w.heap.modify g _) ++ os).size
      simp
    · intro k hk hne
      show ((w.heap.modify g _) ++ os)[k]? = _
      rw [Array.getElem?_append_left (by rw [Array.size_modify]; exact hk), Array.getElem?_modify, if_neg (fun e => hne (by rw [e]))]
end Go.Proofs.YthdopcdllggdaaaGreatDoor
namespace Go.Proofs.YthdopcdllggdaaaGreatDoor
open Go.RowKit Go.Sort

set_option maxRecDepth 1000000
abbrev cmpN : Value := .func (.func 20) #[] #[]
theorem ins_any (w : World) (base g n cap : Nat) (L : List Pc) (hO : OwnsP w base (.slice (some ⟨g, 0, none⟩) n cap) L) (hn : L.length = n) (hn2 : n ≤ 1000000) :
    Calls Tryz.prog 58 #[.slice (some ⟨g, 0, none⟩) n cap, .int .i64 ((0 : Nat) : Int), .int .i64 n, cmpN] w fun e w' => e = .returned (.tuple #[]) ∧ OwnsP w' base (.slice (some ⟨g, 0, none⟩) n cap) (sortP L) ∧ w.grownBy w' (some g) := by
  have hs : L.toArray.size = n := by simp [hn]
  have hg : g < w.heap.size := (hO.block_lt g rfl).2
  have h := Tryz.slices_insertionSort 37 Tryz.isAgg35 Tryz.sizeOf35 Pc.enc enc_len enc_one (fun x y => cmpB x.name y.name) 20 #[] g 0 cap 0 L.toArray.size L.toArray w (enters_of Tryz.func20 (by kernel_rfl) rfl) (cmpLays_name _ _ _ _) (holds_of hO) hg (Nat.zero_le _) (Nat.le_refl _) (by rw [hs]; omega)
  rw [lt_eq] at h
  have hl : insertionSort lessP L.toArray 0 L.toArray.size = (sortP L).toArray := by
    apply Array.ext'
    rw [sort_list]
  rw [hl, hs] at h
  refine h.mono fun e w' ⟨h1, q, os, h2⟩ => ⟨h1, ?_⟩
  rw [h2]
  exact owns_sorted hO hn (by rw [sortP_len, hn])
theorem ins_none (a : Option Addr) (cap : Nat) (v : Value) (w : World) :
    Calls Tryz.prog 58 #[.slice a 0 cap, .int .i64 0, .int .i64 0, v] w fun e w' => e = .returned (.tuple #[]) ∧ w' = w := by
  go_enter Tryz.func58, Tryz.ntmps58
  go_wp2
  refine wp_loop_rounds 1 ?_
  rw [rounds_succ]
  go_wp2
  go_end0
  exact ⟨rfl, rfl⟩
set_option maxHeartbeats 2000000 in
theorem stable_none (a : Option Addr) (cap : Nat) (v : Value) (w : World) :
    Calls Tryz.prog 41 #[.slice a 0 cap, v] w fun e w' => e = .returned (.tuple #[]) ∧ w' = w := by
  have HI := Lib.hid (ins_none a cap v)
  have hs : Calls Tryz.prog 51 #[.slice a 0 cap, .int .i64 0, v] w fun e w' => e = .returned (.tuple #[]) ∧ w' = w := by
    go_enter Tryz.func51, Tryz.ntmps51
    go_wp2
    refine wp_loop_rounds 1 ?_
    rw [rounds_succ]
    go_wp2_with ((with_reducible refine (HI.out _).mono ?_); rintro ee w1 ⟨rfl, rfl⟩; dsimp only)
    refine wp_loop_rounds 1 ?_
    rw [rounds_succ]
    go_wp2
    go_end0
    exact ⟨rfl, rfl⟩
  have HS := Lib.hid hs
  clear hs
  go_enter Tryz.func41, Tryz.ntmps41
  go_wp2_with ((with_reducible refine HS.out.mono ?_); rintro ee w1 ⟨rfl, rfl⟩; dsimp only)
  go_end0
  exact ⟨rfl, rfl⟩
set_option maxHeartbeats 2000000 in
theorem stable_small (w : World) (base g n cap : Nat) (L : List Pc) (hO : OwnsP w base (.slice (some ⟨g, 0, none⟩) n cap) L) (hn : L.length = n) (hn2 : n < 20) :
    Calls Tryz.prog 51 #[.slice (some ⟨g, 0, none⟩) n cap, .int .i64 n, cmpN] w fun e w' => e = .returned (.tuple #[]) ∧ OwnsP w' base (.slice (some ⟨g, 0, none⟩) n cap) (sortP L) ∧ w.grownBy w' (some g) := by
  have HI := Lib.hid (ins_any w base g n cap L hO hn (by omega))
  have b1 : decide (20 ≤ (n : Int)) = false := by simp; omega
  have b2 : decide (20 < (n : Int)) = false := by simp; omega
  have b3 : (n : Int) < 20 := by omega
  clear hO hn
  go_enter Tryz.func51, Tryz.ntmps51
  go_wp2
  refine wp_loop_rounds 1 ?_
  rw [rounds_succ]
  go_wp2_with fail
  (refine HI.out.mono ?_)
  rintro ee w1 ⟨rfl, hO, hg⟩
  have HO := Lib.hid hO
  have HG := Lib.hid hg
  clear hO hg
  dsimp only
  go_wp2_with fail
  refine wp_loop_rounds 1 ?_
  rw [rounds_succ]
  go_wp2
  go_end0
  exact ⟨rfl, HO.out, HG.out⟩
set_option maxHeartbeats 2000000 in
theorem stableF_small (w : World) (base g n cap : Nat) (L : List Pc) (hO : OwnsP w base (.slice (some ⟨g, 0, none⟩) n cap) L) (hn : L.length = n) (hn2 : n < 20) :
    Calls Tryz.prog 41 #[.slice (some ⟨g, 0, none⟩) n cap, cmpN] w fun e w' => e = .returned (.tuple #[]) ∧ OwnsP w' base (.slice (some ⟨g, 0, none⟩) n cap) (sortP L) ∧ w.grownBy w' (some g) := by
  have HI := Lib.hid (stable_small w base g n cap L hO hn hn2)
  clear hO hn hn2
  go_enter Tryz.func41, Tryz.ntmps41
  go_wp2_with fail
  (refine HI.out.mono ?_)
  rintro ee w1 ⟨rfl, hO, hg⟩
  have HO := Lib.hid hO
  have HG := Lib.hid hg
  clear hO hg
  dsimp only
  go_wp2
  go_end0
  exact ⟨rfl, HO.out, HG.out⟩
/-- Sorted by name: what slices.SortedStableFunc tells of pins. -/
def SortedTo (w : World) (L : List Pc) (e : Ending) (w' : World) : Prop := ∃ a cap, e = .returned (.slice a L.length cap) ∧ OwnsP w' w.heap.size (.slice a L.length cap) (sortP L) ∧ w.grownBy w' none
/-- What the stable sort is asked for here. -/
def StableOk (n : Nat) (L : List Pc) : Prop := ∀ (w : World) (base g cap : Nat), OwnsP w base (.slice (some ⟨g, 0, none⟩) n cap) L → L.length = n → Calls Tryz.prog 41 #[.slice (some ⟨g, 0, none⟩) n cap, cmpN] w fun e w' => e = .returned (.tuple #[]) ∧ OwnsP w' base (.slice (some ⟨g, 0, none⟩) n cap) (sortP L) ∧ w.grownBy w' (some g)
set_option maxHeartbeats 4000000 in
theorem sorted_any (n cap : Nat) (a : Option Addr) (Bs n0 : Nat) (L : List Pc) (hst : StableOk n L) (hn : L.length = n) (hn2 : n ≤ 1000000) (w : World) (hb : Bs < w.heap.size) (h0 : n0 ≤ w.heap.size)
    (hBs : w.cell? ⟨Bs, 0, none⟩ = some (.slice a n cap)) (hP : PartP w n0 (.slice a n cap) L) :
    Calls Tryz.prog 22 #[.func (.func 42) #[] #[.pointer (some ⟨Bs, 0, none⟩)], cmpN] w (SortedTo w L) := by
  have HC := Lib.hid (collect_any n cap a Bs n0 L hn hn2 w hb h0 hBs hP)
  have HN := Lib.hid hn
  have HST := Lib.hid hst
  clear hb h0 hBs hP hn hn2 hst
  go_enter Tryz.func22, Tryz.ntmps22
  go_wp2_with fail
  (with_reducible refine HC.out.mono ?_)
  rintro ee w1 ⟨v, rfl, hO, hG⟩
  have HG := Lib.hid hG
  clear hG
  obtain ⟨a1, c1, e1, _, _⟩ := hO.form
  subst e1
  dsimp only
  by_cases h0 : n = 0
  · have HL : Hid (L = []) := Lib.hid (List.eq_nil_of_length_eq_zero (by rw [HN.out, h0]))
    have hl0 : L.length = 0 := by rw [HL.out]; rfl
    rw [hl0] at hO ⊢
    have HO := Lib.hid hO
    clear hO hl0
    go_wp2_with ((with_reducible refine (stable_none _ _ _ _).mono ?_); rintro ee w2 ⟨rfl, rfl⟩; dsimp only)
    go_ret
    refine ⟨a1, c1, by rw [HL.out]; rfl, ?_, HG.out⟩
    have := HO.out
    rw [HL.out] at this ⊢
    exact this
  · rcases hO.2 with ⟨h1, h2⟩ | ⟨g, cap', cur, h1, h2, _⟩
    · exact absurd (HN.out.symm.trans h2) h0
    · have e1 := (Value.slice.inj h1).1
      subst e1
      rw [HN.out] at hO ⊢
      have HO := Lib.hid hO
      have HLT := Lib.hid (hO.block_lt g rfl)
      clear hO h1 h2
      have HS := Lib.hid (HST.out w1 _ g c1 HO.out HN.out)
      go_wp2_with fail
      (refine HS.out.mono ?_)
      rintro ee w2 ⟨rfl, hO2, hg2⟩
      have HO2 := Lib.hid hO2
      have HG2 := Lib.hid (grown_new HG.out hg2 HLT.out.1)
      clear hO2 hg2
      dsimp only
      go_wp2
      go_ret
      exact ⟨some ⟨g, 0, none⟩, c1, by rw [HN.out]; rfl, by rw [HN.out]; exact HO2.out, HG2.out⟩
end Go.Proofs.YthdopcdllggdaaaGreatDoor
namespace Go.Proofs
open Go.Shelf
def Tryz.laysE_ren : Go.Shelf.Ren := ⟨fun | 166 => 19 | 169 => 26 | 240 => 38 | 276 => 49 | n => n, fun | 31 => 26 | 9 => 9 | 3 => 3 | 4 => 4 | 0 => 0 | 20 => 20 | 72 => 53 | 76 => 56 | 70 => 51 | 37 => 22 | 75 => 55 | 127 => 79 | 164 => 83 | 5 => 5 | 80 => 66 | n => n, fun | n => n⟩
theorem Tryz.laysE166 : Go.Proofs.Lays.n166 Tryz.prog Tryz.laysE_ren := {
  mixed := by kernel_rfl
  f166 := Tryz.func19.trans (congrArg some (by kernel_rfl))
  f240 := Tryz.func38.trans (congrArg some (by kernel_rfl))
  f276 := Tryz.func49.trans (congrArg some (by kernel_rfl))
  t0 := Tryz.underlying0
  a0 := Tryz.isAgg0
  z0 := Tryz.sizeOf0
  v0 := Tryz.zeroValue0
  t3 := Tryz.underlying3
  a3 := Tryz.isAgg3
  z3 := Tryz.sizeOf3
  v3 := Tryz.zeroValue3
  t4 := Tryz.underlying4
  a4 := Tryz.isAgg4
  z4 := Tryz.sizeOf4
  v4 := Tryz.zeroValue4
  t9 := Tryz.underlying9
  a9 := Tryz.isAgg9
  z9 := Tryz.sizeOf9
  v9 := Tryz.zeroValue9
  t20 := Tryz.underlying20
  a20 := Tryz.isAgg20
  z20 := Tryz.sizeOf20
  v20 := Tryz.zeroValue20
  t37 := Tryz.underlying22
  a37 := Tryz.isAgg22
  z37 := Tryz.sizeOf22
  v37 := Tryz.zeroValue22
  t70 := Tryz.underlying51
  a70 := Tryz.isAgg51
  z70 := Tryz.sizeOf51
  v70 := Tryz.zeroValue51
  t72 := Tryz.underlying53
  a72 := Tryz.isAgg53
  z72 := Tryz.sizeOf53
  v72 := Tryz.zeroValue53
  t75 := Tryz.underlying55
  a75 := Tryz.isAgg55
  z75 := Tryz.sizeOf55
  v75 := Tryz.zeroValue55
  t164 := Tryz.underlying83
  a164 := Tryz.isAgg83
  z164 := Tryz.sizeOf83
  v164 := Tryz.zeroValue83 }
theorem Tryz.laysE_Extra : Builder.Extra Tryz.prog Tryz.laysE_ren := {
  sizeBuilder := by kernel_rfl
  liesBuilder := by kernel_rfl
  t5 := Tryz.underlying5
  a5 := Tryz.isAgg5
  z5 := Tryz.sizeOf5
  v5 := Tryz.zeroValue5
  infoByte := by kernel_rfl
  cellsByte := by kernel_rfl
  sizeByte := by kernel_rfl
  neB5 := by decide }
open Go.RowKit in
theorem Tryz.Builder_WriteString (B b : Nat) (bs : List Value) (s : ByteArray) (w : World) (h : Lib.IsBuilder 53 5 B b bs w) (hlen : bs.length + s.size ≤ 140737488355328) (hBw : B ≤ w.heap.size) :
    Calls Tryz.prog 19 #[.pointer (some ⟨b, 0, none⟩), .string s] w fun e w' => e = .returned (.tuple #[.int .i64 s.size, .nilIface]) ∧ (Lib.BuilderAt 53 5 B b (.pointer (some ⟨b, 0, none⟩)) (bs ++ Lib.strCells s) w' ∧ Below B w w') := Any.Builder_WriteString Tryz.laysE166 Tryz.laysE_Extra B b bs s w h hlen hBw
end Go.Proofs
namespace Go.Proofs.YthdopcdllggdaaaGreatDoor
open Go.RowKit Go.Sort

/-- Builders: written on, other blocks as they were. -/
theorem bld_write (B b : Nat) (bs : List Value) (s : ByteArray) (w : World) (h : Lib.IsBuilderF 53 5 B b bs w) (hlen : bs.length + s.size ≤ 140737488355328) (hBw : B ≤ w.heap.size) :
    Calls Tryz.prog 19 #[.pointer (some ⟨b, 0, none⟩), .string s] w fun e w' => (∃ z : Int, e = .returned (.tuple #[.int .i64 z, .nilIface])) ∧ Lib.IsBuilderF 53 5 B b (bs ++ Lib.strCells s) w' ∧ Below B w w' ∧ Lib.OthersKept 5 (some b) w w' :=
  (Go.Proofs.Any.Builder_WriteString_k Tryz.laysE166 Tryz.laysE_Extra B b bs s w h hlen hBw).mono fun _ _ ⟨h1, h2, h3, h4⟩ => ⟨⟨_, h1⟩, .inr h2, h3, h4⟩
theorem bld_string (B b : Nat) (l : List UInt8) (w : World) (h : Lib.IsBuilderF 53 5 B b (Lib.byteCells l) w) (h0 : l ≠ []) :
    Calls Tryz.prog 26 #[.pointer (some ⟨b, 0, none⟩)] w fun e w' => e = .returned (.string ⟨l.toArray⟩) ∧ Below B w w' :=
  (Go.Proofs.Any.Builder_String_k Tryz.lays169 Tryz.Builder_Extra_169 B b l w h h0).mono fun _ _ ⟨h1, _, h3, _⟩ => ⟨h1, h3⟩
theorem bld_kept {B b : Nat} {l : List Value} {w w' : World} (h : Lib.IsBuilderF 53 5 B b l w) (hg : w.grownBy w' none) : Lib.IsBuilderF 53 5 B b l w' := by
  have H : ∀ p, Lib.BuilderAtF 53 5 B b p l w → Lib.BuilderAtF 53 5 B b p l w' := by
    intro p h
    obtain ⟨hB, v, hb, hown, hne⟩ := h
    exact ⟨hB, v, block_kept hb hg, World.ownsRowF.kept hown hg (by cases v.ownBlock with
      | none => exact .inl rfl
      | some k => exact .inr (by simp)), hne⟩
  exact h.elim (fun x => .inl (H _ x)) (fun x => .inr (H _ x))
theorem owns_others {w w' : World} {base b : Nat} {v : Value} {L : List Pc} {t : TypeId} {cs : Array Value} {f : Nat × Nat} (h : OwnsP w base v L) (hb : w.heap[b]? = some (.cells cs t f)) (ht : t ≠ 35) (hk : Lib.OthersKept 5 (some b) w w') : OwnsP w' base v L := by
  refine ⟨h.1, ?_⟩
  rcases h.2 with h1 | ⟨g, cap, cur, h1, h2, h3, h4⟩
  · exact .inl h1
  · refine .inr ⟨g, cap, cur, h1, h2, hk g _ h3 (fun e => ?_) (fun c fz e => by cases e), h4⟩
    obtain rfl : g = b := Option.some.inj e
    rw [h3] at hb
    cases hb
    exact ht rfl
theorem textS_size (v : Vn) (h1 : v.maj ≤ 9223372036854775807) (h2 : v.min ≤ 9223372036854775807) (h3 : v.pat ≤ 9223372036854775807) (hs : sumS v.pre ≤ 8000000) : (textS v).size ≤ 8000100 := by
  have s1 := decS_size v.maj h1
  have s2 := decS_size v.min h2
  have s3 := decS_size v.pat h3
  have hd1 : dotB.size = 1 := rfl
  have hd2 : dashB.size = 1 := rfl
  have hj := joinB_le 46 v.pre
  have e : (⟨#[46]⟩ : ByteArray) = dotB := rfl
  rw [e] at hj
  unfold textS coreT
  split <;> simp only [ByteArray.size_append] <;> omega
/-- A load of many cells in a region that draws its order. -/
theorem quiet_mid {P : Program} {ops : Array Oper} {C : World → Prop} {Q : Act → Prop} {a : Act} {o : Oper} {rest : List Oper} (hgd : o.guard = none) (ty : TypeId) (x : Operand) (ho : o.op = .load ty x)
    (b k : Nat) (hx : a.eval x = .pointer (some ⟨b, k, none⟩)) (cs : List Value) (d : TypeDesc) (hc : ∀ W, C W → W.rangeAt b k cs)
    (hu : P.underlying ty = some d) (hd : d.isRow = true) (hi : (P.info? ty).map (·.size) = some cs.length)
    (h : wpQuiet P ops C Q rest (a.put o.dst (.agg cs.toArray))) : wpQuiet P ops C Q (o :: rest) a := by
  refine wpQuiet_step fun K hK => ?_
  simp only [Region.wanted, hgd, if_true]
  refine ⟨_, fun W hW => ?_, hK _ h⟩
  unfold Oper.quietAt execOp
  simp only [ho, hx, Instr.loadAt, Instr.sureAddr, Sem.run_bind, Sem.run_pure, Result.andThen_ok, run_loadVar_mid W b k ty cs d (hc W hW) hu hd hi]
  exact ⟨rfl, rfl⟩
end Go.Proofs.YthdopcdllggdaaaGreatDoor
namespace Go.Proofs.YthdopcdllggdaaaGreatDoor
open Go.RowKit Go.Sort

def headL : List UInt8 := [108, 111, 99, 107, 32, 49, 10]
/-- A pin's line. -/
def pinL (p : Pc) : List UInt8 := p.name.data.toList ++ 32 :: ((textS p.v).data.toList ++ 32 :: (Sha.hexL p.key.toList ++ [10]))
/-- Pins' text, as they stand. -/
def rowT (L : List Pc) : List UInt8 := headL ++ L.flatMap pinL
/-- PINS' TEXT. -/
def lockT (L : List Pc) : List UInt8 := rowT (sortP L)
def AllAt (w : World) (B : Nat) (L : List Pc) : Prop := ∀ p ∈ L, PcAt w B p
theorem pinL_len (p : Pc) (h1 : (textS p.v).size ≤ 8000100) (h2 : p.name.size ≤ 1000000) : (pinL p).length ≤ 9000200 := by
  unfold pinL
  simp only [List.length_append, List.length_cons, List.length_nil, Sha.hexL_len, Array.length_toList, p.hk]
  have e1 := data_len (textS p.v)
  have e2 := data_len p.name
  simp only [Array.length_toList] at e1 e2
  omega
theorem rowT_snoc (L : List Pc) (k : Nat) (p : Pc) (h : L[k]? = some p) : rowT (L.take (k + 1)) = rowT (L.take k) ++ pinL p := by
  unfold rowT
  rw [List.take_add_one, h, List.append_assoc]
  simp
theorem rowT_len (L : List Pc) (k : Nat) (h : ∀ p ∈ L, (pinL p).length ≤ 9000200) : (rowT (L.take k)).length ≤ 7 + 9000200 * k := by
  induction k with
  | zero => simp [rowT, headL]
  | succ k ih =>
    cases hx : L[k]? with
    | none =>
      rw [List.take_of_length_le (by have := List.getElem?_eq_none_iff.1 hx; omega)]
      rw [List.take_of_length_le (by have := List.getElem?_eq_none_iff.1 hx; omega)] at ih
      omega
    | some p =>
      rw [rowT_snoc L k p hx, List.length_append]
      have := h p (List.mem_of_getElem? hx)
      omega
set_option maxRecDepth 1000000
set_option maxHeartbeats 8000000 in
theorem lockText_any (m0 : Int) (n cap : Nat) (a : Option Addr) (L : List Pc) (hst : StableOk n L) (w : World) (hm : Wok m0 w) (hn : L.length = n) (hn2 : n ≤ 1000) (hP : PartP w w.heap.size (.slice a n cap) L) (hA : AllAt w w.heap.size L) :
    Calls Tryz.prog 8 #[.slice a n cap] w fun e w' => e = .returned (.string ⟨(lockT L).toArray⟩) ∧ w.grownBy w' none := by
  have hlen : ∀ p ∈ sortP L, (pinL p).length ≤ 9000200 := fun p hp => by
    have h := hA p ((sortP_mem L p).1 hp)
    exact pinL_len p (textS_size p.v h.ver.maj.2 h.ver.min.2 h.ver.pat.2 h.ver.sum) h.name
  have HLEN := Lib.hid hlen
  have HM := Lib.hid hm
  have HN := Lib.hid hn
  have HP := Lib.hid hP
  have HA := Lib.hid hA
  have HST := Lib.hid hst
  have HSN : Hid ((sortP L).length = n) := Lib.hid (by rw [sortP_len, hn])
  clear hlen hm hn hP hA hst
  obtain ⟨b, hb⟩ : ∃ b, w.heap.size = b := ⟨_, rfl⟩
  have HB := Lib.hid hb
  go_enter Tryz.func8, Tryz.ntmps8
  go_wp2_with fail
  have hf : Lib.IsBuilderF 53 5 b b (Lib.byteCells []) (w.alloc (.cells #[.pointer none, .slice none 0 0] 53)) := by
    refine .inl ⟨Nat.le_refl _, .slice none 0 0, ?_, World.ownsRowF_nil _ _ _ _, by simp [Value.ownBlock]⟩
    rw [← hb]; exact alloc_block _ _
  have hg0 : w.grownBy (w.alloc (.cells #[.pointer none, .slice none 0 0] 53)) none := World.grownBy_alloc _ _ _
  have hs0 : b + 1 = (w.alloc (.cells #[.pointer none, .slice none 0 0] 53)).heap.size := by rw [alloc_size, hb]
  (with_reducible refine (bld_write b b _ ⟨#[108, 111, 99, 107, 32, 49, 10]⟩ _ hf (by decide) (by omega)).mono ?_)
  rintro ee w1 ⟨⟨z1, rfl⟩, hb1, hk1, _⟩
  have hg1 : w.grownBy w1 none := grown_of_below (hb ▸ (below_of_grown hg0).trans (hb ▸ hk1))
  have HG1 := Lib.hid hg1
  have HB1 : Hid (Lib.IsBuilderF 53 5 b b (Lib.byteCells (rowT [])) w1) := Lib.hid hb1
  clear hf hg0 hs0 hb1 hk1 hg1 hb
  dsimp only
  go_wp2_with fail
  (with_reducible refine (values_any (.slice a n cap) a n cap rfl _).mono ?_)
  rintro ee w2 ⟨rfl, hw2⟩
  have HG2 : Hid (w.grownBy w2 none) := Lib.hid (by rw [hw2]; exact World.grownBy.trans HG1.out (World.grownBy_alloc _ _ _))
  have HB2 : Hid (Lib.IsBuilderF 53 5 b b (Lib.byteCells (rowT [])) w2) := Lib.hid (by rw [hw2]; exact bld_kept HB1.out (World.grownBy_alloc _ _ _))
  have HC2 : Hid (w2.cell? ⟨w1.heap.size, 0, none⟩ = some (.slice a n cap) ∧ w1.heap.size < w2.heap.size) := Lib.hid (by rw [hw2]; exact ⟨alloc_cell _ _ _ _, by rw [alloc_size]; omega⟩)
  clear hw2
  dsimp only
  go_wp2_with fail
  (with_reducible refine (sorted_any n cap a w1.heap.size w.heap.size L HST.out HN.out (by omega) w2 HC2.out.2 (by have := HG2.out.size; omega) HC2.out.1 (HP.out.stays HG2.out)).mono ?_)
  rintro ee w3 ⟨a3, c3, rfl, hO3, hg3⟩
  rw [HN.out] at hO3 ⊢
  have HG3 := Lib.hid (World.grownBy.trans HG2.out hg3)
  have HB3 := Lib.hid (bld_kept HB2.out hg3)
  have HO3 := Lib.hid hO3
  obtain ⟨base, hbase⟩ : ∃ base, w2.heap.size = base := ⟨_, rfl⟩
  rw [hbase] at HO3
  have HBS : Hid (b ≤ base) := Lib.hid (by have := HG2.out.size; have := HB.out; omega)
  obtain ⟨LS, hLS⟩ : ∃ LS, sortP L = LS := ⟨_, rfl⟩
  have HLS := Lib.hid hLS
  rw [hLS] at HO3 HLEN HSN
  have HMEM : Hid (∀ p ∈ LS, PcAt w w.heap.size p) := Lib.hid (fun p hp => HA.out p ((sortP_mem L p).1 (by rw [hLS]; exact hp)))
  clear hO3 hg3 hbase hLS
  have hz := zeroPin
  have hzs := zeroP_size
  obtain ⟨Z, hZ⟩ : ∃ Z, zeroP = Z := ⟨_, rfl⟩
  rw [hZ] at hz hzs
  have HZS := Lib.hid hzs
  clear hZ hzs
  dsimp only
  go_wp2_with fail
  go_loopw [13] (fun i wr => ∃ k : Nat, k ≤ n ∧ i = .int .i64 k ∧ Hid (w.grownBy wr none) ∧ Hid (OwnsP wr base (.slice a3 n c3) LS) ∧ Hid (Lib.IsBuilderF 53 5 b b (Lib.byteCells (rowT (LS.take k))) wr)) (fun i _ => n - (intOf i).toNat)
  case atStart => exact ⟨0, Nat.zero_le _, rfl, HG3, HO3, HB3⟩
  case round =>
    obtain ⟨k, hk, rfl, HG, HO, HBD⟩ := hrel
    by_cases hlt : k < n
    · obtain ⟨x, hx⟩ : ∃ x, LS[k]? = some x := ⟨_, List.getElem?_eq_getElem (by rw [HSN.out]; exact hlt)⟩
      obtain ⟨g, o, hag, _, hrg⟩ := (HO.out.part (by have := HG.out.size; have := HM.out.pos; omega)).at k x hx
      subst hag
      have HX := Lib.hid hx
      have HRG := Lib.hid hrg
      have HAL := Lib.hid (enc_all x)
      have HSZX : Hid (x.enc.toArray.size = 37) := Lib.hid (by rw [List.size_toArray, enc_len])
      have HI : Hid ((Tryz.prog.info? 35).map (·.size) = some x.enc.length) := Lib.hid (by rw [enc_len]; exact infoP_size)
      clear hrg hx
      obtain ⟨C, hC⟩ : ∃ C, x.enc.toArray = C := ⟨_, rfl⟩
      have HC := Lib.hid hC
      rw [hC] at HAL HSZX
      have HI2 : Hid ((Tryz.prog.info? 35).map (·.size) = some C.size) := Lib.hid (by rw [HSZX.out]; exact infoP_size)
      clear hC
      go_wp2_with (first
        | ((with_reducible refine wpList_load_mid (op := ⟨some 16, _, _, _, _, _⟩) rfl 35 _ rfl g (o + k * 37) ?_ x.enc _ HRG.out Tryz.underlying35 ?_ HI.out ?_); (rfl); (rfl); (rw [HC.out]))
        | ((with_reducible refine wpList_store_row (o := ⟨none, _, _, _, _, _⟩) rfl 35 _ _ rfl wr.heap.size C ?_ ?_ 35 Z (alloc_block _ _) HI2.out ?_ HAL.out ?_); (rfl); (rfl); (rw [HSZX.out, HZS.out])))
      obtain ⟨q, hq⟩ : ∃ q, wr.heap.size = q := ⟨_, rfl⟩
      have hb0 := setRow_heap _ wr.heap.size _ C 35 _ (alloc_block wr (.cells Z 35))
      have hg0 : wr.grownBy ((wr.alloc (.cells Z 35)).setRow wr.heap.size C) none := grown_new (World.grownBy_alloc wr _ none) (setRow_grown _ _ _) (Nat.le_refl _)
      obtain ⟨W0, hW0⟩ : ∃ W0, (wr.alloc (.cells Z 35)).setRow wr.heap.size C = W0 := ⟨_, rfl⟩
      rw [hW0] at hb0 hg0 ⊢
      rw [hq] at hb0 ⊢
      have HG0 := Lib.hid hg0
      have HGW := Lib.hid (World.grownBy.trans HG.out hg0)
      have HOW := Lib.hid (HO.out.stays hg0)
      have HBW := Lib.hid (bld_kept HBD.out hg0)
      have hrow : W0.rangeAt q 0 x.enc := fun j v hv => by rw [Nat.zero_add, cell_in hb0, ← HC.out]; simpa using hv
      have hnm : W0.cell? ⟨q, 0, none⟩ = some (.string x.name) := range_name hrow
      have HVR := Lib.hid (range_ver hrow)
      have HKR := Lib.hid (range_key hrow)
      have HXM := Lib.hid (HMEM.out x (List.mem_of_getElem? HX.out))
      have hcv : ∀ W, W0.grownBy W none → Calls Tryz.prog 24 #[.agg (verC x.v x.sl).toArray] W fun e w' => e = .returned (.string (textS x.v)) ∧ W0.grownBy w' none := fun W hW =>
        (text_any m0 w.heap.size x.v x.sl W (HM.out.stays (World.grownBy.trans HGW.out hW)) (World.grownBy.trans HGW.out hW).size ((HXM.out.stays (World.grownBy.trans HGW.out hW)).ver)).mono fun e w' h => ⟨h.1, World.grownBy.trans hW h.2⟩
      have hch : ∀ W, W0.grownBy W none → Calls Tryz.prog 25 #[.agg (keyC x.key).toArray] W fun e w' => e = .returned (.string (toB (Sha.hexL x.key.toList))) ∧ W0.grownBy w' none := fun W hW => by
        rw [keyC_arr]
        exact (Sha.hex_any x.key W x.hk).mono fun e w' h => ⟨h.1, World.grownBy.trans hW h.2⟩
      clear hg0 hrow hW0 hb0 hq
      have hC0 : W0.grownBy { W0 with drawn := W0.drawn + 1 } none := ⟨rfl, rfl, rfl, Nat.le_refl _, fun _ _ _ => rfl⟩
      refine region_quiet_tail 13 (C := fun w' => W0.grownBy w' none) (by kernel_rfl) (by kernel_rfl) hC0 ?_
      simp only [List.take_succ_cons, List.take_zero, List.drop_succ_cons, List.drop_zero]
      refine wpQuiet_step (fun K hK => ?_)
      go_simp
      refine ⟨_, fun W hW => rfl, hK _ ?_⟩
      clear hK K
      refine wpQuiet_step (fun K hK => ?_)
      go_simp
      refine ⟨.string x.name, fun W hW => ?_, hK _ ?_⟩
      · rw [hW.cell hnm (by simp)]; exact ⟨rfl, rfl⟩
      clear hK K
      refine wpQuiet_step (fun K hK => ?_)
      go_simp
      refine ⟨.string (x.name ++ ⟨#[32]⟩), fun W hW => ?_, hK _ ?_⟩
      · rw [if_neg (by have := HXM.out.name; omega)]; exact ⟨rfl, rfl⟩
      clear hK K
      refine wpQuiet_step (fun K hK => ?_)
      go_simp
      refine ⟨_, fun W hW => rfl, hK _ ?_⟩
      clear hK K
      refine quiet_mid rfl 28 _ rfl q 1 rfl (verC x.v x.sl) _ (fun W hW => range_stays HVR.out hW (by simp)) Tryz.underlying28 rfl infoV_size ?_
      refine wpQuiet_step (fun K hK => ?_)
      go_simp
      refine ⟨.string (textS x.v), fun W hW => hcv W hW, hK _ ?_⟩
      clear hK K
      have hts : (textS x.v).size ≤ 8000100 := textS_size x.v HXM.out.ver.maj.2 HXM.out.ver.min.2 HXM.out.ver.pat.2 HXM.out.ver.sum
      have hns := HXM.out.name
      obtain ⟨T, hT⟩ : ∃ T, textS x.v = T := ⟨_, rfl⟩
      obtain ⟨X, hX⟩ : ∃ X, toB (Sha.hexL x.key.toList) = X := ⟨_, rfl⟩
      obtain ⟨Nm, hNm⟩ : ∃ Nm, x.name = Nm := ⟨_, rfl⟩
      have hxs : X.size = 64 := by rw [← hX, ← data_len, data_toB, Sha.hexL_len, Array.length_toList, x.hk]
      have HLN : Hid (Nm ++ ⟨#[32]⟩ ++ T ++ ⟨#[32]⟩ ++ X ++ ⟨#[10]⟩ = toB (pinL x)) := Lib.hid (by
        apply bytes_ext
        unfold pinL
        rw [data_toB, hNm, hT, ← hX]
        simp [toB])
      rw [hT] at hts ⊢
      rw [hX] at hch
      rw [hNm] at hns ⊢
      clear hT hX hNm hcv
      refine wpQuiet_step (fun K hK => ?_)
      go_simp
      refine ⟨.string (Nm ++ ⟨#[32]⟩ ++ T), fun W hW => ?_, hK _ ?_⟩
      · rw [if_neg (by omega)]; exact ⟨rfl, rfl⟩
      clear hK K
      refine wpQuiet_step (fun K hK => ?_)
      go_simp
      refine ⟨.string (Nm ++ ⟨#[32]⟩ ++ T ++ ⟨#[32]⟩), fun W hW => ?_, hK _ ?_⟩
      · rw [if_neg (by omega)]; exact ⟨rfl, rfl⟩
      clear hK K
      refine wpQuiet_step (fun K hK => ?_)
      go_simp
      refine ⟨_, fun W hW => rfl, hK _ ?_⟩
      clear hK K
      refine quiet_mid rfl 33 _ rfl q 5 rfl (keyC x.key) _ (fun W hW => range_stays HKR.out hW (by simp)) Tryz.underlying33 rfl (by rw [keyC_len]; exact infoK_size) ?_
      refine wpQuiet_step (fun K hK => ?_)
      go_simp
      refine ⟨.string X, fun W hW => hch W hW, hK _ ?_⟩
      clear hK K hch
      refine wpQuiet_step (fun K hK => ?_)
      go_simp
      refine ⟨.string (Nm ++ ⟨#[32]⟩ ++ T ++ ⟨#[32]⟩ ++ X), fun W hW => ?_, hK _ ?_⟩
      · rw [if_neg (by omega)]; exact ⟨rfl, rfl⟩
      clear hK K
      refine wpQuiet_step (fun K hK => ?_)
      go_simp
      refine ⟨.string (Nm ++ ⟨#[32]⟩ ++ T ++ ⟨#[32]⟩ ++ X ++ ⟨#[10]⟩), fun W hW => ?_, hK _ ?_⟩
      · rw [if_neg (by omega)]; exact ⟨rfl, rfl⟩
      clear hK K
      refine wpQuiet_nil ?_
      intro W hW
      rw [HLN.out]
      have HGW2 := Lib.hid (World.grownBy.trans HGW.out hW)
      have HOW2 := Lib.hid (HOW.out.stays hW)
      have HBW2 := Lib.hid (bld_kept HBW.out hW)
      clear hW hC0 hnm
      have hbl := rowT_len LS k HLEN.out
      have hpl := HLEN.out x (List.mem_of_getElem? HX.out)
      have HSN2 : Hid (rowT (LS.take (k + 1)) = rowT (LS.take k) ++ pinL x) := Lib.hid (rowT_snoc LS k x HX.out)
      have hps : (toB (pinL x)).size = (pinL x).length := by rw [← data_len, data_toB]
      have hbk : ∃ cs, W.heap[b]? = some (.cells cs 53 (0, 0)) := by
        rcases HBW2.out with ⟨_, v, h, _⟩ | ⟨_, v, h, _⟩ <;> exact ⟨_, h⟩
      obtain ⟨bcs, hbcs⟩ := hbk
      have HBCS := Lib.hid hbcs
      clear hbcs
      go_wp2_with fail
      (with_reducible refine (bld_write b b _ (toB (pinL x)) W HBW2.out (by rw [Lib.byteCells_length, hps]; omega) (by have := HGW2.out.size; have := HB.out; omega)).mono ?_)
      rintro ee w5 ⟨⟨z5, rfl⟩, hbw, hk5, ho5⟩
      have HG5 : Hid (w.grownBy w5 none) := Lib.hid (grown_of_below ((below_of_grown HGW2.out).trans (HB.out ▸ hk5)))
      have HO5 := Lib.hid (owns_others HOW2.out HBCS.out (by decide) ho5)
      have HB5 : Hid (Lib.IsBuilderF 53 5 b b (Lib.byteCells (rowT (LS.take (k + 1)))) w5) := Lib.hid (by
        rw [HSN2.out, Lib.byteCells_append]
        have e : Lib.byteCells (pinL x) = Lib.strCells (toB (pinL x)) := rfl
        rw [e]
        exact hbw)
      clear hbw hk5 ho5
      dsimp only
      go_wp2
      go_roundw
      case rel => exact ⟨k + 1, by omega, by go_num, HG5, HO5, HB5⟩
      case measure => simp [intOf]; omega
    · obtain rfl : k = n := by omega
      have HBE : Hid (Lib.IsBuilderF 53 5 b b (Lib.byteCells (lockT L)) wr) := Lib.hid (by
        have := HBD.out
        rw [List.take_of_length_le (by rw [HSN.out]; exact Nat.le_refl _), ← HLS.out] at this
        exact this)
      have hne : lockT L ≠ [] := by unfold lockT rowT headL; simp
      go_wp2_with fail
      (with_reducible refine (bld_string b b (lockT L) wr HBE.out hne).mono ?_)
      rintro ee w6 ⟨rfl, hk6⟩
      have HG6 : Hid (w.grownBy w6 none) := Lib.hid (grown_of_below ((below_of_grown HG.out).trans (HB.out ▸ hk6)))
      clear hk6 hne
      dsimp only
      go_wp2
      go_ret
      exact ⟨rfl, HG6.out⟩
end Go.Proofs.YthdopcdllggdaaaGreatDoor
