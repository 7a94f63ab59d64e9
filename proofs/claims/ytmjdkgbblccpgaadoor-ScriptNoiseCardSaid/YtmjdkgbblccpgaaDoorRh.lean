/- The reference's line at any words; what its Parse keeps from line to line. -/
import Derived.Test.YtmjdkgbblccpgaaDoorRc
import Derived.Test.YtmjdkgbblccpgaaDoorRd
import Derived.Test.YtmjdkgbblccpgaaDoorRe
import Derived.Test.YtmjdkgbblccpgaaDoorRf
import Derived.Test.YtmjdkgbblccpgaaDoorRg
import Derived.Test.YtmjdkgbblccpgaaDoorTl
namespace Go.Proofs.YtmjdkgbblccpgaaDoor
open Go.RowKit

theorem kindS_none (x : ByteArray) (hx : ∀ y ∈ keyW, ¬ x = y) : kindS x = -1 := by
  have h : ∀ (L : List ByteArray) (i : Nat), (∀ y ∈ L, ¬ x = y) → kindAt L x i = -1 := by
    intro L
    induction L with
    | nil => intro i _; rfl
    | cons y r ih =>
      intro i hl
      unfold kindAt
      rw [if_neg (fun e => hl y (by simp) e.symm)]
      exact ih (i + 1) (fun z hz => hl z (by simp [hz]))
  exact h keyW 0 hx
theorem refLine_any (x : ByteArray) (V : List ByteArray) (n cp B : Nat) (a0 : Option Addr) (w : World) (hn : V.length = n) (hn8 : n + 1 ≤ 8000000) (hB : B ≤ w.heap.size) (hP0 : PartS w B (.slice a0 (n + 1) cp) (x :: V)) (hs : ∀ y ∈ V, y.size ≤ 1000000) (hne : ∀ y ∈ V, 0 < y.size) :
    Calls Tryd.prog 27 #[.slice a0 (n + 1) cp] w (LineTo (x :: V) w) := by
  by_cases h0 : x = ⟨#[99, 111, 112, 121]⟩
  · subst h0; exact lineR_k0 V n cp B a0 w hn hn8 hB hP0 hs
  by_cases h1 : x = ⟨#[119, 114, 105, 116, 101]⟩
  · subst h1; exact lineR_k1 V n cp B a0 w hn hn8 hB hP0 hs
  by_cases h2 : x = ⟨#[97, 112, 112, 101, 110, 100]⟩
  · subst h2; exact lineR_k2 V n cp B a0 w hn hn8 hB hP0 hs
  by_cases h3 : x = ⟨#[109, 107, 100, 105, 114]⟩
  · subst h3; exact lineR_k3 V n cp B a0 w hn hn8 hB hP0 hs
  by_cases h4 : x = ⟨#[114, 101, 109, 111, 118, 101]⟩
  · subst h4; exact lineR_k4 V n cp B a0 w hn hn8 hB hP0 hs
  by_cases h5 : x = ⟨#[114, 101, 110, 97, 109, 101]⟩
  · subst h5; exact lineR_k5 V n cp B a0 w hn hn8 hB hP0 hs
  by_cases h6 : x = ⟨#[115, 101, 116]⟩
  · subst h6; exact lineR_k6 V n cp B a0 w hn hn8 hB hP0 hs
  by_cases h7 : x = ⟨#[105, 102]⟩
  · subst h7; exact lineR_k7 V n cp B a0 w hn hn8 hB hP0 hs
  by_cases h8 : x = ⟨#[114, 101, 112, 101, 97, 116]⟩
  · subst h8; exact lineR_k8 V n cp B a0 w hn hn8 hB hP0 hs hne
  by_cases h9 : x = ⟨#[101, 108, 115, 101]⟩
  · subst h9; exact lineR_k9 V n cp B a0 w hn hn8 hB hP0 hs
  by_cases h10 : x = ⟨#[101, 110, 100]⟩
  · subst h10; exact lineR_k10 V n cp B a0 w hn hn8 hB hP0 hs
  by_cases h11 : x = ⟨#[102, 97, 105, 108]⟩
  · subst h11; exact lineR_k11 V n cp B a0 w hn hn8 hB hP0 hs
  have hx : ∀ y ∈ keyW, ¬ x = y := by
    intro y hy
    simp only [keyW, List.mem_cons, List.mem_nil_iff, or_false] at hy
    rcases hy with rfl | rfl | rfl | rfl | rfl | rfl | rfl | rfl | rfl | rfl | rfl | rfl <;> assumption
  exact lineR_none x V n cp B a0 w hn hn8 hB hP0 hx (kindS_none x hx)
/-- A word is never empty, and the first one begins with # just where the line is a comment. -/
theorem words_head (f : Nat) : ∀ (l : List UInt8) (L : List (List UInt8)), wordsF f l = some L → ∀ x ∈ L, x ≠ [] := by
  induction f with
  | zero =>
    intro l L h x hx
    simp [wordsF] at h
    subst h
    simp at hx
  | succ f ih =>
    intro l L h
    rw [wordsF_succ] at h
    split at h
    · simp at h
      subst h
      intro x hx
      simp at hx
    · rename_i c r hc
      have hb := trimB_head _ c r hc
      split at h
      · split at h
        · cases h
        · split at h
          · obtain ⟨M, hM, rfl⟩ := Option.map_eq_some_iff.1 h
            intro x hx
            rcases List.mem_cons.1 hx with rfl | hx
            · simp
            · exact ih _ _ hM x hx
          · cases h
      · obtain ⟨M, hM, rfl⟩ := Option.map_eq_some_iff.1 h
        intro x hx
        rcases List.mem_cons.1 hx with rfl | hx
        · unfold plainW
          rw [List.takeWhile_cons, hb]
          simp
        · exact ih _ _ hM x hx
theorem words_first (l : List UInt8) (c : UInt8) (y : List UInt8) (U : List (List UInt8)) (h : wordsL l = some ((c :: y) :: U)) : cmtL l = (c == 35) := by
  unfold wordsL at h
  rw [wordsF_succ] at h
  unfold cmtL
  split at h
  · simp at h
  · rename_i d r hd
    rw [hd]
    have hb := trimB_head _ d r hd
    split at h
    · rename_i h34
      subst h34
      split at h
      · cases h
      · split at h
        · obtain ⟨M, hM, h2⟩ := Option.map_eq_some_iff.1 h
          injection h2 with h3 _
          injection h3 with h4 _
          rw [← h4]
        · cases h
    · obtain ⟨M, hM, h2⟩ := Option.map_eq_some_iff.1 h
      injection h2 with h3 _
      unfold plainW at h3
      rw [List.takeWhile_cons, hb] at h3
      simp only [Bool.not_false, if_true] at h3
      injection h3 with h4 _
      rw [← h4]
/-- The reference's marks of what is open. -/
def cvI (k : Int) : Int := if k = 7 then 0 else if k = 9 then 1 else 2
structure PR (P : List ByteArray) (r : Nat ⊕ List Ln) (w wr : World) (base B k m n cp no cpo ci : Nat) (ad ao ai : Option Addr) (out : List Ln) (op : List Int) : Prop where
  g : w.grownBy wr none
  ol : OwnsL wr base (.slice ao m cpo) out
  oi : OwnsI wr base (.slice ai no ci) (op.map cvI)
  pt : PartS wr B (.slice ad n cp) P
  eq : r = parseS (P.drop k) k out op
  lm : out.length = m
  ln : op.length = no
  lk : no ≤ k
  wb : w.heap.size ≤ base
  Bb : B ≤ base
  br : base ≤ wr.heap.size
  kd : ∀ x ∈ op, x = 7 ∨ x = 8 ∨ x = 9
theorem PR.stays {P : List ByteArray} {r : Nat ⊕ List Ln} {w wr w' : World} {base B k m n cp no cpo ci : Nat} {ad ao ai : Option Addr} {out : List Ln} {op : List Int} (h : PR P r w wr base B k m n cp no cpo ci ad ao ai out op) (hg : wr.grownBy w' none) : PR P r w w' base B k m n cp no cpo ci ad ao ai out op :=
  ⟨World.grownBy.trans h.g hg, h.ol.stays hg, h.oi.stays hg, h.pt.stays hg, h.eq, h.lm, h.ln, h.lk, h.wb, h.Bb, Nat.le_trans h.br hg.size, h.kd⟩
theorem PR.next {P : List ByteArray} {r : Nat ⊕ List Ln} {w wr : World} {base B k m n cp no cpo ci : Nat} {ad ao ai : Option Addr} {out : List Ln} {op : List Int} (h : PR P r w wr base B k m n cp no cpo ci ad ao ai out op) (e : parseS (P.drop k) k out op = parseS (P.drop (k + 1)) (k + 1) out op) : PR P r w wr base B (k + 1) m n cp no cpo ci ad ao ai out op :=
  ⟨h.g, h.ol, h.oi, h.pt, h.eq.trans e, h.lm, h.ln, Nat.le_succ_of_le h.lk, h.wb, h.Bb, h.br, h.kd⟩
theorem PR.start {P : List ByteArray} {w w1 : World} {n cp : Nat} {ad : Option Addr} (hP : PartS w1 w1.heap.size (.slice ad n cp) P) (hg : w.grownBy w1 none) : PR P (parseS P 0 [] []) w w1 w1.heap.size w1.heap.size 0 0 n cp 0 0 0 ad none none [] [] :=
  ⟨hg, OwnsL.nil _ _, OwnsI.nil _ _, hP, rfl, rfl, rfl, Nat.le_refl _, hg.size, Nat.le_refl _, Nat.le_refl _, fun x hx => by simp at hx⟩
theorem OwnsL.beside {w w' : World} {b c : Nat} {v u : Value} {L : List Ln} {M : List Int} (h : OwnsL w b v L) (h2 : OwnsI w c u M) (hg : w.grownBy w' u.ownBlock) : OwnsL w' b v L :=
  World.ownsRow.kept h hg (by
    cases e : v.ownBlock with
    | none => exact .inl rfl
    | some q => exact .inr (fun e2 => h.apart h2 q e (by first | exact e2 | exact e2.symm)))
theorem OwnsI.beside {w w' : World} {b c : Nat} {v u : Value} {L : List Ln} {M : List Int} (h : OwnsL w b v L) (h2 : OwnsI w c u M) (hg : w.grownBy w' v.ownBlock) : OwnsI w' c u M :=
  World.ownsRow.kept h2 hg (by
    cases e : v.ownBlock with
    | none =>
      cases e2 : u.ownBlock with
      | none => exact .inl rfl
      | some q => exact .inr (by simp)
    | some q => exact .inr (h.apart h2 q e))
theorem OwnsI.grown7 {w w1 w2 : World} {base : Nat} {v : Value} {L : List Int} (h : OwnsI w1 base v L) (hb : w.heap.size ≤ base) (h1 : w.grownBy w1 none) (h2 : w1.grownBy w2 v.ownBlock) : w.grownBy w2 none := by
  cases e : v.ownBlock with
  | none => rw [e] at h2; exact World.grownBy.trans h1 h2
  | some k => rw [e] at h2; exact grown_new h1 h2 (Nat.le_trans hb (h.block_lt k e).1)
theorem PR.push {P : List ByteArray} {r : Nat ⊕ List Ln} {w w6 w7 w8 : World} {base B k m n cp no cpo ci : Nat} {ad ao ai : Option Addr} {out : List Ln} {op M : List Int} {v7 v8 : Value} {l : Ln} {o : Obj} (h : PR P r w w6 base B k m n cp no cpo ci ad ao ai out op)
    (hg7 : w6.grownBy w7 (Value.slice ai no ci).ownBlock) (ho7 : OwnsI w7 base v7 (M.map cvI)) (hol8 : OwnsL w8 base v8 (out ++ [l])) (hg8 : (w7.alloc o).grownBy w8 (Value.slice ao m cpo).ownBlock) (hM : M.length ≤ no + 1) (hkd : ∀ x ∈ M, x = 7 ∨ x = 8 ∨ x = 9) (eq : r = parseS (P.drop (k + 1)) (k + 1) (out ++ [l]) M) :
    ∃ a8 c8 a9 n9 c9, v8 = .slice a8 (m + 1) c8 ∧ c8 ≤ maxLen ∧ v7 = .slice a9 n9 c9 ∧ n9 ≤ k + 1 ∧ PR P r w w8 base B (k + 1) (m + 1) n cp n9 c8 c9 ad a8 a9 (out ++ [l]) M := by
  have g7 := h.oi.grown7 h.wb h.g hg7
  have ol7 := h.ol.beside h.oi hg7
  have hrI : ∀ q, (Value.slice ai no ci).ownBlock = some q → base ≤ q := fun q e => (h.oi.block_lt q e).1
  have pt7 := h.pt.grown hg7 (fun q e => Nat.le_trans h.Bb (hrI q e))
  have ga := World.grownBy_alloc w7 o none
  have g7a := World.grownBy.trans g7 ga
  obtain ⟨a8, c8, e8, _, hc8⟩ := hol8.form
  have el : (out ++ [l]).length = m + 1 := by rw [List.length_append, h.lm]; rfl
  rw [el] at e8
  obtain ⟨a9, c9, e9, _, _⟩ := ho7.form
  rw [List.length_map] at e9
  subst e9
  have hlk := h.lk
  have hrow : ∀ q, (Value.slice ao m cpo).ownBlock = some q → base ≤ q := fun q e => (ol7.block_lt q e).1
  refine ⟨a8, c8, a9, M.length, c9, e8, hc8, rfl, by omega, ⟨(ol7.alloc o).grown h.wb g7a hg8, by rw [← e8]; exact hol8, OwnsI.beside (ol7.alloc o) (ho7.alloc o) hg8, (pt7.stays ga).grown hg8 (fun q e => Nat.le_trans h.Bb (hrow q e)), eq, el, rfl, by omega, h.wb, h.Bb, ?_, hkd⟩⟩
  have := hg8.size
  have := hg7.size
  have := h.br
  rw [alloc_size] at *
  omega
end Go.Proofs.YtmjdkgbblccpgaaDoor
