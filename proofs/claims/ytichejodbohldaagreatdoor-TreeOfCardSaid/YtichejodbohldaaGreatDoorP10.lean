/- Texts of one ground, in one file: Gk Gl Gm Gs. -/
import Derived.Test.YtichejodbohldaaGreatDoorP9
import Derived.Shelf.SlSortCmp.WholeK
import Derived.Shelf.SlSortCmp.NoneTotal
import Derived.Shelf.SlGeneric
import Derived.Shelf.Small.Bits
import Derived.Shelf.Strings.Search1
import Derived.Shelf.Strings.Search2
import Derived.Shelf.Strings.Search3
import Derived.Shelf.LaysM
import Derived.Shelf.Strings.Shaped
import Derived.Shelf.Sort.Plain
import Derived.Shelf.Strings.LastIndex
import Derived.Shelf.Strings.Prefix
import Derived.Shelf.Strings.Split
import Derived.Shelf.Strings.SplitShaped
import Derived.Shelf.Slices.In.SortNone
import Derived.Test.YtichejodbohldaaGreatDoorRows
namespace Go.Proofs.YtichejodbohldaaGreatDoor
open Go.RowKit Go.Maps
set_option maxRecDepth 1000000
set_option maxHeartbeats 8000000 in
theorem put_no (tb mb : Nat) (X : As Gn) (L : List ByteArray) (k : Nat) (hk : L.length = k + 1) (ao : Option Addr) (mo co : Nat) (ab : Option Addr) (nb cb : Nat) (w : World) (h : TreeIn w tb mb X) (hL : Parts L)
    (hX : X.length ≤ 800000) (hs : sizeT (nds X) ≤ 10000000) (hmo2 : mo ≤ 1000000) (hnb2 : nb ≤ 1000000) (hfit : fitsT (nds X) L k (mo + nb) = false) :
    Calls Tryz.prog 44 #[.pointer (some ⟨tb, 0, none⟩), .string (upL L (k + 1)), .slice ao mo co, .slice ab nb cb] w fun e w' => e = .returned (.int .i64 55) ∧ w.grownBy w' none := by
  have HT : Hid (TreeIn w tb mb X) := Lib.hid h
  have hlen : (nds X).length = X.length := mapA_len _ _
  have hps := hL.small (k + 1) (by omega)
  have hk12 : k ≤ 11 := by have := hL.len; omega
  have hlack := lackN_le (nds X) L k
  obtain ⟨o, hoe⟩ : ∃ o, oldT (nds X) (upL L (k + 1)) = o := ⟨_, rfl⟩
  obtain ⟨d, ad, cd, hn, _⟩ := h.node (upL L (k + 1))
  have hold := old_le (nds X) (upL L (k + 1))
  unfold oldT at hoe
  rw [hoe] at hn hold
  have F1 := field1
  unfold fitsT oldT at hfit
  rw [hoe, hlen] at hfit
  obtain ⟨lk, hlk⟩ : ∃ lk, lackN (nds X) L k = lk := ⟨_, rfl⟩
  rw [hlk] at hlack
  obtain ⟨p, hp⟩ : ∃ p, upL L (k + 1) = p := ⟨_, rfl⟩
  obtain ⟨q, hq⟩ : ∃ q, upL L k = q := ⟨_, rfl⟩
  have HLK : Hid (∀ w', w.grownBy w' none → Calls Tryz.prog 54 #[.pointer (some ⟨tb, 0, none⟩), .string q] w' fun e w1 => e = .returned (.int .i64 (lk : Int)) ∧ w'.grownBy w1 none) := Lib.hid fun w' hg => by rw [← hlk, ← hq]; exact lacking_any tb mb X L w' (h.stays hg) hL k (by omega)
  have HPA : Hid (∀ w', Calls Tryz.prog 72 #[.string p] w' fun e w1 => e = .returned (.string q) ∧ w' = w1) := Lib.hid fun w' => by rw [← hp, ← hq]; exact (parent_at L hL k (by omega) w').mono fun e w1 h => ⟨h.1, h.2.symm⟩
  unfold moreT at hfit
  rw [hlk, hp] at hfit
  rw [hp] at hn hps
  have hl : ∀ w' : World, w.grownBy w' none → (Instr.lookup 70 (.map (some mb)) (.string p) false).run Tryz.prog w' = .ok (.agg #[.bool d, .slice ad o cd]) w' := fun w' hg => by rw [(h.stays hg).look p (by omega), hn]
  have HLO := Lib.hid hl
  rw [hp]
  clear hl hn hoe hlen h hL hlk hp hq
  by_cases hlong : 65536 < mo + nb
  · have d1 : decide ((65536 : Int) < (mo : Int) + (nb : Int)) = true := by simp; omega
    clear hfit
    cases hf : hasT (nds X) p with
    | true =>
      have HF := Lib.hid hf
      clear hf
      go_enter Tryz.func44, Tryz.ntmps44
      go_wp2_with fail
      (with_reducible refine (HPA.out _).mono ?_)
      rintro e w1 ⟨rfl, rfl⟩
      dsimp only
      go_wp2_with fail
      (with_reducible refine (HLK.out _ (World.grownBy.refl _ _)).mono ?_)
      rintro e w2 ⟨rfl, hg⟩
      dsimp only
      have HG2 := Lib.hid hg
      clear hg
      go_wp2_with fail
      (with_reducible refine (has_at tb mb X p _ true (HT.out.stays HG2.out) (by omega) HF.out).mono ?_)
      rintro e w3 ⟨rfl, hg⟩
      dsimp only
      have HG3 := Lib.hid (World.grownBy.trans HG2.out hg)
      clear hg
      go_wp2
      go_ret
      exact ⟨rfl, HG3.out⟩
    | false =>
      have HF := Lib.hid hf
      clear hf
      go_enter Tryz.func44, Tryz.ntmps44
      go_wp2_with fail
      (with_reducible refine (HPA.out _).mono ?_)
      rintro e w1 ⟨rfl, rfl⟩
      dsimp only
      go_wp2_with fail
      (with_reducible refine (HLK.out _ (World.grownBy.refl _ _)).mono ?_)
      rintro e w2 ⟨rfl, hg⟩
      dsimp only
      have HG2 := Lib.hid hg
      clear hg
      go_wp2_with fail
      (with_reducible refine (has_at tb mb X p _ false (HT.out.stays HG2.out) (by omega) HF.out).mono ?_)
      rintro e w3 ⟨rfl, hg⟩
      dsimp only
      have HG3 := Lib.hid (World.grownBy.trans HG2.out hg)
      clear hg
      go_wp2
      go_ret
      exact ⟨rfl, HG3.out⟩
  · have d1 : decide ((65536 : Int) < (mo : Int) + (nb : Int)) = false := by simp; omega
    rw [decide_eq_true (show mo + nb ≤ 65536 by omega), Bool.true_and] at hfit
    cases hf : hasT (nds X) p with
    | true =>
      have HF := Lib.hid hf
      rw [hf] at hfit
      have HR : Hid (∀ w', w.grownBy w' none → Calls Tryz.prog 53 #[.pointer (some ⟨tb, 0, none⟩), .int .i64 (lk : Int), .int .i64 ((mo : Int) + (nb : Int) - (o : Int))] w' fun e w1 => e = .returned (.bool false) ∧ w' = w1) := Lib.hid fun w' hg =>
        (room_any tb mb X lk _ w' (HT.out.stays hg) (by omega) (by omega) (by omega) (by omega) false (by rw [← hfit]; simp)).mono fun e w1 h => ⟨h.1, h.2.symm⟩
      clear hf hfit
      go_enter Tryz.func44, Tryz.ntmps44
      go_wp2_with fail
      (with_reducible refine (HPA.out _).mono ?_)
      rintro e w1 ⟨rfl, rfl⟩
      dsimp only
      go_wp2_with fail
      (with_reducible refine (HLK.out _ (World.grownBy.refl _ _)).mono ?_)
      rintro e w2 ⟨rfl, hg⟩
      dsimp only
      have HG2 := Lib.hid hg
      clear hg
      go_wp2_with fail
      (with_reducible refine (has_at tb mb X p _ true (HT.out.stays HG2.out) (by omega) HF.out).mono ?_)
      rintro e w3 ⟨rfl, hg⟩
      dsimp only
      have HG3 := Lib.hid (World.grownBy.trans HG2.out hg)
      clear hg
      have hl := HLO.out w3 HG3.out
      have b0 : w3.cell? ⟨tb, 0, none⟩ = some (.map (some mb)) := (HT.out.stays HG3.out).cells.1
      go_wp2_with fail
      (with_reducible refine (HR.out _ HG3.out).mono ?_)
      rintro e w4 ⟨rfl, rfl⟩
      dsimp only
      clear hl b0
      go_wp2
      go_ret
      exact ⟨rfl, HG3.out⟩
    | false =>
      have HF := Lib.hid hf
      rw [hf] at hfit
      have HR : Hid (∀ w', w.grownBy w' none → Calls Tryz.prog 53 #[.pointer (some ⟨tb, 0, none⟩), .int .i64 ((lk : Int) + 1), .int .i64 ((mo : Int) + (nb : Int) - (o : Int))] w' fun e w1 => e = .returned (.bool false) ∧ w' = w1) := Lib.hid fun w' hg =>
        (room_any tb mb X (lk + 1) _ w' (HT.out.stays hg) (by omega) (by omega) (by omega) (by omega) false (by rw [← hfit]; simp)).mono fun e w1 h => ⟨h.1, h.2.symm⟩
      clear hf hfit
      go_enter Tryz.func44, Tryz.ntmps44
      go_wp2_with fail
      (with_reducible refine (HPA.out _).mono ?_)
      rintro e w1 ⟨rfl, rfl⟩
      dsimp only
      go_wp2_with fail
      (with_reducible refine (HLK.out _ (World.grownBy.refl _ _)).mono ?_)
      rintro e w2 ⟨rfl, hg⟩
      dsimp only
      have HG2 := Lib.hid hg
      clear hg
      go_wp2_with fail
      (with_reducible refine (has_at tb mb X p _ false (HT.out.stays HG2.out) (by omega) HF.out).mono ?_)
      rintro e w3 ⟨rfl, hg⟩
      dsimp only
      have HG3 := Lib.hid (World.grownBy.trans HG2.out hg)
      clear hg
      have hl := HLO.out w3 HG3.out
      have b0 : w3.cell? ⟨tb, 0, none⟩ = some (.map (some mb)) := (HT.out.stays HG3.out).cells.1
      go_wp2_with fail
      (with_reducible refine (HR.out _ HG3.out).mono ?_)
      rintro e w4 ⟨rfl, rfl⟩
      dsimp only
      clear hl b0
      go_wp2
      go_ret
      exact ⟨rfl, HG3.out⟩
end Go.Proofs.YtichejodbohldaaGreatDoor
namespace Go.Proofs.YtichejodbohldaaGreatDoor
open Go.RowKit Go.Maps
set_option maxRecDepth 1000000
/-- The tree M, at tb, in blocks of S alone. -/
def TreeAt (w : World) (tb : Nat) (M : Tr) (S : Nat → Prop) : Prop := (∃ mb X, TreeIn w tb mb X ∧ nds X = M ∧ ∀ k, Own tb mb X k → S k) ∧ ∀ k, S k → k < w.heap.size
/-- The blocks of S, and those that are new. -/
def Grow (w w' : World) (S : Nat → Prop) (k : Nat) : Prop := (S k ∨ w.heap.size ≤ k) ∧ k < w'.heap.size
theorem TreeAt.keeps {w w' : World} {tb : Nat} {M : Tr} {S T : Nat → Prop} (h : TreeAt w tb M S) (hk : Kept w w' T) (hT : ∀ k, S k → ¬ T k) : TreeAt w' tb M S := by
  obtain ⟨⟨mb, X, h1, h2, h3⟩, h4⟩ := h
  exact ⟨⟨mb, X, h1.keeps hk fun k hk => hT k (h3 k hk), h2, h3⟩, fun k hk2 => Nat.lt_of_lt_of_le (h4 k hk2) hk.size⟩
theorem TreeAt.grow {w w' w'' : World} {tb : Nat} {M : Tr} {S : Nat → Prop} (h : TreeAt w' tb M (Grow w w' S)) (hg : w'.grownBy w'' none) : TreeAt w'' tb M (Grow w w'' S) := by
  obtain ⟨⟨mb, X, h1, h2, h3⟩, h4⟩ := h
  exact ⟨⟨mb, X, h1.stays hg, h2, fun k hk => ⟨(h3 k hk).1, Nat.lt_of_lt_of_le (h3 k hk).2 hg.size⟩⟩, fun k hk => hk.2⟩
theorem TreeAt.start {w : World} {tb : Nat} {M : Tr} {S : Nat → Prop} (h : TreeAt w tb M S) {w' : World} (hg : w.grownBy w' none) : TreeAt w' tb M (Grow w w' S) := by
  obtain ⟨⟨mb, X, h1, h2, h3⟩, h4⟩ := h
  exact ⟨⟨mb, X, h1.stays hg, h2, fun k hk => ⟨.inl (h3 k hk), Nat.lt_of_lt_of_le (h4 k (h3 k hk)) hg.size⟩⟩, fun k hk => hk.2⟩
/-- The rules of a tree. -/
structure Inv (M : Tr) : Prop where
  asc : AscA M
  len : M.length ≤ 500
  size : sizeT M ≤ 1048576
  key : ∀ e ∈ M, (∃ L k, e.1 = Pth.joinB L ∧ Parts L ∧ L.length = k + 1) ∧ e.2.b.length ≤ 65536 ∧ (e.2.dir = true → e.2.b = [])
  up : ∀ L i j, Parts L → i < j → j ≤ L.length → 0 < i → (getA M (upL L j)).isSome = true → ∃ n, getA M (upL L i) = some n ∧ n.dir = true
def bytesT (M : Tr) (p : ByteArray) : List UInt8 := ((getA M p).map (·.b)).getD []
/-- What a file's bytes are made, and what is told. -/
def putS (M : Tr) (s : ByteArray) (f : List UInt8 → List UInt8) : Int × Tr :=
  if ¬ (fileS M s).2 = 0 then ((fileS M s).2, M) else
  if fitsT M (Pth.partsS (fileS M s).1) ((Pth.partsS (fileS M s).1).length - 1) (f (bytesT M (fileS M s).1)).length = true then
    (0, putA (mkN M (Pth.partsS (fileS M s).1) ((Pth.partsS (fileS M s).1).length - 1)) (fileS M s).1 ⟨false, f (bytesT M (fileS M s).1)⟩) else (55, M)
theorem file_ways (M : Tr) (s : ByteArray) : (∃ L k, fileS M s = (upL L (k + 1), 0) ∧ Parts L ∧ L.length = k + 1 ∧ dirT M (upL L (k + 1)) = false ∧ fileN M L (k + 1) = false) ∨ (∃ q, fileS M s = (E0, q) ∧ ¬ q = 0 ∧ 0 ≤ q ∧ q ≤ 100) := by
  rcases clean_ways s with ⟨L, hc, hL⟩ | ⟨q, hc, hq⟩
  · rw [fileS_at M s L hc hL]
    cases h1 : dirT M (Pth.joinB L) with
    | true => exact .inr ⟨54, by simp, by omega, by omega, by omega⟩
    | false =>
      cases h2 : aheadT M L with
      | true => exact .inr ⟨54, by simp, by omega, by omega, by omega⟩
      | false =>
        left
        obtain ⟨k, hk⟩ : ∃ k, L.length = k + 1 := by
          cases L with
          | nil =>
            have : dirT M (Pth.joinB []) = true := by unfold dirT; rw [decide_eq_true (show Pth.joinB [] = E0 from rfl)]; rfl
            rw [this] at h1; cases h1
          | cons x r => exact ⟨r.length, rfl⟩
        refine ⟨L, k, ?_, hL, hk, ?_, ?_⟩
        · rw [← hk, upL_all]; simp
        · rw [← hk, upL_all]; exact h1
        · unfold aheadT at h2; rw [← hk]; exact h2
  · exact .inr ⟨q, fileS_bad M s q hc hq.1, hq⟩
theorem putS_bad {M : Tr} {s : ByteArray} {q : Int} (h : fileS M s = (E0, q)) (hq : ¬ q = 0) (f : List UInt8 → List UInt8) : putS M s f = (q, M) := by
  unfold putS; rw [h, if_pos hq]
theorem putS_at {M : Tr} {s : ByteArray} {L : List ByteArray} {k : Nat} (h : fileS M s = (upL L (k + 1), 0)) (hL : Parts L) (hk : L.length = k + 1) (f : List UInt8 → List UInt8) :
    putS M s f = if fitsT M L k (f (bytesT M (upL L (k + 1)))).length = true then (0, putA (mkN M L k) (upL L (k + 1)) ⟨false, f (bytesT M (upL L (k + 1)))⟩) else (55, M) := by
  have e : Pth.partsS (upL L (k + 1)) = L := by rw [← hk, upL_all]; exact Pth.parts_join L hL.part
  unfold putS
  rw [h, if_neg (by simp), e, show L.length - 1 = k by omega]
theorem new_tree (w : World) : TreeAt ((w.alloc (.map #[] 0)).alloc (.cells #[.map (some w.heap.size), .int .i64 0] 72)) (w.heap.size + 1) []
    (Grow w ((w.alloc (.map #[] 0)).alloc (.cells #[.map (some w.heap.size), .int .i64 0] 72)) fun _ => False) := by
  have hz : (w.alloc (.map #[] 0)).heap.size = w.heap.size + 1 := alloc_size _ _
  refine ⟨⟨w.heap.size, [], ⟨?_, ?_, fun e he => (by cases he), List.Pairwise.nil⟩, rfl, fun k hk => ?_⟩, fun k hk => hk.2⟩
  · have := bk_alloc (w.alloc (.map #[] 0)) (.cells #[.map (some w.heap.size), .int .i64 0] 72)
    rw [hz] at this
    exact this
  · exact (map_made w).keeps (Kept.ofNone (World.grownBy_alloc _ _ _) fun _ => False) (fun e => e)
  · rcases hk with rfl | rfl | ⟨e, he, _⟩
    · exact ⟨.inr (by omega), by rw [alloc_size, hz]; omega⟩
    · exact ⟨.inr (Nat.le_refl _), by rw [alloc_size, hz]; omega⟩
    · cases he
theorem new_any (w : World) : Calls Tryz.prog 13 #[] w fun e w' => ∃ tb, e = .returned (.pointer (some ⟨tb, 0, none⟩)) ∧ w.heap.size ≤ tb ∧ TreeAt w' tb [] (Grow w w' fun _ => False) ∧ w.grownBy w' none := by
  have hmm := @run_makeMap Tryz.prog
  go_enter Tryz.func13, Tryz.ntmps13
  go_wp2_with fail
  go_ret
  exact ⟨w.heap.size + 1, rfl, Nat.le_succ _, new_tree w, World.grownBy.trans (World.grownBy_alloc _ _ _) (World.grownBy_alloc _ _ _)⟩
/-- What Write and Append leave. -/
def PutsRet (tb : Nat) (R : Int × Tr) (w : World) (S : Nat → Prop) (e : Ending) (w' : World) : Prop := e = .returned (.int .i64 R.1) ∧ TreeAt w' tb R.2 (Grow w w' S) ∧ Kept w w' S
theorem puts_of {tb mb : Nat} {X : As Gn} {S : Nat → Prop} {w0 w w' : World} {L : List ByteArray} {k : Nat} {old : Value} {b : List UInt8} {e : Ending} (hp : PutRet tb mb X L k old b w e w') (g0 : w0.grownBy w none) (h3 : ∀ k, Own tb mb X k → S k) (_h4 : ∀ k, S k → k < w0.heap.size) (ho : ∀ k, old.ownBlock = some k → Own tb mb X k) :
    PutsRet tb (0, putA (mkN (nds X) L k) (upL L (k + 1)) ⟨false, b⟩) w0 S e w' := by
  obtain ⟨h1, v, ht, hk, hl⟩ := hp
  have hk2 : Kept w0 w' S := (Kept.ofNone g0 S).trans (hk.mono fun i _ e => h3 i e) fun i e => .inl e
  refine ⟨h1, ⟨⟨mb, _, ht, by rw [nds_put, nds_mk], fun i hi => ⟨?_, ht.own_lt hi⟩⟩, fun i hi => hi.2⟩, hk2⟩
  rcases hi with rfl | rfl | ⟨e, he, hi⟩
  · exact .inl (h3 _ (.inl rfl))
  · exact .inl (h3 _ (.inr (.inl rfl)))
  · rcases mem_put he with rfl | he
    · rcases hl with hl | ⟨j, hj, hl⟩
      · exact .inl (h3 _ (ho i (hl ▸ hi)))
      · have hi2 : v.ownBlock = some i := hi
        rw [hl] at hi2
        have := Option.some.inj hi2
        have := g0.size
        exact .inr (by omega)
    · rcases mem_mk L k X e he with he | he
      · exact .inl (h3 _ (.inr (.inr ⟨e, he, hi⟩)))
      · rw [he] at hi; cases hi
theorem puts_same {tb mb : Nat} {X : As Gn} {S : Nat → Prop} {w w' : World} {q : Int} (h : TreeIn w tb mb X) (h3 : ∀ k, Own tb mb X k → S k) (h4 : ∀ k, S k → k < w.heap.size) (hg : w.grownBy w' none) : PutsRet tb (q, nds X) w S (.returned (.int .i64 q)) w' :=
  ⟨rfl, TreeAt.start ⟨⟨mb, X, h, rfl, h3⟩, h4⟩ hg, Kept.ofNone hg S⟩
set_option maxHeartbeats 4000000 in
theorem write_any (tb : Nat) (M : Tr) (S : Nat → Prop) (s : ByteArray) (m : Int) (ab : Option Addr) (nb cb : Nat) (lb : List UInt8) (w : World) (h : TreeAt w tb M S) (hI : Inv M) (hm : w.cell? ⟨0, 0, none⟩ = some (.int .i64 m))
    (hb : Lie w S (.slice ab nb cb) lb) (hnb : lb.length = nb) (hn2 : nb ≤ 1000000) :
    Calls Tryz.prog 14 #[.pointer (some ⟨tb, 0, none⟩), .string s, .slice ab nb cb] w (PutsRet tb (putS M s fun _ => lb) w S) := by
  obtain ⟨⟨mb, X, ht, rfl, h3⟩, h4⟩ := h
  have HT := Lib.hid ht
  have HM := Lib.hid hm
  have H3 := Lib.hid h3
  have H4 := Lib.hid h4
  have hx : X.length ≤ 500 := by have := hI.len; rw [mapA_len] at this; exact this
  have hsz := hI.size
  rcases file_ways (nds X) s with ⟨L, k, hf, hL, hk, _, _⟩ | ⟨q, hf, hq, hq1, hq2⟩
  · rw [putS_at hf hL hk]
    have HF := Lib.hid hf
    cases hfit : fitsT (nds X) L k lb.length with
    | true =>
      have HY : Hid (∀ w', w.grownBy w' none → Calls Tryz.prog 44 #[.pointer (some ⟨tb, 0, none⟩), .string (upL L (k + 1)), .slice none 0 0, .slice ab nb cb] w' (PutRet tb mb X L k (.slice none 0 0) ([] ++ lb) w')) := Lib.hid fun w' hg =>
        put_yes tb mb X L k hk none 0 0 [] ab nb cb lb w' (ht.stays hg) hL (Owns.nil _ _) rfl (fun j hj => by cases hj) (fun j hj => by cases hj) ((hb.less fun k hk => h3 k hk).keeps (Kept.ofNone hg fun _ => False) (fun _ e => e.elim)) hnb (by omega) (by omega) (by omega) hn2 (by rw [Nat.zero_add, ← hnb]; exact hfit)
      clear ht hm h3 h4 hI hb hf hL hk hnb hsz hx hn2 hfit
      rw [if_pos rfl]
      go_enter Tryz.func14, Tryz.ntmps14
      go_wp2_with fail
      (with_reducible refine (file_any tb mb X s m _ HT.out HM.out _ _ HF.out).mono ?_)
      rintro e w1 ⟨rfl, hg⟩
      dsimp only
      have HG := Lib.hid hg
      clear hg
      go_wp2_with fail
      (with_reducible refine (HY.out _ HG.out).mono ?_)
      intro e w2 hp
      have HP := Lib.hid (puts_of hp HG.out H3.out H4.out (fun k hk => by cases hk))
      obtain rfl := hp.1
      clear hp
      dsimp only
      go_wp2
      go_ret
      exact HP.out
    | false =>
      have HN : Hid (∀ w', w.grownBy w' none → Calls Tryz.prog 44 #[.pointer (some ⟨tb, 0, none⟩), .string (upL L (k + 1)), .slice none 0 0, .slice ab nb cb] w' fun e w1 => e = .returned (.int .i64 55) ∧ w'.grownBy w1 none) := Lib.hid fun w' hg =>
        put_no tb mb X L k hk none 0 0 ab nb cb w' (ht.stays hg) hL (by omega) (by omega) (by omega) hn2 (by rw [Nat.zero_add, ← hnb]; exact hfit)
      clear ht hm h3 h4 hI hb hf hL hk hnb hsz hx hn2 hfit
      rw [if_neg (by simp)]
      go_enter Tryz.func14, Tryz.ntmps14
      go_wp2_with fail
      (with_reducible refine (file_any tb mb X s m _ HT.out HM.out _ _ HF.out).mono ?_)
      rintro e w1 ⟨rfl, hg⟩
      dsimp only
      have HG := Lib.hid hg
      clear hg
      go_wp2_with fail
      (with_reducible refine (HN.out _ HG.out).mono ?_)
      rintro e w2 ⟨rfl, hg⟩
      dsimp only
      have HG2 := Lib.hid (World.grownBy.trans HG.out hg)
      clear hg
      go_wp2
      go_ret
      exact puts_same HT.out H3.out H4.out HG2.out
  · rw [putS_bad hf hq]
    have HF := Lib.hid hf
    have q4 : (q != 0) = true := by simp [hq]
    have q5 : (q == 0) = false := by simp [hq]
    clear ht hm h3 h4 hI hb hf hnb hsz hx hn2
    go_enter Tryz.func14, Tryz.ntmps14
    go_wp2_with fail
    (with_reducible refine (file_any tb mb X s m _ HT.out HM.out _ _ HF.out).mono ?_)
    rintro e w1 ⟨rfl, hg⟩
    dsimp only
    have HG := Lib.hid hg
    clear hg
    go_wp2
    go_ret
    exact puts_same HT.out H3.out H4.out HG.out
end Go.Proofs.YtichejodbohldaaGreatDoor
namespace Go.Proofs.YtichejodbohldaaGreatDoor
open Go.RowKit Go.Maps
set_option maxRecDepth 1000000
theorem TreeIn.others {w : World} {tb mb : Nat} {X : As Gn} (h : TreeIn w tb mb X) {p : ByteArray} {g : Gn} (hg : getA X p = some g) (j : Nat) (hj : g.v.ownBlock = some j) : ∀ e ∈ X, ¬ e.1 = p → e.2.v.ownBlock ≠ some j := by
  intro e he hne e2
  have hp := mem_get hg
  obtain ⟨i1, h1, e1⟩ := List.getElem_of_mem he
  obtain ⟨i2, h2, e3⟩ := List.getElem_of_mem hp
  have hw := List.pairwise_iff_getElem.1 h.apart
  rcases Nat.lt_trichotomy i1 i2 with hlt | heq | hlt
  · have := hw i1 i2 h1 h2 hlt j (by rw [e1]; exact e2)
    rw [e3] at this; exact this hj
  · subst heq; rw [e1] at e3; exact hne (by rw [e3])
  · have := hw i2 i1 h2 h1 hlt j (by rw [e3]; exact hj)
    rw [e1] at this; exact this e2
/-- What stands at a path, as a slice. -/
theorem TreeIn.old {w : World} {tb mb : Nat} {X : As Gn} (h : TreeIn w tb mb X) (p : ByteArray) : ∃ d ao mo co, ((getA X p).map Gn.val).getD zeroNode = .agg #[.bool d, .slice ao mo co] ∧ Owns w 0 (.slice ao mo co) (bytesT (nds X) p) ∧ (bytesT (nds X) p).length = mo ∧
    (∀ j, (Value.slice ao mo co).ownBlock = some j → ∀ e ∈ X, ¬ e.1 = p → e.2.v.ownBlock ≠ some j) ∧ (∀ j, (Value.slice ao mo co).ownBlock = some j → Own tb mb X j) := by
  unfold bytesT
  rw [nds_get]
  cases hg : getA X p with
  | none =>
    refine ⟨false, none, 0, 0, rfl, Owns.nil _ _, rfl, ?_, ?_⟩
    · intro j hj; simp [Value.ownBlock] at hj
    · intro j hj; simp [Value.ownBlock] at hj
  | some g =>
    obtain ⟨a, c, hv⟩ := h.slice hg
    refine ⟨g.nd.dir, a, g.nd.b.length, c, by simp [Gn.val, hv], ?_, rfl, ?_, ?_⟩
    · rw [← hv]; exact h.row _ (mem_get hg)
    · rw [← hv]; exact fun j hj => h.others hg j hj
    · rw [← hv]; exact fun j hj => .inr (.inr ⟨_, mem_get hg, hj⟩)
theorem bytes_le {M : Tr} (hI : Inv M) (p : ByteArray) : (bytesT M p).length ≤ 65536 := by
  unfold bytesT
  cases h : getA M p with
  | none => exact Nat.zero_le _
  | some n => exact (hI.key _ (mem_get h)).2.1
set_option maxHeartbeats 4000000 in
theorem append_any (tb : Nat) (M : Tr) (S : Nat → Prop) (s : ByteArray) (m : Int) (ab : Option Addr) (nb cb : Nat) (lb : List UInt8) (w : World) (h : TreeAt w tb M S) (hI : Inv M) (hm : w.cell? ⟨0, 0, none⟩ = some (.int .i64 m))
    (hb : Lie w S (.slice ab nb cb) lb) (hnb : lb.length = nb) (hn2 : nb ≤ 1000000) :
    Calls Tryz.prog 16 #[.pointer (some ⟨tb, 0, none⟩), .string s, .slice ab nb cb] w (PutsRet tb (putS M s fun o => o ++ lb) w S) := by
  obtain ⟨⟨mb, X, ht, rfl, h3⟩, h4⟩ := h
  have HT := Lib.hid ht
  have HM := Lib.hid hm
  have H3 := Lib.hid h3
  have H4 := Lib.hid h4
  have hx : X.length ≤ 500 := by have := hI.len; rw [mapA_len] at this; exact this
  have hsz := hI.size
  rcases file_ways (nds X) s with ⟨L, k, hf, hL, hk, _, _⟩ | ⟨q, hf, hq, hq1, hq2⟩
  · rw [putS_at hf hL hk]
    have HF := Lib.hid hf
    obtain ⟨d, ao, mo, co, hv, hown, hlen, hap, hoo⟩ := ht.old (upL L (k + 1))
    have hmo : mo ≤ 65536 := by rw [← hlen]; exact bytes_le hI _
    obtain ⟨lo, hlo⟩ : ∃ lo, bytesT (nds X) (upL L (k + 1)) = lo := ⟨_, rfl⟩
    rw [hlo] at hown hlen ⊢
    have hll : (lo ++ lb).length = mo + nb := by rw [List.length_append, hlen, hnb]
    have hps := hL.small (k + 1) (by omega)
    have HLO : Hid (∀ w' : World, w.grownBy w' none → (Instr.lookup 70 (.map (some mb)) (.string (upL L (k + 1))) false).run Tryz.prog w' = .ok (.agg #[.bool d, .slice ao mo co]) w') := Lib.hid fun w' hg => by rw [(ht.stays hg).look _ (by omega), hv]
    have F1 := field1
    have HOO := Lib.hid hoo
    cases hfit : fitsT (nds X) L k (lo ++ lb).length with
    | true =>
      have HY : Hid (∀ w', w.grownBy w' none → Calls Tryz.prog 44 #[.pointer (some ⟨tb, 0, none⟩), .string (upL L (k + 1)), .slice ao mo co, .slice ab nb cb] w' (PutRet tb mb X L k (.slice ao mo co) (lo ++ lb) w')) := Lib.hid fun w' hg =>
        put_yes tb mb X L k hk ao mo co lo ab nb cb lb w' (ht.stays hg) hL (hown.stays hg) hlen hap hoo ((hb.less fun k hk => h3 k hk).keeps (Kept.ofNone hg fun _ => False) (fun _ e => e.elim)) hnb (by omega) (by omega) (by omega) hn2 (by rw [← hll]; exact hfit)
      clear ht hm h3 h4 hI hb hf hL hk hnb hsz hx hn2 hfit hv hown hlen hap hoo hmo hlo hll hps
      rw [if_pos rfl]
      go_enter Tryz.func16, Tryz.ntmps16
      go_wp2_with fail
      (with_reducible refine (file_any tb mb X s m _ HT.out HM.out _ _ HF.out).mono ?_)
      rintro e w1 ⟨rfl, hg⟩
      dsimp only
      have HG := Lib.hid hg
      clear hg
      have hl := HLO.out w1 HG.out
      have b0 : w1.cell? ⟨tb, 0, none⟩ = some (.map (some mb)) := (HT.out.stays HG.out).cells.1
      go_wp2_with fail
      (with_reducible refine (HY.out _ HG.out).mono ?_)
      intro e w2 hp
      have HP := Lib.hid (puts_of hp HG.out H3.out H4.out HOO.out)
      obtain rfl := hp.1
      clear hp
      dsimp only
      go_wp2
      go_ret
      exact HP.out
    | false =>
      have HN : Hid (∀ w', w.grownBy w' none → Calls Tryz.prog 44 #[.pointer (some ⟨tb, 0, none⟩), .string (upL L (k + 1)), .slice ao mo co, .slice ab nb cb] w' fun e w1 => e = .returned (.int .i64 55) ∧ w'.grownBy w1 none) := Lib.hid fun w' hg =>
        put_no tb mb X L k hk ao mo co ab nb cb w' (ht.stays hg) hL (by omega) (by omega) (by omega) hn2 (by rw [← hll]; exact hfit)
      clear ht hm h3 h4 hI hb hf hL hk hnb hsz hx hn2 hfit hv hown hlen hap hoo hmo hlo hll hps
      rw [if_neg (by simp)]
      go_enter Tryz.func16, Tryz.ntmps16
      go_wp2_with fail
      (with_reducible refine (file_any tb mb X s m _ HT.out HM.out _ _ HF.out).mono ?_)
      rintro e w1 ⟨rfl, hg⟩
      dsimp only
      have HG := Lib.hid hg
      clear hg
      have hl := HLO.out w1 HG.out
      have b0 : w1.cell? ⟨tb, 0, none⟩ = some (.map (some mb)) := (HT.out.stays HG.out).cells.1
      go_wp2_with fail
      (with_reducible refine (HN.out _ HG.out).mono ?_)
      rintro e w2 ⟨rfl, hg⟩
      dsimp only
      have HG2 := Lib.hid (World.grownBy.trans HG.out hg)
      clear hg
      go_wp2
      go_ret
      exact puts_same HT.out H3.out H4.out HG2.out
  · rw [putS_bad hf hq]
    have HF := Lib.hid hf
    have q4 : (q != 0) = true := by simp [hq]
    have q5 : (q == 0) = false := by simp [hq]
    clear ht hm h3 h4 hI hb hf hnb hsz hx hn2
    go_enter Tryz.func16, Tryz.ntmps16
    go_wp2_with fail
    (with_reducible refine (file_any tb mb X s m _ HT.out HM.out _ _ HF.out).mono ?_)
    rintro e w1 ⟨rfl, hg⟩
    dsimp only
    have HG := Lib.hid hg
    clear hg
    go_wp2
    go_ret
    exact puts_same HT.out H3.out H4.out HG.out
end Go.Proofs.YtichejodbohldaaGreatDoor
namespace Go.Proofs
open Go.Shelf
def Tryz.lays190_ren : Go.Shelf.Ren := ⟨fun | 190 => 75 | 125 => 79 | 258 => 87 | 128 => 96 | 129 => 97 | 302 => 105 | 303 => 106 | 304 => 107 | 305 => 108 | 306 => 109 | 307 => 110 | 308 => 111 | 309 => 112 | 310 => 113 | 333 => 124 | 329 => 115 | 330 => 116 | 334 => 125 | 335 => 126 | 336 => 80 | 344 => 134 | n => n, fun | 31 => 56 | 9 => 9 | 3 => 3 | 46 => 104 | 0 => 0 | 51 => 117 | 53 => 119 | 4 => 4 | 183 => 111 | 182 => 110 | 131 => 97 | 5 => 5 | 218 => 136 | 222 => 140 | 228 => 146 | 229 => 147 | n => n, fun | n => n⟩
theorem Tryz.lays190 : Go.Proofs.Lays.n190 Tryz.prog Tryz.lays190_ren := {
  mixed := by kernel_rfl
  f125 := Tryz.func79.trans (congrArg some (by kernel_rfl))
  f128 := Tryz.func96.trans (congrArg some (by kernel_rfl))
  f129 := Tryz.func97.trans (congrArg some (by kernel_rfl))
  f190 := Tryz.func75.trans (congrArg some (by kernel_rfl))
  f258 := Tryz.func87.trans (congrArg some (by kernel_rfl))
  f302 := Tryz.func105.trans (congrArg some (by kernel_rfl))
  f303 := Tryz.func106.trans (congrArg some (by kernel_rfl))
  f304 := Tryz.func107.trans (congrArg some (by kernel_rfl))
  f305 := Tryz.func108.trans (congrArg some (by kernel_rfl))
  f306 := Tryz.func109.trans (congrArg some (by kernel_rfl))
  f307 := Tryz.func110.trans (congrArg some (by kernel_rfl))
  f308 := Tryz.func111.trans (congrArg some (by kernel_rfl))
  f309 := Tryz.func112.trans (congrArg some (by kernel_rfl))
  f310 := Tryz.func113.trans (congrArg some (by kernel_rfl))
  f329 := Tryz.func115.trans (congrArg some (by kernel_rfl))
  f330 := Tryz.func116.trans (congrArg some (by kernel_rfl))
  f333 := Tryz.func124.trans (congrArg some (by kernel_rfl))
  f334 := Tryz.func125.trans (congrArg some (by kernel_rfl))
  f335 := Tryz.func126.trans (congrArg some (by kernel_rfl))
  f336 := Tryz.func80.trans (congrArg some (by kernel_rfl))
  f344 := Tryz.func134.trans (congrArg some (by kernel_rfl))
  t0 := Tryz.underlying0
  a0 := Tryz.isAgg0
  z0 := Tryz.sizeOf0
  v0 := Tryz.zeroValue0
  t3 := Tryz.underlying3
  a3 := Tryz.isAgg3
  z3 := Tryz.sizeOf3
  v3 := Tryz.zeroValue3
  t4 := Tryz.underlying4
  a4 := Tryz.isAgg4
  z4 := Tryz.sizeOf4
  v4 := Tryz.zeroValue4
  t5 := Tryz.underlying5
  a5 := Tryz.isAgg5
  z5 := Tryz.sizeOf5
  v5 := Tryz.zeroValue5
  t9 := Tryz.underlying9
  a9 := Tryz.isAgg9
  z9 := Tryz.sizeOf9
  v9 := Tryz.zeroValue9
  t31 := Tryz.underlying56
  a31 := Tryz.isAgg56
  z31 := Tryz.sizeOf56
  v31 := Tryz.zeroValue56
  t46 := Tryz.underlying104
  a46 := Tryz.isAgg104
  z46 := Tryz.sizeOf104
  v46 := Tryz.zeroValue104
  t51 := Tryz.underlying117
  a51 := Tryz.isAgg117
  z51 := Tryz.sizeOf117
  v51 := Tryz.zeroValue117
  t53 := Tryz.underlying119
  a53 := Tryz.isAgg119
  z53 := Tryz.sizeOf119
  v53 := Tryz.zeroValue119
  t131 := Tryz.underlying97
  a131 := Tryz.isAgg97
  z131 := Tryz.sizeOf97
  v131 := Tryz.zeroValue97
  t182 := Tryz.underlying110
  a182 := Tryz.isAgg110
  z182 := Tryz.sizeOf110
  v182 := Tryz.zeroValue110
  t183 := Tryz.underlying111
  a183 := Tryz.isAgg111
  z183 := Tryz.sizeOf111
  v183 := Tryz.zeroValue111
  t218 := Tryz.underlying136
  a218 := Tryz.isAgg136
  z218 := Tryz.sizeOf136
  v218 := Tryz.zeroValue136
  t222 := Tryz.underlying140
  a222 := Tryz.isAgg140
  z222 := Tryz.sizeOf140
  v222 := Tryz.zeroValue140
  t228 := Tryz.underlying146
  a228 := Tryz.isAgg146
  z228 := Tryz.sizeOf146
  v228 := Tryz.zeroValue146
  t229 := Tryz.underlying147
  a229 := Tryz.isAgg147
  z229 := Tryz.sizeOf147
  v229 := Tryz.zeroValue147 }
open Go.Sort Go.RowKit in
theorem Tryz.slices_Sort_string (blk off cap : Nat) (ss : List (List UInt8)) (w : World) (hH : Holds encStr w blk off ss.toArray) (hblk : blk < w.heap.size) (hsz : ss.length < 4611686018427387904) :
    Calls Tryz.prog 75 #[.slice (some ⟨blk, off, none⟩) ss.length cap] w fun e w' =>
      e = .returned (.tuple #[]) ∧ ∃ n os, w' = grow (putRow encStr (Sort.ahead w n) blk off (ss.mergeSort fun x y => decide (x ≤ y)).toArray) os := Any.slices_Sort_string Tryz.lays190 blk off cap ss w hH hblk hsz
open Go.RowKit Go.Sort in
theorem Tryz.slices_Sort_string_none (p : Option Addr) (cap : Nat) (w : World) :
    Calls Tryz.prog 75 #[.slice p 0 cap] w fun e w' => e = .returned (.tuple #[]) ∧ w' = w := Any.slices_Sort_string_none Tryz.lays190 p cap w
def Tryz.sortFn_ren : Go.Shelf.Ren := ⟨fun | 6 => 66 | 15 => 79 | 14 => 78 | 28 => 96 | 29 => 97 | 20 => 88 | 21 => 89 | 22 => 90 | 23 => 91 | 24 => 92 | 25 => 93 | 26 => 94 | 27 => 95 | 46 => 114 | 47 => 115 | 48 => 116 | 49 => 117 | 50 => 118 | 57 => 127 | n => n, fun | 22 => 28 | 24 => 68 | 25 => 95 | 3 => 3 | 39 => 104 | 0 => 0 | 53 => 117 | 55 => 119 | 4 => 4 | 46 => 111 | 45 => 110 | 50 => 97 | 5 => 5 | 9 => 9 | 66 => 136 | 70 => 140 | 76 => 146 | 77 => 147 | n => n, fun | n => n⟩
theorem Tryz.sortFn : Go.Proofs.SlLaysF0.n6 Tryz.prog Tryz.sortFn_ren := {
  mixed := by kernel_rfl
  f6 := ⟨Tryz.f66.name, by decide, Tryz.func66.trans (congrArg some (by kernel_rfl))⟩
  f14 := ⟨Tryz.f78.name, by decide, Tryz.func78.trans (congrArg some (by kernel_rfl))⟩
  f15 := Tryz.func79.trans (congrArg some (by kernel_rfl))
  f20 := ⟨Tryz.f88.name, by decide, Tryz.func88.trans (congrArg some (by kernel_rfl))⟩
  f21 := ⟨Tryz.f89.name, by decide, Tryz.func89.trans (congrArg some (by kernel_rfl))⟩
  f22 := ⟨Tryz.f90.name, by decide, Tryz.func90.trans (congrArg some (by kernel_rfl))⟩
  f23 := ⟨Tryz.f91.name, by decide, Tryz.func91.trans (congrArg some (by kernel_rfl))⟩
  f24 := ⟨Tryz.f92.name, by decide, Tryz.func92.trans (congrArg some (by kernel_rfl))⟩
  f25 := ⟨Tryz.f93.name, by decide, Tryz.func93.trans (congrArg some (by kernel_rfl))⟩
  f26 := ⟨Tryz.f94.name, by decide, Tryz.func94.trans (congrArg some (by kernel_rfl))⟩
  f27 := ⟨Tryz.f95.name, by decide, Tryz.func95.trans (congrArg some (by kernel_rfl))⟩
  f28 := Tryz.func96.trans (congrArg some (by kernel_rfl))
  f29 := Tryz.func97.trans (congrArg some (by kernel_rfl))
  f46 := ⟨Tryz.f114.name, by decide, Tryz.func114.trans (congrArg some (by kernel_rfl))⟩
  f47 := Tryz.func115.trans (congrArg some (by kernel_rfl))
  f48 := Tryz.func116.trans (congrArg some (by kernel_rfl))
  f49 := ⟨Tryz.f117.name, by decide, Tryz.func117.trans (congrArg some (by kernel_rfl))⟩
  f50 := ⟨Tryz.f118.name, by decide, Tryz.func118.trans (congrArg some (by kernel_rfl))⟩
  f57 := ⟨Tryz.f127.name, by decide, Tryz.func127.trans (congrArg some (by kernel_rfl))⟩
  t0 := Tryz.underlying0
  a0 := Tryz.isAgg0
  z0 := Tryz.sizeOf0
  v0 := Tryz.zeroValue0
  t3 := Tryz.underlying3
  a3 := Tryz.isAgg3
  z3 := Tryz.sizeOf3
  v3 := Tryz.zeroValue3
  t4 := Tryz.underlying4
  a4 := Tryz.isAgg4
  z4 := Tryz.sizeOf4
  v4 := Tryz.zeroValue4
  t5 := Tryz.underlying5
  a5 := Tryz.isAgg5
  z5 := Tryz.sizeOf5
  v5 := Tryz.zeroValue5
  t9 := Tryz.underlying9
  a9 := Tryz.isAgg9
  z9 := Tryz.sizeOf9
  v9 := Tryz.zeroValue9
  t22 := Tryz.underlying28
  a22 := Tryz.isAgg28
  z22 := Tryz.sizeOf28
  v22 := Tryz.zeroValue28
  t25 := Tryz.underlying95
  a25 := Tryz.isAgg95
  z25 := Tryz.sizeOf95
  v25 := Tryz.zeroValue95
  t39 := Tryz.underlying104
  a39 := Tryz.isAgg104
  z39 := Tryz.sizeOf104
  v39 := Tryz.zeroValue104
  t45 := Tryz.underlying110
  a45 := Tryz.isAgg110
  z45 := Tryz.sizeOf110
  v45 := Tryz.zeroValue110
  t46 := Tryz.underlying111
  a46 := Tryz.isAgg111
  z46 := Tryz.sizeOf111
  v46 := Tryz.zeroValue111
  t50 := Tryz.underlying97
  a50 := Tryz.isAgg97
  z50 := Tryz.sizeOf97
  v50 := Tryz.zeroValue97
  t53 := Tryz.underlying117
  a53 := Tryz.isAgg117
  z53 := Tryz.sizeOf117
  v53 := Tryz.zeroValue117
  t55 := Tryz.underlying119
  a55 := Tryz.isAgg119
  z55 := Tryz.sizeOf119
  v55 := Tryz.zeroValue119
  t66 := Tryz.underlying136
  a66 := Tryz.isAgg136
  z66 := Tryz.sizeOf136
  v66 := Tryz.zeroValue136
  t70 := Tryz.underlying140
  a70 := Tryz.isAgg140
  z70 := Tryz.sizeOf140
  v70 := Tryz.zeroValue140
  t76 := Tryz.underlying146
  a76 := Tryz.isAgg146
  z76 := Tryz.sizeOf146
  v76 := Tryz.zeroValue146
  t77 := Tryz.underlying147
  a77 := Tryz.isAgg147
  z77 := Tryz.sizeOf147
  v77 := Tryz.zeroValue147 }
open Go.RowKit Go.Lib Go.Sort in
theorem Tryz.slices_SortFunc {α : Type} [Inhabited α] (k : Nat) (aE : ∀ w, (isAgg 68).run Tryz.prog w = .ok true w) (zE : ∀ w, (Go.sizeOf 68).run Tryz.prog w = .ok k w) (enc : α → List Value) (hk : ∀ x, (enc x).length = k) (h1 : ∀ x, ∀ v ∈ enc x, v.oneCell' = true)
    (cf : α → α → Int) (hO : SWO (ltOf cf)) (g : Nat) (cb : Array Value) (blk off cap : Nat) (d : Array α) (w : World)
    (eg : ∀ args w, (callFunc g args).run Tryz.prog w = .ok (.enter g args) w) (hcmp : CmpLays Tryz.prog g cb enc k cf blk off d.size w) (hH : HoldsK enc k w blk off d) (hblk : blk < w.heap.size) (hsz : d.size < 4611686018427387904) :
    Calls Tryz.prog 66 #[.slice (some ⟨blk, off, none⟩) d.size cap, .func (.func g) #[] cb] w fun e w' =>
      e = .returned (.tuple #[]) ∧ ∃ d' n os, PermIn 0 d.size d d' ∧ SortedIn (ltOf cf) 0 d.size d' ∧ w' = sortWorldK enc k w blk off n d' os := AnyQ.slices_SortFunc Tryz.sortFn k aE zE enc hk h1 cf hO g cb blk off cap d w eg hcmp hH hblk hsz
open Go.RowKit Go.Lib Go.Sort in
theorem Tryz.slices_SortFunc_none (p : Option Addr) (cap : Nat) (fv : Value) (w : World) :
    Calls Tryz.prog 66 #[.slice p 0 cap, fv] w fun e w' => e = .returned (.tuple #[]) ∧ w' = w := AnyF.slices_SortFunc_none Tryz.sortFn p cap fv w
end Go.Proofs
