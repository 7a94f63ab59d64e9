/- Texts of one ground, in one file: Gc Gd Ge Gf. -/
import Derived.Test.YtichejodbohldaaGreatDoorP2
import Derived.Test.YtichejodbohldaaGreatDoorP7
import Derived.RegionTactic
import Derived.ChangeAlike
import Derived.BigRegion
namespace Go.Proofs.YtichejodbohldaaGreatDoor
open Go.RowKit Go.Maps
set_option maxRecDepth 1000000
abbrev E0 : ByteArray := ⟨#[]⟩
def hasT (M : Tr) (p : ByteArray) : Bool := (getA M p).isSome || decide (p = E0)
def dirT (M : Tr) (p : ByteArray) : Bool := decide (p = E0) || ((getA M p).map (·.dir)).getD false
def fileT (M : Tr) (p : ByteArray) : Bool := hasT M p && !dirT M p
abbrev nds (X : As Gn) : Tr := mapA Gn.nd X
theorem nds_get (X : As Gn) (p : ByteArray) : getA (nds X) p = (getA X p).map Gn.nd := getA_map _ _ _
theorem TreeIn.slice {w : World} {tb mb : Nat} {X : As Gn} (h : TreeIn w tb mb X) {p : ByteArray} {g : Gn} (hg : getA X p = some g) : ∃ a c, g.v = .slice a g.nd.b.length c := by
  obtain ⟨a, c, e, _⟩ := (h.row _ (mem_get hg)).form
  exact ⟨a, c, e⟩
/-- p is empty, or is not: as a walk asks it. -/
theorem empty_ways (p : ByteArray) : p = E0 ∨ (¬ p = E0 ∧ ¬ p.toList = [] ∧ p.toList.isEmpty = false ∧ (p.toList == []) = false) := by
  by_cases h : p = E0
  · exact .inl h
  · exact .inr ⟨h, ne_list p [] h, empty_no p h, nb_list p [] h⟩
set_option maxHeartbeats 4000000 in
theorem has_any (tb mb : Nat) (X : As Gn) (p : ByteArray) (w : World) (h : TreeIn w tb mb X) (hp : p.size ≤ 1000000) :
    Calls Tryz.prog 56 #[.pointer (some ⟨tb, 0, none⟩), .string p] w fun e w' => e = .returned (.bool (hasT (nds X) p)) ∧ w.grownBy w' none := by
  obtain ⟨c0, c1, f1, f0⟩ := h.cells
  have hl := h.lookOk p hp
  have HT : Hid (TreeIn w tb mb X) := Lib.hid h
  have HH : Hid (hasT (nds X) p = ((getA X p).isSome || decide (p = E0))) := Lib.hid (by unfold hasT; rw [nds_get, Option.isSome_map])
  clear f1 f0 c1
  cases hg : getA X p with
  | none =>
    rw [hg] at hl HH
    simp only [Option.map_none, Option.getD_none, Option.isSome_none, zeroNode] at hl
    simp only [Option.isSome_none, Bool.false_or] at HH
    clear h hg
    rcases empty_ways p with rfl | ⟨e1, e2, e3, e4⟩
    · go_enter Tryz.func56, Tryz.ntmps56
      go_wp2
      go_ret
      exact ⟨by rw [HH.out]; rfl, (World.grownBy_alloc _ _ _)⟩
    · have he : decide (p = E0) = false := by simp [e1]
      rw [he] at HH
      clear he
      go_enter Tryz.func56, Tryz.ntmps56
      go_wp2
      go_ret
      exact ⟨by rw [HH.out]; rfl, (World.grownBy_alloc _ _ _)⟩
  | some g =>
    obtain ⟨a, c, hv⟩ := h.slice hg
    rw [hg] at hl HH
    simp only [Option.map_some, Option.getD_some, Option.isSome_some, Gn.val, hv] at hl
    simp only [Option.isSome_some, Bool.true_or] at HH
    clear h hg hv
    rcases empty_ways p with rfl | ⟨e1, e2, e3, e4⟩
    all_goals
      go_enter Tryz.func56, Tryz.ntmps56
      go_wp2
      go_ret
      exact ⟨by rw [HH.out]; rfl, (World.grownBy_alloc _ _ _)⟩
end Go.Proofs.YtichejodbohldaaGreatDoor
namespace Go.Proofs.YtichejodbohldaaGreatDoor
open Go.RowKit Go.Maps
set_option maxRecDepth 1000000
theorem field0 (d : Bool) (a : Option Addr) (m c : Nat) (w : World) : (Instr.field 81 (.agg #[.bool d, .slice a m c]) 0).run Tryz.prog w = .ok (.bool d) w := by kernel_rfl
theorem field1 (d : Bool) (a : Option Addr) (m c : Nat) (w : World) : (Instr.field 81 (.agg #[.bool d, .slice a m c]) 1).run Tryz.prog w = .ok (.slice a m c) w := by kernel_rfl
set_option maxHeartbeats 4000000 in
theorem isDir_any (tb mb : Nat) (X : As Gn) (p : ByteArray) (w : World) (h : TreeIn w tb mb X) (hp : p.size ≤ 1000000) :
    Calls Tryz.prog 50 #[.pointer (some ⟨tb, 0, none⟩), .string p] w fun e w' => e = .returned (.bool (dirT (nds X) p)) ∧ w' = w := by
  obtain ⟨c0, c1, f1, f0⟩ := h.cells
  have hl := h.look p hp
  have HH : Hid (dirT (nds X) p = (decide (p = E0) || ((getA X p).map (·.nd.dir)).getD false)) := Lib.hid (by unfold dirT; rw [nds_get, Option.map_map]; rfl)
  have F0 := field0
  clear f1 f0 c1
  rcases empty_ways p with rfl | ⟨e1, e2, e3, e4⟩
  · clear hl h
    go_enter Tryz.func50, Tryz.ntmps50
    go_wp2
    go_ret
    exact ⟨by rw [HH.out]; rfl, rfl⟩
  · have he : decide (p = E0) = false := by simp [e1]
    rw [he, Bool.false_or] at HH
    clear he
    cases hg : getA X p with
    | none =>
      rw [hg] at hl HH
      simp only [Option.map_none, Option.getD_none, zeroNode] at hl
      clear h hg
      go_enter Tryz.func50, Tryz.ntmps50
      go_wp2
      go_ret
      exact ⟨by rw [HH.out]; rfl, rfl⟩
    | some g =>
      obtain ⟨a, c, hv⟩ := h.slice hg
      rw [hg] at hl HH
      simp only [Option.map_some, Option.getD_some, Gn.val, hv] at hl
      clear h hg hv
      go_enter Tryz.func50, Tryz.ntmps50
      go_wp2
      go_ret
      exact ⟨by rw [HH.out]; rfl, rfl⟩
theorem has_at (tb mb : Nat) (X : As Gn) (p : ByteArray) (w : World) (b : Bool) (h : TreeIn w tb mb X) (hp : p.size ≤ 1000000) (hb : hasT (nds X) p = b) :
    Calls Tryz.prog 56 #[.pointer (some ⟨tb, 0, none⟩), .string p] w fun e w' => e = .returned (.bool b) ∧ w.grownBy w' none := by
  rw [← hb]; exact has_any tb mb X p w h hp
theorem isDir_at (tb mb : Nat) (X : As Gn) (p : ByteArray) (w : World) (b : Bool) (h : TreeIn w tb mb X) (hp : p.size ≤ 1000000) (hb : dirT (nds X) p = b) :
    Calls Tryz.prog 50 #[.pointer (some ⟨tb, 0, none⟩), .string p] w fun e w' => e = .returned (.bool b) ∧ w' = w := by
  rw [← hb]; exact isDir_any tb mb X p w h hp
set_option maxHeartbeats 4000000 in
theorem isFile_any (tb mb : Nat) (X : As Gn) (p : ByteArray) (w : World) (h : TreeIn w tb mb X) (hp : p.size ≤ 1000000) (b : Bool) (hb : fileT (nds X) p = b) :
    Calls Tryz.prog 51 #[.pointer (some ⟨tb, 0, none⟩), .string p] w fun e w' => e = .returned (.bool b) ∧ w.grownBy w' none := by
  unfold fileT at hb
  have HT : Hid (TreeIn w tb mb X) := Lib.hid h
  cases h1 : hasT (nds X) p with
  | false =>
    rw [h1] at hb
    subst hb
    have H1 := Lib.hid h1
    clear h h1
    go_enter Tryz.func51, Tryz.ntmps51
    go_wp2_with ((with_reducible refine (has_at tb mb X p _ false HT.out hp H1.out).mono ?_); rintro e w1 ⟨rfl, hg⟩; dsimp only; have HG := Lib.hid hg; clear hg)
    go_ret
    exact ⟨rfl, HG.out⟩
  | true =>
    rw [h1] at hb
    cases h2 : dirT (nds X) p with
    | false =>
      rw [h2] at hb
      subst hb
      have H1 := Lib.hid h1
      have H2 := Lib.hid h2
      clear h h1 h2
      go_enter Tryz.func51, Tryz.ntmps51
      go_wp2_with (first | ((with_reducible refine (has_at tb mb X p _ true HT.out hp H1.out).mono ?_); rintro e w1 ⟨rfl, hg⟩; dsimp only; have HT1 := Lib.hid (HT.out.stays hg); have HG := Lib.hid hg; clear hg) | ((with_reducible refine (isDir_at tb mb X p _ false HT1.out hp H2.out).mono ?_); rintro e w2 ⟨rfl, rfl⟩; dsimp only))
      go_ret
      exact ⟨rfl, HG.out⟩
    | true =>
      rw [h2] at hb
      subst hb
      have H1 := Lib.hid h1
      have H2 := Lib.hid h2
      clear h h1 h2
      go_enter Tryz.func51, Tryz.ntmps51
      go_wp2_with (first | ((with_reducible refine (has_at tb mb X p _ true HT.out hp H1.out).mono ?_); rintro e w1 ⟨rfl, hg⟩; dsimp only; have HT1 := Lib.hid (HT.out.stays hg); have HG := Lib.hid hg; clear hg) | ((with_reducible refine (isDir_at tb mb X p _ true HT1.out hp H2.out).mono ?_); rintro e w2 ⟨rfl, rfl⟩; dsimp only))
      go_ret
      exact ⟨rfl, HG.out⟩
theorem TreeIn.mlen {w : World} {tb mb : Nat} {X : As Gn} (h : TreeIn w tb mb X) (ty : TypeId) : (Builtin.len_ #[70] ty #[.map (some mb)]).run Tryz.prog w = .ok (.int .i64 (X.length : Nat)) w := by
  rw [h.map.len ty, mapA_len]
set_option maxHeartbeats 4000000 in
theorem room_any (tb mb : Nat) (X : As Gn) (n : Nat) (b : Int) (w : World) (h : TreeIn w tb mb X) (hX : X.length ≤ 1000000) (hn : n ≤ 1000000) (hb : -100000000 ≤ b ∧ b ≤ 100000000) (hs : sizeT (nds X) ≤ 100000000) (r : Bool)
    (hr : (decide (X.length + n ≤ 500) && decide ((sizeT (nds X) : Int) + b ≤ 1048576)) = r) :
    Calls Tryz.prog 53 #[.pointer (some ⟨tb, 0, none⟩), .int .i64 n, .int .i64 b] w fun e w' => e = .returned (.bool r) ∧ w' = w := by
  obtain ⟨c0, c1, f1, f0⟩ := h.cells
  have hln := h.mlen 3
  obtain ⟨z, hz⟩ : ∃ z, sizeT (nds X) = z := ⟨_, rfl⟩
  obtain ⟨l, hl⟩ : ∃ l, X.length = l := ⟨_, rfl⟩
  rw [hz] at hs c1 hr
  rw [hl] at hX hln hr
  clear f1 f0 hz hl h
  by_cases h1 : l + n ≤ 500
  · have d1 : decide ((l : Int) + (n : Int) ≤ 500) = true := by simp; omega
    by_cases h2 : (z : Int) + b ≤ 1048576
    · have d2 : decide ((z : Int) + b ≤ 1048576) = true := by simp; omega
      rw [decide_eq_true h1, d2] at hr
      subst hr
      go_enter Tryz.func53, Tryz.ntmps53
      go_wp2
      go_ret
      exact ⟨rfl, rfl⟩
    · have d2 : decide ((z : Int) + b ≤ 1048576) = false := by simp; omega
      rw [decide_eq_true h1, d2] at hr
      subst hr
      go_enter Tryz.func53, Tryz.ntmps53
      go_wp2
      go_ret
      exact ⟨rfl, rfl⟩
  · have d1 : decide ((l : Int) + (n : Int) ≤ 500) = false := by simp; omega
    rw [decide_eq_false h1] at hr
    subst hr
    go_enter Tryz.func53, Tryz.ntmps53
    go_wp2
    go_ret
    exact ⟨rfl, rfl⟩
end Go.Proofs.YtichejodbohldaaGreatDoor
namespace Go.Proofs.YtichejodbohldaaGreatDoor
open Go.RowKit Go.Maps
set_option maxRecDepth 1000000
/-- The head of a tree, whatever its size. -/
theorem TreeIn.resize {w : World} {tb mb : Nat} {X' : As Gn} (hb : w.heap[tb]? = some (.cells #[.map (some mb), .int .i64 (sizeT (nds X') : Nat)] 72 (0, 0))) (hm : MapAt w mb (mapA Gn.val X'))
    (hr : ∀ e ∈ X', Owns w 0 e.2.v e.2.nd.b) (ha : X'.Pairwise fun a b => ∀ k, a.2.v.ownBlock = some k → b.2.v.ownBlock ≠ some k) : TreeIn w tb mb X' := ⟨hb, hm, hr, ha⟩
theorem put_apart {X : As Gn} {p : ByteArray} {g : Gn} (hX : AscA X) (h : X.Pairwise fun a b => ∀ k, a.2.v.ownBlock = some k → b.2.v.ownBlock ≠ some k)
    (hap : ∀ k, g.v.ownBlock = some k → ∀ e ∈ X, ¬ e.1 = p → e.2.v.ownBlock ≠ some k) : (putA X p g).Pairwise fun a b => ∀ k, a.2.v.ownBlock = some k → b.2.v.ownBlock ≠ some k := by
  induction X with
  | nil => exact List.pairwise_singleton _ _
  | cons e r ih =>
    obtain ⟨q, y⟩ := e
    rw [List.pairwise_cons] at h
    have hX2 := hX
    unfold AscA at hX2
    rw [List.pairwise_cons] at hX2
    rw [putA_cons]
    by_cases hq : q = p
    · subst hq
      rw [if_pos rfl]
      refine List.pairwise_cons.2 ⟨fun e he k hk => hap k hk e (List.mem_cons_of_mem _ he) (Ne.symm (lessA_ne (hX2.1 e he))), h.2⟩
    · rw [if_neg hq]
      by_cases hl : lessA p q = true
      · rw [if_pos hl]
        refine List.pairwise_cons.2 ⟨fun e he k hk => hap k hk e he ?_, List.pairwise_cons.2 h⟩
        rcases List.mem_cons.1 he with rfl | he
        · exact hq
        · exact Ne.symm (lessA_ne (lessA_trans hl (hX2.1 e he)))
      · rw [if_neg hl]
        refine List.pairwise_cons.2 ⟨fun e he k hk => ?_, ih hX2.2 h.2 fun k hk e he => hap k hk e (List.mem_cons_of_mem _ he)⟩
        rcases mem_put he with rfl | he
        · intro h2
          exact hap k h2 _ List.mem_cons_self hq hk
        · exact h.1 e he k hk
theorem nds_put (X : As Gn) (p : ByteArray) (g : Gn) : nds (putA X p g) = putA (nds X) p g.nd := (putA_map Gn.nd X p g).symm
/-- The size of what is behind a put. -/
theorem size_put (M : Tr) (hM : AscA M) (p : ByteArray) (n : Nd) : (sizeT (putA M p n) : Int) = (sizeT M : Int) + ((n.b.length : Int) - ((((getA M p).map fun n => n.b.length).getD 0 : Nat) : Int)) := by
  have := put_sum (fun n : Nd => n.b.length) hM p n
  unfold sizeT
  omega
theorem old_le (M : Tr) (p : ByteArray) : ((getA M p).map fun n => n.b.length).getD 0 ≤ sizeT M := by
  cases h : getA M p with
  | none => exact Nat.zero_le _
  | some n => exact get_sum (fun n : Nd => n.b.length) h
/-- A tree but for the row of one node. -/
structure TreeBut (w : World) (tb mb : Nat) (X : As Gn) (p : ByteArray) : Prop where
  head : w.heap[tb]? = some (.cells #[.map (some mb), .int .i64 (sizeT (mapA Gn.nd X) : Nat)] 72 (0, 0))
  map : MapAt w mb (mapA Gn.val X)
  row : ∀ e ∈ X, ¬ e.1 = p → Owns w 0 e.2.v e.2.nd.b
  form : ∀ e ∈ X, ∃ a c, e.2.v = .slice a e.2.nd.b.length c
  apart : X.Pairwise fun a b => ∀ k, a.2.v.ownBlock = some k → b.2.v.ownBlock ≠ some k
theorem TreeIn.but {w : World} {tb mb : Nat} {X : As Gn} (h : TreeIn w tb mb X) (p : ByteArray) : TreeBut w tb mb X p :=
  ⟨h.head, h.map, fun e he _ => h.row e he, fun e he => by obtain ⟨a, c, e2, _⟩ := (h.row e he).form; exact ⟨a, c, e2⟩, h.apart⟩
theorem TreeBut.keeps {w w' : World} {tb mb : Nat} {X : As Gn} {p : ByteArray} {S : Nat → Prop} (h : TreeBut w tb mb X p) (hk : Kept w w' S) (h1 : ¬ S tb) (h2 : ¬ S mb) (hn : ∀ k, (∃ e ∈ X, ¬ e.1 = p ∧ e.2.v.ownBlock = some k) → ¬ S k) : TreeBut w' tb mb X p :=
  ⟨hk.bk h.head h1, h.map.keeps hk h2, fun e he hne => (h.row e he hne).keeps hk fun k e2 => hn k ⟨e, he, hne, e2⟩, h.form, h.apart⟩
theorem TreeBut.stays {w w' : World} {tb mb : Nat} {X : As Gn} {p : ByteArray} (h : TreeBut w tb mb X p) (hk : w.grownBy w' none) : TreeBut w' tb mb X p := h.keeps (Kept.ofNone hk fun _ => False) (fun e => e) (fun e => e) fun _ _ e => e
theorem TreeBut.asc {w : World} {tb mb : Nat} {X : As Gn} {p : ByteArray} (h : TreeBut w tb mb X p) : AscA X := h.map.2.of_map
theorem TreeBut.ne {w : World} {tb mb : Nat} {X : As Gn} {p : ByteArray} (h : TreeBut w tb mb X p) : tb ≠ mb := fun e => by have := h.head; rw [e] at this; exact h.map.no_cells this
theorem TreeBut.cells {w : World} {tb mb : Nat} {X : As Gn} {p : ByteArray} (h : TreeBut w tb mb X p) : w.cell? ⟨tb, 0, none⟩ = some (.map (some mb)) ∧ w.cell? ⟨tb, 1, none⟩ = some (.int .i64 (sizeT (mapA Gn.nd X) : Nat)) ∧ w.frozen? ⟨tb, 1, none⟩ = false ∧ w.frozen? ⟨tb, 0, none⟩ = false :=
  ⟨(bk_cell h.head 0 _ rfl).1, (bk_cell h.head 1 _ rfl).1, (bk_cell h.head 1 _ rfl).2, (bk_cell h.head 0 _ rfl).2⟩
theorem TreeBut.look {w : World} {tb mb : Nat} {X : As Gn} {q : ByteArray} (h : TreeBut w tb mb X q) (p : ByteArray) (hp : p.size ≤ 1000000) :
    (Instr.lookup 70 (.map (some mb)) (.string p) false).run Tryz.prog w = .ok (((getA X p).map Gn.val).getD zeroNode) w := by
  rw [h.map.look p hp, getA_map]
theorem TreeBut.node {w : World} {tb mb : Nat} {X : As Gn} {q : ByteArray} (h : TreeBut w tb mb X q) (p : ByteArray) : ∃ d a c, ((getA X p).map Gn.val).getD zeroNode = .agg #[.bool d, .slice a (((getA (nds X) p).map fun n => n.b.length).getD 0) c] := by
  rw [nds_get]
  cases hg : getA X p with
  | none => exact ⟨false, none, 0, rfl⟩
  | some g =>
    obtain ⟨a, c, hv⟩ := h.form _ (mem_get hg)
    dsimp only at hv
    exact ⟨g.nd.dir, a, c, by simp [Gn.val, hv]⟩
theorem mem_put_ne {α : Type} {M : As α} (hM : AscA M) {p : ByteArray} {x : α} {e : ByteArray × α} (h : e ∈ putA M p x) : e = (p, x) ∨ (e ∈ M ∧ ¬ e.1 = p) := by
  by_cases he : e.1 = p
  · left
    have h1 := (hM.put p x).get (p := e.1) (x := e.2) h
    rw [he, getA_put_same] at h1
    exact Prod.ext he (Option.some.inj h1).symm
  · rcases mem_put h with h | h
    · exact .inl h
    · exact .inr ⟨h, he⟩
theorem TreeBut.apart_of {w : World} {tb mb : Nat} {X : As Gn} {p : ByteArray} (h : TreeBut w tb mb X p) {base : Nat} {v : Value} {L : List UInt8} (ho : Owns w base v L) (k : Nat) (hk : v.ownBlock = some k) : ¬ (k = tb ∨ k = mb) := by
  rintro (rfl | rfl)
  · exact ho.apart h.head (by decide) hk
  · rcases ho.2 with ⟨h1, _⟩ | ⟨g, cap, cur, h1, h2, h3, _⟩
    · rw [h1] at hk; simp [Value.ownBlock] at hk
    · rw [h1] at hk
      have e3 : g = k := by simpa [Value.ownBlock] using hk
      subst e3
      exact h.map.no_cells h3
/-- What a look-up tells: a node, and the bytes of what was there. -/
theorem TreeIn.node {w : World} {tb mb : Nat} {X : As Gn} (h : TreeIn w tb mb X) (p : ByteArray) : ∃ d a c, ((getA X p).map Gn.val).getD zeroNode = .agg #[.bool d, .slice a (((getA (nds X) p).map fun n => n.b.length).getD 0) c] ∧ d = ((getA X p).map (·.nd.dir)).getD false := by
  rw [nds_get]
  cases hg : getA X p with
  | none => exact ⟨false, none, 0, rfl, rfl⟩
  | some g =>
    obtain ⟨a, c, hv⟩ := h.slice hg
    exact ⟨g.nd.dir, a, c, by simp [Gn.val, hv], rfl⟩
theorem TreeIn.apart_of {w : World} {tb mb : Nat} {X : As Gn} (h : TreeIn w tb mb X) {base : Nat} {v : Value} {L : List UInt8} (ho : Owns w base v L) (k : Nat) (hk : v.ownBlock = some k) : ¬ (k = tb ∨ k = mb) := by
  rintro (rfl | rfl)
  · exact ho.apart h.head (by decide) hk
  · rcases ho.2 with ⟨h1, _⟩ | ⟨g, cap, cur, h1, h2, h3, _⟩
    · rw [h1] at hk; simp [Value.ownBlock] at hk
    · rw [h1] at hk
      have e3 : g = k := by simpa [Value.ownBlock] using hk
      subst e3
      exact h.map.no_cells h3
set_option maxHeartbeats 8000000 in
theorem set_but (tb mb : Nat) (X : As Gn) (p : ByteArray) (g : Gn) (w : World) (h : TreeBut w tb mb X p) (hp : p.size ≤ 1000000) (hX : X.length ≤ 1000000) (hs : sizeT (nds X) ≤ 100000000)
    (hg : Owns w 0 g.v g.nd.b) (hgl : g.nd.b.length ≤ 100000000) (hap : ∀ k, g.v.ownBlock = some k → ∀ e ∈ X, ¬ e.1 = p → e.2.v.ownBlock ≠ some k) :
    Calls Tryz.prog 62 #[.pointer (some ⟨tb, 0, none⟩), .string p, g.val] w fun e w' => e = .returned (.tuple #[]) ∧ TreeIn w' tb mb (putA X p g) ∧ Kept w w' (fun k => k = tb ∨ k = mb) := by
  obtain ⟨nd, v⟩ := g
  obtain ⟨a, c, rfl, hc⟩ := hg.open (m := nd.b.length) rfl
  obtain ⟨d, b⟩ := nd
  obtain ⟨m, hm⟩ : ∃ m, b.length = m := ⟨_, rfl⟩
  dsimp only [Gn.val] at *
  rw [hm] at hg hap hgl ⊢
  obtain ⟨W0, hW0⟩ : ∃ W0, w.alloc (.cells #[.bool d, .slice a m c] 81) = W0 := ⟨_, rfl⟩
  have g0 : w.grownBy W0 none := by rw [← hW0]; exact World.grownBy_alloc _ _ _
  have h0 := h.stays g0
  obtain ⟨c0, c1, f1, f0⟩ := h0.cells
  have hl := (h0.stays (w' := W0.drew) ⟨rfl, rfl, rfl, Nat.le_refl _, fun _ _ _ => rfl⟩).look p hp
  have b0 : W0.cell? ⟨w.heap.size, 0, none⟩ = some (.bool d) := by rw [← hW0, alloc_cell]; rfl
  have b1 : W0.cell? ⟨w.heap.size, 1, none⟩ = some (.slice a m c) := by rw [← hW0, alloc_cell]; rfl
  have hne : tb ≠ mb := h.ne
  have h0lt : tb < w.heap.size := bk_size h.head
  have F0 := field0
  have F1 := field1
  have hold := old_le (nds X) p
  obtain ⟨o, ho⟩ : ∃ o, ((getA (nds X) p).map fun n => n.b.length).getD 0 = o := ⟨_, rfl⟩
  have hsz := size_put (nds X) (h.asc.map _) p ⟨d, b⟩
  obtain ⟨dn, an, cn, hn⟩ := h0.node p
  rw [hn] at hl
  rw [ho] at hold hsz hl
  simp only [hm] at hsz
  obtain ⟨z, hz⟩ : ∃ z, sizeT (nds X) = z := ⟨_, rfl⟩
  obtain ⟨z', hz'⟩ : ∃ z', sizeT (putA (nds X) p ⟨d, b⟩) = z' := ⟨_, rfl⟩
  rw [hz] at hs hold hsz c1
  rw [hz'] at hsz
  have HH := Lib.hid h0
  have HG0 := Lib.hid g0
  have HP : Hid ((putA X p ⟨⟨d, b⟩, .slice a m c⟩).Pairwise fun a b => ∀ k, a.2.v.ownBlock = some k → b.2.v.ownBlock ≠ some k) := Lib.hid (put_apart h.asc h.apart hap)
  have HO : Hid (Owns w 0 (.slice a m c) b ∧ ∀ k, (Value.slice a m c).ownBlock = some k → ¬ (k = tb ∨ k = mb)) := Lib.hid ⟨hg, h.apart_of hg⟩
  have HZ : Hid (sizeT (nds (putA X p ⟨⟨d, b⟩, .slice a m c⟩)) = z') := Lib.hid (by rw [nds_put]; exact hz')
  clear g0 h h0 ho hz hz' hn hap hg hm
  go_enter Tryz.func62, Tryz.ntmps62
  go_wp2_with fail
  go_region
  rw [← hsz]
  obtain ⟨W1, hW1⟩ : ∃ W1, (W0.setCell ⟨tb, 1, none⟩ (.int .i64 (z' : Int))).drew = W1 := ⟨_, rfl⟩
  rw [hW1]
  have g1 : W0.grownBy W1 (some tb) := by
    have := bk_set_grown W0 tb 1 (.int .i64 (z' : Int))
    rw [← hW1]; exact ⟨this.os, this.tape, this.output, this.size, this.block⟩
  have hd1 : W1.heap[tb]? = some (.cells #[.map (some mb), .int .i64 (z' : Int)] 72 (0, 0)) := by
    rw [← hW1]; exact bk_set HH.out.head 1 (.int .i64 (z' : Int))
  have m1 : MapAt W1 mb (mapA Gn.val X) := HH.out.map.keeps (Kept.one g1) (fun e => hne e.symm)
  obtain ⟨W2, hrun, m2, g2, _⟩ := (m1.keeps (w' := W1.drew) (S := fun _ => False) ⟨rfl, rfl, rfl, Nat.le_refl _, fun _ _ _ => rfl⟩ (fun e => e)).update p hp (by rw [mapA_len]; exact hX) (.agg #[.bool d, .slice a m c])
  have c0' := (bk_cell hd1 0 _ rfl).1
  have b0' : W1.cell? ⟨w.heap.size, 0, none⟩ = some (.bool d) := g1.cell b0 (by intro e; have := h0lt; simp at e; omega)
  have b1' : W1.cell? ⟨w.heap.size, 1, none⟩ = some (.slice a m c) := g1.cell b1 (by intro e; have := h0lt; simp at e; omega)
  clear c0 c1 hl b0 b1 f0 f1 hW1 hsz
  have M2 := Lib.hid m2
  have G1 := Lib.hid g1
  have G2 := Lib.hid g2
  have HD1 := Lib.hid hd1
  clear m1 m2 g1 g2 hd1
  go_wp2_with fail
  go_region
  have k1 : Kept W0 W2 (fun k => k = tb ∨ k = mb) := (Kept.of G1.out _ (fun k e => .inl (Option.some.inj e).symm)).trans (T := fun k => k = tb ∨ k = mb)
    (Kept.of (w := W1) ⟨G2.out.os, G2.out.tape, G2.out.output, G2.out.size, G2.out.block⟩ _ (fun k e => .inr (Option.some.inj e).symm)) (fun i hi => .inl hi)
  have k2 : Kept w W2 (fun k => k = tb ∨ k = mb) := (Kept.ofNone HG0.out _).trans k1 (fun i hi => .inl hi)
  have hd2 : W2.heap[tb]? = some (.cells #[.map (some mb), .int .i64 (z' : Int)] 72 (0, 0)) := by
    rw [G2.out.block tb (by have := bk_size HD1.out; exact this) (by simpa using hne)]; exact HD1.out
  have K2 := Lib.hid k2
  have T2 : Hid (TreeIn W2 tb mb (putA X p ⟨⟨d, b⟩, .slice a m c⟩)) := Lib.hid ⟨by rw [HZ.out]; exact hd2, by have := M2.out; rw [← putA_map]; exact this, fun e he => by
    rcases mem_put_ne HH.out.asc he with rfl | ⟨he, hne⟩
    · exact HO.out.1.keeps k2 HO.out.2
    · exact (HH.out.row e he hne).keeps k1 (HH.out.apart_of (HH.out.row e he hne)), HP.out⟩
  clear k1 k2 hd2
  go_wp2
  exact bodyPost_end (results_none rfl _ _ _) rfl ⟨rfl, T2.out, K2.out⟩
theorem set_any (tb mb : Nat) (X : As Gn) (p : ByteArray) (g : Gn) (w : World) (h : TreeIn w tb mb X) (hp : p.size ≤ 1000000) (hX : X.length ≤ 1000000) (hs : sizeT (nds X) ≤ 100000000)
    (hg : Owns w 0 g.v g.nd.b) (hgl : g.nd.b.length ≤ 100000000) (hap : ∀ k, g.v.ownBlock = some k → ∀ e ∈ X, ¬ e.1 = p → e.2.v.ownBlock ≠ some k) :
    Calls Tryz.prog 62 #[.pointer (some ⟨tb, 0, none⟩), .string p, g.val] w fun e w' => e = .returned (.tuple #[]) ∧ TreeIn w' tb mb (putA X p g) ∧ Kept w w' (fun k => k = tb ∨ k = mb) := set_but tb mb X p g w (h.but p) hp hX hs hg hgl hap
end Go.Proofs.YtichejodbohldaaGreatDoor
namespace Go.Proofs.YtichejodbohldaaGreatDoor
open Go.RowKit Go.Maps
set_option maxRecDepth 1000000
theorem nds_del (X : As Gn) (p : ByteArray) : nds (delA X p) = delA (nds X) p := (delA_map Gn.nd X p).symm
theorem size_del (M : Tr) (hM : AscA M) (p : ByteArray) : (sizeT (delA M p) : Int) = (sizeT M : Int) - ((((getA M p).map fun n => n.b.length).getD 0 : Nat) : Int) := by
  have := del_sum (fun n : Nd => n.b.length) hM p
  unfold sizeT
  omega
set_option maxHeartbeats 8000000 in
theorem drop_any (tb mb : Nat) (X : As Gn) (p : ByteArray) (w : World) (h : TreeIn w tb mb X) (hp : p.size ≤ 1000000) (hs : sizeT (nds X) ≤ 100000000) :
    Calls Tryz.prog 58 #[.pointer (some ⟨tb, 0, none⟩), .string p] w fun e w' => e = .returned (.tuple #[]) ∧ TreeIn w' tb mb (delA X p) ∧ Kept w w' (fun k => k = tb ∨ k = mb) := by
  obtain ⟨c0, c1, f1, f0⟩ := h.cells
  have hl := (h.stays (w' := w.drew) ⟨rfl, rfl, rfl, Nat.le_refl _, fun _ _ _ => rfl⟩).look p hp
  have hne : tb ≠ mb := h.ne
  have F1 := field1
  have hold := old_le (nds X) p
  obtain ⟨o, ho⟩ : ∃ o, ((getA (nds X) p).map fun n => n.b.length).getD 0 = o := ⟨_, rfl⟩
  have hsz := size_del (nds X) (h.asc.map _) p
  obtain ⟨dn, an, cn, hn, _⟩ := h.node p
  rw [hn] at hl
  rw [ho] at hold hsz hl
  obtain ⟨z, hz⟩ : ∃ z, sizeT (nds X) = z := ⟨_, rfl⟩
  obtain ⟨z', hz'⟩ : ∃ z', sizeT (delA (nds X) p) = z' := ⟨_, rfl⟩
  rw [hz] at hs hold hsz c1
  rw [hz'] at hsz
  have HH := Lib.hid h
  have HP : Hid ((delA X p).Pairwise fun a b => ∀ k, a.2.v.ownBlock = some k → b.2.v.ownBlock ≠ some k) := Lib.hid (h.apart.filter _)
  have HZ : Hid (sizeT (nds (delA X p)) = z') := Lib.hid (by rw [nds_del]; exact hz')
  clear h ho hz hz' hn
  go_enter Tryz.func58, Tryz.ntmps58
  go_wp2_with fail
  go_region
  rw [← hsz]
  obtain ⟨W1, hW1⟩ : ∃ W1, (w.setCell ⟨tb, 1, none⟩ (.int .i64 (z' : Int))).drew = W1 := ⟨_, rfl⟩
  rw [hW1]
  have g1 : w.grownBy W1 (some tb) := by
    have := bk_set_grown w tb 1 (.int .i64 (z' : Int))
    rw [← hW1]; exact ⟨this.os, this.tape, this.output, this.size, this.block⟩
  have hd1 : W1.heap[tb]? = some (.cells #[.map (some mb), .int .i64 (z' : Int)] 72 (0, 0)) := by
    rw [← hW1]; exact bk_set HH.out.head 1 (.int .i64 (z' : Int))
  have m1 : MapAt W1 mb (mapA Gn.val X) := HH.out.map.keeps (Kept.one g1) (fun e => hne e.symm)
  obtain ⟨W2, hrun, m2, g2, _⟩ := m1.delete p hp 0
  have c0' := (bk_cell hd1 0 _ rfl).1
  clear c0 c1 hl f0 f1 hW1 hsz
  have k1 : Kept w W2 (fun k => k = tb ∨ k = mb) := (Kept.of g1 _ (fun k e => .inl (Option.some.inj e).symm)).trans (T := fun k => k = tb ∨ k = mb)
    (Kept.of (w := W1) g2 _ (fun k e => .inr (Option.some.inj e).symm)) (fun i hi => .inl hi)
  have hd2 : W2.heap[tb]? = some (.cells #[.map (some mb), .int .i64 (z' : Int)] 72 (0, 0)) := by
    rw [g2.block tb (bk_size hd1) (by simpa using hne)]; exact hd1
  have K2 := Lib.hid k1
  have T2 : Hid (TreeIn W2 tb mb (delA X p)) := Lib.hid ⟨by rw [HZ.out]; exact hd2, by rw [← delA_map]; exact m2, fun e he =>
    (HH.out.row e (List.mem_filter.1 he |>.1)).keeps k1 (HH.out.apart_of (HH.out.row e (List.mem_filter.1 he |>.1))), HP.out⟩
  clear k1 hd2 m1 m2 g1 g2 hd1
  go_wp2
  exact bodyPost_end (results_none rfl _ _ _) rfl ⟨rfl, T2.out, K2.out⟩
end Go.Proofs.YtichejodbohldaaGreatDoor
