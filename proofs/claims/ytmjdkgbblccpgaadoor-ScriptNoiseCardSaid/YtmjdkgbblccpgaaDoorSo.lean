/- The words of a line: a plain one, a quoted one, a number, one that must be this. -/
import Derived.Test.YtmjdkgbblccpgaaDoorSn
namespace Go.Proofs.YtmjdkgbblccpgaaDoor
open Go.RowKit

def headS (W : List ByteArray) : ByteArray := W.headD ⟨#[]⟩
def isQ (x : ByteArray) : Bool := Lib.hasPrefix x.data.toList (⟨#[34]⟩ : ByteArray).data.toList
def unQ (x : ByteArray) : ByteArray := ⟨(Lib.trimPrefix x.data.toList (⟨#[34]⟩ : ByteArray).data.toList).toArray⟩
theorem next_any (b B : Nat) (bad : Bool) (W : List ByteArray) (w : World) (h : Rd w b B W bad) :
    Calls Tryd.prog 66 #[.pointer (some ⟨b, 0, none⟩)] w (ReadTo w b B (.string (headS W)) W.tail (bad || W.isEmpty)) := by
  cases W with
  | nil =>
    rw [show (bad || ([] : List ByteArray).isEmpty) = true by simp]
    exact next_none b B bad w h
  | cons x W =>
    rw [show (bad || (x :: W).isEmpty) = bad by simp]
    exact next_word b B bad x W w h
theorem ReadTo.bad {w w1 : World} {b B : Nat} {W : List ByteArray} {bad : Bool} (v : Value) (h : Rd w1 b B W bad) (hg : w.grownBy w1 (some b)) : ReadTo w b B v W true (.returned v) (w1.setCell ⟨b, 1, none⟩ (.bool true)) :=
  ⟨rfl, h.setBad true, World.grownBy.trans hg (set_grown _ _ _ _)⟩
theorem Rd.cells {w : World} {b B : Nat} {W : List ByteArray} {bad : Bool} (h : Rd w b B W bad) : ∃ a cp, w.cell? ⟨b, 0, none⟩ = some (.slice a W.length cp) ∧ w.frozen? ⟨b, 0, none⟩ = false ∧ w.cell? ⟨b, 1, none⟩ = some (.bool bad) ∧ w.frozen? ⟨b, 1, none⟩ = false ∧ PartS w B (.slice a W.length cp) W ∧ W.length ≤ 8000000 ∧ B ≤ b := by
  obtain ⟨a, cp, h1, h2, h3⟩ := h
  exact ⟨a, cp, (block_cell h1 0 _ rfl).1, (block_cell h1 0 _ rfl).2, (block_cell h1 1 _ rfl).1, (block_cell h1 1 _ rfl).2, h3, h2.1, h2.2⟩
theorem grown_any {w0 w w' : World} {r : Option Nat} (h1 : w0.grownBy w r) (h2 : w.grownBy w' none) : w0.grownBy w' r :=
  ⟨h2.os.trans h1.os, h2.tape.trans h1.tape, h2.output.trans h1.output, Nat.le_trans h1.size h2.size, fun j hj hne => (h2.block j (Nat.lt_of_lt_of_le hj h1.size) (by simp)).trans (h1.block j hj hne)⟩

set_option maxRecDepth 1000000
set_option maxHeartbeats 1000000 in
theorem plain_any (b B : Nat) (bad : Bool) (W : List ByteArray) (w : World) (h : Rd w b B W bad) :
    Calls Tryd.prog 45 #[.pointer (some ⟨b, 0, none⟩)] w (ReadTo w b B (.string (headS W)) W.tail (bad || W.isEmpty || isQ (headS W))) := by
  have HR := Lib.hid h
  clear h
  obtain ⟨x, hx⟩ : ∃ x, headS W = x := ⟨_, rfl⟩
  obtain ⟨b1, hb1⟩ : ∃ b1, (bad || W.isEmpty) = b1 := ⟨_, rfl⟩
  have HN : Hid (∀ w, Rd w b B W bad → Calls Tryd.prog 66 #[.pointer (some ⟨b, 0, none⟩)] w (ReadTo w b B (.string x) W.tail b1)) := by
    intro w h
    rw [← hx, ← hb1]; exact next_any b B bad W w h
  rw [hx, hb1]
  clear hx hb1
  go_enter Tryd.func45, Tryd.ntmps45
  go_wp2_with fail
  (with_reducible refine (HN.out _ HR.out).mono ?_)
  rintro ee w1 h
  obtain ⟨rfl, h1, hg⟩ := h
  dsimp only
  have HR1 := Lib.hid h1
  have HG := Lib.hid hg
  clear hg
  go_wp2_with fail
  (with_reducible refine (Tryd.strings_HasPrefix x ⟨#[34]⟩ _).mono ?_)
  rintro ee w2 ⟨rfl, hw2⟩
  rw [hw2]
  clear hw2 w2
  dsimp only
  obtain ⟨a, cp, c00, c01, c10, c11, _⟩ := h1.cells
  clear h1
  cases hq : Lib.hasPrefix x.data.toList (⟨#[34]⟩ : ByteArray).data.toList with
  | true =>
    have HQ : Hid ((b1 || isQ x) = true) := by show (b1 || isQ x) = true; unfold isQ; rw [hq, Bool.or_true]
    go_wp2
    go_ret
    rw [HQ.out]
    exact ReadTo.bad _ HR1.out HG.out
  | false =>
    have HQ : Hid ((b1 || isQ x) = b1) := by show (b1 || isQ x) = b1; unfold isQ; rw [hq, Bool.or_false]
    go_wp2
    go_ret
    rw [HQ.out]
    exact ⟨rfl, HR1.out, HG.out⟩
set_option maxHeartbeats 1000000 in
theorem text_any (b B : Nat) (bad : Bool) (W : List ByteArray) (w : World) (h : Rd w b B W bad) :
    Calls Tryd.prog 46 #[.pointer (some ⟨b, 0, none⟩)] w (ReadTo w b B (.string (unQ (headS W))) W.tail (bad || W.isEmpty || !isQ (headS W))) := by
  have HR := Lib.hid h
  clear h
  obtain ⟨x, hx⟩ : ∃ x, headS W = x := ⟨_, rfl⟩
  obtain ⟨b1, hb1⟩ : ∃ b1, (bad || W.isEmpty) = b1 := ⟨_, rfl⟩
  have HN : Hid (∀ w, Rd w b B W bad → Calls Tryd.prog 66 #[.pointer (some ⟨b, 0, none⟩)] w (ReadTo w b B (.string x) W.tail b1)) := by
    intro w h
    rw [← hx, ← hb1]; exact next_any b B bad W w h
  rw [hx, hb1]
  clear hx hb1
  go_enter Tryd.func46, Tryd.ntmps46
  go_wp2_with fail
  (with_reducible refine (HN.out _ HR.out).mono ?_)
  rintro ee w1 h
  obtain ⟨rfl, h1, hg⟩ := h
  dsimp only
  have HR1 := Lib.hid h1
  have HG := Lib.hid hg
  clear hg
  go_wp2_with fail
  (with_reducible refine (Tryd.strings_CutPrefix x ⟨#[34]⟩ _).mono ?_)
  rintro ee w2 ⟨rfl, hw2⟩
  rw [hw2]
  clear hw2 w2
  dsimp only
  obtain ⟨a, cp, c00, c01, c10, c11, _⟩ := h1.cells
  clear h1
  cases hq : Lib.hasPrefix x.data.toList (⟨#[34]⟩ : ByteArray).data.toList with
  | true =>
    have HQ : Hid ((b1 || !isQ x) = b1) := by show (b1 || !isQ x) = b1; unfold isQ; rw [hq]; simp
    go_wp2
    go_ret
    rw [HQ.out]
    exact ⟨rfl, HR1.out, HG.out⟩
  | false =>
    have HQ : Hid ((b1 || !isQ x) = true) := by show (b1 || !isQ x) = true; unfold isQ; rw [hq]; simp
    go_wp2
    go_ret
    rw [HQ.out]
    exact ReadTo.bad _ HR1.out HG.out
/-- The number that a repeat names, if it may. -/
def repP (x : ByteArray) : Option Nat := match numP x with
  | some n => if n ≤ 1000 then some n else none
  | none => none
def RepTo (w : World) (b B : Nat) (x : ByteArray) (W : List ByteArray) (b1 : Bool) (e : Ending) (w' : World) : Prop :=
  (∃ n, repP x = some n ∧ ReadTo w b B (.int .i64 (n : Int)) W b1 e w') ∨ (repP x = none ∧ ∃ n : Int, ReadTo w b B (.int .i64 n) W true e w')
set_option maxHeartbeats 1000000 in
theorem rep_any (b B : Nat) (bad : Bool) (W : List ByteArray) (w : World) (h : Rd w b B W bad) (hs : (headS W).size ≤ 1000000) :
    Calls Tryd.prog 48 #[.pointer (some ⟨b, 0, none⟩)] w (RepTo w b B (headS W) W.tail (bad || W.isEmpty)) := by
  have HR := Lib.hid h
  clear h
  obtain ⟨x, hx⟩ : ∃ x, headS W = x := ⟨_, rfl⟩
  obtain ⟨b1, hb1⟩ : ∃ b1, (bad || W.isEmpty) = b1 := ⟨_, rfl⟩
  have HN : Hid (∀ w, Rd w b B W bad → Calls Tryd.prog 66 #[.pointer (some ⟨b, 0, none⟩)] w (ReadTo w b B (.string x) W.tail b1)) := by
    intro w h
    rw [← hx, ← hb1]; exact next_any b B bad W w h
  rw [hx, hb1]
  rw [hx] at hs
  clear hx hb1
  go_enter Tryd.func48, Tryd.ntmps48
  go_wp2_with fail
  (with_reducible refine (HN.out _ HR.out).mono ?_)
  rintro ee w1 h
  obtain ⟨rfl, h1, hg⟩ := h
  dsimp only
  have HG := Lib.hid hg
  have HRA := Lib.hid h1
  clear hg h1
  go_wp2_with fail
  (with_reducible refine (number_any x _ hs).mono ?_)
  rintro ee w2 h
  obtain ⟨g2, hcase⟩ := h
  have h1 := HRA.out.stays g2
  have HR1 := Lib.hid h1
  have HG2 := Lib.hid (grown_any HG.out g2)
  clear g2
  obtain ⟨a, cp, c00, c01, c10, c11, _⟩ := h1.cells
  clear h1
  rcases hcase with ⟨n, hn, hn9, rfl⟩ | ⟨hn, rfl⟩
  · dsimp only
    by_cases h1000 : n ≤ 1000
    · have HE : Hid (repP x = some n) := by show _ = _; unfold repP; rw [hn]; simp [h1000]
      have d : decide (1000 < (n : Int)) = false := by simp; omega
      clear hn h1000
      go_wp2
      go_ret
      exact .inl ⟨n, HE.out, rfl, HR1.out, HG2.out⟩
    · have HE : Hid (repP x = none) := by show _ = _; unfold repP; rw [hn]; simp [h1000]
      have d : 1000 < (n : Int) := by omega
      clear hn h1000
      go_wp2
      go_ret
      exact .inr ⟨HE.out, _, ReadTo.bad _ HR1.out HG2.out⟩
  · dsimp only
    have HE : Hid (repP x = none) := by show _ = _; unfold repP; rw [hn]
    clear hn
    go_wp2
    go_ret
    exact .inr ⟨HE.out, _, ReadTo.bad _ HR1.out HG2.out⟩
def SkipTo (w : World) (b B : Nat) (W : List ByteArray) (word : ByteArray) (bad : Bool) (e : Ending) (w' : World) : Prop :=
  (∃ V, W = word :: V ∧ ReadTo w b B (.bool true) V bad e w') ∨ ((∀ V, W ≠ word :: V) ∧ ReadTo w b B (.bool false) W bad e w')
set_option maxHeartbeats 1000000 in
theorem skip_any (b B : Nat) (bad : Bool) (W : List ByteArray) (word : ByteArray) (w : World) (h : Rd w b B W bad) :
    Calls Tryd.prog 47 #[.pointer (some ⟨b, 0, none⟩), .string word] w (SkipTo w b B W word bad) := by
  have HR := Lib.hid h
  obtain ⟨a, cp, c00, c01, c10, c11, h3, h2, _⟩ := h.cells
  clear h
  cases W with
  | nil =>
    clear h3 h2
    go_enter Tryd.func47, Tryd.ntmps47
    go_wp2
    go_ret
    exact .inr ⟨fun V h => (by cases h), rfl, HR.out, World.grownBy.refl _ _⟩
  | cons x W =>
    obtain ⟨b0, o0, rfl, hb0, q1⟩ := h3.at 0 x rfl
    rw [Nat.add_zero] at q1
    obtain ⟨_, _, e3, hcap, _⟩ := h3.form
    have ec := (Value.slice.inj e3).2.2
    simp only [List.length_cons] at h2 hcap h3 c00
    rw [← ec] at hcap
    by_cases hw : x = word
    · subst hw
      obtain ⟨n, hn⟩ : ∃ n, W.length = n := ⟨_, rfl⟩
      have HP := Lib.hid h3
      have HL : Hid (W.length ≤ 8000000) := by show _ ≤ _; omega
      have HN := Lib.hid hn
      rw [hn] at hcap c00 h2
      clear h3 ec e3 hn
      by_cases hc : cp = 1
      · have ht := HP.out.tail1 hc
        obtain ⟨hW, hPt⟩ := ht
        have HPT := Lib.hid hPt
        have hn0 : n = 0 := by have := HN.out; rw [hW] at this; exact this.symm
        subst hn0 hc hW
        clear hPt
        go_enter Tryd.func47, Tryd.ntmps47
        go_wp2
        go_ret
        exact .inl ⟨[], rfl, rfl, HR.out.setWords (V := []) HL.out HPT.out, set_grown _ _ _ _⟩
      · have HPT := Lib.hid HP.out.tail
        go_enter Tryd.func47, Tryd.ntmps47
        go_wp2
        go_ret
        refine .inl ⟨W, rfl, rfl, ?_, set_grown _ _ _ _⟩
        have := HR.out.setWords (V := W) HL.out HPT.out
        rw [HN.out] at this
        exact this
    · have HNW : Hid (∀ V, x :: W ≠ word :: V) := by
        intro V h
        exact hw (List.cons.inj h).1
      have f1 := ne_lists x word hw
      have f2 := nb_lists x word hw
      clear h3 hw ec e3
      go_enter Tryd.func47, Tryd.ntmps47
      go_wp2
      go_ret
      exact .inr ⟨HNW.out, rfl, HR.out, World.grownBy.refl _ _⟩
end Go.Proofs.YtmjdkgbblccpgaaDoor
