/- The program's Join, Parent, Base, Within. -/
import Derived.Test.YtghfnmnjomdacaaDoorJ
namespace Go.Proofs.YtghfnmnjomdacaaDoor
open Go.RowKit

theorem sumS_le (L : List ByteArray) (c : Nat) (h : ∀ p ∈ L, p.size ≤ c) : sumS L ≤ L.length * (c + 1) := by
  induction L with
  | nil => simp [sumS]
  | cons x r ih =>
    have h1 := h x (by simp)
    have h2 := ih fun p hp => h p (by simp [hp])
    simp only [sumS, List.length_cons, Nat.add_mul]
    omega
theorem parts_size (s : ByteArray) : ∀ p ∈ partsS s, p.size ≤ s.size := by
  unfold partsS
  split
  · simp
  · exact pieces_size s
theorem parts_len (s : ByteArray) : (partsS s).length ≤ s.size + 1 := by
  unfold partsS
  split
  · simp
  · exact pieces_le s

/-- The document's path of s below dir. -/
def joinS (dir s : ByteArray) : ByteArray × Int :=
  if 200 < (if dir = ⟨#[]⟩ then s.size else dir.size + 1 + s.size) then (⟨#[]⟩, 50) else walkS (partsS dir) s

theorem parts_at (m : Int) (s : ByteArray) (L : List ByteArray) (r : Nat) (w : World) (hs : s.size ≤ 100000) (hm : w.cell? ⟨0, 0, none⟩ = some (.int .i64 m)) (hL : partsS s = L) (hr : L.length = r) :
    Calls Tryd.prog 12 #[.string s] w fun e w' => ∃ a, e = .returned (.slice a r r) ∧ FullS w' (.slice a r r) L ∧ w.grownBy w' none := by
  subst hL hr; exact parts_any m s w hs hm

set_option maxRecDepth 1000000
set_option maxHeartbeats 1000000 in
theorem join_path (m : Int) (dir s : ByteArray) (w : World) (hd : dir.size ≤ 100000) (hs : s.size ≤ 100000) (hm : w.cell? ⟨0, 0, none⟩ = some (.int .i64 m)) :
    Calls Tryd.prog 21 #[.string dir, .string s] w (WalkRet w (joinS dir s)) := by
  have q1 : dir.size + 1 ≤ 9223372036854775807 := by omega
  have q2 : dir.size + 1 + s.size ≤ 9223372036854775807 := by omega
  obtain ⟨L, hL⟩ : ∃ L, partsS dir = L := ⟨_, rfl⟩
  obtain ⟨r, hr⟩ : ∃ r, L.length = r := ⟨_, rfl⟩
  have hpl := parts_len dir
  have hpz := parts_size dir
  rw [hL] at hpl hpz
  rw [hr] at hpl
  have hpsum := sumS_le L dir.size hpz
  rw [hr] at hpsum
  have HPS := Lib.hid hpsum
  have HM := Lib.hid hm
  have HL := Lib.hid hL
  have HR := Lib.hid hr
  clear hm hL hr hpz hpsum
  by_cases h0 : dir = ⟨#[]⟩
  · by_cases hl : 200 < s.size
    · have e : Hid (joinS dir s = (⟨#[]⟩, 50)) := by show _ = _; unfold joinS; rw [if_pos h0, if_pos hl]
      have h2 : 200 < (s.size : Int) := by omega
      subst h0
      clear hl
      go_enter Tryd.func21, Tryd.ntmps21
      go_wp2
      go_ret2
      exact ⟨by rw [e.out]; rfl, World.grownBy.refl _ _⟩
    · have e : Hid (joinS dir s = walkS L s) := by show _ = _; unfold joinS; rw [if_pos h0, if_neg hl, HL.out]
      have h2 : decide (200 < (s.size : Int)) = false := by simp; omega
      subst h0
      have hrz : Hid (r ≤ 1 ∧ sumS L ≤ 100000) := by
        have h3 : L = [] := by rw [← HL.out]; unfold partsS; rw [if_pos rfl]
        refine ⟨by rw [← HR.out, h3]; simp, by rw [h3]; simp [sumS]⟩
      clear hl hpl
      go_enter Tryd.func21, Tryd.ntmps21
      go_wp2_with fail
      (with_reducible refine (parts_at m ⟨#[]⟩ L r _ hd HM.out HL.out HR.out).mono ?_)
      rintro ee w' ⟨a, rfl, hf, hg⟩
      dsimp only
      have HF := Lib.hid hf
      have HG := Lib.hid hg
      clear hf hg
      go_wp2_with fail
      (with_reducible refine (walk_any m r a L s _ HR.out (by have := hrz.out.1; omega) HF.out hs hrz.out.2 (HG.out.cell HM.out (by simp))).mono ?_)
      rintro ee w2 ⟨rfl, hg2⟩
      dsimp only
      have HG2 := Lib.hid (World.grownBy.trans HG.out hg2)
      clear hg2
      go_wp2
      go_ret2
      exact ⟨by rw [e.out]; rfl, HG2.out⟩
  · have d1 := ne_list dir [] h0
    have c1 := empty_no dir h0
    by_cases hl : 200 < dir.size + 1 + s.size
    · have e : Hid (joinS dir s = (⟨#[]⟩, 50)) := by show _ = _; unfold joinS; rw [if_neg h0, if_pos hl]
      have h2 : 200 < (dir.size : Int) + 1 + (s.size : Int) := by omega
      clear h0 hl
      go_enter Tryd.func21, Tryd.ntmps21
      go_wp2
      go_ret2
      exact ⟨by rw [e.out]; rfl, World.grownBy.refl _ _⟩
    · have e : Hid (joinS dir s = walkS L s) := by show _ = _; unfold joinS; rw [if_neg h0, if_neg hl, HL.out]
      have h2 : decide (200 < (dir.size : Int) + 1 + (s.size : Int)) = false := by simp; omega
      have hrz : Hid (r ≤ 200 ∧ sumS L ≤ 100000) := by
        refine ⟨by omega, Nat.le_trans HPS.out ?_⟩
        exact Nat.le_trans (Nat.mul_le_mul (show r ≤ 201 by omega) (show dir.size + 1 ≤ 201 by omega)) (by decide)
      clear hl hpl h0
      go_enter Tryd.func21, Tryd.ntmps21
      go_wp2_with fail
      (with_reducible refine (parts_at m dir L r _ hd HM.out HL.out HR.out).mono ?_)
      rintro ee w' ⟨a, rfl, hf, hg⟩
      dsimp only
      have HF := Lib.hid hf
      have HG := Lib.hid hg
      clear hf hg
      go_wp2_with fail
      (with_reducible refine (walk_any m r a L s _ HR.out (by have := hrz.out.1; omega) HF.out hs hrz.out.2 (HG.out.cell HM.out (by simp))).mono ?_)
      rintro ee w2 ⟨rfl, hg2⟩
      dsimp only
      have HG2 := Lib.hid (World.grownBy.trans HG.out hg2)
      clear hg2
      go_wp2
      go_ret2
      exact ⟨by rw [e.out]; rfl, HG2.out⟩

/-- A path's parent, and its base, by its last slash. -/
def lastSlash (p : ByteArray) : Int := Lib.lastIndexByte p 47
end Go.Proofs.YtghfnmnjomdacaaDoor
