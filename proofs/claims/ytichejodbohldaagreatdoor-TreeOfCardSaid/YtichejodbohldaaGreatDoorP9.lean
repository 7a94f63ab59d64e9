/- Texts of one ground, in one file: Gg Gh Gi Gj. -/
import Derived.Test.YtichejodbohldaaGreatDoorP8
namespace Go.Proofs.YtichejodbohldaaGreatDoor
open Go.RowKit Go.Maps
set_option maxRecDepth 1000000
/-- The first k parts of a path. -/
def upL (L : List ByteArray) (k : Nat) : ByteArray := Pth.joinB (L.take k)
/-- The parts of a clean path. -/
structure Parts (L : List ByteArray) : Prop where
  part : ∀ q ∈ L, Pth.Part q
  len : L.length ≤ 12
  size : (Pth.joinB L).size ≤ 200
theorem upL_zero (L : List ByteArray) : upL L 0 = E0 := rfl
theorem upL_all (L : List ByteArray) : upL L L.length = Pth.joinB L := by unfold upL; rw [List.take_length]
theorem Parts.take {L : List ByteArray} (h : Parts L) (k : Nat) : ∀ q ∈ L.take k, Pth.Part q := fun q hq => h.part q (List.mem_of_mem_take hq)
theorem Parts.step {L : List ByteArray} (h : Parts L) (k : Nat) (hk : k < L.length) : (upL L k).size < (upL L (k + 1)).size := by
  have hq := h.part L[k] (List.getElem_mem hk)
  have hp := hq.pos
  unfold upL
  rw [List.take_succ_eq_append_getElem hk]
  by_cases h0 : k = 0
  · subst h0
    rw [List.take_zero, List.nil_append, Pth.joinB_one]
    exact hp
  · rw [Pth.joinB_snoc _ _ (by intro e; have := congrArg List.length e; rw [List.length_take, List.length_nil] at this; omega), ByteArray.size_append, ByteArray.size_append]
    omega
theorem Parts.mono {L : List ByteArray} (h : Parts L) : ∀ (d k : Nat), k + d ≤ L.length → (upL L k).size + d ≤ (upL L (k + d)).size
  | 0, _, _ => Nat.le_refl _
  | d + 1, k, hk => by
    have h1 := h.mono d k (by omega)
    have h2 := h.step (k + d) (by omega)
    rw [show k + (d + 1) = k + d + 1 by omega]
    omega
theorem Parts.small {L : List ByteArray} (h : Parts L) (k : Nat) (hk : k ≤ L.length) : (upL L k).size ≤ 200 := by
  have h1 := h.mono (L.length - k) k (by omega)
  rw [show k + (L.length - k) = L.length by omega, upL_all] at h1
  have := h.size
  omega
theorem Parts.ne {L : List ByteArray} (h : Parts L) (k : Nat) (hk : k < L.length) : ¬ upL L (k + 1) = E0 := by
  intro e
  have := h.step k hk
  rw [e] at this
  exact absurd this (Nat.not_lt_zero _)
theorem parent_at (L : List ByteArray) (h : Parts L) (k : Nat) (hk : k < L.length) (w : World) :
    Calls Tryz.prog 72 #[.string (upL L (k + 1))] w fun e w' => e = .returned (.string (upL L k)) ∧ w' = w := by
  have h1 := Pth.parent_clean (L.take (k + 1)) (h.take _) (upL L (k + 1)) rfl (by have := h.small (k + 1) hk; omega) w
  have e : (L.take (k + 1)).dropLast = L.take k := by rw [List.dropLast_eq_take, List.length_take, List.take_take, show min (min (k + 1) L.length - 1) (k + 1) = k by omega]
  rw [e] at h1
  exact h1
/-- Whether a file stands at one of the first k - 1 parts. -/
def fileN (M : Tr) (L : List ByteArray) : Nat → Bool
  | 0 => false
  | k + 1 => fileT M (upL L k) || fileN M L k
/-- How many of the first k parts lack, from the k-th up. -/
def lackN (M : Tr) (L : List ByteArray) : Nat → Nat
  | 0 => 0
  | k + 1 => if hasT M (upL L (k + 1)) = true then 0 else lackN M L k + 1
theorem lackN_le (M : Tr) (L : List ByteArray) : ∀ k, lackN M L k ≤ k
  | 0 => Nat.le_refl _
  | k + 1 => by unfold lackN; have := lackN_le M L k; split <;> omega
def sizeV : Value → Nat
  | .string s => s.size
  | _ => 0
set_option maxHeartbeats 4000000 in
theorem fileAhead_any (tb mb : Nat) (X : As Gn) (L : List ByteArray) (w : World) (h : TreeIn w tb mb X) (hL : Parts L) (k : Nat) (hk : k ≤ L.length) :
    Calls Tryz.prog 52 #[.pointer (some ⟨tb, 0, none⟩), .string (upL L k)] w fun e w' => e = .returned (.bool (fileN (nds X) L k)) ∧ w.grownBy w' none := by
  have HT : Hid (TreeIn w tb mb X) := Lib.hid h
  have HL := Lib.hid hL
  clear h hL
  go_enter Tryz.func52, Tryz.ntmps52
  go_wp2_with fail
  go_loopw [1] (fun p wr => ∃ j : Nat, j ≤ k ∧ p = .string (upL L j) ∧ Hid (fileN (nds X) L k = fileN (nds X) L j ∧ w.grownBy wr none)) (fun p _ => sizeV p)
  case atStart => exact ⟨k, Nat.le_refl _, rfl, Lib.hid ⟨rfl, World.grownBy.refl _ _⟩⟩
  case round =>
    obtain ⟨j, hj, rfl, HS⟩ := hrel
    match j, hj, HS with
    | 0, hj, HS =>
      rw [upL_zero]
      go_wp2_with fail
      go_ret
      exact ⟨by rw [HS.out.1]; rfl, HS.out.2⟩
    | j + 1, hj, HS =>
      have HN : Hid (TreeIn wr tb mb X) := Lib.hid (HT.out.stays HS.out.2)
      obtain ⟨e1, e2, e3, e4⟩ := (empty_ways (upL L (j + 1))).resolve_left (HL.out.ne j (by omega))
      cases hf : fileT (nds X) (upL L j) with
      | true =>
        have HF := Lib.hid hf
        have HE : Hid (fileN (nds X) L (j + 1) = true) := Lib.hid (by unfold fileN; rw [hf]; rfl)
        clear hf
        go_wp2_with (first | ((with_reducible refine (parent_at L HL.out j (by omega) _).mono ?_); rintro e w1 ⟨rfl, rfl⟩; dsimp only; clear e1 e2 e3 e4) | ((with_reducible refine (isFile_any tb mb X (upL L j) _ HN.out (by have := HL.out.small j (by omega); omega) true HF.out).mono ?_); rintro e w2 ⟨rfl, hg⟩; dsimp only; have HG := Lib.hid hg; clear hg))
        go_ret
        exact ⟨by rw [HS.out.1, HE.out]; rfl, World.grownBy.trans HS.out.2 HG.out⟩
      | false =>
        have HF := Lib.hid hf
        have HE : Hid (fileN (nds X) L (j + 1) = fileN (nds X) L j) := Lib.hid (by rw [fileN]; rw [hf]; rfl)
        have HM := Lib.hid (HL.out.step j (by omega))
        clear hf
        go_wp2_with (first | ((with_reducible refine (parent_at L HL.out j (by omega) _).mono ?_); rintro e w1 ⟨rfl, rfl⟩; dsimp only; clear e1 e2 e3 e4) | ((with_reducible refine (isFile_any tb mb X (upL L j) _ HN.out (by have := HL.out.small j (by omega); omega) false HF.out).mono ?_); rintro e w2 ⟨rfl, hg⟩; dsimp only; have HG := Lib.hid hg; clear hg))
        go_roundw
        case rel => exact ⟨j, by omega, rfl, Lib.hid ⟨HS.out.1.trans HE.out, World.grownBy.trans HS.out.2 HG.out⟩⟩
        case measure => exact HM.out
set_option maxHeartbeats 4000000 in
theorem lacking_any (tb mb : Nat) (X : As Gn) (L : List ByteArray) (w : World) (h : TreeIn w tb mb X) (hL : Parts L) (k : Nat) (hk : k ≤ L.length) :
    Calls Tryz.prog 54 #[.pointer (some ⟨tb, 0, none⟩), .string (upL L k)] w fun e w' => e = .returned (.int .i64 (lackN (nds X) L k : Nat)) ∧ w.grownBy w' none := by
  have HT : Hid (TreeIn w tb mb X) := Lib.hid h
  have HL := Lib.hid hL
  have hk12 : k ≤ 12 := by have := hL.len; omega
  clear h hL
  go_enter Tryz.func54, Tryz.ntmps54
  go_wp2_with fail
  go_loopw [1, 5] (fun p n wr => ∃ j i : Nat, j ≤ k ∧ i ≤ k ∧ p = .string (upL L j) ∧ n = .int .i64 (i : Int) ∧ i + j ≤ k ∧ Hid (lackN (nds X) L k = i + lackN (nds X) L j ∧ w.grownBy wr none)) (fun p _ _ => sizeV p)
  case atStart => exact ⟨k, 0, Nat.le_refl _, Nat.zero_le _, rfl, rfl, by omega, Lib.hid ⟨by omega, World.grownBy.refl _ _⟩⟩
  case round =>
    obtain ⟨j, i, hj, hi, rfl, rfl, hij, HS⟩ := hrel
    have HN : Hid (TreeIn wr tb mb X) := Lib.hid (HT.out.stays HS.out.2)
    cases hf : hasT (nds X) (upL L j) with
    | true =>
      have HF := Lib.hid hf
      have HE : Hid (lackN (nds X) L j = 0) := Lib.hid (by
        cases j with
        | zero => rfl
        | succ j => unfold lackN; rw [if_pos hf])
      clear hf
      go_wp2_with ((with_reducible refine (has_at tb mb X (upL L j) _ true HN.out (by have := HL.out.small j (by omega); omega) HF.out).mono ?_); rintro e w2 ⟨rfl, hg⟩; dsimp only; have HG := Lib.hid hg; clear hg)
      go_ret
      exact ⟨by rw [HS.out.1, HE.out, Nat.add_zero]; rfl, World.grownBy.trans HS.out.2 HG.out⟩
    | false =>
      match j, hj, hij, HS, hf with
      | 0, hj, hij, HS, hf => exact absurd hf (by unfold hasT; rw [upL_zero]; simp)
      | j + 1, hj, hij, HS, hf =>
        have HF := Lib.hid hf
        have HE : Hid (lackN (nds X) L (j + 1) = lackN (nds X) L j + 1) := Lib.hid (by rw [lackN, if_neg (by rw [hf]; decide)])
        have HM := Lib.hid (HL.out.step j (by omega))
        clear hf
        go_wp2_with (first | ((with_reducible refine (has_at tb mb X (upL L (j + 1)) _ false HN.out (by have := HL.out.small (j + 1) (by omega); omega) HF.out).mono ?_); rintro e w2 ⟨rfl, hg⟩; dsimp only; have HG := Lib.hid hg; clear hg) | ((with_reducible refine (parent_at L HL.out j (by omega) _).mono ?_); rintro e w1 ⟨rfl, rfl⟩; dsimp only))
        go_roundw
        case rel => exact ⟨j, i + 1, by omega, by omega, rfl, by go_num, by omega, Lib.hid ⟨by rw [HS.out.1, HE.out]; omega, World.grownBy.trans HS.out.2 HG.out⟩⟩
        case measure => exact HM.out
end Go.Proofs.YtichejodbohldaaGreatDoor
namespace Go.Proofs.YtichejodbohldaaGreatDoor
open Go.RowKit Go.Maps
set_option maxRecDepth 1000000
def dirN : Nd := ⟨true, []⟩
def dirG : Gn := ⟨dirN, .slice none 0 0⟩
/-- The directories that lack among the first k parts are made, from the k-th up. -/
def mkN (M : Tr) (L : List ByteArray) : Nat → Tr
  | 0 => M
  | k + 1 => if hasT M (upL L (k + 1)) = true then M else mkN (putA M (upL L (k + 1)) dirN) L k
def mkX (X : As Gn) (L : List ByteArray) : Nat → As Gn
  | 0 => X
  | k + 1 => if hasT (nds X) (upL L (k + 1)) = true then X else mkX (putA X (upL L (k + 1)) dirG) L k
theorem nds_mk (L : List ByteArray) : ∀ (k : Nat) (X : As Gn), nds (mkX X L k) = mkN (nds X) L k
  | 0, _ => rfl
  | k + 1, X => by
    unfold mkX mkN
    split
    · rfl
    · rw [nds_mk L k, nds_put]; rfl
theorem hasT_none {M : Tr} {p : ByteArray} (h : hasT M p = false) : getA M p = none := by
  unfold hasT at h
  cases hg : getA M p with
  | none => rfl
  | some n => rw [hg] at h; simp at h
theorem nds_none {X : As Gn} {p : ByteArray} (h : getA (nds X) p = none) : getA X p = none := by
  rw [nds_get] at h
  cases hg : getA X p with
  | none => rfl
  | some n => rw [hg] at h; cases h
theorem size_dir {M : Tr} (hM : AscA M) {p : ByteArray} (h : getA M p = none) : sizeT (putA M p dirN) = sizeT M := by
  have := size_put M hM p dirN
  rw [h] at this
  simp [dirN] at this
  exact_mod_cast this
theorem dir_val : dirG.val = .agg #[.bool true, .slice none 0 0] := rfl
theorem kept_two {a b c : World} {tb mb : Nat} (h : Kept a b fun k => k = tb ∨ k = mb) (k : Kept b c fun k => k = tb ∨ k = mb) : Kept a c fun k => k = tb ∨ k = mb := h.trans k fun _ e => .inl e
theorem setDir_any (tb mb : Nat) (X : As Gn) (p : ByteArray) (w : World) (h : TreeIn w tb mb X) (hp : p.size ≤ 1000000) (hX : X.length ≤ 1000000) (hs : sizeT (nds X) ≤ 100000000) :
    Calls Tryz.prog 62 #[.pointer (some ⟨tb, 0, none⟩), .string p, .agg #[.bool true, .slice none 0 0]] w fun e w' => e = .returned (.tuple #[]) ∧ TreeIn w' tb mb (putA X p dirG) ∧ Kept w w' (fun k => k = tb ∨ k = mb) :=
  set_any tb mb X p dirG w h hp hX hs (Owns.nil _ _) (Nat.zero_le _) (fun _ hk => by cases hk)
theorem setFile_but (tb mb : Nat) (X : As Gn) (p : ByteArray) (a : Option Addr) (m c : Nat) (b : List UInt8) (w : World) (h : TreeBut w tb mb X p) (hp : p.size ≤ 1000000) (hX : X.length ≤ 1000000) (hs : sizeT (nds X) ≤ 100000000)
    (hg : Owns w 0 (.slice a m c) b) (hgl : b.length ≤ 100000000) (hap : ∀ k, (Value.slice a m c).ownBlock = some k → ∀ e ∈ X, ¬ e.1 = p → e.2.v.ownBlock ≠ some k) :
    Calls Tryz.prog 62 #[.pointer (some ⟨tb, 0, none⟩), .string p, .agg #[.bool false, .slice a m c]] w fun e w' => e = .returned (.tuple #[]) ∧ TreeIn w' tb mb (putA X p ⟨⟨false, b⟩, .slice a m c⟩) ∧ Kept w w' (fun k => k = tb ∨ k = mb) :=
  set_but tb mb X p ⟨⟨false, b⟩, .slice a m c⟩ w h hp hX hs hg hgl hap
set_option maxHeartbeats 4000000 in
theorem makeDirs_any (tb mb : Nat) (X : As Gn) (L : List ByteArray) (w : World) (h : TreeIn w tb mb X) (hL : Parts L) (k : Nat) (hk : k ≤ L.length) (hX : X.length ≤ 900000) (hs : sizeT (nds X) ≤ 100000000) :
    Calls Tryz.prog 55 #[.pointer (some ⟨tb, 0, none⟩), .string (upL L k)] w fun e w' => e = .returned (.tuple #[]) ∧ TreeIn w' tb mb (mkX X L k) ∧ Kept w w' (fun k => k = tb ∨ k = mb) := by
  have HT : Hid (TreeIn w tb mb X) := Lib.hid h
  have HL := Lib.hid hL
  have hk12 : k ≤ 12 := by have := hL.len; omega
  clear h hL
  go_enter Tryz.func55, Tryz.ntmps55
  go_wp2_with fail
  go_loopw [1] (fun p wr => ∃ j : Nat, j ≤ k ∧ p = .string (upL L j) ∧ Hid (∃ X', TreeIn wr tb mb X' ∧ mkX X L k = mkX X' L j ∧ Kept w wr (fun k => k = tb ∨ k = mb) ∧ X'.length + j ≤ X.length + k ∧ sizeT (nds X') = sizeT (nds X))) (fun p _ => sizeV p)
  case atStart => exact ⟨k, Nat.le_refl _, rfl, Lib.hid ⟨X, HT.out, rfl, Kept.refl _ _, Nat.le_refl _, rfl⟩⟩
  case round =>
    obtain ⟨j, hj, rfl, HS⟩ := hrel
    obtain ⟨X', HX⟩ : ∃ X', Hid (TreeIn wr tb mb X' ∧ mkX X L k = mkX X' L j ∧ Kept w wr (fun k => k = tb ∨ k = mb) ∧ X'.length + j ≤ X.length + k ∧ sizeT (nds X') = sizeT (nds X)) := by
      obtain ⟨X', h⟩ := HS.out; exact ⟨X', Lib.hid h⟩
    clear HS
    cases hf : hasT (nds X') (upL L j) with
    | true =>
      have HF := Lib.hid hf
      have HE : Hid (mkX X' L j = X') := Lib.hid (by
        cases j with
        | zero => rfl
        | succ j => unfold mkX; rw [if_pos hf])
      clear hf
      go_wp2_with ((with_reducible refine (has_at tb mb X' (upL L j) _ true HX.out.1 (by have := HL.out.small j (by omega); omega) HF.out).mono ?_); rintro e w2 ⟨rfl, hg⟩; dsimp only; have HG := Lib.hid hg; clear hg)
      exact bodyPost_end (results_none rfl _ _ _) rfl ⟨rfl, by rw [HX.out.2.1, HE.out]; exact HX.out.1.stays HG.out, HX.out.2.2.1.then HG.out⟩
    | false =>
      match j, hj, HX, hf with
      | 0, hj, HX, hf => exact absurd hf (by unfold hasT; rw [upL_zero]; simp)
      | j + 1, hj, HX, hf =>
        have HF := Lib.hid hf
        have HE : Hid (mkX X' L (j + 1) = mkX (putA X' (upL L (j + 1)) dirG) L j) := Lib.hid (by rw [mkX, if_neg (by rw [hf]; decide)])
        have HN : Hid (getA X' (upL L (j + 1)) = none) := Lib.hid (nds_none (hasT_none hf))
        have HM := Lib.hid (HL.out.step j (by omega))
        clear hf
        go_wp2_with (first | ((with_reducible refine (has_at tb mb X' (upL L (j + 1)) _ false HX.out.1 (by have := HL.out.small (j + 1) (by omega); omega) HF.out).mono ?_); rintro e w2 ⟨rfl, hg⟩; dsimp only; have HG := Lib.hid hg; clear hg; have HT2 := Lib.hid (HX.out.1.stays HG.out)) | ((with_reducible refine (setDir_any tb mb X' (upL L (j + 1)) _ HT2.out (by have := HL.out.small (j + 1) (by omega); omega) (by have := HX.out.2.2.2.1; omega) (by rw [HX.out.2.2.2.2]; exact hs)).mono ?_); rintro e w3 ⟨rfl, ht3, hk3⟩; dsimp only; have HT3 := Lib.hid ht3; have HK3 := Lib.hid hk3; clear ht3 hk3) | ((with_reducible refine (parent_at L HL.out j (by omega) _).mono ?_); rintro e w1 ⟨rfl, rfl⟩; dsimp only))
        go_roundw
        case rel => exact ⟨j, by omega, rfl, Lib.hid ⟨_, HT3.out, HX.out.2.1.trans HE.out, kept_two (HX.out.2.2.1.then HG.out) HK3.out, by
          rw [put_len HX.out.1.asc, HN.out]; have := HX.out.2.2.2.1; simp; omega, by
          rw [nds_put]; show sizeT (putA _ _ dirN) = _; rw [size_dir (HX.out.1.asc.map _) (by rw [nds_get, HN.out]; rfl)]; exact HX.out.2.2.2.2⟩⟩
        case measure => exact HM.out
end Go.Proofs.YtichejodbohldaaGreatDoor
namespace Go.Proofs.YtichejodbohldaaGreatDoor
open Go.RowKit Go.Maps
set_option maxRecDepth 1000000
/-- v is the bytes L, which lie outside S. -/
def Lie (w : World) (S : Nat → Prop) (v : Value) (L : List UInt8) : Prop :=
  ∃ (a : Option Addr) (cap b o : Nat), v = .slice a L.length cap ∧ L.length ≤ cap ∧ (a = none → cap = 0) ∧ ¬ S b ∧ (0 < L.length → a = some ⟨b, o, none⟩) ∧
    ∀ j, j < L.length → w.cell? ⟨b, o + j, none⟩ = some (.int .u8 ((L.getD j 0).toNat : Int))
theorem Lie.keeps {w w' : World} {S T : Nat → Prop} {v : Value} {L : List UInt8} (h : Lie w S v L) (hk : Kept w w' T) (hT : ∀ k, T k → S k) : Lie w' S v L := by
  obtain ⟨a, cap, b, o, h1, h2, h6, h3, h4, h5⟩ := h
  refine ⟨a, cap, b, o, h1, h2, h6, h3, h4, fun j hj => ?_⟩
  have hc := h5 j hj
  rw [← hc]
  exact World.cell?_of_block (hk.block b (World.block_lt_of_cell? _ _ hc) fun e => h3 (hT b e))
theorem Lie.less {w : World} {S T : Nat → Prop} {v : Value} {L : List UInt8} (h : Lie w S v L) (hT : ∀ k, T k → S k) : Lie w T v L := by
  obtain ⟨a, cap, b, o, h1, h2, h6, h3, h4, h5⟩ := h
  exact ⟨a, cap, b, o, h1, h2, h6, fun e => h3 (hT b e), h4, h5⟩
theorem Lie.part {w : World} {S : Nat → Prop} {v : Value} {L : List UInt8} (h : Lie w S v L) : ∃ B, Part w B v L := by
  obtain ⟨a, cap, b, o, h1, h2, h6, h3, h4, h5⟩ := h
  exact ⟨b + 1, a, cap, b, o, h1, h2, h6, Nat.lt_succ_self _, h4, h5⟩
theorem Part.lie {w : World} {S : Nat → Prop} {B : Nat} {v : Value} {L : List UInt8} (h : Part w B v L) (hS : ∀ k, S k → B ≤ k) : Lie w S v L := by
  obtain ⟨a, cap, b, o, h1, h2, h6, h3, h4, h5⟩ := h
  exact ⟨a, cap, b, o, h1, h2, h6, fun e => by have := hS b e; omega, h4, h5⟩
theorem Owns.lie {w : World} {S : Nat → Prop} {base : Nat} {v : Value} {L : List UInt8} (h : Owns w base v L) (hS : ∀ k, v.ownBlock = some k → ¬ S k) (hz : ∀ k, S k → k < w.heap.size) : Lie w S v L := by
  rcases h.2 with ⟨h1, h2⟩ | ⟨g, cap, cur, h1, h2, h3, h4, h5, h6, h7⟩
  · exact ⟨none, 0, w.heap.size, 0, by rw [h1, h2], by omega, fun _ => rfl, fun e => by have := hz _ e; omega, fun h => by omega, fun j hj => by omega⟩
  · refine ⟨_, cap, g, 0, h1, h4, fun h => by simp at h, hS g (by rw [h1]; rfl), fun _ => rfl, fun j hj => ?_⟩
    rw [Nat.zero_add, cell_in h3]
    have e := encB_at L j hj
    rw [← h7, List.getElem?_take, if_pos (by omega)] at e
    simpa using e
/-- append of bytes that lie anywhere to bytes that the call owns: where they lie then. -/
theorem app_loc {w : World} {ops : Array Oper} {rest : List Oper} {o : Oper} {a : Act} {Q : Exit → Act → World → Prop} (hgd : o.guard = none) (s x : Operand)
    (ho : o.op = .call { callee := .builtin .append, args := #[s, x], argTypes := #[31, 31] }) (base B : Nat) (v xv : Value) (L M : List UInt8) (hs : a.eval s = v) (hown : Owns w base v L)
    (hx : a.eval x = xv) (hp : Part w B xv M) (hb : L.length + M.length ≤ 8000000) (hbase : base ≤ w.heap.size)
    (h : ∀ v' w', Owns w' base v' (L ++ M) → w.grownBy w' v.ownBlock → (v'.ownBlock = v.ownBlock ∨ v'.ownBlock = some w.heap.size) → wpList Tryz.prog ops Q rest (a.put o.dst v') w') : wpList Tryz.prog ops Q (o :: rest) a w := by
  obtain ⟨i0, hi, hz0, hz1, hz2⟩ := info_parts infoB
  obtain ⟨ap, cap, b, of, h1, h2, h6, h3, h4, h5⟩ := hp
  subst h1
  cases ap with
  | none =>
    have hc := h6 rfl
    have hm : M = [] := List.eq_nil_of_length_eq_zero (by omega)
    subst hm
    have hc' : cap = 0 := by omega
    subst hc'
    refine wpList_append_own_none hgd s x 31 ho base 5 i0 1 Tryz.underlying31 hi v L.length (L.map encB) hs hown hx ?_
    exact h v w (by simpa using hown) (World.grownBy.refl _ _) (.inl rfl)
  | some ad =>
    refine wpList_append_own_at w hgd s x 31 ho base 5 i0 (.int .u8 0) 1 1 Tryz.underlying31 hi hz0 hz1 hz2 rfl (by decide) v L.length (L.map encB) hs hown ad M.length cap (M.map encB) hx (by simp) ?_ ?_ (by unfold maxLen; omega) (by omega) hbase ?_
    · intro j u hu
      have hj : j < M.length := by have := (List.getElem?_eq_some_iff.1 hu).1; simpa using this
      have e := h4 (by omega)
      rw [Option.some.inj e, Addr.add_mid, h5 j hj, ← hu, encB_at M j hj]
    · intro u hu
      obtain ⟨y, _, rfl⟩ := List.mem_map.1 hu
      rfl
    · intro v' w' h7 h8 _ h9
      refine h v' w' ?_ h8 h9
      show World.ownsRow _ _ _ _ _ _ _
      rw [List.length_append, List.map_append]
      exact h7

/-! ### which place a path is -/
theorem walkL_code (nb : Nat) : ∀ (ps out : List ByteArray), (Pth.walkL nb out ps).1 = 0 ∨ (Pth.walkL nb out ps).1 = 50 ∨ (Pth.walkL nb out ps).1 = 51
  | [], out => .inl rfl
  | p :: ps, out => by
    unfold Pth.walkL
    split
    · exact walkL_code nb ps out
    · split
      · split
        · exact .inr (.inr rfl)
        · exact walkL_code nb ps _
      · split
        · exact walkL_code nb ps _
        · exact .inr (.inl rfl)
theorem clean_code (s : ByteArray) : Pth.cleanS s = (E0, 50) ∨ Pth.cleanS s = (E0, 51) ∨ (Pth.cleanS s).2 = 0 := by
  unfold Pth.cleanS
  split
  · exact .inl rfl
  · unfold Pth.walkS
    split
    · exact .inr (.inl rfl)
    · split
      · rcases walkL_code [].length (Pth.pieces s) [] with h | h | h
        · rename_i h2; exact absurd h h2
        · rw [h]; exact .inl rfl
        · rw [h]; exact .inr (.inl rfl)
      · split
        · exact .inl rfl
        · exact .inr (.inr rfl)
theorem clean_ways (s : ByteArray) : (∃ L, Pth.cleanS s = (Pth.joinB L, 0) ∧ Parts L) ∨ (∃ q, Pth.cleanS s = (E0, q) ∧ ¬ q = 0 ∧ 0 ≤ q ∧ q ≤ 100) := by
  rcases clean_code s with h | h | h
  · exact .inr ⟨50, h, by omega, by omega, by omega⟩
  · exact .inr ⟨51, h, by omega, by omega, by omega⟩
  · refine .inl ?_
    obtain ⟨L, e, hp, hl, hs⟩ := Pth.cleanS_zero s (Pth.cleanS s).1 (Prod.ext rfl h)
    exact ⟨L, Prod.ext e h, hp, hl, by rw [← e]; exact hs⟩
theorem clean_at (m : Int) (s : ByteArray) (p : ByteArray) (q : Int) (w : World) (hm : w.cell? ⟨0, 0, none⟩ = some (.int .i64 m)) (h : Pth.cleanS s = (p, q)) :
    Calls Tryz.prog 49 #[.string s] w fun e w' => e = .returned (.tuple #[.string p, .int .i64 q]) ∧ w.grownBy w' none := by
  have := Pth.clean_any m s w hm
  rw [h] at this
  exact this
def aheadT (M : Tr) (L : List ByteArray) : Bool := fileN M L L.length
/-- The place of a file, or why there is none. -/
def fileS (M : Tr) (s : ByteArray) : ByteArray × Int :=
  if ¬ (Pth.cleanS s).2 = 0 then (E0, (Pth.cleanS s).2) else if (dirT M (Pth.cleanS s).1 || aheadT M (Pth.partsS (Pth.cleanS s).1)) = true then (E0, 54) else ((Pth.cleanS s).1, 0)
theorem fileS_bad (M : Tr) (s : ByteArray) (q : Int) (h : Pth.cleanS s = (E0, q)) (hq : ¬ q = 0) : fileS M s = (E0, q) := by unfold fileS; rw [h, if_pos hq]
theorem fileS_at (M : Tr) (s : ByteArray) (L : List ByteArray) (h : Pth.cleanS s = (Pth.joinB L, 0)) (hL : Parts L) : fileS M s = if (dirT M (Pth.joinB L) || aheadT M L) = true then (E0, 54) else (Pth.joinB L, 0) := by
  unfold fileS; rw [h, if_neg (by simp), Pth.parts_join L hL.part]
theorem file_any (tb mb : Nat) (X : As Gn) (s : ByteArray) (m : Int) (w : World) (h : TreeIn w tb mb X) (hm : w.cell? ⟨0, 0, none⟩ = some (.int .i64 m)) (P : ByteArray) (q : Int) (hP : fileS (nds X) s = (P, q)) :
    Calls Tryz.prog 43 #[.pointer (some ⟨tb, 0, none⟩), .string s] w fun e w' => e = .returned (.tuple #[.string P, .int .i64 q]) ∧ w.grownBy w' none := by
  have HT : Hid (TreeIn w tb mb X) := Lib.hid h
  have HM := Lib.hid hm
  rcases clean_ways s with ⟨L, hc, hL⟩ | ⟨q0, hc, hq⟩
  · rw [fileS_at _ _ L hc hL] at hP
    obtain ⟨p, hp⟩ : ∃ p, Pth.joinB L = p := ⟨_, rfl⟩
    have hps : p.size ≤ 200 := by rw [← hp]; exact hL.size
    have hup : upL L L.length = p := by rw [upL_all, hp]
    rw [hp] at hc hP
    have HC := Lib.hid hc
    have HL := Lib.hid hL
    have HF := Lib.hid (fun w' (hg : w.grownBy w' none) => fileAhead_any tb mb X L w' (h.stays hg) hL L.length (Nat.le_refl _))
    rw [hup] at HF
    clear h hm hc hL hp hup
    cases h1 : dirT (nds X) p with
    | true =>
      rw [h1] at hP
      obtain ⟨rfl, rfl⟩ := Prod.mk.inj hP
      have H1 := Lib.hid h1
      clear h1 hP HF
      go_enter Tryz.func43, Tryz.ntmps43
      go_wp2_with (first | ((with_reducible refine (clean_at m s p 0 _ HM.out HC.out).mono ?_); rintro e w1 ⟨rfl, hg⟩; dsimp only; have HG := Lib.hid hg; clear hg) | ((with_reducible refine (isDir_at tb mb X p _ true (HT.out.stays HG.out) (by omega) H1.out).mono ?_); rintro e w2 ⟨rfl, rfl⟩; dsimp only))
      go_ret2
      exact ⟨rfl, HG.out⟩
    | false =>
      rw [h1, Bool.false_or] at hP
      have H1 := Lib.hid h1
      clear h1
      cases h2 : fileN (nds X) L L.length with
      | true =>
        unfold aheadT at hP
        rw [h2] at hP HF
        obtain ⟨rfl, rfl⟩ := Prod.mk.inj hP
        clear h2 hP
        go_enter Tryz.func43, Tryz.ntmps43
        go_wp2_with (first | ((with_reducible refine (clean_at m s p 0 _ HM.out HC.out).mono ?_); rintro e w1 ⟨rfl, hg⟩; dsimp only; have HG := Lib.hid hg; clear hg) | ((with_reducible refine (isDir_at tb mb X p _ false (HT.out.stays HG.out) (by omega) H1.out).mono ?_); rintro e w2 ⟨rfl, rfl⟩; dsimp only) | ((with_reducible refine (HF.out _ HG.out).mono ?_); rintro e w3 ⟨rfl, hg⟩; dsimp only; have HG3 := Lib.hid hg; clear hg))
        go_ret2
        exact ⟨rfl, World.grownBy.trans HG.out HG3.out⟩
      | false =>
        unfold aheadT at hP
        rw [h2] at hP HF
        obtain ⟨rfl, rfl⟩ := Prod.mk.inj hP
        clear h2 hP
        go_enter Tryz.func43, Tryz.ntmps43
        go_wp2_with (first | ((with_reducible refine (clean_at m s p 0 _ HM.out HC.out).mono ?_); rintro e w1 ⟨rfl, hg⟩; dsimp only; have HG := Lib.hid hg; clear hg) | ((with_reducible refine (isDir_at tb mb X p _ false (HT.out.stays HG.out) (by omega) H1.out).mono ?_); rintro e w2 ⟨rfl, rfl⟩; dsimp only) | ((with_reducible refine (HF.out _ HG.out).mono ?_); rintro e w3 ⟨rfl, hg⟩; dsimp only; have HG3 := Lib.hid hg; clear hg))
        go_ret2
        exact ⟨rfl, World.grownBy.trans HG.out HG3.out⟩
  · rw [fileS_bad _ _ _ hc hq.1] at hP
    obtain ⟨rfl, rfl⟩ := Prod.mk.inj hP
    have HC := Lib.hid hc
    obtain ⟨q1, q2, q3⟩ := hq
    have q4 : (q0 != 0) = true := by simp [q1]
    have q5 : (q0 == 0) = false := by simp [q1]
    clear h hm hc hP
    go_enter Tryz.func43, Tryz.ntmps43
    go_wp2_with ((with_reducible refine (clean_at m s E0 q0 _ HM.out HC.out).mono ?_); rintro e w1 ⟨rfl, hg⟩; dsimp only; have HG := Lib.hid hg; clear hg)
    go_ret2
    exact ⟨rfl, HG.out⟩
end Go.Proofs.YtichejodbohldaaGreatDoor
namespace Go.Proofs.YtichejodbohldaaGreatDoor
open Go.RowKit Go.Maps
set_option maxRecDepth 1000000
/-! ### Pure: the directories that are made -/
theorem Parts.apart {L : List ByteArray} (h : Parts L) {i j : Nat} (hi : i < j) (hj : j ≤ L.length) : ¬ upL L i = upL L j := by
  intro e
  have h1 := h.mono (j - i) i (by omega)
  rw [show i + (j - i) = j by omega, e] at h1
  omega
theorem lackN_put {M : Tr} {L : List ByteArray} (hL : Parts L) {i : Nat} (hi : i ≤ L.length) (n : Nd) : ∀ k, k < i → lackN (putA M (upL L i) n) L k = lackN M L k
  | 0, _ => rfl
  | k + 1, h => by
    unfold lackN hasT
    rw [getA_put_other _ _ _ _ (fun e => hL.apart h hi e.symm), lackN_put hL hi n k (by omega)]
theorem mkN_len {L : List ByteArray} (hL : Parts L) : ∀ (k : Nat) (M : Tr), AscA M → k ≤ L.length → (mkN M L k).length = M.length + lackN M L k
  | 0, _, _, _ => rfl
  | k + 1, M, hM, hk => by
    unfold mkN lackN
    split
    · rfl
    · rename_i h
      have hn : getA M (upL L (k + 1)) = none := hasT_none (by simpa using h)
      rw [mkN_len hL k _ (hM.put _ _) (by omega), put_len hM, hn, lackN_put hL hk dirN k (by omega)]
      simp; omega
theorem mkN_asc (L : List ByteArray) : ∀ (k : Nat) (M : Tr), AscA M → AscA (mkN M L k)
  | 0, _, h => h
  | k + 1, M, hM => by
    unfold mkN
    split
    · exact hM
    · exact mkN_asc L k _ (hM.put _ _)
theorem mkN_size (L : List ByteArray) : ∀ (k : Nat) (M : Tr), AscA M → sizeT (mkN M L k) = sizeT M
  | 0, _, _ => rfl
  | k + 1, M, hM => by
    unfold mkN
    split
    · rfl
    · rename_i h
      rw [mkN_size L k _ (hM.put _ _), size_dir hM (hasT_none (by simpa using h))]
theorem mkN_get {L : List ByteArray} {p : ByteArray} : ∀ (k : Nat) (M : Tr), (∀ i, 1 ≤ i → i ≤ k → ¬ upL L i = p) → getA (mkN M L k) p = getA M p
  | 0, _, _ => rfl
  | k + 1, M, h => by
    unfold mkN
    split
    · rfl
    · rw [mkN_get k _ (fun i h1 h2 => h i h1 (by omega)), getA_put_other _ _ _ _ (h (k + 1) (by omega) (Nat.le_refl _))]
theorem mem_mk (L : List ByteArray) : ∀ (k : Nat) (X : As Gn) (e : ByteArray × Gn), e ∈ mkX X L k → e ∈ X ∨ e.2 = dirG
  | 0, _, _, h => .inl h
  | k + 1, X, e, h => by
    unfold mkX at h
    split at h
    · exact .inl h
    · rcases mem_mk L k _ e h with h | h
      · rcases mem_put h with rfl | h
        · exact .inr rfl
        · exact .inl h
      · exact .inr h
/-- How many nodes a file wants beside those that are there. -/
def moreT (M : Tr) (L : List ByteArray) (k : Nat) : Nat := lackN M L k + if hasT M (upL L (k + 1)) = true then 0 else 1
def oldT (M : Tr) (p : ByteArray) : Nat := ((getA M p).map fun n => n.b.length).getD 0
/-- Whether n bytes have room at a path. -/
def fitsT (M : Tr) (L : List ByteArray) (k n : Nat) : Bool := decide (n ≤ 65536) && (decide (M.length + moreT M L k ≤ 500) && decide ((sizeT M : Int) + ((n : Int) - (oldT M (upL L (k + 1)) : Nat)) ≤ 1048576))
def PutRet (tb mb : Nat) (X : As Gn) (L : List ByteArray) (k : Nat) (old : Value) (b : List UInt8) (w : World) (e : Ending) (w' : World) : Prop :=
  e = .returned (.int .i64 0) ∧ ∃ v, TreeIn w' tb mb (putA (mkX X L k) (upL L (k + 1)) ⟨⟨false, b⟩, v⟩) ∧ Kept w w' (Own tb mb X) ∧ (v.ownBlock = old.ownBlock ∨ ∃ j, w.heap.size ≤ j ∧ v.ownBlock = some j)
theorem two_own {tb mb : Nat} {X : As Gn} {k : Nat} (h : k = tb ∨ k = mb) : Own tb mb X k := by
  rcases h with h | h
  · exact .inl h
  · exact .inr (.inl h)
set_option maxHeartbeats 8000000 in
theorem put_yes (tb mb : Nat) (X : As Gn) (L : List ByteArray) (k : Nat) (hk : L.length = k + 1) (ao : Option Addr) (mo co : Nat) (lo : List UInt8) (ab : Option Addr) (nb cb : Nat) (lb : List UInt8) (w : World) (h : TreeIn w tb mb X) (hL : Parts L)
    (ho : Owns w 0 (.slice ao mo co) lo) (hmo : lo.length = mo) (hap : ∀ j, (Value.slice ao mo co).ownBlock = some j → ∀ e ∈ X, ¬ e.1 = upL L (k + 1) → e.2.v.ownBlock ≠ some j) (hoo : ∀ j, (Value.slice ao mo co).ownBlock = some j → Own tb mb X j)
    (hb : Lie w (Own tb mb X) (.slice ab nb cb) lb) (hnb : lb.length = nb) (hX : X.length ≤ 800000) (hs : sizeT (nds X) ≤ 10000000) (hmo2 : mo ≤ 1000000) (hnb2 : nb ≤ 1000000) (hfit : fitsT (nds X) L k (mo + nb) = true) :
    Calls Tryz.prog 44 #[.pointer (some ⟨tb, 0, none⟩), .string (upL L (k + 1)), .slice ao mo co, .slice ab nb cb] w (PutRet tb mb X L k (.slice ao mo co) (lo ++ lb) w) := by
  have HT : Hid (TreeIn w tb mb X) := Lib.hid h
  have HL := Lib.hid hL
  obtain ⟨c0, c1, f1, f0⟩ := h.cells
  have hlen : (nds X).length = X.length := mapA_len _ _
  have hps := hL.small (k + 1) (by omega)
  have hk12 : k ≤ 11 := by have := hL.len; omega
  have hlack := lackN_le (nds X) L k
  obtain ⟨o, hoe⟩ : ∃ o, oldT (nds X) (upL L (k + 1)) = o := ⟨_, rfl⟩
  obtain ⟨d, ad, cd, hn, _⟩ := h.node (upL L (k + 1))
  have hold := old_le (nds X) (upL L (k + 1))
  unfold oldT at hoe
  rw [hoe] at hn hold
  have F1 := field1
  have hfit2 := hfit
  unfold fitsT oldT at hfit2
  rw [hoe, hlen] at hfit2
  simp only [Bool.and_eq_true, decide_eq_true_eq] at hfit2
  obtain ⟨hn1, hn2, hn3⟩ := hfit2
  obtain ⟨lk, hlk⟩ : ∃ lk, lackN (nds X) L k = lk := ⟨_, rfl⟩
  rw [hlk] at hlack
  obtain ⟨p, hp⟩ : ∃ p, upL L (k + 1) = p := ⟨_, rfl⟩
  obtain ⟨q, hq⟩ : ∃ q, upL L k = q := ⟨_, rfl⟩
  have HLK : Hid (∀ w', w.grownBy w' none → Calls Tryz.prog 54 #[.pointer (some ⟨tb, 0, none⟩), .string q] w' fun e w1 => e = .returned (.int .i64 (lk : Int)) ∧ w'.grownBy w1 none) := Lib.hid fun w' hg => by rw [← hlk, ← hq]; exact lacking_any tb mb X L w' (h.stays hg) hL k (by omega)
  have HPA : Hid (∀ w', Calls Tryz.prog 72 #[.string p] w' fun e w1 => e = .returned (.string q) ∧ w' = w1) := Lib.hid fun w' => by rw [← hp, ← hq]; exact (parent_at L hL k (by omega) w').mono fun e w1 h => ⟨h.1, h.2.symm⟩
  have HMK : Hid (∀ w', w.grownBy w' none → Calls Tryz.prog 55 #[.pointer (some ⟨tb, 0, none⟩), .string q] w' fun e w1 => e = .returned (.tuple #[]) ∧ TreeIn w1 tb mb (mkX X L k) ∧ Kept w' w1 (fun k => k = tb ∨ k = mb)) := Lib.hid fun w' hg => by rw [← hq]; exact makeDirs_any tb mb X L w' (h.stays hg) hL k (by omega) (by omega) (by omega)
  have hA : AscA (nds X) := h.asc.map _
  have HXL : Hid ((mkX X L k).length ≤ 900000 ∧ sizeT (nds (mkX X L k)) ≤ 100000000) := Lib.hid ⟨by
    have e1 : (mkX X L k).length = (mkN (nds X) L k).length := by rw [← nds_mk]; exact (mapA_len _ _).symm
    rw [e1, mkN_len hL k _ hA (by omega), hlk]; omega, by rw [nds_mk, mkN_size L k _ hA]; omega⟩
  have HAP : Hid (∀ j, (Value.slice ao mo co).ownBlock = some j → ∀ e ∈ mkX X L k, ¬ e.1 = p → e.2.v.ownBlock ≠ some j) := Lib.hid fun j hj e he hne => by
    rcases mem_mk L k X e he with he | he
    · exact hap j hj e he (by rw [hp]; exact hne)
    · rw [he]; simp [dirG, Value.ownBlock]
  have HOW : Hid (∀ e ∈ mkX X L k, ∀ j, e.2.v.ownBlock = some j → j < w.heap.size) := Lib.hid fun e he j hj => by
    rcases mem_mk L k X e he with he | he
    · exact h.own_lt (.inr (.inr ⟨e, he, hj⟩))
    · rw [he] at hj; simp [dirG, Value.ownBlock] at hj
  have HO := Lib.hid ho
  have HB := Lib.hid hb
  have HMO := Lib.hid hmo
  have HNB := Lib.hid hnb
  have HAO : Hid (∀ j, (Value.slice ao mo co).ownBlock = some j → ¬ (j = tb ∨ j = mb)) := Lib.hid (h.apart_of ho)
  have HOO := Lib.hid hoo
  unfold moreT at hn2
  rw [hlk, hp] at hn2
  rw [hp] at hn hps
  have hl : ∀ w' : World, w.grownBy w' none → (Instr.lookup 70 (.map (some mb)) (.string p) false).run Tryz.prog w' = .ok (.agg #[.bool d, .slice ad o cd]) w' := fun w' hg => by rw [(h.stays hg).look p (by omega), hn]
  have HLO := Lib.hid hl
  have d1 : decide ((65536 : Int) < (mo : Int) + (nb : Int)) = false := by simp; omega
  have HP := Lib.hid hp
  unfold PutRet
  rw [hp]
  clear hA hl hn hoe hlen h hL ho hb hmo hnb hap hoo hlk hp hq hfit
  cases hf : hasT (nds X) p with
  | true =>
    have HF := Lib.hid hf
    rw [hf] at hn2
    have HR : Hid (∀ w', w.grownBy w' none → Calls Tryz.prog 53 #[.pointer (some ⟨tb, 0, none⟩), .int .i64 (lk : Int), .int .i64 ((mo : Int) + (nb : Int) - (o : Int))] w' fun e w1 => e = .returned (.bool true) ∧ w1 = w') := Lib.hid fun w' hg =>
      room_any tb mb X lk _ w' (HT.out.stays hg) (by omega) (by omega) (by omega) (by omega) true (by rw [decide_eq_true (by simpa using hn2), decide_eq_true (by omega)]; rfl)
    clear hf hn2
    go_enter Tryz.func44, Tryz.ntmps44
    go_wp2_with fail
    (with_reducible refine (HPA.out _).mono ?_)
    rintro e w1 ⟨rfl, rfl⟩
    dsimp only
    go_wp2_with fail
    (with_reducible refine (HLK.out _ (World.grownBy.refl _ _)).mono ?_)
    rintro e w2 ⟨rfl, hg⟩
    dsimp only
    have HG2 := Lib.hid hg
    clear hg
    go_wp2_with fail
    (with_reducible refine (has_at tb mb X p _ true (HT.out.stays HG2.out) (by omega) HF.out).mono ?_)
    rintro e w3 ⟨rfl, hg⟩
    dsimp only
    have HG3 := Lib.hid (World.grownBy.trans HG2.out hg)
    clear hg
    have hl := HLO.out w3 HG3.out
    have b0 : w3.cell? ⟨tb, 0, none⟩ = some (.map (some mb)) := (HT.out.stays HG3.out).cells.1
    go_wp2_with fail
    (with_reducible refine (HR.out _ HG3.out).mono ?_)
    rintro e w4 ⟨rfl, rfl⟩
    dsimp only
    clear hl b0
    go_wp2_with fail
    (with_reducible refine (HPA.out _).mono ?_)
    rintro e w5 ⟨rfl, rfl⟩
    dsimp only
    go_wp2_with fail
    (with_reducible refine (HMK.out _ HG3.out).mono ?_)
    rintro e w6 ⟨rfl, ht6, hk6⟩
    dsimp only
    have HT6 := Lib.hid ht6
    have HK6 := Lib.hid ((Kept.ofNone HG3.out _).trans hk6 fun _ e => .inl e)
    clear ht6 hk6
    have HO6 : Hid (Owns w6 0 (.slice ao mo co) lo) := Lib.hid (HO.out.keeps HK6.out HAO.out)
    have HB6 : Hid (∃ B, Part w6 B (.slice ab nb cb) lb) := Lib.hid (HB.out.keeps HK6.out fun k e => two_own e).part
    obtain ⟨B, HB7⟩ : ∃ B, Hid (Part w6 B (.slice ab nb cb) lb) := by obtain ⟨B, hB⟩ := HB6.out; exact ⟨B, Lib.hid hB⟩
    clear HB6
    go_wp2_with ((with_reducible refine app_loc (o := ⟨some 52, _, _, _, _, _⟩) rfl _ _ rfl 0 B (.slice ao mo co) (.slice ab nb cb) lo lb ?_ HO6.out ?_ HB7.out ?_ ?_ ?_); (exact rfl); (exact rfl); (rw [HMO.out, HNB.out]; omega); (exact Nat.zero_le _); (intro v2 w7 ho7 hg7 hloc); obtain ⟨a7, c7, rfl, _⟩ := ho7.open (m := mo + nb) (by rw [List.length_append, HMO.out, HNB.out]); have HO7 := Lib.hid ho7; have HG7 := Lib.hid hg7; have HL7 := Lib.hid hloc; clear ho7 hg7 hloc)
    have HT7 : Hid (TreeBut w7 tb mb (mkX X L k) p) := Lib.hid ((HT6.out.but p).keeps (Kept.of HG7.out (fun j => (Value.slice ao mo co).ownBlock = some j) (fun j e => e)) (fun e => HAO.out tb e (.inl rfl)) (fun e => HAO.out mb e (.inr rfl)) fun j ⟨e, he, hne, e2⟩ e3 => HAP.out j e3 e he hne e2)
    have HAP7 : Hid (∀ j, (Value.slice a7 (mo + nb) c7).ownBlock = some j → ∀ e ∈ mkX X L k, ¬ e.1 = p → e.2.v.ownBlock ≠ some j) := Lib.hid fun j hj e he hne e2 => by
      rcases HL7.out with h | h
      · exact HAP.out j (h ▸ hj) e he hne e2
      · have h1 := HOW.out e he j e2
        have h2 := HK6.out.size
        rw [h] at hj
        have h3 := Option.some.inj hj
        omega
    have HLL : Hid ((lo ++ lb).length ≤ 100000000) := Lib.hid (by rw [List.length_append, HMO.out, HNB.out]; omega)
    go_wp2_with fail
    (with_reducible refine (setFile_but tb mb (mkX X L k) p a7 (mo + nb) c7 (lo ++ lb) _ HT7.out (by omega) (by have := HXL.out.1; omega) HXL.out.2 HO7.out HLL.out HAP7.out).mono ?_)
    rintro e w8 ⟨rfl, ht8, hk8⟩
    dsimp only
    have HT8 := Lib.hid ht8
    have HK8 : Hid (Kept w w8 (Own tb mb X)) := Lib.hid (((HK6.out.mono fun i _ e => two_own e).trans (Kept.of HG7.out (fun j => (Value.slice ao mo co).ownBlock = some j) (fun j e => e)) fun i e => .inl (HOO.out i e)).trans hk8 fun i e => .inl (two_own e))
    have HLO8 : Hid ((Value.slice a7 (mo + nb) c7).ownBlock = (Value.slice ao mo co).ownBlock ∨ ∃ j, w.heap.size ≤ j ∧ (Value.slice a7 (mo + nb) c7).ownBlock = some j) := Lib.hid (HL7.out.imp id fun h => ⟨_, HK6.out.size, h⟩)
    clear ht8 hk8
    go_wp2
    go_ret
    exact ⟨rfl, _, HT8.out, HK8.out, HLO8.out⟩
  | false =>
    have HF := Lib.hid hf
    rw [hf] at hn2
    have HR : Hid (∀ w', w.grownBy w' none → Calls Tryz.prog 53 #[.pointer (some ⟨tb, 0, none⟩), .int .i64 ((lk : Int) + 1), .int .i64 ((mo : Int) + (nb : Int) - (o : Int))] w' fun e w1 => e = .returned (.bool true) ∧ w1 = w') := Lib.hid fun w' hg =>
      room_any tb mb X (lk + 1) _ w' (HT.out.stays hg) (by omega) (by omega) (by omega) (by omega) true (by rw [decide_eq_true (by simpa using hn2), decide_eq_true (by omega)]; rfl)
    clear hf hn2
    go_enter Tryz.func44, Tryz.ntmps44
    go_wp2_with fail
    (with_reducible refine (HPA.out _).mono ?_)
    rintro e w1 ⟨rfl, rfl⟩
    dsimp only
    go_wp2_with fail
    (with_reducible refine (HLK.out _ (World.grownBy.refl _ _)).mono ?_)
    rintro e w2 ⟨rfl, hg⟩
    dsimp only
    have HG2 := Lib.hid hg
    clear hg
    go_wp2_with fail
    (with_reducible refine (has_at tb mb X p _ false (HT.out.stays HG2.out) (by omega) HF.out).mono ?_)
    rintro e w3 ⟨rfl, hg⟩
    dsimp only
    have HG3 := Lib.hid (World.grownBy.trans HG2.out hg)
    clear hg
    have hl := HLO.out w3 HG3.out
    have b0 : w3.cell? ⟨tb, 0, none⟩ = some (.map (some mb)) := (HT.out.stays HG3.out).cells.1
    go_wp2_with fail
    (with_reducible refine (HR.out _ HG3.out).mono ?_)
    rintro e w4 ⟨rfl, rfl⟩
    dsimp only
    clear hl b0
    go_wp2_with fail
    (with_reducible refine (HPA.out _).mono ?_)
    rintro e w5 ⟨rfl, rfl⟩
    dsimp only
    go_wp2_with fail
    (with_reducible refine (HMK.out _ HG3.out).mono ?_)
    rintro e w6 ⟨rfl, ht6, hk6⟩
    dsimp only
    have HT6 := Lib.hid ht6
    have HK6 := Lib.hid ((Kept.ofNone HG3.out _).trans hk6 fun _ e => .inl e)
    clear ht6 hk6
    have HO6 : Hid (Owns w6 0 (.slice ao mo co) lo) := Lib.hid (HO.out.keeps HK6.out HAO.out)
    have HB6 : Hid (∃ B, Part w6 B (.slice ab nb cb) lb) := Lib.hid (HB.out.keeps HK6.out fun k e => two_own e).part
    obtain ⟨B, HB7⟩ : ∃ B, Hid (Part w6 B (.slice ab nb cb) lb) := by obtain ⟨B, hB⟩ := HB6.out; exact ⟨B, Lib.hid hB⟩
    clear HB6
    go_wp2_with ((with_reducible refine app_loc (o := ⟨some 52, _, _, _, _, _⟩) rfl _ _ rfl 0 B (.slice ao mo co) (.slice ab nb cb) lo lb ?_ HO6.out ?_ HB7.out ?_ ?_ ?_); (exact rfl); (exact rfl); (rw [HMO.out, HNB.out]; omega); (exact Nat.zero_le _); (intro v2 w7 ho7 hg7 hloc); obtain ⟨a7, c7, rfl, _⟩ := ho7.open (m := mo + nb) (by rw [List.length_append, HMO.out, HNB.out]); have HO7 := Lib.hid ho7; have HG7 := Lib.hid hg7; have HL7 := Lib.hid hloc; clear ho7 hg7 hloc)
    have HT7 : Hid (TreeBut w7 tb mb (mkX X L k) p) := Lib.hid ((HT6.out.but p).keeps (Kept.of HG7.out (fun j => (Value.slice ao mo co).ownBlock = some j) (fun j e => e)) (fun e => HAO.out tb e (.inl rfl)) (fun e => HAO.out mb e (.inr rfl)) fun j ⟨e, he, hne, e2⟩ e3 => HAP.out j e3 e he hne e2)
    have HAP7 : Hid (∀ j, (Value.slice a7 (mo + nb) c7).ownBlock = some j → ∀ e ∈ mkX X L k, ¬ e.1 = p → e.2.v.ownBlock ≠ some j) := Lib.hid fun j hj e he hne e2 => by
      rcases HL7.out with h | h
      · exact HAP.out j (h ▸ hj) e he hne e2
      · have h1 := HOW.out e he j e2
        have h2 := HK6.out.size
        rw [h] at hj
        have h3 := Option.some.inj hj
        omega
    have HLL : Hid ((lo ++ lb).length ≤ 100000000) := Lib.hid (by rw [List.length_append, HMO.out, HNB.out]; omega)
    go_wp2_with fail
    (with_reducible refine (setFile_but tb mb (mkX X L k) p a7 (mo + nb) c7 (lo ++ lb) _ HT7.out (by omega) (by have := HXL.out.1; omega) HXL.out.2 HO7.out HLL.out HAP7.out).mono ?_)
    rintro e w8 ⟨rfl, ht8, hk8⟩
    dsimp only
    have HT8 := Lib.hid ht8
    have HK8 : Hid (Kept w w8 (Own tb mb X)) := Lib.hid (((HK6.out.mono fun i _ e => two_own e).trans (Kept.of HG7.out (fun j => (Value.slice ao mo co).ownBlock = some j) (fun j e => e)) fun i e => .inl (HOO.out i e)).trans hk8 fun i e => .inl (two_own e))
    have HLO8 : Hid ((Value.slice a7 (mo + nb) c7).ownBlock = (Value.slice ao mo co).ownBlock ∨ ∃ j, w.heap.size ≤ j ∧ (Value.slice a7 (mo + nb) c7).ownBlock = some j) := Lib.hid (HL7.out.imp id fun h => ⟨_, HK6.out.size, h⟩)
    clear ht8 hk8
    go_wp2
    go_ret
    exact ⟨rfl, _, HT8.out, HK8.out, HLO8.out⟩
end Go.Proofs.YtichejodbohldaaGreatDoor
