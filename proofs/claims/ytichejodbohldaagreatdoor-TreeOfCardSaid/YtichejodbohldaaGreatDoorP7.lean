/- Texts of one ground, in one file: QX QY QZ Qt. -/
import Derived.Test.YtichejodbohldaaGreatDoorP6
import Derived.Test.YtichejodbohldaaGreatDoorP5
import Derived.Test.YtichejodbohldaaGreatDoorRows
import Derived.StillTailTactics
import Derived.Deep.QuietTactic
namespace Go.Proofs.YtichejodbohldaaGreatDoor.Pth
open Go.RowKit

set_option maxRecDepth 1000000
set_option maxHeartbeats 1000000 in
theorem refbase_long (s : ByteArray) (r rc : Nat) (ra : Option Addr) (w : World) (hl : 200 < s.size) : Calls Tryz.prog 69 #[.string s, .slice ra r rc] w (WalkRet w (⟨#[]⟩, 50)) := by
  have h2 : 200 < (s.size : Int) := by omega
  clear hl
  go_enter Tryz.func69, Tryz.ntmps69
  go_wp2
  go_ret2
  exact ⟨rfl, World.grownBy.refl _ _⟩

set_option maxRecDepth 1000000
set_option maxHeartbeats 1000000 in
theorem refbase_yes (s : ByteArray) (r rc : Nat) (ra : Option Addr) (w : World) (hl : ¬ 200 < s.size) (hp : Lib.hasPrefix s.data.toList slash.data.toList = true) : Calls Tryz.prog 69 #[.string s, .slice ra r rc] w (WalkRet w (⟨#[]⟩, 51)) := by
  have h2 : decide (200 < (s.size : Int)) = false := by simp; omega
  rw [prefix_byte, Bool.and_eq_true, decide_eq_true_eq] at hp
  obtain ⟨h0, hb⟩ := hp
  have hb2 : s[0]'h0 = 47 := by rw [← byteAt_eq]; exact eq_of_beq hb
  have h3 : 0 < (s.size : Int) := by omega
  clear hl hb
  go_enter Tryz.func69, Tryz.ntmps69
  go_wp2
  go_ret2
  exact ⟨rfl, World.grownBy.refl _ _⟩

/-- THE REFERENCE's CLEAN, ANY BASE. -/
theorem refbase_any (s : ByteArray) (root : List ByteArray) (r rc B0 : Nat) (ra : Option Addr) (w : World) (hw0 : 0 < w.heap.size) (hr : root.length = r) (hr2 : r ≤ 1000) (hsum : sumS root ≤ 100000) (hpr : PartS w B0 (.slice ra r rc) root) :
    Calls Tryz.prog 69 #[.string s, .slice ra r rc] w (WalkRet w (if 200 < s.size then (⟨#[]⟩, 50) else walkS root s)) := by
  by_cases hl : 200 < s.size
  · rw [if_pos hl]; exact refbase_long s r rc ra w hl
  · rw [if_neg hl]
    cases hp : Lib.hasPrefix s.data.toList slash.data.toList with
    | true =>
      have e : walkS root s = (⟨#[]⟩, 51) := by unfold walkS; rw [if_pos hp]
      rw [e]; exact refbase_yes s r rc ra w hl hp
    | false => exact refwalk_base s root r rc B0 ra w hw0 hr hr2 hsum hpr hl hp

theorem refparts_any (s : ByteArray) (hs : s.size ≤ 100000) (w : World) (hw0 : 0 < w.heap.size) :
    Calls Tryz.prog 39 #[.string s] w fun e w' => ∃ a cap, e = .returned (.slice a (partsS s).length cap) ∧ (partsS s).length ≤ cap ∧ cap ≤ 9223372036854775807 ∧ PartS w' w'.heap.size (.slice a (partsS s).length cap) (partsS s) ∧ w.grownBy w' none := by
  by_cases h0 : s = ⟨#[]⟩
  · have e : Hid (partsS s = []) := by show _ = _; unfold partsS; rw [if_pos h0]
    have HW := Lib.hid hw0
    subst h0
    clear hw0
    go_enter Tryz.func39, Tryz.ntmps39
    go_wp2
    go_ret
    exact ⟨none, 0, by rw [e.out]; rfl, by rw [e.out]; exact Nat.le_refl _, by omega, by rw [e.out]; exact (OwnsS.nil w 0).part HW.out, World.grownBy.refl _ _⟩
  · have e : Hid (partsS s = pieces s) := by show _ = _; unfold partsS; rw [if_neg h0]
    have d1 := ne_list s [] h0
    have c1 := empty_no s h0
    have HW := Lib.hid hw0
    clear h0 hw0
    go_enter Tryz.func39, Tryz.ntmps39
    go_wp2_with fail
    (with_reducible refine (refsplit_any s hs _).mono ?_)
    rintro ee w1 ⟨v, rfl, ho, hg⟩
    dsimp only
    obtain ⟨a, cap, h1, h2, h3⟩ := ho.form
    subst h1
    have HO := Lib.hid ho
    have HG := Lib.hid hg
    clear ho hg
    go_wp2
    go_ret
    exact ⟨a, cap, by rw [e.out]; rfl, by rw [e.out]; exact h2, h3, by rw [e.out]; exact HO.out.part (by have := HG.out.size; have := HW.out; omega), HG.out⟩

theorem refparts_at (s : ByteArray) (L : List ByteArray) (r : Nat) (hs : s.size ≤ 100000) (w : World) (hw0 : 0 < w.heap.size) (hL : partsS s = L) (hr : L.length = r) :
    Calls Tryz.prog 39 #[.string s] w fun e w' => ∃ a cap, e = .returned (.slice a r cap) ∧ r ≤ cap ∧ cap ≤ 9223372036854775807 ∧ PartS w' w'.heap.size (.slice a r cap) L ∧ w.grownBy w' none := by
  subst hL hr; exact refparts_any s hs w hw0
theorem refbase_at (s : ByteArray) (root : List ByteArray) (r rc B0 : Nat) (ra : Option Addr) (w : World) (R : ByteArray × Int) (hw0 : 0 < w.heap.size) (hr : root.length = r) (hr2 : r ≤ 1000) (hsum : sumS root ≤ 100000) (hpr : PartS w B0 (.slice ra r rc) root)
    (hR : (if 200 < s.size then ((⟨#[]⟩ : ByteArray), (50 : Int)) else walkS root s) = R) :
    Calls Tryz.prog 69 #[.string s, .slice ra r rc] w fun e w' => e = .returned (.tuple #[.string R.1, .int .i64 R.2]) ∧ w.grownBy w' none := by
  rw [← hR]; exact refbase_any s root r rc B0 ra w hw0 hr hr2 hsum hpr

theorem cleanS_size (s p : ByteArray) (q : Int) (h : cleanS s = (p, q)) : q = 0 → p.size ≤ 200 := by
  rintro rfl
  obtain ⟨_, _, _, _, h4⟩ := cleanS_zero s p h
  exact h4
theorem walkS_small (root : List ByteArray) (s p : ByteArray) (q : Int) (h : walkS root s = (p, q)) (h0 : ¬ q = 0) : p = ⟨#[]⟩ := by
  unfold walkS at h
  split at h
  · exact (congrArg Prod.fst h).symm
  · split at h
    · exact (congrArg Prod.fst h).symm
    · split at h
      · exact (congrArg Prod.fst h).symm
      · exact absurd (congrArg Prod.snd h).symm h0
theorem sumS_pos (L : List ByteArray) : L.length ≤ sumS L := by
  induction L with
  | nil => exact Nat.le_refl _
  | cons x r ih => simp only [sumS, List.length_cons]; omega
theorem joinS_size (d s p : ByteArray) (q : Int) (hd : d.size ≤ 200) (h : joinS d s = (p, q)) : p.size ≤ 100000 := by
  unfold joinS at h
  by_cases h9 : 200 < (if d = ⟨#[]⟩ then s.size else d.size + 1 + s.size)
  · rw [if_pos h9] at h
    have e : (⟨#[]⟩ : ByteArray) = p := congrArg Prod.fst h
    rw [← e]; exact Nat.zero_le _
  · rw [if_neg h9] at h
    by_cases h0 : q = 0
    · subst h0
      obtain ⟨M, a, b, c, e⟩ := walkS_zero _ s p h
      have h1 := joinB_le (partsS d ++ M)
      have h3 : sumS (partsS d) ≤ 201 := by
        unfold partsS
        split
        · exact Nat.zero_le _
        · rw [sumS_pieces]; omega
      have h4 : s.size ≤ 200 := by split at h9 <;> omega
      rw [a]; omega
    · rw [walkS_small _ _ _ _ h h0]; exact Nat.zero_le _

end Go.Proofs.YtichejodbohldaaGreatDoor.Pth
namespace Go.Proofs.YtichejodbohldaaGreatDoor.Pth
open Go.RowKit

theorem last_bytes (s : ByteArray) (j : Nat) (h : j < s.size) : s.data[j]! = byteAt s j := by
  rw [byteAt_eq s j h]
  have h' : j < s.data.size := h
  rw [getElem!_pos s.data j h']; rfl
theorem last_none (s : ByteArray) (h : NS s) : Lib.lastIndexByte s 47 = -1 := by
  rcases Lib.lastIndexByte_spec s 47 with ⟨e, _⟩ | ⟨i, hi, e, hc, _⟩
  · exact e
  · exfalso
    rw [last_bytes s i hi] at hc
    have hl : s.data.toList.length = s.size := by simp
    refine h (byteAt s i) ?_ (UInt8.toNat_inj.1 (by show _ = 47; omega))
    rw [byteAt_eq s i hi]
    exact (by simp : s.data[i]'hi ∈ s.data.toList)
theorem last_some (a t : ByteArray) (h : NS t) : Lib.lastIndexByte (a ++ slash ++ t) 47 = a.size := by
  have hz : (a ++ slash ++ t).size = a.size + 1 + t.size := by rw [ByteArray.size_append, ByteArray.size_append]; rfl
  have hat : byteAt (a ++ slash ++ t) a.size = 47 := by
    rw [byteAt_eq _ _ (by omega)]
    rw [ByteArray.getElem_append_left (by rw [ByteArray.size_append]; show a.size < a.size + 1; omega), ByteArray.getElem_append_right (Nat.le_refl _)]
    simp [slash]
    rfl
  have hno : ∀ j, a.size < j → j < (a ++ slash ++ t).size → byteAt (a ++ slash ++ t) j ≠ 47 := by
    intro j h1 h2
    rw [byteAt_eq _ _ h2, ByteArray.getElem_append_right (by rw [ByteArray.size_append]; show a.size + 1 ≤ j; omega)]
    refine h _ ?_
    exact (by simp : t.data[j - (a ++ slash).size]'(by rw [ByteArray.size_append]; show j - (a.size + 1) < t.size; omega) ∈ t.data.toList)
  rcases Lib.lastIndexByte_spec (a ++ slash ++ t) 47 with ⟨_, hn⟩ | ⟨i, hi, e, hc, hn⟩
  · have := hn a.size (by omega)
    rw [last_bytes _ _ (by omega), hat] at this
    exact absurd rfl this
  · rw [e]
    rw [last_bytes _ _ hi] at hc
    have hc' : byteAt (a ++ slash ++ t) i = 47 := UInt8.toNat_inj.1 (by show _ = 47; omega)
    rcases Nat.lt_trichotomy i a.size with h1 | h1 | h1
    · have := hn a.size h1 (by omega)
      rw [last_bytes _ _ (by omega), hat] at this
      exact absurd rfl this
    · rw [h1]
    · exact absurd hc' (hno i h1 hi)

set_option maxRecDepth 1000000
set_option maxHeartbeats 1000000 in
theorem parent_none (p : ByteArray) (hp : p.size ≤ 100000) (hq : Lib.lastIndexByte p 47 = -1) (w : World) :
    Calls Tryz.prog 72 #[.string p] w fun e w' => e = .returned (.string ⟨#[]⟩) ∧ w' = w := by
  have HQ := Lib.hid hq
  have he : Hid (p.extract 0 0 = ⟨#[]⟩) := by show _ = _; apply ByteArray.size_eq_zero_iff.1; rw [ByteArray.size_extract]; omega
  clear hq
  go_enter Tryz.func72, Tryz.ntmps72
  go_wp2_with fail
  (with_reducible refine (last_any p (-1) _ hp HQ.out).mono ?_)
  rintro ee w' ⟨rfl, hw'⟩
  rw [hw']
  clear hw' w'
  dsimp only
  go_wp2
  go_ret
  exact ⟨by rw [← he.out]; rfl, rfl⟩
set_option maxRecDepth 1000000
set_option maxHeartbeats 1000000 in
theorem parent_some (p : ByteArray) (n : Nat) (hn : n < p.size) (hp : p.size ≤ 100000) (hq : Lib.lastIndexByte p 47 = n) (w : World) :
    Calls Tryz.prog 72 #[.string p] w fun e w' => e = .returned (.string (p.extract 0 n)) ∧ w' = w := by
  have HQ := Lib.hid hq
  clear hq
  go_enter Tryz.func72, Tryz.ntmps72
  go_wp2_with fail
  (with_reducible refine (last_any p n _ hp HQ.out).mono ?_)
  rintro ee w' ⟨rfl, hw'⟩
  rw [hw']
  clear hw' w'
  dsimp only
  go_wp2
  go_ret
  exact ⟨rfl, rfl⟩
/-- The last part, or nothing. -/
def lastB (L : List ByteArray) : ByteArray := L.getLast?.getD ⟨#[]⟩
theorem list_end (L : List ByteArray) (h : L ≠ []) : ∃ A t, L = A ++ [t] := ⟨L.dropLast, L.getLast h, (List.dropLast_concat_getLast h).symm⟩
theorem extract_left (a b : ByteArray) : (a ++ b).extract 0 a.size = a := by
  apply ByteArray.ext
  simp [← ByteArray.size_data]
theorem extract_right (a b : ByteArray) : (a ++ b).extract a.size (a ++ b).size = b := by
  apply ByteArray.ext
  simp [← ByteArray.size_data]
theorem parent_clean (L : List ByteArray) (h : ∀ p ∈ L, Part p) (p : ByteArray) (he : joinB L = p) (hp : p.size ≤ 100000) (w : World) :
    Calls Tryz.prog 72 #[.string p] w fun e w' => e = .returned (.string (joinB L.dropLast)) ∧ w' = w := by
  by_cases h0 : L = []
  · subst h0
    exact parent_none p hp (by rw [← he]; decide) w
  · obtain ⟨A, t, rfl⟩ := list_end L h0
    have ht : Part t := h t (by simp)
    rw [List.dropLast_concat]
    by_cases hA : A = []
    · subst hA
      rw [List.nil_append, joinB_one] at he
      rw [joinB_nil]
      exact parent_none p hp (by rw [← he]; exact last_none t ht.ns) w
    · rw [joinB_snoc A t hA] at he
      have hl := last_some (joinB A) t ht.ns
      have hz : (joinB A ++ slash ++ t).size = (joinB A).size + 1 + t.size := by rw [ByteArray.size_append, ByteArray.size_append]; rfl
      rw [he] at hl hz
      have hx : p.extract 0 (joinB A).size = joinB A := by rw [← he, ByteArray.append_assoc]; exact extract_left _ _
      have := parent_some p (joinB A).size (by omega) hp hl w
      rwa [hx] at this
theorem PartS.short {w : World} {B n cap : Nat} {a : Option Addr} {L : List ByteArray} (h : PartS w B (.slice a n cap) L) (hn : L.length = n) : PartS w B (.slice a (n - 1) cap) L.dropLast := by
  obtain ⟨a', cap', b, o, h1, h2, h3, h4, h5, h6⟩ := h
  have e := Value.slice.inj h1
  have hl : L.dropLast.length = n - 1 := by rw [List.length_dropLast, hn]
  refine ⟨a, cap, b, o, by rw [hl], by rw [hl]; have := e.2.2; omega, fun hh => by rw [e.2.2]; exact h3 (by rw [← e.1, hh]), h4, fun hh => by rw [e.1]; exact h5 (by omega), fun j x hj => h6 j x ?_⟩
  have hj2 := (List.getElem?_eq_some_iff.1 hj).1
  rw [List.dropLast_eq_take, List.getElem?_take, if_pos (by omega)] at hj
  exact hj

set_option maxRecDepth 1000000
set_option maxHeartbeats 1000000 in
theorem refParent_clean (L : List ByteArray) (p : ByteArray) (hL : partsS p = L) (hp : p.size ≤ 200) (hl : L.length ≤ 12) (hs : sumS L ≤ 100000) (w : World) (hw : 0 < w.heap.size) :
    Calls Tryz.prog 40 #[.string p] w fun e w' => e = .returned (.string (joinB L.dropLast)) ∧ w.grownBy w' none := by
  obtain ⟨r, hr⟩ : ∃ r, L.length = r := ⟨_, rfl⟩
  have HL := Lib.hid hL
  have HR := Lib.hid hr
  have HW := Lib.hid hw
  have HP5 := Lib.hid (show p.size ≤ 100000 by omega)
  clear hL hw
  by_cases h0 : r = 0
  · have h1 : L = [] := List.eq_nil_of_length_eq_zero (by omega)
    subst h0
    have e : Hid (joinB L.dropLast = ⟨#[]⟩) := by show _ = _; rw [h1]; rfl
    clear h1 hr
    go_enter Tryz.func40, Tryz.ntmps40
    go_wp2_with fail
    (with_reducible refine (refparts_at p L 0 HP5.out _ HW.out HL.out HR.out).mono ?_)
    rintro ee w1 ⟨a, cap, rfl, hc1, hc2, hf, hg⟩
    dsimp only
    have HF := Lib.hid hf
    have HG := Lib.hid hg
    clear hf hg
    go_wp2
    go_ret
    exact ⟨by rw [e.out]; rfl, HG.out⟩
  · have hpos : 0 < (r : Int) := by omega
    have hne : ((r : Int) == 0) = false := by simp; omega
    have hr12 : r ≤ 12 := by omega
    have HS := Lib.hid (show sumS L.dropLast ≤ 100000000 by have := sumS_drop L; omega)
    have HDL := Lib.hid (show L.dropLast.length = r - 1 by rw [List.length_dropLast, hr])
    clear hr
    go_enter Tryz.func40, Tryz.ntmps40
    go_wp2_with fail
    (with_reducible refine (refparts_at p L r HP5.out _ HW.out HL.out HR.out).mono ?_)
    rintro ee w1 ⟨a, cap, rfl, hc1, hc2, hf, hg⟩
    dsimp only
    have HF := Lib.hid (hf.short HR.out)
    have HG := Lib.hid hg
    clear hf hg
    go_wp2_with fail
    (with_reducible refine (glue_any _ (r - 1) cap a L.dropLast _ HDL.out (by omega) HS.out HF.out).mono ?_)
    rintro ee w' ⟨rfl, hw'⟩
    rw [hw']
    clear hw' w'
    dsimp only
    go_wp2
    go_ret
    exact ⟨rfl, HG.out⟩

end Go.Proofs.YtichejodbohldaaGreatDoor.Pth
namespace Go.Proofs.YtichejodbohldaaGreatDoor.Pth
open Go.RowKit

theorem glued (L : List ByteArray) (h : ∀ p ∈ L, Part p) : (joinB L.dropLast = ⟨#[]⟩ ∧ lastB L = joinB L) ∨ (¬ joinB L.dropLast = ⟨#[]⟩ ∧ joinB L.dropLast ++ slash ++ lastB L = joinB L) := by
  by_cases h0 : L = []
  · subst h0; exact .inl ⟨rfl, rfl⟩
  · obtain ⟨A, t, rfl⟩ := list_end L h0
    have hlb : lastB (A ++ [t]) = t := by unfold lastB; simp
    rw [hlb, List.dropLast_concat]
    by_cases hA : A = []
    · subst hA
      exact .inl ⟨rfl, by rw [List.nil_append, joinB_one]⟩
    · refine .inr ⟨?_, (joinB_snoc A t hA).symm⟩
      intro e
      obtain ⟨x, r, rfl⟩ : ∃ y r, A = y :: r := List.exists_cons_of_ne_nil hA
      have h1 := joinB_size (x :: r) (by simp)
      rw [e] at h1
      have h2 := (h x (by simp)).pos
      have h3 : (⟨#[]⟩ : ByteArray).size = 0 := rfl
      simp only [sumS] at h1; omega
theorem within_parent (L : List ByteArray) (h : ∀ p ∈ L, Part p) : withinS (joinB L) (joinB L.dropLast) = true := by
  rcases glued L h with ⟨a, b⟩ | ⟨a, b⟩
  · unfold withinS; simp [a]
  · unfold withinS
    have : Lib.hasPrefix (joinB L).data.toList (joinB L.dropLast ++ slash).data.toList = true := by
      rw [← b, Lib.hasPrefix, List.isPrefixOf_iff_prefix, show (joinB L.dropLast ++ slash ++ lastB L).data.toList = (joinB L.dropLast ++ slash).data.toList ++ (lastB L).data.toList by simp]
      exact List.prefix_append _ _
    rw [this, Bool.or_true]

end Go.Proofs.YtichejodbohldaaGreatDoor.Pth
namespace Go.Proofs.YtichejodbohldaaGreatDoor

section
variable {P : Program} {ops : Array Oper} {md : Region.Mode} {C : World → Prop}

/-- Whatever order the first n operations come in, each is quiet, and at their end G holds. -/
def HeadQ (P : Program) (md : Region.Mode) (ops : Array Oper) (C : World → Prop) (n : Nat) (G : Array Bool → Act → Prop) : Nat → Array Bool → Act → Prop
  | 0, ls, a => G ls a
  | f + 1, ls, a => Region.ready md ops ls ≠ [] ∧ ∀ i ∈ Region.ready md ops ls, i < n ∧ qOp P ops C i (HeadQ P md ops C n G f (ls.setIfInBounds i true)) a

theorem headQ_any {n g : Nat} {G : Array Bool → Act → Prop} {Q : Exit → Act → World → Prop} (hG : ∀ ls a w, C w → G ls a → wpAny P md ops Q g ls a w) (f : Nat) :
    ∀ (ls : Array Bool) (a : Act) (w : World), C w → HeadQ P md ops C n G f ls a → wpAny P md ops Q (f + g) ls a w := by
  induction f with
  | zero => intro ls a w hw h; rw [Nat.zero_add]; exact hG _ _ _ hw h
  | succ f ih =>
    intro ls a w hw h
    rw [Nat.add_right_comm]
    refine ⟨fun e => absurd e h.1, fun i hi => ?_⟩
    exact wpOp_of_qOp hw (fun a' w' hw' h' => ih _ a' w' hw' h') (h.2 i hi).2

/-- An operation of the head that may come now may be taken now. -/
theorem headQ_take {n i : Nat} {o : Oper} {v : Value} {G : Array Bool → Act → Prop} (ho : ops[i]? = some o) (hsel : Region.noSelect ops = true)
    (hs : Region.sinkB md ops n = true) (hc : Region.chainB md ops n = true) (hn : n < ops.size) (hin : i < n) (hG : ∀ ls a, G ls a → ∀ j ∈ Region.ready md ops ls, n ≤ j) (f : Nat) :
    ∀ (ls : Array Bool) (a : Act), HeadInv md ops n ls →
      (∀ j oj, ops[j]? = some oj → j ≠ i → ls.getD j true = false → (∀ e ∈ oj.after, Region.binds md e = true → e.on ≠ i) → o.apart ops oj = true) →
      i ∈ Region.ready md ops ls → YieldsIn P ops C o v a → HeadQ P md ops C n G f (ls.setIfInBounds i true) (a.put o.dst v) → HeadQ P md ops C n G (f + 1) ls a := by
  induction f with
  | zero =>
    intro ls a inv _ hr hy H
    refine ⟨fun e => (by rw [e] at hr; cases hr), fun j hj => ?_⟩
    have hjn : j < n := (Nat.lt_or_ge j n).elim id fun h => absurd hj (tail_waits hs hc hn inv _ i rfl hin (mem_ready.1 hr).1 j h)
    refine ⟨hjn, ?_⟩
    rcases Decidable.em (j = i) with rfl | hne
    · exact hy.qOp ho H
    · exact absurd (hG _ _ H j (ready_mono hj hne)) (by omega)
  | succ f ih =>
    intro ls a inv hfree hr hy H
    have hun := (mem_ready.1 hr).1
    refine ⟨fun e => (by rw [e] at hr; cases hr), fun j hj => ?_⟩
    have hjn : j < n := (Nat.lt_or_ge j n).elim id fun h => absurd hj (tail_waits hs hc hn inv _ i rfl hin hun j h)
    refine ⟨hjn, ?_⟩
    rcases Decidable.em (j = i) with rfl | hne
    · exact hy.qOp ho H
    obtain ⟨hju, oj, hoj, hall⟩ := mem_ready.1 hj
    have hno : ∀ e ∈ oj.after, Region.binds md e = true → e.on ≠ i := by
      intro e he hb h1
      have h2 := hall e he hb
      rw [h1, getD_both hun] at h2
      cases h2
    refine qOp_mono (fun a' h3 => ih _ a' (inv.set hj hjn) ?_ (ready_mono hr (Ne.symm hne)) h3.1 ?_)
      (qOp_put hoj (hfree j oj hoj hne hju hno) (fun cs b => Region.noSelect_spec hsel i o cs b ho) (fun cs b => Region.noSelect_spec hsel j oj cs b hoj) hy (H.2 j (ready_mono hj hne)).2)
    · intro k ok hk hki hku hkn
      refine hfree k ok hk hki ?_ hkn
      rcases Decidable.em (j = k) with rfl | hjk
      · exact hju
      · rwa [getD_set_ne true hjk] at hku
    · rw [Array.setIfInBounds_comm _ _ hne]; exact h3.2

theorem headQ_lex {n g : Nat} {L : Act → Prop} (hsel : Region.noSelect ops = true) (hs : Region.sinkB md ops n = true) (hc : Region.chainB md ops n = true) (hn : n < ops.size) (l : List Oper) :
    ∀ (k : Nat) (ls : Array Bool) (a : Act), (∀ j, j < l.length → l[j]? = ops[k + j]?) → k + l.length = n → HeadInv md ops n ls → Region.lexHead md ops g l.length k ls = true →
      wpQuiet P ops C L l a → HeadQ P md ops C n (fun ls' a' => Region.seqB md ops g n ls' = true ∧ L a') l.length ls a := by
  induction l with
  | nil =>
    intro k ls a _ hk _ hB h
    obtain rfl : k = n := by simpa using hk
    exact ⟨by simpa [Region.lexHead] using hB, h⟩
  | cons o l ih =>
    intro k ls a hl hk inv hB h
    have h0 : ops[k]? = some o := by simpa using (hl 0 (by simp)).symm
    simp only [List.length_cons, Region.lexHead, Bool.and_eq_true] at hB
    have hkn : k < n := by simp only [List.length_cons] at hk; omega
    have hr : k ∈ Region.ready md ops ls := by simpa using hB.1.1
    have hq : qOp P ops C k (wpQuiet P ops C L l) a := by unfold qOp; simp only [h0]; exact h
    obtain ⟨v, hy, hK⟩ := yieldsIn_of_qOp h0 hq
    refine headQ_take h0 hsel hs hc hn hkn (fun _ _ hL => seqB_ready hL.1) l.length ls a inv (Region.free_spec h0 hB.1.2) hr hy (ih (k + 1) _ _ ?_ ?_ (inv.set hr hkn) hB.2 hK)
    · intro j hj
      have := hl (j + 1) (by simp; omega)
      simpa [Nat.add_assoc, Nat.add_comm 1 j] using this
    · simp only [List.length_cons] at hk; omega

/-- The head read and called quietly, in worlds of the class C, what comes behind it in order. -/
theorem region_quiet_tail {id : Nat} {Q : Exit → Act → World → Prop} {a : Act} {w : World} {l : List Oper} (n : Nat) (hm : P.follows .mixedOrders = true) (hB : Region.lexTailB .any l.toArray n = true) (hC : C { w with drawn := w.drawn + 1 })
    (h : wpQuiet P l.toArray C (fun a' => ∀ w', C w' → wpList P l.toArray Q (l.drop n) a' w') (l.take n) a) : (Code.region id l.toArray true).wp P Q a w := by
  simp only [Region.lexTailB, Bool.and_eq_true, decide_eq_true_eq] at hB
  obtain ⟨⟨⟨⟨hsel, hn⟩, hs⟩, hc⟩, hlex⟩ := hB
  have hn' : n < l.length := by simpa using hn
  have htl : (l.take n).length = n := by simp; omega
  have hdl : (l.drop n).length = l.toArray.size - n := by simp
  have inv : HeadInv .any l.toArray n (Array.replicate l.toArray.size false) :=
    ⟨by simp, fun j _ _ hl => (by rw [getD_replicate_false] at hl; cases hl), fun t _ ht => getD_in (by simpa using ht) (getD_replicate_false _ _)⟩
  have H := headQ_lex (md := .any) (g := l.toArray.size - n) hsel hs hc hn (l.take n) 0 _ a (fun j hj => by
    have : j < n := by rw [htl] at hj; exact hj
    simp [this]) (by simpa using htl) inv (by rw [htl]; exact hlex) h
  refine wp_region_any hm ?_
  have T := headQ_any (Q := Q) (g := l.toArray.size - n) (fun ls a' w' hw hL => by
    have := wpAny_of_seq (md := .any) (Q' := Q) (l.drop n) n ls a' w' (fun j => by simp [List.getElem?_drop]) (by rw [hdl]; exact hL.1) (hL.2 w' hw)
    rwa [hdl] at this) _ _ _ { w with drawn := w.drawn + 1 } hC H
  rw [htl, show n + (l.toArray.size - n) = l.toArray.size by omega] at T
  exact T
end
end Go.Proofs.YtichejodbohldaaGreatDoor
