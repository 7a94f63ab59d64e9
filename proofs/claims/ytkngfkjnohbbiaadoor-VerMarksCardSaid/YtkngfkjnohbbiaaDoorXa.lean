/- Numbers, told and read again: what decS tells is a number that a version may have. -/
import Derived.Test.YtkngfkjnohbbiaaDoorWe
namespace Go.Proofs.YtkngfkjnohbbiaaDoor
open Go.RowKit

theorem byteAt_toB (l : List UInt8) (j : Nat) : byteAt (toB l) j = l.getD j 0 := by
  unfold byteAt toB; simp
theorem size_toB (l : List UInt8) : (toB l).size = l.length := by
  unfold toB; simp [ByteArray.size]
theorem byteAt_left (l r : List UInt8) (j : Nat) (h : j < l.length) : byteAt (toB (l ++ r)) j = byteAt (toB l) j := by
  rw [byteAt_toB, byteAt_toB, List.getD_eq_getElem?_getD, List.getD_eq_getElem?_getD, List.getElem?_append_left h]
theorem byteAt_end (l : List UInt8) (c : UInt8) : byteAt (toB (l ++ [c])) l.length = c := by
  rw [byteAt_toB, List.getD_eq_getElem?_getD, List.getElem?_append_right (Nat.le_refl _)]; simp
theorem allTo_ext (p : UInt8 → Bool) (s t : ByteArray) (k : Nat) (h : ∀ j, j < k → byteAt s j = byteAt t j) : allTo p s k = allTo p t k := by
  induction k with
  | zero => rfl
  | succ k ih => rw [allTo, allTo, ih (fun j hj => h j (by omega)), h k (by omega)]
theorem numTo_ext (s t : ByteArray) (k : Nat) (h : ∀ j, j < k → byteAt s j = byteAt t j) : numTo s k = numTo t k := by
  induction k with
  | zero => rfl
  | succ k ih => rw [numTo, numTo, ih (fun j hj => h j (by omega)), h k (by omega)]
theorem dig_byte (d : Nat) (h : d < 10) : (UInt8.ofNat (48 + d)).toNat = 48 + d := by
  rw [UInt8.toNat_ofNat']; omega
/-- The digits of a number: digits, that number, no nought ahead. -/
theorem dec_in (u : Nat) : allTo isDig (toB (Lib.decDigits u)) (Lib.decDigits u).length = true ∧ numTo (toB (Lib.decDigits u)) (Lib.decDigits u).length = u ∧ 0 < (Lib.decDigits u).length ∧ (1 ≤ u → byteAt (toB (Lib.decDigits u)) 0 ≠ 48) := by
  induction u using Nat.strongRecOn with
  | ind u ih =>
    by_cases h : u < 10
    · rw [Lib.decDigits_one h]
      have e : byteAt (toB [UInt8.ofNat (48 + u)]) 0 = UInt8.ofNat (48 + u) := byteAt_end [] _
      have hd := dig_byte u h
      refine ⟨?_, ?_, by simp, fun h1 h2 => ?_⟩
      · show (allTo isDig _ 0 && isDig (byteAt _ 0)) = true
        rw [e]
        simp only [allTo, isDig, hd, Bool.true_and, decide_eq_true_eq]
        omega
      · show 10 * numTo _ 0 + ((byteAt _ 0).toNat - 48) = u
        rw [e, hd, numTo]; omega
      · rw [e] at h2
        have := congrArg UInt8.toNat h2
        rw [hd] at this
        have : 48 + u = 48 := this
        omega
    · have e : Lib.decDigits u = Lib.decDigits (u / 10) ++ [UInt8.ofNat (48 + u % 10)] := by rw [Lib.decDigits, dif_neg h]
      obtain ⟨a, b, c, d⟩ := ih (u / 10) (by omega)
      rw [e]
      generalize Lib.decDigits (u / 10) = L at a b c d
      have hd := dig_byte (u % 10) (by omega)
      have hl : (L ++ [UInt8.ofNat (48 + u % 10)]).length = L.length + 1 := by simp
      rw [hl]
      refine ⟨?_, ?_, by omega, fun _ => ?_⟩
      · rw [allTo, byteAt_end, allTo_ext isDig _ (toB L) _ (fun j hj => byteAt_left L _ j hj), a]
        simp only [isDig, hd, Bool.true_and, decide_eq_true_eq]
        omega
      · rw [numTo, byteAt_end, numTo_ext _ (toB L) _ (fun j hj => byteAt_left L _ j hj), b, hd]
        omega
      · rw [byteAt_left L _ 0 c]
        exact d (by omega)
theorem decS_ok (x : Int) (h0 : 0 ≤ x) (h1 : x < 1000000000) : okNum (decS x) = true ∧ (num (decS x) : Int) = x := by
  obtain ⟨a, b, c, d⟩ := dec_in x.toNat
  have hs : (decS x).size = (Lib.decDigits x.toNat).length := size_toB _
  have hn : (decS x).size ≤ 9 := by rw [hs]; exact dec_len 8 _ (by omega)
  have hne : ¬ decS x = ⟨#[]⟩ := fun e => by
    have : (decS x).size = 0 := by rw [e]; rfl
    omega
  have hnum : num (decS x) = x.toNat := by unfold num; rw [hs]; exact b
  refine ⟨?_, by rw [hnum]; omega⟩
  unfold okNum isNum allDig
  rw [hs]
  have ha : allTo isDig (decS x) (Lib.decDigits x.toNat).length = true := a
  rw [ha, decide_eq_false hne]
  simp only [Bool.not_false, Bool.and_true, Bool.true_and, Bool.and_eq_true, Bool.or_eq_true, decide_eq_true_eq, Bool.not_eq_true', beq_eq_false_iff_ne]
  refine ⟨?_, by omega⟩
  by_cases hx : 1 ≤ x.toNat
  · exact .inr (d hx)
  · have e : x.toNat = 0 := by omega
    left
    unfold decS
    rw [e, Lib.decDigits_one (by omega)]
    rfl
theorem decS_no (x : Int) (d : UInt8) (hd : ¬ isDig d = true) : NoB d (decS x) := by
  intro c hc e
  subst e
  obtain ⟨a, _⟩ := dec_in x.toNat
  have hc' : c ∈ Lib.decDigits x.toNat := hc
  obtain ⟨j, hj, hj2⟩ := List.getElem_of_mem hc'
  have := allTo_at isDig _ _ a j hj
  rw [byteAt_toB, List.getD_eq_getElem?_getD, List.getElem?_eq_getElem hj] at this
  rw [← hj2] at hd
  exact hd this
/-- The text of three numbers. -/
def numsS (x y z : Int) : ByteArray := joinB dotB [decS x, decS y, decS z]
theorem numsS_eq (x y z : Int) : numsS x y z = decS x ++ dotB ++ decS y ++ dotB ++ decS z := three_join _ rfl
theorem noB_app {d : UInt8} {a b : ByteArray} (ha : NoB d a) (hb : NoB d b) : NoB d (a ++ b) := by
  intro c hc
  rw [ByteArray.data_append, Array.toList_append, List.mem_append] at hc
  exact hc.elim (ha c) (hb c)
theorem noB_at {d : UInt8} {s : ByteArray} (h : NoB d s) (j : Nat) (hj : j < s.size) : byteAt s j ≠ d := h _ (byteAt_mem s j hj)
theorem parts_parse (p q r : ByteArray) (h1 : NoB 46 p) (h2 : NoB 46 q) (h3 : NoB 46 r) (g1 : NoB 45 p) (g2 : NoB 45 q) (g3 : NoB 45 r) (hok : okNum q = true) (hok2 : okNum r = true) :
    parseS (joinB dotB [p, q, r]) = if okNum p = true then (⟨num p, num q, num r, []⟩, 0) else (zeroV, 60) := by
  have hd : NoB 45 (joinB dotB [p, q, r]) := by
    rw [three_join _ rfl]
    have hdot : NoB 45 dotB := show ∀ c ∈ [(46 : UInt8)], c ≠ 45 by decide
    exact noB_app (noB_app (noB_app (noB_app g1 hdot) g2) hdot) g3
  have e := dash_none (joinB dotB [p, q, r]) (fun j hj => noB_at hd j hj)
  have e2 : pieces 46 (joinB dotB [p, q, r]) = [p, q, r] := pieces_join 46 [p, q, r] (by simp) (by simp [h1, h2, h3])
  unfold parseS
  rw [e]
  simp only
  rw [e2]
  unfold parseP okVer
  by_cases h : okNum p = true
  · rw [if_pos h, if_pos (by simp [h, hok, hok2])]
    rfl
  · rw [if_neg h, if_neg (by simp [h])]
theorem nums_parse (x y z : Int) (hx : 0 ≤ x ∧ x < 1000000000) (hy : 0 ≤ y ∧ y < 1000000000) (hz : 0 ≤ z ∧ z < 1000000000) : parseS (numsS x y z) = (⟨x, y, z, []⟩, 0) := by
  have a := decS_ok x hx.1 hx.2
  have b := decS_ok y hy.1 hy.2
  have c := decS_ok z hz.1 hz.2
  have h46 : ¬ isDig 46 = true := by decide
  have h45 : ¬ isDig 45 = true := by decide
  unfold numsS
  rw [parts_parse _ _ _ (decS_no x 46 h46) (decS_no y 46 h46) (decS_no z 46 h46) (decS_no x 45 h45) (decS_no y 45 h45) (decS_no z 45 h45) b.1 c.1, if_pos a.1, a.2, b.2, c.2]
def zeroB : ByteArray := ⟨#[48]⟩
/-- A nought ahead is refused. -/
theorem nums_zero (x y z : Int) (hx : 0 ≤ x ∧ x < 1000000000) (hy : 0 ≤ y ∧ y < 1000000000) (hz : 0 ≤ z ∧ z < 1000000000) : parseS (zeroB ++ numsS x y z) = (zeroV, 60) := by
  have a := decS_ok x hx.1 hx.2
  have b := decS_ok y hy.1 hy.2
  have c := decS_ok z hz.1 hz.2
  have h46 : ¬ isDig 46 = true := by decide
  have h45 : ¬ isDig 45 = true := by decide
  have e : zeroB ++ numsS x y z = joinB dotB [zeroB ++ decS x, decS y, decS z] := by
    rw [three_join _ rfl, numsS_eq]
    show zeroB ++ (decS x ++ dotB ++ decS y ++ dotB ++ decS z) = (zeroB ++ decS x) ++ dotB ++ decS y ++ dotB ++ decS z
    simp only [ByteArray.append_assoc]
  have hz0 : NoB 46 zeroB := show ∀ c ∈ [(48 : UInt8)], c ≠ 46 by decide
  have hz1 : NoB 45 zeroB := show ∀ c ∈ [(48 : UInt8)], c ≠ 45 by decide
  rw [e, parts_parse _ _ _ (noB_app hz0 (decS_no x 46 h46)) (decS_no y 46 h46) (decS_no z 46 h46) (noB_app hz1 (decS_no x 45 h45)) (decS_no y 45 h45) (decS_no z 45 h45) b.1 c.1, if_neg]
  intro h
  have hs : 0 < (decS x).size := by rw [show (decS x).size = (Lib.decDigits x.toNat).length from size_toB _]; exact (dec_in x.toNat).2.2.1
  have h0 : byteAt (zeroB ++ decS x) 0 = 48 := by
    unfold byteAt
    rw [ByteArray.data_append, Array.toList_append]
    rfl
  have hl : (zeroB ++ decS x).size = 1 + (decS x).size := by rw [ByteArray.size_append]; rfl
  unfold okNum isNum at h
  simp only [Bool.and_eq_true, Bool.or_eq_true, decide_eq_true_eq] at h
  rcases h.1.2 with h1 | h1
  · have := congrArg ByteArray.size h1
    rw [hl] at this
    have : 1 + (decS x).size = 1 := this
    omega
  · rw [h0] at h1
    simp at h1
end Go.Proofs.YtkngfkjnohbbiaaDoor
