/- What is read of a version is told as it was: laws on lists, no program. -/
import Derived.Test.YtkngfkjnohbbiaaDoorVq
namespace Go.Proofs.YtkngfkjnohbbiaaDoor
open Go.RowKit

/-- The first k bytes. -/
def headB (x : ByteArray) (k : Nat) : List UInt8 := x.data.toList.take k
theorem headB_succ (x : ByteArray) (k : Nat) (h : k < x.size) : headB x (k + 1) = headB x k ++ [byteAt x k] := by
  unfold headB
  have hl := data_len x
  have h4 : x.data.toList[k]'(by omega) = byteAt x k := by
    unfold byteAt
    rw [List.getD_eq_getElem?_getD, List.getElem?_eq_getElem (by omega)]; rfl
  rw [List.take_succ_eq_append_getElem (by omega), h4]
theorem dec_of_num (x : ByteArray) (h0 : ¬ byteAt x 0 = 48) (k : Nat) (hk : k + 1 ≤ x.size) (hd : allTo isDig x (k + 1) = true) : Lib.decDigits (numTo x (k + 1)) = headB x (k + 1) := by
  induction k with
  | zero =>
    have h1 := allTo_at isDig x 1 hd 0 (by omega)
    simp only [isDig, decide_eq_true_eq] at h1
    rw [numTo, numTo, Lib.decDigits, dif_pos (by omega), headB_succ x 0 (by omega)]
    have e : headB x 0 = [] := rfl
    rw [e, List.nil_append]
    congr 1
    apply UInt8.toNat_inj.1
    rw [UInt8.toNat_ofNat']
    omega
  | succ k ih =>
    have hd' := hd
    rw [allTo, Bool.and_eq_true] at hd'
    have h1 := allTo_at isDig x (k + 1 + 1) hd (k + 1) (by omega)
    simp only [isDig, decide_eq_true_eq] at h1
    have hfst := allTo_at isDig x (k + 1 + 1) hd 0 (by omega)
    simp only [isDig, decide_eq_true_eq] at hfst
    have h49 : 49 ≤ (byteAt x 0).toNat := by
      rcases Nat.lt_or_ge 48 (byteAt x 0).toNat with h | h
      · exact h
      · exact absurd (UInt8.toNat_inj.1 (by show _ = 48; omega)) h0
    have hge := numTo_ge x k hd'.1 h49
    have hp : 1 ≤ 10 ^ k := Nat.one_le_pow _ _ (by omega)
    have ih' := ih (by omega) hd'.1
    rw [numTo, Lib.decDigits, dif_neg (by omega), headB_succ x (k + 1) (by omega)]
    have e1 : (10 * numTo x (k + 1) + ((byteAt x (k + 1)).toNat - 48)) / 10 = numTo x (k + 1) := by omega
    have e2 : (10 * numTo x (k + 1) + ((byteAt x (k + 1)).toNat - 48)) % 10 = (byteAt x (k + 1)).toNat - 48 := by omega
    rw [e1, e2, ih']
    congr 2
    apply UInt8.toNat_inj.1
    rw [UInt8.toNat_ofNat']
    omega
theorem decS_num (x : ByteArray) (h : okNum x = true) : decS (num x) = x := by
  unfold okNum at h
  rw [Bool.and_eq_true] at h
  have hn := h.1
  have hd : allDig x = true := by
    unfold isNum at hn
    rw [Bool.and_eq_true] at hn
    exact hn.1
  have hall : allTo isDig x x.size = true := by
    unfold allDig at hd
    rw [Bool.and_eq_true] at hd
    exact hd.1
  have hpos := size_pos x (allDig_pos x hd)
  unfold decS
  rw [Int.toNat_natCast]
  unfold num
  obtain ⟨k, hk⟩ : ∃ k, x.size = k + 1 := ⟨x.size - 1, by omega⟩
  by_cases h48 : byteAt x 0 = 48
  · have h1 : ¬ 1 < x.size := by
      have := isNum_iff x hd
      rw [hn, h48] at this
      simpa using this.symm
    rw [one_nought x (by omega) h48]
    decide +kernel
  · have hl := data_len x
    rw [hk]
    rw [hk] at hall
    rw [dec_of_num x h48 k (by omega) hall]
    refine bytes_ext ?_
    rw [data_toB]
    unfold headB
    exact List.take_of_length_le (by omega)
theorem dash_glue (s : ByteArray) : s = if (dashS s).2.2 = true then (dashS s).1 ++ dashB ++ (dashS s).2.1 else (dashS s).1 := by
  rcases first_d 45 s s.size (Nat.le_refl _) with h | ⟨i, h1, h2, h3⟩
  · rw [dash_none s h]; rfl
  · rw [dash_hit s i h1 h2 h3, if_pos rfl]
    refine bytes_ext ?_
    have e := byteAt_list s i h1
    rw [h2] at e
    simp only [ByteArray.data_append, Array.toList_append, extract_head, extract_tail]
    conv => lhs; rw [e]
    simp [dashB]
theorem three_join (P : List ByteArray) (h : P.length = 3) : joinB dotB P = strAt P 0 ++ dotB ++ strAt P 1 ++ dotB ++ strAt P 2 := by
  match P, h with
  | [x, y, z], _ =>
    have h1 := joinB_snoc dotB [x, y] z (by simp)
    have h2 := joinB_snoc dotB [x] y (by simp)
    rw [joinB_one] at h2
    have e : ([x, y] : List ByteArray) ++ [z] = [x, y, z] := rfl
    have e2 : ([x] : List ByteArray) ++ [y] = [x, y] := rfl
    rw [e] at h1
    rw [e2] at h2
    rw [h1, h2]; rfl
theorem strAt_all (P : List ByteArray) (p : ByteArray → Bool) (i : Nat) (hi : i < P.length) (h : P.all p = true) : p (strAt P i) = true := by
  rw [List.all_eq_true] at h
  exact h _ (List.mem_of_getElem? (strAt_eq P i hi))
/-- What is known of a version that was read. -/
structure Read (s : ByteArray) (v : Vn) : Prop where
  text : textS v = s
  a0 : 0 ≤ v.maj
  a1 : v.maj < 1000000000
  b0 : 0 ≤ v.min
  b1 : v.min < 1000000000
  c0 : 0 ≤ v.pat
  c1 : v.pat < 1000000000
  few : v.pre.length ≤ 5
  marks : ∀ p ∈ v.pre, okMark p = true
theorem okMark_size (p : ByteArray) (h : okMark p = true) : p.size ≤ 16 ∧ ¬ p = ⟨#[]⟩ := by
  unfold okMark at h
  simp only [Bool.and_eq_true, decide_eq_true_eq] at h
  exact ⟨h.1.1.2, by simpa using h.1.1.1⟩
theorem parse_read (s : ByteArray) (v : Vn) (h : parseS s = (v, 0)) : Read s v := by
  unfold parseS parseP at h
  by_cases hok : okVer (pieces 46 (dashS s).1) (dashS s).2.1 (dashS s).2.2 = true
  · rw [if_pos hok] at h
    have hv := (congrArg Prod.fst h).symm
    simp only at hv
    have hy := okVer_yes _ _ _ hok
    have o0 := strAt_all _ okNum 0 (by omega) hy.2
    have o1 := strAt_all _ okNum 1 (by omega) hy.2
    have o2 := strAt_all _ okNum 2 (by omega) hy.2
    have n0 := okNum_bound _ o0 _ (Nat.le_refl _)
    have n1 := okNum_bound _ o1 _ (Nat.le_refl _)
    have n2 := okNum_bound _ o2 _ (Nat.le_refl _)
    have hcore : coreT ⟨num (strAt (pieces 46 (dashS s).1) 0), num (strAt (pieces 46 (dashS s).1) 1), num (strAt (pieces 46 (dashS s).1) 2), preOf (dashS s).2.1 (dashS s).2.2⟩ = (dashS s).1 := by
      unfold coreT
      simp only
      rw [decS_num _ o0, decS_num _ o1, decS_num _ o2, ← three_join _ hy.1]
      exact joinB_pieces 46 _
    have hglue := dash_glue s
    have hmk : (dashS s).2.2 = true → okMarks (pieces 46 (dashS s).2.1) = true := by
      intro hm
      unfold okVer at hok
      rw [hm] at hok
      simp only [Bool.and_eq_true, Bool.not_true, Bool.false_or] at hok
      exact hok.2
    rw [hv]
    cases hm : (dashS s).2.2 with
    | false =>
      rw [hm] at hglue hcore
      rw [if_neg (by simp)] at hglue
      refine ⟨?_, Int.natCast_nonneg _, by show ((num _ : Nat) : Int) < _; unfold num; omega, Int.natCast_nonneg _, by show ((num _ : Nat) : Int) < _; unfold num; omega, Int.natCast_nonneg _, by show ((num _ : Nat) : Int) < _; unfold num; omega, by show ([] : List ByteArray).length ≤ 5; simp, by intro p hp; simp [preOf] at hp⟩
      unfold textS
      rw [if_pos (show preOf (dashS s).2.1 false = [] from rfl), hcore]; exact hglue.symm
    | true =>
      rw [hm] at hglue hcore
      rw [if_pos rfl] at hglue
      have hmk' := hmk hm
      unfold okMarks at hmk'
      rw [Bool.and_eq_true, decide_eq_true_eq, List.all_eq_true] at hmk'
      refine ⟨?_, Int.natCast_nonneg _, by show ((num _ : Nat) : Int) < _; unfold num; omega, Int.natCast_nonneg _, by show ((num _ : Nat) : Int) < _; unfold num; omega, Int.natCast_nonneg _, by show ((num _ : Nat) : Int) < _; unfold num; omega, hmk'.2, hmk'.1⟩
      unfold textS
      have hne : ¬ preOf (dashS s).2.1 true = [] := pieces_ne 46 _
      rw [if_neg hne, hcore]
      have e : preOf (dashS s).2.1 true = pieces 46 (dashS s).2.1 := rfl
      have e2 : joinB dotB (pieces 46 (dashS s).2.1) = (dashS s).2.1 := joinB_pieces 46 _
      simp only [e, e2]
      rw [← ByteArray.append_assoc]; exact hglue.symm
  · rw [if_neg hok] at h
    exact absurd (congrArg Prod.snd h) (by simp)
theorem Read.at {s : ByteArray} {v : Vn} (h : Read s v) {w : World} {B : Nat} {sl : Value} (hp : PartS w B sl v.pre) : VerAt w B v sl := by
  have h1 := h.a0; have h2 := h.a1; have h3 := h.b0; have h4 := h.b1; have h5 := h.c0; have h6 := h.c1; have h7 := h.few
  refine ⟨⟨by omega, by omega⟩, ⟨by omega, by omega⟩, ⟨by omega, by omega⟩, by omega, fun p hp => ?_, ?_, hp⟩
  · have := (okMark_size p (h.marks p hp)).1; omega
  · have h8 := sumS_le v.pre 16 fun p hp => (okMark_size p (h.marks p hp)).1
    have := Nat.mul_le_mul h7 (Nat.le_refl (16 + 1))
    omega
theorem parse_fail (s : ByteArray) (v : Vn) (q : Int) (h : parseS s = (v, q)) (hq : ¬ q = 0) : v = zeroV ∧ q = 60 := by
  unfold parseS parseP at h
  split at h
  · exact absurd (congrArg Prod.snd h).symm hq
  · exact ⟨(congrArg Prod.fst h).symm, (congrArg Prod.snd h).symm⟩
end Go.Proofs.YtkngfkjnohbbiaaDoor
