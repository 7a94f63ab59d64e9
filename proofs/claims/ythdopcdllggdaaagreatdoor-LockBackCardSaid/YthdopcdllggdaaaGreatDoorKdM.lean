/- A lockfile that is told is read as what it is (pure). -/
import Derived.Test.YthdopcdllggdaaaGreatDoorKcM
namespace Go.Proofs.YthdopcdllggdaaaGreatDoor
open Go.RowKit

theorem byteAt_toB (l : List UInt8) (j : Nat) : byteAt (toB l) j = l.getD j 0 := by
  unfold byteAt toB; simp
theorem size_toB (l : List UInt8) : (toB l).size = l.length := by
  unfold toB; simp [ByteArray.size]
theorem byteAt_left (l r : List UInt8) (j : Nat) (h : j < l.length) : byteAt (toB (l ++ r)) j = byteAt (toB l) j := by
  rw [byteAt_toB, byteAt_toB, List.getD_eq_getElem?_getD, List.getD_eq_getElem?_getD, List.getElem?_append_left h]
theorem byteAt_end (l : List UInt8) (c : UInt8) : byteAt (toB (l ++ [c])) l.length = c := by
  rw [byteAt_toB, List.getD_eq_getElem?_getD, List.getElem?_append_right (Nat.le_refl _)]; simp
theorem allTo_ext (p : UInt8 → Bool) (s t : ByteArray) (k : Nat) (h : ∀ j, j < k → byteAt s j = byteAt t j) : allTo p s k = allTo p t k := by
  induction k with
  | zero => rfl
  | succ k ih => rw [allTo, allTo, ih (fun j hj => h j (by omega)), h k (by omega)]
theorem numTo_ext (s t : ByteArray) (k : Nat) (h : ∀ j, j < k → byteAt s j = byteAt t j) : numTo s k = numTo t k := by
  induction k with
  | zero => rfl
  | succ k ih => rw [numTo, numTo, ih (fun j hj => h j (by omega)), h k (by omega)]
theorem dig_byte (d : Nat) (h : d < 10) : (UInt8.ofNat (48 + d)).toNat = 48 + d := by
  rw [UInt8.toNat_ofNat']; omega
/-- The digits of a number: digits, that number, no nought ahead. -/
theorem dec_in (u : Nat) : allTo isDig (toB (Lib.decDigits u)) (Lib.decDigits u).length = true ∧ numTo (toB (Lib.decDigits u)) (Lib.decDigits u).length = u ∧ 0 < (Lib.decDigits u).length ∧ (1 ≤ u → byteAt (toB (Lib.decDigits u)) 0 ≠ 48) := by
  induction u using Nat.strongRecOn with
  | ind u ih =>
    by_cases h : u < 10
    · rw [Lib.decDigits_one h]
      have e : byteAt (toB [UInt8.ofNat (48 + u)]) 0 = UInt8.ofNat (48 + u) := byteAt_end [] _
      have hd := dig_byte u h
      refine ⟨?_, ?_, by simp, fun h1 h2 => ?_⟩
      · show (allTo isDig _ 0 && isDig (byteAt _ 0)) = true
        rw [e]
        simp only [allTo, isDig, hd, Bool.true_and, decide_eq_true_eq]
        omega
      · show 10 * numTo _ 0 + ((byteAt _ 0).toNat - 48) = u
        rw [e, hd, numTo]; omega
      · rw [e] at h2
        have := congrArg UInt8.toNat h2
        rw [hd] at this
        have : 48 + u = 48 := this
        omega
    · have e : Lib.decDigits u = Lib.decDigits (u / 10) ++ [UInt8.ofNat (48 + u % 10)] := by rw [Lib.decDigits, dif_neg h]
      obtain ⟨a, b, c, d⟩ := ih (u / 10) (by omega)
      rw [e]
      generalize Lib.decDigits (u / 10) = L at a b c d
      have hd := dig_byte (u % 10) (by omega)
      have hl : (L ++ [UInt8.ofNat (48 + u % 10)]).length = L.length + 1 := by simp
      rw [hl]
      refine ⟨?_, ?_, by omega, fun _ => ?_⟩
      · rw [allTo, byteAt_end, allTo_ext isDig _ (toB L) _ (fun j hj => byteAt_left L _ j hj), a]
        simp only [isDig, hd, Bool.true_and, decide_eq_true_eq]
        omega
      · rw [numTo, byteAt_end, numTo_ext _ (toB L) _ (fun j hj => byteAt_left L _ j hj), b, hd]
        omega
      · rw [byteAt_left L _ 0 c]
        exact d (by omega)
theorem decS_ok (x : Int) (h0 : 0 ≤ x) (h1 : x < 1000000000) : okNum (decS x) = true ∧ (num (decS x) : Int) = x := by
  obtain ⟨a, b, c, d⟩ := dec_in x.toNat
  have hs : (decS x).size = (Lib.decDigits x.toNat).length := size_toB _
  have hn : (decS x).size ≤ 9 := by rw [hs]; exact dec_len 8 _ (by omega)
  have hne : ¬ decS x = ⟨#[]⟩ := fun e => by
    have : (decS x).size = 0 := by rw [e]; rfl
    omega
  have hnum : num (decS x) = x.toNat := by unfold num; rw [hs]; exact b
  refine ⟨?_, by rw [hnum]; omega⟩
  unfold okNum isNum allDig
  rw [hs]
  have ha : allTo isDig (decS x) (Lib.decDigits x.toNat).length = true := a
  rw [ha, decide_eq_false hne]
  simp only [Bool.not_false, Bool.and_true, Bool.true_and, Bool.and_eq_true, Bool.or_eq_true, decide_eq_true_eq, Bool.not_eq_true', beq_eq_false_iff_ne]
  refine ⟨?_, by omega⟩
  by_cases hx : 1 ≤ x.toNat
  · exact .inr (d hx)
  · have e : x.toNat = 0 := by omega
    left
    unfold decS
    rw [e, Lib.decDigits_one (by omega)]
    rfl
theorem decS_no (x : Int) (d : UInt8) (hd : ¬ isDig d = true) : NoB d (decS x) := by
  intro c hc e
  subst e
  obtain ⟨a, _⟩ := dec_in x.toNat
  have hc' : c ∈ Lib.decDigits x.toNat := hc
  obtain ⟨j, hj, hj2⟩ := List.getElem_of_mem hc'
  have := allTo_at isDig _ _ a j hj
  rw [byteAt_toB, List.getD_eq_getElem?_getD, List.getElem?_eq_getElem hj] at this
  rw [← hj2] at hd
  exact hd this
/-- The text of three numbers. -/
def numsS (x y z : Int) : ByteArray := joinB dotB [decS x, decS y, decS z]
theorem numsS_eq (x y z : Int) : numsS x y z = decS x ++ dotB ++ decS y ++ dotB ++ decS z := three_join _ rfl
theorem noB_app {d : UInt8} {a b : ByteArray} (ha : NoB d a) (hb : NoB d b) : NoB d (a ++ b) := by
  intro c hc
  rw [ByteArray.data_append, Array.toList_append, List.mem_append] at hc
  exact hc.elim (ha c) (hb c)
theorem noB_at {d : UInt8} {s : ByteArray} (h : NoB d s) (j : Nat) (hj : j < s.size) : byteAt s j ≠ d := h _ (byteAt_mem s j hj)
theorem parts_parse (p q r : ByteArray) (h1 : NoB 46 p) (h2 : NoB 46 q) (h3 : NoB 46 r) (g1 : NoB 45 p) (g2 : NoB 45 q) (g3 : NoB 45 r) (hok : okNum q = true) (hok2 : okNum r = true) :
    parseS (joinB dotB [p, q, r]) = if okNum p = true then (⟨num p, num q, num r, []⟩, 0) else (zeroV, 60) := by
  have hd : NoB 45 (joinB dotB [p, q, r]) := by
    rw [three_join _ rfl]
    have hdot : NoB 45 dotB := show ∀ c ∈ [(46 : UInt8)], c ≠ 45 by decide
    exact noB_app (noB_app (noB_app (noB_app g1 hdot) g2) hdot) g3
  have e := dash_none (joinB dotB [p, q, r]) (fun j hj => noB_at hd j hj)
  have e2 : pieces 46 (joinB dotB [p, q, r]) = [p, q, r] := pieces_join 46 [p, q, r] (by simp) (by simp [h1, h2, h3])
  unfold parseS
  rw [e]
  simp only
  rw [e2]
  unfold parseP okVer
  by_cases h : okNum p = true
  · rw [if_pos h, if_pos (by simp [h, hok, hok2])]
    rfl
  · rw [if_neg h, if_neg (by simp [h])]
theorem nums_parse (x y z : Int) (hx : 0 ≤ x ∧ x < 1000000000) (hy : 0 ≤ y ∧ y < 1000000000) (hz : 0 ≤ z ∧ z < 1000000000) : parseS (numsS x y z) = (⟨x, y, z, []⟩, 0) := by
  have a := decS_ok x hx.1 hx.2
  have b := decS_ok y hy.1 hy.2
  have c := decS_ok z hz.1 hz.2
  have h46 : ¬ isDig 46 = true := by decide
  have h45 : ¬ isDig 45 = true := by decide
  unfold numsS
  rw [parts_parse _ _ _ (decS_no x 46 h46) (decS_no y 46 h46) (decS_no z 46 h46) (decS_no x 45 h45) (decS_no y 45 h45) (decS_no z 45 h45) b.1 c.1, if_pos a.1, a.2, b.2, c.2]
def writ (L : List (List UInt8)) : List UInt8 := L.flatMap (· ++ [10])
theorem writ_snoc (L : List (List UInt8)) (x : List UInt8) : writ (L ++ [x]) = writ L ++ (x ++ [10]) := by simp [writ]
theorem writ_len (L : List (List UInt8)) (c : Nat) (h : ∀ x ∈ L, x.length ≤ c) : (writ L).length ≤ L.length * (c + 1) := by
  induction L with
  | nil => simp [writ]
  | cons a r ih =>
    have h1 := ih (fun x hx => h x (by simp [hx]))
    have h2 := h a (by simp)
    have e : writ (a :: r) = a ++ [10] ++ writ r := rfl
    rw [e, List.length_append, List.length_append, List.length_cons, List.length_cons, List.length_nil, Nat.add_mul]
    omega
theorem cut_writ (L : List (List UInt8)) (h : ∀ x ∈ L, ∀ c ∈ x, c ≠ 10) : cutL 10 (writ L) = L ++ [[]] := by
  induction L with
  | nil => rfl
  | cons a r ih =>
    have e : writ (a :: r) = a ++ 10 :: writ r := by simp [writ]
    rw [e, cutL_at 10 a _ (h a (by simp)), ih (fun x hx => h x (by simp [hx]))]
    rfl
theorem lines_writ (L : List (List UInt8)) (h : ∀ x ∈ L, ∀ c ∈ x, c ≠ 10) : linesS (toB (writ L)) = L.map toB := by
  have e : pieces 10 (toB (writ L)) = L.map toB ++ [⟨#[]⟩] := by
    rw [pieces_of, data_toB, cut_writ L h, List.map_append]; rfl
  unfold linesS
  rw [e, List.getLast?_append, List.dropLast_concat]
  rfl
/-- A sum's digits, told and read again. -/
theorem dgN_hex : ∀ n, n < 16 → Sha.isHex (Sha.dgN n) = true ∧ (Sha.hv (Sha.dgN n)).toNat = n := by decide
theorem hex_byte : ∀ n, n < 256 → ((Sha.hv (Sha.dgN (n / 16)) <<< 4) ||| Sha.hv (Sha.dgN (n % 16))) = UInt8.ofNat n := by decide +kernel
theorem hex_at (l : List UInt8) : ∀ j, (hj : j < l.length) → (Sha.hexL l)[2 * j]? = some (Sha.dgN (l[j].toNat / 16)) ∧ (Sha.hexL l)[2 * j + 1]? = some (Sha.dgN (l[j].toNat % 16)) := by
  induction l with
  | nil => intro j hj; exact absurd hj (by simp)
  | cons c l ih =>
    intro j hj
    have e : Sha.hexL (c :: l) = Sha.dgN (c.toNat / 16) :: Sha.dgN (c.toNat % 16) :: Sha.hexL l := rfl
    rw [e]
    cases j with
    | zero => exact ⟨rfl, rfl⟩
    | succ j =>
      have h := ih j (by simpa using hj)
      rw [show 2 * (j + 1) = 2 * j + 1 + 1 by omega]
      simpa using h
theorem hex_in (l : List UInt8) (c : UInt8) (h : c ∈ Sha.hexL l) : Sha.isHex c = true := by
  unfold Sha.hexL at h
  obtain ⟨x, _, h2⟩ := List.mem_flatMap.1 h
  have hx := x.toNat_lt
  simp only [List.mem_cons, List.not_mem_nil, or_false] at h2
  rcases h2 with rfl | rfl
  · exact (dgN_hex _ (by omega)).1
  · exact (dgN_hex _ (by omega)).1
theorem sha_byteAt (s : ByteArray) (j : Nat) : Sha.byteAt s j = byteAt s j := rfl
theorem hex_good (K : Array UInt8) (hK : K.size = 32) : Sha.pb (toB (Sha.hexL K.toList)) = true := by
  have hl : (Sha.hexL K.toList).length = 64 := by rw [Sha.hexL_len, Array.length_toList, hK]
  unfold Sha.pb Sha.goodTo
  rw [size_toB, hl, decide_eq_true rfl, Bool.true_and, List.all_eq_true]
  intro i hi
  have hi := List.mem_range.1 hi
  rw [sha_byteAt, byteAt_toB, List.getD_eq_getElem?_getD, List.getElem?_eq_getElem (by omega)]
  exact hex_in _ _ (List.getElem_mem _)
theorem keyP_at (s : ByteArray) (k : Nat) (hk : k ≤ 32) (i : Nat) (hi : i < k) : (Sha.keyP s k)[i]? = some ((Sha.hv (byteAt s (2 * i)) <<< 4) ||| Sha.hv (byteAt s (2 * i + 1))) := by
  induction k with
  | zero => omega
  | succ k ih =>
    have hs := Sha.keyP_size s k
    show ((Sha.keyP s k).setIfInBounds k _)[i]? = _
    by_cases e : i = k
    · subst e
      rw [Array.getElem?_setIfInBounds, if_pos rfl, if_pos (by omega)]
      rfl
    · rw [Array.getElem?_setIfInBounds, if_neg (fun h => e h.symm)]
      exact ih (by omega) (by omega)
theorem hex_key (K : Array UInt8) (hK : K.size = 32) : Sha.pk (toB (Sha.hexL K.toList)) = K := by
  rw [Sha.pk_yes _ (hex_good K hK)]
  apply Array.ext_getElem?
  intro i
  by_cases hi : i < 32
  · rw [keyP_at _ 32 (Nat.le_refl _) i hi]
    obtain ⟨h1, h2⟩ := hex_at K.toList i (by rw [Array.length_toList, hK]; exact hi)
    rw [byteAt_toB, byteAt_toB, List.getD_eq_getElem?_getD, List.getD_eq_getElem?_getD, h1, h2]
    have hx := (K.toList[i]'(by rw [Array.length_toList, hK]; exact hi)).toNat_lt
    simp only [Option.getD_some]
    rw [hex_byte _ hx, UInt8.ofNat_toNat, Array.getElem?_eq_getElem (by omega)]
    simp
  · rw [Array.getElem?_eq_none (by rw [Sha.keyP_size]; omega), Array.getElem?_eq_none (by omega)]
/-- A pin that is read as what it is. -/
structure Good (p : Pc) : Prop where
  name : okName p.name = true
  ver : parseS (textS p.v) = (p.v, 0)
  n10 : NoB 10 (textS p.v)
  n32 : NoB 32 (textS p.v)
def lineW (p : Pc) : List UInt8 := p.name.data.toList ++ 32 :: ((textS p.v).data.toList ++ 32 :: Sha.hexL p.key.toList)
theorem pinL_line (p : Pc) : pinL p = lineW p ++ [10] := by simp [pinL, lineW]
theorem rowT_writ (L : List Pc) : rowT L = headL ++ writ (L.map lineW) := by
  unfold rowT writ
  congr 1
  induction L with
  | nil => rfl
  | cons p L ih => rw [List.flatMap_cons, ih, pinL_line, List.map_cons, List.flatMap_cons]
theorem name_no (s : ByteArray) (d : UInt8) (h : okName s = true) (hd : ¬ nameB d = true) : NoB d s := by
  intro c hc e
  subst e
  unfold okName at h
  simp only [Bool.and_eq_true] at h
  obtain ⟨j, hj, hj2⟩ := List.getElem_of_mem hc
  have hl := data_len s
  have h2 := allTo_at nameB s _ h.2 j (by omega)
  unfold byteAt at h2
  rw [List.getD_eq_getElem?_getD, List.getElem?_eq_getElem hj] at h2
  rw [← hj2] at hd
  exact hd h2
theorem hex_no (l : List UInt8) (d : UInt8) (hd : ¬ Sha.isHex d = true) : ∀ c ∈ Sha.hexL l, c ≠ d := fun c hc e => by
  subst e
  exact hd (hex_in l _ hc)
theorem Good.line_no {p : Pc} (h : Good p) : ∀ c ∈ lineW p, c ≠ 10 := by
  intro c hc
  unfold lineW at hc
  simp only [List.mem_append, List.mem_cons] at hc
  rcases hc with hc | rfl | hc | rfl | hc
  · exact name_no _ 10 h.name (by decide) c hc
  · decide
  · exact h.n10 c hc
  · decide
  · exact hex_no _ 10 (by decide) c hc
theorem Good.parts {p : Pc} (h : Good p) : pieces 32 (toB (lineW p)) = [p.name, textS p.v, toB (Sha.hexL p.key.toList)] := by
  rw [pieces_of, data_toB]
  unfold lineW
  rw [cutL_at 32 _ _ (name_no _ 32 h.name (by decide)), cutL_at 32 _ _ h.n32, cutL_plain 32 _ (hex_no _ 32 (by decide))]
  simp [toB_data]
theorem Good.reads {p : Pc} (h : Good p) : lineB (toB (lineW p)) = true ∧ mpOf (toB (lineW p)) = mp p ∧ lineN (toB (lineW p)) = p.name := by
  have e := h.parts
  have e0 : lineN (toB (lineW p)) = p.name := by unfold lineN; rw [e]; rfl
  have e1 : lineV (toB (lineW p)) = (p.v, 0) := by unfold lineV; rw [e]; exact h.ver
  have e2 : lineK (toB (lineW p)) = toB (Sha.hexL p.key.toList) := by unfold lineK; rw [e]; rfl
  refine ⟨?_, ?_, e0⟩
  · unfold lineB
    rw [e, e0, e1, e2, h.name, hex_good _ p.hk]
    rfl
  · unfold mpOf
    rw [e0, e1, e2, hex_key _ p.hk]
    rfl
/-- Names stand in order, each above the one ahead. -/
def Asc : ByteArray → List Pc → Prop
  | _, [] => True
  | ah, p :: r => lessB ah p.name = true ∧ Asc p.name r
theorem read_good (L : List Pc) : ∀ (i : Nat) (ah : ByteArray) (out : List Mp), (∀ p ∈ L, Good p) → Asc ah L → out.length + L.length ≤ 200 → readS (L.map fun p => toB (lineW p)) i ah out = .inr (out ++ L.map mp) := by
  induction L with
  | nil => intro i ah out _ _ _; show Sum.inr out = _; simp
  | cons p L ih =>
    intro i ah out hg ha hn
    obtain ⟨h1, h2, h3⟩ := (hg p (by simp)).reads
    rw [List.length_cons] at hn
    rw [List.map_cons, readS_step, if_pos ⟨h1, by rw [h3]; exact ha.1, by omega⟩, h2, h3, ih _ _ _ (fun q hq => hg q (by simp [hq])) ha.2 (by rw [List.length_append]; simp; omega)]
    simp
theorem open_row (L : List Pc) (h : (rowT L).length ≤ 65536) : openB (toB (rowT L)) = true := by
  unfold openB
  rw [size_toB, decide_eq_true h, data_toB]
  have h1 : Lib.hasPrefix (rowT L) headL = true := List.isPrefixOf_iff_prefix.2 ⟨_, rfl⟩
  have h2 : Lib.hasSuffix (rowT L) [10] = true := by
    refine List.isSuffixOf_iff_suffix.2 ?_
    rcases List.eq_nil_or_concat L with rfl | ⟨M, p, rfl⟩
    · exact ⟨[108, 111, 99, 107, 32, 49], rfl⟩
    · refine ⟨headL ++ (M.flatMap pinL ++ lineW p), ?_⟩
      unfold rowT
      rw [List.concat_eq_append, List.flatMap_append, List.flatMap_cons, pinL_line]
      simp
  rw [h1, h2]
  rfl
/-- A LOCKFILE THAT IS TOLD IS READ AS THE PINS THAT IT IS. -/
theorem lock_back (L : List Pc) (hg : ∀ p ∈ L, Good p) (ha : Asc ⟨#[]⟩ L) (hn : L.length ≤ 200) (h : (rowT L).length ≤ 65536) : lockS (toB (rowT L)) = .inr (L.map mp) := by
  unfold lockS
  rw [if_pos (open_row L h)]
  have e : (toB (rowT L)).extract 7 (toB (rowT L)).size = toB (writ (L.map lineW)) := by
    refine bytes_ext ?_
    rw [extract_tail, data_toB, data_toB, rowT_writ]
    rfl
  rw [e, lines_writ _ (fun x hx => by
    obtain ⟨p, hp, rfl⟩ := List.mem_map.1 hx
    exact (hg p hp).line_no), List.map_map]
  have := read_good L 0 ⟨#[]⟩ [] hg ha (by simpa using hn)
  rw [List.nil_append] at this
  exact this
/-- The text of a version without marks has digits and dots alone. -/
theorem nums_no (x y z : Int) (d : UInt8) (hd : ¬ isDig d = true) (h : d ≠ 46) : NoB d (textS ⟨x, y, z, []⟩) := by
  unfold textS
  rw [if_pos rfl]
  unfold coreT
  have hdot : NoB d dotB := fun c hc e => by
    have : c = 46 := by simpa [dotB] using hc
    exact h (by rw [← e, this])
  exact noB_app (noB_app (noB_app (noB_app (decS_no x d hd) hdot) (decS_no y d hd)) hdot) (decS_no z d hd)
theorem good_nums (p : Pc) (hn : okName p.name = true) (x y z : Int) (hv : p.v = ⟨x, y, z, []⟩) (hx : 0 ≤ x ∧ x < 1000000000) (hy : 0 ≤ y ∧ y < 1000000000) (hz : 0 ≤ z ∧ z < 1000000000) : Good p := by
  have e : textS p.v = numsS x y z := by
    rw [hv, numsS_eq]
    rfl
  refine ⟨hn, by rw [e, nums_parse x y z hx hy hz, hv], ?_, ?_⟩
  · rw [hv]; exact nums_no x y z 10 (by decide) (by decide)
  · rw [hv]; exact nums_no x y z 32 (by decide) (by decide)
end Go.Proofs.YthdopcdllggdaaaGreatDoor
