/- The words of a line, as the reference tells them. -/
import Derived.Test.YtmjdkgbblccpgaaDoorSt
import Derived.Test.YtmjdkgbblccpgaaDoorBo
import Derived.Deep.LoopGhost
namespace Go.Proofs.YtmjdkgbblccpgaaDoor
open Go.RowKit

theorem wordsL_blank (c : UInt8) (r : List UInt8) (h : blk c = true) : wordsL (c :: r) = wordsL r := by
  rw [wordsL_trim, wordsL_trim r]
  congr 1
  unfold trimB
  rw [List.dropWhile_cons, h]; rfl
theorem plain_split (l : List UInt8) (k : Nat) (h1 : ∀ x ∈ l.take k, blk x = false) (h2 : ∀ y t, l.drop k = y :: t → blk y = true) : plainW l = l.take k ∧ plainR l = l.drop k := by
  have e := List.take_append_drop k l
  have ha : ∀ x ∈ l.take k, (!blk x) = true := fun x hx => by rw [h1 x hx]; rfl
  unfold plainW plainR
  constructor
  · conv => lhs; arg 2; rw [← e]
    rw [List.takeWhile_append_of_pos ha]
    cases hd : l.drop k with
    | nil => simp
    | cons y t => rw [List.takeWhile_cons, h2 y t hd]; simp
  · conv => lhs; arg 2; rw [← e]
    rw [List.dropWhile_append_of_pos ha]
    cases hd : l.drop k with
    | nil => rfl
    | cons y t => rw [List.dropWhile_cons, h2 y t hd]; simp
def RefTo (s : ByteArray) (k : Nat) (A : List (List UInt8)) : Prop := wordsL s.data.toList = (wordsL (s.data.toList.drop k)).map fun x => A ++ x
theorem RefTo.start (s : ByteArray) : RefTo s 0 [] := by
  unfold RefTo
  rw [List.drop_zero]
  cases wordsL s.data.toList <;> rfl
theorem RefTo.step {s : ByteArray} {k j : Nat} {A : List (List UInt8)} {x : List UInt8} (h : RefTo s k A) (e : wordsL (s.data.toList.drop k) = (wordsL (s.data.toList.drop j)).map fun y => x :: y) : RefTo s j (A ++ [x]) := by
  unfold RefTo at h ⊢
  rw [h, e]
  cases wordsL (s.data.toList.drop j) <;> simp
theorem RefTo.skip {s : ByteArray} {k : Nat} {A : List (List UInt8)} (h : RefTo s k A) (hk : k < s.size) (hb : blk s[k] = true) : RefTo s (k + 1) A := by
  unfold RefTo at h ⊢
  rw [h, drop_at s k hk, wordsL_blank _ _ hb]
theorem RefTo.no {s : ByteArray} {k : Nat} {A : List (List UInt8)} (h : RefTo s k A) (e : wordsL (s.data.toList.drop k) = none) : wordsL s.data.toList = none := by
  unfold RefTo at h
  rw [h, e]; rfl
theorem RefTo.done {s : ByteArray} {A : List (List UInt8)} (h : RefTo s s.size A) : wordsL s.data.toList = some A := by
  unfold RefTo at h
  rw [h, drop_end, wordsL_nil]
  simp
/-- From k to j nothing is blank. -/
def PlainTo (s : ByteArray) (k j : Nat) : Prop := ∀ (q : Nat) (hq : q < s.size), k ≤ q → q < j → blk s[q] = false
theorem PlainTo.word {s : ByteArray} {k j : Nat} {A : List (List UInt8)} (h : PlainTo s k j) (hR : RefTo s k A) (hk : k < s.size) (h34 : ¬ s[k] = 34) (hkj : k < j) (hj : j ≤ s.size) (he : ∀ hq : j < s.size, blk s[j] = true) :
    RefTo s j (A ++ [(s.extract k j).data.toList]) := by
  have hb := h k hk (Nat.le_refl _) hkj
  have hs := plain_split (s.data.toList.drop k) (j - k) (by
    intro x hx
    obtain ⟨q, hq, rfl⟩ := List.getElem_of_mem hx
    rw [List.length_take, List.length_drop, data_len] at hq
    rw [List.getElem_take, List.getElem_drop]
    exact h (k + q) (by omega) (by omega) (by omega)) (by
    intro y t hy
    rw [List.drop_drop, show k + (j - k) = j by omega] at hy
    by_cases hjs : j < s.size
    · rw [drop_at s j hjs] at hy
      rw [← (List.cons.inj hy).1]; exact he hjs
    · rw [List.drop_eq_nil_of_le (by rw [data_len]; omega)] at hy
      cases hy)
  refine hR.step ?_
  have hx : (s.extract k j).data.toList = plainW (s.data.toList.drop k) := by
    rw [hs.1, ByteArray.data_extract, Array.toList_extract]
  have hr : s.data.toList.drop j = plainR (s.data.toList.drop k) := by
    rw [hs.2, List.drop_drop]; congr 1; omega
  rw [hx, hr]
  conv => lhs; rw [drop_at s k hk, wordsL_plain _ _ hb h34]
  rw [← drop_at s k hk]
/-- Behind the opening quote at k: acc has been read up to j. -/
def QuoteIn (s : ByteArray) (k j : Nat) (acc : List UInt8) : Prop := quoteL (s.data.toList.drop k) = (quoteL (s.data.toList.drop j)).map fun p => (acc ++ p.1, p.2)
theorem QuoteIn.start (s : ByteArray) (k : Nat) : QuoteIn s k k [] := by
  unfold QuoteIn
  cases quoteL (s.data.toList.drop k) <;> rfl
theorem QuoteIn.step {s : ByteArray} {k i j : Nat} {acc : List UInt8} {d : UInt8} (h : QuoteIn s k i acc) (e : quoteL (s.data.toList.drop i) = (quoteL (s.data.toList.drop j)).map fun p => (d :: p.1, p.2)) : QuoteIn s k j (acc ++ [d]) := by
  unfold QuoteIn at h ⊢
  rw [h, e]
  cases quoteL (s.data.toList.drop j) <;> simp
theorem QuoteIn.no {s : ByteArray} {k i : Nat} {acc : List UInt8} {A : List (List UInt8)} (h : QuoteIn s (k + 1) i acc) (e : quoteL (s.data.toList.drop i) = none) (hR : RefTo s k A) (hk : k < s.size) (h34 : s[k] = 34) : wordsL s.data.toList = none := by
  unfold QuoteIn at h
  rw [e] at h
  refine hR.no ?_
  rw [drop_at s k hk, h34, wordsL_quote, h]; rfl
theorem QuoteIn.close {s : ByteArray} {k i : Nat} {acc : List UInt8} (h : QuoteIn s (k + 1) i acc) (hi : i < s.size) (e : s[i] = 34) : quoteL (s.data.toList.drop (k + 1)) = some (acc, s.data.toList.drop (i + 1)) := by
  unfold QuoteIn at h
  rw [h, drop_at s i hi, e, quoteL_close]
  simp
theorem QuoteIn.bad {s : ByteArray} {k i : Nat} {acc : List UInt8} {A : List (List UInt8)} (h : QuoteIn s (k + 1) i acc) (hi : i < s.size) (e : s[i] = 34) (hb : endOk (s.data.toList.drop (i + 1)) = false) (hR : RefTo s k A) (hk : k < s.size) (h34 : s[k] = 34) : wordsL s.data.toList = none := by
  refine hR.no ?_
  rw [drop_at s k hk, h34, wordsL_quote, h.close hi e]
  simp only
  rw [if_neg (by rw [hb]; simp)]
theorem QuoteIn.good {s : ByteArray} {k i : Nat} {acc : List UInt8} {A : List (List UInt8)} (h : QuoteIn s (k + 1) i acc) (hi : i < s.size) (e : s[i] = 34) (hb : endOk (s.data.toList.drop (i + 1)) = true) (hR : RefTo s k A) (hk : k < s.size) (h34 : s[k] = 34) : RefTo s (i + 1) (A ++ [34 :: acc]) := by
  refine hR.step ?_
  rw [drop_at s k hk, h34, wordsL_quote, h.close hi e]
  simp only
  rw [if_pos hb]
theorem endOk_end (s : ByteArray) (i : Nat) (h : i + 1 = s.size) : endOk (s.data.toList.drop (i + 1)) = true := by rw [h, drop_end]; rfl
theorem endOk_at (s : ByteArray) (i : Nat) (h : i < s.size) : endOk (s.data.toList.drop i) = blk s[i] := by rw [drop_at s i h]; rfl
theorem Owns.pos {w : World} {base : Nat} {v : Value} {c : UInt8} {L : List UInt8} (h : Owns w base v (c :: L)) : 0 < w.heap.size := by
  rcases h.2 with ⟨h1, h2⟩ | ⟨g, cap, cur, h1, h2, h3, _⟩
  · simp at h2
  · have := (Array.getElem?_eq_some_iff.1 h3).1
    omega
theorem blk_cases (c : UInt8) : (blk c = true ∧ c = 32) ∨ (blk c = true ∧ c = 9) ∨ (blk c = false ∧ ¬ c = 32 ∧ ¬ c = 9) := by
  by_cases h1 : c = 32
  · subst h1; exact .inl ⟨rfl, rfl⟩
  · by_cases h2 : c = 9
    · subst h2; exact .inr (.inl ⟨rfl, rfl⟩)
    · exact .inr (.inr ⟨by simp [blk, h1, h2], h1, h2⟩)
theorem u8_bne (c d : UInt8) (h : ¬ c = d) : ((c.toNat : Int) != (d.toNat : Int)) = true := by
  rw [bne, u8_ne c d h]; rfl

set_option maxRecDepth 1000000
set_option maxHeartbeats 8000000 in
theorem refWords_any (s : ByteArray) (w : World) (hs : s.size ≤ 1000000) : Calls Tryd.prog 10 #[.string s] w (WordsRet s w) := by
  go_enter Tryd.func10, Tryd.ntmps10
  go_wp2
  go_loopg [4, 5] s.size (fun g b i wr => ∃ (k : Nat) (ad : Option Addr) (m cp : Nat) (A : List (List UInt8)), k ≤ s.size ∧ s.size ≤ k + g ∧ i = .int .i64 k ∧ b = .slice ad m cp ∧ Hid (A.length ≤ k) ∧ Hid (OwnsS wr w.heap.size (.slice ad m cp) (A.map toB)) ∧ Hid (w.grownBy wr none) ∧ Hid (RefTo s k A))
  case atStart => exact ⟨0, none, 0, 0, [], Nat.zero_le _, by omega, rfl, rfl, by (show [].length ≤ 0; simp), OwnsS.nil _ _, World.grownBy.refl _ _, RefTo.start s⟩
  case round =>
    obtain ⟨k, ad, m, cp, A, hk, hkg, rfl, rfl, hA, hO, hG, hR⟩ := hrel
    by_cases hlt : k < s.size
    · obtain ⟨g, rfl⟩ : ∃ g, gk = g + 1 := ⟨gk - 1, by omega⟩
      obtain ⟨c, hc⟩ : ∃ c, s[k] = c := ⟨_, rfl⟩
      rcases blk_cases c with ⟨hb, rfl⟩ | ⟨hb, rfl⟩ | ⟨hb, h32, h9⟩
      · have HR : Hid (RefTo s (k + 1) A) := hR.out.skip hlt (by rw [hc]; exact hb)
        clear hb
        go_wp2
        go_roundg g
        case measure => omega
        case rel => exact ⟨k + 1, ad, m, cp, A, by omega, by omega, by go_num, rfl, by (show A.length ≤ k + 1; have := hA.out; omega), hO.out, hG.out, HR.out⟩
      · have HR : Hid (RefTo s (k + 1) A) := hR.out.skip hlt (by rw [hc]; exact hb)
        clear hb
        go_wp2
        go_roundg g
        case measure => omega
        case rel => exact ⟨k + 1, ad, m, cp, A, by omega, by omega, by go_num, rfl, by (show A.length ≤ k + 1; have := hA.out; omega), hO.out, hG.out, HR.out⟩
      · have n32 : ((c.toNat : Int) == 32) = false := u8_ne c 32 h32
        have n9 : ((c.toNat : Int) == 9) = false := u8_ne c 9 h9
        have m32 : ((c.toNat : Int) != 32) = true := u8_bne c 32 h32
        have m9 : ((c.toNat : Int) != 9) = true := u8_bne c 9 h9
        have HB := Lib.hid hb
        clear hb h32 h9
        obtain ⟨wo, rfl⟩ : ∃ wo : World, wo = wr := ⟨_, rfl⟩
        by_cases h34 : c = 34
        · subst h34
          go_wp2_with fail
          go_loopw [5, 7, 8] (fun i v7 c8 wq => ∃ (j : Nat) (acc : List UInt8) (a7 : Option Addr) (n7 c7 : Nat), k + 1 ≤ j ∧ j ≤ s.size ∧ i = .int .i64 j ∧ v7 = .slice a7 n7 c7 ∧ Hid (Owns wq wo.heap.size (.slice a7 n7 c7) (34 :: acc)) ∧ Hid (wo.grownBy wq none) ∧ Hid (acc.length ≤ j) ∧ Hid (QuoteIn s (k + 1) j acc)) (fun i _ _ _ => s.size - (intOf i).toNat)
          case atStart => exact ⟨k + 1, [], _, _, _, Nat.le_refl _, by omega, by go_num, rfl, owns_one wo _ 34 (Nat.le_refl _), World.grownBy_alloc _ _ _, by (show [].length ≤ _; simp), QuoteIn.start s _⟩
          case round =>
            obtain ⟨j, acc, a7, n7, c7, hkj, hj, rfl, rfl, hW, hGq, hL, hQ⟩ := hrel
            by_cases hjl : j < s.size
            · obtain ⟨y, hy⟩ : ∃ y, s[j] = y := ⟨_, rfl⟩
              by_cases h34 : y = 34
              · subst h34
                by_cases hl2 : j + 1 < s.size
                · obtain ⟨z, hz⟩ : ∃ z, s[j + 1] = z := ⟨_, rfl⟩
                  rcases blk_cases z with ⟨hb, rfl⟩ | ⟨hb, rfl⟩ | ⟨hb, h32, h9⟩
                  · have HOK : Hid (endOk (s.data.toList.drop (j + 1)) = true) := by show _ = _; rw [endOk_at s (j + 1) hl2, hz]; exact hb
                    clear hb
                    have HST : Hid (RefTo s (j + 1) (A ++ [34 :: acc])) := hQ.out.good hjl hy HOK.out hR.out hlt hc
                    have hcv := conv_part (hW.out.part hW.out.pos) (by simp)
                    have HWB := Lib.hid (show OwnsS wr w.heap.size (.slice ad m cp) (A.map toB) from hO.out.stays hGq.out)
                    have HGW := Lib.hid (World.grownBy.trans hG.out hGq.out)
                    go_wp2_with (at_builtin; go_must (with_reducible refine app_str (o := ⟨some 112, _, _, _, _, _⟩) rfl _ _ rfl w.heap.size (wr.heap.size + 1) (.slice ad m cp) _ (A.map toB) [⟨(34 :: acc).toArray⟩] ?_ (HWB.out.alloc _) ?_ (part_str wr _ 9) ?_ ?_ ?_); go_must (exact rfl); go_must (exact rfl); go_must ((have := hA.out; simp; omega)); go_must ((have := HGW.out.size; rw [alloc_size]; omega)); (intro v2 w5 ho5 hg5); have HO5 := Lib.hid ho5; have HG5 := Lib.hid (HWB.out.alloc (.cells #[.string ⟨(34 :: acc).toArray⟩] 9) |>.grown (World.grownBy.trans HGW.out (World.grownBy_alloc _ _ _)) hg5); clear ho5 hg5)
                    go_roundg g
                    case measure => omega
                    case rel =>
                      obtain ⟨ad2, cp2, e1, e2, e3⟩ := HO5.out.form
                      refine ⟨j + 1, ad2, _, cp2, A ++ [34 :: acc], by omega, by omega, by go_num, e1, ?_, ?_, HG5.out, HST.out⟩
                      · show _ ≤ _
                        have := hA.out
                        simp
                        omega
                      · show OwnsS _ _ _ _
                        rw [List.map_append, List.map_cons, List.map_nil, ← e1]
                        exact HO5.out
                  · have HOK : Hid (endOk (s.data.toList.drop (j + 1)) = true) := by show _ = _; rw [endOk_at s (j + 1) hl2, hz]; exact hb
                    clear hb
                    have HST : Hid (RefTo s (j + 1) (A ++ [34 :: acc])) := hQ.out.good hjl hy HOK.out hR.out hlt hc
                    have hcv := conv_part (hW.out.part hW.out.pos) (by simp)
                    have HWB := Lib.hid (show OwnsS wr w.heap.size (.slice ad m cp) (A.map toB) from hO.out.stays hGq.out)
                    have HGW := Lib.hid (World.grownBy.trans hG.out hGq.out)
                    go_wp2_with (at_builtin; go_must (with_reducible refine app_str (o := ⟨some 112, _, _, _, _, _⟩) rfl _ _ rfl w.heap.size (wr.heap.size + 1) (.slice ad m cp) _ (A.map toB) [⟨(34 :: acc).toArray⟩] ?_ (HWB.out.alloc _) ?_ (part_str wr _ 9) ?_ ?_ ?_); go_must (exact rfl); go_must (exact rfl); go_must ((have := hA.out; simp; omega)); go_must ((have := HGW.out.size; rw [alloc_size]; omega)); (intro v2 w5 ho5 hg5); have HO5 := Lib.hid ho5; have HG5 := Lib.hid (HWB.out.alloc (.cells #[.string ⟨(34 :: acc).toArray⟩] 9) |>.grown (World.grownBy.trans HGW.out (World.grownBy_alloc _ _ _)) hg5); clear ho5 hg5)
                    go_roundg g
                    case measure => omega
                    case rel =>
                      obtain ⟨ad2, cp2, e1, e2, e3⟩ := HO5.out.form
                      refine ⟨j + 1, ad2, _, cp2, A ++ [34 :: acc], by omega, by omega, by go_num, e1, ?_, ?_, HG5.out, HST.out⟩
                      · show _ ≤ _
                        have := hA.out
                        simp
                        omega
                      · show OwnsS _ _ _ _
                        rw [List.map_append, List.map_cons, List.map_nil, ← e1]
                        exact HO5.out
                  · have n32 : ((z.toNat : Int) == 32) = false := u8_ne z 32 h32
                    have n9 : ((z.toNat : Int) == 9) = false := u8_ne z 9 h9
                    have m32 : ((z.toNat : Int) != 32) = true := u8_bne z 32 h32
                    have m9 : ((z.toNat : Int) != 9) = true := u8_bne z 9 h9
                    have HNO : Hid (wordsL s.data.toList = none) := hQ.out.bad hjl hy (by rw [endOk_at s (j + 1) hl2, hz]; exact hb) hR.out hlt hc
                    clear hb h32 h9
                    go_wp2
                    go_ret2
                    exact ⟨World.grownBy.trans hG.out hGq.out, .inr ⟨HNO.out, rfl⟩⟩
                · have HOK : Hid (endOk (s.data.toList.drop (j + 1)) = true) := endOk_end s j (by omega)
                  have hj1 : j + 1 = s.size := by omega
                  have d1 : decide ((j : Int) + 1 < (s.size : Int)) = false := by simp; omega
                  have HST : Hid (RefTo s (j + 1) (A ++ [34 :: acc])) := hQ.out.good hjl hy HOK.out hR.out hlt hc
                  have hcv := conv_part (hW.out.part hW.out.pos) (by simp)
                  have HWB := Lib.hid (show OwnsS wr w.heap.size (.slice ad m cp) (A.map toB) from hO.out.stays hGq.out)
                  have HGW := Lib.hid (World.grownBy.trans hG.out hGq.out)
                  go_wp2_with (at_builtin; go_must (with_reducible refine app_str (o := ⟨some 112, _, _, _, _, _⟩) rfl _ _ rfl w.heap.size (wr.heap.size + 1) (.slice ad m cp) _ (A.map toB) [⟨(34 :: acc).toArray⟩] ?_ (HWB.out.alloc _) ?_ (part_str wr _ 9) ?_ ?_ ?_); go_must (exact rfl); go_must (exact rfl); go_must ((have := hA.out; simp; omega)); go_must ((have := HGW.out.size; rw [alloc_size]; omega)); (intro v2 w5 ho5 hg5); have HO5 := Lib.hid ho5; have HG5 := Lib.hid (HWB.out.alloc (.cells #[.string ⟨(34 :: acc).toArray⟩] 9) |>.grown (World.grownBy.trans HGW.out (World.grownBy_alloc _ _ _)) hg5); clear ho5 hg5)
                  go_roundg g
                  case measure => omega
                  case rel =>
                    obtain ⟨ad2, cp2, e1, e2, e3⟩ := HO5.out.form
                    refine ⟨j + 1, ad2, _, cp2, A ++ [34 :: acc], by omega, by omega, by go_num, e1, ?_, ?_, HG5.out, HST.out⟩
                    · show _ ≤ _
                      have := hA.out
                      simp
                      omega
                    · show OwnsS _ _ _ _
                      rw [List.map_append, List.map_cons, List.map_nil, ← e1]
                      exact HO5.out
              · have n34 : ((y.toNat : Int) == 34) = false := u8_ne y 34 h34
                by_cases h92 : y = 92
                · subst h92
                  by_cases hl2 : j + 1 < s.size
                  · have d2 : decide ((s.size : Int) ≤ (j : Int) + 1) = false := by simp; omega
                    obtain ⟨e, he⟩ : ∃ e, s[j + 1] = e := ⟨_, rfl⟩
                    by_cases e34 : e = 34
                    · subst e34
                      have HQ : Hid (QuoteIn s (k + 1) (j + 2) (acc ++ [34])) := hQ.out.step (by rw [drop_at s j hjl, drop_at s (j + 1) hl2, hy, he]; exact quoteL_esc 34 34 _ rfl)
                      have KK : Hid ((34 : Int) = ((34 : UInt8).toNat : Int)) := by show _ = _; decide
                      go_wp2_with (at_builtin; go_must (with_reducible refine app_part (o := ⟨some 91, _, _, _, _, _⟩) rfl _ _ rfl wo.heap.size (wr.heap.size + 1) (.slice a7 n7 c7) _ (34 :: acc) [34] ?_ (hW.out.alloc _) ?_ (part_one wr _ _ 5 KK.out) ?_ ?_ ?_); go_must (exact rfl); go_must (exact rfl); go_must ((have := hL.out; simp; omega)); go_must ((have := hGq.out.size; rw [alloc_size]; omega)); (intro v2 w5 ho5 hg5); have HO5 := Lib.hid ho5; have HG5 := Lib.hid (hW.out.alloc (.cells #[.int .u8 _] 5) |>.grown (World.grownBy.trans hGq.out (World.grownBy_alloc _ _ _)) hg5); clear ho5 hg5)
                      go_roundw
                      case rel =>
                        obtain ⟨ad2, cp2, e1, e2, e3⟩ := HO5.out.form
                        exact ⟨j + 2, acc ++ [34], ad2, _, cp2, by omega, by omega, by go_num, e1, by (show Owns _ _ _ _; rw [← e1]; exact HO5.out), HG5.out, by (show (acc ++ [34]).length ≤ j + 2; have := hL.out; simp; omega), HQ.out⟩
                      case measure => simp [intOf]; omega
                    · have n34 : ((e.toNat : Int) == 34) = false := u8_ne e 34 e34
                      by_cases e92 : e = 92
                      · subst e92
                        have HQ : Hid (QuoteIn s (k + 1) (j + 2) (acc ++ [92])) := hQ.out.step (by rw [drop_at s j hjl, drop_at s (j + 1) hl2, hy, he]; exact quoteL_esc 92 92 _ rfl)
                        have KK : Hid ((92 : Int) = ((92 : UInt8).toNat : Int)) := by show _ = _; decide
                        go_wp2_with (at_builtin; go_must (with_reducible refine app_part (o := ⟨some 91, _, _, _, _, _⟩) rfl _ _ rfl wo.heap.size (wr.heap.size + 1) (.slice a7 n7 c7) _ (34 :: acc) [92] ?_ (hW.out.alloc _) ?_ (part_one wr _ _ 5 KK.out) ?_ ?_ ?_); go_must (exact rfl); go_must (exact rfl); go_must ((have := hL.out; simp; omega)); go_must ((have := hGq.out.size; rw [alloc_size]; omega)); (intro v2 w5 ho5 hg5); have HO5 := Lib.hid ho5; have HG5 := Lib.hid (hW.out.alloc (.cells #[.int .u8 _] 5) |>.grown (World.grownBy.trans hGq.out (World.grownBy_alloc _ _ _)) hg5); clear ho5 hg5)
                        go_roundw
                        case rel =>
                          obtain ⟨ad2, cp2, e1, e2, e3⟩ := HO5.out.form
                          exact ⟨j + 2, acc ++ [92], ad2, _, cp2, by omega, by omega, by go_num, e1, by (show Owns _ _ _ _; rw [← e1]; exact HO5.out), HG5.out, by (show (acc ++ [92]).length ≤ j + 2; have := hL.out; simp; omega), HQ.out⟩
                        case measure => simp [intOf]; omega
                      · have n92 : ((e.toNat : Int) == 92) = false := u8_ne e 92 e92
                        by_cases e110 : e = 110
                        · subst e110
                          have HQ : Hid (QuoteIn s (k + 1) (j + 2) (acc ++ [10])) := hQ.out.step (by rw [drop_at s j hjl, drop_at s (j + 1) hl2, hy, he]; exact quoteL_esc 110 10 _ rfl)
                          have KK : Hid ((10 : Int) = ((10 : UInt8).toNat : Int)) := by show _ = _; decide
                          go_wp2_with (at_builtin; go_must (with_reducible refine app_part (o := ⟨some 91, _, _, _, _, _⟩) rfl _ _ rfl wo.heap.size (wr.heap.size + 1) (.slice a7 n7 c7) _ (34 :: acc) [10] ?_ (hW.out.alloc _) ?_ (part_one wr _ _ 5 KK.out) ?_ ?_ ?_); go_must (exact rfl); go_must (exact rfl); go_must ((have := hL.out; simp; omega)); go_must ((have := hGq.out.size; rw [alloc_size]; omega)); (intro v2 w5 ho5 hg5); have HO5 := Lib.hid ho5; have HG5 := Lib.hid (hW.out.alloc (.cells #[.int .u8 _] 5) |>.grown (World.grownBy.trans hGq.out (World.grownBy_alloc _ _ _)) hg5); clear ho5 hg5)
                          go_roundw
                          case rel =>
                            obtain ⟨ad2, cp2, e1, e2, e3⟩ := HO5.out.form
                            exact ⟨j + 2, acc ++ [10], ad2, _, cp2, by omega, by omega, by go_num, e1, by (show Owns _ _ _ _; rw [← e1]; exact HO5.out), HG5.out, by (show (acc ++ [10]).length ≤ j + 2; have := hL.out; simp; omega), HQ.out⟩
                          case measure => simp [intOf]; omega
                        · have n110 : ((e.toNat : Int) == 110) = false := u8_ne e 110 e110
                          have HNO : Hid (wordsL s.data.toList = none) := hQ.out.no (by rw [drop_at s j hjl, drop_at s (j + 1) hl2, hy, he]; exact quoteL_bad e _ (by unfold escB; rw [if_neg (by simp [e34, e92]), if_neg e110])) hR.out hlt hc
                          clear e34 e92 e110
                          go_wp2
                          go_ret2
                          exact ⟨World.grownBy.trans hG.out hGq.out, .inr ⟨HNO.out, rfl⟩⟩
                  · have d2 : (s.size : Int) ≤ (j : Int) + 1 := by omega
                    have HNO : Hid (wordsL s.data.toList = none) := hQ.out.no (by rw [drop_at s j hjl, hy, show j + 1 = s.size by omega, drop_end]; exact quoteL_cut) hR.out hlt hc
                    go_wp2
                    go_ret2
                    exact ⟨World.grownBy.trans hG.out hGq.out, .inr ⟨HNO.out, rfl⟩⟩
                · have n92 : ((y.toNat : Int) == 92) = false := u8_ne y 92 h92
                  have HQ : Hid (QuoteIn s (k + 1) (j + 1) (acc ++ [y])) := hQ.out.step (by rw [drop_at s j hjl, hy]; exact quoteL_byte y _ h34 h92)
                  clear h34 h92
                  go_wp2_with (at_builtin; go_must (with_reducible refine app_part (o := ⟨some 91, _, _, _, _, _⟩) rfl _ _ rfl wo.heap.size (wr.heap.size + 1) (.slice a7 n7 c7) _ (34 :: acc) [y] ?_ (hW.out.alloc _) ?_ (part_one wr _ _ 5 rfl) ?_ ?_ ?_); go_must (exact rfl); go_must (exact rfl); go_must ((have := hL.out; simp; omega)); go_must ((have := hGq.out.size; rw [alloc_size]; omega)); (intro v2 w5 ho5 hg5); have HO5 := Lib.hid ho5; have HG5 := Lib.hid (hW.out.alloc (.cells #[.int .u8 _] 5) |>.grown (World.grownBy.trans hGq.out (World.grownBy_alloc _ _ _)) hg5); clear ho5 hg5)
                  go_roundw
                  case rel =>
                    obtain ⟨ad2, cp2, e1, e2, e3⟩ := HO5.out.form
                    exact ⟨j + 1, acc ++ [y], ad2, _, cp2, by omega, by omega, by go_num, e1, by (show Owns _ _ _ _; rw [← e1]; exact HO5.out), HG5.out, by (show (acc ++ [y]).length ≤ j + 1; have := hL.out; simp; omega), HQ.out⟩
                  case measure => simp [intOf]; omega
            · have hjs : j = s.size := by omega
              subst hjs
              have HNO : Hid (wordsL s.data.toList = none) := hQ.out.no (by rw [drop_end]; rfl) hR.out hlt hc
              clear hjl hj
              go_wp2
              go_ret2
              exact ⟨World.grownBy.trans hG.out hGq.out, .inr ⟨HNO.out, rfl⟩⟩
        · have n34 : ((c.toNat : Int) == 34) = false := u8_ne c 34 h34
          have m34 : ((c.toNat : Int) != 34) = true := u8_bne c 34 h34
          have HK : Hid (¬ s[k] = 34) := by show ¬ _; rw [hc]; exact h34
          clear h34
          go_wp2_with fail
          go_loopw [5] (fun i wq => ∃ j : Nat, k ≤ j ∧ j ≤ s.size ∧ i = .int .i64 j ∧ Hid (PlainTo s k j) ∧ wo = wq) (fun i _ => s.size - (intOf i).toNat)
          case atStart => exact ⟨k, Nat.le_refl _, hk, rfl, fun q hq h1 h2 => by omega, rfl⟩
          case round =>
            obtain ⟨j, hkj, hj, rfl, hP, rfl⟩ := hrel
            by_cases hjl : j < s.size
            · obtain ⟨y, hy⟩ : ∃ y, s[j] = y := ⟨_, rfl⟩
              rcases blk_cases y with ⟨hb, rfl⟩ | ⟨hb, rfl⟩ | ⟨hb, h32, h9⟩
              · have hkj2 : k < j := by
                  rcases Nat.lt_or_ge k j with h | h
                  · exact h
                  · obtain rfl : k = j := by omega
                    have := HB.out
                    rw [← hc, hy, hb] at this
                    exact absurd this (by simp)
                have HST : Hid (RefTo s j (A ++ [(s.extract k j).data.toList])) := hP.out.word hR.out hlt HK.out (by omega) (by omega) (fun _ => by rw [hy]; exact hb)
                have hkJ : k ≤ j := by omega
                go_wp2_with (at_builtin; go_must (with_reducible refine app_str (o := ⟨some 54, _, _, _, _, _⟩) rfl _ _ rfl w.heap.size (wo.heap.size + 1) (.slice ad m cp) _ (A.map toB) [s.extract k j] ?_ (hO.out.alloc _) ?_ (part_str wo _ 9) ?_ ?_ ?_); go_must (exact rfl); go_must (exact rfl); go_must ((have := hA.out; simp; omega)); go_must ((have := hG.out.size; rw [alloc_size]; omega)); (intro v2 w5 ho5 hg5); have HO5 := Lib.hid ho5; have HG5 := Lib.hid (hO.out.alloc (.cells #[.string (s.extract k j)] 9) |>.grown (World.grownBy.trans hG.out (World.grownBy_alloc _ _ _)) hg5); clear ho5 hg5)
                go_roundg g
                case measure => omega
                case rel =>
                  obtain ⟨ad2, cp2, e1, e2, e3⟩ := HO5.out.form
                  refine ⟨j, ad2, _, cp2, A ++ [(s.extract k j).data.toList], by omega, by omega, rfl, e1, ?_, ?_, HG5.out, HST.out⟩
                  · show _ ≤ _
                    have := hA.out
                    simp
                    omega
                  · show OwnsS _ _ _ _
                    rw [List.map_append, List.map_cons, List.map_nil, toB_data, ← e1]
                    exact HO5.out
              · have hkj2 : k < j := by
                  rcases Nat.lt_or_ge k j with h | h
                  · exact h
                  · obtain rfl : k = j := by omega
                    have := HB.out
                    rw [← hc, hy, hb] at this
                    exact absurd this (by simp)
                have HST : Hid (RefTo s j (A ++ [(s.extract k j).data.toList])) := hP.out.word hR.out hlt HK.out (by omega) (by omega) (fun _ => by rw [hy]; exact hb)
                have hkJ : k ≤ j := by omega
                go_wp2_with (at_builtin; go_must (with_reducible refine app_str (o := ⟨some 54, _, _, _, _, _⟩) rfl _ _ rfl w.heap.size (wo.heap.size + 1) (.slice ad m cp) _ (A.map toB) [s.extract k j] ?_ (hO.out.alloc _) ?_ (part_str wo _ 9) ?_ ?_ ?_); go_must (exact rfl); go_must (exact rfl); go_must ((have := hA.out; simp; omega)); go_must ((have := hG.out.size; rw [alloc_size]; omega)); (intro v2 w5 ho5 hg5); have HO5 := Lib.hid ho5; have HG5 := Lib.hid (hO.out.alloc (.cells #[.string (s.extract k j)] 9) |>.grown (World.grownBy.trans hG.out (World.grownBy_alloc _ _ _)) hg5); clear ho5 hg5)
                go_roundg g
                case measure => omega
                case rel =>
                  obtain ⟨ad2, cp2, e1, e2, e3⟩ := HO5.out.form
                  refine ⟨j, ad2, _, cp2, A ++ [(s.extract k j).data.toList], by omega, by omega, rfl, e1, ?_, ?_, HG5.out, HST.out⟩
                  · show _ ≤ _
                    have := hA.out
                    simp
                    omega
                  · show OwnsS _ _ _ _
                    rw [List.map_append, List.map_cons, List.map_nil, toB_data, ← e1]
                    exact HO5.out
              · have n32 : ((y.toNat : Int) == 32) = false := u8_ne y 32 h32
                have n9 : ((y.toNat : Int) == 9) = false := u8_ne y 9 h9
                have m32 : ((y.toNat : Int) != 32) = true := u8_bne y 32 h32
                have m9 : ((y.toNat : Int) != 9) = true := u8_bne y 9 h9
                have HP : Hid (PlainTo s k (j + 1)) := by
                  intro q hq h1 h2
                  by_cases hqj : q < j
                  · exact hP.out q hq h1 hqj
                  · obtain rfl : q = j := by omega
                    rw [hy]; exact hb
                clear hb h32 h9
                go_wp2
                go_roundw
                case rel => exact ⟨j + 1, by omega, by omega, by go_num, HP.out, trivial⟩
                case measure => simp [intOf]; omega
            · have hjs : j = s.size := by omega
              subst hjs
              clear hjl hj
              have HST : Hid (RefTo s s.size (A ++ [(s.extract k s.size).data.toList])) := hP.out.word hR.out hlt HK.out (by omega) (by omega) (fun h => absurd h (Nat.lt_irrefl _))
              have hkJ : k ≤ s.size := by omega
              go_wp2_with (at_builtin; go_must (with_reducible refine app_str (o := ⟨some 54, _, _, _, _, _⟩) rfl _ _ rfl w.heap.size (wo.heap.size + 1) (.slice ad m cp) _ (A.map toB) [s.extract k s.size] ?_ (hO.out.alloc _) ?_ (part_str wo _ 9) ?_ ?_ ?_); go_must (exact rfl); go_must (exact rfl); go_must ((have := hA.out; simp; omega)); go_must ((have := hG.out.size; rw [alloc_size]; omega)); (intro v2 w5 ho5 hg5); have HO5 := Lib.hid ho5; have HG5 := Lib.hid (hO.out.alloc (.cells #[.string (s.extract k s.size)] 9) |>.grown (World.grownBy.trans hG.out (World.grownBy_alloc _ _ _)) hg5); clear ho5 hg5)
              go_roundg g
              case measure => omega
              case rel =>
                obtain ⟨ad2, cp2, e1, e2, e3⟩ := HO5.out.form
                refine ⟨s.size, ad2, _, cp2, A ++ [(s.extract k s.size).data.toList], by omega, by omega, rfl, e1, ?_, ?_, HG5.out, HST.out⟩
                · show _ ≤ _
                  have := hA.out
                  simp
                  omega
                · show OwnsS _ _ _ _
                  rw [List.map_append, List.map_cons, List.map_nil, toB_data, ← e1]
                  exact HO5.out
    · have hks : k = s.size := by omega
      subst hks
      clear hlt hk
      go_wp2
      go_ret2
      exact ⟨hG.out, .inl ⟨A, _, hR.out.done, rfl, hO.out⟩⟩
end Go.Proofs.YtmjdkgbblccpgaaDoor
