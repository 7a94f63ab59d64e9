/- The law PathOut returns true. -/
import Derived.Test.YtghfnmnjomdacaaDoorR
namespace Go.Proofs.YtghfnmnjomdacaaDoor
open Go.RowKit

/-- How far the law's loop has come. -/
structure StepsAt (L : List Bool) (t : ByteArray) (dp : Int) (ou : Bool) (k : Nat) : Prop where
  same : pieces t = (L.take k).map stepB ++ [⟨#[]⟩]
  size : t.size ≤ 3 * k
  head : t.size = 0 ∨ byteAt t 0 ≠ 47
  out : ou = outOf 0 (L.take k)
  deep : ou = false → dp = (endOf 0 (L.take k) : Int)
  low : -(k : Int) ≤ dp
  high : dp ≤ (k : Int)
theorem byteAt_app (s t : ByteArray) (h : 0 < s.size) : byteAt (s ++ t) 0 = byteAt s 0 := by
  have h2 : 0 < (s ++ t).size := by rw [ByteArray.size_append]; omega
  rw [byteAt_eq _ _ h2, byteAt_eq _ _ h, ByteArray.getElem_append_left h]
theorem head_app (s t : ByteArray) (h : s.size = 0 ∨ byteAt s 0 ≠ 47) (ht : byteAt t 0 ≠ 47) : (s ++ t).size = 0 ∨ byteAt (s ++ t) 0 ≠ 47 := by
  rcases Nat.eq_zero_or_pos s.size with h0 | h0
  · have e : s = ByteArray.empty := ByteArray.size_eq_zero_iff.1 h0
    rw [e, ByteArray.empty_append]
    exact .inr ht
  · rw [byteAt_app s t h0]
    rcases h with h | h
    · omega
    · exact .inr h
theorem StepsAt.start (L : List Bool) : StepsAt L ⟨#[]⟩ 0 false 0 :=
  ⟨(pieces_none ⟨#[]⟩ (fun j h => absurd h (Nat.not_lt_zero j))).trans rfl, Nat.le_refl _, .inl rfl, rfl, fun _ => rfl, by omega, by omega⟩
theorem take_snocL {α : Type} (L : List α) (k : Nat) (b : α) (h : L[k]? = some b) : L.take (k + 1) = L.take k ++ [b] := by
  rw [List.take_add_one, h]; rfl
theorem StepsAt.down {L : List Bool} {t : ByteArray} {dp : Int} {ou : Bool} {k : Nat} (h : StepsAt L t dp ou k) (hb : L[k]? = some true) : StepsAt L (t ++ ⟨#[97, 47]⟩) (dp + 1) (ou || decide (dp + 1 < 0)) (k + 1) := by
  have e := take_snocL L k true hb
  have ho := outOf_snoc 0 (L.take k) true
  have hou : (ou || decide (dp + 1 < 0)) = ou := by
    cases hh : ou with
    | true => rfl
    | false =>
      have := h.deep hh
      rw [Bool.false_or]
      exact decide_eq_false (by omega)
  have hsz : (t ++ ⟨#[97, 47]⟩).size = t.size + 2 := by rw [ByteArray.size_append]; rfl
  refine ⟨by rw [e]; exact pieces_down t _ h.same, by rw [hsz]; have := h.size; omega, head_app _ _ h.head (by decide), ?_, ?_, by have := h.low; omega, by have := h.high; omega⟩
  · rw [hou, e, ho, ← h.out]; simp
  · intro hh
    rw [hou] at hh
    rw [e, endOf_snoc 0 _ _ (by rw [← h.out]; exact hh), h.deep hh]; simp
theorem StepsAt.up {L : List Bool} {t : ByteArray} {dp : Int} {ou : Bool} {k : Nat} (h : StepsAt L t dp ou k) (hb : L[k]? = some false) : StepsAt L (t ++ ⟨#[46, 46, 47]⟩) (dp - 1) (ou || decide (dp - 1 < 0)) (k + 1) := by
  have e := take_snocL L k false hb
  have ho := outOf_snoc 0 (L.take k) false
  have hsz : (t ++ ⟨#[46, 46, 47]⟩).size = t.size + 3 := by rw [ByteArray.size_append]; rfl
  refine ⟨by rw [e]; exact pieces_up t _ h.same, by rw [hsz]; have := h.size; omega, head_app _ _ h.head (by decide), ?_, ?_, by have := h.low; omega, by have := h.high; omega⟩
  · rw [e, ho, ← h.out]
    cases hh : ou with
    | true => rfl
    | false =>
      have := h.deep hh
      simp only [Bool.false_or, Bool.not_false, Bool.and_true]
      exact decide_eq_decide.2 (by omega)
  · intro hh
    have h1 : ou = false := by cases ou <;> simp_all
    have h2 := h.deep h1
    rw [h1, Bool.false_or, decide_eq_false_iff_not] at hh
    rw [e, endOf_snoc 0 _ _ (by rw [← h.out]; exact h1), h2]; simp; omega

/-- v is the bools L, which lie anywhere. -/
def PartB (w : World) (a : Option Addr) (L : List Bool) : Prop := ∃ b o, (0 < L.length → a = some ⟨b, o, none⟩) ∧ ∀ j x, L[j]? = some x → w.cell? ⟨b, o + j, none⟩ = some (.bool x)

set_option maxRecDepth 1000000
set_option maxHeartbeats 4000000 in
theorem out_law (m : Int) (n cap : Nat) (a : Option Addr) (L : List Bool) (hn : L.length = n) (w : World) (hP : PartB w a L) (hm : w.cell? ⟨0, 0, none⟩ = some (.int .i64 m)) :
    Calls Tryd.prog 8 #[.slice a n cap] w fun e w' => e = .returned (.bool true) ∧ w.grownBy w' none := by
  have HM := Lib.hid hm
  have HN := Lib.hid hn
  have HP := Lib.hid hP
  clear hm hn hP
  by_cases hl : 30 < n
  · have h2 : 30 < (n : Int) := by omega
    clear hl
    go_enter Tryd.func8, Tryd.ntmps8
    go_wp2_with fail
    (with_reducible refine (known_any m _ HM.out).mono ?_)
    rintro ee w1 ⟨rfl, g1⟩
    dsimp only
    go_wp2
    go_ret
    exact ⟨rfl, g1⟩
  · have h2 : decide (30 < (n : Int)) = false := by simp; omega
    have h30 : n ≤ 30 := by omega
    clear hl
    go_enter Tryd.func8, Tryd.ntmps8
    go_wp2_with fail
    (with_reducible refine (known_any m _ HM.out).mono ?_)
    rintro ee w1 ⟨rfl, g1⟩
    dsimp only
    have G1 := Lib.hid g1
    clear g1
    go_wp2
    go_loopw [3, 4, 5, 6] (fun s d u i wr => ∃ (k : Nat) (t : ByteArray) (dp : Int) (ou : Bool), k ≤ n ∧ i = .int .i64 k ∧ s = .string t ∧ d = .int .i64 dp ∧ u = .bool ou ∧ StepsAt L t dp ou k ∧ w.grownBy wr none) (fun _ _ _ i _ => n - (intOf i).toNat)
    case atStart => exact ⟨0, ⟨#[]⟩, 0, false, by omega, rfl, rfl, rfl, rfl, StepsAt.start L, G1.out⟩
    case round =>
      obtain ⟨k, t, dp, ou, hk, rfl, rfl, rfl, rfl, hat, hg⟩ := hrel
      have q1 := hat.low
      have q2 := hat.high
      have q3 := hat.size
      have HAT := Lib.hid hat
      have HG := Lib.hid hg
      clear hat hg
      by_cases hlt : k < n
      · obtain ⟨b, hb⟩ : ∃ b, L[k]? = some b := ⟨_, List.getElem?_eq_getElem (by rw [HN.out]; exact hlt)⟩
        obtain ⟨bk, o, hab, hcell⟩ : ∃ bk o, a = some ⟨bk, o, none⟩ ∧ wr.cell? ⟨bk, o + k, none⟩ = some (.bool b) := by
          obtain ⟨bk, o, h1, h3⟩ := HP.out
          exact ⟨bk, o, h1 (by rw [HN.out]; omega), HG.out.cell (h3 k b hb) (by simp)⟩
        subst hab
        have c1 : t.size + 2 ≤ 9223372036854775807 := by omega
        have c2 : t.size + 3 ≤ 9223372036854775807 := by omega
        cases b with
        | true =>
          have HX := Lib.hid (HAT.out.down hb)
          clear hb
          cases ou with
          | true =>
            go_wp2
            go_roundw
            case rel => exact ⟨k + 1, _, dp + 1, true, by omega, by go_num, rfl, by go_num, rfl, by simpa using HX.out, HG.out⟩
            case measure => simp [intOf]; omega
          | false =>
            go_wp2
            go_roundw
            case rel => exact ⟨k + 1, _, dp + 1, decide (dp + 1 < 0), by omega, by go_num, rfl, by go_num, by first | rfl | go_num, by simpa using HX.out, HG.out⟩
            case measure => simp [intOf]; omega
        | false =>
          have HX := Lib.hid (HAT.out.up hb)
          clear hb
          cases ou with
          | true =>
            go_wp2
            go_roundw
            case rel => exact ⟨k + 1, _, dp - 1, true, by omega, by go_num, rfl, by go_num, rfl, by simpa using HX.out, HG.out⟩
            case measure => simp [intOf]; omega
          | false =>
            go_wp2
            go_roundw
            case rel => exact ⟨k + 1, _, dp - 1, decide (dp - 1 < 0), by omega, by go_num, rfl, by go_num, by first | rfl | go_num, by simpa using HX.out, HG.out⟩
            case measure => simp [intOf]; omega
      · have hkn : k = n := by omega
        subst hkn
        have hcl := clean_steps t (L.take k) HAT.out.same (by omega) HAT.out.head
        have hE := endOf_le 0 (L.take k)
        obtain ⟨E, hEE⟩ : ∃ E, endOf 0 (L.take k) = E := ⟨_, rfl⟩
        rw [hEE] at hcl
        cases ou with
        | true =>
          rw [← HAT.out.out, if_pos rfl] at hcl
          have HC := Lib.hid hcl
          clear hcl
          go_wp2_with fail
          (with_reducible refine (clean_at m t _ _ _ (HG.out.cell HM.out (by simp)) HC.out).mono ?_)
          rintro ee w2 ⟨rfl, g2⟩
          dsimp only
          go_wp2
          go_ret
          exact ⟨rfl, World.grownBy.trans HG.out g2⟩
        | false =>
          have hd := HAT.out.deep rfl
          rw [hEE] at hd
          subst hd
          rw [← HAT.out.out, if_neg (by simp)] at hcl
          by_cases h12 : 12 < E
          · rw [if_pos h12] at hcl
            have HC := Lib.hid hcl
            have h13 : 12 < (E : Int) := by omega
            clear hcl
            go_wp2_with fail
            (with_reducible refine (clean_at m t _ _ _ (HG.out.cell HM.out (by simp)) HC.out).mono ?_)
            rintro ee w2 ⟨rfl, g2⟩
            dsimp only
            go_wp2
            go_ret
            exact ⟨by simp, World.grownBy.trans HG.out g2⟩
          · rw [if_neg h12] at hcl
            obtain ⟨J, hJ⟩ : ∃ J, joinB (List.replicate E aB) = J := ⟨_, rfl⟩
            rw [hJ] at hcl
            have HC := Lib.hid hcl
            have h13 : decide (12 < (E : Int)) = false := by simp; omega
            have hge : E ≤ 12 := by omega
            have HPE := Lib.hid (steps_parts E hge)
            have hJs : J.size ≤ 100000 := by
              rw [← hJ]
              refine Nat.le_trans (joinB_le _) (Nat.le_trans (sumS_le _ 1 ?_) ?_)
              · intro p hp
                rw [List.eq_of_mem_replicate hp]; decide
              · rw [List.length_replicate]; omega
            rw [hJ] at HPE
            clear hcl
            go_wp2_with fail
            (with_reducible refine (clean_at m t _ _ _ (HG.out.cell HM.out (by simp)) HC.out).mono ?_)
            rintro ee w2 ⟨rfl, g2⟩
            dsimp only
            have G2 := Lib.hid (World.grownBy.trans HG.out g2)
            clear g2
            go_wp2_with fail
            (with_reducible refine (parts_at m J _ E _ hJs (G2.out.cell HM.out (by simp)) rfl HPE.out).mono ?_)
            rintro ee w3 ⟨a3, rfl, hf, g3⟩
            dsimp only
            have G3 := Lib.hid (World.grownBy.trans G2.out g3)
            clear g3 hf
            go_wp2
            go_ret
            exact ⟨by simp, G3.out⟩
end Go.Proofs.YtghfnmnjomdacaaDoor
