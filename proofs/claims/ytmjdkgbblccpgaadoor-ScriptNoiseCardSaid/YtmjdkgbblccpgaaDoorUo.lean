/- script.Text. -/
import Derived.Test.YtmjdkgbblccpgaaDoorUn
import Derived.Test.YtmjdkgbblccpgaaDoorQt
namespace Go.Proofs.YtmjdkgbblccpgaaDoor
open Go.RowKit

def tabsL (c : Nat) : List UInt8 := Lib.repeatL [9] c
theorem tabsL_len (c : Nat) : (tabsL c).length = c := by unfold tabsL; rw [Lib.repeatL_length]; simp
def tabsO (k : Int) (o : Nat) : Nat := if k = 9 ∨ k = 10 then o - 1 else o
def nextO (k : Int) (o : Nat) : Nat := if k = 7 ∨ k = 8 then o + 1 else if k = 10 then o - 1 else o
def oneT (l : Ln) (o : Nat) : List UInt8 := tabsL (tabsO l.kind o) ++ (lineT l).data.toList ++ [10]
/-- Lines, as a script. -/
def textS : List Ln → Nat → List UInt8
  | [], _ => []
  | l :: r, o => oneT l o ++ textS r (nextO l.kind o)
structure LnOk (l : Ln) : Prop where
  k0 : 0 ≤ l.kind
  k1 : l.kind < 12
  a : l.a.size ≤ 1000000
  b : l.b.size ≤ 1000000
  t : l.text.size ≤ 1000000
  n0 : -9223372036854775808 ≤ l.n
  n1 : l.n ≤ 9223372036854775807
theorem lineT_size (l : Ln) (h : LnOk l) : (lineT l).size ≤ 4000000 := by
  have h1 := joinB_le 32 (lineW l)
  refine Nat.le_trans h1 ?_
  obtain ⟨k, hk⟩ := Int.eq_ofNat_of_zero_le h.k0
  have hkey := keyK_size k
  have hq := quotedB_size l.text
  have hi : (itoaB l.n).size ≤ 21 := by unfold itoaB; rw [← data_len, data_toB]; exact Lib.itoa_length_le _ h.n0 h.n1
  have ha := h.a; have hb := h.b; have ht := h.t
  have e1 : wNot.size = 3 := rfl
  have e2 : wExists.size = 6 := rfl
  rw [← hk] at hkey
  unfold lineW
  repeat' split
  all_goals (simp [sumS, e1, e2]; omega)
theorem rep_tabs (c : Nat) (hc : c ≤ 1000000) (w : World) : Calls Tryd.prog 29 #[.string ⟨#[9]⟩, .int .i64 (c : Int)] w fun e w' => e = .returned (.string (toB (tabsL c))) ∧ w.grownBy w' none := by
  cases c with
  | zero => exact (Tryd.strings_Repeat_zero ⟨#[9]⟩ w).mono fun e w' ⟨q1, q2⟩ => ⟨q1, by rw [q2]; exact World.grownBy.refl _ _⟩
  | succ c => exact (Tryd.strings_Repeat ⟨#[9]⟩ (c + 1) w (by omega) (by show 1 * _ ≤ _; omega)).mono fun e w' ⟨q1, q2⟩ => ⟨q1, grown_of_below q2⟩
theorem isB_kept {B b : Nat} {l : List Value} {w w' : World} (h : Lib.IsBuilder 58 5 B b l w) (hg : w.grownBy w' none) : Lib.IsBuilder 58 5 B b l w' := by
  have H : ∀ p, Lib.BuilderAt 58 5 B b p l w → Lib.BuilderAt 58 5 B b p l w' := by
    intro p h
    obtain ⟨hB, v, hb, hown, hne⟩ := h
    exact ⟨hB, v, block_kept hb hg, World.ownsRow.kept hown hg (by cases v.ownBlock with
      | none => exact .inl rfl
      | some k => exact .inr (by simp)), hne⟩
  exact h.elim (fun x => .inl (H _ x)) (fun x => .inr (H _ x))
theorem isB_alloc {B b : Nat} {l : List Value} {w : World} (h : Lib.IsBuilder 58 5 B b l w) (o : Obj) : Lib.IsBuilder 58 5 B b l (w.alloc o) := isB_kept h (World.grownBy_alloc w o none)
theorem isB_grown {B b : Nat} {l : List Value} {w w' : World} (h : Hid (Lib.IsBuilder 58 5 B b l w)) (hg : w.grownBy w' none) : Hid (Lib.IsBuilder 58 5 B b l w') := isB_kept h.out hg
theorem below_grown {w0 w w' : World} (hg : w.grownBy w' none) (h : Below w0.heap.size w0 w) : Below w0.heap.size w w' :=
  ⟨hg.os, hg.tape, hg.output, hg.size, fun k hk => hg.block k (by have := h.size; omega) (by simp)⟩
def TextRet (L : List Ln) (w : World) (e : Ending) (w' : World) : Prop := e = .returned (.string (toB (textS L 0))) ∧ w.grownBy w' none

set_option maxRecDepth 1000000
set_option maxHeartbeats 4000000 in
theorem textAll_any (m : Int) (base n cp : Nat) (a : Option Addr) (L : List Ln) (w : World) (hm : Wok m w) (ho : OwnsL w base (.slice a n cp) L) (hn : L.length = n) (hn8 : n ≤ 1000) (hL : ∀ l ∈ L, LnOk l) :
    Calls Tryd.prog 16 #[.slice a n cp] w (TextRet L w) := by
  have HM := Lib.hid hm
  have HO := Lib.hid ho
  have HN := Lib.hid hn
  have HL := Lib.hid hL
  have hcp : n ≤ cp := by
    obtain ⟨a', c', e, h1, _⟩ := ho.form
    have := Value.slice.inj e
    omega
  clear hm ho hn hL
  go_enter Tryd.func16, Tryd.ntmps16
  go_wp2_with fail
  go_loopw [4, 10] (fun o i wr => ∃ (k q : Nat) (acc : List UInt8), k ≤ n ∧ q ≤ k ∧ i = .int .i64 k ∧ o = .int .i64 q ∧ Hid (Lib.IsBuilder 58 5 w.heap.size w.heap.size (Lib.byteCells acc) wr) ∧ Hid (Below w.heap.size w wr) ∧ Hid (textS L 0 = acc ++ textS (L.drop k) q) ∧ Hid (acc.length ≤ k * 5000000)) (fun _ i _ => n - (intOf i).toNat)
  case atStart => exact ⟨0, 0, [], by omega, by omega, rfl, rfl, Lib.fresh_isBuilder _ _ w, (Below.refl _ w).alloc (Nat.le_refl _) _, rfl, Nat.le_refl _⟩
  case round =>
    obtain ⟨k, q, acc, hk, hqk, rfl, rfl, hI, hB, hT, hA⟩ := hrel
    have hS : Hid (w.heap.size ≤ wr.heap.size) := hB.out.size
    by_cases hlt : k < n
    · obtain ⟨l, hl⟩ : ∃ l, L[k]? = some l := ⟨_, List.getElem?_eq_getElem (by have := HN.out; omega)⟩
      have HK := Lib.hid (HL.out l (List.mem_of_getElem? hl))
      have HOW := Lib.hid (HO.out.stays (grown_of_below hB.out))
      have HD : Hid (L.drop k = l :: L.drop (k + 1)) := Lib.hid (by
        rw [List.drop_eq_getElem_cons (by have := HN.out; omega)]
        rw [List.getElem?_eq_getElem (by have := HN.out; omega)] at hl
        rw [Option.some.inj hl])
      obtain ⟨g, cap, e, _, _, hcell⟩ := HOW.out.cell k l hl
      have e1 := (Value.slice.inj e).1
      subst e1
      obtain ⟨lk, la, lb, lt, ln, lno⟩ := l
      have c0 := hcell 0 (.int .i64 lk) rfl
      have c1 := hcell 1 (.string la) rfl
      have c2 := hcell 2 (.string lb) rfl
      have c3 := hcell 3 (.string lt) rfl
      have c4 := hcell 4 (.int .i64 ln) rfl
      have c5 := hcell 5 (.bool lno) rfl
      rw [Nat.add_zero, Nat.mul_comm] at c0
      rw [Nat.mul_comm] at c1 c2 c3 c4 c5
      clear hcell e hl
      have hk0 : 0 ≤ lk := HK.out.k0
      have hk1 : lk < 12 := HK.out.k1
      by_cases h7 : lk = 7
      · subst h7
        have HT2 : Hid (textS L 0 = acc ++ (tabsL (q) ++ (lineT ⟨7, la, lb, lt, ln, lno⟩).data.toList ++ [10]) ++ textS (L.drop (k + 1)) (q + 1)) := Lib.hid (by
          rw [hT.out, HD.out, List.append_assoc]
          rfl)
        have hls := lineT_size _ HK.out
        obtain ⟨tx, htx⟩ : ∃ tx, lineT ⟨7, la, lb, lt, ln, lno⟩ = tx := ⟨_, rfl⟩
        rw [htx] at HT2 hls
        obtain ⟨tb, htb⟩ : ∃ tb, Hid (toB (tabsL (q)) = tb) := ⟨_, rfl⟩
        have htl : tb.size = q := by rw [← htb.out, ← data_len, data_toB, tabsL_len]
        have HX : Hid (tb ++ tx ++ ⟨#[10]⟩ = toB (tabsL (q) ++ tx.data.toList ++ [10])) := Lib.hid (bytes_ext (by rw [← htb.out]; simp [toB, ByteArray.data_append]))
        have hxl : (tabsL (q) ++ tx.data.toList ++ [10]).length = q + tx.size + 1 := by simp [tabsL_len] <;> omega
        have HXL := Lib.hid hxl
        have HA2 : Hid ((acc ++ (tabsL (q) ++ tx.data.toList ++ [10])).length ≤ (k + 1) * 5000000) := Lib.hid (by rw [List.length_append]; have := hA.out; omega)
        have z1 : tb.size + tx.size ≤ 9223372036854775807 := by omega
        have z2 : tb.size + tx.size + 1 ≤ 9223372036854775807 := by omega
        have hb6 := alloc_block wr (.cells #[.int .i64 7, .string la, .string lb, .string lt, .int .i64 ln, .bool lno] 41)
        have HI6 := Lib.hid (isB_alloc hI.out (.cells #[.int .i64 7, .string la, .string lb, .string lt, .int .i64 ln, .bool lno] 41))
        have HB6 := Lib.hid (hB.out.alloc hS.out (.cells #[.int .i64 7, .string la, .string lb, .string lt, .int .i64 ln, .bool lno] 41))
        go_wp2_with fail
        obtain ⟨b6, hb66⟩ : ∃ b6, wr.heap.size = b6 := ⟨_, rfl⟩
        obtain ⟨W0, hW0⟩ : ∃ W0, wr.alloc (.cells #[.int .i64 7, .string la, .string lb, .string lt, .int .i64 ln, .bool lno] 41) = W0 := ⟨_, rfl⟩
        rw [hb66] at hb6 ⊢
        rw [hW0] at hb6 HI6 HB6 ⊢
        clear hb66 hW0
        have HH6 := Lib.hid hb6
        clear hb6
        have hrep : ∀ W, W0.grownBy W none → Calls Tryd.prog 29 #[.string ⟨#[9]⟩, .int .i64 (q : Int)] W fun e w' => e = .returned (.string tb) ∧ W0.grownBy w' none := fun W hW => (rep_tabs q (by omega) W).mono fun e w' ⟨q1, q2⟩ => ⟨by rw [q1, htb.out], World.grownBy.trans hW q2⟩
        have hlt : ∀ W, W0.grownBy W none → Calls Tryd.prog 30 #[.agg #[.int .i64 7, .string la, .string lb, .string lt, .int .i64 ln, .bool lno]] W fun e w' => e = .returned (.string tx) ∧ W0.grownBy w' none := fun W hW => (lineText_any m ⟨7, la, lb, lt, ln, lno⟩ W ((HM.out.stays (grown_of_below HB6.out)).stays hW) HK.out.k0 HK.out.k1 HK.out.a HK.out.b HK.out.t HK.out.n0 HK.out.n1).mono fun e w' ⟨q1, q2⟩ => ⟨by rw [q1, htx], World.grownBy.trans hW q2⟩
        have hC0 : W0.grownBy (W0.drewN 1) none := ⟨rfl, rfl, rfl, Nat.le_refl _, fun _ _ _ => rfl⟩
        refine region_quiet_tail 6 (C := fun w' => W0.grownBy w' none) (by kernel_rfl) (by kernel_rfl) hC0 ?_
        simp only [List.take_succ_cons, List.take_zero, List.drop_succ_cons, List.drop_zero]
        refine wpQuiet_step (fun K hK => ?_)
        go_simp
        refine ⟨_, fun W hW => rfl, hK _ ?_⟩
        clear hK K
        refine wpQuiet_step (fun K hK => ?_)
        go_simp
        refine ⟨.string tb, fun W hW => hrep W hW, hK _ ?_⟩
        clear hK K
        refine wpQuiet_step (fun K hK => ?_)
        rw [if_pos (by rfl)]
        refine ⟨.agg #[.int .i64 7, .string la, .string lb, .string lt, .int .i64 ln, .bool lno], fun W' hW' => ?_, hK _ ?_⟩
        · have h := ln_load (block_kept HH6.out hW') rfl
          unfold Oper.quietAt
          simp [execOp, Act.eval, h, Result.andThen, Oper.quietUpon]
        clear hK K
        go_simp
        refine wpQuiet_step (fun K hK => ?_)
        go_simp
        refine ⟨.string tx, fun W hW => hlt W hW, hK _ ?_⟩
        clear hK K
        refine wpQuiet_step (fun K hK => ?_)
        go_simp
        refine ⟨.string (tb ++ tx), fun W hW => ?_, hK _ ?_⟩
        · rw [if_neg (by omega)]; exact ⟨rfl, rfl⟩
        clear hK K
        refine wpQuiet_step (fun K hK => ?_)
        go_simp
        refine ⟨.string (tb ++ tx ++ ⟨#[10]⟩), fun W hW => ?_, hK _ ?_⟩
        · rw [if_neg (by omega)]; exact ⟨rfl, rfl⟩
        clear hK K
        refine wpQuiet_nil ?_
        intro W7 hW7
        have HI7 := isB_grown HI6 hW7
        have HB7 := Lib.hid (HB6.out.trans (below_grown hW7 HB6.out))
        have HS7 : Hid (w.heap.size ≤ W7.heap.size) := Lib.hid HB7.out.size
        clear hC0 hrep hlt hW7 z1 z2 HI6
        go_wp2_with fail
        (with_reducible refine (wr_string w.heap.size w.heap.size acc _ _ HX.out _ HI7 (by have := hA.out; have := HXL.out; omega) HS7).mono ?_)
        rintro ee w8 ⟨rfl, HI8, hb8⟩
        have HB8 := Lib.hid (HB7.out.trans hb8.out)
        clear hb8 HI7
        dsimp only
        go_wp2
        go_roundw
        case rel => exact ⟨k + 1, q + 1, _, by omega, by omega, by go_num, by go_num, HI8, HB8, HT2, HA2⟩
        case measure => simp [intOf]; omega
      by_cases h8 : lk = 8
      · subst h8
        have HT2 : Hid (textS L 0 = acc ++ (tabsL (q) ++ (lineT ⟨8, la, lb, lt, ln, lno⟩).data.toList ++ [10]) ++ textS (L.drop (k + 1)) (q + 1)) := Lib.hid (by
          rw [hT.out, HD.out, List.append_assoc]
          rfl)
        have hls := lineT_size _ HK.out
        obtain ⟨tx, htx⟩ : ∃ tx, lineT ⟨8, la, lb, lt, ln, lno⟩ = tx := ⟨_, rfl⟩
        rw [htx] at HT2 hls
        obtain ⟨tb, htb⟩ : ∃ tb, Hid (toB (tabsL (q)) = tb) := ⟨_, rfl⟩
        have htl : tb.size = q := by rw [← htb.out, ← data_len, data_toB, tabsL_len]
        have HX : Hid (tb ++ tx ++ ⟨#[10]⟩ = toB (tabsL (q) ++ tx.data.toList ++ [10])) := Lib.hid (bytes_ext (by rw [← htb.out]; simp [toB, ByteArray.data_append]))
        have hxl : (tabsL (q) ++ tx.data.toList ++ [10]).length = q + tx.size + 1 := by simp [tabsL_len] <;> omega
        have HXL := Lib.hid hxl
        have HA2 : Hid ((acc ++ (tabsL (q) ++ tx.data.toList ++ [10])).length ≤ (k + 1) * 5000000) := Lib.hid (by rw [List.length_append]; have := hA.out; omega)
        have z1 : tb.size + tx.size ≤ 9223372036854775807 := by omega
        have z2 : tb.size + tx.size + 1 ≤ 9223372036854775807 := by omega
        have hb6 := alloc_block wr (.cells #[.int .i64 8, .string la, .string lb, .string lt, .int .i64 ln, .bool lno] 41)
        have HI6 := Lib.hid (isB_alloc hI.out (.cells #[.int .i64 8, .string la, .string lb, .string lt, .int .i64 ln, .bool lno] 41))
        have HB6 := Lib.hid (hB.out.alloc hS.out (.cells #[.int .i64 8, .string la, .string lb, .string lt, .int .i64 ln, .bool lno] 41))
        go_wp2_with fail
        obtain ⟨b6, hb66⟩ : ∃ b6, wr.heap.size = b6 := ⟨_, rfl⟩
        obtain ⟨W0, hW0⟩ : ∃ W0, wr.alloc (.cells #[.int .i64 8, .string la, .string lb, .string lt, .int .i64 ln, .bool lno] 41) = W0 := ⟨_, rfl⟩
        rw [hb66] at hb6 ⊢
        rw [hW0] at hb6 HI6 HB6 ⊢
        clear hb66 hW0
        have HH6 := Lib.hid hb6
        clear hb6
        have hrep : ∀ W, W0.grownBy W none → Calls Tryd.prog 29 #[.string ⟨#[9]⟩, .int .i64 (q : Int)] W fun e w' => e = .returned (.string tb) ∧ W0.grownBy w' none := fun W hW => (rep_tabs q (by omega) W).mono fun e w' ⟨q1, q2⟩ => ⟨by rw [q1, htb.out], World.grownBy.trans hW q2⟩
        have hlt : ∀ W, W0.grownBy W none → Calls Tryd.prog 30 #[.agg #[.int .i64 8, .string la, .string lb, .string lt, .int .i64 ln, .bool lno]] W fun e w' => e = .returned (.string tx) ∧ W0.grownBy w' none := fun W hW => (lineText_any m ⟨8, la, lb, lt, ln, lno⟩ W ((HM.out.stays (grown_of_below HB6.out)).stays hW) HK.out.k0 HK.out.k1 HK.out.a HK.out.b HK.out.t HK.out.n0 HK.out.n1).mono fun e w' ⟨q1, q2⟩ => ⟨by rw [q1, htx], World.grownBy.trans hW q2⟩
        have hC0 : W0.grownBy (W0.drewN 1) none := ⟨rfl, rfl, rfl, Nat.le_refl _, fun _ _ _ => rfl⟩
        refine region_quiet_tail 6 (C := fun w' => W0.grownBy w' none) (by kernel_rfl) (by kernel_rfl) hC0 ?_
        simp only [List.take_succ_cons, List.take_zero, List.drop_succ_cons, List.drop_zero]
        refine wpQuiet_step (fun K hK => ?_)
        go_simp
        refine ⟨_, fun W hW => rfl, hK _ ?_⟩
        clear hK K
        refine wpQuiet_step (fun K hK => ?_)
        go_simp
        refine ⟨.string tb, fun W hW => hrep W hW, hK _ ?_⟩
        clear hK K
        refine wpQuiet_step (fun K hK => ?_)
        rw [if_pos (by rfl)]
        refine ⟨.agg #[.int .i64 8, .string la, .string lb, .string lt, .int .i64 ln, .bool lno], fun W' hW' => ?_, hK _ ?_⟩
        · have h := ln_load (block_kept HH6.out hW') rfl
          unfold Oper.quietAt
          simp [execOp, Act.eval, h, Result.andThen, Oper.quietUpon]
        clear hK K
        go_simp
        refine wpQuiet_step (fun K hK => ?_)
        go_simp
        refine ⟨.string tx, fun W hW => hlt W hW, hK _ ?_⟩
        clear hK K
        refine wpQuiet_step (fun K hK => ?_)
        go_simp
        refine ⟨.string (tb ++ tx), fun W hW => ?_, hK _ ?_⟩
        · rw [if_neg (by omega)]; exact ⟨rfl, rfl⟩
        clear hK K
        refine wpQuiet_step (fun K hK => ?_)
        go_simp
        refine ⟨.string (tb ++ tx ++ ⟨#[10]⟩), fun W hW => ?_, hK _ ?_⟩
        · rw [if_neg (by omega)]; exact ⟨rfl, rfl⟩
        clear hK K
        refine wpQuiet_nil ?_
        intro W7 hW7
        have HI7 := isB_grown HI6 hW7
        have HB7 := Lib.hid (HB6.out.trans (below_grown hW7 HB6.out))
        have HS7 : Hid (w.heap.size ≤ W7.heap.size) := Lib.hid HB7.out.size
        clear hC0 hrep hlt hW7 z1 z2 HI6
        go_wp2_with fail
        (with_reducible refine (wr_string w.heap.size w.heap.size acc _ _ HX.out _ HI7 (by have := hA.out; have := HXL.out; omega) HS7).mono ?_)
        rintro ee w8 ⟨rfl, HI8, hb8⟩
        have HB8 := Lib.hid (HB7.out.trans hb8.out)
        clear hb8 HI7
        dsimp only
        go_wp2
        go_roundw
        case rel => exact ⟨k + 1, q + 1, _, by omega, by omega, by go_num, by go_num, HI8, HB8, HT2, HA2⟩
        case measure => simp [intOf]; omega
      by_cases h9 : lk = 9
      · subst h9
        cases q with
        | zero =>
          have HT2 : Hid (textS L 0 = acc ++ (tabsL (0) ++ (lineT ⟨9, la, lb, lt, ln, lno⟩).data.toList ++ [10]) ++ textS (L.drop (k + 1)) (0)) := Lib.hid (by
            rw [hT.out, HD.out, List.append_assoc]
            rfl)
          have hls := lineT_size _ HK.out
          obtain ⟨tx, htx⟩ : ∃ tx, lineT ⟨9, la, lb, lt, ln, lno⟩ = tx := ⟨_, rfl⟩
          rw [htx] at HT2 hls
          obtain ⟨tb, htb⟩ : ∃ tb, Hid (toB (tabsL (0)) = tb) := ⟨_, rfl⟩
          have htl : tb.size = 0 := by rw [← htb.out, ← data_len, data_toB, tabsL_len]
          have HX : Hid (tb ++ tx ++ ⟨#[10]⟩ = toB (tabsL (0) ++ tx.data.toList ++ [10])) := Lib.hid (bytes_ext (by rw [← htb.out]; simp [toB, ByteArray.data_append]))
          have hxl : (tabsL (0) ++ tx.data.toList ++ [10]).length = 0 + tx.size + 1 := by simp [tabsL_len] <;> omega
          have HXL := Lib.hid hxl
          have HA2 : Hid ((acc ++ (tabsL (0) ++ tx.data.toList ++ [10])).length ≤ (k + 1) * 5000000) := Lib.hid (by rw [List.length_append]; have := hA.out; omega)
          have z1 : tb.size + tx.size ≤ 9223372036854775807 := by omega
          have z2 : tb.size + tx.size + 1 ≤ 9223372036854775807 := by omega
          have hb6 := alloc_block wr (.cells #[.int .i64 9, .string la, .string lb, .string lt, .int .i64 ln, .bool lno] 41)
          have HI6 := Lib.hid (isB_alloc hI.out (.cells #[.int .i64 9, .string la, .string lb, .string lt, .int .i64 ln, .bool lno] 41))
          have HB6 := Lib.hid (hB.out.alloc hS.out (.cells #[.int .i64 9, .string la, .string lb, .string lt, .int .i64 ln, .bool lno] 41))
          go_wp2_with fail
          obtain ⟨b6, hb66⟩ : ∃ b6, wr.heap.size = b6 := ⟨_, rfl⟩
          obtain ⟨W0, hW0⟩ : ∃ W0, wr.alloc (.cells #[.int .i64 9, .string la, .string lb, .string lt, .int .i64 ln, .bool lno] 41) = W0 := ⟨_, rfl⟩
          rw [hb66] at hb6 ⊢
          rw [hW0] at hb6 HI6 HB6 ⊢
          clear hb66 hW0
          have HH6 := Lib.hid hb6
          clear hb6
          have hrep : ∀ W, W0.grownBy W none → Calls Tryd.prog 29 #[.string ⟨#[9]⟩, .int .i64 0] W fun e w' => e = .returned (.string tb) ∧ W0.grownBy w' none := fun W hW => (rep_tabs 0 (by omega) W).mono fun e w' ⟨q1, q2⟩ => ⟨by rw [q1, htb.out], World.grownBy.trans hW q2⟩
          have hlt : ∀ W, W0.grownBy W none → Calls Tryd.prog 30 #[.agg #[.int .i64 9, .string la, .string lb, .string lt, .int .i64 ln, .bool lno]] W fun e w' => e = .returned (.string tx) ∧ W0.grownBy w' none := fun W hW => (lineText_any m ⟨9, la, lb, lt, ln, lno⟩ W ((HM.out.stays (grown_of_below HB6.out)).stays hW) HK.out.k0 HK.out.k1 HK.out.a HK.out.b HK.out.t HK.out.n0 HK.out.n1).mono fun e w' ⟨q1, q2⟩ => ⟨by rw [q1, htx], World.grownBy.trans hW q2⟩
          have hC0 : W0.grownBy (W0.drewN 1) none := ⟨rfl, rfl, rfl, Nat.le_refl _, fun _ _ _ => rfl⟩
          refine region_quiet_tail 6 (C := fun w' => W0.grownBy w' none) (by kernel_rfl) (by kernel_rfl) hC0 ?_
          simp only [List.take_succ_cons, List.take_zero, List.drop_succ_cons, List.drop_zero]
          refine wpQuiet_step (fun K hK => ?_)
          go_simp
          refine ⟨_, fun W hW => rfl, hK _ ?_⟩
          clear hK K
          refine wpQuiet_step (fun K hK => ?_)
          go_simp
          refine ⟨.string tb, fun W hW => hrep W hW, hK _ ?_⟩
          clear hK K
          refine wpQuiet_step (fun K hK => ?_)
          rw [if_pos (by rfl)]
          refine ⟨.agg #[.int .i64 9, .string la, .string lb, .string lt, .int .i64 ln, .bool lno], fun W' hW' => ?_, hK _ ?_⟩
          · have h := ln_load (block_kept HH6.out hW') rfl
            unfold Oper.quietAt
            simp [execOp, Act.eval, h, Result.andThen, Oper.quietUpon]
          clear hK K
          go_simp
          refine wpQuiet_step (fun K hK => ?_)
          go_simp
          refine ⟨.string tx, fun W hW => hlt W hW, hK _ ?_⟩
          clear hK K
          refine wpQuiet_step (fun K hK => ?_)
          go_simp
          refine ⟨.string (tb ++ tx), fun W hW => ?_, hK _ ?_⟩
          · rw [if_neg (by omega)]; exact ⟨rfl, rfl⟩
          clear hK K
          refine wpQuiet_step (fun K hK => ?_)
          go_simp
          refine ⟨.string (tb ++ tx ++ ⟨#[10]⟩), fun W hW => ?_, hK _ ?_⟩
          · rw [if_neg (by omega)]; exact ⟨rfl, rfl⟩
          clear hK K
          refine wpQuiet_nil ?_
          intro W7 hW7
          have HI7 := isB_grown HI6 hW7
          have HB7 := Lib.hid (HB6.out.trans (below_grown hW7 HB6.out))
          have HS7 : Hid (w.heap.size ≤ W7.heap.size) := Lib.hid HB7.out.size
          clear hC0 hrep hlt hW7 z1 z2 HI6
          go_wp2_with fail
          (with_reducible refine (wr_string w.heap.size w.heap.size acc _ _ HX.out _ HI7 (by have := hA.out; have := HXL.out; omega) HS7).mono ?_)
          rintro ee w8 ⟨rfl, HI8, hb8⟩
          have HB8 := Lib.hid (HB7.out.trans hb8.out)
          clear hb8 HI7
          dsimp only
          go_wp2
          go_roundw
          case rel => exact ⟨k + 1, 0, _, by omega, by omega, by go_num, by go_num, HI8, HB8, HT2, HA2⟩
          case measure => simp [intOf]; omega
        | succ q =>
          have HT2 : Hid (textS L 0 = acc ++ (tabsL (q) ++ (lineT ⟨9, la, lb, lt, ln, lno⟩).data.toList ++ [10]) ++ textS (L.drop (k + 1)) (q + 1)) := Lib.hid (by
            rw [hT.out, HD.out, List.append_assoc]
            rfl)
          have hls := lineT_size _ HK.out
          obtain ⟨tx, htx⟩ : ∃ tx, lineT ⟨9, la, lb, lt, ln, lno⟩ = tx := ⟨_, rfl⟩
          rw [htx] at HT2 hls
          obtain ⟨tb, htb⟩ : ∃ tb, Hid (toB (tabsL (q)) = tb) := ⟨_, rfl⟩
          have htl : tb.size = q := by rw [← htb.out, ← data_len, data_toB, tabsL_len]
          have HX : Hid (tb ++ tx ++ ⟨#[10]⟩ = toB (tabsL (q) ++ tx.data.toList ++ [10])) := Lib.hid (bytes_ext (by rw [← htb.out]; simp [toB, ByteArray.data_append]))
          have hxl : (tabsL (q) ++ tx.data.toList ++ [10]).length = q + tx.size + 1 := by simp [tabsL_len] <;> omega
          have HXL := Lib.hid hxl
          have HA2 : Hid ((acc ++ (tabsL (q) ++ tx.data.toList ++ [10])).length ≤ (k + 1) * 5000000) := Lib.hid (by rw [List.length_append]; have := hA.out; omega)
          have z1 : tb.size + tx.size ≤ 9223372036854775807 := by omega
          have z2 : tb.size + tx.size + 1 ≤ 9223372036854775807 := by omega
          have hb6 := alloc_block wr (.cells #[.int .i64 9, .string la, .string lb, .string lt, .int .i64 ln, .bool lno] 41)
          have HI6 := Lib.hid (isB_alloc hI.out (.cells #[.int .i64 9, .string la, .string lb, .string lt, .int .i64 ln, .bool lno] 41))
          have HB6 := Lib.hid (hB.out.alloc hS.out (.cells #[.int .i64 9, .string la, .string lb, .string lt, .int .i64 ln, .bool lno] 41))
          go_wp2_with fail
          obtain ⟨b6, hb66⟩ : ∃ b6, wr.heap.size = b6 := ⟨_, rfl⟩
          obtain ⟨W0, hW0⟩ : ∃ W0, wr.alloc (.cells #[.int .i64 9, .string la, .string lb, .string lt, .int .i64 ln, .bool lno] 41) = W0 := ⟨_, rfl⟩
          rw [hb66] at hb6 ⊢
          rw [hW0] at hb6 HI6 HB6 ⊢
          clear hb66 hW0
          have HH6 := Lib.hid hb6
          clear hb6
          have hrep : ∀ W, W0.grownBy W none → Calls Tryd.prog 29 #[.string ⟨#[9]⟩, .int .i64 (q : Int)] W fun e w' => e = .returned (.string tb) ∧ W0.grownBy w' none := fun W hW => (rep_tabs q (by omega) W).mono fun e w' ⟨q1, q2⟩ => ⟨by rw [q1, htb.out], World.grownBy.trans hW q2⟩
          have hlt : ∀ W, W0.grownBy W none → Calls Tryd.prog 30 #[.agg #[.int .i64 9, .string la, .string lb, .string lt, .int .i64 ln, .bool lno]] W fun e w' => e = .returned (.string tx) ∧ W0.grownBy w' none := fun W hW => (lineText_any m ⟨9, la, lb, lt, ln, lno⟩ W ((HM.out.stays (grown_of_below HB6.out)).stays hW) HK.out.k0 HK.out.k1 HK.out.a HK.out.b HK.out.t HK.out.n0 HK.out.n1).mono fun e w' ⟨q1, q2⟩ => ⟨by rw [q1, htx], World.grownBy.trans hW q2⟩
          have hC0 : W0.grownBy (W0.drewN 1) none := ⟨rfl, rfl, rfl, Nat.le_refl _, fun _ _ _ => rfl⟩
          refine region_quiet_tail 6 (C := fun w' => W0.grownBy w' none) (by kernel_rfl) (by kernel_rfl) hC0 ?_
          simp only [List.take_succ_cons, List.take_zero, List.drop_succ_cons, List.drop_zero]
          refine wpQuiet_step (fun K hK => ?_)
          go_simp
          refine ⟨_, fun W hW => rfl, hK _ ?_⟩
          clear hK K
          refine wpQuiet_step (fun K hK => ?_)
          go_simp
          refine ⟨.string tb, fun W hW => hrep W hW, hK _ ?_⟩
          clear hK K
          refine wpQuiet_step (fun K hK => ?_)
          rw [if_pos (by rfl)]
          refine ⟨.agg #[.int .i64 9, .string la, .string lb, .string lt, .int .i64 ln, .bool lno], fun W' hW' => ?_, hK _ ?_⟩
          · have h := ln_load (block_kept HH6.out hW') rfl
            unfold Oper.quietAt
            simp [execOp, Act.eval, h, Result.andThen, Oper.quietUpon]
          clear hK K
          go_simp
          refine wpQuiet_step (fun K hK => ?_)
          go_simp
          refine ⟨.string tx, fun W hW => hlt W hW, hK _ ?_⟩
          clear hK K
          refine wpQuiet_step (fun K hK => ?_)
          go_simp
          refine ⟨.string (tb ++ tx), fun W hW => ?_, hK _ ?_⟩
          · rw [if_neg (by omega)]; exact ⟨rfl, rfl⟩
          clear hK K
          refine wpQuiet_step (fun K hK => ?_)
          go_simp
          refine ⟨.string (tb ++ tx ++ ⟨#[10]⟩), fun W hW => ?_, hK _ ?_⟩
          · rw [if_neg (by omega)]; exact ⟨rfl, rfl⟩
          clear hK K
          refine wpQuiet_nil ?_
          intro W7 hW7
          have HI7 := isB_grown HI6 hW7
          have HB7 := Lib.hid (HB6.out.trans (below_grown hW7 HB6.out))
          have HS7 : Hid (w.heap.size ≤ W7.heap.size) := Lib.hid HB7.out.size
          clear hC0 hrep hlt hW7 z1 z2 HI6
          go_wp2_with fail
          (with_reducible refine (wr_string w.heap.size w.heap.size acc _ _ HX.out _ HI7 (by have := hA.out; have := HXL.out; omega) HS7).mono ?_)
          rintro ee w8 ⟨rfl, HI8, hb8⟩
          have HB8 := Lib.hid (HB7.out.trans hb8.out)
          clear hb8 HI7
          dsimp only
          go_wp2
          go_roundw
          case rel => exact ⟨k + 1, q + 1, _, by omega, by omega, by go_num, by go_num, HI8, HB8, HT2, HA2⟩
          case measure => simp [intOf]; omega
      by_cases h10 : lk = 10
      · subst h10
        cases q with
        | zero =>
          have HT2 : Hid (textS L 0 = acc ++ (tabsL (0) ++ (lineT ⟨10, la, lb, lt, ln, lno⟩).data.toList ++ [10]) ++ textS (L.drop (k + 1)) (0)) := Lib.hid (by
            rw [hT.out, HD.out, List.append_assoc]
            rfl)
          have hls := lineT_size _ HK.out
          obtain ⟨tx, htx⟩ : ∃ tx, lineT ⟨10, la, lb, lt, ln, lno⟩ = tx := ⟨_, rfl⟩
          rw [htx] at HT2 hls
          obtain ⟨tb, htb⟩ : ∃ tb, Hid (toB (tabsL (0)) = tb) := ⟨_, rfl⟩
          have htl : tb.size = 0 := by rw [← htb.out, ← data_len, data_toB, tabsL_len]
          have HX : Hid (tb ++ tx ++ ⟨#[10]⟩ = toB (tabsL (0) ++ tx.data.toList ++ [10])) := Lib.hid (bytes_ext (by rw [← htb.out]; simp [toB, ByteArray.data_append]))
          have hxl : (tabsL (0) ++ tx.data.toList ++ [10]).length = 0 + tx.size + 1 := by simp [tabsL_len] <;> omega
          have HXL := Lib.hid hxl
          have HA2 : Hid ((acc ++ (tabsL (0) ++ tx.data.toList ++ [10])).length ≤ (k + 1) * 5000000) := Lib.hid (by rw [List.length_append]; have := hA.out; omega)
          have z1 : tb.size + tx.size ≤ 9223372036854775807 := by omega
          have z2 : tb.size + tx.size + 1 ≤ 9223372036854775807 := by omega
          have hb6 := alloc_block wr (.cells #[.int .i64 10, .string la, .string lb, .string lt, .int .i64 ln, .bool lno] 41)
          have HI6 := Lib.hid (isB_alloc hI.out (.cells #[.int .i64 10, .string la, .string lb, .string lt, .int .i64 ln, .bool lno] 41))
          have HB6 := Lib.hid (hB.out.alloc hS.out (.cells #[.int .i64 10, .string la, .string lb, .string lt, .int .i64 ln, .bool lno] 41))
          go_wp2_with fail
          obtain ⟨b6, hb66⟩ : ∃ b6, wr.heap.size = b6 := ⟨_, rfl⟩
          obtain ⟨W0, hW0⟩ : ∃ W0, wr.alloc (.cells #[.int .i64 10, .string la, .string lb, .string lt, .int .i64 ln, .bool lno] 41) = W0 := ⟨_, rfl⟩
          rw [hb66] at hb6 ⊢
          rw [hW0] at hb6 HI6 HB6 ⊢
          clear hb66 hW0
          have HH6 := Lib.hid hb6
          clear hb6
          have hrep : ∀ W, W0.grownBy W none → Calls Tryd.prog 29 #[.string ⟨#[9]⟩, .int .i64 0] W fun e w' => e = .returned (.string tb) ∧ W0.grownBy w' none := fun W hW => (rep_tabs 0 (by omega) W).mono fun e w' ⟨q1, q2⟩ => ⟨by rw [q1, htb.out], World.grownBy.trans hW q2⟩
          have hlt : ∀ W, W0.grownBy W none → Calls Tryd.prog 30 #[.agg #[.int .i64 10, .string la, .string lb, .string lt, .int .i64 ln, .bool lno]] W fun e w' => e = .returned (.string tx) ∧ W0.grownBy w' none := fun W hW => (lineText_any m ⟨10, la, lb, lt, ln, lno⟩ W ((HM.out.stays (grown_of_below HB6.out)).stays hW) HK.out.k0 HK.out.k1 HK.out.a HK.out.b HK.out.t HK.out.n0 HK.out.n1).mono fun e w' ⟨q1, q2⟩ => ⟨by rw [q1, htx], World.grownBy.trans hW q2⟩
          have hC0 : W0.grownBy (W0.drewN 1) none := ⟨rfl, rfl, rfl, Nat.le_refl _, fun _ _ _ => rfl⟩
          refine region_quiet_tail 6 (C := fun w' => W0.grownBy w' none) (by kernel_rfl) (by kernel_rfl) hC0 ?_
          simp only [List.take_succ_cons, List.take_zero, List.drop_succ_cons, List.drop_zero]
          refine wpQuiet_step (fun K hK => ?_)
          go_simp
          refine ⟨_, fun W hW => rfl, hK _ ?_⟩
          clear hK K
          refine wpQuiet_step (fun K hK => ?_)
          go_simp
          refine ⟨.string tb, fun W hW => hrep W hW, hK _ ?_⟩
          clear hK K
          refine wpQuiet_step (fun K hK => ?_)
          rw [if_pos (by rfl)]
          refine ⟨.agg #[.int .i64 10, .string la, .string lb, .string lt, .int .i64 ln, .bool lno], fun W' hW' => ?_, hK _ ?_⟩
          · have h := ln_load (block_kept HH6.out hW') rfl
            unfold Oper.quietAt
            simp [execOp, Act.eval, h, Result.andThen, Oper.quietUpon]
          clear hK K
          go_simp
          refine wpQuiet_step (fun K hK => ?_)
          go_simp
          refine ⟨.string tx, fun W hW => hlt W hW, hK _ ?_⟩
          clear hK K
          refine wpQuiet_step (fun K hK => ?_)
          go_simp
          refine ⟨.string (tb ++ tx), fun W hW => ?_, hK _ ?_⟩
          · rw [if_neg (by omega)]; exact ⟨rfl, rfl⟩
          clear hK K
          refine wpQuiet_step (fun K hK => ?_)
          go_simp
          refine ⟨.string (tb ++ tx ++ ⟨#[10]⟩), fun W hW => ?_, hK _ ?_⟩
          · rw [if_neg (by omega)]; exact ⟨rfl, rfl⟩
          clear hK K
          refine wpQuiet_nil ?_
          intro W7 hW7
          have HI7 := isB_grown HI6 hW7
          have HB7 := Lib.hid (HB6.out.trans (below_grown hW7 HB6.out))
          have HS7 : Hid (w.heap.size ≤ W7.heap.size) := Lib.hid HB7.out.size
          clear hC0 hrep hlt hW7 z1 z2 HI6
          go_wp2_with fail
          (with_reducible refine (wr_string w.heap.size w.heap.size acc _ _ HX.out _ HI7 (by have := hA.out; have := HXL.out; omega) HS7).mono ?_)
          rintro ee w8 ⟨rfl, HI8, hb8⟩
          have HB8 := Lib.hid (HB7.out.trans hb8.out)
          clear hb8 HI7
          dsimp only
          go_wp2
          go_roundw
          case rel => exact ⟨k + 1, 0, _, by omega, by omega, by go_num, by go_num, HI8, HB8, HT2, HA2⟩
          case measure => simp [intOf]; omega
        | succ q =>
          have HT2 : Hid (textS L 0 = acc ++ (tabsL (q) ++ (lineT ⟨10, la, lb, lt, ln, lno⟩).data.toList ++ [10]) ++ textS (L.drop (k + 1)) (q)) := Lib.hid (by
            rw [hT.out, HD.out, List.append_assoc]
            rfl)
          have hls := lineT_size _ HK.out
          obtain ⟨tx, htx⟩ : ∃ tx, lineT ⟨10, la, lb, lt, ln, lno⟩ = tx := ⟨_, rfl⟩
          rw [htx] at HT2 hls
          obtain ⟨tb, htb⟩ : ∃ tb, Hid (toB (tabsL (q)) = tb) := ⟨_, rfl⟩
          have htl : tb.size = q := by rw [← htb.out, ← data_len, data_toB, tabsL_len]
          have HX : Hid (tb ++ tx ++ ⟨#[10]⟩ = toB (tabsL (q) ++ tx.data.toList ++ [10])) := Lib.hid (bytes_ext (by rw [← htb.out]; simp [toB, ByteArray.data_append]))
          have hxl : (tabsL (q) ++ tx.data.toList ++ [10]).length = q + tx.size + 1 := by simp [tabsL_len] <;> omega
          have HXL := Lib.hid hxl
          have HA2 : Hid ((acc ++ (tabsL (q) ++ tx.data.toList ++ [10])).length ≤ (k + 1) * 5000000) := Lib.hid (by rw [List.length_append]; have := hA.out; omega)
          have z1 : tb.size + tx.size ≤ 9223372036854775807 := by omega
          have z2 : tb.size + tx.size + 1 ≤ 9223372036854775807 := by omega
          have hb6 := alloc_block wr (.cells #[.int .i64 10, .string la, .string lb, .string lt, .int .i64 ln, .bool lno] 41)
          have HI6 := Lib.hid (isB_alloc hI.out (.cells #[.int .i64 10, .string la, .string lb, .string lt, .int .i64 ln, .bool lno] 41))
          have HB6 := Lib.hid (hB.out.alloc hS.out (.cells #[.int .i64 10, .string la, .string lb, .string lt, .int .i64 ln, .bool lno] 41))
          go_wp2_with fail
          obtain ⟨b6, hb66⟩ : ∃ b6, wr.heap.size = b6 := ⟨_, rfl⟩
          obtain ⟨W0, hW0⟩ : ∃ W0, wr.alloc (.cells #[.int .i64 10, .string la, .string lb, .string lt, .int .i64 ln, .bool lno] 41) = W0 := ⟨_, rfl⟩
          rw [hb66] at hb6 ⊢
          rw [hW0] at hb6 HI6 HB6 ⊢
          clear hb66 hW0
          have HH6 := Lib.hid hb6
          clear hb6
          have hrep : ∀ W, W0.grownBy W none → Calls Tryd.prog 29 #[.string ⟨#[9]⟩, .int .i64 (q : Int)] W fun e w' => e = .returned (.string tb) ∧ W0.grownBy w' none := fun W hW => (rep_tabs q (by omega) W).mono fun e w' ⟨q1, q2⟩ => ⟨by rw [q1, htb.out], World.grownBy.trans hW q2⟩
          have hlt : ∀ W, W0.grownBy W none → Calls Tryd.prog 30 #[.agg #[.int .i64 10, .string la, .string lb, .string lt, .int .i64 ln, .bool lno]] W fun e w' => e = .returned (.string tx) ∧ W0.grownBy w' none := fun W hW => (lineText_any m ⟨10, la, lb, lt, ln, lno⟩ W ((HM.out.stays (grown_of_below HB6.out)).stays hW) HK.out.k0 HK.out.k1 HK.out.a HK.out.b HK.out.t HK.out.n0 HK.out.n1).mono fun e w' ⟨q1, q2⟩ => ⟨by rw [q1, htx], World.grownBy.trans hW q2⟩
          have hC0 : W0.grownBy (W0.drewN 1) none := ⟨rfl, rfl, rfl, Nat.le_refl _, fun _ _ _ => rfl⟩
          refine region_quiet_tail 6 (C := fun w' => W0.grownBy w' none) (by kernel_rfl) (by kernel_rfl) hC0 ?_
          simp only [List.take_succ_cons, List.take_zero, List.drop_succ_cons, List.drop_zero]
          refine wpQuiet_step (fun K hK => ?_)
          go_simp
          refine ⟨_, fun W hW => rfl, hK _ ?_⟩
          clear hK K
          refine wpQuiet_step (fun K hK => ?_)
          go_simp
          refine ⟨.string tb, fun W hW => hrep W hW, hK _ ?_⟩
          clear hK K
          refine wpQuiet_step (fun K hK => ?_)
          rw [if_pos (by rfl)]
          refine ⟨.agg #[.int .i64 10, .string la, .string lb, .string lt, .int .i64 ln, .bool lno], fun W' hW' => ?_, hK _ ?_⟩
          · have h := ln_load (block_kept HH6.out hW') rfl
            unfold Oper.quietAt
            simp [execOp, Act.eval, h, Result.andThen, Oper.quietUpon]
          clear hK K
          go_simp
          refine wpQuiet_step (fun K hK => ?_)
          go_simp
          refine ⟨.string tx, fun W hW => hlt W hW, hK _ ?_⟩
          clear hK K
          refine wpQuiet_step (fun K hK => ?_)
          go_simp
          refine ⟨.string (tb ++ tx), fun W hW => ?_, hK _ ?_⟩
          · rw [if_neg (by omega)]; exact ⟨rfl, rfl⟩
          clear hK K
          refine wpQuiet_step (fun K hK => ?_)
          go_simp
          refine ⟨.string (tb ++ tx ++ ⟨#[10]⟩), fun W hW => ?_, hK _ ?_⟩
          · rw [if_neg (by omega)]; exact ⟨rfl, rfl⟩
          clear hK K
          refine wpQuiet_nil ?_
          intro W7 hW7
          have HI7 := isB_grown HI6 hW7
          have HB7 := Lib.hid (HB6.out.trans (below_grown hW7 HB6.out))
          have HS7 : Hid (w.heap.size ≤ W7.heap.size) := Lib.hid HB7.out.size
          clear hC0 hrep hlt hW7 z1 z2 HI6
          go_wp2_with fail
          (with_reducible refine (wr_string w.heap.size w.heap.size acc _ _ HX.out _ HI7 (by have := hA.out; have := HXL.out; omega) HS7).mono ?_)
          rintro ee w8 ⟨rfl, HI8, hb8⟩
          have HB8 := Lib.hid (HB7.out.trans hb8.out)
          clear hb8 HI7
          dsimp only
          go_wp2
          go_roundw
          case rel => exact ⟨k + 1, q, _, by omega, by omega, by go_num, by go_num, HI8, HB8, HT2, HA2⟩
          case measure => simp [intOf]; omega
      have n7 : (lk == 7) = false := by simp [h7]
      have n8 : (lk == 8) = false := by simp [h8]
      have n9 : (lk == 9) = false := by simp [h9]
      have n10 : (lk == 10) = false := by simp [h10]
      have ht0 : Hid (tabsO lk q = q) := Lib.hid (by unfold tabsO; rw [if_neg (by omega)])
      have hn0 : Hid (nextO lk q = q) := Lib.hid (by unfold nextO; rw [if_neg (by omega), if_neg h10])
      clear h7 h8 h9 h10
      have HT2 : Hid (textS L 0 = acc ++ (tabsL (q) ++ (lineT ⟨lk, la, lb, lt, ln, lno⟩).data.toList ++ [10]) ++ textS (L.drop (k + 1)) (q)) := Lib.hid (by
        rw [hT.out, HD.out, List.append_assoc]
        show acc ++ (tabsL (tabsO lk q) ++ _ ++ _ ++ textS _ (nextO lk q)) = _
        rw [ht0.out, hn0.out])
      have hls := lineT_size _ HK.out
      obtain ⟨tx, htx⟩ : ∃ tx, lineT ⟨lk, la, lb, lt, ln, lno⟩ = tx := ⟨_, rfl⟩
      rw [htx] at HT2 hls
      obtain ⟨tb, htb⟩ : ∃ tb, Hid (toB (tabsL (q)) = tb) := ⟨_, rfl⟩
      have htl : tb.size = q := by rw [← htb.out, ← data_len, data_toB, tabsL_len]
      have HX : Hid (tb ++ tx ++ ⟨#[10]⟩ = toB (tabsL (q) ++ tx.data.toList ++ [10])) := Lib.hid (bytes_ext (by rw [← htb.out]; simp [toB, ByteArray.data_append]))
      have hxl : (tabsL (q) ++ tx.data.toList ++ [10]).length = q + tx.size + 1 := by simp [tabsL_len] <;> omega
      have HXL := Lib.hid hxl
      have HA2 : Hid ((acc ++ (tabsL (q) ++ tx.data.toList ++ [10])).length ≤ (k + 1) * 5000000) := Lib.hid (by rw [List.length_append]; have := hA.out; omega)
      have z1 : tb.size + tx.size ≤ 9223372036854775807 := by omega
      have z2 : tb.size + tx.size + 1 ≤ 9223372036854775807 := by omega
      have hb6 := alloc_block wr (.cells #[.int .i64 lk, .string la, .string lb, .string lt, .int .i64 ln, .bool lno] 41)
      have HI6 := Lib.hid (isB_alloc hI.out (.cells #[.int .i64 lk, .string la, .string lb, .string lt, .int .i64 ln, .bool lno] 41))
      have HB6 := Lib.hid (hB.out.alloc hS.out (.cells #[.int .i64 lk, .string la, .string lb, .string lt, .int .i64 ln, .bool lno] 41))
      go_wp2_with fail
      obtain ⟨b6, hb66⟩ : ∃ b6, wr.heap.size = b6 := ⟨_, rfl⟩
      obtain ⟨W0, hW0⟩ : ∃ W0, wr.alloc (.cells #[.int .i64 lk, .string la, .string lb, .string lt, .int .i64 ln, .bool lno] 41) = W0 := ⟨_, rfl⟩
      rw [hb66] at hb6 ⊢
      rw [hW0] at hb6 HI6 HB6 ⊢
      clear hb66 hW0
      have HH6 := Lib.hid hb6
      clear hb6
      have hrep : ∀ W, W0.grownBy W none → Calls Tryd.prog 29 #[.string ⟨#[9]⟩, .int .i64 (q : Int)] W fun e w' => e = .returned (.string tb) ∧ W0.grownBy w' none := fun W hW => (rep_tabs q (by omega) W).mono fun e w' ⟨q1, q2⟩ => ⟨by rw [q1, htb.out], World.grownBy.trans hW q2⟩
      have hlt : ∀ W, W0.grownBy W none → Calls Tryd.prog 30 #[.agg #[.int .i64 lk, .string la, .string lb, .string lt, .int .i64 ln, .bool lno]] W fun e w' => e = .returned (.string tx) ∧ W0.grownBy w' none := fun W hW => (lineText_any m ⟨lk, la, lb, lt, ln, lno⟩ W ((HM.out.stays (grown_of_below HB6.out)).stays hW) HK.out.k0 HK.out.k1 HK.out.a HK.out.b HK.out.t HK.out.n0 HK.out.n1).mono fun e w' ⟨q1, q2⟩ => ⟨by rw [q1, htx], World.grownBy.trans hW q2⟩
      have hC0 : W0.grownBy (W0.drewN 1) none := ⟨rfl, rfl, rfl, Nat.le_refl _, fun _ _ _ => rfl⟩
      refine region_quiet_tail 6 (C := fun w' => W0.grownBy w' none) (by kernel_rfl) (by kernel_rfl) hC0 ?_
      simp only [List.take_succ_cons, List.take_zero, List.drop_succ_cons, List.drop_zero]
      refine wpQuiet_step (fun K hK => ?_)
      go_simp
      refine ⟨_, fun W hW => rfl, hK _ ?_⟩
      clear hK K
      refine wpQuiet_step (fun K hK => ?_)
      go_simp
      refine ⟨.string tb, fun W hW => hrep W hW, hK _ ?_⟩
      clear hK K
      refine wpQuiet_step (fun K hK => ?_)
      rw [if_pos (by rfl)]
      refine ⟨.agg #[.int .i64 lk, .string la, .string lb, .string lt, .int .i64 ln, .bool lno], fun W' hW' => ?_, hK _ ?_⟩
      · have h := ln_load (block_kept HH6.out hW') rfl
        unfold Oper.quietAt
        simp [execOp, Act.eval, h, Result.andThen, Oper.quietUpon]
      clear hK K
      go_simp
      refine wpQuiet_step (fun K hK => ?_)
      go_simp
      refine ⟨.string tx, fun W hW => hlt W hW, hK _ ?_⟩
      clear hK K
      refine wpQuiet_step (fun K hK => ?_)
      go_simp
      refine ⟨.string (tb ++ tx), fun W hW => ?_, hK _ ?_⟩
      · rw [if_neg (by omega)]; exact ⟨rfl, rfl⟩
      clear hK K
      refine wpQuiet_step (fun K hK => ?_)
      go_simp
      refine ⟨.string (tb ++ tx ++ ⟨#[10]⟩), fun W hW => ?_, hK _ ?_⟩
      · rw [if_neg (by omega)]; exact ⟨rfl, rfl⟩
      clear hK K
      refine wpQuiet_nil ?_
      intro W7 hW7
      have HI7 := isB_grown HI6 hW7
      have HB7 := Lib.hid (HB6.out.trans (below_grown hW7 HB6.out))
      have HS7 : Hid (w.heap.size ≤ W7.heap.size) := Lib.hid HB7.out.size
      clear hC0 hrep hlt hW7 z1 z2 HI6
      go_wp2_with fail
      (with_reducible refine (wr_string w.heap.size w.heap.size acc _ _ HX.out _ HI7 (by have := hA.out; have := HXL.out; omega) HS7).mono ?_)
      rintro ee w8 ⟨rfl, HI8, hb8⟩
      have HB8 := Lib.hid (HB7.out.trans hb8.out)
      clear hb8 HI7
      dsimp only
      go_wp2
      go_roundw
      case rel => exact ⟨k + 1, q, _, by omega, by omega, by go_num, by go_num, HI8, HB8, HT2, HA2⟩
      case measure => simp [intOf]; omega
    · obtain rfl : k = n := by omega
      have HE : Hid (textS L 0 = acc) := Lib.hid (by rw [hT.out, List.drop_eq_nil_of_le (by have := HN.out; omega)]; simp [textS])
      go_wp2_with fail
      (with_reducible refine (Tryd.Builder_String_any w.heap.size w.heap.size _ _ hI.out hS.out).mono ?_)
      rintro ee w3 ⟨rfl, hb⟩
      have HB3 := Lib.hid (hB.out.trans hb)
      clear hb
      dsimp only
      go_wp2
      go_ret
      exact ⟨by rw [HE.out]; rfl, grown_of_below HB3.out⟩
end Go.Proofs.YtmjdkgbblccpgaaDoor
