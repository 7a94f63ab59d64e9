/- What the reference puts behind a text. -/
import Derived.Test.YtfpehdldgnfciaaGreatDoorK
import Derived.Laws.AppendOwnNone
import Derived.Outline
namespace Go.Proofs.YtfpehdldgnfciaaGreatDoor.Sha
open Go.RowKit Go.Sort

/-- v holds L, in a block that was made from base on. -/
def Owns (w : World) (base : Nat) (v : Value) (L : List UInt8) : Prop := w.ownsRow base 5 1 v L.length (L.map encB)

theorem Owns.nil (w : World) (base : Nat) : Owns w base (.slice none 0 0) [] := World.ownsRow_nil w base 5 1
theorem Owns.form {w : World} {base : Nat} {v : Value} {L : List UInt8} (h : Owns w base v L) : ∃ a cap, v = .slice a L.length cap ∧ L.length ≤ cap ∧ cap ≤ maxLen := by
  rcases h.2 with ⟨h1, h2⟩ | ⟨g, cap, cur, h1, h2, h3, h4, h5, _⟩
  · exact ⟨none, 0, by rw [h1, h2], by omega, by unfold maxLen; omega⟩
  · exact ⟨_, cap, h1, h4, h5⟩
theorem Owns.len {w : World} {base : Nat} {v : Value} {L : List UInt8} (h : Owns w base v L) : lenOf v = L.length := by
  obtain ⟨a, cap, h1, _⟩ := h.form
  rw [h1]; rfl
theorem encB_at (L : List UInt8) (j : Nat) (h : j < L.length) : (L.map encB)[j]? = some (.int .u8 ((L.getD j 0).toNat : Int)) := by
  rw [List.getElem?_map, List.getElem?_eq_getElem h, List.getD_eq_getElem?_getD, List.getElem?_eq_getElem h]
  rfl
theorem Owns.part {w : World} {base : Nat} {v : Value} {L : List UInt8} (h : Owns w base v L) (hp : 0 < w.heap.size) : Part w w.heap.size v L := by
  rcases h.2 with ⟨h1, h2⟩ | ⟨g, cap, cur, h1, h2, h3, h4, h5, h6, h7⟩
  · exact ⟨none, 0, 0, 0, by rw [h1, h2], by omega, fun _ => rfl, hp, fun h => by omega, fun j hj => by omega⟩
  · refine ⟨_, cap, g, 0, h1, h4, fun h => by simp at h, (Array.getElem?_eq_some_iff.1 h3).1, fun _ => rfl, fun j hj => ?_⟩
    rw [Nat.zero_add, cell_in h3]
    have e := encB_at L j hj
    rw [← h7, List.getElem?_take, if_pos (by omega)] at e
    simpa using e
theorem Owns.grown {w w1 w2 : World} {v : Value} {L : List UInt8} (h : Owns w1 w.heap.size v L) (h1 : w.grownBy w1 none) (h2 : w1.grownBy w2 v.ownBlock) : w.grownBy w2 none := by
  cases e : v.ownBlock with
  | none => rw [e] at h2; exact World.grownBy.trans h1 h2
  | some k => rw [e] at h2; exact grown_new h1 h2 (h.lt k e).1
theorem Owns.alloc {w : World} {base : Nat} {v : Value} {L : List UInt8} (h : Owns w base v L) (o : Obj) : Owns (w.alloc o) base v L := World.ownsRow.alloc h o

theorem Tryz.info5' : (Tryz.prog.info? 5).map (fun i => (i.zero, i.size, i.bytes)) = some (some (.int .u8 0), 1, 1) := by kernel_rfl

/-- append of bytes that lie anywhere to bytes that the call owns. -/
theorem app_part {w : World} {ops : Array Oper} {rest : List Oper} {o : Oper} {a : Act} {Q : Exit → Act → World → Prop} (hgd : o.guard = none) (s x : Operand)
    (ho : o.op = .call { callee := .builtin .append, args := #[s, x], argTypes := #[24, 24] }) (base B : Nat) (v xv : Value) (L M : List UInt8) (hs : a.eval s = v) (hown : Owns w base v L)
    (hx : a.eval x = xv) (hp : Part w B xv M) (hb : L.length + M.length ≤ 1000000) (hbase : base ≤ w.heap.size)
    (h : ∀ v' w', Owns w' base v' (L ++ M) → w.grownBy w' v.ownBlock → wpList Tryz.prog ops Q rest (a.put o.dst v') w') : wpList Tryz.prog ops Q (o :: rest) a w := by
  obtain ⟨i0, hi, hz0, hz1, hz2⟩ := info_parts Tryz.info5'
  obtain ⟨ap, cap, b, of, h1, h2, h6, h3, h4, h5⟩ := hp
  subst h1
  cases ap with
  | none =>
    have hc := h6 rfl
    have hm : M = [] := List.eq_nil_of_length_eq_zero (by omega)
    subst hm
    have hc' : cap = 0 := by omega
    subst hc'
    refine wpList_append_own_none hgd s x 24 ho base 5 i0 1 Tryz.underlying24 hi v L.length (L.map encB) hs hown hx ?_
    exact h v w (by simpa using hown) (World.grownBy.refl _ _)
  | some ad =>
    refine wpList_append_own w hgd s x 24 ho base 5 i0 (.int .u8 0) 1 1 Tryz.underlying24 hi hz0 hz1 hz2 rfl (by decide) v L.length (L.map encB) hs hown ad M.length cap (M.map encB) hx (by simp) ?_ ?_ (by unfold maxLen; omega) (by omega) hbase ?_
    · intro j u hu
      have hj : j < M.length := by have := (List.getElem?_eq_some_iff.1 hu).1; simpa using this
      have e := h4 (by omega)
      rw [Option.some.inj e, Addr.add_mid, h5 j hj, ← hu, encB_at M j hj]
    · intro u hu
      obtain ⟨y, _, rfl⟩ := List.mem_map.1 hu
      rfl
    · intro v' w' h7 h8 _
      refine h v' w' ?_ h8
      show World.ownsRow _ _ _ _ _ _ _
      rw [List.length_append, List.map_append]
      exact h7
/-- One byte, in a block of its own. -/
theorem part_one (w : World) (x : Int) (c : UInt8) (t : TypeId) (hx : x = (c.toNat : Int)) : Part (w.alloc (.cells #[.int .u8 x] t)) (w.heap.size + 1) (.slice (some ⟨w.heap.size, 0, none⟩) 1 1) [c] :=
  ⟨_, 1, w.heap.size, 0, rfl, Nat.le_refl _, fun h => by simp at h, by omega, fun _ => rfl, fun j hj => by
    have : j = 0 := by simpa using hj
    subst this
    rw [Nat.add_zero, alloc_cell, hx]; rfl⟩

/-! The bytes behind a text, as a list. -/
def be (n : Nat) (k : Nat) : List UInt8 := (List.range k).map fun i => UInt8.ofNat (n * 8 / 2 ^ (56 - 8 * i))
theorem be_succ (n k : Nat) : be n (k + 1) = be n k ++ [UInt8.ofNat (n * 8 / 2 ^ (56 - 8 * k))] := by
  simp [be, List.range_succ]
theorem be_len (n k : Nat) : (be n k).length = k := by simp [be]
theorem tail_list (c n k : Nat) (hc : 0 < c) (hk : k ≤ 8) : (tailA c n k).toList = (128 :: List.replicate (c - 1) 0) ++ (be n k ++ List.replicate (8 - k) 0) := by
  induction k with
  | zero =>
    obtain ⟨d, rfl⟩ : ∃ d, c = d + 1 := ⟨c - 1, by omega⟩
    simp [tailA, be]
    rw [show d + 1 + 8 = (d + 8) + 1 by omega, List.replicate_succ, List.set_cons_zero, List.replicate_append_replicate.symm]
    rfl
  | succ k ih =>
    have h8 : 8 - k = (8 - (k + 1)) + 1 := by omega
    show ((tailA c n k).setIfInBounds (c + k) _).toList = _
    rw [Array.toList_setIfInBounds, ih (by omega), h8, List.replicate_succ, be_succ]
    rw [List.set_append_right _ _ (by simp; omega), List.set_append_right _ _ (by simp [be_len]; omega)]
    simp only [List.length_cons, List.length_replicate, be_len]
    rw [show c + k - (c - 1 + 1) - k = 0 by omega, List.set_cons_zero]
    simp
theorem pad_list (L : List UInt8) : padOf L = (128 :: List.replicate (63 - (L.length % 64 + 8) % 64) 0) ++ be L.length 8 := by
  unfold padOf
  rw [tail_list _ _ _ (by omega) (Nat.le_refl _)]
  simp
  omega

theorem sub_le (L : List UInt8) (h : L.length ≤ 10000) : ((L.length : Int) * 8) % 18446744073709551616 = ((L.length * 8 : Nat) : Int) := by omega

def PadRet (w : World) (L : List UInt8) (e : Ending) (w' : World) : Prop := ∃ v', e = .returned v' ∧ Owns w' w.heap.size v' (L ++ padOf L) ∧ w.grownBy w' none
theorem e128 : (128 : Int) = ((128 : UInt8).toNat : Int) := rfl
theorem e0 : (0 : Int) = ((0 : UInt8).toNat : Int) := rfl

set_option maxRecDepth 1000000
set_option maxHeartbeats 1000000 in
theorem pad_any (B n cap : Nat) (a : Option Addr) (L : List UInt8) (w : World) (hn : L.length = n) (hL : n ≤ 10000) (hP : Part w B (.slice a n cap) L) :
    Calls Tryz.prog 51 #[.slice a n cap] w (PadRet w L) := by
  have HN := Lib.hid hn
  have HP := Lib.hid hP
  obtain ⟨c, hc⟩ : ∃ c, 63 - (n % 64 + 8) % 64 = c := ⟨_, rfl⟩
  have hc56 : (n + 1 + c) % 64 = 56 := by omega
  have hcl : ∀ k, k < c → (n + 1 + k) % 64 ≠ 56 := by omega
  have hc64 : c < 64 := by omega
  have HC := Lib.hid hc
  have HC56 := Lib.hid hc56
  have HCL := Lib.hid hcl
  clear hn hP hc hc56 hcl
  go_enter Tryz.func51, Tryz.ntmps51
  go_wp2_with (first
    | ((with_reducible refine app_part (o := ⟨some 7, _, _, _, _, _⟩) rfl _ _ rfl w.heap.size B (.slice none 0 0) _ [] L ?_ (Owns.nil _ _) ?_ HP.out ?_ (Nat.le_refl _) ?_); (exact rfl); (exact rfl); (have := HN.out; simp; omega); (intro v1 w1 ho1 hg1); have HO1 := Lib.hid ho1; have HG1 := Lib.hid (World.grownBy.trans hg1 (World.grownBy.refl w1 none)); clear ho1 hg1)
    | ((with_reducible refine app_part (o := ⟨some 9, _, _, _, _, _⟩) rfl _ _ rfl w.heap.size (w1.heap.size + 1) v1 _ L [128] ?_ (HO1.out.alloc _) ?_ (part_one w1 128 128 5 e128) ?_ ?_ ?_); (exact rfl); (exact rfl); (have := HN.out; simp; omega); (have := HG1.out.size; rw [alloc_size]; omega); (intro v2 w2 ho2 hg2); have HO2 := Lib.hid ho2; have HG2 := Lib.hid (HO1.out.alloc (.cells #[.int .u8 128] 5) |>.grown (World.grownBy.trans HG1.out (World.grownBy_alloc _ _ _)) hg2); clear ho2 hg2))
  go_loopw [3] (fun v wr => ∃ (k m cp : Nat) (ad : Option Addr), k ≤ c ∧ v = .slice ad m cp ∧ m = n + 1 + k ∧ cp ≤ 9223372036854775807 ∧ Owns wr w.heap.size v (L ++ 128 :: List.replicate k 0) ∧ w.grownBy wr none) (fun v _ => n + 1 + c - lenOf v)
  case atStart =>
    obtain ⟨ad, cp, h1, h2, h3⟩ := HO2.out.form
    exact ⟨0, _, cp, ad, by omega, h1, by rw [List.length_append, HN.out]; rfl, h3, HO2.out, HG2.out⟩
  case round =>
    obtain ⟨k, m, cp, ad, hk, rfl, hm, hcp, hown, hgw⟩ := hrel
    have HM := Lib.hid hm
    have HO := Lib.hid hown
    have hm2 : m ≤ 20000 := by omega
    have hmm : (m : Int) % 64 = ((m % 64 : Nat) : Int) := by omega
    clear hm hown HO1 HO2 HG1 HG2
    by_cases hlt : k < c
    · have hne : ¬ (m : Int) % 64 = 56 := by have := HCL.out k hlt; have := HM.out; omega
      clear hmm
      go_wp2_with (at_builtin; go_must (with_reducible refine app_part (o := ⟨some 16, _, _, _, _, _⟩) rfl _ _ rfl w.heap.size (wr.heap.size + 1) (.slice ad m cp) _ (L ++ 128 :: List.replicate k 0) [0] ?_ (HO.out.alloc _) ?_ (part_one wr 0 0 5 e0) ?_ ?_ ?_); go_must (exact rfl); go_must (exact rfl); go_must ((have := HN.out; simp; omega)); go_must ((have := hgw.size; rw [alloc_size]; omega)); (intro v2 w2 ho2 hg2); have HO2 := Lib.hid ho2; have HG2 := Lib.hid (HO.out.alloc (.cells #[.int .u8 0] 5) |>.grown (World.grownBy.trans hgw (World.grownBy_alloc _ _ _)) hg2); clear ho2 hg2)
      go_roundw
      case rel =>
        obtain ⟨ad2, cp2, h1, h2, h3⟩ := HO2.out.form
        refine ⟨k + 1, _, cp2, ad2, by omega, h1, ?_, h3, ?_, HG2.out⟩
        · have := HN.out; simp; omega
        · have e : L ++ 128 :: List.replicate (k + 1) 0 = (L ++ 128 :: List.replicate k 0) ++ [0] := by rw [List.replicate_succ']; simp
          rw [e]
          exact HO2.out
      case measure =>
        have h1 := HO2.out.len
        have := HN.out
        have := HM.out
        rw [h1]
        simp [lenOf]
        omega
    · have hkc : k = c := by omega
      subst hkc
      have heq : (m : Int) % 64 = 56 := by have := HC56.out; have := HM.out; omega
      clear hlt hmm hk
      go_wp2
      go_loopw [3, 5] (fun v i wr => ∃ (j m cp : Nat) (ad : Option Addr), j ≤ 8 ∧ v = .slice ad m cp ∧ i = .int .i64 (7 - (j : Int)) ∧ m = n + 1 + k + j ∧ cp ≤ 9223372036854775807 ∧ Owns wr w.heap.size v (L ++ (128 :: List.replicate k 0) ++ be n j) ∧ w.grownBy wr none) (fun _ i _ => (intOf i + 1).toNat)
      case atStart =>
        exact ⟨0, m, cp, ad, by omega, rfl, rfl, by have := HM.out; omega, hcp, by simpa [be] using HO.out, hgw⟩
      case round =>
        clear HO hgw
        clear HM hm2 heq hcp
        obtain ⟨j, m, cp, ad, hj, rfl, rfl, hm, hcp, hown, hgw⟩ := hrel
        have HM := Lib.hid hm
        have HO := Lib.hid hown
        have hm2 : m ≤ 20000 := by omega
        clear hm hown
        by_cases hlt : j < 8
        · obtain ⟨t, ht⟩ : ∃ t : Nat, t = 7 - j := ⟨_, rfl⟩
          have ht8 : t < 8 := by omega
          rw [show 7 - (j : Int) = (t : Int) by omega]
          have HT := Lib.hid ht
          have hbyte : (n : Int) * 8 / 2 ^ (8 * t) % 256 = ((UInt8.ofNat (n * 8 / 2 ^ (8 * t))).toNat : Int) := by rw [← byte_of]; simp
          have HBY := Lib.hid hbyte
          clear ht hbyte
          go_wp2_with (at_builtin; go_must (with_reducible refine app_part (o := ⟨some 32, _, _, _, _, _⟩) rfl _ _ rfl w.heap.size (wr.heap.size + 1) (.slice ad m cp) _ _ [UInt8.ofNat (n * 8 / 2 ^ (8 * t))] ?_ (HO.out.alloc _) ?_ (part_one wr _ (UInt8.ofNat (n * 8 / 2 ^ (8 * t))) 5 HBY.out) ?_ ?_ ?_); go_must (exact rfl); go_must (exact rfl); go_must ((have := HN.out; simp [be_len]; omega)); go_must ((have := hgw.size; rw [alloc_size]; omega)); (intro v2 w2 ho2 hg2); have HO2 := Lib.hid ho2; have HG2 := Lib.hid (HO.out.alloc (.cells #[.int .u8 ((n : Int) * 8 / 2 ^ (8 * t) % 256)] 5) |>.grown (World.grownBy.trans hgw (World.grownBy_alloc _ _ _)) hg2); clear ho2 hg2)
          go_roundw
          case rel =>
            obtain ⟨ad2, cp2, h1, h2, h3⟩ := HO2.out.form
            have htj := HT.out
            refine ⟨j + 1, _, cp2, ad2, by omega, h1, ?_, ?_, h3, ?_, HG2.out⟩
            · rw [show (7 : Int) - ((j + 1 : Nat) : Int) = (t : Int) - 1 by omega]
            · have := HN.out; simp [be_len]; omega
            · have e : L ++ (128 :: List.replicate k 0) ++ be n (j + 1) = (L ++ (128 :: List.replicate k 0) ++ be n j) ++ [UInt8.ofNat (n * 8 / 2 ^ (8 * t))] := by
                rw [be_succ, show 56 - 8 * j = 8 * t by omega]; simp
              rw [e]
              exact HO2.out
          case measure => simp [intOf]
        · have hj8 : j = 8 := by omega
          subst hj8
          clear hlt hj
          rw [show (7 : Int) - ((8 : Nat) : Int) = -1 from rfl]
          go_wp2
          go_ret
          refine ⟨_, rfl, ?_, hgw⟩
          rw [pad_list, HN.out, HC.out, ← List.append_assoc]
          exact HO.out
end Go.Proofs.YtfpehdldgnfciaaGreatDoor.Sha
