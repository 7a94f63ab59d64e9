/- A text as a sum: what the program and the reference read. -/
import Derived.Test.YtpiikgobdhgldaaDoorL
import Derived.Outline
namespace Go.Proofs.YtpiikgobdhgldaaDoor
open Go.RowKit Go.Sort

def isHex (c : UInt8) : Bool := (decide (48 ≤ c.toNat) && decide (c.toNat ≤ 57)) || (decide (97 ≤ c.toNat) && decide (c.toNat ≤ 102))
def hv (c : UInt8) : UInt8 := if 48 ≤ c.toNat ∧ c.toNat ≤ 57 then UInt8.ofNat (c.toNat - 48) else if 97 ≤ c.toNat ∧ c.toNat ≤ 102 then UInt8.ofNat (c.toNat - 87) else 0

theorem hv_num (c : UInt8) (h1 : 48 ≤ c.toNat) (h2 : c.toNat ≤ 57) : ((hv c).toNat : Int) = (c.toNat : Int) - 48 := by
  unfold hv; rw [if_pos ⟨h1, h2⟩]; simp; omega
theorem hv_low (c : UInt8) (h1 : 97 ≤ c.toNat) (h2 : c.toNat ≤ 102) : ((hv c).toNat : Int) = (c.toNat : Int) - 97 + 10 := by
  unfold hv; rw [if_neg (by omega), if_pos ⟨h1, h2⟩]; simp; omega
theorem hv_lt (c : UInt8) : (hv c).toNat < 16 := by
  unfold hv; split
  · simp; omega
  · split
    · simp; omega
    · decide

theorem digit_any (c : UInt8) (w : World) :
    Calls Tryd.prog 17 #[.int .u8 (c.toNat : Int)] w fun e w' => e = .returned (.tuple #[.int .u8 ((hv c).toNat : Int), .bool (isHex c)]) ∧ w = w' := by
  have hc := c.toNat_lt
  by_cases h1 : 48 ≤ c.toNat ∧ c.toNat ≤ 57
  · have e := Lib.hid (hv_num c h1.1 h1.2)
    have e2 : Hid (isHex c = true) := by show _ = _; simp [isHex]; omega
    have a1 : (48 : Int) ≤ (c.toNat : Int) := by omega
    have a2 : (c.toNat : Int) ≤ 57 := by omega
    clear h1
    go_enter Tryd.func17, Tryd.ntmps17
    go_wp2
    go_ret2
    exact ⟨by rw [e.out, e2.out]; rfl, rfl⟩
  · by_cases h2 : 97 ≤ c.toNat ∧ c.toNat ≤ 102
    · have e := Lib.hid (hv_low c h2.1 h2.2)
      have e2 : Hid (isHex c = true) := by show _ = _; simp [isHex]; omega
      have a1 : (97 : Int) ≤ (c.toNat : Int) := by omega
      have a2 : (c.toNat : Int) ≤ 102 := by omega
      have a3 : decide ((c.toNat : Int) ≤ 57) = false := by simp; omega
      clear h1 h2
      go_enter Tryd.func17, Tryd.ntmps17
      go_wp2
      go_ret2
      exact ⟨by rw [e.out, e2.out]; rfl, rfl⟩
    · have e : Hid (hv c = 0) := by show _ = _; unfold hv; rw [if_neg h1, if_neg h2]
      have e2 : Hid (isHex c = false) := by show _ = _; simp [isHex]; omega
      by_cases a1 : c.toNat < 48
      · have b1 : decide (48 ≤ (c.toNat : Int)) = false := by simp; omega
        have b2 : decide (97 ≤ (c.toNat : Int)) = false := by simp; omega
        clear h1 h2
        go_enter Tryd.func17, Tryd.ntmps17
        go_wp2
        go_ret2
        exact ⟨by rw [e.out, e2.out]; rfl, rfl⟩
      · by_cases a2 : c.toNat < 97
        · have b0 : (48 : Int) ≤ (c.toNat : Int) := by omega
          have b1 : decide ((c.toNat : Int) ≤ 57) = false := by simp; omega
          have b2 : decide (97 ≤ (c.toNat : Int)) = false := by simp; omega
          clear h1 h2
          go_enter Tryd.func17, Tryd.ntmps17
          go_wp2
          go_ret2
          exact ⟨by rw [e.out, e2.out]; rfl, rfl⟩
        · have b0 : (97 : Int) ≤ (c.toNat : Int) := by omega
          have b1 : decide ((c.toNat : Int) ≤ 57) = false := by simp; omega
          have b2 : decide ((c.toNat : Int) ≤ 102) = false := by simp; omega
          clear h1 h2
          go_enter Tryd.func17, Tryd.ntmps17
          go_wp2
          go_ret2
          exact ⟨by rw [e.out, e2.out]; rfl, rfl⟩

def byteAt (s : ByteArray) (i : Nat) : UInt8 := s.data.toList.getD i 0
/-- The sum's first k bytes, as they are read. -/
def keyP (s : ByteArray) : Nat → Array UInt8
  | 0 => Array.replicate 32 0
  | k + 1 => (keyP s k).setIfInBounds k ((hv (byteAt s (2 * k)) <<< 4) ||| hv (byteAt s (2 * k + 1)))
theorem keyP_size (s : ByteArray) (k : Nat) : (keyP s k).size = 32 := by
  induction k with
  | zero => simp [keyP]
  | succ k ih => simp [keyP, ih]
def goodTo (s : ByteArray) (n : Nat) : Bool := (List.range n).all fun i => isHex (byteAt s i)
theorem goodTo_succ (s : ByteArray) (n : Nat) : goodTo s (n + 1) = (goodTo s n && isHex (byteAt s n)) := by
  unfold goodTo; rw [List.range_succ, List.all_append]; simp
theorem goodTo_not (s : ByteArray) (n m : Nat) (h : n < m) (hb : isHex (byteAt s n) = false) : goodTo s m = false :=
  List.all_eq_false.2 ⟨n, List.mem_range.2 h, fun e => by rw [hb] at e; cases e⟩
def pb (s : ByteArray) : Bool := decide (s.size = 64) && goodTo s 64
def pk (s : ByteArray) : Array UInt8 := if pb s = true then keyP s 32 else Array.replicate 32 0
theorem pk_no (s : ByteArray) (h : pb s = false) : pk s = Array.replicate 32 0 := by unfold pk; rw [h]; rfl
theorem pk_yes (s : ByteArray) (h : pb s = true) : pk s = keyP s 32 := by unfold pk; rw [if_pos h]
theorem byteAt_eq (s : ByteArray) (i : Nat) (h : i < s.size) : byteAt s i = s[i] := by
  unfold byteAt
  rw [List.getD_eq_getElem?_getD, Array.getElem?_toList, Array.getElem?_eq_getElem (by simpa using h)]; rfl
theorem join_eq (a b : UInt8) (ha : a.toNat < 16) : bits .or .u8 ((a.toNat : Int) * 16) (b.toNat : Int) = (((a <<< 4) ||| b).toNat : Int) := by
  have e : (a.toNat : Int) * (16 : Int) = Int.ofNat (a <<< 4).toNat := by
    rw [UInt8.toNat_shiftLeft]; simp [Nat.shiftLeft_eq]; omega
  rw [e, Int.ofNat_eq_natCast, u8_or_nat _ _ (UInt8.toNat_lt _) (UInt8.toNat_lt _), UInt8.toNat_or]

def ParseRet (w : World) (s : ByteArray) (e : Ending) (w' : World) : Prop := e = .returned (.tuple #[.agg ((pk s).map encB), .bool (pb s)]) ∧ w.grownBy w' none
def zero32A : Array Value := Array.replicate 32 (encB 0)
theorem zero32A_eq : (Array.replicate 32 (0 : UInt8)).map encB = zero32A := by unfold zero32A; simp
theorem zero32A_size : zero32A.size = 32 := by unfold zero32A; simp
theorem zero32A_one : zero32A.all (·.oneCell') = true := by kernel_rfl

theorem wpList_built2 {P : Program} {ops : Array Oper} {rest : List Oper} {o : Oper} {a : Act} {w : World} {Q : Exit → Act → World → Prop} (hg : o.guard = none) (t : TypeId) (parts : Array (Nat × Operand)) (ho : o.op = .build t parts) (cells : Array Value)
    (hc : P.built t (parts.map fun (i, x) => (i, a.eval x)).toList = some cells) (h : wpList P ops Q rest (a.put o.dst (.agg cells)) w) : wpList P ops Q (o :: rest) a w :=
  wpList_build hg t parts ho (by rw [hc]; rfl) (by rw [hc]; exact h)
theorem results_row_tmp {P : Program} {fn : Func} {p u : Tmp} {ty : TypeId} (h : fn.results = #[.cell p ty, .tmp u]) (tmps : Array Value) (w : World) (g : Nat) (t : TypeId) (cs : Array Value) (fr : Nat × Nat) (d : TypeDesc)
    (hp : tmps.getD p undef = .pointer (some ⟨g, 0, none⟩)) (hg : w.heap[g]? = some (.cells cs t fr))
    (hu : P.underlying ty = some d) (hd : (match d with | .struct _ | .array _ _ => true | _ => false) = true) (hi : (P.info? ty).map (·.size) = some cs.size) :
    (results fn tmps).run P w = .ok (.tuple #[.agg cs, tmps.getD u undef]) w := by
  have hp' : tmps[p]?.getD undef = .pointer (some ⟨g, 0, none⟩) := by simpa using hp
  simp [results, h, hp', asAddr, run_loadVar_row w g t ty cs fr d hg hu hd hi]

/-- Two blocks more, the first one laid anew: nothing else has changed. -/
theorem two_grown (w : World) (A B C : Array Value) (t u : TypeId) : w.grownBy (((w.alloc (.cells A t)).alloc (.cells B u)).setRow w.heap.size C) none :=
  grown_setRow (World.grownBy.trans (World.grownBy_alloc _ _ _) (World.grownBy_alloc _ _ _)) (Nat.le_refl _) _
theorem two_heap (w : World) (A B : Array Value) (t u : TypeId) : ((w.alloc (.cells A t)).alloc (.cells B u)).heap[w.heap.size]? = some (.cells A t (0, 0)) := by
  rw [heap_alloc_old _ _ (by rw [alloc_size]; omega), heap_alloc_new]

set_option maxRecDepth 1000000
set_option maxHeartbeats 1000000 in
theorem parse_no (s : ByteArray) (w : World) (hs : s.size ≠ 64) :
    Calls Tryd.prog 11 #[.string s] w (ParseRet w s) := by
  have hpb : Hid (pb s = false) := by show _ = _; unfold pb; rw [decide_eq_false hs]; rfl
  have hz : ∀ W : World, (zeroValue 26).run Tryd.prog W = .ok (.agg zero32A) W := by intro W; kernel_rfl
  have hne : ¬ (s.size : Int) = 64 := by omega
  have hzs := zero32A_size
  have hst := storeCells_row ((w.alloc (.cells zero32A 26)).alloc (.cells zero32A 26)) w.heap.size 26 26 zero32A zero32A (two_heap _ _ _ _ _) (by rw [info26, zero32A_size]) rfl zero32A_one
  clear hs
  go_enter Tryd.func11, Tryd.ntmps11
  go_wp2_with ((with_reducible refine wpList_built2 (o := ⟨some 13, _, _, _, _, _⟩) rfl 26 _ rfl zero32A ?_ ?_); (kernel_rfl))
  refine bodyPost_ret (v := .tuple #[.agg zero32A, .bool false]) ?_ rfl ⟨?_, two_grown _ _ _ _ _ _⟩
  · exact (results_row_tmp rfl _ _ w.heap.size 26 zero32A (0, 0) _ rfl (setRow_heap _ _ _ _ 26 _ (two_heap _ _ _ _ _)) Tryd.underlying26 rfl (by rw [info26, zero32A_size])).trans rfl
  · rw [pk_no s hpb.out, hpb.out, zero32A_eq]

set_option maxRecDepth 1000000
set_option maxHeartbeats 1000000 in
theorem parse_yes (s : ByteArray) (w : World) (hs : s.size = 64) :
    Calls Tryd.prog 11 #[.string s] w (ParseRet w s) := by
  have hz : ∀ W : World, (zeroValue 26).run Tryd.prog W = .ok (.agg zero32A) W := by intro W; kernel_rfl
  have hne : (s.size : Int) = 64 := by omega
  have hsz1 : 64 ≤ s.size := by omega
  have hzs := zero32A_size
  have HS := Lib.hid hs
  clear hs
  go_enter Tryd.func11, Tryd.ntmps11
  go_wp2
  clear hne
  go_loopw [14] (fun i wr => ∃ k : Nat, k ≤ 32 ∧ i = .int .i64 k ∧ goodTo s (2 * k) = true ∧ wr = (w.alloc (.cells zero32A 26)).alloc (.cells ((keyP s k).map encB) 26)) (fun i _ => 32 - (intOf i).toNat)
  case atStart => exact ⟨0, by omega, rfl, rfl, by rw [show (keyP s 0).map encB = zero32A from zero32A_eq]⟩
  case round =>
    obtain ⟨k, hk, rfl, hgood, hw⟩ := hrel
    have HG := Lib.hid hgood
    clear hgood
    by_cases hlt : k < 32
    · obtain ⟨c, hc⟩ : ∃ c, byteAt s (2 * k) = c := ⟨_, rfl⟩
      obtain ⟨d, hd⟩ : ∃ d, byteAt s (2 * k + 1) = d := ⟨_, rfl⟩
      have hc2 : s[2 * k]'(by omega) = c := by rw [← byteAt_eq]; exact hc
      have hd2 : s[2 * k + 1]'(by omega) = d := by rw [← byteAt_eq]; exact hd
      have hcell : wr.cell? ⟨w.heap.size + 1, k, none⟩ = some (encB ((keyP s k)[k]'(by rw [keyP_size]; exact hlt))) := by
        rw [hw, ← alloc_size w (.cells zero32A 26), alloc_cell, Array.getElem?_map, Array.getElem?_eq_getElem (by rw [keyP_size]; exact hlt)]
        rfl
      generalize encB ((keyP s k)[k]'(by rw [keyP_size]; exact hlt)) = old at hcell
      have hfr : wr.frozen? ⟨w.heap.size + 1, k, none⟩ = false := by
        rw [hw, ← alloc_size w (.cells zero32A 26), alloc_frozen]
      have hh := Lib.hid (join_eq (hv c) (hv d) (hv_lt c))
      have hv1 := (hv c).toNat_lt
      have hv2 := hv_lt c
      have hv3 := hv_lt d
      have hjoin : (keyP s (k + 1)) = (keyP s k).setIfInBounds k ((hv c <<< 4) ||| hv d) := by rw [← hc, ← hd]; rfl
      have HJ := Lib.hid hjoin
      have HW := Lib.hid hw
      have HC := Lib.hid hc
      have HD := Lib.hid hd
      clear hjoin hw hc hd
      by_cases hb : isHex c = true ∧ isHex d = true
      · have b1 := hb.1
        have b2 := hb.2
        clear hb
        go_wp2_with fail
        (with_reducible refine (digit_any c _).mono ?_)
        rintro ee ww ⟨rfl, rfl⟩
        go_wp2_with fail
        (with_reducible refine (digit_any d _).mono ?_)
        rintro ee ww ⟨rfl, rfl⟩
        go_wp2
        go_roundw
        case rel =>
          refine ⟨k + 1, by omega, by go_num, ?_, ?_⟩
          · rw [show 2 * (k + 1) = 2 * k + 1 + 1 by omega, goodTo_succ, goodTo_succ, HG.out, HC.out, HD.out, b1, b2]; rfl
          · rw [hh.out, HW.out, alloc2_set, HJ.out, ← map_setB]
            rfl
        case measure => simp [intOf]; omega
      · have hbad : isHex c = false ∨ isHex d = false := by
          cases h1 : isHex c
          · exact .inl rfl
          · cases h2 : isHex d
            · exact .inr rfl
            · exact absurd ⟨h1, h2⟩ hb
        have hpb : Hid (pb s = false) := by
          show _ = _
          unfold pb
          rcases hbad with h | h
          · rw [goodTo_not s (2 * k) 64 (by omega) (by rw [HC.out]; exact h)]; simp
          · rw [goodTo_not s (2 * k + 1) 64 (by omega) (by rw [HD.out]; exact h)]; simp
        clear hb
        have hst := storeCells_row wr w.heap.size 26 26 zero32A zero32A (by rw [HW.out]; exact two_heap _ _ _ _ _) (by rw [info26, zero32A_size]) rfl zero32A_one
        rcases hbad with b1 | b1
        all_goals
          go_wp2_with fail
          (with_reducible refine (digit_any c _).mono ?_)
          rintro ee ww ⟨rfl, rfl⟩
          go_wp2_with fail
          (with_reducible refine (digit_any d _).mono ?_)
          rintro ee ww ⟨rfl, rfl⟩
          go_wp2_with ((with_reducible refine wpList_built2 (o := ⟨some 40, _, _, _, _, _⟩) rfl 26 _ rfl zero32A ?_ ?_); (kernel_rfl))
        all_goals
          refine bodyPost_ret (v := .tuple #[.agg zero32A, .bool false]) ?_ rfl ⟨?_, ?_⟩
          · exact (results_row_tmp rfl _ _ w.heap.size 26 zero32A (0, 0) _ rfl (setRow_heap _ _ _ _ 26 _ (by rw [HW.out]; exact two_heap _ _ _ _ _)) Tryd.underlying26 rfl (by rw [info26, zero32A_size])).trans rfl
          · rw [pk_no s hpb.out, hpb.out, zero32A_eq]
          · rw [HW.out]; exact two_grown _ _ _ _ _ _
    · have hk32 : k = 32 := by omega
      subst hk32
      clear hlt hk
      have hpb : Hid (pb s = true) := by
        show _ = _
        unfold pb
        rw [HS.out, show goodTo s 64 = true from HG.out]; rfl
      have hks : ((keyP s 32).map encB).size = 32 := by rw [Array.size_map, keyP_size]
      have HKS := Lib.hid hks
      have hone : Hid (((keyP s 32).map encB).all (·.oneCell') = true) := by
        show _ = _
        rw [Array.all_map]
        exact Array.all_eq_true.2 fun i hi => rfl
      obtain ⟨KK, hKK⟩ : ∃ KK, (keyP s 32).map encB = KK := ⟨_, rfl⟩
      rw [hKK] at HKS hone hw
      have HK := Lib.hid hKK
      have hst := storeCells_row wr w.heap.size 26 26 zero32A KK (by rw [hw]; exact two_heap _ _ _ _ _) (by rw [info26, HKS.out]) (by rw [HKS.out, zero32A_size]) hone.out
      have hnew : Hid (wr.heap[w.heap.size + 1]? = some (.cells KK 26 (0, 0))) := by
        show _ = _
        rw [hw, ← alloc_size w (.cells zero32A 26), heap_alloc_new]
      have HW := Lib.hid hw
      have hks' := HKS.out
      clear hks hKK hw
      go_wp2_with ((with_reducible refine wpList_load_row (o := ⟨some 48, _, _, _, _, _⟩) rfl 26 _ rfl (w.heap.size + 1) ?_ 26 KK (0, 0) (.array 32 5) hnew.out Tryd.underlying26 rfl ?_ ?_); (exact rfl); (rw [info26, HKS.out]))
      refine bodyPost_ret (v := .tuple #[.agg KK, .bool true]) ?_ rfl ⟨?_, ?_⟩
      · exact (results_row_tmp rfl _ _ w.heap.size 26 KK (0, 0) _ rfl (setRow_heap _ _ _ _ 26 _ (by rw [HW.out]; exact two_heap _ _ _ _ _)) Tryd.underlying26 rfl (by rw [info26, HKS.out])).trans rfl
      · rw [pk_yes s hpb.out, hpb.out, HK.out]
      · rw [HW.out]; exact two_grown _ _ _ _ _ _

theorem parse_any (s : ByteArray) (w : World) : Calls Tryd.prog 11 #[.string s] w (ParseRet w s) := by
  by_cases h : s.size = 64
  · exact parse_yes s w h
  · exact parse_no s w h
end Go.Proofs.YtpiikgobdhgldaaDoor
