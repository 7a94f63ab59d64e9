/- A sum as a text: what the program and the reference tell. -/
import Derived.Test.YtpiikgobdhgldaaDoorL
import Derived.Outline
import Derived.Deep.AppendLies
import Derived.Laws.IdiomStrings
namespace Go.Proofs.YtpiikgobdhgldaaDoor
open Go.RowKit Go.Sort

/-- The digit of n. -/
def dgN (n : Nat) : UInt8 := if n < 10 then UInt8.ofNat (48 + n) else UInt8.ofNat (87 + n)
def hexL (l : List UInt8) : List UInt8 := l.flatMap fun c => [dgN (c.toNat / 16), dgN (c.toNat % 16)]
theorem hexL_snoc (l : List UInt8) (c : UInt8) : hexL (l ++ [c]) = hexL l ++ [dgN (c.toNat / 16), dgN (c.toNat % 16)] := by simp [hexL]
theorem hexL_len (l : List UInt8) : (hexL l).length = 2 * l.length := by
  induction l with
  | nil => rfl
  | cons c l ih => simp only [hexL, List.flatMap_cons, List.length_append, List.length_cons, List.length_nil] at *; omega

theorem idx_digit (n : Nat) (h : n < 16) (W : World) : (Instr.index 9 (.string ⟨#[48, 49, 50, 51, 52, 53, 54, 55, 56, 57, 97, 98, 99, 100, 101, 102]⟩) (.int .u8 (n : Int))).run Tryd.prog W = .ok (.int .u8 ((dgN n).toNat : Int)) W :=
  match n, h with
  | 0, _ => by kernel_rfl
  | 1, _ => by kernel_rfl
  | 2, _ => by kernel_rfl
  | 3, _ => by kernel_rfl
  | 4, _ => by kernel_rfl
  | 5, _ => by kernel_rfl
  | 6, _ => by kernel_rfl
  | 7, _ => by kernel_rfl
  | 8, _ => by kernel_rfl
  | 9, _ => by kernel_rfl
  | 10, _ => by kernel_rfl
  | 11, _ => by kernel_rfl
  | 12, _ => by kernel_rfl
  | 13, _ => by kernel_rfl
  | 14, _ => by kernel_rfl
  | 15, _ => by kernel_rfl
  | n + 16, h => absurd h (by omega)
theorem idx_high (c : UInt8) (W : World) : (Instr.index 9 (.string ⟨#[48, 49, 50, 51, 52, 53, 54, 55, 56, 57, 97, 98, 99, 100, 101, 102]⟩) (.int .u8 ((c.toNat : Int) / 16))).run Tryd.prog W = .ok (.int .u8 ((dgN (c.toNat / 16)).toNat : Int)) W := by
  have := c.toNat_lt
  rw [show (c.toNat : Int) / 16 = ((c.toNat / 16 : Nat) : Int) by omega]
  exact idx_digit _ (by omega) W
theorem idx_low (c : UInt8) (W : World) : (Instr.index 9 (.string ⟨#[48, 49, 50, 51, 52, 53, 54, 55, 56, 57, 97, 98, 99, 100, 101, 102]⟩) (.int .u8 (bits .and .u8 (c.toNat : Int) 15))).run Tryd.prog W = .ok (.int .u8 ((dgN (c.toNat % 16)).toNat : Int)) W := by
  have hc := c.toNat_lt
  have e := u8_and_nat c.toNat 15 hc (by omega)
  rw [show bits .and .u8 (c.toNat : Int) 15 = ((c.toNat % 16 : Nat) : Int) by
    rw [show (15 : Int) = ((15 : Nat) : Int) from rfl, e, Nat.and_two_pow_sub_one_eq_mod (c.toNat) 4]]
  exact idx_digit _ (by omega) W

/-- append, as one step of a region that draws its order. -/
theorem step_part {w : World} {ops : Array Oper} {o : Oper} {a : Act} {K : Act → World → Prop} {Q : Exit → Act → World → Prop} {E : Prop} (hgd : o.guard = none) (s x : Operand)
    (ho : o.op = .call { callee := .builtin .append, args := #[s, x], argTypes := #[24, 24] }) (base B : Nat) (v xv : Value) (L M : List UInt8) (hs : a.eval s = v) (hown : Owns w base v L)
    (hx : a.eval x = xv) (hp : Part w B xv M) (hb : L.length + M.length ≤ 1000000) (hbase : base ≤ w.heap.size)
    (h : ∀ v' w', Owns w' base v' (L ++ M) → w.grownBy w' v.ownBlock → K (a.put o.dst v') w') : if Region.wanted o (yielded ops a.tmps) = true then Oper.wp Tryd.prog o a w K Q else E := by
  rw [if_pos (by simp [Region.wanted, hgd])]
  obtain ⟨i0, hi, hz0, hz1, hz2⟩ := info_parts Tryd.info5'
  obtain ⟨ap, cap, b, of, h1, h2, h6, h3, h4, h5⟩ := hp
  subst h1
  cases ap with
  | none =>
    have hc := h6 rfl
    have hm : M = [] := List.eq_nil_of_length_eq_zero (by omega)
    subst hm
    have hc' : cap = 0 := by omega
    subst hc'
    have hrun := run_append_owned_none (P := Tryd.prog) (w := w) base 24 o.type 5 i0 1 Tryd.underlying24 hi v L.length (L.map encB) hown
    unfold Oper.wp
    simp [execOp, ho, resolve, invoke, builtin, hs, hx, hrun, Result.andThen]
    exact h v w (by simpa using hown) (World.grownBy.refl _ _)
  | some ad =>
    refine wp_append_own w s x 24 ho base 5 i0 (.int .u8 0) 1 1 Tryd.underlying24 hi hz0 hz1 hz2 rfl (by decide) v L.length (L.map encB) hs hown ad M.length cap (M.map encB) hx (by simp) ?_ ?_ (by unfold maxLen; omega) (by omega) hbase ?_
    · intro j u hu
      have hj : j < M.length := by have := (List.getElem?_eq_some_iff.1 hu).1; simpa using this
      have e := h4 (by omega)
      rw [Option.some.inj e, Addr.add_mid, h5 j hj, ← hu, encB_at M j hj]
    · intro u hu
      obtain ⟨y, _, rfl⟩ := List.mem_map.1 hu
      rfl
    · intro v' w' h7 h8 _
      refine h v' w' ?_ h8
      show World.ownsRow _ _ _ _ _ _ _
      rw [List.length_append, List.map_append]
      exact h7
theorem part_two (w : World) (x y : Int) (c d : UInt8) (t : TypeId) (hx : x = (c.toNat : Int)) (hy : y = (d.toNat : Int)) : Part (w.alloc (.cells #[.int .u8 x, .int .u8 y] t)) (w.heap.size + 1) (.slice (some ⟨w.heap.size, 0, none⟩) 2 2) [c, d] :=
  ⟨_, 2, w.heap.size, 0, rfl, Nat.le_refl _, fun h => by simp at h, by omega, fun _ => rfl, fun j hj => by
    have hj2 : j < 2 := by simpa using hj
    rw [Nat.zero_add, alloc_cell, hx, hy]
    rcases j with _ | _ | j
    · rfl
    · rfl
    · omega⟩

theorem take_snocA (K : Array UInt8) (k : Nat) (h : k < K.size) : K.toList.take (k + 1) = K.toList.take k ++ [K[k]!] := by
  rw [List.take_succ_eq_append_getElem (by simpa using h), getElem!_pos K k h]; rfl
theorem hexS_size (K : Array UInt8) (h : K.size = 32) (k : Nat) (hk : k ≤ 32) : (hexL (K.toList.take k)).length = 2 * k := by
  rw [hexL_len, List.length_take, Array.length_toList, h]; omega

theorem conv_part {w : World} {B : Nat} {v : Value} {L : List UInt8} (h : Part w B v L) (hl : 0 < L.length) : (convert 24 9 v).run Tryd.prog w = .ok (.string ⟨L.toArray⟩) w := by
  obtain ⟨a, cap, b, o, rfl, _, _, _, h4, h5⟩ := h
  rw [h4 hl]
  refine run_convert_bytes_back w 24 9 5 ⟨b, o, none⟩ cap L Tryd.underlying24 Tryd.underlying5 Tryd.underlying9 fun j hj => ?_
  rw [Addr.add_mid, h5 j hj]
  simp [List.getD_eq_getElem?_getD, List.getElem?_eq_getElem hj]

theorem grown_step {w wr w2 : World} {v : Value} {L : List UInt8} {o : Obj} (hgw : w.grownBy wr none) (ho : Owns wr w.heap.size v L) (hg : (wr.alloc o).drew.grownBy w2 v.ownBlock) : w.grownBy w2 none := by
  have h := World.grownBy.trans hgw (World.grownBy_alloc wr o none)
  exact Owns.grown (w1 := wr.alloc o) (ho.alloc o) h ⟨hg.os, hg.tape, hg.output, hg.size, hg.block⟩

def HexRet (w : World) (K : Array UInt8) (e : Ending) (w' : World) : Prop := e = .returned (.string ⟨(hexL K.toList).toArray⟩) ∧ w.grownBy w' none

set_option maxRecDepth 1000000
set_option maxHeartbeats 1000000 in
theorem hex_any (K : Array UInt8) (w : World) (hK : K.size = 32) :
    Calls Tryd.prog 9 #[.agg (K.map encB)] w (HexRet w K) := by
  obtain ⟨C, hC⟩ : ∃ C, K.map encB = C := ⟨_, rfl⟩
  have hCs : C.size = 32 := by rw [← hC, Array.size_map, hK]
  have hat : ∀ k, k < 32 → C[k]? = some (encB K[k]!) := by
    intro k hk
    rw [← hC, Array.getElem?_map, Array.getElem?_eq_getElem (by omega), Option.map_some, getElem!_pos K k (by omega)]
  have hmk : ∀ W : World, (Instr.makeSlice 24 (.int .i64 0) (.int .i64 64)).run Tryd.prog W = .ok (.slice (some ⟨W.heap.size, 0, none⟩) 0 64) (W.alloc (.cells (Array.replicate 64 (encB 0)) 5)) := by intro W; kernel_rfl
  have HAT := Lib.hid hat
  have HC := Lib.hid hC
  have HK := Lib.hid hK
  rw [hC]
  clear hat hC hK
  have hres : Hid (((w.alloc (.cells C 26)).alloc (.cells (Array.replicate 64 (encB 0)) 5)).heap[w.heap.size]? = some (.cells C 26 (0, 0))) := by
    show _ = _
    rw [heap_alloc_old _ _ (by rw [alloc_size]; omega), heap_alloc_new]
  have hgr0 : Hid (w.grownBy ((w.alloc (.cells C 26)).alloc (.cells (Array.replicate 64 (encB 0)) 5)) none) := World.grownBy.trans (World.grownBy_alloc _ _ _) (World.grownBy_alloc _ _ _)
  have how0 : Hid (Owns ((w.alloc (.cells C 26)).alloc (.cells (Array.replicate 64 (encB 0)) 5)) w.heap.size (.slice (some ⟨w.heap.size + 1, 0, none⟩) 0 64) []) := by
    have h := World.ownsRow_made (base := w.heap.size) (e := 5) (size := 1) (w.alloc (.cells C 26)) (Array.replicate 64 (encB 0)) 64 (by rw [alloc_size]; omega) (by unfold maxLen; omega) (by simp)
    rw [alloc_size] at h
    exact h
  have hCs' := Lib.hid hCs
  clear hCs
  go_enter Tryd.func9, Tryd.ntmps9
  go_wp2_with ((with_reducible refine wpList_load_row (o := ⟨some 7, _, _, _, _, _⟩) rfl 26 _ rfl w.heap.size ?_ 26 C (0, 0) (.array 32 5) hres.out Tryd.underlying26 rfl ?_ ?_); (exact rfl); (rw [info26, hCs'.out]))
  go_loopw [3, 8] (fun v i wr => ∃ (k m cp : Nat) (ad : Option Addr), k ≤ 32 ∧ i = .int .i64 k ∧ v = .slice ad m cp ∧ m = 2 * k ∧ cp ≤ 9223372036854775807 ∧ Owns wr w.heap.size v (hexL (K.toList.take k)) ∧ w.grownBy wr none) (fun _ i _ => 32 - (intOf i).toNat)
  case atStart => exact ⟨0, 0, 64, _, by omega, rfl, rfl, rfl, by omega, how0.out, hgr0.out⟩
  case round =>
    obtain ⟨k, m, cp, ad, hk, rfl, rfl, hm, hcp, hown, hgw⟩ := hrel
    have HM := Lib.hid hm
    have HO := Lib.hid hown
    have hm2 : m ≤ 64 := by omega
    have hln : (hexL (K.toList.take k)).length = 2 * k := hexS_size K HK.out k hk
    have HLN := Lib.hid hln
    clear hm hown hln
    by_cases hlt : k < 32
    · obtain ⟨c, hc⟩ : ∃ c, K[k]! = c := ⟨_, rfl⟩
      have hi := HAT.out k hlt
      rw [hc] at hi
      have hix := index_bytes C k _ hlt hi
      have h1 := idx_high c
      have h2 := idx_low c
      have hcl := c.toNat_lt
      change ∀ W, Sem.run Tryd.prog (Instr.index 26 (.agg C) (.int .i64 (k : Int))) W = .ok (.int .u8 (c.toNat : Int)) W at hix
      have HCC := Lib.hid hc
      clear hc hi
      go_wp2
      go_region_law ((refine step_part rfl _ _ rfl w.heap.size (wr.heap.size + 1) (.slice ad m cp) _ (hexL (K.toList.take k)) [dgN (c.toNat / 16), dgN (c.toNat % 16)] ?_ (Owns.alloc (w := wr.drew) HO.out _) ?_ (part_two wr.drew _ _ _ _ 5 rfl rfl) ?_ ?_ ?_); (exact rfl); (exact rfl); (have := HLN.out; simp; omega); (have := hgw.size; simp; omega); (intro v2 w2 ho2 hg2); have HO2 := Lib.hid ho2; have HG2 := Lib.hid hg2; clear ho2 hg2)
      all_goals
        go_wp2
        go_roundw
        case rel =>
          obtain ⟨ad2, cp2, h1, h2, h3⟩ := HO2.out.form
          refine ⟨k + 1, _, cp2, ad2, by omega, by go_num, h1, ?_, h3, ?_, grown_step hgw HO.out HG2.out⟩
          · have := HLN.out; simp only [List.length_append, List.length_cons, List.length_nil]; omega
          · rw [take_snocA K k (by rw [HK.out]; omega), HCC.out, hexL_snoc]
            exact HO2.out
        case measure => simp [intOf]; omega
    · have hk32 : k = 32 := by omega
      subst hk32
      clear hlt hk
      have hpos : 0 < wr.heap.size := by
        obtain ⟨_, _, _⟩ := HO.out.form
        have h := hres.out
        have := hgw.size
        rcases Nat.eq_zero_or_pos wr.heap.size with h0 | h0
        · have h1 := HO.out.2
          rcases h1 with ⟨_, h2⟩ | ⟨g, _, _, _, _, h3, _⟩
          · rw [HLN.out] at h2; omega
          · have := (Array.getElem?_eq_some_iff.1 h3).1; omega
        · exact h0
      have hcv := conv_part (HO.out.part hpos) (by rw [HLN.out]; omega)
      go_wp2
      go_ret
      refine ⟨?_, hgw⟩
      rw [List.take_of_length_le (by rw [Array.length_toList, HK.out]; exact Nat.le_refl _)]
      rfl

set_option maxRecDepth 1000000
set_option maxHeartbeats 1000000 in
theorem refhex_any (K : Array UInt8) (w : World) (hK : K.size = 32) :
    Calls Tryd.prog 10 #[.agg (K.map encB)] w (HexRet w K) := by
  obtain ⟨C, hC⟩ : ∃ C, K.map encB = C := ⟨_, rfl⟩
  have hat : ∀ k, k < 32 → C[k]? = some (encB K[k]!) := by
    intro k hk
    rw [← hC, Array.getElem?_map, Array.getElem?_eq_getElem (by omega), Option.map_some, getElem!_pos K k (by omega)]
  have HAT := Lib.hid hat
  have HK := Lib.hid hK
  rw [hC]
  clear hat hC hK
  obtain ⟨W0, hW0⟩ : ∃ W0, w.alloc (.cells C 26) = W0 := ⟨_, rfl⟩
  have hs0 : W0.heap.size = w.heap.size + 1 := by rw [← hW0, alloc_size]
  have hg0 : w.grownBy W0 none := by rw [← hW0]; exact World.grownBy_alloc _ _ _
  have hc0 : Hid (∀ k, k < 32 → W0.cell? ⟨w.heap.size, k, none⟩ = some (.int .u8 ((K[k]!).toNat : Int))) := by
    intro k hk
    rw [← hW0, alloc_cell, HAT.out k hk]; rfl
  have HS0 := Lib.hid hs0
  have HW0 := Lib.hid hW0
  clear hs0 hW0
  go_enter Tryd.func10, Tryd.ntmps10
  go_wp2
  rw [HW0.out]
  go_loopw [3, 4] (fun v i wr => ∃ (k m cp : Nat) (ad : Option Addr), k ≤ 32 ∧ i = .int .i64 k ∧ v = .slice ad m cp ∧ m = 2 * k ∧ cp ≤ 9223372036854775807 ∧ Owns wr W0.heap.size v (hexL (K.toList.take k)) ∧ W0.grownBy wr none) (fun _ i _ => 32 - (intOf i).toNat)
  case atStart => exact ⟨0, 0, 0, none, by omega, rfl, rfl, rfl, by omega, Owns.nil _ _, World.grownBy.refl _ _⟩
  case round =>
    obtain ⟨k, m, cp, ad, hk, rfl, rfl, hm, hcp, hown, hgw⟩ := hrel
    have HM := Lib.hid hm
    have HO := Lib.hid hown
    have hm2 : m ≤ 64 := by omega
    have hln : (hexL (K.toList.take k)).length = 2 * k := hexS_size K HK.out k hk
    have HLN := Lib.hid hln
    clear hm hown hln
    by_cases hlt : k < 32
    · obtain ⟨c, hc⟩ : ∃ c, K[k]! = c := ⟨_, rfl⟩
      have hi := hgw.cell (hc0.out k hlt) (by simp)
      rw [hc] at hi
      have h1 := idx_high c
      have h2 := idx_low c
      have hcl := c.toNat_lt
      have HCC := Lib.hid hc
      clear hc
      go_wp2
      go_region_law ((refine step_part rfl _ _ rfl W0.heap.size (wr.heap.size + 1) (.slice ad m cp) _ (hexL (K.toList.take k)) [dgN (c.toNat / 16), dgN (c.toNat % 16)] ?_ (Owns.alloc (w := wr.drew) HO.out _) ?_ (part_two wr.drew _ _ _ _ 5 rfl rfl) ?_ ?_ ?_); (exact rfl); (exact rfl); (have := HLN.out; simp; omega); (have := hgw.size; simp; omega); (intro v2 w2 ho2 hg2); have HO2 := Lib.hid ho2; have HG2 := Lib.hid hg2; clear ho2 hg2)
      all_goals
        go_wp2
        go_roundw
        case rel =>
          obtain ⟨ad2, cp2, h1, h2, h3⟩ := HO2.out.form
          refine ⟨k + 1, _, cp2, ad2, by omega, by go_num, h1, ?_, h3, ?_, grown_step hgw HO.out HG2.out⟩
          · have := HLN.out; simp only [List.length_append, List.length_cons, List.length_nil]; omega
          · rw [take_snocA K k (by rw [HK.out]; omega), HCC.out, hexL_snoc]
            exact HO2.out
        case measure => simp [intOf]; omega
    · have hk32 : k = 32 := by omega
      subst hk32
      clear hlt hk
      have hpos : 0 < wr.heap.size := by have := hgw.size; have := HS0.out; omega
      have hcv := conv_part (HO.out.part hpos) (by rw [HLN.out]; omega)
      go_wp2
      go_ret
      refine ⟨?_, World.grownBy.trans hg0 hgw⟩
      rw [List.take_of_length_le (by rw [Array.length_toList, HK.out]; exact Nat.le_refl _)]
      rfl
end Go.Proofs.YtpiikgobdhgldaaDoor
