/- What sha's end tells. -/
import Derived.Test.YtfpehdldgnfciaaGreatDoorI
import Derived.Deep.OwnRows
import Derived.Laws.Tables
namespace Go.Proofs.YtfpehdldgnfciaaGreatDoor.Sha
open Go.RowKit Go.Sort

theorem alloc_size (w : World) (o : Obj) : (w.alloc o).heap.size = w.heap.size + 1 := by
  show (w.heap.push o).size = _
  simp
theorem alloc2_set (w : World) (A B : Array Value) (t u : TypeId) (i : Nat) (v : Value) :
    ((w.alloc (.cells A t)).alloc (.cells B u)).setCell ⟨w.heap.size + 1, i, none⟩ v = (w.alloc (.cells A t)).alloc (.cells (B.setIfInBounds i v) u) := by
  have := alloc_set (w.alloc (.cells A t)) B u i v
  rwa [alloc_size] at this
theorem map_setB (a : Array UInt8) (i : Nat) (x : UInt8) : (a.map encB).setIfInBounds i (encB x) = (a.setIfInBounds i x).map encB := by
  apply Array.ext_getElem?
  intro k
  simp only [Array.getElem?_setIfInBounds, Array.getElem?_map, Array.size_map]
  by_cases h : i = k
  · subst h; by_cases h2 : i < a.size <;> simp [h2]
  · simp [h]

/-- What is put behind a text: a bit, noughts; k bytes of how many bits there were. -/
def tailA (c n : Nat) : Nat → Array UInt8
  | 0 => (Array.replicate (c + 8) 0).setIfInBounds 0 128
  | k + 1 => (tailA c n k).setIfInBounds (c + k) (UInt8.ofNat (n * 8 / 2 ^ (56 - 8 * k)))
theorem tailA_size (c n k : Nat) : (tailA c n k).size = c + 8 := by
  induction k with
  | zero => simp [tailA]
  | succ k ih => simp [tailA, ih]

theorem add_list (bx bp op cap m : Nat) (a : Option Addr) (L M : List UInt8) (w : World) (hm : M.length = m) (hbx : bx ≠ 1) (hbp : bp ≠ bx)
    (hlc : m ≤ cap) (hn : L.length + m ≤ 100000) (ha : 0 < m → a = some ⟨bp, op, none⟩)
    (hp : ∀ j, j < m → w.cell? ⟨bp, op + j, none⟩ = some (.int .u8 ((M.getD j 0).toNat : Int)))
    (hT : ∀ j, j < 64 → w.cell? ⟨1, j, none⟩ = some (encW table[j]!))
    (hL : Has w bx L) :
    Calls Tryz.prog 47 #[.pointer (some ⟨bx, 0, none⟩), .slice a m cap] w fun e w' => e = .returned (.tuple #[]) ∧ w.grownBy w' (some bx) ∧ Has w' bx (L ++ M) := by
  subst hm
  exact add_has bx bp op cap a L M w hbx hbp hlc hn ha hp hT hL

theorem made_zero (m : Nat) : Go.madeCells #[Value.int .u8 0] m = (Array.replicate m (0 : UInt8)).map encB := by
  apply Array.ext
  · simp [Go.madeCells]
  · intro i h1 h2
    simp [Go.madeCells, Nat.mod_one, encB]
theorem zero32 : (Array.replicate 32 (0 : UInt8)).map encB = #[Value.int IntKind.u8 0, Value.int IntKind.u8 0, Value.int IntKind.u8 0, Value.int IntKind.u8 0,
          Value.int IntKind.u8 0, Value.int IntKind.u8 0, Value.int IntKind.u8 0, Value.int IntKind.u8 0,
          Value.int IntKind.u8 0, Value.int IntKind.u8 0, Value.int IntKind.u8 0, Value.int IntKind.u8 0,
          Value.int IntKind.u8 0, Value.int IntKind.u8 0, Value.int IntKind.u8 0, Value.int IntKind.u8 0,
          Value.int IntKind.u8 0, Value.int IntKind.u8 0, Value.int IntKind.u8 0, Value.int IntKind.u8 0,
          Value.int IntKind.u8 0, Value.int IntKind.u8 0, Value.int IntKind.u8 0, Value.int IntKind.u8 0,
          Value.int IntKind.u8 0, Value.int IntKind.u8 0, Value.int IntKind.u8 0, Value.int IntKind.u8 0,
          Value.int IntKind.u8 0, Value.int IntKind.u8 0, Value.int IntKind.u8 0, Value.int IntKind.u8 0] := by kernel_rfl
theorem byte_of (x : Nat) : ((x : Int) % 256) = ((UInt8.ofNat x).toNat : Int) := by
  simp

/-- What end puts behind L. -/
def padOf (L : List UInt8) : List UInt8 := (tailA (64 - (L.length % 64 + 8) % 64) L.length 8).toList
/-- A sum's words as bytes. -/
def keyA (s : St) : Nat → Array UInt8
  | 0 => Array.replicate 32 0
  | k + 1 => ((((keyA s k).setIfInBounds (4 * k) (UInt8.ofNat ((s.row[k]!).toNat / 16777216))).setIfInBounds (4 * k + 1) (UInt8.ofNat ((s.row[k]!).toNat / 65536))).setIfInBounds (4 * k + 2) (UInt8.ofNat ((s.row[k]!).toNat / 256))).setIfInBounds (4 * k + 3) (UInt8.ofNat ((s.row[k]!).toNat))
theorem keyA_size (s : St) (k : Nat) : (keyA s k).size = 32 := by
  induction k with
  | zero => simp [keyA]
  | succ k ih => simp [keyA, ih]
/-- The document's sum of a list. -/
def digest (L : List UInt8) : Array UInt8 := keyA (sumSt (L ++ padOf L)) 8

theorem index_words (cs : Array Value) (k : Nat) (v : Value) (hk : k < 8) (hv : cs[k]? = some v) (W : World) :
    Sem.run Tryz.prog (Instr.index 116 (.agg cs) (.int .i64 (k : Int))) W = .ok v W := by
  have hs : (sizeOf 115).run Tryz.prog W = .ok 1 W := by kernel_rfl
  have ha : (isAgg 115).run Tryz.prog W = .ok false W := by kernel_rfl
  simp [Instr.index, asIntOf, run_underlying Tryz.underlying116, hs, ha, hk, part, hv, Result.andThen]
theorem index_bytes (cs : Array Value) (k : Nat) (v : Value) (hk : k < 32) (hv : cs[k]? = some v) (W : World) :
    Sem.run Tryz.prog (Instr.index 32 (.agg cs) (.int .i64 (k : Int))) W = .ok v W := by
  have hs : (sizeOf 5).run Tryz.prog W = .ok 1 W := by kernel_rfl
  have ha : (isAgg 5).run Tryz.prog W = .ok false W := by kernel_rfl
  simp [Instr.index, asIntOf, run_underlying Tryz.underlying32, hs, ha, hk, part, hv, Result.andThen]

theorem storeCells_row (w : World) (g : Nat) (t ty : TypeId) (old new : Array Value) (hg : w.heap[g]? = some (.cells old t (0, 0))) (hi : (Tryz.prog.info? ty).map (·.size) = some new.size) (ho : old.size = new.size) (h1 : new.all (·.oneCell') = true) :
    (storeCells ⟨g, 0, none⟩ new.toList 0).run Tryz.prog w = .ok () (w.setRow g new) := by
  have := run_storeVar_row (P := Tryz.prog) w g t ty old new hg hi ho h1
  cases hq : Tryz.prog.info? ty with
  | none => simp [hq] at hi
  | some i =>
    have hs : new.size = i.size := by simp [hq] at hi; omega
    simpa [storeVar, sizeOf, typeInfo, hq, Value.cells, hs] using this

theorem info26 : (Tryz.prog.info? 32).map (·.size) = some 32 := by kernel_rfl
theorem info39 : (Tryz.prog.info? 116).map (·.size) = some 8 := by kernel_rfl

set_option maxRecDepth 1000000
set_option maxHeartbeats 1000000 in
theorem end_any (bx : Nat) (L : List UInt8) (w : World) (hbx : bx ≠ 1) (hn : L.length ≤ 10000)
    (hT : ∀ j, j < 64 → w.cell? ⟨1, j, none⟩ = some (encW table[j]!))
    (hL : Has w bx L) :
    Calls Tryz.prog 48 #[.pointer (some ⟨bx, 0, none⟩)] w fun e w' => e = .returned (.agg ((digest L).map encB)) ∧ w.grownBy w' (some bx) := by
  have HH := Lib.hid hL
  obtain ⟨R, hR, hl, hr⟩ := hL
  obtain ⟨n, hln⟩ : ∃ n, L.length = n := ⟨_, rfl⟩
  obtain ⟨f, hlf⟩ : ∃ f, L.length % 64 = f := ⟨_, rfl⟩
  obtain ⟨c, hc⟩ : ∃ c, 64 - (f + 8) % 64 = c := ⟨_, rfl⟩
  rw [hlf, hln] at hl
  have hb0 : 1 < w.heap.size := World.block_lt_of_cell? _ _ (hT 0 (by omega))
  have g72 : w.cell? ⟨bx, 72, none⟩ = some (.int .i64 (f : Int)) := by rw [cell_in hl, obj_filled _ _ _ _ hR]
  have g73 : w.cell? ⟨bx, 73, none⟩ = some (.int .u64 (n : Int)) := by rw [cell_in hl, obj_length _ _ _ _ hR]
  have hlt : bx < w.heap.size := (Array.getElem?_eq_some_iff.1 hl).1
  have hf : f < 64 := by omega
  have hn2 : n ≤ 10000 := by omega
  have hc1 : 64 - ((f : Int) + 8) % 64 = (c : Int) := by omega
  have hc2 : c ≤ 64 := by omega
  have hmk : ∀ W : World, Sem.run Tryz.prog (Instr.makeSlice 24 (.int .i64 ((c : Int) + 8)) (.int .i64 ((c : Int) + 8))) W = Result.ok (.slice (some ⟨W.heap.size, 0, none⟩) (c + 8) (c + 8)) (W.alloc (.cells ((Array.replicate (c + 8) (0 : UInt8)).map encB) 5)) := by
    intro W
    have h := run_make_row' (P := Tryz.prog) 24 5 (.int .u8 0) 1 Tryz.underlying24 (by kernel_rfl) rfl .i64 .i64 (c + 8) (by omega) (by omega) W
    rw [made_zero] at h
    exact h
  have HLN := Lib.hid hln
  have HLF := Lib.hid hlf
  have HC := Lib.hid hc
  have HT := Lib.hid hT
  clear hl hc hr hln hlf hT hR hn
  go_enter Tryz.func48, Tryz.ntmps48
  go_wp2
  go_loopw [27] (fun i wr => ∃ k : Nat, k ≤ 8 ∧ i = .int .i64 k ∧ wr = (w.alloc (.cells ((Array.replicate 32 (0 : UInt8)).map encB) 32)).alloc (.cells ((tailA c n k).map encB) 5)) (fun i _ => 8 - (intOf i).toNat)
  case atStart =>
    refine ⟨0, by omega, rfl, ?_⟩
    rw [zero32]
    refine congrArg (fun v => World.alloc _ (.cells v 5)) ?_
    show _ = ((Array.replicate (c + 8) (0 : UInt8)).setIfInBounds 0 128).map encB
    rw [← map_setB]
    simp
    rfl
  case round =>
    obtain ⟨k, hk, rfl, hw⟩ := hrel
    by_cases hk8 : k < 8
    · have hcell : ∃ v, wr.cell? ⟨w.heap.size + 1, c + k, none⟩ = some v := by
        rw [hw, ← alloc_size w (.cells ((Array.replicate 32 (0 : UInt8)).map encB) 32), alloc_cell, Array.getElem?_eq_getElem (by simp [tailA_size]; omega)]
        exact ⟨_, rfl⟩
      obtain ⟨v, hv⟩ := hcell
      have hfr : wr.frozen? ⟨w.heap.size + 1, c + k, none⟩ = false := by
        rw [hw, ← alloc_size w (.cells ((Array.replicate 32 (0 : UInt8)).map encB) 32), alloc_frozen]
      have HW := Lib.hid hw
      clear hw
      go_wp2
      go_roundw
      case rel =>
        refine ⟨k + 1, by omega, by go_num, ?_⟩
        rw [HW.out, alloc2_set]
        refine congrArg (fun v => World.alloc _ (.cells v 5)) ?_
        show _ = ((tailA c n k).setIfInBounds (c + k) (UInt8.ofNat (n * 8 / 2 ^ (56 - 8 * k)))).map encB
        rw [← map_setB]
        refine congrArg (fun v => Array.setIfInBounds _ _ (Value.int .u8 v)) ?_
        rw [← byte_of]
        simp
      case measure => simp [intOf]; omega
    · have hk8' : k = 8 := by omega
      subst hk8'
      clear hk8 hk
      obtain ⟨T, hTT⟩ : ∃ T, (tailA c n 8).toList = T := ⟨_, rfl⟩
      have hTL : T.length = c + 8 := by rw [← hTT]; simpa using tailA_size c n 8
      have hgr : w.grownBy wr (some bx) := by rw [hw]; exact World.grownBy.trans (World.grownBy_alloc _ _ _) (World.grownBy_alloc _ _ _)
      have HTL := Lib.hid hTL
      have HPT : Hid (∀ j, j < c + 8 → wr.cell? ⟨w.heap.size + 1, 0 + j, none⟩ = some (.int .u8 ((T.getD j 0).toNat : Int))) := by
        intro j hj
        rw [hw, Nat.zero_add, ← alloc_size w (.cells ((Array.replicate 32 (0 : UInt8)).map encB) 32), alloc_cell, ← hTT, Array.getElem?_map, List.getD_eq_getElem?_getD, Array.getElem?_toList, Array.getElem?_eq_getElem (by rw [tailA_size]; exact hj)]
        rfl
      have hres : Hid (wr.heap[w.heap.size]? = some (.cells ((Array.replicate 32 (0 : UInt8)).map encB) 32 (0, 0))) := by
        show _ = _
        rw [hw, heap_alloc_old _ _ (by rw [alloc_size]; omega), heap_alloc_new]
      have hHw : Hid (Has wr bx L) := by
        obtain ⟨R, h1, h2, h3⟩ := HH.out
        refine ⟨R, h1, ?_, h3⟩
        unfold Lies at *
        rw [hw, heap_alloc_old _ _ (by rw [alloc_size]; omega), heap_alloc_old _ _ hlt, h2]
      have hTw : Hid (∀ j, j < 64 → wr.cell? ⟨1, j, none⟩ = some (encW table[j]!)) := fun j hj => hgr.cell (HT.out j hj) (by simpa using hbx.symm)
      have HPAD : Hid (L ++ padOf L = L ++ T) := by
        show _ = _
        rw [← hTT, ← HC.out, ← HLF.out, ← HLN.out]; rfl
      have hsz : w.heap.size < wr.heap.size := by rw [hw, alloc_size, alloc_size]; omega
      clear hTT hTL hw
      obtain ⟨s2, hs2⟩ : ∃ s, sumSt (L ++ T) = s := ⟨_, rfl⟩
      have HS2 := Lib.hid hs2
      clear hs2
      go_wp2_with (first
        | ((go_at_call 47; refine (add_list bx (w.heap.size + 1) 0 (c + 8) (c + 8) _ L T wr HTL.out hbx (by omega) (Nat.le_refl _) (by have := HLN.out; omega) (fun _ => rfl) HPT.out hTw.out hHw.out).mono ?_; rintro ee ww ⟨rfl, hgw, hhw⟩; obtain ⟨R2, hR2, hl2, _⟩ := hhw; rw [HS2.out] at hl2; have hld : Hid (∀ o : Obj, (ww.alloc o).rangeAt bx 0 (s2.row.map encW).toList) := (fun o j v hv => by
            have hj : j < 8 := by have := (List.getElem?_eq_some_iff.1 hv).1; simpa [row_size] using this
            rw [Nat.zero_add, World.cell?_alloc_old _ _ _ (Nat.ne_of_lt (Nat.lt_of_lt_of_le hlt (Nat.le_trans hgr.size hgw.size))), cell_in hl2, obj_row _ _ _ _ _ hj]
            rw [Array.getElem?_toList, map_at _ _ (by rw [row_size]; exact hj)] at hv
            exact hv); clear hl2 hR2))
        | ((with_reducible refine wpList_load_mid (op := ⟨some 48, _, _, _, _, _⟩) rfl 116 _ rfl bx 0 ?_ (s2.row.map encW).toList (.array 8 115) ?_ ?_ rfl ?_ ?_); (exact rfl); (exact hld.out _); (exact Tryz.underlying116); (rw [info39]; simp [row_size])))
      generalize hAA : (List.map encW s2.row.toList).toArray = AA
      have hA1 : AA.size = 8 := by rw [← hAA]; simp [row_size]
      have hA2 : ∀ k, k < 8 → AA[k]? = some (encW s2.row[k]!) := by
        intro k hk
        rw [← hAA, List.getElem?_toArray, List.getElem?_map, Array.getElem?_toList, Array.getElem?_eq_getElem (by rw [row_size]; exact hk), Option.map_some, getElem!_pos s2.row k (by rw [row_size]; exact hk)]
      have HA1 := Lib.hid hA1
      have HA2 := Lib.hid hA2
      clear hAA hA1 hA2
      go_loopw [49] (fun i wr => ∃ k : Nat, k ≤ 8 ∧ i = .int .i64 k ∧ wr = ww.alloc (.cells ((keyA s2 k).map encB) 32)) (fun i _ => 8 - (intOf i).toNat)
      case atStart =>
        refine ⟨0, by omega, rfl, ?_⟩
        rw [← zero32]
        rfl
      case round =>
        obtain ⟨k, hk, rfl, hw⟩ := hrel
        by_cases hk8 : k < 8
        · obtain ⟨x, hx⟩ : ∃ x, s2.row[k]! = x := ⟨_, rfl⟩
          have hi := HA2.out k hk8
          rw [hx] at hi
          change AA[k]? = some (.int .u32 (x.toNat : Int)) at hi
          have hix := index_words AA k _ hk8 hi
          have hcell : ∀ j, j < 32 → ∃ v, wr.cell? ⟨ww.heap.size, j, none⟩ = some v := by
            intro j hj
            rw [hw, alloc_cell, Array.getElem?_eq_getElem (by simp [keyA_size]; omega)]
            exact ⟨_, rfl⟩
          obtain ⟨v0, hv0⟩ := hcell (4 * k) (by omega)
          obtain ⟨v1, hv1⟩ := hcell (4 * k + 1) (by omega)
          obtain ⟨v2, hv2⟩ := hcell (4 * k + 2) (by omega)
          obtain ⟨v3, hv3⟩ := hcell (4 * k + 3) (by omega)
          have hfr : ∀ j, wr.frozen? ⟨ww.heap.size, j, none⟩ = false := by
            intro j
            rw [hw, alloc_frozen]
          have z0 := hfr (4 * k)
          have z1 := hfr (4 * k + 1)
          have z2 := hfr (4 * k + 2)
          have z3 := hfr (4 * k + 3)
          have HX := Lib.hid hx
          have HW := Lib.hid hw
          clear hx hw hi hcell hfr
          go_wp2
          go_roundw
          case rel =>
            refine ⟨k + 1, by omega, by go_num, ?_⟩
            have e0 : (x.toNat : Int) / 16777216 % 256 = ((UInt8.ofNat (x.toNat / 16777216)).toNat : Int) := by rw [← byte_of]; simp
            have e1 : (x.toNat : Int) / 65536 % 256 = ((UInt8.ofNat (x.toNat / 65536)).toNat : Int) := by rw [← byte_of]; simp
            have e2 : (x.toNat : Int) / 256 % 256 = ((UInt8.ofNat (x.toNat / 256)).toNat : Int) := by rw [← byte_of]; simp
            have e3 : (x.toNat : Int) % 256 = ((UInt8.ofNat x.toNat).toNat : Int) := by rw [← byte_of]
            rw [e0, e1, e2, e3, HW.out, alloc_set, alloc_set, alloc_set, alloc_set]
            refine congrArg (fun v => World.alloc _ (.cells v 32)) ?_
            show _ = (((((keyA s2 k).setIfInBounds (4 * k) (UInt8.ofNat ((s2.row[k]!).toNat / 16777216))).setIfInBounds (4 * k + 1) (UInt8.ofNat ((s2.row[k]!).toNat / 65536))).setIfInBounds (4 * k + 2) (UInt8.ofNat ((s2.row[k]!).toNat / 256))).setIfInBounds (4 * k + 3) (UInt8.ofNat ((s2.row[k]!).toNat))).map encB
            rw [HX.out, ← map_setB, ← map_setB, ← map_setB, ← map_setB]
            rfl
          case measure => simp [intOf]; omega
        · have hk8' : k = 8 := by omega
          subst hk8'
          clear hk8 hk
          have hnew : Hid (wr.heap[ww.heap.size]? = some (.cells ((keyA s2 8).map encB) 32 (0, 0))) := by
            show _ = _
            rw [hw, heap_alloc_new]
          have hnl : w.heap.size < ww.heap.size := Nat.lt_of_lt_of_le hsz hgw.size
          have hold : Hid (wr.heap[w.heap.size]? = some (.cells ((Array.replicate 32 (0 : UInt8)).map encB) 32 (0, 0))) := by
            show _ = _
            rw [hw, heap_alloc_old _ _ hnl, hgw.block _ hsz (by simp; omega), hres.out]
          have hks : ((keyA s2 8).map encB).size = 32 := by rw [Array.size_map, keyA_size]
          have HKS := Lib.hid hks
          have hone : Hid (((keyA s2 8).map encB).all (·.oneCell') = true) := by
            show _ = _
            rw [Array.all_map]
            exact Array.all_eq_true.2 fun i hi => rfl
          have HW := Lib.hid hw
          clear hw hks
          generalize hKK : (keyA s2 8).map encB = KK at *
          have hst := storeCells_row wr w.heap.size 32 32 _ KK hold.out (by rw [info26, HKS.out]) (by rw [HKS.out]; simp) hone.out
          go_wp2_with ((with_reducible refine wpList_load_row (o := ⟨some 80, _, _, _, _, _⟩) rfl 32 _ rfl ww.heap.size ?_ 32 KK (0, 0) (.array 32 5) hnew.out Tryz.underlying32 rfl ?_ ?_); (exact rfl); (rw [info26, HKS.out]))
          refine bodyPost_ret (v := .agg KK) ?_ rfl ⟨?_, ?_⟩
          · refine results_cell_row rfl _ _ w.heap.size 32 KK (0, 0) _ rfl ?_ Tryz.underlying32 rfl (by rw [info26, HKS.out])
            exact setRow_heap wr w.heap.size _ KK 32 _ hold.out
          · rw [← hKK, ← HS2.out]
            have e : L ++ padOf L = L ++ T := HPAD.out
            unfold digest
            rw [e]
          · have h1 := World.grownBy.trans hgr hgw
            have h2 : ww.grownBy wr (some bx) := by rw [HW.out]; exact World.grownBy_alloc _ _ _
            have h3 := World.grownBy.trans h1 h2
            exact ⟨h3.os, h3.tape, h3.output, by rw [show (wr.setRow w.heap.size KK).heap.size = wr.heap.size by simp [World.setRow]]; exact h3.size, fun k hk hne => by rw [setRow_other _ _ _ _ (by omega)]; exact h3.block k hk hne⟩
end Go.Proofs.YtfpehdldgnfciaaGreatDoor.Sha
