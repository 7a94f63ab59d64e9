/- The reference's tree: put. -/
import Derived.Test.YtichejodbohldaaGreatDoorOaM
import Derived.Test.YtichejodbohldaaGreatDoorOcM
import Derived.RangeFuncBox
import Derived.BigRegion
import Derived.Great.BuildSlice
namespace Go.Proofs.YtichejodbohldaaGreatDoor
open Go.RowKit Go.Maps Go.Lib
set_option maxRecDepth 1000000
theorem filesC_app (X Y : As Gn) : filesC (X ++ Y) = filesC X ++ filesC Y := List.flatMap_append
theorem filesC_one (Y : As Gn) : ∀ u ∈ filesC Y, u.oneCell' = true := fun u hu => by
  obtain ⟨e, _, h⟩ := List.mem_flatMap.1 hu
  exact fileC_one e u h
theorem file_row {w : World} {base n cap : Nat} {ao : Option Addr} {A : As Gn} (h : OwnsF w base (.slice ao n cap) A) (b : Addr) (e : ao = some b) : ∃ g, b = ⟨g, 0, none⟩ ∧ ∀ t u, (filesC A)[t]? = some u → w.cell? ⟨g, t, none⟩ = some u := by
  subst e
  rcases h.2 with ⟨h1, h2⟩ | ⟨g, cap', cur, h1, h2, h3, h4, h5, h6, h7⟩
  · cases h1
  · refine ⟨g, Option.some.inj (Value.slice.inj h1).1, fun t u hu => ?_⟩
    rw [cell_in h3]
    rw [← h7, List.getElem?_take] at hu
    split at hu
    · simpa using hu
    · cases hu
theorem file_take {w : World} {base n cap : Nat} {ao : Option Addr} {A : As Gn} (h : OwnsF w base (.slice ao n cap) A) (j : Nat) : ∀ b, ao = some b → ∀ t u, (filesC (A.take j))[t]? = some u → w.cell? (b.add t) = some u := by
  intro b e t u hu
  obtain ⟨g, rfl, hc⟩ := file_row h b e
  rw [Addr.add_mid, Nat.zero_add]
  refine hc t u ?_
  have hl := (List.getElem?_eq_some_iff.1 hu).1
  rw [← List.take_append_drop j A, filesC_app, List.getElem?_append_left hl]
  exact hu
theorem file_drop {w : World} {base n cap g : Nat} {A : As Gn} (h : OwnsF w base (.slice (some ⟨g, 0, none⟩) n cap) A) (j : Nat) (hj : j ≤ n) (hn : A.length = n) : ∀ t u, (filesC (A.drop j))[t]? = some u → w.cell? ((⟨g, j * 3, none⟩ : Addr).add t) = some u := by
  intro t u hu
  obtain ⟨g', hg, hc⟩ := file_row h _ rfl
  obtain rfl : g = g' := by cases hg; rfl
  rw [Addr.add_mid]
  refine hc (j * 3 + t) u ?_
  have hl : (filesC (A.take j)).length = j * 3 := by rw [filesC_len, List.length_take, hn, Nat.min_eq_left hj]
  rw [← List.take_append_drop j A, filesC_app, List.getElem?_append_right (by omega), hl, Nat.add_sub_cancel_left]
  exact hu
theorem file_nil {w : World} {base n cap j : Nat} {ao : Option Addr} {A : As Gn} (h : OwnsF w base (.slice ao n cap) A) (hj : j ≤ n) : ao = none → j = 0 ∧ j = 0 := by
  intro e
  subst e
  rcases h.2 with ⟨h1, h2⟩ | ⟨g, cap', cur, h1, _⟩
  · have := (Value.slice.inj h1).2.1; omega
  · cases h1
theorem file_cut {w : World} {base n cap : Nat} {ao : Option Addr} {A : As Gn} (h : OwnsF w base (.slice ao n cap) A) (j : Nat) (hc : n ≤ cap) : 0 < n - j → ∃ g, ao = some ⟨g, 0, none⟩ ∧ (if cap = j then ao else Option.map (fun x => Addr.add x (j * 3)) ao) = some ⟨g, j * 3, none⟩ := by
  intro hr
  rcases h.2 with ⟨h1, h2⟩ | ⟨g, cap', cur, h1, _⟩
  · have := (Value.slice.inj h1).2.1; omega
  · have e := (Value.slice.inj h1).1
    subst e
    refine ⟨g, rfl, ?_⟩
    rw [if_neg (by omega)]
    show some (Addr.add _ _) = _
    rw [Addr.add_mid, Nat.zero_add]
theorem run_append_zero {P : Program} (w : World) (t ty e : TypeId) (i : TypeInfo) (ht : P.underlying t = some (.slice e)) (hi : P.info? e = some i) (a xa : Option Addr) (n cap c : Nat) (h : n ≤ cap) :
    (Builtin.append_ #[t, t] ty #[.slice a n cap, .slice xa 0 c]).run P w = .ok (.slice a n cap) w := by
  cases a <;> cases xa <;> simp [Builtin.append_, run_underlying ht, sizeOf, typeInfo, hi, Builtin.lenOf, Builtin.firstCells, h, storeCells, loadCells, loadCellsFrom]
section
variable {P : Program} {a : Act} {w : World} {o : Oper} {K : Act → World → Prop} {Q : Exit → Act → World → Prop}
theorem op_append_zero (s x : Operand) (t e : TypeId) (i : TypeInfo) (ho : o.op = .call { callee := .builtin .append, args := #[s, x], argTypes := #[t, t] }) (ht : P.underlying t = some (.slice e)) (hi : P.info? e = some i)
    (sa xa : Option Addr) (n cap c : Nat) (hs : a.eval s = .slice sa n cap) (hx : a.eval x = .slice xa 0 c) (hn : n ≤ cap) (h : K (a.put o.dst (.slice sa n cap)) w) : o.wp P a w K Q := by
  have hrun := run_append_zero (P := P) w t o.type e i ht hi sa xa n cap c hn
  unfold Oper.wp
  simp [execOp, ho, resolve, invoke, builtin, hs, hx, hrun, Result.andThen]
  exact h
theorem op_append_grows (s x : Operand) (t : TypeId) (ho : o.op = .call { callee := .builtin .append, args := #[s, x], argTypes := #[t, t] })
    (e : TypeId) (i : TypeInfo) (z : Value) (size bytes : Nat) (h1 : P.underlying t = some (.slice e)) (h2 : P.info? e = some i) (h3 : i.zero = some z) (h4 : i.size = size) (h5 : i.bytes = bytes) (h6 : z.cells.size = size) (h7 : 0 < size)
    (ao : Option Addr) (n cap : Nat) (olds : List Value) (hs : a.eval s = .slice ao n cap) (hnone : ao = none → n = 0 ∧ cap = 0) (hlo : olds.length = n * size) (holds : ∀ b, ao = some b → ∀ j u, olds[j]? = some u → w.cell? (b.add j) = some u)
    (ad : Addr) (m c : Nat) (news : List Value) (hx : a.eval x = .slice (some ad) m c) (hn : news.length = m * size) (hc : ∀ j u, news[j]? = some u → w.cell? (ad.add j) = some u) (h1c : ∀ u ∈ news, u.oneCell' = true)
    (hfull : cap < n + m) (b1 : n + m ≤ maxLen) (b2 : (n + m) * bytes ≤ 140737488355328)
    (hK : ∀ v' w', w'.ownsRow w.heap.size e size v' (n + m) (olds ++ news) → w.grownBy w' none → K (a.put o.dst v') w') : o.wp P a w K Q := by
  cases ao with
  | some b =>
    obtain ⟨v', w', hrun, r1, r2⟩ := run_append_arg_grows (P := P) w t o.type e i z size bytes h1 h2 h3 h4 h5 h6 h7 b n cap olds hlo (holds b rfl) ad m c news hn hc hfull b1 b2
    unfold Oper.wp
    simp [execOp, ho, resolve, invoke, builtin, hs, hx, hrun, Result.andThen]
    exact hK _ _ r1 r2
  | none =>
    obtain ⟨rfl, rfl⟩ := hnone rfl
    have hol : olds = [] := List.eq_nil_of_length_eq_zero (by simpa using hlo)
    subst hol
    obtain ⟨v', w', hrun, r1, r2, _⟩ := run_append_own (P := P) w w.heap.size t o.type e i z size bytes h1 h2 h3 h4 h5 h6 h7 (.slice none 0 0) 0 [] (World.ownsRow_nil w _ e size) ad m c news hn hc h1c b1 b2 (Nat.le_refl _)
    unfold Oper.wp
    simp [execOp, ho, resolve, invoke, builtin, hs, hx, hrun, Result.andThen]
    exact hK _ _ r1 r2
theorem fold_set (l : List Value) : ∀ (k : Nat) (Z : Array Value), k + l.length ≤ Z.size → ((l.zipIdx k).foldl (fun cs x => cs.setIfInBounds (0 + x.2) x.1) Z).toList = Z.toList.take k ++ l ++ Z.toList.drop (k + l.length) := by
  induction l with
  | nil => intro k Z h; simp
  | cons v l ih =>
    intro k Z h
    rw [List.length_cons] at h
    rw [List.zipIdx_cons, List.foldl_cons, ih (k + 1) _ (by simp; omega)]
    simp only [Nat.zero_add, Array.toList_setIfInBounds, List.length_cons]
    have hk : k < Z.toList.length := by simp; omega
    rw [List.take_set, List.drop_set_of_lt (by omega), show k + (l.length + 1) = k + 1 + l.length by omega]
    have e : (Z.toList.take (k + 1)).set k v = Z.toList.take k ++ [v] := by
      have hl : (Z.toList.take k).length = k := by rw [List.length_take]; omega
      rw [List.take_add_one, List.getElem?_eq_getElem hk, List.set_append_right _ _ (by omega), hl, Nat.sub_self]
      rfl
    rw [e]
    simp
theorem fill_one (n : Nat) (Z C : Array Value) (hz : Z.size = n) (hC : C.size = n) : Instr.fill (fun i => some (i * n, n)) Z [(0, .agg C)] = some C := by
  unfold Instr.fill
  simp only [Nat.zero_mul]
  have h1 : (Value.agg C).cells = C := rfl
  rw [h1, if_neg (by simp [hz, hC])]
  unfold Instr.fill
  congr 1
  have h2 := fold_set C.toList 0 Z (by simp [hz, hC])
  rw [← Array.foldl_toList, Array.toList_zipIdx]
  apply Array.ext'
  rw [List.take_zero, List.nil_append, Nat.zero_add, List.drop_eq_nil_of_le (by simp [hz, hC]), List.append_nil] at h2
  exact h2
/-- A slice of one file, in a region that draws its order. -/
theorem op_slice_file {a : Act} {w : World} {o : Oper} {K : Act → World → Prop} {Q : Exit → Act → World → Prop} (x : Operand) (ho : o.op = .buildSlice 28 1 #[(0, x)]) (C : Array Value) (hC : C.size = 3) (hx : a.eval x = .agg C)
    (h : K (a.put o.dst (.slice (some ⟨w.heap.size, 0, none⟩) 1 1)) (w.alloc (.cells C 68))) : o.wp Tryz.prog a w K Q := by
  obtain ⟨i0, hi, hz0, hz1, hz2⟩ := info_parts infoF
  refine wp_buildSlice 28 68 1 #[(0, x)] ho C i0 _ Tryz.underlying28 hi hz0 (by rw [hz1]; decide) (by rw [hz1]; decide) ?_ h
  rw [hz1]
  simp only [List.map_toArray, List.map_cons, List.map_nil, hx]
  exact fill_one 3 _ C (by simp) hC
end
theorem zeroF_cells : (Value.agg #[.string ByteArray.empty, .bool false, .slice none 0 0]).cells.size = 3 := rfl
def PutRef (rb : Nat) (Y : As Gn) (w : World) (e : Ending) (w' : World) : Prop := e = .returned (.tuple #[]) ∧ ∃ a c, RefIn w' rb Y a c ∧ Kept w w' (· = rb) ∧ ∀ k, (Value.slice a Y.length c).ownBlock = some k → w.heap.size ≤ k
/-- What is known when the list is written. -/
theorem OwnsF.low {w : World} {b c : Nat} {v : Value} {Y : As Gn} (h : OwnsF w b v Y) (hc : c ≤ b) : OwnsF w c v Y := by
  obtain ⟨h0, h1⟩ := h
  refine ⟨h0, ?_⟩
  rcases h1 with h1 | ⟨g, cap, cur, h1, h2, h3⟩
  · exact .inl h1
  · exact .inr ⟨g, cap, cur, h1, Nat.le_trans hc h2, h3⟩
theorem put_done {rb c g6 tot c6 : Nat} {Y Z : As Gn} {a : Option Addr} {p : ByteArray} {g : Gn} {w W0 W1 wE WF : World} (hR : RefIn w rb Y a c) (g0 : w.grownBy W0 none) (g1 : W0.grownBy W1 none) (gE : W1.grownBy wE none) (gF : wE.grownBy WF (some rb))
    (hd : WF.heap[rb]? = some (.cells #[.slice (some ⟨g6, 0, none⟩) tot c6] 30 (0, 0))) (ho : OwnsF wE W1.heap.size (.slice (some ⟨g6, 0, none⟩) tot c6) Z) (hu : putA Y p g = Z) (hg : Owns w 0 g.v g.nd.b) : PutRef rb (putA Y p g) w (.returned (.tuple #[])) WF := by
  rw [hu]
  have gw1 := World.grownBy.trans g0 g1
  have gw := World.grownBy.trans gw1 gE
  have hlen : Z.length = tot := by
    obtain ⟨_, _, e, _⟩ := ho.form
    exact ((Value.slice.inj e).2.1).symm
  have hk : Kept w WF (· = rb) := (Kept.ofNone gw _).trans (Kept.one gF) fun i e => .inl e
  have hrb : rb < W1.heap.size := Nat.lt_of_lt_of_le (bk_size hR.head) gw1.size
  have hne : ∀ {v : Value} {L : List UInt8}, Owns w 0 v L → ∀ k, v.ownBlock = some k → ¬ k = rb := fun h k hk0 e => by
    rw [e] at hk0
    exact h.apart hR.head (by decide) hk0
  subst hlen
  refine ⟨rfl, some ⟨g6, 0, none⟩, c6, ⟨hd, (ho.low (Nat.zero_le _)).keeps (Kept.one gF) (fun k hk e => by have := (ho.block_lt k hk).1; omega), fun e he => ?_, by rw [← hu]; exact hR.asc.put p g⟩, hk, fun k hk2 => Nat.le_trans gw1.size (ho.block_lt k hk2).1⟩
  rw [← hu] at he
  rcases mem_put he with rfl | he
  · exact hg.keeps hk (hne hg)
  · exact (hR.row e he).keeps hk (hne (hR.row e he))
set_option maxHeartbeats 8000000 in
theorem refPut_any (rb c : Nat) (Y : As Gn) (a : Option Addr) (p : ByteArray) (g : Gn) (d : Bool) (x : Option Addr) (m y : Nat) (w : World) (h : RefIn w rb Y a c) (hY : Y.length ≤ 1000000) (hd : g.nd.dir = d) (hv : g.v = .slice x m y) (hg : Owns w 0 g.v g.nd.b) :
    Calls Tryz.prog 48 #[.pointer (some ⟨rb, 0, none⟩), .agg #[.string p, .bool d, .slice x m y]] w (PutRef rb (putA Y p g) w) := by
  have HR := Lib.hid h
  obtain ⟨c0, f0⟩ := h.cell
  obtain ⟨n, hn⟩ : ∃ n, Y.length = n := ⟨_, rfl⟩
  have HN := Lib.hid hn
  have HG := Lib.hid (And.intro hd (And.intro hv hg))
  rw [hn] at c0 hY
  clear h f0 hn hd hv hg
  go_enter Tryz.func48, Tryz.ntmps48
  go_wp2_with fail
  obtain ⟨W0, hW0⟩ : ∃ W0, w.alloc (.cells #[.string p, .bool d, .slice x m y] 68) = W0 := ⟨_, rfl⟩
  obtain ⟨bx, hbx⟩ : ∃ bx, w.heap.size = bx := ⟨_, rfl⟩
  rw [hW0, hbx]
  have G0 : Hid (w.grownBy W0 none) := Lib.hid (by rw [← hW0]; exact World.grownBy_alloc _ _ _)
  have HBX : Hid (W0.heap[bx]? = some (.cells #[.string p, .bool d, .slice x m y] 68 (0, 0))) := Lib.hid (by rw [← hW0, ← hbx]; exact bk_alloc _ _)
  have HBR : Hid (¬ bx = rb ∧ w.heap.size = bx) := Lib.hid ⟨by have := bk_size HR.out.head; omega, hbx⟩
  clear hW0 hbx c0
  go_loopw [4] (fun i wr => ∃ j : Nat, j ≤ n ∧ i = .int .i64 (j : Int) ∧ Hid (W0.grownBy wr none ∧ ∀ k e, k < j → Y[k]? = some e → lessA e.1 p = true)) (fun i _ => n - (intOf i).toNat)
  case atStart => exact ⟨0, Nat.zero_le _, rfl, Lib.hid ⟨World.grownBy.refl _ _, fun k e hk => by omega⟩⟩
  case round =>
    obtain ⟨j, hj, rfl, HS⟩ := hrel
    have hRw := (HR.out.stays G0.out).stays HS.out.1
    obtain ⟨c1, _⟩ := hRw.cell
    rw [HN.out] at c1
    have b0 := (bk_cell (bk_kept HBX.out HS.out.1) 0 _ rfl).1
    have j0 : (0 : Int) ≤ (j : Int) := by omega
    have hRD := Lib.hid hRw
    by_cases hjn : j < n
    · obtain ⟨⟨q, g1⟩, hx⟩ : ∃ x, Y[j]? = some x := ⟨Y[j]'(by rw [HN.out]; exact hjn), List.getElem?_eq_getElem _⟩
      obtain ⟨b, x1, y1, rfl, _, q1, _, _⟩ := hRw.at j q g1 hx
      have HX := Lib.hid hx
      have hd1 : decide ((j : Int) < (n : Int)) = true := by simp; omega
      clear hx hRw
      cases hl : lessA q p with
      | true =>
        have e1 : Op.bytesLess q.toList p.toList = true := by unfold lessA at hl; rw [ByteArray.toList_eq, ByteArray.toList_eq]; exact hl
        have HNX : Hid (∀ k e, k < j + 1 → Y[k]? = some e → lessA e.1 p = true) := Lib.hid fun k e hk he => by
          by_cases h2 : k < j
          · exact HS.out.2 k e h2 he
          · have : k = j := by omega
            subst this
            rw [HX.out] at he
            obtain rfl := Option.some.inj he
            exact hl
        clear hl
        go_wp2_with fail
        go_quiet (fail)
        clear c1 b0 q1
        go_wp2_with fail
        go_roundw
        case rel => exact ⟨j + 1, by omega, by go_num, Lib.hid ⟨grown_drew nq HS.out.1, HNX.out⟩⟩
        case measure => simp [intOf]; omega
      | false =>
        have e1 : Op.bytesLess q.toList p.toList = false := by unfold lessA at hl; rw [ByteArray.toList_eq, ByteArray.toList_eq]; exact hl
        have HL := Lib.hid hl
        clear hl
        go_wp2_with fail
        go_quiet (fail)
        clear c1 b0 q1
        go_wp2_with fail
        --MID1
        obtain ⟨W5, hW5⟩ : ∃ W5, wr.drewN nq = W5 := ⟨_, rfl⟩
        have G5 : Hid (W0.grownBy W5 none) := Lib.hid (by rw [← hW5]; exact grown_drew nq HS.out.1)
        rw [hW5]
        clear hW5
        have hRw := (HR.out.stays G0.out).stays G5.out
        obtain ⟨c1, _⟩ := hRw.cell
        rw [HN.out] at c1
        have b0 := (bk_cell (bk_kept HBX.out G5.out) 0 _ rfl).1
        obtain ⟨b', x', y', hab, _, q1, _, _⟩ := hRw.at j q g1 HX.out
        obtain rfl : b = b' := by cases hab; rfl
        clear hab hRw
        by_cases hq : q = p
        · have hq2 := hq.symm
          subst hq2
          clear hq
          have HUP : Hid (putA Y p g = Y.take j ++ (p, g) :: Y.drop (j + 1)) := Lib.hid ((putA_at p g Y j HR.out.asc (by rw [HN.out]; omega) HS.out.2 (fun e he => by rw [HX.out] at he; obtain rfl := Option.some.inj he; exact HL.out)).1 g1 HX.out)
          go_wp2_with fail
          go_quiet (fail)
          clear c1 b0 q1
          go_wp2_with fail
          have hw1 : IntKind.i64.wrap ((j : Int) + 1) = (j : Int) + 1 := by simp [IntKind.wrap, IntKind.bits, IntKind.signed]; omega
          have hn1 : ¬ ((n : Int) < (j : Int) + 1) := by omega
          have j01 : (0 : Int) ≤ (j : Int) + 1 := by omega
          try clear hjn'
          obtain ⟨W1, hW1⟩ : ∃ W1, W5.drewN nq = W1 := ⟨_, rfl⟩
          have G1 : Hid (W0.grownBy W1 none) := Lib.hid (by rw [← hW1]; exact grown_drew nq G5.out)
          rw [hW1]
          clear hW1
          have HLC : Hid (∀ V : World, W1.grownBy V none → V.cell? ⟨rb, 0, none⟩ = some (.slice (some ⟨b, 0, none⟩) n c)) := Lib.hid fun V hV => by
            have := ((HR.out.stays G0.out).stays (World.grownBy.trans G1.out hV)).cell.1
            rw [HN.out] at this
            exact this
          have HFC : Hid (∀ V : World, W1.grownBy V none → V.cell? ⟨bx, 0, none⟩ = some (.string p) ∧ V.cell? ⟨bx, 1, none⟩ = some (.bool d) ∧ V.cell? ⟨bx, 2, none⟩ = some (.slice x m y)) := Lib.hid fun V hV => by
            have hb := bk_kept (bk_kept HBX.out G1.out) hV
            exact ⟨(bk_cell hb 0 _ rfl).1, (bk_cell hb 1 _ rfl).1, (bk_cell hb 2 _ rfl).1⟩
          have HOW : Hid (∀ V : World, W1.grownBy V none → OwnsF V 0 (.slice (some ⟨b, 0, none⟩) n c) Y) := Lib.hid fun V hV => by
            have := ((HR.out.stays G0.out).stays (World.grownBy.trans G1.out hV)).own
            rw [HN.out] at this
            exact this
          have HCAP : Hid (n ≤ c ∧ c ≤ 9223372036854775807) := Lib.hid (by
            obtain ⟨_, _, e, h1, h2⟩ := HR.out.own.form
            have e2 := (Value.slice.inj e).2.2
            rw [HN.out] at h1
            unfold maxLen at h2
            omega)
          have hncap := HCAP.out
          have HFI : Hid (fileC (p, g) = [.string p, .bool d, .slice x m y]) := Lib.hid (by unfold fileC; rw [HG.out.1, HG.out.2.1]; rfl)
          have HA43 := Lib.hid (file_cut (HOW.out W1 (World.grownBy.refl _ _)) (j + 1) HCAP.out.1)
          obtain ⟨i0, hi, hz0, hz1, hz2⟩ := info_parts infoF
          have HI0 := Lib.hid (And.intro hi (And.intro hz0 (And.intro hz1 hz2)))
          clear hi hz0 hz1 hz2
          have g0 : W1.grownBy W1.drew none := grown_drew 1 (World.grownBy.refl _ _)
          refine region_ordX (S := fun V => W1.grownBy V none) (L := 21) (by kernel_rfl) ?_
          refine ordX_take (i := 0) (u := (.pointer (some ⟨rb, 0, none⟩))) rfl (by kernel_rfl) (by kernel_rfl) (by kernel_rfl) (by kernel_rfl) (fun _ _ _ h => h) (Or.inl ⟨by rfl, fun V' hV' => by rfl⟩) g0 ?_
          try simp only [Act.put, List.getElem_toArray, List.getElem_cons_zero, List.getElem_cons_succ, List.setIfInBounds_toArray, List.set_cons_zero, List.set_cons_succ]
          refine ordX_take (i := 1) (u := (.pointer (some ⟨rb, 0, none⟩))) rfl (by kernel_rfl) (by kernel_rfl) (by kernel_rfl) (by kernel_rfl) (fun _ _ _ h => h) (Or.inl ⟨by rfl, fun V' hV' => by rfl⟩) g0 ?_
          try simp only [Act.put, List.getElem_toArray, List.getElem_cons_zero, List.getElem_cons_succ, List.setIfInBounds_toArray, List.set_cons_zero, List.set_cons_succ]
          refine ordX_take (i := 2) (u := (.pointer (some ⟨rb, 0, none⟩))) rfl (by kernel_rfl) (by kernel_rfl) (by kernel_rfl) (by kernel_rfl) (fun _ _ _ h => h) (Or.inl ⟨by rfl, fun V' hV' => by rfl⟩) g0 ?_
          try simp only [Act.put, List.getElem_toArray, List.getElem_cons_zero, List.getElem_cons_succ, List.setIfInBounds_toArray, List.set_cons_zero, List.set_cons_succ]
          refine ordX_take (i := 3) (u := (.pointer (some ⟨rb, 0, none⟩))) rfl (by kernel_rfl) (by kernel_rfl) (by kernel_rfl) (by kernel_rfl) (fun _ _ _ h => h) (Or.inl ⟨by rfl, fun V' hV' => by rfl⟩) g0 ?_
          try simp only [Act.put, List.getElem_toArray, List.getElem_cons_zero, List.getElem_cons_succ, List.setIfInBounds_toArray, List.set_cons_zero, List.set_cons_succ]
          refine ordX_take (i := 4) (u := (.slice (some ⟨b, 0, none⟩) n c)) rfl (by kernel_rfl) (by kernel_rfl) (by kernel_rfl) (by kernel_rfl) (fun _ _ _ h => h) (Or.inl ⟨by rfl, fun V' hV' => by have h := HLC.out V' hV'; go_simp⟩) g0 ?_
          try simp only [Act.put, List.getElem_toArray, List.getElem_cons_zero, List.getElem_cons_succ, List.setIfInBounds_toArray, List.set_cons_zero, List.set_cons_succ]
          refine ordX_take (i := 5) (u := (.int .i64 (j : Int))) rfl (by kernel_rfl) (by kernel_rfl) (by kernel_rfl) (by kernel_rfl) (fun _ _ _ h => h) (Or.inl ⟨by rfl, fun V' hV' => by rfl⟩) g0 ?_
          try simp only [Act.put, List.getElem_toArray, List.getElem_cons_zero, List.getElem_cons_succ, List.setIfInBounds_toArray, List.set_cons_zero, List.set_cons_succ]
          refine ordX_take (i := 6) (u := (.int .i64 (j : Int))) rfl (by kernel_rfl) (by kernel_rfl) (by kernel_rfl) (by kernel_rfl) (fun _ _ _ h => h) (Or.inl ⟨by rfl, fun V' hV' => by rfl⟩) g0 ?_
          try simp only [Act.put, List.getElem_toArray, List.getElem_cons_zero, List.getElem_cons_succ, List.setIfInBounds_toArray, List.set_cons_zero, List.set_cons_succ]
          refine ordX_take (i := 7) (u := (.slice (some ⟨b, 0, none⟩) j j)) rfl (by kernel_rfl) (by kernel_rfl) (by kernel_rfl) (by kernel_rfl) (fun _ _ _ h => h) (Or.inl ⟨by rfl, fun V' hV' => by first | (go_simp; done) | (go_simp; intro hcj; exact absurd hcj (by omega))⟩) g0 ?_
          try simp only [Act.put, List.getElem_toArray, List.getElem_cons_zero, List.getElem_cons_succ, List.setIfInBounds_toArray, List.set_cons_zero, List.set_cons_succ]
          refine ordX_take (i := 8) (u := (.agg #[.string p, .bool d, .slice x m y])) rfl (by kernel_rfl) (by kernel_rfl) (by kernel_rfl) (by kernel_rfl) (fun _ _ _ h => h) (Or.inl ⟨by rfl, fun V' hV' => by obtain ⟨f0, f1, f2⟩ := HFC.out V' hV'; go_simp⟩) g0 ?_
          try simp only [Act.put, List.getElem_toArray, List.getElem_cons_zero, List.getElem_cons_succ, List.setIfInBounds_toArray, List.set_cons_zero, List.set_cons_succ]
          refine ordX_take (i := 11) (u := (.pointer (some ⟨rb, 0, none⟩))) rfl (by kernel_rfl) (by kernel_rfl) (by kernel_rfl) (by kernel_rfl) (fun _ _ _ h => h) (Or.inl ⟨by rfl, fun V' hV' => by rfl⟩) g0 ?_
          try simp only [Act.put, List.getElem_toArray, List.getElem_cons_zero, List.getElem_cons_succ, List.setIfInBounds_toArray, List.set_cons_zero, List.set_cons_succ]
          refine ordX_take (i := 12) (u := (.pointer (some ⟨rb, 0, none⟩))) rfl (by kernel_rfl) (by kernel_rfl) (by kernel_rfl) (by kernel_rfl) (fun _ _ _ h => h) (Or.inl ⟨by rfl, fun V' hV' => by rfl⟩) g0 ?_
          try simp only [Act.put, List.getElem_toArray, List.getElem_cons_zero, List.getElem_cons_succ, List.setIfInBounds_toArray, List.set_cons_zero, List.set_cons_succ]
          refine ordX_take (i := 13) (u := (.pointer (some ⟨rb, 0, none⟩))) rfl (by kernel_rfl) (by kernel_rfl) (by kernel_rfl) (by kernel_rfl) (fun _ _ _ h => h) (Or.inl ⟨by rfl, fun V' hV' => by rfl⟩) g0 ?_
          try simp only [Act.put, List.getElem_toArray, List.getElem_cons_zero, List.getElem_cons_succ, List.setIfInBounds_toArray, List.set_cons_zero, List.set_cons_succ]
          refine ordX_take (i := 14) (u := (.slice (some ⟨b, 0, none⟩) n c)) rfl (by kernel_rfl) (by kernel_rfl) (by kernel_rfl) (by kernel_rfl) (fun _ _ _ h => h) (Or.inl ⟨by rfl, fun V' hV' => by have h := HLC.out V' hV'; go_simp⟩) g0 ?_
          try simp only [Act.put, List.getElem_toArray, List.getElem_cons_zero, List.getElem_cons_succ, List.setIfInBounds_toArray, List.set_cons_zero, List.set_cons_succ]
          refine ordX_take (i := 15) (u := (.int .i64 (j : Int))) rfl (by kernel_rfl) (by kernel_rfl) (by kernel_rfl) (by kernel_rfl) (fun _ _ _ h => h) (Or.inl ⟨by rfl, fun V' hV' => by rfl⟩) g0 ?_
          try simp only [Act.put, List.getElem_toArray, List.getElem_cons_zero, List.getElem_cons_succ, List.setIfInBounds_toArray, List.set_cons_zero, List.set_cons_succ]
          refine ordX_take (i := 16) (u := (.int .i64 ((j : Int) + 1))) rfl (by kernel_rfl) (by kernel_rfl) (by kernel_rfl) (by kernel_rfl) (fun _ _ _ h => h) (Or.inl ⟨by rfl, fun V' hV' => by go_simp⟩) g0 ?_
          try simp only [Act.put, List.getElem_toArray, List.getElem_cons_zero, List.getElem_cons_succ, List.setIfInBounds_toArray, List.set_cons_zero, List.set_cons_succ]
          refine ordX_take (i := 17) (u := (.slice (if c = j + 1 then (some ⟨b, 0, none⟩) else Option.map (fun x => Addr.add x ((j + 1) * 3)) (some ⟨b, 0, none⟩)) (n - (j + 1)) (c - (j + 1)))) rfl (by kernel_rfl) (by kernel_rfl) (by kernel_rfl) (by kernel_rfl) (fun _ _ _ h => h) (Or.inl ⟨by rfl, fun V' hV' => by go_simp⟩) g0 ?_
          try simp only [Act.put, List.getElem_toArray, List.getElem_cons_zero, List.getElem_cons_succ, List.setIfInBounds_toArray, List.set_cons_zero, List.set_cons_succ]
          obtain ⟨a43, ha43⟩ : ∃ a43, (if c = j + 1 then (some ⟨b, 0, none⟩) else Option.map (fun x => Addr.add x ((j + 1) * 3)) (some ⟨b, 0, none⟩)) = a43 := ⟨_, rfl⟩
          rw [ha43] at HA43 ⊢
          clear ha43
          obtain ⟨r, hr⟩ : ∃ r, n - (j + 1) = r := ⟨_, rfl⟩
          have HRR := Lib.hid hr
          rw [hr] at HA43 ⊢
          clear hr
          obtain ⟨c43, hc43⟩ : ∃ c43, c - (j + 1) = c43 := ⟨_, rfl⟩
          rw [hc43]
          clear hc43 hw1 hn1 j01
          refine ordX_one (i := 9) (by kernel_rfl) rfl fun K hK => ?_
          rw [if_pos (by rfl)]
          refine op_slice_file _ rfl #[.string p, .bool d, .slice x m y] rfl rfl ?_
          refine hK.out _ _ (.inr (World.grownBy.trans g0 (World.grownBy_alloc _ _ _))) (fun _ => ?_)
          clear hK K
          try simp only [Act.put, List.getElem_toArray, List.getElem_cons_zero, List.getElem_cons_succ, List.setIfInBounds_toArray, List.set_cons_zero, List.set_cons_succ]
          obtain ⟨q8, hq8⟩ : ∃ q8, W1.drew.heap.size = q8 := ⟨_, rfl⟩
          have hb8 : (W1.drew.alloc (.cells #[.string p, .bool d, .slice x m y] 68)).heap[q8]? = some (.cells #[.string p, .bool d, .slice x m y] 68 (0, 0)) := by rw [← hq8]; exact bk_alloc _ _
          have g1 : W1.grownBy (W1.drew.alloc (.cells #[.string p, .bool d, .slice x m y] 68)) none := World.grownBy.trans g0 (World.grownBy_alloc _ _ _)
          rw [hq8]
          obtain ⟨V1, hV1⟩ : ∃ V1, W1.drew.alloc (.cells #[.string p, .bool d, .slice x m y] 68) = V1 := ⟨_, rfl⟩
          rw [hV1] at g1 hb8 ⊢
          have HB8 : Hid (∀ V, V1.grownBy V none → ∀ t u, (fileC (p, g))[t]? = some u → V.cell? ((⟨q8, 0, none⟩ : Addr).add t) = some u) := Lib.hid (fun V hV t u hu => by
            rw [Addr.add_mid, Nat.zero_add]
            refine hV.cell ?_ (by simp)
            rw [cell_in hb8]
            rw [HFI.out] at hu
            simpa using hu)
          clear hq8 hb8 hV1 g0
          refine ordX_one (i := 10) (by kernel_rfl) rfl fun K hK => ?_
          rw [if_pos (by rfl)]
          refine op_append_grows _ _ 28 rfl 68 i0 _ 3 48 Tryz.underlying28 HI0.out.1 HI0.out.2.1 HI0.out.2.2.1 HI0.out.2.2.2 zeroF_cells (by decide) (some ⟨b, 0, none⟩) j j (filesC (Y.take j)) rfl (file_nil (HOW.out V1 g1) hj) (by rw [filesC_len, List.length_take, HN.out, Nat.min_eq_left hj]) (file_take (HOW.out V1 g1) j) ⟨q8, 0, none⟩ 1 1 (fileC (p, g)) rfl rfl (HB8.out V1 (World.grownBy.refl _ _)) (fileC_one _) (by omega) (by unfold maxLen; omega) (by omega) (fun v' w2 hown hg => ?_)
          have g2 := World.grownBy.trans g1 hg
          have HV12 := Lib.hid hg.size
          obtain ⟨g4, c4, rfl⟩ := ownsRow_succ hown
          have HOWN := Lib.hid hown
          have hc4 : j + 1 ≤ c4 := by
            rcases hown.2 with ⟨_, h0⟩ | ⟨g, cap, cur, h1, h2, h3, h4, _⟩
            · omega
            · have e2 := (Value.slice.inj h1).2.2
              omega
          have HG12 := Lib.hid g1
          refine hK.out _ _ (.inr g2) (fun _ => ?_)
          clear hK K
          try simp only [Act.put, List.getElem_toArray, List.getElem_cons_zero, List.getElem_cons_succ, List.setIfInBounds_toArray, List.set_cons_zero, List.set_cons_succ]
          clear hg hown
          refine ordX_one (i := 18) (by kernel_rfl) rfl fun K hK => ?_
          rw [if_pos (by rfl)]
          rcases Nat.eq_zero_or_pos r with hr0 | hr0
          · subst hr0
            refine op_append_zero _ _ 28 68 i0 rfl Tryz.underlying28 HI0.out.1 (some ⟨g4, 0, none⟩) a43 (j + 1) c4 c43 rfl rfl hc4 ?_
            refine hK.out _ _ (.inr g2) (fun _ => ?_)
            clear hK K
            try simp only [Act.put, List.getElem_toArray, List.getElem_cons_zero, List.getElem_cons_succ, List.setIfInBounds_toArray, List.set_cons_zero, List.set_cons_succ]
            obtain ⟨wE, hwE⟩ : ∃ wE, w2 = wE := ⟨_, rfl⟩
            obtain ⟨g6, hg6⟩ : ∃ g6, g4 = g6 := ⟨_, rfl⟩
            obtain ⟨c6, hc6⟩ : ∃ c6, c4 = c6 := ⟨_, rfl⟩
            subst hwE hg6 hc6
            have gE := g2
            have HOF : Hid (OwnsF w2 W1.heap.size (.slice (some ⟨g4, 0, none⟩) (j + 1) c4) (Y.take j ++ (p, g) :: Y.drop (j + 1))) := Lib.hid (by
              have e : Y.take j ++ (p, g) :: Y.drop (j + 1) = Y.take j ++ [(p, g)] := by rw [List.drop_eq_nil_of_le (by rw [HN.out]; have := HRR.out; omega)]
              rw [e]
              refine OwnsF.low (b := V1.heap.size) ?_ HG12.out.size
              show World.ownsRow _ _ _ _ _ _ _
              rw [List.length_append, List.length_take, HN.out, Nat.min_eq_left hj, filesC_app]
              have e1 : filesC [(p, g)] = fileC (p, g) := by simp [filesC]
              rw [e1]
              exact HOWN.out)
            have hcE := HLC.out w2 gE
            have hfE : w2.frozen? ⟨rb, 0, none⟩ = false := by
              have := ((HR.out.stays G0.out).stays (World.grownBy.trans G1.out gE)).cell.2
              exact this
            refine ordX_one (i := 19) (by kernel_rfl) rfl fun K hK => ?_
            rw [if_pos (by rfl)]
            go_simp
            refine hK.out _ _ (.inr gE) (fun _ => ?_)
            clear hK K
            try simp only [Act.put, List.getElem_toArray, List.getElem_cons_zero, List.getElem_cons_succ, List.setIfInBounds_toArray, List.set_cons_zero, List.set_cons_succ]
            refine ordX_one (i := 20) (by kernel_rfl) rfl fun K hK => ?_
            rw [if_pos (by rfl)]
            go_simp
            refine hK.out _ _ (.inr gE) (fun _ => ?_)
            clear hK K
            try simp only [Act.put, List.getElem_toArray, List.getElem_cons_zero, List.getElem_cons_succ, List.setIfInBounds_toArray, List.set_cons_zero, List.set_cons_succ]
            refine ordX_one (i := 21) (by kernel_rfl) rfl fun K hK => ?_
            rw [if_pos (by rfl)]
            go_simp
            refine hK.out _ _ (.inl rfl) (fun _ => ?_)
            clear hK K
            try simp only [Act.put, List.getElem_toArray, List.getElem_cons_zero, List.getElem_cons_succ, List.setIfInBounds_toArray, List.set_cons_zero, List.set_cons_succ]
            refine ordX_done (by kernel_rfl) ?_ _
            obtain ⟨WF, hWF⟩ : ∃ WF, w2.setCell ⟨rb, 0, none⟩ (.slice (some ⟨g4, 0, none⟩) (j + 1) c4) = WF := ⟨_, rfl⟩
            have gF : w2.grownBy WF (some rb) := by rw [← hWF]; exact bk_set_grown w2 rb 0 _
            have hdE := ((HR.out.stays G0.out).stays (World.grownBy.trans G1.out gE)).head
            have hdF : WF.heap[rb]? = some (.cells #[.slice (some ⟨g4, 0, none⟩) (j + 1) c4] 30 (0, 0)) := by rw [← hWF]; exact bk_set hdE 0 _
            have HLAST : Hid (PutRef rb (putA Y p g) w (.returned (.tuple #[])) WF) := Lib.hid (put_done HR.out G0.out G1.out gE gF hdF HOF.out HUP.out HG.out.2.2)
            rw [hWF]
            clear hWF gF hdE hdF hcE hfE
            go_wp2
            exact bodyPost_end (results_none rfl _ _ _) rfl HLAST.out
          · have hV12 : V1.heap.size ≤ w2.heap.size := HV12.out
            obtain rfl : a43 = some ⟨b, (j + 1) * 3, none⟩ := by
              obtain ⟨gq, h1, h2⟩ := HA43.out hr0
              cases h1
              exact h2
            refine wp_append_own w2 _ _ 28 rfl V1.heap.size 68 i0 _ 3 48 Tryz.underlying28 HI0.out.1 HI0.out.2.1 HI0.out.2.2.1 HI0.out.2.2.2 zeroF_cells (by decide) (.slice (some ⟨g4, 0, none⟩) (j + 1) c4) (j + 1) (filesC (Y.take j) ++ fileC (p, g)) rfl HOWN.out ⟨b, (j + 1) * 3, none⟩ r c43 (filesC (Y.drop (j + 1))) rfl (by rw [filesC_len, List.length_drop, HN.out, HRR.out]) (file_drop (HOW.out w2 g2) (j + 1) (by have := HRR.out; omega) HN.out) (filesC_one _) (by unfold maxLen; have := HRR.out; omega) (by have := HRR.out; omega) hV12 (fun v5 wE hown5 hg5 _ => ?_)
            have gE : W1.grownBy wE none := grown_new g2 hg5 (Nat.le_trans HG12.out.size (by
              rcases HOWN.out.2 with ⟨h1, _⟩ | ⟨g, cap, cur, h1, h2, _⟩
              · cases h1
              · have h3 : g4 = g := by have := (Value.slice.inj h1).1; simpa using this
                rw [h3]; exact h2))
            obtain ⟨g6, c6, rfl⟩ : ∃ g6 c6, v5 = .slice (some ⟨g6, 0, none⟩) (j + 1 + r) c6 := by
              rcases hown5.2 with ⟨_, h0⟩ | ⟨g6, c6, _, rfl, _⟩
              · omega
              · exact ⟨g6, c6, rfl⟩
            have HOW5 := Lib.hid hown5
            refine hK.out _ _ (.inr gE) (fun _ => ?_)
            clear hK K
            try simp only [Act.put, List.getElem_toArray, List.getElem_cons_zero, List.getElem_cons_succ, List.setIfInBounds_toArray, List.set_cons_zero, List.set_cons_succ]
            clear hg5 hown5
            have HOF : Hid (OwnsF wE W1.heap.size (.slice (some ⟨g6, 0, none⟩) (j + 1 + r) c6) (Y.take j ++ (p, g) :: Y.drop (j + 1))) := Lib.hid (by
              refine OwnsF.low (b := V1.heap.size) ?_ HG12.out.size
              show World.ownsRow _ _ _ _ _ _ _
              have e1 : filesC (Y.take j ++ (p, g) :: Y.drop (j + 1)) = filesC (Y.take j) ++ fileC (p, g) ++ filesC (Y.drop (j + 1)) := by rw [filesC_app, List.append_assoc]; rfl
              have e2 : (Y.take j ++ (p, g) :: Y.drop (j + 1)).length = j + 1 + r := by rw [List.length_append, List.length_take, List.length_cons, List.length_drop, HN.out, Nat.min_eq_left hj, HRR.out]; omega
              rw [e1, e2]
              exact HOW5.out)
            have hcE := HLC.out wE gE
            have hfE : wE.frozen? ⟨rb, 0, none⟩ = false := by
              have := ((HR.out.stays G0.out).stays (World.grownBy.trans G1.out gE)).cell.2
              exact this
            refine ordX_one (i := 19) (by kernel_rfl) rfl fun K hK => ?_
            rw [if_pos (by rfl)]
            go_simp
            refine hK.out _ _ (.inr gE) (fun _ => ?_)
            clear hK K
            try simp only [Act.put, List.getElem_toArray, List.getElem_cons_zero, List.getElem_cons_succ, List.setIfInBounds_toArray, List.set_cons_zero, List.set_cons_succ]
            refine ordX_one (i := 20) (by kernel_rfl) rfl fun K hK => ?_
            rw [if_pos (by rfl)]
            go_simp
            refine hK.out _ _ (.inr gE) (fun _ => ?_)
            clear hK K
            try simp only [Act.put, List.getElem_toArray, List.getElem_cons_zero, List.getElem_cons_succ, List.setIfInBounds_toArray, List.set_cons_zero, List.set_cons_succ]
            refine ordX_one (i := 21) (by kernel_rfl) rfl fun K hK => ?_
            rw [if_pos (by rfl)]
            go_simp
            refine hK.out _ _ (.inl rfl) (fun _ => ?_)
            clear hK K
            try simp only [Act.put, List.getElem_toArray, List.getElem_cons_zero, List.getElem_cons_succ, List.setIfInBounds_toArray, List.set_cons_zero, List.set_cons_succ]
            refine ordX_done (by kernel_rfl) ?_ _
            obtain ⟨WF, hWF⟩ : ∃ WF, wE.setCell ⟨rb, 0, none⟩ (.slice (some ⟨g6, 0, none⟩) (j + 1 + r) c6) = WF := ⟨_, rfl⟩
            have gF : wE.grownBy WF (some rb) := by rw [← hWF]; exact bk_set_grown wE rb 0 _
            have hdE := ((HR.out.stays G0.out).stays (World.grownBy.trans G1.out gE)).head
            have hdF : WF.heap[rb]? = some (.cells #[.slice (some ⟨g6, 0, none⟩) (j + 1 + r) c6] 30 (0, 0)) := by rw [← hWF]; exact bk_set hdE 0 _
            have HLAST : Hid (PutRef rb (putA Y p g) w (.returned (.tuple #[])) WF) := Lib.hid (put_done HR.out G0.out G1.out gE gF hdF HOF.out HUP.out HG.out.2.2)
            rw [hWF]
            clear hWF gF hdE hdF hcE hfE
            go_wp2
            exact bodyPost_end (results_none rfl _ _ _) rfl HLAST.out
        · have e2 := ne_lists q p hq
          have e3 := nb_lists q p hq
          have HUP : Hid (putA Y p g = Y.take j ++ (p, g) :: Y.drop j) := Lib.hid ((putA_at p g Y j HR.out.asc (by rw [HN.out]; omega) HS.out.2 (fun e he => by rw [HX.out] at he; obtain rfl := Option.some.inj he; exact HL.out)).2 fun e he => by rw [HX.out] at he; obtain rfl := Option.some.inj he; exact hq)
          go_wp2_with fail
          go_quiet (fail)
          clear c1 b0 q1
          go_wp2_with fail
          try clear hjn'
          obtain ⟨W1, hW1⟩ : ∃ W1, W5.drewN nq = W1 := ⟨_, rfl⟩
          have G1 : Hid (W0.grownBy W1 none) := Lib.hid (by rw [← hW1]; exact grown_drew nq G5.out)
          rw [hW1]
          clear hW1
          have HLC : Hid (∀ V : World, W1.grownBy V none → V.cell? ⟨rb, 0, none⟩ = some (.slice (some ⟨b, 0, none⟩) n c)) := Lib.hid fun V hV => by
            have := ((HR.out.stays G0.out).stays (World.grownBy.trans G1.out hV)).cell.1
            rw [HN.out] at this
            exact this
          have HFC : Hid (∀ V : World, W1.grownBy V none → V.cell? ⟨bx, 0, none⟩ = some (.string p) ∧ V.cell? ⟨bx, 1, none⟩ = some (.bool d) ∧ V.cell? ⟨bx, 2, none⟩ = some (.slice x m y)) := Lib.hid fun V hV => by
            have hb := bk_kept (bk_kept HBX.out G1.out) hV
            exact ⟨(bk_cell hb 0 _ rfl).1, (bk_cell hb 1 _ rfl).1, (bk_cell hb 2 _ rfl).1⟩
          have HOW : Hid (∀ V : World, W1.grownBy V none → OwnsF V 0 (.slice (some ⟨b, 0, none⟩) n c) Y) := Lib.hid fun V hV => by
            have := ((HR.out.stays G0.out).stays (World.grownBy.trans G1.out hV)).own
            rw [HN.out] at this
            exact this
          have HCAP : Hid (n ≤ c ∧ c ≤ 9223372036854775807) := Lib.hid (by
            obtain ⟨_, _, e, h1, h2⟩ := HR.out.own.form
            have e2 := (Value.slice.inj e).2.2
            rw [HN.out] at h1
            unfold maxLen at h2
            omega)
          have hncap := HCAP.out
          have HFI : Hid (fileC (p, g) = [.string p, .bool d, .slice x m y]) := Lib.hid (by unfold fileC; rw [HG.out.1, HG.out.2.1]; rfl)
          have HA43 := Lib.hid (file_cut (HOW.out W1 (World.grownBy.refl _ _)) j HCAP.out.1)
          obtain ⟨i0, hi, hz0, hz1, hz2⟩ := info_parts infoF
          have HI0 := Lib.hid (And.intro hi (And.intro hz0 (And.intro hz1 hz2)))
          clear hi hz0 hz1 hz2
          have g0 : W1.grownBy W1.drew none := grown_drew 1 (World.grownBy.refl _ _)
          refine region_ordX (S := fun V => W1.grownBy V none) (L := 20) (by kernel_rfl) ?_
          refine ordX_take (i := 0) (u := (.pointer (some ⟨rb, 0, none⟩))) rfl (by kernel_rfl) (by kernel_rfl) (by kernel_rfl) (by kernel_rfl) (fun _ _ _ h => h) (Or.inl ⟨by rfl, fun V' hV' => by rfl⟩) g0 ?_
          try simp only [Act.put, List.getElem_toArray, List.getElem_cons_zero, List.getElem_cons_succ, List.setIfInBounds_toArray, List.set_cons_zero, List.set_cons_succ]
          refine ordX_take (i := 1) (u := (.pointer (some ⟨rb, 0, none⟩))) rfl (by kernel_rfl) (by kernel_rfl) (by kernel_rfl) (by kernel_rfl) (fun _ _ _ h => h) (Or.inl ⟨by rfl, fun V' hV' => by rfl⟩) g0 ?_
          try simp only [Act.put, List.getElem_toArray, List.getElem_cons_zero, List.getElem_cons_succ, List.setIfInBounds_toArray, List.set_cons_zero, List.set_cons_succ]
          refine ordX_take (i := 2) (u := (.pointer (some ⟨rb, 0, none⟩))) rfl (by kernel_rfl) (by kernel_rfl) (by kernel_rfl) (by kernel_rfl) (fun _ _ _ h => h) (Or.inl ⟨by rfl, fun V' hV' => by rfl⟩) g0 ?_
          try simp only [Act.put, List.getElem_toArray, List.getElem_cons_zero, List.getElem_cons_succ, List.setIfInBounds_toArray, List.set_cons_zero, List.set_cons_succ]
          refine ordX_take (i := 3) (u := (.pointer (some ⟨rb, 0, none⟩))) rfl (by kernel_rfl) (by kernel_rfl) (by kernel_rfl) (by kernel_rfl) (fun _ _ _ h => h) (Or.inl ⟨by rfl, fun V' hV' => by rfl⟩) g0 ?_
          try simp only [Act.put, List.getElem_toArray, List.getElem_cons_zero, List.getElem_cons_succ, List.setIfInBounds_toArray, List.set_cons_zero, List.set_cons_succ]
          refine ordX_take (i := 4) (u := (.slice (some ⟨b, 0, none⟩) n c)) rfl (by kernel_rfl) (by kernel_rfl) (by kernel_rfl) (by kernel_rfl) (fun _ _ _ h => h) (Or.inl ⟨by rfl, fun V' hV' => by have h := HLC.out V' hV'; go_simp⟩) g0 ?_
          try simp only [Act.put, List.getElem_toArray, List.getElem_cons_zero, List.getElem_cons_succ, List.setIfInBounds_toArray, List.set_cons_zero, List.set_cons_succ]
          refine ordX_take (i := 5) (u := (.int .i64 (j : Int))) rfl (by kernel_rfl) (by kernel_rfl) (by kernel_rfl) (by kernel_rfl) (fun _ _ _ h => h) (Or.inl ⟨by rfl, fun V' hV' => by rfl⟩) g0 ?_
          try simp only [Act.put, List.getElem_toArray, List.getElem_cons_zero, List.getElem_cons_succ, List.setIfInBounds_toArray, List.set_cons_zero, List.set_cons_succ]
          refine ordX_take (i := 6) (u := (.int .i64 (j : Int))) rfl (by kernel_rfl) (by kernel_rfl) (by kernel_rfl) (by kernel_rfl) (fun _ _ _ h => h) (Or.inl ⟨by rfl, fun V' hV' => by rfl⟩) g0 ?_
          try simp only [Act.put, List.getElem_toArray, List.getElem_cons_zero, List.getElem_cons_succ, List.setIfInBounds_toArray, List.set_cons_zero, List.set_cons_succ]
          refine ordX_take (i := 7) (u := (.slice (some ⟨b, 0, none⟩) j j)) rfl (by kernel_rfl) (by kernel_rfl) (by kernel_rfl) (by kernel_rfl) (fun _ _ _ h => h) (Or.inl ⟨by rfl, fun V' hV' => by first | (go_simp; done) | (go_simp; intro hcj; exact absurd hcj (by omega))⟩) g0 ?_
          try simp only [Act.put, List.getElem_toArray, List.getElem_cons_zero, List.getElem_cons_succ, List.setIfInBounds_toArray, List.set_cons_zero, List.set_cons_succ]
          refine ordX_take (i := 8) (u := (.agg #[.string p, .bool d, .slice x m y])) rfl (by kernel_rfl) (by kernel_rfl) (by kernel_rfl) (by kernel_rfl) (fun _ _ _ h => h) (Or.inl ⟨by rfl, fun V' hV' => by obtain ⟨f0, f1, f2⟩ := HFC.out V' hV'; go_simp⟩) g0 ?_
          try simp only [Act.put, List.getElem_toArray, List.getElem_cons_zero, List.getElem_cons_succ, List.setIfInBounds_toArray, List.set_cons_zero, List.set_cons_succ]
          refine ordX_take (i := 10) (u := (.pointer (some ⟨rb, 0, none⟩))) rfl (by kernel_rfl) (by kernel_rfl) (by kernel_rfl) (by kernel_rfl) (fun _ _ _ h => h) (Or.inl ⟨by rfl, fun V' hV' => by rfl⟩) g0 ?_
          try simp only [Act.put, List.getElem_toArray, List.getElem_cons_zero, List.getElem_cons_succ, List.setIfInBounds_toArray, List.set_cons_zero, List.set_cons_succ]
          refine ordX_take (i := 11) (u := (.pointer (some ⟨rb, 0, none⟩))) rfl (by kernel_rfl) (by kernel_rfl) (by kernel_rfl) (by kernel_rfl) (fun _ _ _ h => h) (Or.inl ⟨by rfl, fun V' hV' => by rfl⟩) g0 ?_
          try simp only [Act.put, List.getElem_toArray, List.getElem_cons_zero, List.getElem_cons_succ, List.setIfInBounds_toArray, List.set_cons_zero, List.set_cons_succ]
          refine ordX_take (i := 12) (u := (.pointer (some ⟨rb, 0, none⟩))) rfl (by kernel_rfl) (by kernel_rfl) (by kernel_rfl) (by kernel_rfl) (fun _ _ _ h => h) (Or.inl ⟨by rfl, fun V' hV' => by rfl⟩) g0 ?_
          try simp only [Act.put, List.getElem_toArray, List.getElem_cons_zero, List.getElem_cons_succ, List.setIfInBounds_toArray, List.set_cons_zero, List.set_cons_succ]
          refine ordX_take (i := 13) (u := (.slice (some ⟨b, 0, none⟩) n c)) rfl (by kernel_rfl) (by kernel_rfl) (by kernel_rfl) (by kernel_rfl) (fun _ _ _ h => h) (Or.inl ⟨by rfl, fun V' hV' => by have h := HLC.out V' hV'; go_simp⟩) g0 ?_
          try simp only [Act.put, List.getElem_toArray, List.getElem_cons_zero, List.getElem_cons_succ, List.setIfInBounds_toArray, List.set_cons_zero, List.set_cons_succ]
          refine ordX_take (i := 14) (u := (.int .i64 (j : Int))) rfl (by kernel_rfl) (by kernel_rfl) (by kernel_rfl) (by kernel_rfl) (fun _ _ _ h => h) (Or.inl ⟨by rfl, fun V' hV' => by rfl⟩) g0 ?_
          try simp only [Act.put, List.getElem_toArray, List.getElem_cons_zero, List.getElem_cons_succ, List.setIfInBounds_toArray, List.set_cons_zero, List.set_cons_succ]
          refine ordX_take (i := 15) (u := (.slice (if c = j then (some ⟨b, 0, none⟩) else Option.map (fun x => Addr.add x (j * 3)) (some ⟨b, 0, none⟩)) (n - j) (c - j))) rfl (by kernel_rfl) (by kernel_rfl) (by kernel_rfl) (by kernel_rfl) (fun _ _ _ h => h) (Or.inl ⟨by rfl, fun V' hV' => by go_simp⟩) g0 ?_
          try simp only [Act.put, List.getElem_toArray, List.getElem_cons_zero, List.getElem_cons_succ, List.setIfInBounds_toArray, List.set_cons_zero, List.set_cons_succ]
          obtain ⟨a43, ha43⟩ : ∃ a43, (if c = j then (some ⟨b, 0, none⟩) else Option.map (fun x => Addr.add x (j * 3)) (some ⟨b, 0, none⟩)) = a43 := ⟨_, rfl⟩
          rw [ha43] at HA43 ⊢
          clear ha43
          obtain ⟨r, hr⟩ : ∃ r, n - j = r := ⟨_, rfl⟩
          have HRR := Lib.hid hr
          rw [hr] at HA43 ⊢
          clear hr
          obtain ⟨c43, hc43⟩ : ∃ c43, c - j = c43 := ⟨_, rfl⟩
          rw [hc43]
          clear hc43
          refine ordX_one (i := 9) (by kernel_rfl) rfl fun K hK => ?_
          rw [if_pos (by rfl)]
          refine op_slice_file _ rfl #[.string p, .bool d, .slice x m y] rfl rfl ?_
          refine hK.out _ _ (.inr (World.grownBy.trans g0 (World.grownBy_alloc _ _ _))) (fun _ => ?_)
          clear hK K
          try simp only [Act.put, List.getElem_toArray, List.getElem_cons_zero, List.getElem_cons_succ, List.setIfInBounds_toArray, List.set_cons_zero, List.set_cons_succ]
          obtain ⟨q8, hq8⟩ : ∃ q8, W1.drew.heap.size = q8 := ⟨_, rfl⟩
          have hb8 : (W1.drew.alloc (.cells #[.string p, .bool d, .slice x m y] 68)).heap[q8]? = some (.cells #[.string p, .bool d, .slice x m y] 68 (0, 0)) := by rw [← hq8]; exact bk_alloc _ _
          have g1 : W1.grownBy (W1.drew.alloc (.cells #[.string p, .bool d, .slice x m y] 68)) none := World.grownBy.trans g0 (World.grownBy_alloc _ _ _)
          rw [hq8]
          obtain ⟨V1, hV1⟩ : ∃ V1, W1.drew.alloc (.cells #[.string p, .bool d, .slice x m y] 68) = V1 := ⟨_, rfl⟩
          rw [hV1] at g1 hb8 ⊢
          have HB8 : Hid (∀ V, V1.grownBy V none → ∀ t u, (fileC (p, g))[t]? = some u → V.cell? ((⟨q8, 0, none⟩ : Addr).add t) = some u) := Lib.hid (fun V hV t u hu => by
            rw [Addr.add_mid, Nat.zero_add]
            refine hV.cell ?_ (by simp)
            rw [cell_in hb8]
            rw [HFI.out] at hu
            simpa using hu)
          clear hq8 hb8 hV1 g0
          refine ordX_one (i := 16) (by kernel_rfl) rfl fun K hK => ?_
          rw [if_pos (by rfl)]
          rcases Nat.eq_zero_or_pos r with hr0 | hr0
          · subst hr0
            refine op_append_zero _ _ 28 68 i0 rfl Tryz.underlying28 HI0.out.1 (some ⟨q8, 0, none⟩) a43 1 1 c43 rfl rfl (Nat.le_refl _) ?_
            refine hK.out _ _ (.inr g1) (fun _ => ?_)
            clear hK K
            try simp only [Act.put, List.getElem_toArray, List.getElem_cons_zero, List.getElem_cons_succ, List.setIfInBounds_toArray, List.set_cons_zero, List.set_cons_succ]
            refine ordX_one (i := 17) (by kernel_rfl) rfl fun K hK => ?_
            rw [if_pos (by rfl)]
            refine op_append_grows _ _ 28 rfl 68 i0 _ 3 48 Tryz.underlying28 HI0.out.1 HI0.out.2.1 HI0.out.2.2.1 HI0.out.2.2.2 zeroF_cells (by decide) (some ⟨b, 0, none⟩) j j (filesC (Y.take j)) rfl (file_nil (HOW.out V1 g1) hj) (by rw [filesC_len, List.length_take, HN.out, Nat.min_eq_left hj]) (file_take (HOW.out V1 g1) j) ⟨q8, 0, none⟩ 1 1 (fileC (p, g)) rfl rfl (HB8.out V1 (World.grownBy.refl _ _)) (fileC_one _) (by omega) (by unfold maxLen; omega) (by omega) (fun v' wE hown hg => ?_)
            have gE := World.grownBy.trans g1 hg
            obtain ⟨g6, c6, rfl⟩ := ownsRow_succ hown
            have HOWN := Lib.hid hown
            refine hK.out _ _ (.inr gE) (fun _ => ?_)
            clear hK K
            try simp only [Act.put, List.getElem_toArray, List.getElem_cons_zero, List.getElem_cons_succ, List.setIfInBounds_toArray, List.set_cons_zero, List.set_cons_succ]
            clear hg hown
            have HOF : Hid (OwnsF wE W1.heap.size (.slice (some ⟨g6, 0, none⟩) (j + 1) c6) (Y.take j ++ (p, g) :: Y.drop j)) := Lib.hid (by
              have e : Y.take j ++ (p, g) :: Y.drop j = Y.take j ++ [(p, g)] := by rw [List.drop_eq_nil_of_le (by rw [HN.out]; have := HRR.out; omega)]
              rw [e]
              refine OwnsF.low (b := V1.heap.size) ?_ g1.size
              show World.ownsRow _ _ _ _ _ _ _
              rw [List.length_append, List.length_take, HN.out, Nat.min_eq_left hj, filesC_app]
              have e1 : filesC [(p, g)] = fileC (p, g) := by simp [filesC]
              rw [e1]
              exact HOWN.out)
            have hcE := HLC.out wE gE
            have hfE : wE.frozen? ⟨rb, 0, none⟩ = false := by
              have := ((HR.out.stays G0.out).stays (World.grownBy.trans G1.out gE)).cell.2
              exact this
            refine ordX_one (i := 18) (by kernel_rfl) rfl fun K hK => ?_
            rw [if_pos (by rfl)]
            go_simp
            refine hK.out _ _ (.inr gE) (fun _ => ?_)
            clear hK K
            try simp only [Act.put, List.getElem_toArray, List.getElem_cons_zero, List.getElem_cons_succ, List.setIfInBounds_toArray, List.set_cons_zero, List.set_cons_succ]
            refine ordX_one (i := 19) (by kernel_rfl) rfl fun K hK => ?_
            rw [if_pos (by rfl)]
            go_simp
            refine hK.out _ _ (.inr gE) (fun _ => ?_)
            clear hK K
            try simp only [Act.put, List.getElem_toArray, List.getElem_cons_zero, List.getElem_cons_succ, List.setIfInBounds_toArray, List.set_cons_zero, List.set_cons_succ]
            refine ordX_one (i := 20) (by kernel_rfl) rfl fun K hK => ?_
            rw [if_pos (by rfl)]
            go_simp
            refine hK.out _ _ (.inl rfl) (fun _ => ?_)
            clear hK K
            try simp only [Act.put, List.getElem_toArray, List.getElem_cons_zero, List.getElem_cons_succ, List.setIfInBounds_toArray, List.set_cons_zero, List.set_cons_succ]
            refine ordX_done (by kernel_rfl) ?_ _
            obtain ⟨WF, hWF⟩ : ∃ WF, wE.setCell ⟨rb, 0, none⟩ (.slice (some ⟨g6, 0, none⟩) (j + 1) c6) = WF := ⟨_, rfl⟩
            have gF : wE.grownBy WF (some rb) := by rw [← hWF]; exact bk_set_grown wE rb 0 _
            have hdE := ((HR.out.stays G0.out).stays (World.grownBy.trans G1.out gE)).head
            have hdF : WF.heap[rb]? = some (.cells #[.slice (some ⟨g6, 0, none⟩) (j + 1) c6] 30 (0, 0)) := by rw [← hWF]; exact bk_set hdE 0 _
            have HLAST : Hid (PutRef rb (putA Y p g) w (.returned (.tuple #[])) WF) := Lib.hid (put_done HR.out G0.out G1.out gE gF hdF HOF.out HUP.out HG.out.2.2)
            rw [hWF]
            clear hWF gF hdE hdF hcE hfE
            go_wp2
            exact bodyPost_end (results_none rfl _ _ _) rfl HLAST.out
          · obtain rfl : a43 = some ⟨b, j * 3, none⟩ := by
              obtain ⟨gq, h1, h2⟩ := HA43.out hr0
              cases h1
              exact h2
            refine op_append_grows _ _ 28 rfl 68 i0 _ 3 48 Tryz.underlying28 HI0.out.1 HI0.out.2.1 HI0.out.2.2.1 HI0.out.2.2.2 zeroF_cells (by decide) (some ⟨q8, 0, none⟩) 1 1 (fileC (p, g)) rfl (fun e => by cases e) rfl (fun b' e => by cases e; exact HB8.out V1 (World.grownBy.refl _ _)) ⟨b, j * 3, none⟩ r c43 (filesC (Y.drop j)) rfl (by rw [filesC_len, List.length_drop, HN.out, HRR.out]) (file_drop (HOW.out V1 g1) j hj HN.out) (filesC_one _) (by omega) (by unfold maxLen; have := HRR.out; omega) (by have := HRR.out; omega) (fun v' w2 hown hg => ?_)
            have g2 := World.grownBy.trans g1 hg
            obtain ⟨g4, c4, rfl⟩ : ∃ g4 c4, v' = .slice (some ⟨g4, 0, none⟩) (1 + r) c4 := by
              rcases hown.2 with ⟨_, h0⟩ | ⟨g4, c4, _, rfl, _⟩
              · omega
              · exact ⟨g4, c4, rfl⟩
            have HOWN := Lib.hid hown
            refine hK.out _ _ (.inr g2) (fun _ => ?_)
            clear hK K
            try simp only [Act.put, List.getElem_toArray, List.getElem_cons_zero, List.getElem_cons_succ, List.setIfInBounds_toArray, List.set_cons_zero, List.set_cons_succ]
            clear hg hown
            refine ordX_one (i := 17) (by kernel_rfl) rfl fun K hK => ?_
            rw [if_pos (by rfl)]
            refine op_append_grows _ _ 28 rfl 68 i0 _ 3 48 Tryz.underlying28 HI0.out.1 HI0.out.2.1 HI0.out.2.2.1 HI0.out.2.2.2 zeroF_cells (by decide) (some ⟨b, 0, none⟩) j j (filesC (Y.take j)) rfl (fun e => by cases e) (by rw [filesC_len, List.length_take, HN.out, Nat.min_eq_left hj]) (file_take (HOW.out w2 g2) j) ⟨g4, 0, none⟩ (1 + r) c4 (fileC (p, g) ++ filesC (Y.drop j)) rfl (by rw [List.length_append, fileC_len, filesC_len, List.length_drop, HN.out, HRR.out]; omega) (World.ownsRow.cells HOWN.out rfl) (fun u hu => (List.mem_append.1 hu).elim (fileC_one _ u) (filesC_one _ u)) (by omega) (by unfold maxLen; have := HRR.out; omega) (by have := HRR.out; omega) (fun v5 wE hown5 hg5 => ?_)
            have gE := World.grownBy.trans g2 hg5
            obtain ⟨g6, c6, rfl⟩ : ∃ g6 c6, v5 = .slice (some ⟨g6, 0, none⟩) (j + (1 + r)) c6 := by
              rcases hown5.2 with ⟨_, h0⟩ | ⟨g6, c6, _, rfl, _⟩
              · omega
              · exact ⟨g6, c6, rfl⟩
            have HOW5 := Lib.hid hown5
            refine hK.out _ _ (.inr gE) (fun _ => ?_)
            clear hK K
            try simp only [Act.put, List.getElem_toArray, List.getElem_cons_zero, List.getElem_cons_succ, List.setIfInBounds_toArray, List.set_cons_zero, List.set_cons_succ]
            clear hg5 hown5
            have HOF : Hid (OwnsF wE W1.heap.size (.slice (some ⟨g6, 0, none⟩) (j + (1 + r)) c6) (Y.take j ++ (p, g) :: Y.drop j)) := Lib.hid (by
              refine OwnsF.low (b := w2.heap.size) ?_ g2.size
              show World.ownsRow _ _ _ _ _ _ _
              have e1 : filesC (Y.take j ++ (p, g) :: Y.drop j) = filesC (Y.take j) ++ (fileC (p, g) ++ filesC (Y.drop j)) := by rw [filesC_app]; rfl
              have e2 : (Y.take j ++ (p, g) :: Y.drop j).length = j + (1 + r) := by rw [List.length_append, List.length_take, List.length_cons, List.length_drop, HN.out, Nat.min_eq_left hj, HRR.out]; omega
              rw [e1, e2]
              exact HOW5.out)
            have hcE := HLC.out wE gE
            have hfE : wE.frozen? ⟨rb, 0, none⟩ = false := by
              have := ((HR.out.stays G0.out).stays (World.grownBy.trans G1.out gE)).cell.2
              exact this
            refine ordX_one (i := 18) (by kernel_rfl) rfl fun K hK => ?_
            rw [if_pos (by rfl)]
            go_simp
            refine hK.out _ _ (.inr gE) (fun _ => ?_)
            clear hK K
            try simp only [Act.put, List.getElem_toArray, List.getElem_cons_zero, List.getElem_cons_succ, List.setIfInBounds_toArray, List.set_cons_zero, List.set_cons_succ]
            refine ordX_one (i := 19) (by kernel_rfl) rfl fun K hK => ?_
            rw [if_pos (by rfl)]
            go_simp
            refine hK.out _ _ (.inr gE) (fun _ => ?_)
            clear hK K
            try simp only [Act.put, List.getElem_toArray, List.getElem_cons_zero, List.getElem_cons_succ, List.setIfInBounds_toArray, List.set_cons_zero, List.set_cons_succ]
            refine ordX_one (i := 20) (by kernel_rfl) rfl fun K hK => ?_
            rw [if_pos (by rfl)]
            go_simp
            refine hK.out _ _ (.inl rfl) (fun _ => ?_)
            clear hK K
            try simp only [Act.put, List.getElem_toArray, List.getElem_cons_zero, List.getElem_cons_succ, List.setIfInBounds_toArray, List.set_cons_zero, List.set_cons_succ]
            refine ordX_done (by kernel_rfl) ?_ _
            obtain ⟨WF, hWF⟩ : ∃ WF, wE.setCell ⟨rb, 0, none⟩ (.slice (some ⟨g6, 0, none⟩) (j + (1 + r)) c6) = WF := ⟨_, rfl⟩
            have gF : wE.grownBy WF (some rb) := by rw [← hWF]; exact bk_set_grown wE rb 0 _
            have hdE := ((HR.out.stays G0.out).stays (World.grownBy.trans G1.out gE)).head
            have hdF : WF.heap[rb]? = some (.cells #[.slice (some ⟨g6, 0, none⟩) (j + (1 + r)) c6] 30 (0, 0)) := by rw [← hWF]; exact bk_set hdE 0 _
            have HLAST : Hid (PutRef rb (putA Y p g) w (.returned (.tuple #[])) WF) := Lib.hid (put_done HR.out G0.out G1.out gE gF hdF HOF.out HUP.out HG.out.2.2)
            rw [hWF]
            clear hWF gF hdE hdF hcE hfE
            go_wp2
            exact bodyPost_end (results_none rfl _ _ _) rfl HLAST.out
    · have hjn' : j = n := by omega
      have hd1 : decide ((j : Int) < (n : Int)) = false := by simp; omega
      clear hRw
      have HUP : Hid (putA Y p g = Y.take j ++ (p, g) :: Y.drop j) := Lib.hid (by
        have hnone : Y[j]? = none := List.getElem?_eq_none (by rw [HN.out]; omega)
        exact (putA_at p g Y j HR.out.asc (by rw [HN.out]; omega) HS.out.2 (fun e he => by rw [hnone] at he; cases he)).2 fun e he => by rw [hnone] at he; cases he)
      go_wp2_with fail
      go_quiet (fail)
      clear c1 b0
      go_wp2_with fail
      obtain ⟨W5, hW5⟩ : ∃ W5, wr.drewN nq = W5 := ⟨_, rfl⟩
      have G5 : Hid (W0.grownBy W5 none) := Lib.hid (by rw [← hW5]; exact grown_drew nq HS.out.1)
      rw [hW5]
      clear hW5
      have hRw := (HR.out.stays G0.out).stays G5.out
      obtain ⟨c1, _⟩ := hRw.cell
      rw [HN.out] at c1
      clear hRw
      go_wp2_with fail
      go_quiet (fail)
      clear c1
      go_wp2_with fail
      try clear hjn'
      obtain ⟨W1, hW1⟩ : ∃ W1, W5.drewN nq = W1 := ⟨_, rfl⟩
      have G1 : Hid (W0.grownBy W1 none) := Lib.hid (by rw [← hW1]; exact grown_drew nq G5.out)
      rw [hW1]
      clear hW1
      have HLC : Hid (∀ V : World, W1.grownBy V none → V.cell? ⟨rb, 0, none⟩ = some (.slice a n c)) := Lib.hid fun V hV => by
        have := ((HR.out.stays G0.out).stays (World.grownBy.trans G1.out hV)).cell.1
        rw [HN.out] at this
        exact this
      have HFC : Hid (∀ V : World, W1.grownBy V none → V.cell? ⟨bx, 0, none⟩ = some (.string p) ∧ V.cell? ⟨bx, 1, none⟩ = some (.bool d) ∧ V.cell? ⟨bx, 2, none⟩ = some (.slice x m y)) := Lib.hid fun V hV => by
        have hb := bk_kept (bk_kept HBX.out G1.out) hV
        exact ⟨(bk_cell hb 0 _ rfl).1, (bk_cell hb 1 _ rfl).1, (bk_cell hb 2 _ rfl).1⟩
      have HOW : Hid (∀ V : World, W1.grownBy V none → OwnsF V 0 (.slice a n c) Y) := Lib.hid fun V hV => by
        have := ((HR.out.stays G0.out).stays (World.grownBy.trans G1.out hV)).own
        rw [HN.out] at this
        exact this
      have HCAP : Hid (n ≤ c ∧ c ≤ 9223372036854775807) := Lib.hid (by
        obtain ⟨_, _, e, h1, h2⟩ := HR.out.own.form
        have e2 := (Value.slice.inj e).2.2
        rw [HN.out] at h1
        unfold maxLen at h2
        omega)
      have hncap := HCAP.out
      have HFI : Hid (fileC (p, g) = [.string p, .bool d, .slice x m y]) := Lib.hid (by unfold fileC; rw [HG.out.1, HG.out.2.1]; rfl)
      have HA43 := Lib.hid (file_cut (HOW.out W1 (World.grownBy.refl _ _)) j HCAP.out.1)
      obtain ⟨i0, hi, hz0, hz1, hz2⟩ := info_parts infoF
      have HI0 := Lib.hid (And.intro hi (And.intro hz0 (And.intro hz1 hz2)))
      clear hi hz0 hz1 hz2
      have g0 : W1.grownBy W1.drew none := grown_drew 1 (World.grownBy.refl _ _)
      refine region_ordX (S := fun V => W1.grownBy V none) (L := 20) (by kernel_rfl) ?_
      refine ordX_take (i := 0) (u := (.pointer (some ⟨rb, 0, none⟩))) rfl (by kernel_rfl) (by kernel_rfl) (by kernel_rfl) (by kernel_rfl) (fun _ _ _ h => h) (Or.inl ⟨by rfl, fun V' hV' => by rfl⟩) g0 ?_
      try simp only [Act.put, List.getElem_toArray, List.getElem_cons_zero, List.getElem_cons_succ, List.setIfInBounds_toArray, List.set_cons_zero, List.set_cons_succ]
      refine ordX_take (i := 1) (u := (.pointer (some ⟨rb, 0, none⟩))) rfl (by kernel_rfl) (by kernel_rfl) (by kernel_rfl) (by kernel_rfl) (fun _ _ _ h => h) (Or.inl ⟨by rfl, fun V' hV' => by rfl⟩) g0 ?_
      try simp only [Act.put, List.getElem_toArray, List.getElem_cons_zero, List.getElem_cons_succ, List.setIfInBounds_toArray, List.set_cons_zero, List.set_cons_succ]
      refine ordX_take (i := 2) (u := (.pointer (some ⟨rb, 0, none⟩))) rfl (by kernel_rfl) (by kernel_rfl) (by kernel_rfl) (by kernel_rfl) (fun _ _ _ h => h) (Or.inl ⟨by rfl, fun V' hV' => by rfl⟩) g0 ?_
      try simp only [Act.put, List.getElem_toArray, List.getElem_cons_zero, List.getElem_cons_succ, List.setIfInBounds_toArray, List.set_cons_zero, List.set_cons_succ]
      refine ordX_take (i := 3) (u := (.pointer (some ⟨rb, 0, none⟩))) rfl (by kernel_rfl) (by kernel_rfl) (by kernel_rfl) (by kernel_rfl) (fun _ _ _ h => h) (Or.inl ⟨by rfl, fun V' hV' => by rfl⟩) g0 ?_
      try simp only [Act.put, List.getElem_toArray, List.getElem_cons_zero, List.getElem_cons_succ, List.setIfInBounds_toArray, List.set_cons_zero, List.set_cons_succ]
      refine ordX_take (i := 4) (u := (.slice a n c)) rfl (by kernel_rfl) (by kernel_rfl) (by kernel_rfl) (by kernel_rfl) (fun _ _ _ h => h) (Or.inl ⟨by rfl, fun V' hV' => by have h := HLC.out V' hV'; go_simp⟩) g0 ?_
      try simp only [Act.put, List.getElem_toArray, List.getElem_cons_zero, List.getElem_cons_succ, List.setIfInBounds_toArray, List.set_cons_zero, List.set_cons_succ]
      refine ordX_take (i := 5) (u := (.int .i64 (j : Int))) rfl (by kernel_rfl) (by kernel_rfl) (by kernel_rfl) (by kernel_rfl) (fun _ _ _ h => h) (Or.inl ⟨by rfl, fun V' hV' => by rfl⟩) g0 ?_
      try simp only [Act.put, List.getElem_toArray, List.getElem_cons_zero, List.getElem_cons_succ, List.setIfInBounds_toArray, List.set_cons_zero, List.set_cons_succ]
      refine ordX_take (i := 6) (u := (.int .i64 (j : Int))) rfl (by kernel_rfl) (by kernel_rfl) (by kernel_rfl) (by kernel_rfl) (fun _ _ _ h => h) (Or.inl ⟨by rfl, fun V' hV' => by rfl⟩) g0 ?_
      try simp only [Act.put, List.getElem_toArray, List.getElem_cons_zero, List.getElem_cons_succ, List.setIfInBounds_toArray, List.set_cons_zero, List.set_cons_succ]
      refine ordX_take (i := 7) (u := (.slice a j j)) rfl (by kernel_rfl) (by kernel_rfl) (by kernel_rfl) (by kernel_rfl) (fun _ _ _ h => h) (Or.inl ⟨by rfl, fun V' hV' => by first | (go_simp; done) | (go_simp; intro hcj; exact absurd hcj (by omega))⟩) g0 ?_
      try simp only [Act.put, List.getElem_toArray, List.getElem_cons_zero, List.getElem_cons_succ, List.setIfInBounds_toArray, List.set_cons_zero, List.set_cons_succ]
      refine ordX_take (i := 8) (u := (.agg #[.string p, .bool d, .slice x m y])) rfl (by kernel_rfl) (by kernel_rfl) (by kernel_rfl) (by kernel_rfl) (fun _ _ _ h => h) (Or.inl ⟨by rfl, fun V' hV' => by obtain ⟨f0, f1, f2⟩ := HFC.out V' hV'; go_simp⟩) g0 ?_
      try simp only [Act.put, List.getElem_toArray, List.getElem_cons_zero, List.getElem_cons_succ, List.setIfInBounds_toArray, List.set_cons_zero, List.set_cons_succ]
      refine ordX_take (i := 10) (u := (.pointer (some ⟨rb, 0, none⟩))) rfl (by kernel_rfl) (by kernel_rfl) (by kernel_rfl) (by kernel_rfl) (fun _ _ _ h => h) (Or.inl ⟨by rfl, fun V' hV' => by rfl⟩) g0 ?_
      try simp only [Act.put, List.getElem_toArray, List.getElem_cons_zero, List.getElem_cons_succ, List.setIfInBounds_toArray, List.set_cons_zero, List.set_cons_succ]
      refine ordX_take (i := 11) (u := (.pointer (some ⟨rb, 0, none⟩))) rfl (by kernel_rfl) (by kernel_rfl) (by kernel_rfl) (by kernel_rfl) (fun _ _ _ h => h) (Or.inl ⟨by rfl, fun V' hV' => by rfl⟩) g0 ?_
      try simp only [Act.put, List.getElem_toArray, List.getElem_cons_zero, List.getElem_cons_succ, List.setIfInBounds_toArray, List.set_cons_zero, List.set_cons_succ]
      refine ordX_take (i := 12) (u := (.pointer (some ⟨rb, 0, none⟩))) rfl (by kernel_rfl) (by kernel_rfl) (by kernel_rfl) (by kernel_rfl) (fun _ _ _ h => h) (Or.inl ⟨by rfl, fun V' hV' => by rfl⟩) g0 ?_
      try simp only [Act.put, List.getElem_toArray, List.getElem_cons_zero, List.getElem_cons_succ, List.setIfInBounds_toArray, List.set_cons_zero, List.set_cons_succ]
      refine ordX_take (i := 13) (u := (.slice a n c)) rfl (by kernel_rfl) (by kernel_rfl) (by kernel_rfl) (by kernel_rfl) (fun _ _ _ h => h) (Or.inl ⟨by rfl, fun V' hV' => by have h := HLC.out V' hV'; go_simp⟩) g0 ?_
      try simp only [Act.put, List.getElem_toArray, List.getElem_cons_zero, List.getElem_cons_succ, List.setIfInBounds_toArray, List.set_cons_zero, List.set_cons_succ]
      refine ordX_take (i := 14) (u := (.int .i64 (j : Int))) rfl (by kernel_rfl) (by kernel_rfl) (by kernel_rfl) (by kernel_rfl) (fun _ _ _ h => h) (Or.inl ⟨by rfl, fun V' hV' => by rfl⟩) g0 ?_
      try simp only [Act.put, List.getElem_toArray, List.getElem_cons_zero, List.getElem_cons_succ, List.setIfInBounds_toArray, List.set_cons_zero, List.set_cons_succ]
      refine ordX_take (i := 15) (u := (.slice (if c = j then a else Option.map (fun x => Addr.add x (j * 3)) a) (n - j) (c - j))) rfl (by kernel_rfl) (by kernel_rfl) (by kernel_rfl) (by kernel_rfl) (fun _ _ _ h => h) (Or.inl ⟨by rfl, fun V' hV' => by go_simp⟩) g0 ?_
      try simp only [Act.put, List.getElem_toArray, List.getElem_cons_zero, List.getElem_cons_succ, List.setIfInBounds_toArray, List.set_cons_zero, List.set_cons_succ]
      obtain ⟨a43, ha43⟩ : ∃ a43, (if c = j then a else Option.map (fun x => Addr.add x (j * 3)) a) = a43 := ⟨_, rfl⟩
      rw [ha43] at HA43 ⊢
      clear ha43
      obtain ⟨r, hr⟩ : ∃ r, n - j = r := ⟨_, rfl⟩
      have HRR := Lib.hid hr
      rw [hr] at HA43 ⊢
      clear hr
      obtain ⟨c43, hc43⟩ : ∃ c43, c - j = c43 := ⟨_, rfl⟩
      rw [hc43]
      clear hc43
      refine ordX_one (i := 9) (by kernel_rfl) rfl fun K hK => ?_
      rw [if_pos (by rfl)]
      refine op_slice_file _ rfl #[.string p, .bool d, .slice x m y] rfl rfl ?_
      refine hK.out _ _ (.inr (World.grownBy.trans g0 (World.grownBy_alloc _ _ _))) (fun _ => ?_)
      clear hK K
      try simp only [Act.put, List.getElem_toArray, List.getElem_cons_zero, List.getElem_cons_succ, List.setIfInBounds_toArray, List.set_cons_zero, List.set_cons_succ]
      obtain ⟨q8, hq8⟩ : ∃ q8, W1.drew.heap.size = q8 := ⟨_, rfl⟩
      have hb8 : (W1.drew.alloc (.cells #[.string p, .bool d, .slice x m y] 68)).heap[q8]? = some (.cells #[.string p, .bool d, .slice x m y] 68 (0, 0)) := by rw [← hq8]; exact bk_alloc _ _
      have g1 : W1.grownBy (W1.drew.alloc (.cells #[.string p, .bool d, .slice x m y] 68)) none := World.grownBy.trans g0 (World.grownBy_alloc _ _ _)
      rw [hq8]
      obtain ⟨V1, hV1⟩ : ∃ V1, W1.drew.alloc (.cells #[.string p, .bool d, .slice x m y] 68) = V1 := ⟨_, rfl⟩
      rw [hV1] at g1 hb8 ⊢
      have HB8 : Hid (∀ V, V1.grownBy V none → ∀ t u, (fileC (p, g))[t]? = some u → V.cell? ((⟨q8, 0, none⟩ : Addr).add t) = some u) := Lib.hid (fun V hV t u hu => by
        rw [Addr.add_mid, Nat.zero_add]
        refine hV.cell ?_ (by simp)
        rw [cell_in hb8]
        rw [HFI.out] at hu
        simpa using hu)
      clear hq8 hb8 hV1 g0
      refine ordX_one (i := 16) (by kernel_rfl) rfl fun K hK => ?_
      rw [if_pos (by rfl)]
      rcases Nat.eq_zero_or_pos r with hr0 | hr0
      · subst hr0
        refine op_append_zero _ _ 28 68 i0 rfl Tryz.underlying28 HI0.out.1 (some ⟨q8, 0, none⟩) a43 1 1 c43 rfl rfl (Nat.le_refl _) ?_
        refine hK.out _ _ (.inr g1) (fun _ => ?_)
        clear hK K
        try simp only [Act.put, List.getElem_toArray, List.getElem_cons_zero, List.getElem_cons_succ, List.setIfInBounds_toArray, List.set_cons_zero, List.set_cons_succ]
        refine ordX_one (i := 17) (by kernel_rfl) rfl fun K hK => ?_
        rw [if_pos (by rfl)]
        refine op_append_grows _ _ 28 rfl 68 i0 _ 3 48 Tryz.underlying28 HI0.out.1 HI0.out.2.1 HI0.out.2.2.1 HI0.out.2.2.2 zeroF_cells (by decide) a j j (filesC (Y.take j)) rfl (file_nil (HOW.out V1 g1) hj) (by rw [filesC_len, List.length_take, HN.out, Nat.min_eq_left hj]) (file_take (HOW.out V1 g1) j) ⟨q8, 0, none⟩ 1 1 (fileC (p, g)) rfl rfl (HB8.out V1 (World.grownBy.refl _ _)) (fileC_one _) (by omega) (by unfold maxLen; omega) (by omega) (fun v' wE hown hg => ?_)
        have gE := World.grownBy.trans g1 hg
        obtain ⟨g6, c6, rfl⟩ := ownsRow_succ hown
        have HOWN := Lib.hid hown
        refine hK.out _ _ (.inr gE) (fun _ => ?_)
        clear hK K
        try simp only [Act.put, List.getElem_toArray, List.getElem_cons_zero, List.getElem_cons_succ, List.setIfInBounds_toArray, List.set_cons_zero, List.set_cons_succ]
        clear hg hown
        have HOF : Hid (OwnsF wE W1.heap.size (.slice (some ⟨g6, 0, none⟩) (j + 1) c6) (Y.take j ++ (p, g) :: Y.drop j)) := Lib.hid (by
          have e : Y.take j ++ (p, g) :: Y.drop j = Y.take j ++ [(p, g)] := by rw [List.drop_eq_nil_of_le (by rw [HN.out]; have := HRR.out; omega)]
          rw [e]
          refine OwnsF.low (b := V1.heap.size) ?_ g1.size
          show World.ownsRow _ _ _ _ _ _ _
          rw [List.length_append, List.length_take, HN.out, Nat.min_eq_left hj, filesC_app]
          have e1 : filesC [(p, g)] = fileC (p, g) := by simp [filesC]
          rw [e1]
          exact HOWN.out)
        have hcE := HLC.out wE gE
        have hfE : wE.frozen? ⟨rb, 0, none⟩ = false := by
          have := ((HR.out.stays G0.out).stays (World.grownBy.trans G1.out gE)).cell.2
          exact this
        refine ordX_one (i := 18) (by kernel_rfl) rfl fun K hK => ?_
        rw [if_pos (by rfl)]
        go_simp
        refine hK.out _ _ (.inr gE) (fun _ => ?_)
        clear hK K
        try simp only [Act.put, List.getElem_toArray, List.getElem_cons_zero, List.getElem_cons_succ, List.setIfInBounds_toArray, List.set_cons_zero, List.set_cons_succ]
        refine ordX_one (i := 19) (by kernel_rfl) rfl fun K hK => ?_
        rw [if_pos (by rfl)]
        go_simp
        refine hK.out _ _ (.inr gE) (fun _ => ?_)
        clear hK K
        try simp only [Act.put, List.getElem_toArray, List.getElem_cons_zero, List.getElem_cons_succ, List.setIfInBounds_toArray, List.set_cons_zero, List.set_cons_succ]
        refine ordX_one (i := 20) (by kernel_rfl) rfl fun K hK => ?_
        rw [if_pos (by rfl)]
        go_simp
        refine hK.out _ _ (.inl rfl) (fun _ => ?_)
        clear hK K
        try simp only [Act.put, List.getElem_toArray, List.getElem_cons_zero, List.getElem_cons_succ, List.setIfInBounds_toArray, List.set_cons_zero, List.set_cons_succ]
        refine ordX_done (by kernel_rfl) ?_ _
        obtain ⟨WF, hWF⟩ : ∃ WF, wE.setCell ⟨rb, 0, none⟩ (.slice (some ⟨g6, 0, none⟩) (j + 1) c6) = WF := ⟨_, rfl⟩
        have gF : wE.grownBy WF (some rb) := by rw [← hWF]; exact bk_set_grown wE rb 0 _
        have hdE := ((HR.out.stays G0.out).stays (World.grownBy.trans G1.out gE)).head
        have hdF : WF.heap[rb]? = some (.cells #[.slice (some ⟨g6, 0, none⟩) (j + 1) c6] 30 (0, 0)) := by rw [← hWF]; exact bk_set hdE 0 _
        have HLAST : Hid (PutRef rb (putA Y p g) w (.returned (.tuple #[])) WF) := Lib.hid (put_done HR.out G0.out G1.out gE gF hdF HOF.out HUP.out HG.out.2.2)
        rw [hWF]
        clear hWF gF hdE hdF hcE hfE
        go_wp2
        exact bodyPost_end (results_none rfl _ _ _) rfl HLAST.out
      · obtain ⟨gq, rfl, rfl⟩ : ∃ gq, a = some ⟨gq, 0, none⟩ ∧ a43 = some ⟨gq, j * 3, none⟩ := by
          obtain ⟨gq, h1, h2⟩ := HA43.out hr0
          exact ⟨gq, h1, h2⟩
        refine op_append_grows _ _ 28 rfl 68 i0 _ 3 48 Tryz.underlying28 HI0.out.1 HI0.out.2.1 HI0.out.2.2.1 HI0.out.2.2.2 zeroF_cells (by decide) (some ⟨q8, 0, none⟩) 1 1 (fileC (p, g)) rfl (fun e => by cases e) rfl (fun b' e => by cases e; exact HB8.out V1 (World.grownBy.refl _ _)) ⟨gq, j * 3, none⟩ r c43 (filesC (Y.drop j)) rfl (by rw [filesC_len, List.length_drop, HN.out, HRR.out]) (file_drop (HOW.out V1 g1) j hj HN.out) (filesC_one _) (by omega) (by unfold maxLen; have := HRR.out; omega) (by have := HRR.out; omega) (fun v' w2 hown hg => ?_)
        have g2 := World.grownBy.trans g1 hg
        obtain ⟨g4, c4, rfl⟩ : ∃ g4 c4, v' = .slice (some ⟨g4, 0, none⟩) (1 + r) c4 := by
          rcases hown.2 with ⟨_, h0⟩ | ⟨g4, c4, _, rfl, _⟩
          · omega
          · exact ⟨g4, c4, rfl⟩
        have HOWN := Lib.hid hown
        refine hK.out _ _ (.inr g2) (fun _ => ?_)
        clear hK K
        try simp only [Act.put, List.getElem_toArray, List.getElem_cons_zero, List.getElem_cons_succ, List.setIfInBounds_toArray, List.set_cons_zero, List.set_cons_succ]
        clear hg hown
        refine ordX_one (i := 17) (by kernel_rfl) rfl fun K hK => ?_
        rw [if_pos (by rfl)]
        refine op_append_grows _ _ 28 rfl 68 i0 _ 3 48 Tryz.underlying28 HI0.out.1 HI0.out.2.1 HI0.out.2.2.1 HI0.out.2.2.2 zeroF_cells (by decide) (some ⟨gq, 0, none⟩) j j (filesC (Y.take j)) rfl (fun e => by cases e) (by rw [filesC_len, List.length_take, HN.out, Nat.min_eq_left hj]) (file_take (HOW.out w2 g2) j) ⟨g4, 0, none⟩ (1 + r) c4 (fileC (p, g) ++ filesC (Y.drop j)) rfl (by rw [List.length_append, fileC_len, filesC_len, List.length_drop, HN.out, HRR.out]; omega) (World.ownsRow.cells HOWN.out rfl) (fun u hu => (List.mem_append.1 hu).elim (fileC_one _ u) (filesC_one _ u)) (by omega) (by unfold maxLen; have := HRR.out; omega) (by have := HRR.out; omega) (fun v5 wE hown5 hg5 => ?_)
        have gE := World.grownBy.trans g2 hg5
        obtain ⟨g6, c6, rfl⟩ : ∃ g6 c6, v5 = .slice (some ⟨g6, 0, none⟩) (j + (1 + r)) c6 := by
          rcases hown5.2 with ⟨_, h0⟩ | ⟨g6, c6, _, rfl, _⟩
          · omega
          · exact ⟨g6, c6, rfl⟩
        have HOW5 := Lib.hid hown5
        refine hK.out _ _ (.inr gE) (fun _ => ?_)
        clear hK K
        try simp only [Act.put, List.getElem_toArray, List.getElem_cons_zero, List.getElem_cons_succ, List.setIfInBounds_toArray, List.set_cons_zero, List.set_cons_succ]
        clear hg5 hown5
        have HOF : Hid (OwnsF wE W1.heap.size (.slice (some ⟨g6, 0, none⟩) (j + (1 + r)) c6) (Y.take j ++ (p, g) :: Y.drop j)) := Lib.hid (by
          refine OwnsF.low (b := w2.heap.size) ?_ g2.size
          show World.ownsRow _ _ _ _ _ _ _
          have e1 : filesC (Y.take j ++ (p, g) :: Y.drop j) = filesC (Y.take j) ++ (fileC (p, g) ++ filesC (Y.drop j)) := by rw [filesC_app]; rfl
          have e2 : (Y.take j ++ (p, g) :: Y.drop j).length = j + (1 + r) := by rw [List.length_append, List.length_take, List.length_cons, List.length_drop, HN.out, Nat.min_eq_left hj, HRR.out]; omega
          rw [e1, e2]
          exact HOW5.out)
        have hcE := HLC.out wE gE
        have hfE : wE.frozen? ⟨rb, 0, none⟩ = false := by
          have := ((HR.out.stays G0.out).stays (World.grownBy.trans G1.out gE)).cell.2
          exact this
        refine ordX_one (i := 18) (by kernel_rfl) rfl fun K hK => ?_
        rw [if_pos (by rfl)]
        go_simp
        refine hK.out _ _ (.inr gE) (fun _ => ?_)
        clear hK K
        try simp only [Act.put, List.getElem_toArray, List.getElem_cons_zero, List.getElem_cons_succ, List.setIfInBounds_toArray, List.set_cons_zero, List.set_cons_succ]
        refine ordX_one (i := 19) (by kernel_rfl) rfl fun K hK => ?_
        rw [if_pos (by rfl)]
        go_simp
        refine hK.out _ _ (.inr gE) (fun _ => ?_)
        clear hK K
        try simp only [Act.put, List.getElem_toArray, List.getElem_cons_zero, List.getElem_cons_succ, List.setIfInBounds_toArray, List.set_cons_zero, List.set_cons_succ]
        refine ordX_one (i := 20) (by kernel_rfl) rfl fun K hK => ?_
        rw [if_pos (by rfl)]
        go_simp
        refine hK.out _ _ (.inl rfl) (fun _ => ?_)
        clear hK K
        try simp only [Act.put, List.getElem_toArray, List.getElem_cons_zero, List.getElem_cons_succ, List.setIfInBounds_toArray, List.set_cons_zero, List.set_cons_succ]
        refine ordX_done (by kernel_rfl) ?_ _
        obtain ⟨WF, hWF⟩ : ∃ WF, wE.setCell ⟨rb, 0, none⟩ (.slice (some ⟨g6, 0, none⟩) (j + (1 + r)) c6) = WF := ⟨_, rfl⟩
        have gF : wE.grownBy WF (some rb) := by rw [← hWF]; exact bk_set_grown wE rb 0 _
        have hdE := ((HR.out.stays G0.out).stays (World.grownBy.trans G1.out gE)).head
        have hdF : WF.heap[rb]? = some (.cells #[.slice (some ⟨g6, 0, none⟩) (j + (1 + r)) c6] 30 (0, 0)) := by rw [← hWF]; exact bk_set hdE 0 _
        have HLAST : Hid (PutRef rb (putA Y p g) w (.returned (.tuple #[])) WF) := Lib.hid (put_done HR.out G0.out G1.out gE gF hdF HOF.out HUP.out HG.out.2.2)
        rw [hWF]
        clear hWF gF hdE hdF hcE hfE
        go_wp2
        exact bodyPost_end (results_none rfl _ _ _) rfl HLAST.out
end Go.Proofs.YtichejodbohldaaGreatDoor
