/- The reference's table, and its Sum. -/
import Derived.Test.YtfpehdldgnfciaaGreatDoorM1
import Derived.Test.YtfpehdldgnfciaaGreatDoorM4
import Derived.IntWalk
import Derived.BigRegion
namespace Go.Proofs.YtfpehdldgnfciaaGreatDoor.Sha
open Go.RowKit Go.Sort

def tableV : Array Value := table.map encW
theorem tableV_size : tableV.size = 64 := by kernel_rfl
theorem tableV_one : tableV.all (·.oneCell') = true := by kernel_rfl
def zeros64 : Array Value := Array.replicate 64 (.int .u32 0)
theorem info25 : (Tryz.prog.info? 31).map (·.size) = some 32 := by kernel_rfl
theorem info50 : (Tryz.prog.info? 124).map (·.size) = some 64 := by kernel_rfl
def initV : Array Value := init.row.map encW
def zeros8 : Array Value := Array.replicate 8 (.int .u32 0)
theorem initV_one : initV.all (·.oneCell') = true := by kernel_rfl
theorem initV_size : initV.size = 8 := by kernel_rfl

theorem wpList_built {P : Program} {ops : Array Oper} {rest : List Oper} {o : Oper} {a : Act} {w : World} {Q : Exit → Act → World → Prop} (hg : o.guard = none) (t : TypeId) (parts : Array (Nat × Operand)) (ho : o.op = .build t parts) (cells : Array Value)
    (hc : P.built t (parts.map fun (i, x) => (i, a.eval x)).toList = some cells) (h : wpList P ops Q rest (a.put o.dst (.agg cells)) w) : wpList P ops Q (o :: rest) a w :=
  wpList_build hg t parts ho (by rw [hc]; rfl) (by rw [hc]; exact h)

set_option maxRecDepth 1000000
set_option maxHeartbeats 4000000 in
theorem table_any (w : World) :
    Calls Tryz.prog 50 #[] w fun e w' => e = .returned (.agg tableV) ∧ w' = w.alloc (.cells tableV 124) := by
  have hz : ∀ W : World, (zeroValue 124).run Tryz.prog W = .ok (.agg zeros64) W := by intro W; kernel_rfl
  have hst := run_storeCells_new (P := Tryz.prog) w 124 zeros64 tableV (by rw [tableV_size]; exact info50) (by rw [tableV_size]; rfl) tableV_one
  have hs := tableV_size
  go_enter Tryz.func50, Tryz.ntmps50
  go_wp2_with ((with_reducible refine wpList_built rfl 124 _ rfl tableV ?_ ?_); (kernel_rfl))
  refine bodyPost_ret (v := .agg tableV) ?_ rfl ⟨rfl, rfl⟩
  exact results_cell_row rfl _ _ w.heap.size 124 tableV (0, 0) _ rfl (heap_alloc_new _ _) Tryz.underlying124 rfl (by rw [info50, tableV_size])

theorem pad_len (L P0 : List UInt8) (h : L ++ padOf L = P0) : ∃ K, P0.length = 64 * K := by
  refine ⟨(L.length + 64 - (L.length % 64 + 8) % 64 + 8) / 64, ?_⟩
  rw [← h, pad_list]
  simp [be_len]
  omega
def keyB (s : St) : Nat → Array UInt8
  | 0 => Array.replicate 32 0
  | i + 1 => (keyB s i).setIfInBounds i (UInt8.ofNat ((s.row[i / 4]!).toNat / 2 ^ (24 - 8 * (i % 4))))
theorem keyB_size (s : St) (k : Nat) : (keyB s k).size = 32 := by
  induction k with
  | zero => simp [keyB]
  | succ k ih => simp [keyB, ih]
theorem keyB_eq (s : St) (k : Nat) : keyB s (4 * k) = keyA s k := by
  induction k with
  | zero => rfl
  | succ k ih =>
    have e : ∀ i, keyB s (i + 1) = (keyB s i).setIfInBounds i (UInt8.ofNat ((s.row[i / 4]!).toNat / 2 ^ (24 - 8 * (i % 4)))) := fun _ => rfl
    rw [show 4 * (k + 1) = 4 * k + 1 + 1 + 1 + 1 by omega, e, e, e, e, ih]
    rw [show 4 * k / 4 = k by omega, show (4 * k + 1) / 4 = k by omega, show (4 * k + 1 + 1) / 4 = k by omega, show (4 * k + 1 + 1 + 1) / 4 = k by omega,
      show 4 * k % 4 = 0 by omega, show (4 * k + 1) % 4 = 1 by omega, show (4 * k + 1 + 1) % 4 = 2 by omega, show (4 * k + 1 + 1 + 1) % 4 = 3 by omega]
    simp [keyA]

set_option maxRecDepth 1000000
set_option maxHeartbeats 4000000 in
theorem refsum_any (B n cap : Nat) (a : Option Addr) (L : List UInt8) (w : World) (hn : L.length = n) (hL : n ≤ 10000) (hP : Part w B (.slice a n cap) L) :
    Calls Tryz.prog 35 #[.slice a n cap] w fun e w' => e = .returned (.agg ((digest L).map encB)) ∧ w.grownBy w' none := by
  have HN := Lib.hid hn
  have HP := Lib.hid hP
  clear hn hP
  obtain ⟨Z32, hZ32⟩ : ∃ Z : Array Value, Array.replicate 32 (encB 0) = Z := ⟨_, rfl⟩
  have hz50 : ∀ W : World, (zeroValue 124).run Tryz.prog W = .ok (.agg zeros64) W := by intro W; kernel_rfl
  have hz25 : ∀ W : World, (zeroValue 31).run Tryz.prog W = .ok (.agg Z32) W := by intro W; rw [← hZ32]; kernel_rfl
  have hz39 : ∀ W : World, (zeroValue 116).run Tryz.prog W = .ok (.agg zeros8) W := by intro W; kernel_rfl
  have HZ := Lib.hid hZ32
  clear hZ32
  obtain ⟨W0, hW0⟩ : ∃ W0, w.alloc (.cells Z32 31) = W0 := ⟨_, rfl⟩
  have hs0 : W0.heap.size = w.heap.size + 1 := by rw [← hW0, alloc_size]
  obtain ⟨W1, hW1⟩ : ∃ W1, (W0.alloc (.cells initV 116)).alloc (.cells tableV 124) = W1 := ⟨_, rfl⟩
  have hs1 : W1.heap.size = w.heap.size + 1 + 1 + 1 := by rw [← hW1, alloc_size, alloc_size, hs0]
  have hst8 := run_storeCells_new (P := Tryz.prog) W0 116 zeros8 initV (by rw [initV_size]; exact info39) (by rw [initV_size]; rfl) initV_one
  have hst64 := run_storeCells_new (P := Tryz.prog) W1 124 zeros64 tableV (by rw [tableV_size]; exact info50) (by rw [tableV_size]; rfl) tableV_one
  rw [hs0, ← hW0] at hst8
  rw [hs1, ← hW1, ← hW0] at hst64
  have hts := tableV_size
  have his := initV_size
  have HW0 := Lib.hid hW0
  have HS0 := Lib.hid hs0
  have HW1 := Lib.hid hW1
  have HS1 := Lib.hid hs1
  clear hW0 hs0 hW1 hs1
  have hgr : Hid (w.grownBy ((((w.alloc (.cells Z32 31)).alloc (.cells initV 116)).alloc (.cells tableV 124)).alloc (.cells tableV 124)) none) :=
    World.grownBy.trans (World.grownBy.trans (World.grownBy.trans (World.grownBy_alloc _ _ _) (World.grownBy_alloc _ _ _)) (World.grownBy_alloc _ _ _)) (World.grownBy_alloc _ _ _)
  obtain ⟨P0, hP0⟩ : ∃ P0, L ++ padOf L = P0 := ⟨_, rfl⟩
  obtain ⟨K, hK⟩ : ∃ K, P0.length = 64 * K := pad_len L P0 hP0
  have hKle : K ≤ 1000 := by
    have h1 : P0.length ≤ L.length + 72 := by rw [← hP0, pad_list]; simp only [List.length_append, List.length_cons, List.length_replicate, be_len]; omega
    have := HN.out
    omega
  have hDig : digest L = keyA (blocks (fun j => P0.getD j 0) init K) 8 := by
    unfold digest sumSt
    rw [hP0, hK, Nat.mul_div_cancel_left _ (by omega)]
  obtain ⟨F, hF⟩ : ∃ F : Nat → UInt8, (fun j => P0.getD j 0) = F := ⟨_, rfl⟩
  rw [hF] at hDig
  have HP0 := Lib.hid hP0
  have HK := Lib.hid hK
  have HD := Lib.hid hDig
  have HF := Lib.hid hF
  clear hP0 hK hDig hF
  go_enter Tryz.func35, Tryz.ntmps35
  go_wp2_with (first
    | ((with_reducible refine wpList_built (o := ⟨some 25, _, _, _, _, _⟩) rfl 116 _ rfl initV ?_ ?_); (kernel_rfl))
    | (go_at_call 50; go_must (refine (table_any _).mono ?_); rintro e w' ⟨rfl, rfl⟩)
    | (go_at_call 51; go_must (refine (pad_any B n cap a L _ HN.out hL (HP.out.grown hgr.out (by simp))).mono ?_); rintro e wp ⟨v', rfl, hown, hgp⟩; obtain ⟨a', cap', hv', hc1, hc2⟩ := hown.form; rw [HP0.out, HK.out] at hv' hc1; unfold maxLen at hc2; subst hv'; have HO := Lib.hid hown; have HGP := Lib.hid hgp; clear hown hgp hst8 hst64))
  obtain ⟨W2, hW2⟩ : ∃ W2, W1.alloc (.cells tableV 124) = W2 := ⟨_, rfl⟩
  have hW2' : (((w.alloc (.cells Z32 31)).alloc (.cells initV 116)).alloc (.cells tableV 124)).alloc (.cells tableV 124) = W2 := by rw [← hW2, ← HW1.out, ← HW0.out]
  have hs2 : W2.heap.size = w.heap.size + 4 := by rw [← hW2, alloc_size, HS1.out]
  have HO2 : Hid (Owns wp W2.heap.size (.slice a' P0.length cap') P0) := by
    have h := HO.out
    rw [hW2', HP0.out] at h
    rw [HK.out]
    exact h
  have hgp : W2.grownBy wp none := by have h := HGP.out; rw [hW2'] at h; exact h
  have hgw : w.grownBy wp none := by have h := hgr.out; rw [hW2'] at h; exact World.grownBy.trans h hgp
  have hsp : w.heap.size + 4 ≤ wp.heap.size := by rw [← hs2]; exact hgp.size
  have hb0 : wp.heap[w.heap.size]? = some (.cells Z32 31 (0, 0)) := by
    rw [hgp.block _ (by omega) (by simp), ← hW2, heap_alloc_old _ _ (by rw [HS1.out]; omega), ← HW1.out, heap_alloc_old _ _ (by rw [alloc_size, HS0.out]; omega), heap_alloc_old _ _ (by rw [HS0.out]; omega), ← HW0.out, heap_alloc_new]
  have hb1 : wp.heap[w.heap.size + 1]? = some (.cells initV 116 (0, 0)) := by
    rw [hgp.block _ (by omega) (by simp), ← hW2, heap_alloc_old _ _ (by rw [HS1.out]; omega), ← HW1.out, heap_alloc_old _ _ (by rw [alloc_size, HS0.out]; omega), ← HS0.out, heap_alloc_new]
  have hb3 : wp.heap[w.heap.size + 1 + 1 + 1]? = some (.cells tableV 124 (0, 0)) := by
    rw [hgp.block _ (by omega) (by simp), ← hW2, ← HS1.out, heap_alloc_new]
  obtain ⟨a2, cap2, b, o, e1, e2, e3, e4, e5, e6⟩ := HO2.out.part (by omega)
  have hKpos : 0 < K := by
    have h1 : 0 < P0.length := by rw [← HP0.out, pad_list]; simp only [List.length_append, List.length_cons]; omega
    have := HK.out
    omega
  rw [Value.slice.injEq] at e1
  obtain ⟨rfl, _, rfl⟩ := e1
  obtain rfl := e5 (by have := HK.out; omega)
  have HQ : Hid (∀ j, j < 64 * K → wp.cell? ⟨b, o + j, none⟩ = some (.int .u8 ((F j).toNat : Int))) := fun j hj => by
    rw [e6 j (by rw [HK.out]; exact hj), ← HF.out]
  have hbw : b ≠ w.heap.size + 1 := by
    have h1 := HO2.out.lt b rfl
    omega
  have HB0 := Lib.hid hb0
  have HB1 := Lib.hid hb1
  have HB3 := Lib.hid hb3
  clear e2 e3 e5 e6 hb0 hb1 hb3 hW2 hW2' hs2 hgp HO HO2 HGP hz39 hz25 hgr hts his
  have HGW := Lib.hid hgw
  clear hgw
  go_loopw [6] (fun at_ wr => ∃ k : Nat, k ≤ K ∧ at_ = .int .i64 (64 * (k : Int)) ∧ wp.grownBy wr (some (w.heap.size + 1)) ∧ wr.heap[w.heap.size + 1]? = some (.cells ((blocks F init k).row.map encW) 116 (0, 0))) (fun at_ _ => 64 * K - (intOf at_).toNat)
  case atStart => exact ⟨0, by omega, rfl, World.grownBy.refl _ _, HB1.out⟩
  case round =>
    obtain ⟨k, hk, rfl, hgk, hbk⟩ := hrel
    have HGK := Lib.hid hgk
    have HBK := Lib.hid hbk
    have hsk := hgk.size
    clear hgk hbk
    by_cases hlt : k < K
    · have hbo : b < wr.heap.size := by have h1 := World.block_lt_of_cell? _ _ (HQ.out 0 (by omega)); have h2 : b < wp.heap.size := h1; omega
      have HQo : Hid (∀ j, j < 64 * K → wr.cell? ⟨b, o + j, none⟩ = some (.int .u8 ((F j).toNat : Int))) := fun j hj => HGK.out.cell (HQ.out j hj) (by simp only [ne_eq, Option.some.injEq]; exact hbw)
      have HTo : Hid (wr.heap[w.heap.size + 1 + 1 + 1]? = some (.cells (table.map encW) 124 (0, 0))) := by
        show _ = _
        rw [HGK.out.block _ (by omega) (by simp only [ne_eq, Option.some.injEq]; omega)]
        exact HB3.out
      refine round13 k K (w.heap.size + 1) (w.heap.size + 1 + 1 + 1) b o cap' F (blocks F init k) wr hlt hKle hc1 hc2 hbo (by omega) (by omega) HQo HTo HBK _ _ _ _ _ _ _ _ _ _ _ _ _ _ _ _ _ _ _ _ _ _ _ _ _ _ _ _ _ _ _ _ _ _ _ _ _ _ _ _ _ _ _ _ _ _ _ _ _ _ _ _ _ _ _ _ _ _ _ _ _ _ _ _ _ _ _ _ _ _ _ _ _ _ _ _ _ _ _ _ _ _ _ _ _ _ _ _ _ _ _ _ _ _ _ _ _ _ _ _ _ _ _ _ _ _ _ _ _ _ _ _ _ _ _ _ _ _ _ _ _ _ _ _ _ _ _ _ _ _ _ _ _ _ _ _ _ _ _ _ _ _ _ _ _ _ _ _ _ _ _ _ _ _ _ _ _ _ _ _ _ _ _ _ _ _ _ _ _ _ _ _ _ _ _ _ _ _ _ _ _ _ _ _ _ _ _ _ _ _ _ _ _ _ _ _ _ _ _ _ _ _ _ _ _ _ _ _ _ _ _ _ _ _ _ _ _ _ _ _ _ _ _ _ _ _ _ _ _ _ _ _ _ _ _ _ _ _ _ _ _ _ _ _ _ _ _ _ _ _ _ _ _ _ _ _ ?_
      intro x7 x8 x9 x10 x11 x12 x13 x14 x15 x16 x17 x18 x19 x20 x21 x22 x29 x30 x31 x32 x33 x34 x35 x36 x37 x38 x39 x40 x41 x42 x43 x44 x45 x46 x47 x48 x49 x50 x51 x52 x53 x54 x55 x56 x57 x58 x59 x60 x61 x62 x63 x64 x65 x66 x67 x68 x69 x70 x71 x72 x73 x74 x75 x76 x77 x78 x79 x80 x81 x82 x83 x84 x85 x86 x87 x88 x89 x90 x91 x92 x93 x94 x95 x96 x97 x98 x99 x100 x101 x102 x103 x104 x105 x106 x107 x108 x109 x110 x111 x112 x113 x114 x115 x116 x117 x118 x119 x120 x121 x122 x123 x124 x125 x126 x127 x128 x129 x130 x131 x132 x133 x134 x135 x136 x137 x138 x139 x140 x141 x142 x143 x144 x145 x146 x147 x148 x149 x150 x151 x152 x153 x154 x155 x156 x157 x158 x159 x160 x161 x162 x163 x164 x165 x166 x167 x168 x169 x170 x171 x172 x173 x174 x175 x176 x177 x178 x179 x180 x181 x182 x183 x184 x185 x186 x187 x188 x189 x190 x191 x192 x193 x194 x195 x196 x197 x198 x199 x200 x201 x202 x203 x204 x205 x206 x207 x208 x209 x210 x211 x212 x213 x214 x215 x216 x217 x218 x219 x220 x221 x222 x223 x224 x225 x226 x227 x228 x229 x230 x231 x232 x233 x234 x235 x236 x237 x238 x239 x240 x241 wq hgq hbq
      clear HTo HQo
      refine ⟨⟨.int .i64 (64 * (k : Int) + 64), x7, x8, x9, x10, x11, x12, x13, x14, x15, x16, x17, x18, x19, x20, x21, x22, x29, x30, x31, x32, x33, x34, x35, x36, x37, x38, x39, x40, x41, x42, x43, x44, x45, x46, x47, x48, x49, x50, x51, x52, x53, x54, x55, x56, x57, x58, x59, x60, x61, x62, x63, x64, x65, x66, x67, x68, x69, x70, x71, x72, x73, x74, x75, x76, x77, x78, x79, x80, x81, x82, x83, x84, x85, x86, x87, x88, x89, x90, x91, x92, x93, x94, x95, x96, x97, x98, x99, x100, x101, x102, x103, x104, x105, x106, x107, x108, x109, x110, x111, x112, x113, x114, x115, x116, x117, x118, x119, x120, x121, x122, x123, x124, x125, x126, x127, x128, x129, x130, x131, x132, x133, x134, x135, x136, x137, x138, x139, x140, x141, x142, x143, x144, x145, x146, x147, x148, x149, x150, x151, x152, x153, x154, x155, x156, x157, x158, x159, x160, x161, x162, x163, x164, x165, x166, x167, x168, x169, x170, x171, x172, x173, x174, x175, x176, x177, x178, x179, x180, x181, x182, x183, x184, x185, x186, x187, x188, x189, x190, x191, x192, x193, x194, x195, x196, x197, x198, x199, x200, x201, x202, x203, x204, x205, x206, x207, x208, x209, x210, x211, x212, x213, x214, x215, x216, x217, x218, x219, x220, x221, x222, x223, x224, x225, x226, x227, x228, x229, x230, x231, x232, x233, x234, x235, x236, x237, x238, x239, x240, x241, ⟨k + 1, by omega, by rw [show 64 * ((k + 1 : Nat) : Int) = 64 * (k : Int) + 64 by omega], World.grownBy.trans HGK.out hgq, hbq⟩, rfl⟩, ?_⟩
      simp [intOf]; omega
    · have hkK : k = K := by omega
      subst hkK
      clear hlt hk
      obtain ⟨st, hst⟩ : ∃ st, blocks F init k = st := ⟨_, rfl⟩
      have HST := Lib.hid hst
      have hbk : Hid (wr.heap[w.heap.size + 1]? = some (.cells (st.row.map encW) 116 (0, 0))) := by show _ = _; rw [← hst]; exact HBK.out
      have hgw1 : Hid (w.grownBy wr none) := grown_new HGW.out HGK.out (by omega)
      have hb0 : Hid (wr.heap[w.heap.size]? = some (.cells Z32 31 (0, 0))) := by
        show _ = _
        rw [HGK.out.block _ (by omega) (by simp only [ne_eq, Option.some.injEq]; omega)]
        exact HB0.out
      clear hst
      obtain ⟨wo, rfl⟩ : ∃ wo : World, wo = wr := ⟨_, rfl⟩
      go_wp2
      go_loopw [24] (fun i wr => ∃ m : Nat, m ≤ 32 ∧ i = .int .i64 m ∧ wr = wo.alloc (.cells ((keyB st m).map encB) 31)) (fun i _ => 32 - (intOf i).toNat)
      case atStart =>
        refine ⟨0, by omega, rfl, ?_⟩
        exact congrArg (fun c => wo.alloc (.cells c 31)) (by kernel_rfl)
      case round =>
        obtain ⟨m, hm, rfl, hw⟩ := hrel
        by_cases hlm : m < 32
        · obtain ⟨x, hx⟩ : ∃ x, st.row[m / 4]! = x := ⟨_, rfl⟩
          have hwl := Nat.lt_of_lt_of_le (show w.heap.size + 1 < w.heap.size + 4 by omega) (Nat.le_trans hsp hsk)
          have gsrc : wr.cell? ⟨w.heap.size + 1, m / 4, none⟩ = some (.int .u32 (x.toNat : Int)) := by
            rw [hw, World.cell?_alloc_old _ _ _ (Nat.ne_of_lt hwl), cell_in hbk.out, map_at _ _ (by rw [row_size]; omega), hx]; rfl
          obtain ⟨v, gs⟩ : ∃ v, wr.cell? ⟨wo.heap.size, m, none⟩ = some v := by
            rw [hw, alloc_cell, Array.getElem?_eq_getElem (by simp [keyB_size]; omega)]; exact ⟨_, rfl⟩
          have gf : wr.frozen? ⟨wo.heap.size, m, none⟩ = false := by rw [hw, alloc_frozen]
          refine round24 m (m % 4) (w.heap.size + 1) wo.heap.size x wr hlm rfl (by omega) gsrc v gs gf _ _ _ _ _ _ _ _ _ _ _ _ _ _ _ _ _ _ _ _ _ _ _ _ _ _ _ _ _ _ _ _ _ _ _ _ _ _ _ _ _ _ _ _ _ _ _ _ _ _ _ _ _ _ _ _ _ _ _ _ _ _ _ _ _ _ _ _ _ _ _ _ _ _ _ _ _ _ _ _ _ _ _ _ _ _ _ _ _ _ _ _ _ _ _ _ _ _ _ _ _ _ _ _ _ _ _ _ _ _ _ _ _ _ _ _ _ _ _ _ _ _ _ _ _ _ _ _ _ _ _ _ _ _ _ _ _ _ _ _ _ _ _ _ _ _ _ _ _ _ _ _ _ _ _ _ _ _ _ _ _ _ _ _ _ _ _ _ _ _ _ _ _ _ _ _ _ _ _ _ _ _ _ _ _ _ _ _ _ _ _ _ _ _ _ _ _ _ _ _ _ _ _ _ _ _ _ _ _ _ _ _ _ _ _ _ _ _ _ _ _ _ _ _ _ _ _ _ _ _ _ _ _ _ _ _ _ _ _ _ _ _ _ _ _ _ _ _ _ _ _ _ _ _ _ _ _ ?_
          intro y242 y243 y244 y245 y246 y247 y248 y249 y250 y251 y252 y253 y254 y255 y256 y257
          refine ⟨⟨.int .i64 ((m : Int) + 1), y242, y243, y244, y245, y246, y247, y248, y249, y250, y251, y252, y253, y254, y255, y256, y257, ⟨m + 1, by omega, by go_num, ?_⟩, rfl⟩, ?_⟩
          · rw [hw, alloc_set]
            refine congrArg (fun c => wo.alloc (.cells c 31)) ?_
            show _ = ((keyB st m).setIfInBounds m (UInt8.ofNat ((st.row[m / 4]!).toNat / 2 ^ (24 - 8 * (m % 4))))).map encB
            rw [hx, ← map_setB]
            refine congrArg (fun v => Array.setIfInBounds _ _ (Value.int .u8 v)) ?_
            rw [← byte_of]
            simp
          · simp [intOf]; omega
        · have hm32 : m = 32 := by omega
          subst hm32
          clear hlm hm
          have hkr : keyB st 32 = keyA st 8 := keyB_eq st 8
          rw [hkr] at hw
          have hD : (digest L).map encB = (keyA st 8).map encB := by rw [HD.out, HST.out]
          obtain ⟨KK, hKK⟩ : ∃ KK, (keyA st 8).map encB = KK := ⟨_, rfl⟩
          rw [hKK] at hw hD
          have hks : KK.size = 32 := by rw [← hKK, Array.size_map, keyA_size]
          have HKS := Lib.hid hks
          have hone : Hid (KK.all (·.oneCell') = true) := by
            show _ = _
            rw [← hKK, Array.all_map]
            exact Array.all_eq_true.2 fun i hi => rfl
          have HDD := Lib.hid hD
          have hnew : Hid (wr.heap[wo.heap.size]? = some (.cells KK 31 (0, 0))) := by
            show _ = _
            rw [hw, heap_alloc_new]
          have hold : Hid (wr.heap[w.heap.size]? = some (.cells Z32 31 (0, 0))) := by
            show _ = _
            rw [hw, heap_alloc_old _ _ (by omega)]
            exact hb0.out
          have hz32 : Hid (Z32.size = 32) := by show _ = _; rw [← HZ.out]; simp
          have hst := storeCells_row wr w.heap.size 31 31 Z32 KK hold.out (by rw [info25, HKS.out]) (by rw [HKS.out, hz32.out]) hone.out
          have hW := Lib.hid hw
          clear hw hkr hKK hD
          go_wp2_with ((with_reducible refine wpList_load_row (o := ⟨some 258, _, _, _, _, _⟩) rfl 31 _ rfl wo.heap.size ?_ 31 KK (0, 0) (.array 32 5) hnew.out Tryz.underlying31 rfl ?_ ?_); (exact rfl); (rw [info25, HKS.out]))
          refine bodyPost_ret (v := .agg KK) ?_ rfl ⟨by rw [HDD.out], ?_⟩
          · refine results_cell_row rfl _ _ w.heap.size 31 KK (0, 0) _ rfl ?_ Tryz.underlying31 rfl (by rw [info25, HKS.out])
            exact setRow_heap wr w.heap.size _ KK 31 _ hold.out
          · refine grown_setRow ?_ (Nat.le_refl _) _
            rw [hW.out]
            exact World.grownBy.trans hgw1.out (World.grownBy_alloc _ _ _)
end Go.Proofs.YtfpehdldgnfciaaGreatDoor.Sha
