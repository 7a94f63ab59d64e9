/-
  TreeAppends, proved: for every list of pieces the law returns true: what is appended, piece by piece, is what is written at once.
  CONDITIONS: the library's tables (unicode/utf8.acceptRanges, first) start as the library's text lays them (the card ties them); the proof does not use them.
-/
import Derived.Test.YtichejodbohldaaGreatDoorIlM
import Derived.Test.YtichejodbohldaaGreatDoorIkM
import Derived.Deep.Matrix
namespace Go.Proofs.YtichejodbohldaaGreatDoor
open Go.ChangeShapes Go.WideShapes Go.ChangeAt Go.RowKit
theorem cells_sl8 : Tryz.prog.cellsOf 31 = 1 := by kernel_rfl
def bytesZ (zs : List Int) : List UInt8 := zs.map fun z => UInt8.ofNat z.toNat
theorem byte_int (v : Int) (h0 : 0 ≤ v) (h1 : v < 256) : v = ((UInt8.ofNat v.toNat).toNat : Int) := by
  simp; omega
set_option maxRecDepth 1000000
/-- One row, as a part. -/
theorem part_row (W : World) (A : Option Addr) (L C : Nat) (Z : List Int) (h0 : 0 < W.heap.size) (hLC : L ≤ C) (hZ : Z.length = C) (hw : ∀ n ∈ Z, (Lit.int .u8 n).wf = true) (hn : A = none → C = 0)
    (hc : ∀ a', A = some a' → ∀ c, c < C → W.cell? (a'.add c) = some (.int .u8 (Z.getD c 0))) : Part W W.heap.size (.slice A L C) (bytesZ (Z.take L)) := by
  have hlen : (bytesZ (Z.take L)).length = L := by simp [bytesZ]; omega
  by_cases hL : L = 0
  · subst hL
    exact ⟨A, C, 0, 0, by rw [hlen], by rw [hlen]; omega, hn, h0, fun hp => by rw [hlen] at hp; omega, fun j hj => by rw [hlen] at hj; omega⟩
  · cases hA : A with
    | none => have := hn hA; omega
    | some a' =>
      have hs := spot_none (hc a' hA 0 (by omega))
      obtain ⟨b, o, s⟩ := a'
      have hs' : s = none := hs
      subst hs'
      have hb : b < W.heap.size := by
        have h := hc _ hA 0 (by omega)
        rw [Addr.add_mid] at h
        exact World.block_lt_of_cell? _ _ h
      refine ⟨_, C, b, o, by rw [hlen], by rw [hlen]; exact hLC, (fun h => by cases h), hb, fun _ => rfl, fun j hj => ?_⟩
      rw [hlen] at hj
      have h := hc _ hA j (by omega)
      rw [Addr.add_mid] at h
      rw [h]
      have hz := hw (Z.getD j 0) (by rw [List.getD_eq_getElem?_getD, List.getElem?_eq_getElem (by omega)]; exact List.getElem_mem _)
      have hb2 : 0 ≤ Z.getD j 0 ∧ Z.getD j 0 ≤ 255 := by simpa [Lit.wf, IntKind.min, IntKind.max, IntKind.signed, IntKind.bits] using hz
      have e : (bytesZ (Z.take L)).getD j 0 = UInt8.ofNat (Z.getD j 0).toNat := by
        simp only [bytesZ, List.getD_eq_getElem?_getD, List.getElem?_map, List.getElem?_take, if_pos hj]
        rw [List.getElem?_eq_getElem (by omega)]
        rfl
      rw [e, ← byte_int _ hb2.1 (by omega)]

/-- The argument l. -/
theorem open_parts {H : Type} {enc : TypeId × Value → H} {W : World} {v : Value} {d : DataW H} {p : List MemPlace} {bb : Nat} (h0 : 0 < W.heap.size) (hv : Value.okWide Tryz.prog W .any bb 64 v)
    (h : DataW.Trod enc Tryz.prog W 0 (fun _ => true) true 64 v d p) :
    ∃ (a : Option Addr) (n cap : Nat) (Ls : List (List UInt8)), v = .slice a n cap ∧ Ls.length = n ∧ n ≤ cap ∧ cap ≤ maxLen ∧ (∀ i (h : i < Ls.length), Ls[i].length ≤ maxLen) ∧ PartsB W W.heap.size a Ls := by
  obtain ⟨a0, n0, c0, rfl⟩ := okWide_slice Tryz.underlying64 hv
  obtain ⟨fuel, hf⟩ := h
  rcases Deep.open_int_rows Tryz.underlying64 Tryz.underlying31 Tryz.underlying5 cells_sl8 cells_u8 hf with ⟨hcs0, hx⟩ | ⟨a, len, cap, A, L, C, Z, hcs0, _, hl, hm, hx, hrows⟩
  · simp [Value.cells] at hcs0
    obtain ⟨rfl, rfl, rfl⟩ := hcs0
    exact ⟨none, 0, 0, [], rfl, rfl, Nat.le_refl _, by unfold maxLen; omega, fun i hi => by simp at hi, 0, 0, h0, fun hp => by simp at hp, fun i hi => by simp at hi⟩
  · simp [Value.cells] at hcs0
    obtain ⟨rfl, rfl, rfl⟩ := hcs0
    refine ⟨some a, n0, c0, (List.range n0).map fun r => bytesZ ((Z r).take (L r)), rfl, by simp, hl, hm, fun i hi => ?_, ?_⟩
    · have hi' : i < n0 := by simpa using hi
      obtain ⟨_, q2, q3, q4, _⟩ := hrows i (by omega)
      simp [bytesZ]
      omega
    · by_cases hz : n0 = 0
      · subst hz
        exact ⟨0, 0, h0, fun hp => by simp at hp, fun i hi => by simp at hi⟩
      · have hs := spot_none (hrows 0 (by omega)).1
        obtain ⟨b, o, s⟩ := a
        have hs' : s = none := hs
        subst hs'
        have hb : b < W.heap.size := by
          have h := (hrows 0 (by omega)).1
          rw [Addr.add_mid] at h
          exact World.block_lt_of_cell? _ _ h
        refine ⟨b, o, hb, fun _ => rfl, fun i hi => ?_⟩
        have hi' : i < n0 := by simpa using hi
        obtain ⟨q1, q2, q3, q4, q5, q6, q7⟩ := hrows i (by omega)
        rw [Addr.add_mid] at q1
        refine ⟨_, q1, ?_⟩
        have e : ((List.range n0).map fun r => bytesZ ((Z r).take (L r)))[i]'hi = bytesZ ((Z i).take (L i)) := by simp
        rw [e]
        exact part_row W (A i) (L i) (C i) (Z i) h0 q2 q4 q5 q6 (fun a' ha c hc => (q7 a' ha).2 c hc)


set_option maxRecDepth 100000 in
theorem appends_lifted (os : Os) (started : os.Started) (H : Type) (enc : TypeId × Value → H) :
    ReturnsInHanded {} Tryz.checked os 8 .any (fun w args => (Rows.treeAppendsSpec.pre enc Tryz.prog Tryz.f8 [] false w args ∧ laidMetH Tryz.prog laidList w) ∧ sizedMet enc Tryz.prog Tryz.f8 (OpenSpec.ofChange Rows.treeAppendsSpec) false w args)
      (Rows.treeAppendsSpec.post enc Tryz.prog Tryz.f8 false true false false) := by
  refine returns_all (C := Tryz.checked) (L := laidList) own started (by kernel_rfl) Tryz.func8
    (ChangeSpec.witness_shaped (enc := enc) (C := Tryz.checked) (os := os) (X := fun w _ => laidMetH Tryz.prog laidList w) false (World.laidAll Tryz.prog os laidList) #[.slice none 0 0] 8 (World.laidAll_os _ _ _)
      (World.shaped_of_ZipB (by kernel_rfl) (by kernel_rfl)) (by kernel_rfl) (by kernel_rfl) (by kernel_rfl)
      (by rw [MakeChecks.laidMetH_plain _ _ _ (by kernel_rfl)]; exact laidMet_laidAll _ (by kernel_rfl) (by kernel_rfl))) ?_
  intro W base args ds gs before hval0 hW hsh hL
  have hval : ∀ (j : Nat) t v, Tryz.f8.params[j]? = some t → args[j]? = some v → Value.okWide Tryz.prog W .any base t v := hval0
  have hW' := hW
  obtain ⟨p, q, hA0, hV, rfl, _, _⟩ := hW
  have hA : DataW.TrodAll enc Tryz.prog W 0 (fun _ => true) true Tryz.f8.params.toList args.toList ds p := hA0
  rw [Tryz.params8] at hA hval
  obtain ⟨v0, d0, rfl, rfl, h0⟩ := trodAll_one hA
  obtain ⟨rfl, rfl⟩ := trodVars_none hV
  obtain ⟨m, hm⟩ := wok_of hsh hL
  have h0k := h0
  have hpos : 0 < W.heap.size := by have := World.block_lt_of_cell? _ _ hm; omega
  obtain ⟨a, n, cap, l, rfl, hn, hcap, hc2, _, hP⟩ := open_parts hpos (hval 0 64 v0 rfl rfl) h0
  have hlt0 : ∀ y ∈ p, y.block < W.heap.size := fun y hy => hW'.lt y (by simp [hy])
  simp only [List.append_nil] at hW'
  refine (appends_law m n cap a l W hm hn hcap hc2 hP).mono fun e W' ⟨he, hg⟩ => ?_
  subst he
  have hb := below_of_grown hg
  exact ⟨_, rfl, _, _, _, [], _, [], hW', trodAll_mk1 (shut_bool Tryz.underlying4 _), trodAll_mk1 (Below.trod laidOut (by kernel_rfl) (of_decide_eq_true (by kernel_rfl)) h0k hb hlt0), rfl, hb.frame _, fun h => by cases h⟩
theorem appends_holds : Rows.TreeAppendsSaid :=
  OpenClaim.holds_of_wide 8 Tryz.f8 rfl rfl rfl rfl rfl rfl rfl ⟨rfl, rfl, rfl, rfl, rfl⟩ rfl rfl rfl rfl rfl (by kernel_rfl) Tryz.func8 (by kernel_rfl)
    (of_decide_eq_true (by kernel_rfl)) (by unfold Func.isWrapper; first | (rw [if_pos (by decide +kernel)]; kernel_rfl) | (rw [if_neg (by decide +kernel)]; exact ⟨rfl, rfl⟩))
    (fun os started H enc _ => appends_lifted os started H enc)
theorem appends_card : Rows.TreeAppendsCardSaid :=
  Claim7.holds_tied_plain_at .later [] [.data, .pinned] true (true, "e8c519a56fab8a2475ee2ff1c98fa2264309bf43fcfc8dd04ab2756222f8beb5") false appends_holds (fun _ h => by cases h) (by kernel_rfl) (fun _ h => by cases h) treeAppends_row_tie rfl ⟨rfl, rfl⟩ (by kernel_rfl) rfl
    (fun f fn hf hfn => by
      obtain rfl : f = 8 := Option.some.inj ((show Tryz.prog.funcNamed "haversack/haversacklaw8.TreeAppends" = some 8 by kernel_rfl).symm.trans hf) |>.symm
      obtain rfl : fn = Tryz.f8 := (Option.some.inj (Tryz.func8.symm.trans hfn)).symm
      exact ⟨by kernel_rfl, fun j t ht => by
        rw [Tryz.params8] at ht
        have hm : t ∈ [64] := by simpa using Array.mem_of_getElem? ht
        have hall : ([64].all fun u => !Tryz.prog.wantsStandIn u) = true := by kernel_rfl
        exact (show Tryz.prog.wantsStandIn t = false by simpa using List.all_eq_true.1 hall t hm)⟩)
    (by kernel_rfl)
#print axioms appends_card
end Go.Proofs.YtichejodbohldaaGreatDoor
