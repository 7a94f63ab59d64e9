/-
  ShaSums, proved: for every list of parts and every place the law returns true: the parts' sum is the reference's, wherever they are cut.
  CONDITIONS: the variable haversack/sha.rounds starts as the program's text lays it (the card ties it).
-/
import Derived.Test.YtpiikgobdhgldaaDoorZ
import Derived.Test.YtpiikgobdhgldaaDoorY
import Derived.Deep.Matrix
namespace Go.Proofs.YtpiikgobdhgldaaDoor
open Go.ChangeShapes Go.WideShapes Go.ChangeAt Go.RowKit

theorem cells24 : Tryd.prog.cellsOf 24 = 1 := by kernel_rfl
def bytesZ (zs : List Int) : List UInt8 := zs.map fun z => UInt8.ofNat z.toNat
theorem spot_none {W : World} {a : Addr} {v : Value} (h : W.cell? (a.add 0) = some v) : a.spot = none := by
  obtain ⟨b, o, s⟩ := a
  have e : (Addr.add ⟨b, o, s⟩ 0) = ⟨b, o, s⟩ := by simp [Addr.add]
  rw [e] at h
  exact cell_spot h
/-- One row, as a part. -/
theorem part_row (W : World) (A : Option Addr) (L C : Nat) (Z : List Int) (h0 : 0 < W.heap.size) (hLC : L ≤ C) (hZ : Z.length = C) (hw : ∀ n ∈ Z, (Lit.int .u8 n).wf = true) (hn : A = none → C = 0)
    (hc : ∀ a', A = some a' → ∀ c, c < C → W.cell? (a'.add c) = some (.int .u8 (Z.getD c 0))) : Part W W.heap.size (.slice A L C) (bytesZ (Z.take L)) := by
  have hlen : (bytesZ (Z.take L)).length = L := by simp [bytesZ]; omega
  by_cases hL : L = 0
  · subst hL
    exact ⟨A, C, 0, 0, by rw [hlen], by rw [hlen]; omega, hn, h0, fun hp => by rw [hlen] at hp; omega, fun j hj => by rw [hlen] at hj; omega⟩
  · cases hA : A with
    | none => have := hn hA; omega
    | some a' =>
      have hs := spot_none (hc a' hA 0 (by omega))
      obtain ⟨b, o, s⟩ := a'
      have hs' : s = none := hs
      subst hs'
      have hb : b < W.heap.size := by
        have h := hc _ hA 0 (by omega)
        rw [Addr.add_mid] at h
        exact World.block_lt_of_cell? _ _ h
      refine ⟨_, C, b, o, by rw [hlen], by rw [hlen]; exact hLC, (fun h => by cases h), hb, fun _ => rfl, fun j hj => ?_⟩
      rw [hlen] at hj
      have h := hc _ hA j (by omega)
      rw [Addr.add_mid] at h
      rw [h]
      have hz := hw (Z.getD j 0) (by rw [List.getD_eq_getElem?_getD, List.getElem?_eq_getElem (by omega)]; exact List.getElem_mem _)
      have hb2 : 0 ≤ Z.getD j 0 ∧ Z.getD j 0 ≤ 255 := by simpa [Lit.wf, IntKind.min, IntKind.max, IntKind.signed, IntKind.bits] using hz
      have e : (bytesZ (Z.take L)).getD j 0 = UInt8.ofNat (Z.getD j 0).toNat := by
        simp only [bytesZ, List.getD_eq_getElem?_getD, List.getElem?_map, List.getElem?_take, if_pos hj]
        rw [List.getElem?_eq_getElem (by omega)]
        rfl
      rw [e, ← byte_int _ hb2.1 (by omega)]

/-- The argument l. -/
theorem open_parts {H : Type} {enc : TypeId × Value → H} {W : World} {v : Value} {d : DataW H} {p : List MemPlace} {bb : Nat} (h0 : 0 < W.heap.size) (hv : Value.okWide Tryd.prog W .any bb 22 v)
    (h : DataW.Trod enc Tryd.prog W 0 (fun _ => true) true 22 v d p) :
    ∃ (a : Option Addr) (n cap : Nat) (Ls : List (List UInt8)), v = .slice a n cap ∧ Ls.length = n ∧ n ≤ cap ∧ cap ≤ maxLen ∧ (∀ i (h : i < Ls.length), Ls[i].length ≤ maxLen) ∧ Parts W W.heap.size a Ls := by
  obtain ⟨a0, n0, c0, rfl⟩ := okWide_slice Tryd.underlying22 hv
  obtain ⟨fuel, hf⟩ := h
  rcases Deep.open_int_rows Tryd.underlying22 Tryd.underlying24 Tryd.underlying5 cells24 cellsB hf with ⟨hcs0, hx⟩ | ⟨a, len, cap, A, L, C, Z, hcs0, _, hl, hm, hx, hrows⟩
  · simp [Value.cells] at hcs0
    obtain ⟨rfl, rfl, rfl⟩ := hcs0
    exact ⟨none, 0, 0, [], rfl, rfl, Nat.le_refl _, by unfold maxLen; omega, fun i hi => by simp at hi, 0, 0, h0, fun hp => by simp at hp, fun i hi => by simp at hi⟩
  · simp [Value.cells] at hcs0
    obtain ⟨rfl, rfl, rfl⟩ := hcs0
    refine ⟨some a, n0, c0, (List.range n0).map fun r => bytesZ ((Z r).take (L r)), rfl, by simp, hl, hm, fun i hi => ?_, ?_⟩
    · have hi' : i < n0 := by simpa using hi
      obtain ⟨_, q2, q3, q4, _⟩ := hrows i (by omega)
      simp [bytesZ]
      omega
    · by_cases hz : n0 = 0
      · subst hz
        exact ⟨0, 0, h0, fun hp => by simp at hp, fun i hi => by simp at hi⟩
      · have hs := spot_none (hrows 0 (by omega)).1
        obtain ⟨b, o, s⟩ := a
        have hs' : s = none := hs
        subst hs'
        have hb : b < W.heap.size := by
          have h := (hrows 0 (by omega)).1
          rw [Addr.add_mid] at h
          exact World.block_lt_of_cell? _ _ h
        refine ⟨b, o, hb, fun _ => rfl, fun i hi => ?_⟩
        have hi' : i < n0 := by simpa using hi
        obtain ⟨q1, q2, q3, q4, q5, q6, q7⟩ := hrows i (by omega)
        rw [Addr.add_mid] at q1
        refine ⟨_, q1, ?_⟩
        have e : ((List.range n0).map fun r => bytesZ ((Z r).take (L r)))[i]'hi = bytesZ ((Z i).take (L i)) := by simp
        rw [e]
        exact part_row W (A i) (L i) (C i) (Z i) h0 q2 q4 q5 q6 (fun a' ha c hc => (q7 a' ha).2 c hc)

set_option maxRecDepth 100000 in
theorem sums_lifted (os : Os) (started : os.Started) (H : Type) (enc : TypeId × Value → H) :
    ReturnsInHanded {} Tryd.checked os 3 .any (fun w args => (Rows.shaSumsSpec.pre enc Tryd.prog Tryd.f3 [] false w args ∧ laidMetH Tryd.prog laidList w) ∧ sizedMet enc Tryd.prog Tryd.f3 (OpenSpec.ofChange Rows.shaSumsSpec) false w args)
      (Rows.shaSumsSpec.post enc Tryd.prog Tryd.f3 false true false false) := by
  refine returnsInHanded_of_change_and (C := Tryd.checked) (X := fun w _ => laidMetH Tryd.prog laidList w) (fun _ _ _ hh h => h.of_heap hh) own started (by kernel_rfl) Tryd.func3
    (ChangeSpec.witness_shaped (enc := enc) (C := Tryd.checked) (os := os) (X := fun w _ => laidMetH Tryd.prog laidList w) false (World.laidAll Tryd.prog os laidList) #[.slice none 0 0, .int .i64 0] 8 (World.laidAll_os _ _ _)
      (World.shaped_of_ZipB (by kernel_rfl) (by kernel_rfl)) (by kernel_rfl) (by kernel_rfl) (by kernel_rfl)
      (by rw [MakeChecks.laidMetH_plain _ _ _ (by kernel_rfl)]; exact laidMet_laidAll _ (by kernel_rfl) (by kernel_rfl))) ?_
  intro W base args ds gs before hval0 hW _ _ hL _
  have hval : ∀ (j : Nat) t v, Tryd.f3.params[j]? = some t → args[j]? = some v → Value.okWide Tryd.prog W .any base t v := hval0
  have hW' := hW
  obtain ⟨p, q, hA0, hV, rfl, _, _⟩ := hW
  have hA : DataW.TrodAll enc Tryd.prog W 0 (fun _ => true) true Tryd.f3.params.toList args.toList ds p := hA0
  rw [Tryd.params3] at hA hval
  obtain ⟨v0, v1, d0, d1, p0, p1, rfl, rfl, rfl, h0, h1⟩ := trodAll_two hA
  obtain ⟨rfl, rfl⟩ := trodVars_none hV
  have h0k := h0
  have hl : laidMet Tryd.prog laidList W := by rwa [MakeChecks.laidMetH_plain _ _ _ (by kernel_rfl)] at hL
  have hT := table_of_laid hl
  have hpos := World.block_lt_of_cell? _ _ (hT 0 (by omega))
  obtain ⟨a, n, cap, Ls, rfl, hn, hcap, hc2, hlens, hP⟩ := open_parts hpos (hval 0 22 v0 rfl rfl) h0
  obtain ⟨k, rfl, rfl, rfl, wk⟩ := open_int Tryd.underlying3 (hval 1 3 v1 rfl rfl) h1
  have hk : -9223372036854775808 ≤ k ∧ k ≤ 9223372036854775807 := by simpa [Lit.wf, IntKind.min, IntKind.max, IntKind.signed, IntKind.bits] using wk
  have hlt : ∀ y ∈ p0, y.block < W.heap.size := fun y hy => hW'.lt y (by simp [hy])
  simp only [List.append_nil] at hW'
  refine (sums_law W.heap.size cap n a k Ls W hn (Nat.le_refl _) hcap hc2 hk.1 hk.2 hpos hlens hT hP).mono fun e W' ⟨he, hg⟩ => ?_
  subst he
  have hb := below_of_grown hg
  exact ⟨_, rfl, _, _, _, [], _, [], hW', trodAll_mk1 (shut_bool Tryd.underlying4 _), trodAll_mk2 (Below.trod laidOut (by kernel_rfl) (of_decide_eq_true (by kernel_rfl)) h0k hb hlt) (shut_int Tryd.underlying3 wk), rfl, hb.frame _, fun h => by cases h⟩
theorem sums_holds : Rows.ShaSumsSaid :=
  OpenClaim.holds_of_wide 3 Tryd.f3 rfl rfl rfl rfl rfl rfl rfl ⟨rfl, rfl, rfl, rfl, rfl⟩ rfl rfl rfl rfl rfl (by kernel_rfl) Tryd.func3 (by kernel_rfl)
    (of_decide_eq_true (by kernel_rfl)) (by unfold Func.isWrapper; first | (rw [if_pos (by decide +kernel)]; kernel_rfl) | (rw [if_neg (by decide +kernel)]; exact ⟨rfl, rfl⟩))
    (fun os started H enc _ => sums_lifted os started H enc)
theorem sums_card : Rows.ShaSumsCardSaid :=
  Claim7.holds_tied_plain_at .later [] [.data] true (true, "26410e198fd20afba1e678ed508e54d0d498a55c14d7b1791b8538853fbcad5a") false sums_holds (fun _ h => by cases h) (by kernel_rfl) (fun _ h => by cases h) shaSums_row_tie rfl ⟨rfl, rfl⟩ (by kernel_rfl) rfl
    (fun f fn hf hfn => by
      obtain rfl : f = 3 := Option.some.inj ((show Tryd.prog.funcNamed "haversack/haversacklaw1.ShaSums" = some 3 by kernel_rfl).symm.trans hf) |>.symm
      obtain rfl : fn = Tryd.f3 := (Option.some.inj (Tryd.func3.symm.trans hfn)).symm
      exact ⟨by kernel_rfl, fun j t ht => by
        rw [Tryd.params3] at ht
        have hm : t ∈ [22, 3] := by simpa using Array.mem_of_getElem? ht
        have hall : ([22, 3].all fun u => !Tryd.prog.wantsStandIn u) = true := by kernel_rfl
        exact (show Tryd.prog.wantsStandIn t = false by simpa using List.all_eq_true.1 hall t hm)⟩)
    (by kernel_rfl)
#print axioms sums_card
end Go.Proofs.YtpiikgobdhgldaaDoor
