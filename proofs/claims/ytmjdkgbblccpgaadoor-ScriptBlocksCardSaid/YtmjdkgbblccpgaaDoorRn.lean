/-
  ScriptBlocks, proved: for every list of numbers the law returns true: ifs, elses, repeats and ends stand within one another as the document says, or are refused at just that line.
  CONDITIONS: the library's tables (math/bits.deBruijn32tab, deBruijn64tab, internal/strconv.uint64pow10, unicode/utf8.acceptRanges, first) and haversack/script.keywords start as the text lays them (the card ties them).
-/
import Derived.Test.YtmjdkgbblccpgaaDoorUs
import Derived.Test.YtmjdkgbblccpgaaDoorRk
import Derived.SliceStrings
import Derived.Lib.SmallJoins
import Derived.Deep.Grids
import Derived.ChangeSlices
namespace Go.Proofs.YtmjdkgbblccpgaaDoor
open Go.ChangeShapes Go.WideShapes Go.ChangeAt Go.RowKit
theorem cells_u8 : Tryd.prog.cellsOf 5 = 1 := by kernel_rfl
theorem laidOut : laidOutB Tryd.prog = true := by kernel_rfl
theorem spot_none {W : World} {a : Addr} {v : Value} (h : W.cell? (a.add 0) = some v) : a.spot = none := by
  obtain ⟨b, o, s⟩ := a
  have e : (Addr.add ⟨b, o, s⟩ 0) = ⟨b, o, s⟩ := by simp [Addr.add]
  rw [e] at h
  exact cell_spot h
theorem wf_u8 {n : Int} (h : (Lit.int .u8 n).wf = true) : 0 ≤ n ∧ n < 256 := by
  simp [Lit.wf, IntKind.min, IntKind.max, IntKind.bits, IntKind.signed] at h
  omega
set_option maxRecDepth 100000 in
/-- An argument that is a slice of bytes. -/
theorem open_bytesN {H : Type} {enc : TypeId × Value → H} {W : World} {v : Value} {d : DataW H} {p : List MemPlace} {bb : Nat} (hv : Value.okWide Tryd.prog W .any bb 28 v)
    (h : DataW.Trod enc Tryd.prog W 0 (fun _ => true) true 28 v d p) : ∃ (a : Option Addr) (n cap : Nat) (L : List Nat), v = .slice a n cap ∧ L.length = n ∧ (∀ x ∈ L, x < 256) ∧ BytesN W a L := by
  obtain ⟨a0, n0, c0, rfl⟩ := okWide_slice Tryd.underlying28 hv
  obtain ⟨fuel, hf⟩ := h
  rcases open_ints Tryd.underlying28 Tryd.underlying5 cells_u8 hf with ⟨hcs0, hx⟩ | ⟨a, len, cap, zs, hcs0, _, hl, hm, hz, hx, hrows, hwf⟩
  · simp [Value.cells] at hcs0
    obtain ⟨rfl, rfl, rfl⟩ := hcs0
    exact ⟨none, 0, 0, [], rfl, rfl, (fun x hx => by simp at hx), fun j x hj => by simp at hj⟩
  · simp [Value.cells] at hcs0
    obtain ⟨rfl, rfl, rfl⟩ := hcs0
    have hzl : zs.length = c0 := by simpa using hz
    refine ⟨some a, n0, c0, (zs.take n0).map Int.toNat, rfl, by rw [List.length_map, List.length_take]; omega, fun x hx => ?_, fun j x hj => ?_⟩
    · obtain ⟨y, hy, rfl⟩ := List.mem_map.1 hx
      have := wf_u8 (hwf y (List.mem_of_mem_take hy))
      omega
    rw [List.getElem?_map] at hj
    obtain ⟨y, hy, rfl⟩ := Option.map_eq_some_iff.1 hj
    have hj2 : j < n0 := by have := (List.getElem?_eq_some_iff.1 hy).1; rw [List.length_take] at this; omega
    have h1 := hrows j (by omega)
    have h3 : zs.getD j 0 = y := by
      rw [List.getElem?_take_of_lt hj2] at hy
      rw [List.getD_eq_getElem?_getD, hy]; rfl
    rw [h3] at h1
    have h5 : ((y.toNat : Nat) : Int) = y := by
      have := wf_u8 (hwf y (List.mem_of_getElem? (by rw [List.getElem?_take_of_lt hj2] at hy; exact hy)))
      omega
    obtain ⟨b, o, s⟩ := a
    have hs : s = none := spot_none (hrows 0 (by omega))
    subst hs
    rw [Addr.add_mid] at h1
    rw [h5]
    exact ⟨b, o, rfl, h1⟩

set_option maxRecDepth 100000 in
theorem blocks_lifted (os : Os) (started : os.Started) (H : Type) (enc : TypeId × Value → H) :
    ReturnsInHanded {} Tryd.checked os 4 .any (fun w args => (Rows.scriptBlocksSpec.pre enc Tryd.prog Tryd.f4 [] false w args ∧ laidMetH Tryd.prog laidList w) ∧ sizedMet enc Tryd.prog Tryd.f4 (OpenSpec.ofChange Rows.scriptBlocksSpec) false w args)
      (Rows.scriptBlocksSpec.post enc Tryd.prog Tryd.f4 false true false false) := by
  refine returns_all (C := Tryd.checked) (L := laidList) own started (by kernel_rfl) Tryd.func4
    (ChangeSpec.witness_shaped (enc := enc) (C := Tryd.checked) (os := os) (X := fun w _ => laidMetH Tryd.prog laidList w) false (World.laidAll Tryd.prog os laidList) #[.slice none 0 0] 8 (World.laidAll_os _ _ _)
      (World.shaped_of_ZipB (by kernel_rfl) (by kernel_rfl)) (by kernel_rfl) (by kernel_rfl) (by kernel_rfl)
      (by rw [MakeChecks.laidMetH_plain _ _ _ (by kernel_rfl)]; exact laidMet_laidAll _ (by kernel_rfl) (by kernel_rfl))) ?_
  intro W base args ds gs before hval0 hW hsh hL
  have hval : ∀ (j : Nat) t v, Tryd.f4.params[j]? = some t → args[j]? = some v → Value.okWide Tryd.prog W .any base t v := hval0
  have hW' := hW
  obtain ⟨p, q, hA0, hV, rfl, _, _⟩ := hW
  have hA : DataW.TrodAll enc Tryd.prog W 0 (fun _ => true) true Tryd.f4.params.toList args.toList ds p := hA0
  rw [Tryd.params4] at hA hval
  obtain ⟨v0, d0, rfl, rfl, h0⟩ := trodAll_one hA
  obtain ⟨rfl, rfl⟩ := trodVars_none hV
  obtain ⟨m, hm⟩ := wok_of hsh hL
  have h0k := h0
  obtain ⟨a, n, cap, l, rfl, hn, hl, hP⟩ := open_bytesN (hval 0 28 v0 rfl rfl) h0
  have hlt0 : ∀ y ∈ p, y.block < W.heap.size := fun y hy => hW'.lt y (by simp [hy])
  simp only [List.append_nil] at hW'
  refine (blocks_law m l n cap a W hm hn hl hP).mono fun e W' ⟨he, hg⟩ => ?_
  subst he
  have hb := below_of_grown hg
  exact ⟨_, rfl, _, _, _, [], _, [], hW', trodAll_mk1 (shut_bool Tryd.underlying4 _), trodAll_mk1 (Below.trod laidOut (by kernel_rfl) (of_decide_eq_true (by kernel_rfl)) h0k hb hlt0), rfl, hb.frame _, fun h => by cases h⟩
theorem blocks_holds : Rows.ScriptBlocksSaid :=
  OpenClaim.holds_of_wide 4 Tryd.f4 rfl rfl rfl rfl rfl rfl rfl ⟨rfl, rfl, rfl, rfl, rfl⟩ rfl rfl rfl rfl rfl (by kernel_rfl) Tryd.func4 (by kernel_rfl)
    (of_decide_eq_true (by kernel_rfl)) (by unfold Func.isWrapper; first | (rw [if_pos (by decide +kernel)]; kernel_rfl) | (rw [if_neg (by decide +kernel)]; exact ⟨rfl, rfl⟩))
    (fun os started H enc _ => blocks_lifted os started H enc)
theorem blocks_card : Rows.ScriptBlocksCardSaid :=
  Claim7.holds_tied_plain_at .later [] [.data, .data, .data, .data, .data, .pinned] true (true, "b564ecc3bda78392046bbe2d8a639e1848e20aaa785d817a202c0e025175ee52") false blocks_holds (fun _ h => by cases h) (by kernel_rfl) (fun _ h => by cases h) scriptBlocks_row_tie rfl ⟨rfl, rfl⟩ (by kernel_rfl) rfl
    (fun f fn hf hfn => by
      obtain rfl : f = 4 := Option.some.inj ((show Tryd.prog.funcNamed "haversack/haversacklaw17.ScriptBlocks" = some 4 by kernel_rfl).symm.trans hf) |>.symm
      obtain rfl : fn = Tryd.f4 := (Option.some.inj (Tryd.func4.symm.trans hfn)).symm
      exact ⟨by kernel_rfl, fun j t ht => by
        rw [Tryd.params4] at ht
        have hm : t ∈ [28] := by simpa using Array.mem_of_getElem? ht
        have hall : ([28].all fun u => !Tryd.prog.wantsStandIn u) = true := by kernel_rfl
        exact (show Tryd.prog.wantsStandIn t = false by simpa using List.all_eq_true.1 hall t hm)⟩)
    (by kernel_rfl)
#print axioms blocks_card
end Go.Proofs.YtmjdkgbblccpgaaDoor
