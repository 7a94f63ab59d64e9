/-
  TreeClones, proved: for every list of numbers and every byte the law returns true: a clone is like what it is a clone of, and what is done to the one is not done to the other; what is handed in and out is nobody else's.
  CONDITIONS: the library's tables (unicode/utf8.acceptRanges, first) start as the library's text lays them (the card ties them); the proof does not use them.
-/
import Derived.Test.YtichejodbohldaaGreatDoorIlM
import Derived.Test.YtichejodbohldaaGreatDoorHaM
import Derived.SliceStrings
import Derived.Lib.SmallJoins
import Derived.Deep.Grids
import Derived.ChangeSlices
namespace Go.Proofs.YtichejodbohldaaGreatDoor
open Go.ChangeShapes Go.WideShapes Go.ChangeAt Go.RowKit
set_option maxRecDepth 100000 in
/-- An argument that is a slice of bytes. -/
theorem open_bytesN {H : Type} {enc : TypeId × Value → H} {W : World} {v : Value} {d : DataW H} {p : List MemPlace} {bb : Nat} (hv : Value.okWide Tryz.prog W .any bb 31 v)
    (h : DataW.Trod enc Tryz.prog W 0 (fun _ => true) true 31 v d p) : ∃ (a : Option Addr) (n cap : Nat) (L : List Nat), v = .slice a n cap ∧ L.length = n ∧ (∀ x ∈ L, x < 256) ∧ BytesN W a L := by
  obtain ⟨a0, n0, c0, rfl⟩ := okWide_slice Tryz.underlying31 hv
  obtain ⟨fuel, hf⟩ := h
  rcases open_ints Tryz.underlying31 Tryz.underlying5 cells_u8 hf with ⟨hcs0, hx⟩ | ⟨a, len, cap, zs, hcs0, _, hl, hm, hz, hx, hrows, hwf⟩
  · simp [Value.cells] at hcs0
    obtain ⟨rfl, rfl, rfl⟩ := hcs0
    exact ⟨none, 0, 0, [], rfl, rfl, (fun x hx => by simp at hx), fun j x hj => by simp at hj⟩
  · simp [Value.cells] at hcs0
    obtain ⟨rfl, rfl, rfl⟩ := hcs0
    have hzl : zs.length = c0 := by simpa using hz
    refine ⟨some a, n0, c0, (zs.take n0).map Int.toNat, rfl, by rw [List.length_map, List.length_take]; omega, fun x hx => ?_, fun j x hj => ?_⟩
    · obtain ⟨y, hy, rfl⟩ := List.mem_map.1 hx
      have := wf_u8 (hwf y (List.mem_of_mem_take hy))
      omega
    rw [List.getElem?_map] at hj
    obtain ⟨y, hy, rfl⟩ := Option.map_eq_some_iff.1 hj
    have hj2 : j < n0 := by have := (List.getElem?_eq_some_iff.1 hy).1; rw [List.length_take] at this; omega
    have h1 := hrows j (by omega)
    have h3 : zs.getD j 0 = y := by
      rw [List.getElem?_take_of_lt hj2] at hy
      rw [List.getD_eq_getElem?_getD, hy]; rfl
    rw [h3] at h1
    have h5 : ((y.toNat : Nat) : Int) = y := by
      have := wf_u8 (hwf y (List.mem_of_getElem? (by rw [List.getElem?_take_of_lt hj2] at hy; exact hy)))
      omega
    obtain ⟨b, o, s⟩ := a
    have hs : s = none := spot_none (hrows 0 (by omega))
    subst hs
    rw [Addr.add_mid] at h1
    rw [h5]
    exact ⟨b, o, rfl, h1⟩

set_option maxRecDepth 100000 in
theorem clones_lifted (os : Os) (started : os.Started) (H : Type) (enc : TypeId × Value → H) :
    ReturnsInHanded {} Tryz.checked os 10 .any (fun w args => (Rows.treeClonesSpec.pre enc Tryz.prog Tryz.f10 [] false w args ∧ laidMetH Tryz.prog laidList w) ∧ sizedMet enc Tryz.prog Tryz.f10 (OpenSpec.ofChange Rows.treeClonesSpec) false w args)
      (Rows.treeClonesSpec.post enc Tryz.prog Tryz.f10 false true false false) := by
  refine returns_all (C := Tryz.checked) (L := laidList) own started (by kernel_rfl) Tryz.func10
    (ChangeSpec.witness_shaped (enc := enc) (C := Tryz.checked) (os := os) (X := fun w _ => laidMetH Tryz.prog laidList w) false (World.laidAll Tryz.prog os laidList) #[.slice none 0 0, .int .u8 0] 8 (World.laidAll_os _ _ _)
      (World.shaped_of_ZipB (by kernel_rfl) (by kernel_rfl)) (by kernel_rfl) (by kernel_rfl) (by kernel_rfl)
      (by rw [MakeChecks.laidMetH_plain _ _ _ (by kernel_rfl)]; exact laidMet_laidAll _ (by kernel_rfl) (by kernel_rfl))) ?_
  intro W base args ds gs before hval0 hW hsh hL
  have hval : ∀ (j : Nat) t v, Tryz.f10.params[j]? = some t → args[j]? = some v → Value.okWide Tryz.prog W .any base t v := hval0
  have hW' := hW
  obtain ⟨p, q, hA0, hV, rfl, _, _⟩ := hW
  have hA : DataW.TrodAll enc Tryz.prog W 0 (fun _ => true) true Tryz.f10.params.toList args.toList ds p := hA0
  rw [Tryz.params10] at hA hval
  obtain ⟨v0, v1, d0, d1, p0, p1, rfl, rfl, rfl, h0, h1⟩ := trodAll_two hA
  obtain ⟨rfl, rfl⟩ := trodVars_none hV
  obtain ⟨m, hm⟩ := wok_of hsh hL
  have h0k := h0
  obtain ⟨a, n, cap, l, rfl, hn, hl, hP⟩ := open_bytesN (hval 0 31 v0 rfl rfl) h0
  obtain ⟨t, rfl, rfl, rfl, wt⟩ := Go.ChangeShapes.open_int Tryz.underlying5 (hval 1 5 v1 rfl rfl) h1
  have hlt0 : ∀ y ∈ p0, y.block < W.heap.size := fun y hy => hW'.lt y (by simp [hy])
  simp only [List.append_nil] at hW'
  obtain ⟨t, rfl⟩ := Int.eq_ofNat_of_zero_le (wf_u8 wt).1
  have ct := (wf_u8 wt).2
  refine (clones_law m n cap t a l W hm hn hl (by omega) hP).mono fun e W' ⟨he, hg⟩ => ?_
  subst he
  have hb := below_of_grown hg
  exact ⟨_, rfl, _, _, _, [], _, [], hW', trodAll_mk1 (shut_bool Tryz.underlying4 _), trodAll_mk2 (Below.trod laidOut (by kernel_rfl) (of_decide_eq_true (by kernel_rfl)) h0k hb hlt0) (Go.ChangeShapes.shut_int Tryz.underlying5 wt), rfl, hb.frame _, fun h => by cases h⟩
theorem clones_holds : Rows.TreeClonesSaid :=
  OpenClaim.holds_of_wide 10 Tryz.f10 rfl rfl rfl rfl rfl rfl rfl ⟨rfl, rfl, rfl, rfl, rfl⟩ rfl rfl rfl rfl rfl (by kernel_rfl) Tryz.func10 (by kernel_rfl)
    (of_decide_eq_true (by kernel_rfl)) (by unfold Func.isWrapper; first | (rw [if_pos (by decide +kernel)]; kernel_rfl) | (rw [if_neg (by decide +kernel)]; exact ⟨rfl, rfl⟩))
    (fun os started H enc _ => clones_lifted os started H enc)
theorem clones_card : Rows.TreeClonesCardSaid :=
  Claim7.holds_tied_plain_at .later [] [.data, .pinned] true (true, "e8c519a56fab8a2475ee2ff1c98fa2264309bf43fcfc8dd04ab2756222f8beb5") false clones_holds (fun _ h => by cases h) (by kernel_rfl) (fun _ h => by cases h) treeClones_row_tie rfl ⟨rfl, rfl⟩ (by kernel_rfl) rfl
    (fun f fn hf hfn => by
      obtain rfl : f = 10 := Option.some.inj ((show Tryz.prog.funcNamed "haversack/haversacklaw8.TreeClones" = some 10 by kernel_rfl).symm.trans hf) |>.symm
      obtain rfl : fn = Tryz.f10 := (Option.some.inj (Tryz.func10.symm.trans hfn)).symm
      exact ⟨by kernel_rfl, fun j t ht => by
        rw [Tryz.params10] at ht
        have hm : t ∈ [31, 5] := by simpa using Array.mem_of_getElem? ht
        have hall : ([31, 5].all fun u => !Tryz.prog.wantsStandIn u) = true := by kernel_rfl
        exact (show Tryz.prog.wantsStandIn t = false by simpa using List.all_eq_true.1 hall t hm)⟩)
    (by kernel_rfl)
#print axioms clones_card
end Go.Proofs.YtichejodbohldaaGreatDoor
