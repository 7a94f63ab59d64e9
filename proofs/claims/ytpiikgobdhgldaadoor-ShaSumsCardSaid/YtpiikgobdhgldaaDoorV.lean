/-
  ShaLong, proved: for every n and x the law returns true: the program's sum of a text of n % 700 bytes is the reference's, and the document's example holds.
  CONDITIONS: the variable haversack/sha.rounds starts as the program's text lays it (the card ties it).
-/
import Derived.Test.YtpiikgobdhgldaaDoorU
import Derived.Test.YtpiikgobdhgldaaDoorTie
import Derived.Test.YtpiikgobdhgldaaDoorCards
import Derived.WalkKit
import Derived.ProofKit
import Derived.Lay
import Derived.Lib.LaidTab
import Derived.SevenTiedAt
namespace Go.Proofs.YtpiikgobdhgldaaDoor
open Go.ChangeShapes Go.WideShapes Go.ChangeAt Go.RowKit

theorem below_of_grown {w w' : World} (h : w.grownBy w' none) : Below w.heap.size w w' := ⟨h.os, h.tape, h.output, h.size, fun k hk => h.block k hk (by simp)⟩
theorem own : ownKnob Tryd.prog.godebug = none := by kernel_rfl
def laidList : List (String × DataW Unit) := [("haversack/sha.rounds", Rows.laid_haversack_sha_rounds)]
theorem datum_tab : Rows.laid_haversack_sha_rounds = Lib.tabData (H := Unit) .u32 (table.toList.map fun x => (x.toNat : Int)) := by kernel_rfl
theorem cells5 : Tryd.prog.cellsOf 38 = 1 := by kernel_rfl
theorem cells50 : Tryd.prog.cellsOf 50 = 64 := by kernel_rfl
theorem named0 : Tryd.prog.globalNamed "haversack/sha.rounds" = some 0 := by kernel_rfl
theorem type0 : (Tryd.prog.globals[0]?).map (·.type) = some 50 := by kernel_rfl
theorem table_of_laid {W : World} (h : laidMet Tryd.prog laidList W) : ∀ j, j < 64 → W.cell? ⟨0, j, none⟩ = some (encW table[j]!) := by
  intro j hj
  unfold laidList at h
  rw [datum_tab] at h
  have ht := Lib.tabIs_of_head named0 type0 Tryd.underlying50 Tryd.underlying38 cells5 cells50 h
  rw [ht.cell named0 j (by rw [List.length_map, Array.length_toList, table_size]; exact hj)]
  have e : table[j]? = some table[j]! := by rw [Array.getElem?_eq_getElem (by rw [table_size]; exact hj), getElem!_pos table j (by rw [table_size]; exact hj)]
  simp [List.getD_eq_getElem?_getD, encW, e]

set_option maxRecDepth 100000 in
theorem long_lifted (os : Os) (started : os.Started) (H : Type) (enc : TypeId × Value → H) :
    ReturnsInHanded {} Tryd.checked os 4 .any (fun w args => (Rows.shaLongSpec.pre enc Tryd.prog Tryd.f4 [] false w args ∧ laidMetH Tryd.prog laidList w) ∧ sizedMet enc Tryd.prog Tryd.f4 (OpenSpec.ofChange Rows.shaLongSpec) false w args)
      (Rows.shaLongSpec.post enc Tryd.prog Tryd.f4 false true false false) := by
  refine returnsInHanded_of_change_and (C := Tryd.checked) (X := fun w _ => laidMetH Tryd.prog laidList w) (fun _ _ _ hh h => h.of_heap hh) own started (by kernel_rfl) Tryd.func4
    (ChangeSpec.witness_shaped (enc := enc) (C := Tryd.checked) (os := os) (X := fun w _ => laidMetH Tryd.prog laidList w) false (World.laidAll Tryd.prog os laidList) #[.int .u16 0, .int .u8 0] 8 (World.laidAll_os _ _ _)
      (World.shaped_of_ZipB (by kernel_rfl) (by kernel_rfl)) (by kernel_rfl) (by kernel_rfl) (by kernel_rfl)
      (by rw [MakeChecks.laidMetH_plain _ _ _ (by kernel_rfl)]; exact laidMet_laidAll _ (by kernel_rfl) (by kernel_rfl))) ?_
  intro W base args ds gs before hval0 hW _ _ hL _
  have hval : ∀ (j : Nat) t v, Tryd.f4.params[j]? = some t → args[j]? = some v → Value.okWide Tryd.prog W .any base t v := hval0
  have hW' := hW
  obtain ⟨p, q, hA0, hV, rfl, _, _⟩ := hW
  have hA : DataW.TrodAll enc Tryd.prog W 0 (fun _ => true) true Tryd.f4.params.toList args.toList ds p := hA0
  rw [Tryd.params4] at hA hval
  obtain ⟨v0, v1, d0, d1, p0, p1, rfl, rfl, rfl, h0, h1⟩ := trodAll_two hA
  obtain ⟨rfl, rfl⟩ := trodVars_none hV
  obtain ⟨n, rfl, rfl, rfl, wn⟩ := open_int Tryd.underlying30 (hval 0 30 v0 rfl rfl) h0
  obtain ⟨x, rfl, rfl, rfl, wx⟩ := open_int Tryd.underlying5 (hval 1 5 v1 rfl rfl) h1
  have hn : 0 ≤ n ∧ n ≤ 65535 := by simpa [Lit.wf, IntKind.min, IntKind.max, IntKind.signed, IntKind.bits] using wn
  have hl : laidMet Tryd.prog laidList W := by rwa [MakeChecks.laidMetH_plain _ _ _ (by kernel_rfl)] at hL
  have hT := table_of_laid hl
  simp only [List.append_nil] at hW'
  refine (long_law n x hn.1 hn.2 W (World.block_lt_of_cell? _ _ (hT 0 (by omega))) hT).mono fun e W' ⟨he, hg⟩ => ?_
  subst he
  have hb := below_of_grown hg
  exact ⟨_, rfl, _, _, _, [], [], [], hW', trodAll_mk1 (shut_bool Tryd.underlying4 _), trodAll_mk2 (shut_int Tryd.underlying30 wn) (shut_int Tryd.underlying5 wx), rfl, hb.frame _, fun h => by cases h⟩
theorem long_holds : Rows.ShaLongSaid :=
  OpenClaim.holds_of_wide 4 Tryd.f4 rfl rfl rfl rfl rfl rfl rfl ⟨rfl, rfl, rfl, rfl, rfl⟩ rfl rfl rfl rfl rfl (by kernel_rfl) Tryd.func4 (by kernel_rfl)
    (of_decide_eq_true (by kernel_rfl)) (by unfold Func.isWrapper; first | (rw [if_pos (by decide +kernel)]; kernel_rfl) | (rw [if_neg (by decide +kernel)]; exact ⟨rfl, rfl⟩))
    (fun os started H enc _ => long_lifted os started H enc)
theorem long_card : Rows.ShaLongCardSaid :=
  Claim7.holds_tied_plain_at .later [] [.data] true (true, "26410e198fd20afba1e678ed508e54d0d498a55c14d7b1791b8538853fbcad5a") false long_holds (fun _ h => by cases h) (by kernel_rfl) (fun _ h => by cases h) shaLong_row_tie rfl ⟨rfl, rfl⟩ (by kernel_rfl) rfl
    (fun f fn hf hfn => by
      obtain rfl : f = 4 := Option.some.inj ((show Tryd.prog.funcNamed "haversack/haversacklaw1.ShaLong" = some 4 by kernel_rfl).symm.trans hf) |>.symm
      obtain rfl : fn = Tryd.f4 := (Option.some.inj (Tryd.func4.symm.trans hfn)).symm
      exact ⟨by kernel_rfl, fun j t ht => by
        rw [Tryd.params4] at ht
        have hm : t ∈ [30, 5] := by simpa using Array.mem_of_getElem? ht
        have hall : ([30, 5].all fun u => !Tryd.prog.wantsStandIn u) = true := by kernel_rfl
        exact (show Tryd.prog.wantsStandIn t = false by simpa using List.all_eq_true.1 hall t hm)⟩)
    (by kernel_rfl)
#print axioms long_card
end Go.Proofs.YtpiikgobdhgldaaDoor
