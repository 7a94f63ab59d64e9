/- A fetch that fails: fetch's fail, Take of what the registry lacks, Ask of one that failed. -/
import Derived.Test.YtfpehdldgnfciaaGreatDoorFk
import Derived.Test.YtfpehdldgnfciaaGreatDoorEd
import Derived.Test.YtfpehdldgnfciaaGreatDoorEg
namespace Go.Proofs.YtfpehdldgnfciaaGreatDoor
open Go.RowKit

set_option maxRecDepth 1000000
/-- Behind a fetch's failing with number k. -/
structure Failed (w : World) (F : Nat) (K : Array Value) (n : Int) (bv : Value) (fa sp : Int) (dn : Bool) (k : Int) (e : Ending) (w' : World) : Prop where
  ex : ∃ v, e = .returned v ∧ Fchain w' [(⟨#[102, 101, 116, 99, 104]⟩, ⟨#[97]⟩)] k v
  f : Fet w' F K n bv fa sp dn true
  g : ∃ w1, w.grownBy w1 (some F) ∧ w1.grownBy w' none
set_option maxHeartbeats 4000000 in
theorem fail_any (F : Nat) (K : Array Value) (n : Int) (bv : Value) (fa sp : Int) (dn fl : Bool) (k : Int) (hk : k ≠ 0) (w : World) (h : Fet w F K n bv fa sp dn fl) :
    Calls Tryz.prog 20 #[.pointer (some ⟨F, 0, none⟩), .int .i64 k] w (Failed w F K n bv fa sp dn k) := by
  obtain ⟨n0, n1, n2, n3, n4⟩ := h.name
  obtain ⟨c37, c39, c40, c41, c42, c43⟩ := h.cells
  have r43 := h.free 43
  have HF := Lib.hid (h.setFl true)
  have HW := Lib.hid (wrap_some ⟨#[102, 101, 116, 99, 104]⟩ ⟨#[97]⟩ (.num (w := w.setCell ⟨F, 43, none⟩ (.bool true)) k) hk)
  clear h n1 n2 n3 n4 c37 c39 c40 c41 c42
  go_enter Tryz.func20, Tryz.ntmps20
  go_wp2_with fail
  (with_reducible refine HW.out.mono ?_)
  rintro ee w1 ⟨v, rfl, hc, hg⟩
  dsimp only
  go_wp2
  go_ret
  exact ⟨⟨v, rfl, hc⟩, HF.out.stays hg, _, bk_set_grown _ _ _ _, hg⟩
set_option maxHeartbeats 4000000 in
theorem take_none (F : Nat) (K : Array Value) (n : Int) (bv : Value) (fa sp : Int) (w : World) (h : Fet w F K n bv fa sp false false) :
    Calls Tryz.prog 9 #[.pointer (some ⟨F, 0, none⟩), .agg #[.int .i64 2, .slice none 0 0]] w fun e w' => ∃ w0, w.grownBy w0 none ∧ Failed w0 F K n bv fa sp false 76 e w' := by
  obtain ⟨W1, hW1⟩ : ∃ W1, w.alloc (.cells #[.int .i64 2, .slice none 0 0] 45) = W1 := ⟨_, rfl⟩
  have g1 : w.grownBy W1 none := by rw [← hW1]; exact World.grownBy_alloc _ _ _
  have b0 : W1.cell? ⟨w.heap.size, 0, none⟩ = some (.int .i64 2) := by rw [← hW1, alloc_cell]; rfl
  have HF1 := Lib.hid (h.stays g1)
  have hov := Lib.hid (over_any F K n bv fa sp false false W1 (h.stays g1))
  have HFA := Lib.hid (fail_any F K n bv fa sp false false 76 (by decide) W1 (h.stays g1))
  have HW1 := Lib.hid hW1
  have G1 := Lib.hid g1
  clear h hW1 g1
  go_enter Tryz.func9, Tryz.ntmps9
  go_wp2_with fail
  rw [HW1.out]
  go_wp2_with ((with_reducible refine hov.out.mono ?_); rintro ee w1 ⟨rfl, rfl⟩; dsimp only)
  go_wp2_with fail
  (with_reducible refine HFA.out.mono ?_)
  rintro ee w2 hfl
  obtain ⟨⟨v, hv, hc⟩, hf, hg⟩ := hfl
  subst hv
  dsimp only
  go_wp2
  go_ret
  exact ⟨w1, G1.out, ⟨v, rfl, hc⟩, hf, hg⟩
theorem ask_failed (F : Nat) (K : Array Value) (n : Int) (bv : Value) (fa sp : Int) (dn : Bool) (w : World) (h : Fet w F K n bv fa sp dn true) :
    Calls Tryz.prog 8 #[.pointer (some ⟨F, 0, none⟩)] w fun e w' => e = .returned (.tuple #[.agg #[.string ⟨#[]⟩, .int .i64 0, .int .i64 0, .int .i64 0, .slice none 0 0, .int .i64 0, .int .i64 0], .bool false]) ∧ w.grownBy w' none := by
  have hov : Hid (∀ W : World, w.grownBy W none → Calls Tryz.prog 17 #[.pointer (some ⟨F, 0, none⟩)] W fun e w' => e = .returned (.bool true) ∧ w' = W) := fun W hg => by
    have := over_any F K n bv fa sp dn true W (h.stays hg)
    rwa [Bool.or_true] at this
  clear h
  go_enter Tryz.func8, Tryz.ntmps8
  go_wp2_with ((with_reducible refine (hov.out _ (World.grownBy_alloc _ _ _)).mono ?_); rintro ee w1 ⟨rfl, rfl⟩; dsimp only)
  exact bodyPost_ret (v := .tuple #[.agg #[.string ⟨#[]⟩, .int .i64 0, .int .i64 0, .int .i64 0, .slice none 0 0, .int .i64 0, .int .i64 0], .bool false]) (by simp [results, Tryz.results8, go_sem]) rfl ⟨rfl, World.grownBy_alloc _ _ _⟩
end Go.Proofs.YtfpehdldgnfciaaGreatDoor
