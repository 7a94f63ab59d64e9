/- The chapter's example: known returns true. -/
import Derived.Test.YtghfnmnjomdacaaDoorL
namespace Go.Proofs.YtghfnmnjomdacaaDoor
open Go.RowKit

theorem clean_at (m : Int) (s p : ByteArray) (q : Int) (w : World) (hm : w.cell? ⟨0, 0, none⟩ = some (.int .i64 m)) (h : cleanS s = (p, q)) :
    Calls Tryd.prog 10 #[.string s] w fun e w' => e = .returned (.tuple #[.string p, .int .i64 q]) ∧ w.grownBy w' none :=
  (clean_any m s w hm).mono fun e w' h2 => by rw [h] at h2; exact h2
theorem join_at (m : Int) (d s p : ByteArray) (q : Int) (w : World) (hd : d.size ≤ 100000) (hs : s.size ≤ 100000) (hm : w.cell? ⟨0, 0, none⟩ = some (.int .i64 m)) (h : joinS d s = (p, q)) :
    Calls Tryd.prog 21 #[.string d, .string s] w fun e w' => e = .returned (.tuple #[.string p, .int .i64 q]) ∧ w.grownBy w' none :=
  (join_path m d s w hd hs hm).mono fun e w' h2 => by rw [h] at h2; exact h2

theorem two_part (w : World) (x y : ByteArray) (t : TypeId) : PartS (w.alloc (.cells #[.string x, .string y] t)) (w.heap.size + 1) (.slice (some ⟨w.heap.size, 0, none⟩) 2 2) [x, y] :=
  ⟨_, 2, w.heap.size, 0, rfl, Nat.le_refl _, fun h => by simp at h, by omega, fun _ => rfl, fun j z hj => by
    have hl := (List.getElem?_eq_some_iff.1 hj).1
    have h0 : j < 2 := by simpa using hl
    rw [Nat.zero_add, alloc_cell]
    match j, h0 with
    | 0, _ => have e : x = z := by simpa using hj
              rw [e]; rfl
    | 1, _ => have e : y = z := by simpa using hj
              rw [e]; rfl⟩

set_option maxRecDepth 1000000
set_option maxHeartbeats 4000000 in
theorem known_any (m : Int) (w : World) (hm : w.cell? ⟨0, 0, none⟩ = some (.int .i64 m)) :
    Calls Tryd.prog 9 #[] w fun e w' => e = .returned (.bool true) ∧ w.grownBy w' none := by
  have HM := Lib.hid hm
  clear hm
  go_enter Tryd.func9, Tryd.ntmps9
  go_wp2_with fail
  (with_reducible refine (clean_at m _ _ _ _ HM.out kn1).mono ?_)
  rintro ee w1 ⟨rfl, g1⟩
  dsimp only
  have G1 := Lib.hid g1
  clear g1
  go_wp2_with fail
  (with_reducible refine (clean_at m _ _ _ _ (G1.out.cell HM.out (by simp)) kn2).mono ?_)
  rintro ee w2 ⟨rfl, g2⟩
  dsimp only
  have G2 := Lib.hid (World.grownBy.trans G1.out g2)
  clear g2
  go_wp2_with fail
  (with_reducible refine (join_at m _ _ _ _ _ (by decide) (by decide) (G2.out.cell HM.out (by simp)) kn3).mono ?_)
  rintro ee w3 ⟨rfl, g3⟩
  dsimp only
  have G3 := Lib.hid (World.grownBy.trans G2.out g3)
  clear g3
  go_wp2_with fail
  (with_reducible refine (join_at m _ _ _ _ _ (by decide) (by decide) (G3.out.cell HM.out (by simp)) kn4).mono ?_)
  rintro ee w4 ⟨rfl, g4⟩
  dsimp only
  have G4 := Lib.hid (World.grownBy.trans G3.out g4)
  clear g4
  go_wp2_with fail
  (with_reducible refine (parent_known _).mono ?_)
  rintro ee w' ⟨rfl, hw'⟩
  rw [hw']
  clear hw' w'
  dsimp only
  go_wp2_with fail
  (with_reducible refine (base_known _).mono ?_)
  rintro ee w' ⟨rfl, hw'⟩
  rw [hw']
  clear hw' w'
  dsimp only
  go_wp2_with fail
  (with_reducible refine (parts_at m _ [⟨#[97]⟩, ⟨#[98]⟩] 2 _ (by decide) (G4.out.cell HM.out (by simp)) kn5 rfl).mono ?_)
  rintro ee w5 ⟨a, rfl, hf, g5⟩
  dsimp only
  obtain ⟨_, B, hB, hp⟩ := hf
  have G5 := Lib.hid (World.grownBy.trans G4.out g5)
  have HP := Lib.hid hp
  have HB := Lib.hid hB
  clear g5 hp hB
  go_wp2_with fail
  (with_reducible refine (same_any B (w5.heap.size + 1) 2 2 2 a _ [⟨#[97]⟩, ⟨#[98]⟩] _ rfl (by omega) (HP.out.grown (World.grownBy_alloc w5 _ none) (fun k hk => by simp at hk)) (two_part w5 _ _ 9)).mono ?_)
  rintro ee w6 ⟨rfl, g6⟩
  dsimp only
  have G6 := Lib.hid (World.grownBy.trans G5.out (World.grownBy.trans (World.grownBy_alloc w5 _ none) g6))
  clear g6
  go_wp2_with fail
  (with_reducible refine (within_yes _).mono ?_)
  rintro ee w' ⟨rfl, hw'⟩
  rw [hw']
  clear hw' w'
  dsimp only
  go_wp2_with fail
  (with_reducible refine (within_no _).mono ?_)
  rintro ee w' ⟨rfl, hw'⟩
  rw [hw']
  clear hw' w'
  dsimp only
  go_wp2
  go_ret
  exact ⟨rfl, G6.out⟩
end Go.Proofs.YtghfnmnjomdacaaDoor
