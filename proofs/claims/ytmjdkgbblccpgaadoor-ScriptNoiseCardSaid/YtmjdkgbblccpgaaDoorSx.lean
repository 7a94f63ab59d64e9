/- A quoted text, as package script reads it. -/
import Derived.Test.YtmjdkgbblccpgaaDoorSw
import Derived.Test.YtmjdkgbblccpgaaDoorSb
namespace Go.Proofs.YtmjdkgbblccpgaaDoor
open Go.RowKit

set_option maxRecDepth 1000000
set_option maxHeartbeats 1000000 in
theorem escaped_some (c d : UInt8) (w : World) (h : escB c = some d) :
    Calls Tryd.prog 41 #[.int .u8 (c.toNat : Int)] w fun e w' => e = .returned (.tuple #[.int .u8 (d.toNat : Int), .bool true]) ∧ w' = w := by
  by_cases h1 : c = 34
  · subst h1
    obtain rfl : d = 34 := by simpa [escB] using h.symm
    clear h
    go_enter Tryd.func41, Tryd.ntmps41
    go_wp2
    go_ret2
    exact ⟨rfl, rfl⟩
  · by_cases h2 : c = 92
    · subst h2
      obtain rfl : d = 92 := by simpa [escB] using h.symm
      clear h
      go_enter Tryd.func41, Tryd.ntmps41
      go_wp2
      go_ret2
      exact ⟨rfl, rfl⟩
    · by_cases h3 : c = 110
      · subst h3
        obtain rfl : d = 10 := by simpa [escB] using h.symm
        clear h
        go_enter Tryd.func41, Tryd.ntmps41
        go_wp2
        go_ret2
        exact ⟨rfl, rfl⟩
      · unfold escB at h
        rw [if_neg (by simp [h1, h2]), if_neg h3] at h
        cases h
theorem u8_ne (c d : UInt8) (h : ¬ c = d) : ((c.toNat : Int) == (d.toNat : Int)) = false :=
  beq_no _ _ (by intro e; exact h (UInt8.toNat_inj.1 (by omega)))
set_option maxHeartbeats 1000000 in
theorem escaped_none (c : UInt8) (w : World) (h : escB c = none) :
    Calls Tryd.prog 41 #[.int .u8 (c.toNat : Int)] w fun e w' => e = .returned (.tuple #[.int .u8 0, .bool false]) ∧ w' = w := by
  have h1 : ¬ c = 34 := by rintro rfl; simp [escB] at h
  have h2 : ¬ c = 92 := by rintro rfl; simp [escB] at h
  have h3 : ¬ c = 110 := by rintro rfl; simp [escB] at h
  have n1 : ((c.toNat : Int) == 34) = false := u8_ne c 34 h1
  have n2 : ((c.toNat : Int) == 92) = false := u8_ne c 92 h2
  have n3 : ((c.toNat : Int) == 110) = false := u8_ne c 110 h3
  clear h h1 h2 h3
  go_enter Tryd.func41, Tryd.ntmps41
  go_wp2
  go_ret2
  exact ⟨rfl, rfl⟩
end Go.Proofs.YtmjdkgbblccpgaaDoor
