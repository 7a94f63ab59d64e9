/- Turning the bits of 32-bit words, as sha and the reference do it: what each call returns. -/
import Derived.Test.YtfpehdldgnfciaaGreatDoorRows
import Derived.WalkKit
import Derived.WalkSpells
import Derived.Deep.QuietTactic
import Derived.BigQuiet
import Derived.Laws.BitsAllLaws
import Derived.Lib.Hide
namespace Go.Proofs.YtfpehdldgnfciaaGreatDoor.Sha
open Go.RowKit

/-- x turned to the right by n bits. -/
def rt (n : Nat) (x : UInt32) : UInt32 := UInt32.ofNat (x.toNat / 2 ^ n ||| x.toNat * 2 ^ (32 - n) % 4294967296)

theorem u32_lt (x : UInt32) : (x.toNat : Int) < 4294967296 := by have := x.toNat_lt; omega

theorem or_lt (a b : Nat) (ha : a < 4294967296) (hb : b < 4294967296) : a ||| b < 4294967296 := by
  have := @Nat.or_lt_two_pow a b 32 ha hb
  simpa using this

theorem rt_nat (n m M : Nat) (x : UInt32) (hm : m = 2 ^ n) (hM : M = 2 ^ (32 - n)) :
    bits .or .u32 ((x.toNat : Int) / (m : Int)) ((x.toNat : Int) * (M : Int) % 4294967296) = ((rt n x).toNat : Int) := by
  have h1 : (x.toNat : Int) / (m : Int) = ((x.toNat / m : Nat) : Int) := by simp
  have h2 : (x.toNat : Int) * (M : Int) % 4294967296 = ((x.toNat * M % 4294967296 : Nat) : Int) := by simp
  have hx := x.toNat_lt
  have ha : x.toNat / m < 4294967296 := Nat.lt_of_le_of_lt (Nat.div_le_self _ _) hx
  have hb : x.toNat * M % 4294967296 < 4294967296 := Nat.mod_lt _ (by decide)
  rw [h1, h2, u32_or_nat _ _ ha hb]
  unfold rt
  subst hm hM
  rw [UInt32.toNat_ofNat_of_lt' (or_lt _ _ ha hb)]

theorem rt_nat' (n m M : Nat) (x : UInt32) (hm : m = 2 ^ n) (hM : M = 2 ^ (32 - n)) :
    bits .or .u32 ((x.toNat : Int) * (M : Int) % 4294967296) ((x.toNat : Int) / (m : Int)) = ((rt n x).toNat : Int) := by
  have h1 : (x.toNat : Int) / (m : Int) = ((x.toNat / m : Nat) : Int) := by simp
  have h2 : (x.toNat : Int) * (M : Int) % 4294967296 = ((x.toNat * M % 4294967296 : Nat) : Int) := by simp
  have hx := x.toNat_lt
  have ha : x.toNat / m < 4294967296 := Nat.lt_of_le_of_lt (Nat.div_le_self _ _) hx
  have hb : x.toNat * M % 4294967296 < 4294967296 := Nat.mod_lt _ (by decide)
  rw [h1, h2, u32_or_nat _ _ hb ha, Nat.or_comm]
  unfold rt
  subst hm hM
  rw [UInt32.toNat_ofNat_of_lt' (or_lt _ _ ha hb)]

set_option maxHeartbeats 400000 in
theorem rot_2 (x : UInt32) (w : World) :
    Calls Tryz.prog 65 #[.int .u32 (x.toNat : Int), .int .i64 (-2)] w fun e w' => e = .returned (.int .u32 ((rt 2 x).toNat : Int)) ∧ w' = w := by
  have H := Lib.hid (rt_nat' 2 4 1073741824 x (by decide) (by decide))
  have hx := u32_lt x
  have h31 : bits BinOp.and IntKind.u64 (IntKind.u64.wrap (-2)) 31 = 30 := by kernel_rfl
  go_enter Tryz.func65, Tryz.ntmps65
  go_wp2
  go_ret
  exact ⟨congrArg (fun v => Ending.returned (Value.int .u32 v)) H.out, rfl⟩

set_option maxHeartbeats 400000 in
theorem turn_2 (x : UInt32) (w : World) :
    Calls Tryz.prog 52 #[.int .u32 (x.toNat : Int), .int .i64 2] w fun e w' => e = .returned (.int .u32 ((rt 2 x).toNat : Int)) ∧ ∃ q, w' = w.drewN q := by
  have H := Lib.hid (rt_nat 2 4 1073741824 x (by decide) (by decide))
  have hx := u32_lt x
  go_enter Tryz.func52, Tryz.ntmps52
  go_wp2
  go_quiet (fail)
  go_wp2
  go_ret
  exact ⟨congrArg (fun v => Ending.returned (Value.int .u32 v)) H.out, _, rfl⟩

set_option maxHeartbeats 400000 in
theorem rot_6 (x : UInt32) (w : World) :
    Calls Tryz.prog 65 #[.int .u32 (x.toNat : Int), .int .i64 (-6)] w fun e w' => e = .returned (.int .u32 ((rt 6 x).toNat : Int)) ∧ w' = w := by
  have H := Lib.hid (rt_nat' 6 64 67108864 x (by decide) (by decide))
  have hx := u32_lt x
  have h31 : bits BinOp.and IntKind.u64 (IntKind.u64.wrap (-6)) 31 = 26 := by kernel_rfl
  go_enter Tryz.func65, Tryz.ntmps65
  go_wp2
  go_ret
  exact ⟨congrArg (fun v => Ending.returned (Value.int .u32 v)) H.out, rfl⟩

set_option maxHeartbeats 400000 in
theorem turn_6 (x : UInt32) (w : World) :
    Calls Tryz.prog 52 #[.int .u32 (x.toNat : Int), .int .i64 6] w fun e w' => e = .returned (.int .u32 ((rt 6 x).toNat : Int)) ∧ ∃ q, w' = w.drewN q := by
  have H := Lib.hid (rt_nat 6 64 67108864 x (by decide) (by decide))
  have hx := u32_lt x
  go_enter Tryz.func52, Tryz.ntmps52
  go_wp2
  go_quiet (fail)
  go_wp2
  go_ret
  exact ⟨congrArg (fun v => Ending.returned (Value.int .u32 v)) H.out, _, rfl⟩

set_option maxHeartbeats 400000 in
theorem rot_7 (x : UInt32) (w : World) :
    Calls Tryz.prog 65 #[.int .u32 (x.toNat : Int), .int .i64 (-7)] w fun e w' => e = .returned (.int .u32 ((rt 7 x).toNat : Int)) ∧ w' = w := by
  have H := Lib.hid (rt_nat' 7 128 33554432 x (by decide) (by decide))
  have hx := u32_lt x
  have h31 : bits BinOp.and IntKind.u64 (IntKind.u64.wrap (-7)) 31 = 25 := by kernel_rfl
  go_enter Tryz.func65, Tryz.ntmps65
  go_wp2
  go_ret
  exact ⟨congrArg (fun v => Ending.returned (Value.int .u32 v)) H.out, rfl⟩

set_option maxHeartbeats 400000 in
theorem turn_7 (x : UInt32) (w : World) :
    Calls Tryz.prog 52 #[.int .u32 (x.toNat : Int), .int .i64 7] w fun e w' => e = .returned (.int .u32 ((rt 7 x).toNat : Int)) ∧ ∃ q, w' = w.drewN q := by
  have H := Lib.hid (rt_nat 7 128 33554432 x (by decide) (by decide))
  have hx := u32_lt x
  go_enter Tryz.func52, Tryz.ntmps52
  go_wp2
  go_quiet (fail)
  go_wp2
  go_ret
  exact ⟨congrArg (fun v => Ending.returned (Value.int .u32 v)) H.out, _, rfl⟩

set_option maxHeartbeats 400000 in
theorem rot_11 (x : UInt32) (w : World) :
    Calls Tryz.prog 65 #[.int .u32 (x.toNat : Int), .int .i64 (-11)] w fun e w' => e = .returned (.int .u32 ((rt 11 x).toNat : Int)) ∧ w' = w := by
  have H := Lib.hid (rt_nat' 11 2048 2097152 x (by decide) (by decide))
  have hx := u32_lt x
  have h31 : bits BinOp.and IntKind.u64 (IntKind.u64.wrap (-11)) 31 = 21 := by kernel_rfl
  go_enter Tryz.func65, Tryz.ntmps65
  go_wp2
  go_ret
  exact ⟨congrArg (fun v => Ending.returned (Value.int .u32 v)) H.out, rfl⟩

set_option maxHeartbeats 400000 in
theorem turn_11 (x : UInt32) (w : World) :
    Calls Tryz.prog 52 #[.int .u32 (x.toNat : Int), .int .i64 11] w fun e w' => e = .returned (.int .u32 ((rt 11 x).toNat : Int)) ∧ ∃ q, w' = w.drewN q := by
  have H := Lib.hid (rt_nat 11 2048 2097152 x (by decide) (by decide))
  have hx := u32_lt x
  go_enter Tryz.func52, Tryz.ntmps52
  go_wp2
  go_quiet (fail)
  go_wp2
  go_ret
  exact ⟨congrArg (fun v => Ending.returned (Value.int .u32 v)) H.out, _, rfl⟩

set_option maxHeartbeats 400000 in
theorem rot_13 (x : UInt32) (w : World) :
    Calls Tryz.prog 65 #[.int .u32 (x.toNat : Int), .int .i64 (-13)] w fun e w' => e = .returned (.int .u32 ((rt 13 x).toNat : Int)) ∧ w' = w := by
  have H := Lib.hid (rt_nat' 13 8192 524288 x (by decide) (by decide))
  have hx := u32_lt x
  have h31 : bits BinOp.and IntKind.u64 (IntKind.u64.wrap (-13)) 31 = 19 := by kernel_rfl
  go_enter Tryz.func65, Tryz.ntmps65
  go_wp2
  go_ret
  exact ⟨congrArg (fun v => Ending.returned (Value.int .u32 v)) H.out, rfl⟩

set_option maxHeartbeats 400000 in
theorem turn_13 (x : UInt32) (w : World) :
    Calls Tryz.prog 52 #[.int .u32 (x.toNat : Int), .int .i64 13] w fun e w' => e = .returned (.int .u32 ((rt 13 x).toNat : Int)) ∧ ∃ q, w' = w.drewN q := by
  have H := Lib.hid (rt_nat 13 8192 524288 x (by decide) (by decide))
  have hx := u32_lt x
  go_enter Tryz.func52, Tryz.ntmps52
  go_wp2
  go_quiet (fail)
  go_wp2
  go_ret
  exact ⟨congrArg (fun v => Ending.returned (Value.int .u32 v)) H.out, _, rfl⟩

set_option maxHeartbeats 400000 in
theorem rot_17 (x : UInt32) (w : World) :
    Calls Tryz.prog 65 #[.int .u32 (x.toNat : Int), .int .i64 (-17)] w fun e w' => e = .returned (.int .u32 ((rt 17 x).toNat : Int)) ∧ w' = w := by
  have H := Lib.hid (rt_nat' 17 131072 32768 x (by decide) (by decide))
  have hx := u32_lt x
  have h31 : bits BinOp.and IntKind.u64 (IntKind.u64.wrap (-17)) 31 = 15 := by kernel_rfl
  go_enter Tryz.func65, Tryz.ntmps65
  go_wp2
  go_ret
  exact ⟨congrArg (fun v => Ending.returned (Value.int .u32 v)) H.out, rfl⟩

set_option maxHeartbeats 400000 in
theorem turn_17 (x : UInt32) (w : World) :
    Calls Tryz.prog 52 #[.int .u32 (x.toNat : Int), .int .i64 17] w fun e w' => e = .returned (.int .u32 ((rt 17 x).toNat : Int)) ∧ ∃ q, w' = w.drewN q := by
  have H := Lib.hid (rt_nat 17 131072 32768 x (by decide) (by decide))
  have hx := u32_lt x
  go_enter Tryz.func52, Tryz.ntmps52
  go_wp2
  go_quiet (fail)
  go_wp2
  go_ret
  exact ⟨congrArg (fun v => Ending.returned (Value.int .u32 v)) H.out, _, rfl⟩

set_option maxHeartbeats 400000 in
theorem rot_18 (x : UInt32) (w : World) :
    Calls Tryz.prog 65 #[.int .u32 (x.toNat : Int), .int .i64 (-18)] w fun e w' => e = .returned (.int .u32 ((rt 18 x).toNat : Int)) ∧ w' = w := by
  have H := Lib.hid (rt_nat' 18 262144 16384 x (by decide) (by decide))
  have hx := u32_lt x
  have h31 : bits BinOp.and IntKind.u64 (IntKind.u64.wrap (-18)) 31 = 14 := by kernel_rfl
  go_enter Tryz.func65, Tryz.ntmps65
  go_wp2
  go_ret
  exact ⟨congrArg (fun v => Ending.returned (Value.int .u32 v)) H.out, rfl⟩

set_option maxHeartbeats 400000 in
theorem turn_18 (x : UInt32) (w : World) :
    Calls Tryz.prog 52 #[.int .u32 (x.toNat : Int), .int .i64 18] w fun e w' => e = .returned (.int .u32 ((rt 18 x).toNat : Int)) ∧ ∃ q, w' = w.drewN q := by
  have H := Lib.hid (rt_nat 18 262144 16384 x (by decide) (by decide))
  have hx := u32_lt x
  go_enter Tryz.func52, Tryz.ntmps52
  go_wp2
  go_quiet (fail)
  go_wp2
  go_ret
  exact ⟨congrArg (fun v => Ending.returned (Value.int .u32 v)) H.out, _, rfl⟩

set_option maxHeartbeats 400000 in
theorem rot_19 (x : UInt32) (w : World) :
    Calls Tryz.prog 65 #[.int .u32 (x.toNat : Int), .int .i64 (-19)] w fun e w' => e = .returned (.int .u32 ((rt 19 x).toNat : Int)) ∧ w' = w := by
  have H := Lib.hid (rt_nat' 19 524288 8192 x (by decide) (by decide))
  have hx := u32_lt x
  have h31 : bits BinOp.and IntKind.u64 (IntKind.u64.wrap (-19)) 31 = 13 := by kernel_rfl
  go_enter Tryz.func65, Tryz.ntmps65
  go_wp2
  go_ret
  exact ⟨congrArg (fun v => Ending.returned (Value.int .u32 v)) H.out, rfl⟩

set_option maxHeartbeats 400000 in
theorem turn_19 (x : UInt32) (w : World) :
    Calls Tryz.prog 52 #[.int .u32 (x.toNat : Int), .int .i64 19] w fun e w' => e = .returned (.int .u32 ((rt 19 x).toNat : Int)) ∧ ∃ q, w' = w.drewN q := by
  have H := Lib.hid (rt_nat 19 524288 8192 x (by decide) (by decide))
  have hx := u32_lt x
  go_enter Tryz.func52, Tryz.ntmps52
  go_wp2
  go_quiet (fail)
  go_wp2
  go_ret
  exact ⟨congrArg (fun v => Ending.returned (Value.int .u32 v)) H.out, _, rfl⟩

set_option maxHeartbeats 400000 in
theorem rot_22 (x : UInt32) (w : World) :
    Calls Tryz.prog 65 #[.int .u32 (x.toNat : Int), .int .i64 (-22)] w fun e w' => e = .returned (.int .u32 ((rt 22 x).toNat : Int)) ∧ w' = w := by
  have H := Lib.hid (rt_nat' 22 4194304 1024 x (by decide) (by decide))
  have hx := u32_lt x
  have h31 : bits BinOp.and IntKind.u64 (IntKind.u64.wrap (-22)) 31 = 10 := by kernel_rfl
  go_enter Tryz.func65, Tryz.ntmps65
  go_wp2
  go_ret
  exact ⟨congrArg (fun v => Ending.returned (Value.int .u32 v)) H.out, rfl⟩

set_option maxHeartbeats 400000 in
theorem turn_22 (x : UInt32) (w : World) :
    Calls Tryz.prog 52 #[.int .u32 (x.toNat : Int), .int .i64 22] w fun e w' => e = .returned (.int .u32 ((rt 22 x).toNat : Int)) ∧ ∃ q, w' = w.drewN q := by
  have H := Lib.hid (rt_nat 22 4194304 1024 x (by decide) (by decide))
  have hx := u32_lt x
  go_enter Tryz.func52, Tryz.ntmps52
  go_wp2
  go_quiet (fail)
  go_wp2
  go_ret
  exact ⟨congrArg (fun v => Ending.returned (Value.int .u32 v)) H.out, _, rfl⟩

set_option maxHeartbeats 400000 in
theorem rot_25 (x : UInt32) (w : World) :
    Calls Tryz.prog 65 #[.int .u32 (x.toNat : Int), .int .i64 (-25)] w fun e w' => e = .returned (.int .u32 ((rt 25 x).toNat : Int)) ∧ w' = w := by
  have H := Lib.hid (rt_nat' 25 33554432 128 x (by decide) (by decide))
  have hx := u32_lt x
  have h31 : bits BinOp.and IntKind.u64 (IntKind.u64.wrap (-25)) 31 = 7 := by kernel_rfl
  go_enter Tryz.func65, Tryz.ntmps65
  go_wp2
  go_ret
  exact ⟨congrArg (fun v => Ending.returned (Value.int .u32 v)) H.out, rfl⟩

set_option maxHeartbeats 400000 in
theorem turn_25 (x : UInt32) (w : World) :
    Calls Tryz.prog 52 #[.int .u32 (x.toNat : Int), .int .i64 25] w fun e w' => e = .returned (.int .u32 ((rt 25 x).toNat : Int)) ∧ ∃ q, w' = w.drewN q := by
  have H := Lib.hid (rt_nat 25 33554432 128 x (by decide) (by decide))
  have hx := u32_lt x
  go_enter Tryz.func52, Tryz.ntmps52
  go_wp2
  go_quiet (fail)
  go_wp2
  go_ret
  exact ⟨congrArg (fun v => Ending.returned (Value.int .u32 v)) H.out, _, rfl⟩

/-- The places by which sha turns. -/
def turnB (k : Int) : Bool := [(-2 : Int), -6, -7, -11, -13, -17, -18, -19, -22, -25].contains k

theorem rot_gen (x : UInt32) (k : Int) (w : World) (hk : turnB k = true) :
    Calls Tryz.prog 65 #[.int .u32 (x.toNat : Int), .int .i64 k] w fun e w' => e = .returned (.int .u32 ((rt k.natAbs x).toNat : Int)) ∧ w' = w := by
  simp only [turnB, List.contains_eq_mem, List.mem_cons, List.not_mem_nil, or_false, decide_eq_true_eq] at hk
  rcases hk with rfl | rfl | rfl | rfl | rfl | rfl | rfl | rfl | rfl | rfl
  · exact rot_2 x w
  · exact rot_6 x w
  · exact rot_7 x w
  · exact rot_11 x w
  · exact rot_13 x w
  · exact rot_17 x w
  · exact rot_18 x w
  · exact rot_19 x w
  · exact rot_22 x w
  · exact rot_25 x w

def turnC (k : Int) : Bool := [(2 : Int), 6, 7, 11, 13, 17, 18, 19, 22, 25].contains k

theorem turn_gen (x : UInt32) (k : Int) (w : World) (hk : turnC k = true) :
    Calls Tryz.prog 52 #[.int .u32 (x.toNat : Int), .int .i64 k] w fun e w' => e = .returned (.int .u32 ((rt k.natAbs x).toNat : Int)) ∧ ∃ q, w' = w.drewN q := by
  simp only [turnC, List.contains_eq_mem, List.mem_cons, List.not_mem_nil, or_false, decide_eq_true_eq] at hk
  rcases hk with rfl | rfl | rfl | rfl | rfl | rfl | rfl | rfl | rfl | rfl
  · exact turn_2 x w
  · exact turn_6 x w
  · exact turn_7 x w
  · exact turn_11 x w
  · exact turn_13 x w
  · exact turn_17 x w
  · exact turn_18 x w
  · exact turn_19 x w
  · exact turn_22 x w
  · exact turn_25 x w

end Go.Proofs.YtfpehdldgnfciaaGreatDoor.Sha
