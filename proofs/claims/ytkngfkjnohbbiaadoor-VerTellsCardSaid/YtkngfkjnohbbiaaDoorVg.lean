/- A number's text: as package ver tells it, as the reference does. -/
import Derived.Test.YtkngfkjnohbbiaaDoorVf
import Derived.Sort.Grow
namespace Go.Proofs.YtkngfkjnohbbiaaDoor
open Go.RowKit

theorem grown_grow (w : World) (k : Nat) (os : Array Obj) : w.grownBy (Go.Sort.grow (w.drewN k) os) none :=
  ⟨rfl, rfl, rfl, by show w.heap.size ≤ (w.heap ++ os).size; simp, fun j hj _ => by
    show (w.heap ++ os)[j]? = w.heap[j]?
    rw [Array.getElem?_append_left hj]⟩
/-- What of a world the library reads: MaxLen, and the powers of ten. -/
structure Wok (m : Int) (w : World) : Prop where
  len : w.cell? ⟨0, 0, none⟩ = some (.int .i64 m)
  tab : Lib.TabIs Tryd.prog w "internal/strconv.uint64pow10" .u64 Lib.pow10Tab
theorem tab_grown {w w' : World} {name : String} {k : IntKind} {zs : List Int} (h : Lib.TabIs Tryd.prog w name k zs) (hg : w.grownBy w' none) : Lib.TabIs Tryd.prog w' name k zs := by
  unfold Lib.TabIs World.var? at h ⊢
  cases hn : Tryd.prog.globalNamed name with
  | none => rw [hn] at h; cases h
  | some g =>
    rw [hn] at h
    simp only [Option.bind_some] at h ⊢
    cases hb : w.heap[g]? with
    | none => rw [hb] at h; cases h
    | some o =>
      rw [block_kept hb hg]
      rw [hb] at h
      exact h
theorem Wok.stays {m : Int} {w w' : World} (h : Wok m w) (hg : w.grownBy w' none) : Wok m w' := ⟨hg.cell h.len (by simp), tab_grown h.tab hg⟩
theorem Wok.pos {m : Int} {w : World} (h : Wok m w) : 0 < w.heap.size := World.block_lt_of_cell? _ _ h.len

/-- A number's text. -/
def decS (n : Int) : ByteArray := toB (Lib.decDigits n.toNat)
theorem dec_len (k : Nat) : ∀ u : Nat, u < 10 ^ (k + 1) → (Lib.decDigits u).length ≤ k + 1 := by
  induction k with
  | zero =>
    intro u hu
    rw [Lib.decDigits, dif_pos (by omega)]
    exact Nat.le_refl _
  | succ k ih =>
    intro u hu
    rw [Lib.decDigits]
    by_cases h : u < 10
    · rw [dif_pos h]
      show 1 ≤ _
      omega
    · rw [dif_neg h, List.length_append]
      have := ih (u / 10) (by rw [Nat.pow_succ] at hu; omega)
      show _ + 1 ≤ _
      omega
theorem decS_size (n : Int) (h : n ≤ 9223372036854775807) : (decS n).size ≤ 20 := by
  have h1 : n.toNat < 10 ^ 20 := by omega
  have := dec_len 19 n.toNat h1
  unfold decS
  show (Lib.decDigits n.toNat).toArray.size ≤ 20
  simpa using this
theorem itoa_at (n : Int) (h : 0 ≤ n) : (⟨(Lib.itoa n).toArray⟩ : ByteArray) = decS n := by
  unfold Lib.itoa decS toB
  rw [if_neg (by omega)]
theorem itoa_any (m n : Int) (h0 : 0 ≤ n) (h1 : n ≤ 9223372036854775807) (w : World) (hw : Wok m w) :
    Calls Tryd.prog 46 #[.int .i64 n] w fun e w' => e = .returned (.string (decS n)) ∧ w.grownBy w' none := by
  refine (Tryd.strconv_Itoa n (by omega) h1 w hw.tab).mono ?_
  rintro e w' ⟨he, k, os, hw'⟩
  rw [itoa_at n h0] at he
  exact ⟨he, by rw [hw']; exact grown_grow w k os⟩

theorem decS_max (n : Int) : decS (max n 0) = decS n := by unfold decS; rw [show (max n 0).toNat = n.toNat by omega]
set_option maxRecDepth 1000000
set_option maxHeartbeats 1000000 in
theorem digits_any (m n : Int) (h1 : n ≤ 9223372036854775807) (w : World) (hw : Wok m w) :
    Calls Tryd.prog 32 #[.int .i64 n] w fun e w' => e = .returned (.string (decS n)) ∧ w.grownBy w' none := by
  have HW := Lib.hid hw
  have e := Lib.hid (decS_max n)
  clear hw
  go_enter Tryd.func32, Tryd.ntmps32
  go_wp2_with fail
  (with_reducible refine (itoa_any m (max n 0) (by omega) (by omega) _ HW.out).mono ?_)
  rintro ee w1 ⟨rfl, hg⟩
  dsimp only
  have HG := Lib.hid hg
  clear hg
  go_wp2
  go_ret
  exact ⟨by rw [← e.out]; rfl, HG.out⟩

/-- The d-th digit. -/
def digB (d : Nat) : ByteArray := (⟨#[48, 49, 50, 51, 52, 53, 54, 55, 56, 57]⟩ : ByteArray).extract d (d + 1)
theorem digB_eq (d : Nat) (h : d < 10) : digB d = toB [UInt8.ofNat (48 + d)] := by
  have H : ∀ d : Fin 10, digB d.val = toB [UInt8.ofNat (48 + d.val)] := by decide +kernel
  exact H ⟨d, h⟩
theorem decS_small (n : Nat) (h : n < 10) : decS n = digB n := by
  rw [digB_eq n h]
  unfold decS
  rw [Int.toNat_natCast, Lib.decDigits, dif_pos h]
theorem decS_step (n : Nat) (h : ¬ n < 10) : decS n = decS (n / 10 : Nat) ++ digB (n % 10) := by
  rw [digB_eq (n % 10) (Nat.mod_lt _ (by omega))]
  unfold decS
  rw [Int.toNat_natCast, Int.toNat_natCast]
  conv => lhs; rw [Lib.decDigits, dif_neg h]
  refine bytes_ext ?_
  simp [toB]

set_option maxRecDepth 1000000
set_option maxHeartbeats 1000000 in
theorem dec_neg (n : Int) (h : n < 0) (w : World) : Calls Tryd.prog 23 #[.int .i64 n] w fun e w' => e = .returned (.string (decS n)) ∧ ∃ k, w' = w.drewN k := by
  have e : Hid (decS n = digB 0) := by show _ = _; rw [← decS_small 0 (by omega)]; unfold decS; rw [show n.toNat = ((0 : Nat) : Int).toNat by omega]
  have h10 : n < 10 := by omega
  have hm0 : max n 0 = 0 := by omega
  go_enter Tryd.func23, Tryd.ntmps23
  go_wp2
  go_ret
  exact ⟨by rw [e.out]; rfl, 0, rfl⟩
set_option maxRecDepth 1000000
set_option maxHeartbeats 1000000 in
theorem dec_small (n : Nat) (h : n < 10) (w : World) : Calls Tryd.prog 23 #[.int .i64 (n : Int)] w fun e w' => e = .returned (.string (decS n)) ∧ ∃ k, w' = w.drewN k := by
  have e := Lib.hid (decS_small n h)
  have h10 : (n : Int) < 10 := by omega
  have hm0 : max (n : Int) 0 = (n : Int) := by omega
  go_enter Tryd.func23, Tryd.ntmps23
  go_wp2
  go_ret
  exact ⟨by rw [e.out]; rfl, 0, rfl⟩
set_option maxRecDepth 1000000
set_option maxHeartbeats 1000000 in
theorem dec_step (n : Nat) (h : ¬ n < 10) (hn : n ≤ 9223372036854775807) (w : World)
    (ih : ∀ w : World, Calls Tryd.prog 23 #[.int .i64 ((n / 10 : Nat) : Int)] w fun e w' => e = .returned (.string (decS (n / 10 : Nat))) ∧ ∃ k, w' = w.drewN k) :
    Calls Tryd.prog 23 #[.int .i64 (n : Int)] w fun e w' => e = .returned (.string (decS n)) ∧ ∃ k, w' = w.drewN k := by
  have e := Lib.hid (decS_step n h)
  have h10 : decide ((n : Int) < 10) = false := by simp; omega
  have hsz := decS_size ((n / 10 : Nat) : Int) (by omega)
  obtain ⟨q, hq⟩ : ∃ q, decS ((n / 10 : Nat) : Int) = q := ⟨_, rfl⟩
  rw [hq] at hsz ih
  rw [hq] at e
  obtain ⟨d, hd⟩ : ∃ d, n / 10 = d := ⟨_, rfl⟩
  obtain ⟨r, hr⟩ : ∃ r, n % 10 = r := ⟨_, rfl⟩
  rw [hd] at ih
  rw [hr] at e
  have e1 : (n : Int) / 10 = (d : Int) := by omega
  have e2 : (n : Int) % 10 = (r : Int) := by omega
  have e3 : (n : Int).tdiv 10 = (d : Int) := by rw [Int.tdiv_eq_ediv_of_nonneg (by omega)]; exact e1
  have e4 : (n : Int).tmod 10 = (r : Int) := by rw [Int.tmod_eq_emod_of_nonneg (by omega)]; exact e2
  have hr10 : r < 10 := by omega
  have hlb : (digB r).size = 1 := by
    have H : ∀ d : Fin 10, (digB d.val).size = 1 := by decide +kernel
    exact H ⟨r, hr10⟩
  have hlb2 : q.size + ((⟨#[48, 49, 50, 51, 52, 53, 54, 55, 56, 57]⟩ : ByteArray).extract r (r + 1)).size ≤ 9223372036854775807 := by
    have : ((⟨#[48, 49, 50, 51, 52, 53, 54, 55, 56, 57]⟩ : ByteArray).extract r (r + 1)).size = 1 := hlb
    omega
  have IH := Lib.hid ih
  clear ih hd hr hq hlb h
  go_enter Tryd.func23, Tryd.ntmps23
  go_wp2
  go_quiet ((go_at_call 23; exact Calls.quiet_of (IH.out _)))
  go_wp2
  go_ret
  exact ⟨by rw [e.out]; rfl, nq, rfl⟩
theorem dec_any (n : Int) (hn : n ≤ 9223372036854775807) (w : World) : Calls Tryd.prog 23 #[.int .i64 n] w fun e w' => e = .returned (.string (decS n)) ∧ ∃ k, w' = w.drewN k := by
  rcases Int.lt_or_le n 0 with h | h
  · exact dec_neg n h w
  · obtain ⟨k, rfl⟩ := Int.eq_ofNat_of_zero_le h
    have H : ∀ (b k : Nat), k ≤ b → k ≤ 9223372036854775807 → ∀ w : World, Calls Tryd.prog 23 #[.int .i64 (k : Int)] w fun e w' => e = .returned (.string (decS k)) ∧ ∃ k, w' = w.drewN k := by
      intro b
      induction b with
      | zero => intro k hk _ w; exact dec_small k (by omega) w
      | succ b ih =>
        intro k hk hb w
        by_cases h10 : k < 10
        · exact dec_small k h10 w
        · exact dec_step k h10 hb w (ih (k / 10) (by omega) (by omega))
    exact H k k (Nat.le_refl _) (by omega) w
end Go.Proofs.YtkngfkjnohbbiaaDoor
