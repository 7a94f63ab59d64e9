/- Numbers, texts, marks held against one another. -/
import Derived.Test.YtkngfkjnohbbiaaDoorVk
namespace Go.Proofs.YtkngfkjnohbbiaaDoor
open Go.RowKit

def lessB (x y : ByteArray) : Bool := Op.bytesLess x.toList y.toList
/-- Texts, in order of bytes. -/
def cmpB (x y : ByteArray) : Int := if lessB x y = true then -1 else if x = y then 0 else 1
theorem less_self (l : List UInt8) : Op.bytesLess l l = false := by
  induction l with
  | nil => rfl
  | cons a l ih => simp [Op.bytesLess, ih]
/-- The three ways. -/
theorem cmpB_ways (x y : ByteArray) : (Op.bytesLess x.toList y.toList = true ∧ cmpB x y = -1) ∨ (x = y ∧ cmpB x y = 0) ∨ (Op.bytesLess x.toList y.toList = false ∧ (x.toList == y.toList) = false ∧ ¬ x.toList = y.toList ∧ cmpB x y = 1) := by
  unfold cmpB lessB
  cases h : Op.bytesLess x.toList y.toList with
  | true => exact .inl ⟨rfl, rfl⟩
  | false =>
    by_cases he : x = y
    · exact .inr (.inl ⟨he, by rw [if_neg (by simp), if_pos he]⟩)
    · exact .inr (.inr ⟨rfl, nb_lists x y he, ne_lists x y he, by rw [if_neg (by simp), if_neg he]⟩)
def orI (x y : Int) : Int := if x = 0 then y else x
/-- The first of them that is not 0. -/
def orL : List Int → Int
  | [] => 0
  | x :: r => if x = 0 then orL r else x
def cmpMk (x y : ByteArray) : Int :=
  if allDig x = true then (if allDig y = true then orI (Lib.compareInt x.size y.size) (cmpB x y) else -1)
  else if allDig y = true then 1 else cmpB x y
def moreS (n : Int) : Int := if 999999999 ≤ n then n else n + 1

set_option maxRecDepth 1000000
set_option maxHeartbeats 1000000 in
theorem nan_any (s : ByteArray) (w : World) : Calls Tryd.prog 70 #[.string s] w fun e w' => e = .returned (.bool false) ∧ w' = w := by
  go_enter Tryd.func70, Tryd.ntmps70
  go_wp2
  go_ret
  exact ⟨by simp, rfl⟩

set_option maxRecDepth 1000000
set_option maxHeartbeats 1000000 in
theorem cmpStr_any (x y : ByteArray) (w : World) : Calls Tryd.prog 59 #[.string x, .string y] w fun e w' => e = .returned (.int .i64 (cmpB x y)) ∧ w' = w := by
  rcases cmpB_ways x y with ⟨h1, e⟩ | ⟨rfl, e⟩ | ⟨h1, h2, h3, e⟩
  · have E := Lib.hid e
    clear e
    go_enter Tryd.func59, Tryd.ntmps59
    go_wp2_with fail
    (with_reducible refine (nan_any _ _).mono ?_)
    rintro ee w' ⟨rfl, hw'⟩
    rw [hw']
    clear hw' w'
    dsimp only
    go_wp2_with fail
    (with_reducible refine (nan_any _ _).mono ?_)
    rintro ee w' ⟨rfl, hw'⟩
    rw [hw']
    clear hw' w'
    dsimp only
    go_wp2
    go_ret
    exact ⟨by rw [E.out]; rfl, rfl⟩
  · have E := Lib.hid e
    have h1 := less_self x.toList
    clear e
    go_enter Tryd.func59, Tryd.ntmps59
    go_wp2_with fail
    (with_reducible refine (nan_any _ _).mono ?_)
    rintro ee w' ⟨rfl, hw'⟩
    rw [hw']
    clear hw' w'
    dsimp only
    go_wp2_with fail
    (with_reducible refine (nan_any _ _).mono ?_)
    rintro ee w' ⟨rfl, hw'⟩
    rw [hw']
    clear hw' w'
    dsimp only
    go_wp2
    go_ret
    exact ⟨by rw [E.out]; rfl, rfl⟩
  · have E := Lib.hid e
    clear e
    go_enter Tryd.func59, Tryd.ntmps59
    go_wp2_with fail
    (with_reducible refine (nan_any _ _).mono ?_)
    rintro ee w' ⟨rfl, hw'⟩
    rw [hw']
    clear hw' w'
    dsimp only
    go_wp2_with fail
    (with_reducible refine (nan_any _ _).mono ?_)
    rintro ee w' ⟨rfl, hw'⟩
    rw [hw']
    clear hw' w'
    dsimp only
    go_wp2
    go_ret
    exact ⟨by rw [E.out]; rfl, rfl⟩

set_option maxRecDepth 1000000
set_option maxHeartbeats 1000000 in
theorem refStr_any (x y : ByteArray) (w : World) : Calls Tryd.prog 40 #[.string x, .string y] w fun e w' => e = .returned (.int .i64 (cmpB x y)) ∧ w' = w := by
  rcases cmpB_ways x y with ⟨h1, e⟩ | ⟨rfl, e⟩ | ⟨h1, h2, h3, e⟩
  · have E := Lib.hid e
    clear e
    go_enter Tryd.func40, Tryd.ntmps40
    go_wp2
    go_ret
    exact ⟨by rw [E.out]; rfl, rfl⟩
  · have E := Lib.hid e
    have h1 := less_self x.toList
    clear e
    go_enter Tryd.func40, Tryd.ntmps40
    go_wp2
    go_ret
    exact ⟨by rw [E.out]; rfl, rfl⟩
  · have E := Lib.hid e
    clear e
    go_enter Tryd.func40, Tryd.ntmps40
    go_wp2
    go_ret
    exact ⟨by rw [E.out]; rfl, rfl⟩

set_option maxRecDepth 1000000
set_option maxHeartbeats 1000000 in
theorem refCmp_any (x y : Int) (w : World) : Calls Tryd.prog 37 #[.int .i64 x, .int .i64 y] w fun e w' => e = .returned (.int .i64 (Lib.compareInt x y)) ∧ w' = w := by
  rcases Int.lt_trichotomy x y with h | h | h
  · have e : Hid (Lib.compareInt x y = -1) := by show _ = _; unfold Lib.compareInt; rw [if_pos h]
    go_enter Tryd.func37, Tryd.ntmps37
    go_wp2
    go_ret
    exact ⟨by rw [e.out]; rfl, rfl⟩
  · have e : Hid (Lib.compareInt x y = 0) := by show _ = _; unfold Lib.compareInt; rw [if_neg (by omega), if_neg (by omega)]
    subst h
    have h1 : decide (x < x) = false := by simp
    go_enter Tryd.func37, Tryd.ntmps37
    go_wp2
    go_ret
    exact ⟨by rw [e.out]; rfl, rfl⟩
  · have e : Hid (Lib.compareInt x y = 1) := by show _ = _; unfold Lib.compareInt; rw [if_neg (by omega), if_pos (by omega)]
    have h1 : decide (x < y) = false := by simp; omega
    go_enter Tryd.func37, Tryd.ntmps37
    go_wp2
    go_ret
    exact ⟨by rw [e.out]; rfl, rfl⟩

def oneI (b : Bool) : Int := if b = true then 1 else 0
set_option maxRecDepth 1000000
set_option maxHeartbeats 1000000 in
theorem refOne_any (b : Bool) (w : World) : Calls Tryd.prog 38 #[.bool b] w fun e w' => e = .returned (.int .i64 (oneI b)) ∧ w' = w := by
  cases b
  all_goals
    go_enter Tryd.func38, Tryd.ntmps38
    go_wp2
    go_ret
    exact ⟨rfl, rfl⟩
set_option maxRecDepth 1000000
set_option maxHeartbeats 1000000 in
theorem more_any (n : Int) (h1 : -9223372036854775808 ≤ n) (h2 : n ≤ 9223372036854775807) (w : World) : Calls Tryd.prog 41 #[.int .i64 n] w fun e w' => e = .returned (.int .i64 (moreS n)) ∧ w' = w := by
  by_cases h : 999999999 ≤ n
  · have e : Hid (moreS n = n) := by show _ = _; unfold moreS; rw [if_pos h]
    go_enter Tryd.func41, Tryd.ntmps41
    go_wp2
    go_ret
    exact ⟨by rw [e.out]; rfl, rfl⟩
  · have e : Hid (moreS n = n + 1) := by show _ = _; unfold moreS; rw [if_neg h]
    have hd : decide (999999999 ≤ n) = false := by simp; omega
    have hu : n < 999999999 := by omega
    go_enter Tryd.func41, Tryd.ntmps41
    go_wp2
    go_ret
    exact ⟨by rw [e.out]; rfl, rfl⟩

set_option maxRecDepth 1000000
set_option maxHeartbeats 1000000 in
theorem or_any (b o n cap : Nat) (L : List Int) (hn : L.length = n) (hn2 : n ≤ 1000) (w : World) (hc : ∀ (j : Nat) (x : Int), L[j]? = some x → w.cell? ⟨b, o + j, none⟩ = some (.int .i64 x)) :
    Calls Tryd.prog 34 #[.slice (some ⟨b, o, none⟩) n cap] w fun e w' => e = .returned (.int .i64 (orL L)) ∧ w' = w := by
  have HN := Lib.hid hn
  have HC := Lib.hid hc
  clear hn hc
  go_enter Tryd.func34, Tryd.ntmps34
  go_wp2
  go_loopw [5, 8] (fun v i wr => ∃ k : Nat, k ≤ n ∧ i = .int .i64 k ∧ orL (L.drop k) = orL L ∧ w = wr) (fun _ i _ => n - (intOf i).toNat)
  case atStart => exact ⟨0, Nat.zero_le _, rfl, rfl, rfl⟩
  case round =>
    obtain ⟨k, hk, rfl, ho, rfl⟩ := hrel
    by_cases hlt : k < n
    · obtain ⟨x, hx⟩ : ∃ x, L[k]? = some x := ⟨_, List.getElem?_eq_getElem (by rw [HN.out]; exact hlt)⟩
      have hcell := HC.out k x hx
      have hd : L.drop k = x :: L.drop (k + 1) := by
        have hl := (List.getElem?_eq_some_iff.1 hx)
        obtain ⟨hl1, hl2⟩ := hl
        rw [List.drop_eq_getElem_cons hl1, hl2]
      by_cases h0 : x = 0
      · subst h0
        have HX := Lib.hid (show orL (L.drop (k + 1)) = orL L by rw [← ho, hd]; exact (if_pos rfl).symm)
        clear hx ho hd
        go_wp2
        go_roundw
        case rel => exact ⟨k + 1, by omega, by go_num, HX.out, trivial⟩
        case measure => simp [intOf]; omega
      · have e : Hid (orL L = x) := by show _ = _; rw [← ho, hd]; exact if_neg h0
        have hne : (x == 0) = false := by simp [h0]
        have hne2 : ¬ x = 0 := h0
        clear hx ho hd h0
        go_wp2
        go_ret
        exact ⟨by rw [e.out]; rfl, rfl⟩
    · have hkn : k = n := by omega
      have e : Hid (orL L = 0) := by
        show _ = _
        rw [← ho, List.drop_of_length_le (by rw [HN.out]; omega)]; rfl
      subst hkn
      clear hlt hk ho
      go_wp2
      go_ret
      exact ⟨by rw [e.out]; rfl, rfl⟩
end Go.Proofs.YtkngfkjnohbbiaaDoor
