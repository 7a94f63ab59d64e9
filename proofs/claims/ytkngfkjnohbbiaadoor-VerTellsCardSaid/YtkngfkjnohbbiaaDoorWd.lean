/- The order of versions is one, ended: marks and versions. Laws on lists, no program. -/
import Derived.Test.YtkngfkjnohbbiaaDoorWc
namespace Go.Proofs.YtkngfkjnohbbiaaDoor
open Go.RowKit

theorem lex_aux (p q r p' q' r' : Int) (k2 : p ≤ 0 → q < 0 → r < 0) (k3 : p < 0 → q ≤ 0 → r < 0) (k4 : p = 0 → q = 0 → r = 0)
    (u1 : p' ≤ 0 → q' ≤ 0 → r' ≤ 0) (u2 : p' ≤ 0 → q' < 0 → r' < 0) (u3 : p' < 0 → q' ≤ 0 → r' < 0) :
    ((if p = 0 then p' else p) ≤ 0 → (if q = 0 then q' else q) ≤ 0 → (if r = 0 then r' else r) ≤ 0) ∧
    ((if p = 0 then p' else p) ≤ 0 → (if q = 0 then q' else q) < 0 → (if r = 0 then r' else r) < 0) ∧
    ((if p = 0 then p' else p) < 0 → (if q = 0 then q' else q) ≤ 0 → (if r = 0 then r' else r) < 0) := by
  rcases Int.lt_trichotomy p 0 with hp | hp | hp
  · rcases Int.lt_trichotomy q 0 with hq | hq | hq
    · have := k2 (by omega) hq
      rw [if_neg (by omega), if_neg (by omega), if_neg (by omega)]; omega
    · have := k3 hp (by omega)
      rw [if_neg (by omega), if_pos hq, if_neg (by omega)]; omega
    · rw [if_neg (by omega), if_neg (by omega : ¬ q = 0)]; omega
  · rcases Int.lt_trichotomy q 0 with hq | hq | hq
    · have := k2 (by omega) hq
      rw [if_pos hp, if_neg (by omega), if_neg (by omega)]; omega
    · have := k4 hp hq
      rw [if_pos hp, if_pos hq, if_pos this]; exact ⟨u1, u2, u3⟩
    · rw [if_pos hp, if_neg (by omega : ¬ q = 0)]; omega
  · rw [if_neg (by omega : ¬ p = 0)]; omega
theorem scanM_is : IsCmp scanM := by
  have hk := cmpMk_is
  have hl := cmpInt_is (fun L : List ByteArray => (L.length : Int))
  have anti : ∀ x y, scanM y x = - scanM x y := by
    intro x
    induction x with
    | nil => intro y; rw [scanM_nil _ _ (.inr rfl), scanM_nil _ _ (.inl rfl)]; exact hl.anti [] y
    | cons a x ih =>
      intro y
      cases y with
      | nil => rw [scanM_nil _ _ (.inl rfl), scanM_nil _ _ (.inr rfl)]; exact hl.anti (a :: x) []
      | cons b y =>
        have h1 := ih y
        have h2 := hk.anti a b
        show (if cmpMk b a = 0 then scanM y x else cmpMk b a) = - (if cmpMk a b = 0 then scanM x y else cmpMk a b)
        repeat' split
        all_goals omega
  have nn : ∀ (b : ByteArray) (y : List ByteArray), scanM [] (b :: y) = -1 := by
    intro b y
    rw [scanM_nil _ _ (.inl rfl)]
    unfold Lib.compareInt
    rw [if_pos (by simp)]
  have nc : ∀ (b : ByteArray) (y : List ByteArray), scanM (b :: y) [] = 1 := by
    intro b y
    have := anti [] (b :: y)
    rw [nn] at this
    omega
  have n0 : scanM [] [] = 0 := by decide
  have both : ∀ x y z, (scanM x y ≤ 0 → scanM y z ≤ 0 → scanM x z ≤ 0) ∧ (scanM x y ≤ 0 → scanM y z < 0 → scanM x z < 0) ∧ (scanM x y < 0 → scanM y z ≤ 0 → scanM x z < 0) := by
    intro x
    induction x with
    | nil =>
      intro y z
      cases y with
      | nil => rw [n0]; exact ⟨fun _ h => h, fun _ h => h, fun h => by omega⟩
      | cons b y =>
        cases z with
        | nil => rw [nn, nc, n0]; omega
        | cons d z => rw [nn, nn]; omega
    | cons a x ih =>
      intro y z
      cases y with
      | nil => rw [nc]; omega
      | cons b y =>
        cases z with
        | nil => rw [nc, nc]; omega
        | cons d z =>
          have h := ih y z
          exact lex_aux (cmpMk a b) (cmpMk b d) (cmpMk a d) (scanM x y) (scanM y z) (scanM x z) (hk.lt a b d) (hk.lt2 a b d) (hk.zero a b d) h.1 h.2.1 h.2.2
  exact ⟨anti, fun x y z => (both x y z).1, fun x y z => (both x y z).2.1⟩
theorem scanM_zero (x y : List ByteArray) (h : scanM x y = 0) : x = y := by
  induction x generalizing y with
  | nil =>
    cases y with
    | nil => rfl
    | cons b y =>
      rw [scanM_nil _ _ (.inl rfl), cmpInt_zero] at h
      simp at h
      omega
  | cons a x ih =>
    cases y with
    | nil =>
      rw [scanM_nil _ _ (.inr rfl), cmpInt_zero] at h
      simp at h
      omega
    | cons b y =>
      have h' : (if cmpMk a b = 0 then scanM x y else cmpMk a b) = 0 := h
      by_cases e : cmpMk a b = 0
      · rw [if_pos e] at h'
        rw [cmpMk_zero a b e, ih y h']
      · rw [if_neg e] at h'
        exact absurd h' e
def someM (x : List ByteArray) : Int := ((min x.length 1 : Nat) : Int)
theorem cmpMs_lex (x y : List ByteArray) : cmpMs x y = if Lib.compareInt (-(someM x)) (-(someM y)) = 0 then scanM x y else Lib.compareInt (-(someM x)) (-(someM y)) := by
  unfold cmpMs someM
  have e0 : Lib.compareInt 0 0 = 0 := by decide
  have e1 : Lib.compareInt (-1) (-1) = 0 := by decide
  have e2 : Lib.compareInt 0 1 = -1 := by decide
  have e3 : Lib.compareInt 1 0 = 1 := by decide
  have e4 : Lib.compareInt (-1) 0 = -1 := by decide
  have e5 : Lib.compareInt 0 (-1) = 1 := by decide
  have n0 : scanM [] [] = 0 := by decide
  cases x with
  | nil =>
    cases y with
    | nil => simp [e0, n0]
    | cons b y =>
      have hm : min (y.length + 1) 1 = 1 := by omega
      simp [hm, e5, e3]
  | cons a x =>
    have hm : min (x.length + 1) 1 = 1 := by omega
    cases y with
    | nil => simp [hm, e4, e2]
    | cons b y =>
      have hm2 : min (y.length + 1) 1 = 1 := by omega
      simp [hm, hm2, e1]
theorem cmpMs_is : IsCmp cmpMs := by
  have h := (cmpInt_is (fun x => -(someM x))).lex scanM_is
  have e : cmpMs = fun x y => if Lib.compareInt (-(someM x)) (-(someM y)) = 0 then scanM x y else Lib.compareInt (-(someM x)) (-(someM y)) := by
    funext x y; exact cmpMs_lex x y
  rw [e]; exact h
theorem cmpMs_zero (x y : List ByteArray) (h : cmpMs x y = 0) : x = y := by
  rw [cmpMs_lex] at h
  split at h
  · exact scanM_zero x y h
  · rename_i h1; exact absurd h h1
theorem cmpV_lex (u v : Vn) : cmpV u v = if Lib.compareInt u.maj v.maj = 0 then (if Lib.compareInt u.min v.min = 0 then (if Lib.compareInt u.pat v.pat = 0 then cmpMs u.pre v.pre else Lib.compareInt u.pat v.pat) else Lib.compareInt u.min v.min) else Lib.compareInt u.maj v.maj := by
  unfold cmpV
  show (if _ = (0 : Int) then (if _ = (0 : Int) then (if _ = (0 : Int) then orL [cmpMs u.pre v.pre] else _) else _) else _) = _
  rw [orL_one]
theorem pull_is {α β : Type} {c : β → β → Int} (h : IsCmp c) (f : α → β) : IsCmp fun x y => c (f x) (f y) :=
  ⟨fun _ _ => h.anti _ _, fun _ _ _ => h.le _ _ _, fun _ _ _ => h.lt _ _ _⟩
theorem cmpV_is : IsCmp cmpV := by
  have h := (cmpInt_is (fun v : Vn => v.maj)).lex ((cmpInt_is (fun v : Vn => v.min)).lex ((cmpInt_is (fun v : Vn => v.pat)).lex (pull_is cmpMs_is (fun v : Vn => v.pre))))
  have e : cmpV = fun u v => if Lib.compareInt u.maj v.maj = 0 then (if Lib.compareInt u.min v.min = 0 then (if Lib.compareInt u.pat v.pat = 0 then cmpMs u.pre v.pre else Lib.compareInt u.pat v.pat) else Lib.compareInt u.min v.min) else Lib.compareInt u.maj v.maj := by
    funext x y; exact cmpV_lex x y
  rw [e]; exact h
theorem cmpV_zero (u v : Vn) (h : cmpV u v = 0) : u = v := by
  rw [cmpV_lex] at h
  split at h
  · rename_i h1
    split at h
    · rename_i h2
      split at h
      · rename_i h3
        have a := (cmpInt_zero _ _).1 h1
        have b := (cmpInt_zero _ _).1 h2
        have c := (cmpInt_zero _ _).1 h3
        have d := cmpMs_zero _ _ h
        obtain ⟨_, _, _, _⟩ := u
        obtain ⟨_, _, _, _⟩ := v
        simp only at a b c d
        rw [a, b, c, d]
      · rename_i h1; exact absurd h h1
    · rename_i h1; exact absurd h h1
  · rename_i h1; exact absurd h h1
/-- Versions that were read are alike just where their texts are. -/
theorem cmpV_text (a b : ByteArray) (u v : Vn) (hu : parseS a = (u, 0)) (hv : parseS b = (v, 0)) : cmpV u v = 0 ↔ a = b := by
  constructor
  · intro h
    have e := cmpV_zero u v h
    rw [← (parse_read a u hu).text, ← (parse_read b v hv).text, e]
  · intro h
    rw [h, hv] at hu
    have e : v = u := congrArg Prod.fst hu
    rw [e]; exact cmpV_is.self u
end Go.Proofs.YtkngfkjnohbbiaaDoor
