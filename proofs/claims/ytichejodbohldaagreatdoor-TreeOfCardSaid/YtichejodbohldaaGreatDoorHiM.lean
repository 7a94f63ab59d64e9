/- A script's acts, as an argument; light. -/
import Derived.Test.YtichejodbohldaaGreatDoorHgM
import Derived.Test.YtichejodbohldaaGreatDoorItM
namespace Go.Proofs.YtichejodbohldaaGreatDoor
open Go.RowKit Go.Maps
set_option maxRecDepth 1000000
/-- An act of a script, and where its bytes lie. -/
structure Ac where
  what : Nat
  p : ByteArray
  q : ByteArray
  b : List UInt8
  v : Value
def actC (x : Ac) : List Value := [.int .u8 (x.what : Int), .string x.p, .string x.q, x.v]
/-- Acts that lie below B. -/
def ActsAt (w : World) (B : Nat) (a : Option Addr) (l : List Ac) : Prop :=
  ∃ b o : Nat, b < B ∧ (0 < l.length → a = some ⟨b, o, none⟩) ∧ ∀ j x, l[j]? = some x → (∀ i u, (actC x)[i]? = some u → w.cell? ⟨b, o + j * 4 + i, none⟩ = some u) ∧ x.what < 256 ∧ x.p.size ≤ maxLen ∧ x.q.size ≤ maxLen ∧ (∃ a c, x.v = .slice a x.b.length c) ∧ x.b.length ≤ maxLen ∧ Part w B x.v x.b
theorem ActsAt.since {w w' : World} {B : Nat} {a : Option Addr} {l : List Ac} (h : ActsAt w B a l) (hk : Since B w w') : ActsAt w' B a l := by
  obtain ⟨b, o, h1, h2, h3⟩ := h
  refine ⟨b, o, h1, h2, fun j x hj => ?_⟩
  obtain ⟨h4, h5, h6, h7, h8, h9, h10⟩ := h3 j x hj
  exact ⟨fun i u hu => hk.cell (h4 i u hu) h1, h5, h6, h7, h8, h9, h10.keeps hk fun k e => e⟩
def lightA (l : List Ac) : Bool := l.all fun x => decide (x.p.size ≤ 250) && (decide (x.q.size ≤ 250) && decide (x.b.length ≤ 200))
/-- What light tells. -/
def lightS (l : List Ac) : Bool := decide (l.length ≤ 40) && lightA l
theorem lightA_mem {l : List Ac} (h : lightA l = true) {x : Ac} (hx : x ∈ l) : x.p.size ≤ 250 ∧ x.q.size ≤ 250 ∧ x.b.length ≤ 200 := by
  have := List.all_eq_true.1 h x hx
  simpa using this
theorem lightA_no {l : List Ac} {x : Ac} (hx : x ∈ l) (h : 250 < x.p.size ∨ 250 < x.q.size ∨ 200 < x.b.length) : lightA l = false := by
  cases e : lightA l with
  | false => rfl
  | true => have := lightA_mem e hx; omega
theorem lightA_take {l : List Ac} {j : Nat} {x : Ac} (h : lightA (l.take j) = true) (hx : l[j]? = some x) (h1 : x.p.size ≤ 250) (h2 : x.q.size ≤ 250) (h3 : x.b.length ≤ 200) : lightA (l.take (j + 1)) = true := by
  rw [take_snocL l j x hx]
  unfold lightA at h ⊢
  rw [List.all_append, h]
  simp [h1, h2, h3]
set_option maxHeartbeats 8000000 in
theorem light_any (a : Option Addr) (n c B : Nat) (l : List Ac) (w : World) (hn : l.length = n) (h : ActsAt w B a l) : Calls Tryz.prog 12 #[.slice a n c] w fun e w' => e = .returned (.bool (lightS l)) ∧ w.grownBy w' none := by
  have HN := Lib.hid hn
  have HA := Lib.hid h
  clear hn h
  by_cases h40 : 40 < n
  · have d1 : decide (40 < (n : Int)) = true := by simp; omega
    have HE : Hid (lightS l = false) := Lib.hid (by unfold lightS; rw [HN.out, decide_eq_false (by omega)]; rfl)
    go_enter Tryz.func12, Tryz.ntmps12
    go_wp2
    go_ret
    exact ⟨by rw [HE.out]; rfl, World.grownBy.refl _ _⟩
  · have d1 : decide (40 < (n : Int)) = false := by simp; omega
    have HE : Hid (lightS l = lightA l) := Lib.hid (by unfold lightS; rw [HN.out, decide_eq_true (by omega)]; rfl)
    rw [HE.out]
    go_enter Tryz.func12, Tryz.ntmps12
    go_wp2_with fail
    go_loopw [3] (fun i wr => ∃ j : Nat, j ≤ n ∧ i = .int .i64 (j : Int) ∧ Hid (w.grownBy wr none ∧ lightA (l.take j) = true)) (fun i _ => n - (intOf i).toNat)
    case atStart => exact ⟨0, Nat.zero_le _, rfl, Lib.hid ⟨World.grownBy.refl _ _, rfl⟩⟩
    case round =>
      obtain ⟨j, hj, rfl, HS⟩ := hrel
      by_cases hjn : j < n
      · obtain ⟨x, hx⟩ : ∃ x, l[j]? = some x := ⟨l[j]'(by rw [HN.out]; exact hjn), List.getElem?_eq_getElem _⟩
        obtain ⟨b, o, _, ha, hall⟩ := HA.out
        obtain ⟨hc, _, hp, hq, ⟨av, cv, hv⟩, hb, _⟩ := hall j x hx
        obtain rfl := ha (by rw [HN.out]; omega)
        obtain ⟨m, hm⟩ : ∃ m, x.b.length = m := ⟨_, rfl⟩
        rw [hm] at hv hb
        have q1 := HS.out.1.cell (hc 1 _ rfl) (by simp)
        have q2 := HS.out.1.cell (hc 2 _ rfl) (by simp)
        have q3 := HS.out.1.cell (hc 3 _ rfl) (by simp)
        rw [hv] at q3
        have HX := Lib.hid (And.intro hx hm)
        have hxm := List.mem_of_getElem? hx
        have hno := fun h => lightA_no hxm h
        have hyes := fun h1 h2 h3 => lightA_take HS.out.2 hx h1 h2 h3
        rw [hm] at hno hyes
        have HNO := Lib.hid hno
        have HYES := Lib.hid hyes
        obtain ⟨P, hP⟩ : ∃ P, x.p = P := ⟨_, rfl⟩
        obtain ⟨Q, hQ⟩ : ∃ Q, x.q = Q := ⟨_, rfl⟩
        rw [hP] at q1 HNO HYES hp
        rw [hQ] at q2 HNO HYES hq
        unfold maxLen at hp hq hb
        clear hc hv hx hm hxm hno hyes hall ha hP hQ
        by_cases h1 : 250 < P.size
        · have d2 : decide (250 < (P.size : Int)) = true := by simp; omega
          have HF := Lib.hid (HNO.out (.inl h1))
          go_wp2
          go_ret
          exact ⟨by rw [HF.out]; rfl, HS.out.1⟩
        · have d2 : decide (250 < (P.size : Int)) = false := by simp; omega
          by_cases h2 : 250 < Q.size
          · have d3 : decide (250 < (Q.size : Int)) = true := by simp; omega
            have HF := Lib.hid (HNO.out (.inr (.inl h2)))
            go_wp2
            go_ret
            exact ⟨by rw [HF.out]; rfl, HS.out.1⟩
          · have d3 : decide (250 < (Q.size : Int)) = false := by simp; omega
            by_cases h3 : 200 < m
            · have d4 : decide (200 < (m : Int)) = true := by simp; omega
              have HF := Lib.hid (HNO.out (.inr (.inr h3)))
              go_wp2
              go_ret
              exact ⟨by rw [HF.out]; rfl, HS.out.1⟩
            · have d4 : decide (200 < (m : Int)) = false := by simp; omega
              have HF := Lib.hid (HYES.out (by omega) (by omega) (by omega))
              go_wp2_with fail
              refine ⟨⟨j + 1, by omega, congrArg (Value.int IntKind.i64) (by omega), Lib.hid ⟨HS.out.1, HF.out⟩⟩, ?_⟩
              simp only [intOf]
              omega
      · have hjn' : j = n := by omega
        have HF : Hid (lightA l = true) := Lib.hid (by have := HS.out.2; rw [hjn', List.take_of_length_le (by rw [HN.out]; exact Nat.le_refl _)] at this; exact this)
        go_wp2
        go_ret
        exact ⟨by rw [HF.out]; rfl, HS.out.1⟩
end Go.Proofs.YtichejodbohldaaGreatDoor
