/- Lists of marks held against one another: as package ver does it. -/
import Derived.Test.YtkngfkjnohbbiaaDoorVm
namespace Go.Proofs.YtkngfkjnohbbiaaDoor
open Go.RowKit

def scanM : List ByteArray → List ByteArray → Int
  | x :: a, y :: b => if cmpMk x y = 0 then scanM a b else cmpMk x y
  | a, b => Lib.compareInt a.length b.length
/-- Marks held against one another. -/
def cmpMs (a b : List ByteArray) : Int := if a = [] ∨ b = [] then Lib.compareInt (min b.length 1 : Nat) (min a.length 1 : Nat) else scanM a b
theorem scanM_nil (a b : List ByteArray) (h : a = [] ∨ b = []) : scanM a b = Lib.compareInt a.length b.length := by
  rcases h with rfl | rfl
  · cases b <;> rfl
  · cases a <;> rfl
theorem cmpInt_sub (a b k : Nat) (h1 : k ≤ a) (h2 : k ≤ b) : Lib.compareInt ((a - k : Nat) : Int) ((b - k : Nat) : Int) = Lib.compareInt (a : Int) (b : Int) := by
  unfold Lib.compareInt
  repeat' split
  all_goals omega
theorem drop_at {α : Type} (L : List α) (k : Nat) (x : α) (h : L[k]? = some x) : L.drop k = x :: L.drop (k + 1) := by
  obtain ⟨h1, h2⟩ := List.getElem?_eq_some_iff.1 h
  rw [List.drop_eq_getElem_cons h1, h2]

set_option maxRecDepth 1000000
set_option maxHeartbeats 4000000 in
theorem cmpMarks_any (B C n1 n2 c1 c2 : Nat) (a1 a2 : Option Addr) (L M : List ByteArray) (w : World) (hn1 : L.length = n1) (hn2 : M.length = n2) (hb : n1 ≤ 8000000) (hb2 : n2 ≤ 8000000)
    (hs1 : ∀ p ∈ L, p.size ≤ 8000000) (hs2 : ∀ p ∈ M, p.size ≤ 8000000) (h1 : PartS w B (.slice a1 n1 c1) L) (h2 : PartS w C (.slice a2 n2 c2) M) :
    Calls Tryd.prog 36 #[.slice a1 n1 c1, .slice a2 n2 c2] w fun e w' => e = .returned (.int .i64 (cmpMs L M)) ∧ w.grownBy w' none := by
  have HN1 := Lib.hid hn1
  have HN2 := Lib.hid hn2
  have H1 := Lib.hid h1
  have H2 := Lib.hid h2
  have HS1 := Lib.hid hs1
  have HS2 := Lib.hid hs2
  clear h1 h2 hs1 hs2
  by_cases h0 : n1 = 0 ∨ n2 = 0
  · have e : Hid (cmpMs L M = Lib.compareInt (min n2 1 : Nat) (min n1 1 : Nat)) := by
      show _ = _
      unfold cmpMs
      rw [if_pos (by rcases h0 with h | h
                     · exact .inl (List.eq_nil_of_length_eq_zero (by omega))
                     · exact .inr (List.eq_nil_of_length_eq_zero (by omega))), hn1, hn2]
    clear hn1 hn2
    have hm1 : min (n2 : Int) 1 = ((min n2 1 : Nat) : Int) := by omega
    have hm2 : min (n1 : Int) 1 = ((min n1 1 : Nat) : Int) := by omega
    obtain ⟨p, hp⟩ : ∃ p, min n2 1 = p := ⟨_, rfl⟩
    obtain ⟨q, hq⟩ : ∃ q, min n1 1 = q := ⟨_, rfl⟩
    rw [hp, hq] at e
    rw [hp] at hm1
    rw [hq] at hm2
    have h0' : n1 = 0 ∨ (((n1 : Int) == 0) = false ∧ ¬ (n1 : Int) = 0 ∧ n2 = 0) := by
      by_cases h : n1 = 0
      · exact .inl h
      · exact .inr ⟨by simp; omega, by omega, by omega⟩
    clear hp hq h0
    rcases h0' with h | ⟨h, h', h''⟩
    · subst h
      go_enter Tryd.func36, Tryd.ntmps36
      go_wp2_with fail
      (with_reducible refine (Tryd.cmp_Compare_int _ _ _).mono ?_)
      rintro ee w' ⟨rfl, hw'⟩
      rw [hw']
      clear hw' w'
      dsimp only
      go_wp2
      go_ret
      exact ⟨by rw [e.out, ← hm1, ← hm2]; rfl, World.grownBy.refl _ _⟩
    · subst h''
      go_enter Tryd.func36, Tryd.ntmps36
      go_wp2_with fail
      (with_reducible refine (Tryd.cmp_Compare_int _ _ _).mono ?_)
      rintro ee w' ⟨rfl, hw'⟩
      rw [hw']
      clear hw' w'
      dsimp only
      go_wp2
      go_ret
      exact ⟨by rw [e.out, ← hm1, ← hm2]; rfl, World.grownBy.refl _ _⟩
  · have hp1 : ¬ n1 = 0 := by omega
    have hp2 : ¬ n2 = 0 := by omega
    have e : Hid (cmpMs L M = scanM L M) := by
      show _ = _
      unfold cmpMs
      rw [if_neg (by
        rintro (h | h)
        · rw [h] at hn1; exact hp1 hn1.symm
        · rw [h] at hn2; exact hp2 hn2.symm)]
    have k1 : ((n1 : Int) == 0) = false := by simp; omega
    have k2 : ((n2 : Int) == 0) = false := by simp; omega
    have k3 : ¬ (n1 : Int) = 0 := by omega
    have k4 : ¬ (n2 : Int) = 0 := by omega
    have hmi : min (n1 : Int) (n2 : Int) = ((min n1 n2 : Nat) : Int) := by omega
    obtain ⟨N, hN⟩ : ∃ N, min n1 n2 = N := ⟨_, rfl⟩
    rw [hN] at hmi
    have hN1 : N ≤ n1 := by omega
    have hN2 : N ≤ n2 := by omega
    have HNN := Lib.hid hN
    clear hn1 hn2 h0 hp1 hp2 hN
    go_enter Tryd.func36, Tryd.ntmps36
    go_wp2
    go_loopw [5, 6, 27] (fun i c t wr => ∃ k : Nat, k ≤ N ∧ t = .int .i64 k ∧ scanM (L.drop k) (M.drop k) = scanM L M ∧ w.grownBy wr none) (fun _ _ t _ => N - (intOf t).toNat)
    case atStart => exact ⟨0, Nat.zero_le _, rfl, rfl, World.grownBy.refl _ _⟩
    case round =>
      obtain ⟨k, hk, rfl, ho, hg⟩ := hrel
      have HO := Lib.hid ho
      have HG := Lib.hid hg
      clear ho hg
      by_cases hlt : k < N
      · obtain ⟨x, hx⟩ : ∃ x, L[k]? = some x := ⟨_, List.getElem?_eq_getElem (by rw [HN1.out]; omega)⟩
        obtain ⟨y, hy⟩ : ∃ y, M[k]? = some y := ⟨_, List.getElem?_eq_getElem (by rw [HN2.out]; omega)⟩
        obtain ⟨b1, o1, e1, _, g1⟩ := (H1.out.stays HG.out).at k x hx
        obtain ⟨b2, o2, e2, _, g2⟩ := (H2.out.stays HG.out).at k y hy
        subst e1 e2
        have hxs := HS1.out x (List.mem_of_getElem? hx)
        have hys := HS2.out y (List.mem_of_getElem? hy)
        have q1 : k < n1 := by omega
        have q2 : k < n2 := by omega
        have HSC := Lib.hid (show scanM (L.drop k) (M.drop k) = if cmpMk x y = 0 then scanM (L.drop (k + 1)) (M.drop (k + 1)) else cmpMk x y by rw [drop_at L k x hx, drop_at M k y hy]; rfl)
        have hcall : ∀ W, wr.grownBy W none → Calls Tryd.prog 51 #[.string x, .string y] W fun e w' => e = .returned (.int .i64 (cmpMk x y)) ∧ wr.grownBy w' none :=
          fun W hW => (cmpMark_any x y hxs hys W).mono fun e w' h => ⟨h.1, World.grownBy.trans hW h.2⟩
        obtain ⟨z, hz⟩ : ∃ z, cmpMk x y = z := ⟨_, rfl⟩
        rw [hz] at HSC hcall
        clear hx hy hz
        go_wp2
        have hC0 : wr.grownBy { wr with drawn := wr.drawn + 1 } none := ⟨rfl, rfl, rfl, Nat.le_refl _, fun _ _ _ => rfl⟩
        refine wp_region_quiet (C := fun w' => wr.grownBy w' none) (by kernel_rfl) (by kernel_rfl) hC0 ?_
        refine wpQuiet_step (fun K hK => ?_)
        go_simp
        refine ⟨_, fun W hW => rfl, hK _ ?_⟩
        clear hK K
        refine wpQuiet_step (fun K hK => ?_)
        go_simp
        refine ⟨_, fun W hW => rfl, hK _ ?_⟩
        clear hK K
        refine wpQuiet_step (fun K hK => ?_)
        go_simp
        refine ⟨_, fun W hW => rfl, hK _ ?_⟩
        clear hK K
        refine wpQuiet_step (fun K hK => ?_)
        go_simp
        refine ⟨.string x, fun W hW => ?_, hK _ ?_⟩
        · rw [hW.cell g1 (by simp)]; exact ⟨rfl, rfl⟩
        clear hK K
        refine wpQuiet_step (fun K hK => ?_)
        go_simp
        refine ⟨_, fun W hW => rfl, hK _ ?_⟩
        clear hK K
        refine wpQuiet_step (fun K hK => ?_)
        go_simp
        refine ⟨_, fun W hW => rfl, hK _ ?_⟩
        clear hK K
        refine wpQuiet_step (fun K hK => ?_)
        go_simp
        refine ⟨_, fun W hW => rfl, hK _ ?_⟩
        clear hK K
        refine wpQuiet_step (fun K hK => ?_)
        go_simp
        refine ⟨.string y, fun W hW => ?_, hK _ ?_⟩
        · rw [hW.cell g2 (by simp)]; exact ⟨rfl, rfl⟩
        clear hK K
        refine wpQuiet_step (fun K hK => ?_)
        go_simp
        refine ⟨.int .i64 z, fun W hW => hcall W hW, hK _ ?_⟩
        clear hK K
        refine wpQuiet_step (fun K hK => ?_)
        go_simp
        refine ⟨_, fun W hW => rfl, hK _ ?_⟩
        clear hK K
        refine wpQuiet_nil ?_
        intro W hW
        have HGW := Lib.hid (World.grownBy.trans HG.out hW)
        clear hW hcall hC0 g1 g2
        by_cases hz0 : z = 0
        · have HX := Lib.hid (show scanM (L.drop (k + 1)) (M.drop (k + 1)) = scanM L M by rw [← HO.out, HSC.out, if_pos hz0])
          subst hz0
          go_wp2
          go_roundw
          case rel => exact ⟨k + 1, by omega, by go_num, HX.out, HGW.out⟩
          case measure => simp [intOf]; omega
        · have hne : (z == 0) = false := by simp [hz0]
          have e2 : Hid (cmpMs L M = z) := by show _ = _; rw [e.out, ← HO.out, HSC.out, if_neg hz0]
          go_wp2
          go_ret
          exact ⟨by rw [e2.out]; rfl, HGW.out⟩
      · have hkN : k = N := by omega
        have e2 : Hid (cmpMs L M = Lib.compareInt (n1 : Int) (n2 : Int)) := by
          show _ = _
          have h1 := HN1.out
          have h2 := HN2.out
          have h3 := HNN.out
          rw [e.out, ← HO.out, scanM_nil _ _ (by
            by_cases h : n1 ≤ k
            · exact .inl (List.drop_of_length_le (by omega))
            · exact .inr (List.drop_of_length_le (by omega))), List.length_drop, List.length_drop, h1, h2]
          exact cmpInt_sub n1 n2 k (by omega) (by omega)
        subst hkN
        clear hlt hk
        go_wp2_with fail
        (with_reducible refine (Tryd.cmp_Compare_int _ _ _).mono ?_)
        rintro ee w' ⟨rfl, hw'⟩
        rw [hw']
        clear hw' w'
        dsimp only
        go_wp2
        go_ret
        exact ⟨by rw [e2.out]; rfl, HG.out⟩
end Go.Proofs.YtkngfkjnohbbiaaDoor
