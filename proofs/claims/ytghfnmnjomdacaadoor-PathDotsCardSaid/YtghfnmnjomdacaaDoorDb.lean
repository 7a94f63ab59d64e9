/- The law PathDots returns true. -/
import Derived.Test.YtghfnmnjomdacaaDoorDa
import Derived.RegionTactic
import Derived.ChangeAlike
namespace Go.Proofs.YtghfnmnjomdacaaDoor
open Go.RowKit

/-- v is the bytes L, which lie anywhere. -/
def PartU (w : World) (a : Option Addr) (L : List Nat) : Prop := ∃ b o, (0 < L.length → a = some ⟨b, o, none⟩) ∧ ∀ (j x : Nat), L[j]? = some x → w.cell? ⟨b, o + j, none⟩ = some (.int .u8 (x : Int))

theorem tab_keeps (w : World) (n : Nat) (o : Obj) (x : Value) {b i : Nat} (h : w.cell? ⟨b, i, none⟩ = some x) : ((w.drewN n).alloc o).cell? ⟨b, i, none⟩ = some x :=
  (World.grownBy_alloc (w.drewN n) o none).cell h (by simp)
theorem tab_at (w : World) (n h : Nat) (hh : h < 5) : ((w.drewN n).alloc (Obj.cells #[Value.string ⟨#[]⟩, Value.string ⟨#[46, 47]⟩, Value.string ⟨#[47]⟩, Value.string ⟨#[120, 47, 46, 46, 47]⟩, Value.string ⟨#[121, 47, 122, 47, 46, 46, 47, 46, 46, 47]⟩] 9)).cell? ⟨w.heap.size, h, none⟩ = some (.string (sayB h)) := by
  have e := alloc_cell (w.drewN n) #[Value.string ⟨#[]⟩, Value.string ⟨#[46, 47]⟩, Value.string ⟨#[47]⟩, Value.string ⟨#[120, 47, 46, 46, 47]⟩, Value.string ⟨#[121, 47, 122, 47, 46, 46, 47, 46, 46, 47]⟩] 9 h
  refine Eq.trans e ?_
  match h, hh with
  | 0, _ => rfl
  | 1, _ => rfl
  | 2, _ => rfl
  | 3, _ => rfl
  | 4, _ => rfl

set_option maxRecDepth 1000000
set_option maxHeartbeats 4000000 in
theorem dots_loop (m : Int) (n n2 c1 c2 : Nat) (a1 a2 : Option Addr) (L H : List Nat) (hn : L.length = n) (hn2 : H.length = n2) (w : World) (hP1 : PartU w a1 L) (hP2 : PartU w a2 H) (hL : ∀ x ∈ L, x ≤ 255) (hH : ∀ x ∈ H, x ≤ 255)
    (hm : w.cell? ⟨0, 0, none⟩ = some (.int .i64 m)) (hl : ¬ 8 < n) (hl2 : ¬ n2 < n) :
    Calls Tryd.prog 7 #[.slice a1 n c1, .slice a2 n2 c2] w fun e w' => e = .returned (.bool true) ∧ w.grownBy w' none := by
  have HM := Lib.hid hm
  have HW := Lib.hid (World.block_lt_of_cell? _ _ hm)
  have HN := Lib.hid hn
  have HN2 := Lib.hid hn2
  have HP1 := Lib.hid hP1
  have HP2 := Lib.hid hP2
  have HLB := Lib.hid hL
  have HHB := Lib.hid hH
  have h2 : decide (8 < (n : Int)) = false := by simp; omega
  have h3 : decide (n2 < n) = false := by simp; omega
  have hn8 : n ≤ 8 := by omega
  have hnn : n ≤ n2 := by omega
  obtain ⟨C, hC⟩ : ∃ C, L.map (· % 8) = C := ⟨_, rfl⟩
  obtain ⟨h0, hh0⟩ : ∃ h0, (H.getD 0 0) % 5 = h0 := ⟨_, rfl⟩
  have HC := Lib.hid hC
  have HH0 := Lib.hid hh0
  clear hm hn hn2 hP1 hP2 hL hH hl hl2 hC hh0
  go_enter Tryd.func7, Tryd.ntmps7
  go_wp2_with fail
  (with_reducible refine (known_any m _ HM.out).mono ?_)
  rintro ee w1 ⟨rfl, g1⟩
  dsimp only
  have G1 := Lib.hid g1
  clear g1
  go_wp2
  go_loopw [5, 6, 7, 8] (fun pv sv i nv wr => ∃ (k : Nat) (pl s : ByteArray), k ≤ n ∧ i = .int .i64 k ∧ pv = .string pl ∧ sv = .string s ∧ DotsAt C h0 pl s k ∧ w.grownBy wr none) (fun _ _ i _ _ => n - (intOf i).toNat)
  case atStart => exact ⟨0, ⟨#[]⟩, ⟨#[]⟩, by omega, rfl, rfl, rfl, DotsAt.start C h0, G1.out⟩
  case round =>
    obtain ⟨k, pl, s, hk, rfl, rfl, rfl, hat, hg⟩ := hrel
    have q1 := hat.psize
    have q2 := hat.size
    have HAT := Lib.hid hat
    have HG := Lib.hid hg
    clear hat hg
    by_cases hlt : k < n
    · obtain ⟨x, hx⟩ : ∃ x, L[k]? = some x := ⟨_, List.getElem?_eq_getElem (by rw [HN.out]; exact hlt)⟩
      obtain ⟨y, hy⟩ : ∃ y, H[k]? = some y := ⟨_, List.getElem?_eq_getElem (by rw [HN2.out]; omega)⟩
      obtain ⟨b1, o1, hab1, hcell1⟩ : ∃ bk o, a1 = some ⟨bk, o, none⟩ ∧ wr.cell? ⟨bk, o + k, none⟩ = some (.int .u8 x) := by
        obtain ⟨bk, o, h1, h3⟩ := HP1.out
        exact ⟨bk, o, h1 (by rw [HN.out]; omega), HG.out.cell (h3 k x hx) (by simp)⟩
      obtain ⟨b2, o2, hab2, hcell2⟩ : ∃ bk o, a2 = some ⟨bk, o, none⟩ ∧ wr.cell? ⟨bk, o + k, none⟩ = some (.int .u8 y) := by
        obtain ⟨bk, o, h1, h3⟩ := HP2.out
        exact ⟨bk, o, h1 (by rw [HN2.out]; omega), HG.out.cell (h3 k y hy) (by simp)⟩
      subst hab1 hab2
      have hx255 := HLB.out x (List.mem_of_getElem? hx)
      have hy255 := HHB.out y (List.mem_of_getElem? hy)
      obtain ⟨c, hc⟩ : ∃ c, x % 8 = c := ⟨_, rfl⟩
      obtain ⟨h, hh⟩ : ∃ h, y % 5 = h := ⟨_, rfl⟩
      have hc8 : c < 8 := by omega
      have hh5 : h < 5 := by omega
      have e1 : (x : Int) % 8 = (c : Int) := by omega
      have e2 : (y : Int) % 5 = (h : Int) := by omega
      have HCk := Lib.hid (show C[k]? = some c by rw [← HC.out, List.getElem?_map, hx, ← hc]; rfl)
      have HHY := Lib.hid hh
      have HY := Lib.hid hy
      clear hx hy hc hh
      have hsay : (sayB h).size ≤ 10 := by
        have H : ∀ h : Fin 5, (sayB h.val).size ≤ 10 := by decide +kernel
        exact H ⟨h, hh5⟩
      have hlets := (let_part c hc8).2
      by_cases hk0 : k = 0
      · subst hk0
        rw [Nat.add_zero] at hcell1 hcell2
        have hhh : h = h0 := by
          rw [← HH0.out, ← HHY.out]
          have := HY.out
          rw [List.getD_eq_getElem?_getD, this]; rfl
        have HNX := Lib.hid (show DotsAt C h0 (pl ++ letB c) (s ++ sayB h ++ letB c) 1 by
          have e1 := HAT.out.none rfl
          have e2 := HAT.out.plain
          rw [List.take_zero] at e2
          rw [e1, e2, hhh]
          exact DotsAt.first HCk.out hc8 (by omega))
        clear hhh
        go_wp2
        go_quiet (fail)
        have hcell3 : ((wr.drewN nq).alloc (Obj.cells #[Value.string ⟨#[]⟩, Value.string ⟨#[46, 47]⟩, Value.string ⟨#[47]⟩, Value.string ⟨#[120, 47, 46, 46, 47]⟩, Value.string ⟨#[121, 47, 122, 47, 46, 46, 47, 46, 46, 47]⟩] 9)).cell? ⟨b2, o2, none⟩ = some (.int .u8 (y : Int)) := tab_keeps _ _ _ _ hcell2
        have hcell4 : ((wr.drewN nq).alloc (Obj.cells #[Value.string ⟨#[]⟩, Value.string ⟨#[46, 47]⟩, Value.string ⟨#[47]⟩, Value.string ⟨#[120, 47, 46, 46, 47]⟩, Value.string ⟨#[121, 47, 122, 47, 46, 46, 47, 46, 46, 47]⟩] 9)).cell? ⟨wr.heap.size, h, none⟩ = some (.string (sayB h)) := tab_at wr nq h hh5
        have HG2 : Hid (w.grownBy ((wr.drewN nq).alloc (Obj.cells #[Value.string ⟨#[]⟩, Value.string ⟨#[46, 47]⟩, Value.string ⟨#[47]⟩, Value.string ⟨#[120, 47, 46, 46, 47]⟩, Value.string ⟨#[121, 47, 122, 47, 46, 46, 47, 46, 46, 47]⟩] 9)) none) := by
          have h1 := World.grownBy_alloc (wr.drewN nq) (Obj.cells #[Value.string ⟨#[]⟩, Value.string ⟨#[46, 47]⟩, Value.string ⟨#[47]⟩, Value.string ⟨#[120, 47, 46, 46, 47]⟩, Value.string ⟨#[121, 47, 122, 47, 46, 46, 47, 46, 46, 47]⟩] 9) none
          exact World.grownBy.trans HG.out ⟨h1.os, h1.tape, h1.output, h1.size, h1.block⟩
        rw [show (⟨#[97, 98, 99, 100, 101, 102, 103, 104]⟩ : ByteArray).extract c (c + 1) = letB c from rfl]
        obtain ⟨lb, hlb⟩ : ∃ lb, letB c = lb := ⟨_, rfl⟩
        rw [hlb] at hlets ⊢
        have HLB2 := Lib.hid hlb
        have z1 : s.size + (sayB h).size ≤ 9223372036854775807 := by omega
        have z2 : s.size + (sayB h).size + lb.size ≤ 9223372036854775807 := by omega
        have z3 : pl.size + lb.size ≤ 9223372036854775807 := by omega
        clear hlets hlb
        go_wp2
        go_roundw
        case rel => exact ⟨1, _, _, by omega, rfl, rfl, rfl, by rw [← HLB2.out]; exact HNX.out, HG2.out⟩
        case measure => simp [intOf]; omega
      · have hk1 : 0 < (k : Int) := by omega
        have HNX := Lib.hid (HAT.out.next (h := h) (by omega) HCk.out hc8 hh5)
        clear hk0
        go_wp2
        go_quiet (fail)
        have hcell3 : ((wr.drewN nq).alloc (Obj.cells #[Value.string ⟨#[]⟩, Value.string ⟨#[46, 47]⟩, Value.string ⟨#[47]⟩, Value.string ⟨#[120, 47, 46, 46, 47]⟩, Value.string ⟨#[121, 47, 122, 47, 46, 46, 47, 46, 46, 47]⟩] 9)).cell? ⟨b2, o2 + k, none⟩ = some (.int .u8 (y : Int)) := tab_keeps _ _ _ _ hcell2
        have hcell4 : ((wr.drewN nq).alloc (Obj.cells #[Value.string ⟨#[]⟩, Value.string ⟨#[46, 47]⟩, Value.string ⟨#[47]⟩, Value.string ⟨#[120, 47, 46, 46, 47]⟩, Value.string ⟨#[121, 47, 122, 47, 46, 46, 47, 46, 46, 47]⟩] 9)).cell? ⟨wr.heap.size, h, none⟩ = some (.string (sayB h)) := tab_at wr nq h hh5
        have HG2 : Hid (w.grownBy ((wr.drewN nq).alloc (Obj.cells #[Value.string ⟨#[]⟩, Value.string ⟨#[46, 47]⟩, Value.string ⟨#[47]⟩, Value.string ⟨#[120, 47, 46, 46, 47]⟩, Value.string ⟨#[121, 47, 122, 47, 46, 46, 47, 46, 46, 47]⟩] 9)) none) := by
          have h1 := World.grownBy_alloc (wr.drewN nq) (Obj.cells #[Value.string ⟨#[]⟩, Value.string ⟨#[46, 47]⟩, Value.string ⟨#[47]⟩, Value.string ⟨#[120, 47, 46, 46, 47]⟩, Value.string ⟨#[121, 47, 122, 47, 46, 46, 47, 46, 46, 47]⟩] 9) none
          exact World.grownBy.trans HG.out ⟨h1.os, h1.tape, h1.output, h1.size, h1.block⟩
        rw [show (⟨#[97, 98, 99, 100, 101, 102, 103, 104]⟩ : ByteArray).extract c (c + 1) = letB c from rfl]
        obtain ⟨lb, hlb⟩ : ∃ lb, letB c = lb := ⟨_, rfl⟩
        rw [hlb] at hlets ⊢
        have HLB2 := Lib.hid hlb
        have z0 : s.size + 1 ≤ 9223372036854775807 := by omega
        have z1 : s.size + 1 + (sayB h).size ≤ 9223372036854775807 := by omega
        have z2 : s.size + 1 + (sayB h).size + lb.size ≤ 9223372036854775807 := by omega
        have z4 : pl.size + 1 ≤ 9223372036854775807 := by omega
        have z3 : pl.size + 1 + lb.size ≤ 9223372036854775807 := by omega
        clear hlets hlb
        go_wp2
        go_roundw
        case rel => exact ⟨k + 1, _, _, by omega, by go_num, rfl, rfl, by rw [← HLB2.out]; exact HNX.out, HG2.out⟩
        case measure => simp [intOf]; omega
    · have hkn : k = n := by omega
      have HCn := Lib.hid (show C.length = n by rw [← HC.out, List.length_map, HN.out])
      have hC8 : Hid (∀ c ∈ C, c < 8) := by
        intro c hc
        rw [← HC.out] at hc
        obtain ⟨x, _, rfl⟩ := List.mem_map.1 hc
        exact Nat.mod_lt _ (by omega)
      obtain ⟨A, hA⟩ : ∃ A, C.map letB = A := ⟨_, rfl⟩
      have HAN := Lib.hid (show A.length = n by rw [← hA, List.length_map, HCn.out])
      have HAP := Lib.hid (show ∀ p ∈ A, Part p by rw [← hA]; exact letters_part C hC8.out)
      have HPL := Lib.hid (show pl = joinB A by
        rw [← hA]
        have := HAT.out.plain
        rwa [List.take_of_length_le (by rw [HCn.out, hkn]; exact Nat.le_refl _)] at this)
      have HPS := Lib.hid (show partsS pl = A by rw [HPL.out]; exact parts_join A HAP.out)
      have hpl5 : pl.size ≤ 100000 := by omega
      subst hkn
      clear hA hlt hk
      by_cases hn0 : k = 0
      · have hA0 : A = [] := List.eq_nil_of_length_eq_zero (by rw [HAN.out, hn0])
        have hpl0 : pl = ⟨#[]⟩ := by rw [HPL.out, hA0]; rfl
        have HCL := Lib.hid (HAT.out.clean HCn.out (fun h => absurd hn0 (by omega)) hn8)
        subst hn0 hA0 hpl0
        have HCE := Lib.hid (show cleanS ((⟨#[]⟩ : ByteArray) ++ ⟨#[46, 47]⟩) = (⟨#[]⟩, 0) by decide +kernel)
        clear q1 q2
        go_wp2_with fail
        (with_reducible refine (clean_at m s ⟨#[]⟩ 0 _ (HG.out.cell HM.out (by simp)) HCL.out).mono ?_)
        rintro ee w2 ⟨rfl, g2⟩
        dsimp only
        have G2 := Lib.hid (World.grownBy.trans HG.out g2)
        clear g2
        go_wp2_with fail
        (with_reducible refine (clean_at m _ ⟨#[]⟩ 0 _ (G2.out.cell HM.out (by simp)) HCE.out).mono ?_)
        rintro ee w3 ⟨rfl, g3⟩
        dsimp only
        have G3 := Lib.hid (World.grownBy.trans G2.out g3)
        clear g3
        go_wp2_with fail
        (with_reducible refine (parts_at m ⟨#[]⟩ [] 0 _ hpl5 (G3.out.cell HM.out (by simp)) HPS.out HAN.out).mono ?_)
        rintro ee w5 ⟨a5, rfl, hf5, g5⟩
        dsimp only
        have G5 := Lib.hid (World.grownBy.trans G3.out g5)
        obtain ⟨_, B5, hB5, hp5⟩ := hf5
        have HP5 := Lib.hid hp5
        clear g5 hp5 hB5
        go_wp2_with fail
        (with_reducible refine (refparts_at ⟨#[]⟩ [] 0 hpl5 _ (Nat.lt_of_lt_of_le HW.out G5.out.size) HPS.out HAN.out).mono ?_)
        rintro ee w6 ⟨a6, cap6, rfl, hc1, hc2, hf6, g6⟩
        dsimp only
        have G6 := Lib.hid (World.grownBy.trans G5.out g6)
        have HP6 := Lib.hid (HP5.out.grown g6 (fun k hk => by simp at hk))
        have HF6 := Lib.hid hf6
        clear g6 hf6
        go_wp2_with fail
        (with_reducible refine (same_any B5 _ 0 0 cap6 a5 a6 [] _ HAN.out (by omega) HP6.out HF6.out).mono ?_)
        rintro ee w7 ⟨rfl, g7⟩
        dsimp only
        have G7 := Lib.hid (World.grownBy.trans G6.out g7)
        clear g7
        go_wp2
        go_ret
        exact ⟨by simp, G7.out⟩
      · obtain ⟨y0, hy0⟩ : ∃ y, H[0]? = some y := ⟨_, List.getElem?_eq_getElem (by rw [HN2.out]; omega)⟩
        obtain ⟨b2, o2, hab2, hcell2⟩ : ∃ bk o, a2 = some ⟨bk, o, none⟩ ∧ wr.cell? ⟨bk, o, none⟩ = some (.int .u8 y0) := by
          obtain ⟨bk, o, h1, h3⟩ := HP2.out
          refine ⟨bk, o, h1 (by rw [HN2.out]; omega), ?_⟩
          have := HG.out.cell (h3 0 y0 hy0) (by simp)
          rwa [Nat.add_zero] at this
        subst hab2
        have hy255 := HHB.out y0 (List.mem_of_getElem? hy0)
        have hh5 : h0 < 5 := by rw [← HH0.out]; exact Nat.mod_lt _ (by omega)
        have e2 : (y0 : Int) % 5 = (h0 : Int) := by
          have : y0 % 5 = h0 := by rw [← HH0.out, List.getD_eq_getElem?_getD, hy0]; rfl
          omega
        have hpos : 0 < (k : Int) := by omega
        by_cases h2 : h0 = 2
        · have HCO := Lib.hid (HAT.out.out (by omega) h2 hn8)
          subst h2
          clear hy0 hn0
          go_wp2_with fail
          (with_reducible refine (clean_at m s ⟨#[]⟩ 51 _ (HG.out.cell HM.out (by simp)) HCO.out).mono ?_)
          rintro ee w2 ⟨rfl, g2⟩
          dsimp only
          have G2 := Lib.hid (World.grownBy.trans HG.out g2)
          clear g2
          go_wp2
          go_ret
          exact ⟨rfl, G2.out⟩
        · have HCL := Lib.hid (HAT.out.clean HCn.out (fun _ => h2) hn8)
          have hA0 : A ≠ [] := by
            intro e
            have := HAN.out
            rw [e] at this
            simp at this; omega
          have HCE := Lib.hid (show cleanS (pl ++ ⟨#[47]⟩) = (pl, 0) by
            have h1 := HPL.out
            rw [h1]
            exact plain_slash A HAP.out hA0 (by rw [HAN.out]; omega) (by rw [← h1]; omega))
          have hpe : ¬ pl = ⟨#[]⟩ := by rw [HPL.out]; exact joinB_pos A HAP.out hA0
          have d1 := ne_list pl [] hpe
          have c1 := empty_no pl hpe
          have z1 : pl.size + 1 ≤ 9223372036854775807 := by omega
          have hne : ((h0 : Int) == 2) = false := by simp; omega
          have hne2 : ¬ (h0 : Int) = 2 := by omega
          clear hy0 hn0 h2 hA0 hpe
          go_wp2_with fail
          (with_reducible refine (clean_at m s pl 0 _ (HG.out.cell HM.out (by simp)) HCL.out).mono ?_)
          rintro ee w2 ⟨rfl, g2⟩
          dsimp only
          have G2 := Lib.hid (World.grownBy.trans HG.out g2)
          clear g2
          go_wp2_with fail
          (with_reducible refine (clean_at m _ pl 0 _ (G2.out.cell HM.out (by simp)) HCE.out).mono ?_)
          rintro ee w3 ⟨rfl, g3⟩
          dsimp only
          have G3 := Lib.hid (World.grownBy.trans G2.out g3)
          clear g3
          go_wp2_with fail
          (with_reducible refine (parts_at m pl A k _ hpl5 (G3.out.cell HM.out (by simp)) HPS.out HAN.out).mono ?_)
          rintro ee w5 ⟨a5, rfl, hf5, g5⟩
          dsimp only
          have G5 := Lib.hid (World.grownBy.trans G3.out g5)
          obtain ⟨_, B5, hB5, hp5⟩ := hf5
          have HP5 := Lib.hid hp5
          clear g5 hp5 hB5
          go_wp2_with fail
          (with_reducible refine (refparts_at pl A k hpl5 _ (Nat.lt_of_lt_of_le HW.out G5.out.size) HPS.out HAN.out).mono ?_)
          rintro ee w6 ⟨a6, cap6, rfl, hc1, hc2, hf6, g6⟩
          dsimp only
          have G6 := Lib.hid (World.grownBy.trans G5.out g6)
          have HP6 := Lib.hid (HP5.out.grown g6 (fun k hk => by simp at hk))
          have HF6 := Lib.hid hf6
          clear g6 hf6
          go_wp2_with fail
          (with_reducible refine (same_any B5 _ k k cap6 a5 a6 A _ HAN.out (by omega) HP6.out HF6.out).mono ?_)
          rintro ee w7 ⟨rfl, g7⟩
          dsimp only
          have G7 := Lib.hid (World.grownBy.trans G6.out g7)
          clear g7
          go_wp2
          go_ret
          exact ⟨by simp, G7.out⟩

set_option maxRecDepth 1000000
set_option maxHeartbeats 4000000 in
theorem dots_law (m : Int) (n n2 c1 c2 : Nat) (a1 a2 : Option Addr) (L H : List Nat) (hn : L.length = n) (hn2 : H.length = n2) (w : World) (hP1 : PartU w a1 L) (hP2 : PartU w a2 H) (hL : ∀ x ∈ L, x ≤ 255) (hH : ∀ x ∈ H, x ≤ 255)
    (hm : w.cell? ⟨0, 0, none⟩ = some (.int .i64 m)) :
    Calls Tryd.prog 7 #[.slice a1 n c1, .slice a2 n2 c2] w fun e w' => e = .returned (.bool true) ∧ w.grownBy w' none := by
  have HM := Lib.hid hm
  by_cases hl : 8 < n
  · have h2 : 8 < (n : Int) := by omega
    clear hl hm hP1 hP2 hL hH hn hn2
    go_enter Tryd.func7, Tryd.ntmps7
    go_wp2_with fail
    (with_reducible refine (known_any m _ HM.out).mono ?_)
    rintro ee w1 ⟨rfl, g1⟩
    dsimp only
    go_wp2
    go_ret
    exact ⟨rfl, g1⟩
  · by_cases hl2 : n2 < n
    · have h2 : decide (8 < (n : Int)) = false := by simp; omega
      clear hl hm hP1 hP2 hL hH hn hn2
      go_enter Tryd.func7, Tryd.ntmps7
      go_wp2_with fail
      (with_reducible refine (known_any m _ HM.out).mono ?_)
      rintro ee w1 ⟨rfl, g1⟩
      dsimp only
      go_wp2
      go_ret
      exact ⟨rfl, g1⟩
    · exact dots_loop m n n2 c1 c2 a1 a2 L H hn hn2 w hP1 hP2 hL hH hm hl hl2
end Go.Proofs.YtghfnmnjomdacaaDoor
