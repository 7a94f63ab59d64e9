/- strings.IndexAny in a text of any bytes, of " \t". -/
import Derived.Test.YtmjdkgbblccpgaaDoorSr
import Derived.Lib.TrimU
import Derived.Lib.OthersKept
import Derived.Deep.LoopGhost
namespace Go.Proofs.YtmjdkgbblccpgaaDoor
open Go.RowKit

theorem obj_kept {w w' : World} {b : Nat} {o : Obj} (hb : w.heap[b]? = some o) (hg : w.grownBy w' none) : w'.heap[b]? = some o :=
  (hg.block b (Array.getElem?_eq_some_iff.1 hb).1 (by simp)).trans hb
theorem get_bang (s : ByteArray) (j : Nat) (h : j < s.size) : s.get! j = s[j] := by
  simp [ByteArray.get!, getElem!_pos, h]
  rfl
theorem decode_bytes (s : ByteArray) (pos : Nat) (h : pos < s.size) (ha : 128 ≤ (s[pos]'h).toNat) :
    pos + (Utf8.decode s pos).2 ≤ s.size ∧ ∀ (j : Nat) (hj : j < s.size), pos ≤ j → j < pos + (Utf8.decode s pos).2 → 128 ≤ (s[j]'hj).toNat := by
  have hn : ¬ (s[pos]'h).toNat < 128 := by omega
  have h0 : ∀ (j : Nat) (hj : j < s.size), pos ≤ j → j < pos + 1 → 128 ≤ (s[j]'hj).toNat := by
    intro j hj h1 h2
    obtain rfl : j = pos := by omega
    exact ha
  have hc : ∀ k, (decide (pos + k < s.size) && (s.get! (pos + k)).toNat / 64 == 2) = true → pos + k < s.size ∧ ∀ hj : pos + k < s.size, 128 ≤ (s[pos + k]'hj).toNat := by
    intro k hk
    rw [Bool.and_eq_true, decide_eq_true_eq, beq_iff_eq] at hk
    refine ⟨hk.1, fun hj => ?_⟩
    rw [← get_bang s (pos + k) hj]
    omega
  have h00 : (s.get! (pos + 0)).toNat = (s[pos]'h).toNat := by rw [Nat.add_zero, get_bang s pos h]
  simp only [Utf8.decode, h00, hn, if_false]
  have one : pos + 1 ≤ s.size ∧ ∀ (j : Nat) (hj : j < s.size), pos ≤ j → j < pos + 1 → 128 ≤ (s[j]'hj).toNat := ⟨by omega, h0⟩
  split
  · rename_i hx
    rw [Bool.and_eq_true] at hx
    obtain ⟨a1, b1⟩ := hc 1 hx.2
    split
    · refine ⟨by simp only; omega, fun j hj h1 h2 => ?_⟩
      simp only at h2
      rcases (by omega : j = pos ∨ j = pos + 1) with rfl | rfl
      · exact ha
      · exact b1 hj
    · exact one
  · split
    · rename_i hx
      rw [Bool.and_eq_true, Bool.and_eq_true] at hx
      obtain ⟨a1, b1⟩ := hc 1 hx.1.2
      obtain ⟨a2, b2⟩ := hc 2 hx.2
      split
      · refine ⟨by simp only; omega, fun j hj h1 h2 => ?_⟩
        simp only at h2
        rcases (by omega : j = pos ∨ j = pos + 1 ∨ j = pos + 2) with rfl | rfl | rfl
        · exact ha
        · exact b1 hj
        · exact b2 hj
      · exact one
    · split
      · rename_i hx
        rw [Bool.and_eq_true, Bool.and_eq_true, Bool.and_eq_true] at hx
        obtain ⟨a1, b1⟩ := hc 1 hx.1.1.2
        obtain ⟨a2, b2⟩ := hc 2 hx.1.2
        obtain ⟨a3, b3⟩ := hc 3 hx.2
        split
        · refine ⟨by simp only; omega, fun j hj h1 h2 => ?_⟩
          simp only at h2
          rcases (by omega : j = pos ∨ j = pos + 1 ∨ j = pos + 2 ∨ j = pos + 3) with rfl | rfl | rfl | rfl
          · exact ha
          · exact b1 hj
          · exact b2 hj
          · exact b3 hj
        · exact one
      · exact one
theorem noAny_more {s : ByteArray} {i k : Nat} (h : Lib.NoAny s.data.toList [32, 9] i) (hk : ∀ (j : Nat) (hj : j < s.size), i ≤ j → j < k → 128 ≤ (s[j]'hj).toNat) : Lib.NoAny s.data.toList [32, 9] k := by
  intro j b hj hb
  by_cases hji : j < i
  · exact h j b hji hb
  · have hjs : j < s.size := by have := (List.getElem?_eq_some_iff.1 hb).1; rw [data_len] at this; exact this
    have h1 := hk j hjs (by omega) hj
    have h2 : s[j] = b := by
      rw [List.getElem?_eq_getElem (by rw [data_len]; exact hjs)] at hb
      exact Option.some.inj hb
    rw [h2] at h1
    have e1 : b ≠ 32 := by rintro rfl; exact absurd h1 (by decide)
    have e2 : b ≠ 9 := by rintro rfl; exact absurd h1 (by decide)
    simp [e1, e2]

set_option maxRecDepth 1000000
set_option maxHeartbeats 4000000 in
theorem any_short (s : ByteArray) (w : World) (h8 : s.size ≤ 8) :
    Calls Tryd.prog 19 #[.string s, .string ⟨#[32, 9]⟩] w fun e w' => e = .returned (.int .i64 (Lib.indexAny s.data.toList [32, 9])) ∧ w.grownBy w' none := by
  have h8z : decide ((8 : Int) < (s.size : Int)) = false := decide_eq_false (by omega)
  go_enter Tryd.func19, Tryd.ntmps19
  go_wp2_with fail
  (with_reducible refine (Tryd.strings_shouldUseASCIISet _ _).mono ?_)
  rintro ee w1 ⟨rfl, hw1⟩
  rw [hw1, h8z]
  clear hw1 w1
  dsimp only
  go_wp2_with fail
  go_loopg [9, 10] s.size (fun g _ _ wx => ∃ i : Nat, i ≤ s.size ∧ s.size ≤ i + g ∧ wx.heap[w.heap.size]? = some (.stringIter s i) ∧ Hid (Below w.heap.size w wx) ∧ Hid (Lib.NoAny s.data.toList [32, 9] i))
  case atStart =>
    exact ⟨0, Nat.zero_le _, by omega, by simpa using World.iter_heap w s 0, (Below.refl _ w).alloc (Nat.le_refl _) _, Lib.NoAny.zero _ _⟩
  case round =>
    obtain ⟨i, hi, hig, hit, hB, hN⟩ := hrel
    by_cases hlt : i < s.size
    · have hnx : ∀ ty, (Instr.next (.pointer (some ⟨w.heap.size, 0, none⟩)) true ty).run Tryd.prog wr = _ := fun ty => Lib.run_next_any_at wr w.heap.size s i ty hit hlt
      have hit2 := Lib.iterAt_heap wr w.heap.size s i (i + (Utf8.decode s i).2) hit
      have HB2 := Lib.hid (Lib.below_iterAt hB.out (k := w.heap.size) (Nat.le_refl _) s (i + (Utf8.decode s i).2))
      obtain ⟨g, rfl⟩ : ∃ g, gk = g + 1 := ⟨gk - 1, by omega⟩
      obtain ⟨x, hx⟩ : ∃ x, s[i] = x := ⟨_, rfl⟩
      have hxl : s.data.toList[i]? = some x := by rw [List.getElem?_eq_getElem (by rw [data_len]; exact hlt), ← hx]; rfl
      have HXL := Lib.hid hxl
      clear hxl
      by_cases h128 : x.toNat < 128
      · have hd := decode_ascii s i hlt (by rw [hx]; exact h128)
        rw [hx] at hd
        rw [hd] at hnx hit2 HB2
        clear hd hx
        have hback : ((x.toNat : Int)).toNat.toUInt8 = x := by simp
        have hcon := Lib.contains_iff_indexByte [32, 9] x
        obtain ⟨n, hn⟩ : ∃ n, Lib.indexByte [32, 9] x = n := ⟨_, rfl⟩
        obtain ⟨c, hc⟩ : ∃ c, ([32, 9] : List UInt8).contains x = c := ⟨_, rfl⟩
        rw [hn, hc] at hcon
        have HC := Lib.hid hc
        have HN := Lib.hid (show (Lib.indexByte (⟨#[32, 9]⟩ : ByteArray).data.toList ((x.toNat : Int)).toNat.toUInt8) = n by rw [hback]; exact hn)
        clear hc hn hback
        have x0 : (0 : Int) ≤ x.toNat := by omega
        have x1 : (x.toNat : Int) < 128 := by omega
        obtain ⟨w2, hw2⟩ : ∃ w2, wr.iterAt w.heap.size s (i + 1) = w2 := ⟨_, rfl⟩
        rw [hw2] at hnx hit2 HB2
        clear hw2 hit
        go_wp2_with fail
        (with_reducible refine (Tryd.strings_IndexRune_ascii _ _ _ x0 x1).mono ?_)
        rintro ee w3 ⟨rfl, hw3⟩
        rw [hw3, HN.out]
        clear hw3 w3
        dsimp only
        cases c with
        | true =>
          have hge := of_decide_eq_true hcon.symm
          clear hcon
          go_wp2
          go_ret
          exact ⟨by rw [Lib.indexAny_hit hN.out HXL.out HC.out]; rfl, grown_of_below HB2.out⟩
        | false =>
          have hge : decide (0 ≤ n) = false := hcon.symm
          clear hcon
          go_wp2
          go_roundg g
          case measure => omega
          case rel => exact ⟨i + 1, by omega, by omega, hit2, HB2.out, hN.out.succ HXL.out HC.out⟩
      · have hh := decode_high s i hlt (by rw [hx]; omega)
        have hb := decode_bytes s i hlt (by rw [hx]; omega)
        have hle := Lib.rune_le s i
        obtain ⟨r, hr⟩ : ∃ r, (Utf8.decode s i).1 = r := ⟨_, rfl⟩
        obtain ⟨q, hq⟩ : ∃ q, i + (Utf8.decode s i).2 = q := ⟨_, rfl⟩
        rw [hr] at hnx hh hle
        rw [hq] at hnx hit2 HB2 hb
        have hiq : i < q := by omega
        have hqs := hb.1
        have HN2 : Hid (Lib.NoAny s.data.toList [32, 9] q) := noAny_more hN.out fun j hj h1 h2 => hb.2 j hj h1 h2
        have h129 := hh.1
        obtain ⟨w2, hw2⟩ : ∃ w2, wr.iterAt w.heap.size s q = w2 := ⟨_, rfl⟩
        rw [hw2] at hnx hit2 HB2
        have HIT := Lib.hid hit2
        clear hw2 hit hb hh hr hq hx h128 hit2 HXL
        have HCALL : Hid (∀ w, Calls Tryd.prog 36 #[.string ⟨#[32, 9]⟩, .int .i32 r] w fun e w' => e = .returned (.int .i64 (-1)) ∧ w.grownBy w' none) := by
          intro w
          by_cases h : r = 65533
          · subst h; exact rune_error w
          · exact rune_high r w h129 hle h
        go_wp2_with fail
        (with_reducible refine (HCALL.out _).mono ?_)
        rintro ee w3 ⟨rfl, hg⟩
        have HG := Lib.hid hg
        clear hg
        dsimp only
        go_wp2
        go_roundg g
        case measure => omega
        case rel => exact ⟨q, hqs, by omega, obj_kept HIT.out HG.out, HB2.out.trans ((below_of_grown HG.out).mono HB2.out.size), HN2.out⟩
    · have his : i = s.size := by omega
      have hnx : ∀ ty, (Instr.next (.pointer (some ⟨w.heap.size, 0, none⟩)) true ty).run Tryd.prog wr = _ := fun ty => Lib.run_next_end_at wr w.heap.size s i ty hit hlt
      subst his
      go_wp2
      go_ret
      exact ⟨by rw [Lib.indexAny_none (by rw [data_len]; exact hN.out)]; rfl, grown_of_below hB.out⟩
theorem zero_set (w : World) : (zeroValue 68).run Tryd.prog w = .ok (.agg (Array.replicate 256 (.bool false))) w := by kernel_rfl
theorem any_blank (s : ByteArray) (w : World) (hs : s.size ≤ 1000000000) :
    Calls Tryd.prog 19 #[.string s, .string ⟨#[32, 9]⟩] w fun e w' => e = .returned (.int .i64 (Lib.indexAny s.data.toList [32, 9])) ∧ w.grownBy w' none := by
  by_cases h8 : s.size ≤ 8
  · exact any_short s w h8
  · refine (Tryd.strings_IndexAny_long zero_set s ⟨#[32, 9]⟩ w (by decide) (by omega) (by omega) (by decide) (fun j b hj => ?_)).mono fun e w' h => ⟨h.1, ?_⟩
    · match j with
      | 0 => obtain rfl := Option.some.inj hj; decide
      | 1 => obtain rfl := Option.some.inj hj; decide
      | j + 2 => cases hj
    · rw [h.2]; exact grown_alloc _ (World.grownBy_alloc _ _ _)
end Go.Proofs.YtmjdkgbblccpgaaDoor
