/- script.quoted. -/
import Derived.Test.YtmjdkgbblccpgaaDoorTl
namespace Go.Proofs.YtmjdkgbblccpgaaDoor
open Go.RowKit

def escC (c : UInt8) : List UInt8 := if c = 34 ∨ c = 92 then [92, c] else if c = 10 then [92, 110] else [c]
def escL (l : List UInt8) : List UInt8 := l.flatMap escC
theorem escL_snoc (l : List UInt8) (c : UInt8) : escL (l ++ [c]) = escL l ++ escC c := by simp [escL]
theorem escL_len (l : List UInt8) : (escL l).length ≤ 2 * l.length := by
  induction l with
  | nil => simp [escL]
  | cons a r ih =>
    have e : escL (a :: r) = escC a ++ escL r := rfl
    have : (escC a).length ≤ 2 := by
      unfold escC
      split
      · simp
      · split <;> simp
    rw [e, List.length_append, List.length_cons]
    omega
def quotedL (l : List UInt8) : List UInt8 := 34 :: (escL l ++ [34])
theorem n92 : (92 : Int) = ((92 : UInt8).toNat : Int) := rfl
theorem n34 : (34 : Int) = ((34 : UInt8).toNat : Int) := rfl
def QuotedRet (s : ByteArray) (w : World) (e : Ending) (w' : World) : Prop := e = .returned (.string (toB (quotedL s.data.toList))) ∧ w.grownBy w' none
theorem wr_string (B b : Nat) (acc : List UInt8) (x : List UInt8) (s : ByteArray) (hx : s = toB x) (w : World) (h : Hid (Lib.IsBuilder 58 5 B b (Lib.byteCells acc) w)) (hlen : acc.length + x.length ≤ 140737488355328) (hB : Hid (B ≤ w.heap.size)) :
    Calls Tryd.prog 28 #[.pointer (some ⟨b, 0, none⟩), .string s] w fun e w' => e = .returned (.tuple #[.int .i64 s.size, .nilIface]) ∧ Hid (Lib.IsBuilder 58 5 B b (Lib.byteCells (acc ++ x)) w') ∧ Hid (Below B w w') := by
  subst hx
  refine (Tryd.Builder_WriteString B b (Lib.byteCells acc) (toB x) w h.out (by rw [Lib.byteCells_length, ← data_len, data_toB]; exact hlen) hB.out).mono fun e w' ⟨h1, h2, h3⟩ => ⟨h1, ?_, h3⟩
  show Lib.IsBuilder _ _ _ _ _ _
  rw [Lib.byteCells_append]
  exact Or.inr h2
theorem wr_byte (B b : Nat) (acc : List UInt8) (c : UInt8) (n : Int) (hn : n = (c.toNat : Int)) (w : World) (h : Hid (Lib.IsBuilder 58 5 B b (Lib.byteCells acc) w)) (hlen : acc.length + 1 ≤ 140737488355328) (hB : Hid (B ≤ w.heap.size)) :
    Calls Tryd.prog 42 #[.pointer (some ⟨b, 0, none⟩), .int .u8 n] w fun e w' => e = .returned .nilIface ∧ Hid (Lib.IsBuilder 58 5 B b (Lib.byteCells (acc ++ [c])) w') ∧ Hid (Below B w w') := by
  subst hn
  refine (Tryd.Builder_WriteByte B b (Lib.byteCells acc) c.toNat w h.out (by rw [Lib.byteCells_length]; exact hlen) hB.out).mono fun e w' ⟨h1, h2, h3⟩ => ⟨h1, ?_, h3⟩
  show Lib.IsBuilder _ _ _ _ _ _
  rw [Lib.byteCells_append]
  exact Or.inr h2
theorem below_size {B : Nat} {w w' : World} (h : Hid (Below B w w')) (hB : Hid (B ≤ w.heap.size)) : Hid (B ≤ w'.heap.size) := Nat.le_trans hB.out h.out.size

set_option maxRecDepth 1000000
set_option maxHeartbeats 4000000 in
theorem quoted_any (s : ByteArray) (w : World) (hs : s.size ≤ 1000000000) : Calls Tryd.prog 56 #[.string s] w (QuotedRet s w) := by
  go_enter Tryd.func56, Tryd.ntmps56
  go_wp2_with fail
  have HB0 : Hid (Below w.heap.size w (w.alloc (.cells #[.pointer none, .slice none 0 0] 58))) := (Below.refl _ w).alloc (Nat.le_refl _) _
  have HI0 : Hid (Lib.IsBuilder 58 5 w.heap.size w.heap.size (Lib.byteCells []) (w.alloc (.cells #[.pointer none, .slice none 0 0] 58))) := Lib.fresh_isBuilder _ _ w
  have HS0 := below_size HB0 (Lib.hid (Nat.le_refl _))
  (with_reducible refine (wr_string w.heap.size w.heap.size [] [34] ⟨#[34]⟩ rfl _ HI0 (by decide) HS0).mono ?_)
  rintro ee w1 ⟨rfl, HI1, hb1⟩
  have HB1 := Lib.hid (HB0.out.trans hb1.out)
  have HS1 := below_size hb1 HS0
  clear HB0 HI0 HS0 hb1
  dsimp only
  go_wp2_with fail
  go_loopw [9] (fun i wr => ∃ k : Nat, k ≤ s.size ∧ i = .int .i64 k ∧ Hid (Lib.IsBuilder 58 5 w.heap.size w.heap.size (Lib.byteCells (34 :: escL (s.data.toList.take k))) wr) ∧ Hid (Below w.heap.size w wr)) (fun i _ => s.size - (intOf i).toNat)
  case atStart => exact ⟨0, by omega, rfl, by simpa [escL] using HI1, HB1⟩
  case round =>
    obtain ⟨k, hk, rfl, hI, hB⟩ := hrel
    have hS : Hid (w.heap.size ≤ wr.heap.size) := hB.out.size
    by_cases hlt : k < s.size
    · obtain ⟨c, hc⟩ : ∃ c, s[k] = c := ⟨_, rfl⟩
      have hc9 := c.toNat_lt
      have hal : (34 :: escL (s.data.toList.take k)).length ≤ 2 * k + 1 := by
        have := escL_len (s.data.toList.take k)
        rw [List.length_take, data_len] at this
        rw [List.length_cons]
        omega
      have HN : Hid (34 :: escL (s.data.toList.take (k + 1)) = 34 :: escL (s.data.toList.take k) ++ escC c) := Lib.hid (by
        rw [take_snocB s k hlt, escL_snoc, byteAt_eq s k hlt, hc]; rfl)
      obtain ⟨acc, hacc⟩ : ∃ acc, 34 :: escL (s.data.toList.take k) = acc := ⟨_, rfl⟩
      rw [hacc] at hI HN hal
      have HA := Lib.hid hal
      clear hacc hal
      by_cases h34 : c = 34 ∨ c = 92
      · have HE : Hid (escC c = [92, c]) := Lib.hid (by unfold escC; rw [if_pos h34])
        have hcs : (c = 34) ∨ (c ≠ 34 ∧ c = 92) := by
          rcases h34 with h | h
          · exact .inl h
          · exact .inr ⟨by rw [h]; decide, h⟩
        clear h34
        rcases hcs with rfl | ⟨h34, rfl⟩
        · clear hc9
          go_wp2_with fail
          (with_reducible refine (wr_byte w.heap.size w.heap.size acc 92 _ n92 _ hI (by have := HA.out; omega) hS).mono ?_)
          rintro ee w2 ⟨rfl, HI2, hb2⟩
          have HS2 := below_size hb2 hS
          dsimp only
          go_wp2_with fail
          (with_reducible refine (wr_byte w.heap.size w.heap.size (acc ++ [92]) 34 _ n34 _ HI2 (by (rw [List.length_append]); have := HA.out; simp; omega) HS2).mono ?_)
          rintro ee w3 ⟨rfl, HI3, hb3⟩
          have HB3 := Lib.hid ((hB.out.trans hb2.out).trans hb3.out)
          clear hb2 hb3 HI2
          dsimp only
          go_wp2
          go_roundw
          case rel => exact ⟨k + 1, by omega, by go_num, by rw [HN.out, HE.out]; simpa using HI3, HB3⟩
          case measure => simp [intOf]; omega
        · clear hc9
          go_wp2_with fail
          (with_reducible refine (wr_byte w.heap.size w.heap.size acc 92 _ n92 _ hI (by have := HA.out; omega) hS).mono ?_)
          rintro ee w2 ⟨rfl, HI2, hb2⟩
          have HS2 := below_size hb2 hS
          dsimp only
          go_wp2_with fail
          (with_reducible refine (wr_byte w.heap.size w.heap.size (acc ++ [92]) 92 _ n92 _ HI2 (by (rw [List.length_append]); have := HA.out; simp; omega) HS2).mono ?_)
          rintro ee w3 ⟨rfl, HI3, hb3⟩
          have HB3 := Lib.hid ((hB.out.trans hb2.out).trans hb3.out)
          clear hb2 hb3 HI2
          dsimp only
          go_wp2
          go_roundw
          case rel => exact ⟨k + 1, by omega, by go_num, by rw [HN.out, HE.out]; simpa using HI3, HB3⟩
          case measure => simp [intOf]; omega
      · have n1 : ((c.toNat : Int) == 34) = false := u8_ne c 34 (fun e => h34 (.inl e))
        have n2 : ((c.toNat : Int) == 92) = false := u8_ne c 92 (fun e => h34 (.inr e))
        by_cases h10 : c = 10
        · have HE : Hid (escC c = [92, 110]) := Lib.hid (by unfold escC; rw [if_neg h34, if_pos h10])
          subst h10
          clear h34 n1 n2 hc9
          go_wp2_with fail
          (with_reducible refine (wr_string w.heap.size w.heap.size acc [92, 110] ⟨#[92, 110]⟩ rfl _ hI (by have := HA.out; simp; omega) hS).mono ?_)
          rintro ee w2 ⟨rfl, HI2, hb2⟩
          have HB2 := Lib.hid (hB.out.trans hb2.out)
          dsimp only
          go_wp2
          go_roundw
          case rel => exact ⟨k + 1, by omega, by go_num, by rw [HN.out, HE.out]; exact HI2, HB2⟩
          case measure => simp [intOf]; omega
        · have n3 : ((c.toNat : Int) == 10) = false := u8_ne c 10 h10
          have HE : Hid (escC c = [c]) := Lib.hid (by unfold escC; rw [if_neg h34, if_neg h10])
          clear h34 h10
          go_wp2_with fail
          (with_reducible refine (wr_byte w.heap.size w.heap.size acc c _ rfl _ hI (by have := HA.out; omega) hS).mono ?_)
          rintro ee w2 ⟨rfl, HI2, hb2⟩
          have HB2 := Lib.hid (hB.out.trans hb2.out)
          dsimp only
          go_wp2
          go_roundw
          case rel => exact ⟨k + 1, by omega, by go_num, by rw [HN.out, HE.out]; exact HI2, HB2⟩
          case measure => simp [intOf]; omega
    · have hk2 : k = s.size := by omega
      subst hk2
      have HT : Hid (s.data.toList.take s.size = s.data.toList) := Lib.hid (by rw [← data_len, List.take_length])
      rw [HT.out] at hI
      have hal : (34 :: escL s.data.toList).length ≤ 2 * s.size + 1 := by
        have := escL_len s.data.toList
        rw [data_len] at this
        rw [List.length_cons]
        omega
      go_wp2_with fail
      (with_reducible refine (wr_string w.heap.size w.heap.size _ [34] ⟨#[34]⟩ rfl _ hI (by simp only [List.length_cons, List.length_nil] at hal ⊢; omega) hS).mono ?_)
      rintro ee w2 ⟨rfl, HI2, hb2⟩
      have HS2 := below_size hb2 hS
      have HB2 := Lib.hid (hB.out.trans hb2.out)
      clear hb2
      dsimp only
      go_wp2_with fail
      (with_reducible refine (Tryd.Builder_String_any w.heap.size w.heap.size _ _ HI2.out HS2.out).mono ?_)
      rintro ee w3 ⟨rfl, hb⟩
      have HB3 := Lib.hid (HB2.out.trans hb)
      clear hb
      dsimp only
      go_wp2
      go_ret
      exact ⟨rfl, grown_of_below HB3.out⟩
end Go.Proofs.YtmjdkgbblccpgaaDoor
