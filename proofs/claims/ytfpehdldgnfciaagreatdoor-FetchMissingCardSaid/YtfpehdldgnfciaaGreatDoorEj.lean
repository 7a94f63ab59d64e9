/- The law FetchMissing: of what the registry lacks a fetch fails with number 76, said so. -/
import Derived.Test.YtfpehdldgnfciaaGreatDoorEi
namespace Go.Proofs.YtfpehdldgnfciaaGreatDoor
open Go.RowKit

set_option maxRecDepth 1000000
theorem cell_ltM {w : World} {b o : Nat} {v : Value} (h : w.cell? ⟨b, o, none⟩ = some v) : b < w.heap.size := by
  rcases Nat.lt_or_ge b w.heap.size with h1 | h1
  · exact h1
  · have e : w.cell? ⟨b, o, none⟩ = none := by simp [World.cell?, Array.getElem?_eq_none h1]
    rw [e] at h; cases h
/-- What the law's loop keeps: k pieces came; m bytes are there. -/
structure MR (w : World) (L : List UInt8) (N F base : Nat) (ab : Option Addr) (cb k m cm : Nat) (am : Option Addr) (wr : World) : Prop where
  g : w.grownBy wr none
  f : Fet wr F (keyV L) (N : Int) (.slice am m cm) 0 0 false false
  o : Owns wr base (.slice am m cm) (L.take m)
  p : Part wr base (.slice ab N cb) L
  wb : w.heap.size ≤ base
  bF : base ≤ F
  km : m = 64 * k
theorem MR.next {w wr W7 : World} {L : List UInt8} {N F base cb k m cm b o : Nat} {am : Option Addr} (h : MR w L N F base (some ⟨b, o, none⟩) cb k m cm am wr) (hL : L.length = N) (hN : 200 ≤ N) (hN2 : N ≤ 1000) (hk : k < 2) (g7 : wr.grownBy W7 none) :
    Calls Tryz.prog 9 #[.pointer (some ⟨F, 0, none⟩), .agg #[.int .i64 0, .slice (some ⟨b, o + m, none⟩) 64 (cb - m)]] W7 fun e w' => e = .returned .nilIface ∧ ∃ m8 c8 a8, MR w L N F base (some ⟨b, o, none⟩) cb (k + 1) m8 c8 a8 w' := by
  have hkm := h.km
  have hP := (h.p.stays g7).sub hL m 64 (by omega) (by omega)
  have hl : ((L.drop m).take 64).length = 64 := by rw [List.length_take, List.length_drop]; omega
  have hl2 : (L.take m).length = m := by rw [List.length_take]; omega
  refine (take_more F base base N m cm 64 (cb - m) 64 am _ (keyV L) 0 0 (L.take m) ((L.drop m).take 64) W7 (h.f.stays g7) (h.o.stays g7) hl2 hP hl (by omega) (by omega) (by omega) (Nat.le_refl _) h.bF (by omega)).mono fun e w' ⟨h1, h2⟩ => ⟨h1, ?_⟩
  obtain ⟨⟨a8, c8, f8, o8⟩, b8, u8⟩ := h2
  have e8 : L.take m ++ ((L.drop m).take 64).take 64 = L.take (m + 64) := by rw [List.take_take, Nat.min_self]; exact List.take_add.symm
  rw [e8] at f8 o8
  have hl3 : (L.take (m + 64)).length = m + 64 := by rw [List.length_take]; omega
  rw [hl3] at f8 o8
  exact ⟨m + 64, c8, a8, u8.grown (World.grownBy.trans h.g g7) (below_le b8 h.wb), f8, o8, (h.p.stays g7).below b8 (Nat.le_refl _), h.wb, h.bF, by omega⟩
theorem told_missing : toB (toldL [(⟨#[102, 101, 116, 99, 104]⟩, ⟨#[97]⟩)] (errT 76)) = ⟨#[102, 101, 116, 99, 104, 32, 97, 58, 32, 101, 114, 114, 32, 55, 54]⟩ := by decide +kernel
set_option maxHeartbeats 16000000 in
theorem missing_in (x y N A : Nat) (w : World) (hx : x % 300 + 200 = N) (hy : y % 3 = A) (hx2 : x < 65536) (hy2 : y < 256) (hT : Tab w) (hE : ErrVar w) :
    Calls Tryz.prog 3 #[.int .u16 x, .int .u8 y] w fun e w' => e = .returned (.bool true) ∧ w.grownBy w' none := by
  have HT := Lib.hid hT
  have HE := Lib.hid hE
  have hN : 200 ≤ N ∧ N ≤ 500 := by omega
  have hA : A ≤ 2 := by omega
  obtain ⟨L, hLL⟩ : ∃ L, madeL N = L := ⟨_, rfl⟩
  have HL : Hid (L.length = N) := by show _ = _; rw [← hLL, madeL_len]
  have HLL := Lib.hid hLL
  have hk := keyV_size L
  obtain ⟨RC, hRC⟩ : ∃ RC, rowC (keyV L) N = RC := ⟨_, rfl⟩
  have HRO : Hid (∀ (a : Option Addr) (c : Nat) (W : World), Part W W.heap.size (.slice a N c) L → Calls Tryz.prog 7 #[.slice a N c, .int .u8 0] W fun e w' => e = .returned (.agg RC) ∧ W.grownBy w' none) := fun a c W hP => by
    rw [← hRC]; exact row_any N c W.heap.size a L W HL.out (by omega) hP (Nat.le_refl _)
  have HNE : Hid (∀ W, w.grownBy W none → Calls Tryz.prog 6 #[.agg RC] W (NewRet W (keyV L) N)) := fun W hW => by rw [← hRC]; exact new_at L N HL.out (by omega) W (HT.out.stays hW)
  clear hT hE hLL hk hRC
  go_enter Tryz.func3, Tryz.ntmps3
  go_wp2_with fail
  (with_reducible refine (known_any w HT.out).mono ?_)
  rintro ee w1 ⟨rfl, g1⟩
  dsimp only
  have G1 := Lib.hid g1
  clear g1
  go_wp2_with fail
  have xm : (x : Int) % 300 + 200 = (N : Int) := by omega
  rw [xm]
  (with_reducible refine (made_any N (by omega) w1).mono ?_)
  rintro ee w2 ⟨ab, cb, rfl, g2, p2⟩
  dsimp only
  rw [HLL.out] at p2
  have G2 := Lib.hid (World.grownBy.trans G1.out g2)
  have P2 := Lib.hid p2
  clear g2 p2 xm
  go_wp2_with fail
  (with_reducible refine (HRO.out ab cb w2 P2.out).mono ?_)
  rintro ee w3 ⟨rfl, g3⟩
  dsimp only
  have G3 := Lib.hid (World.grownBy.trans G2.out g3)
  have P3 := Lib.hid (P2.out.stays g3)
  have S3 := Lib.hid g3.size
  clear g3
  go_wp2_with fail
  (with_reducible refine (HNE.out _ G3.out).mono ?_)
  rintro ee w4 ⟨F, rfl, hF, g4, hf⟩
  dsimp only
  rw [show decide (N = 0) = false by simp; omega] at hf
  obtain ⟨b1, o1, rfl, hcb⟩ := P3.out.addr HL.out (by omega)
  have HLR0 : Hid (MR w L N F w2.heap.size (some ⟨b1, o1, none⟩) cb 0 0 0 none w4) :=
    ⟨World.grownBy.trans G3.out g4, hf, Owns.nil _ _, P3.out.stays g4, G2.out.size, Nat.le_trans S3.out hF, rfl⟩
  clear hF g4 hf
  have ym : (y : Int) % 3 = (A : Int) := by omega
  have yl : (y : Int) < 256 := by omega
  go_wp2_with fail
  go_loopw [7] (fun i wr => ∃ (k m cm : Nat) (am : Option Addr), i = .int .i64 k ∧ k ≤ A ∧ MR w L N F w2.heap.size (some ⟨b1, o1, none⟩) cb k m cm am wr) (fun i _ => A - (intOf i).toNat)
  case atStart => exact ⟨0, 0, 0, none, rfl, by omega, HLR0.out⟩
  case round =>
    obtain ⟨k, m, cm, am, rfl, hkA, hlr⟩ := hrel
    have HR := Lib.hid hlr
    have hm64 := hlr.km
    subst hm64
    clear hlr HLR0
    by_cases hlt : k < A
    · have t1 : decide ((k : Int) < (A : Int)) = true := by simp; omega
      have t2 : decide (k < A) = true := by simp; omega
      have kkI : (k : Int) < (A : Int) := by omega
      have HAK := Lib.hid (ask_any F N (64 * k) cm 64 (keyV L) am 0 0 wr HR.out.f (by omega) (by omega) (by omega))
      go_wp2_with fail
      (with_reducible refine HAK.out.mono ?_)
      rintro ee w5 ⟨rfl, g5⟩
      dsimp only
      have hm1 : 64 * (k : Int) ≤ 64 := by omega
      have hmN : 64 * k + 64 ≤ N := by omega
      have hcN : N ≤ cb := hcb
      go_wp2_with fail
      obtain ⟨W7, hW7⟩ : ∃ W7, w5.alloc (.cells #[.string ⟨#[97]⟩, .int .i64 1, .int .i64 0, .int .i64 0, .slice none 0 0, .int .i64 (64 * (k : Int)), .int .i64 64] 38) = W7 := ⟨_, rfl⟩
      have q7 : wr.grownBy W7 none := by rw [← hW7]; exact grown_alloc _ g5
      have HTK := Lib.hid (HR.out.next HL.out (by omega) (by omega) (by omega) q7)
      rw [hW7]
      clear hW7 q7
      (with_reducible refine HTK.out.mono ?_)
      rintro ee w8 ⟨rfl, m8, c8, a8, r8⟩
      dsimp only
      have R8 := Lib.hid r8
      clear r8 HTK
      go_wp2
      go_roundw
      case rel => exact ⟨k + 1, m8, c8, a8, by go_num, by omega, R8.out⟩
      case measure => simp [intOf]; omega
    · have t1 : decide ((k : Int) < (A : Int)) = false := by simp; omega
      have t2 : decide (k < A) = false := by simp; omega
      have kkI : ¬ (k : Int) < (A : Int) := by omega
      have HTN := Lib.hid (take_none F (keyV L) N (.slice am (64 * k) cm) 0 0 wr HR.out.f)
      go_wp2_with fail
      (with_reducible refine HTN.out.mono ?_)
      rintro ee w6 ⟨w5, g5, hfl⟩
      obtain ⟨⟨v, hv, hc⟩, hf, ⟨w55, g55, g56⟩⟩ := hfl
      subst hv
      dsimp only
      have G6 := Lib.hid (World.grownBy.trans (grown_new (World.grownBy.trans HR.out.g g5) g55 (Nat.le_trans HR.out.wb HR.out.bF)) g56)
      have HC := Lib.hid hc
      have HF6 := Lib.hid hf
      have HAF := Lib.hid (ask_failed F (keyV L) N (.slice am (64 * k) cm) 0 0 false w6 hf)
      clear g5 hc hf g55 g56
      go_wp2_with fail
      (with_reducible refine HAF.out.mono ?_)
      rintro ee w7 ⟨rfl, g7⟩
      dsimp only
      have q7 : w6.grownBy (w7.alloc (.cells #[.string ⟨#[]⟩, .int .i64 0, .int .i64 0, .int .i64 0, .slice none 0 0, .int .i64 0, .int .i64 0] 38)) none := grown_alloc _ g7
      have Q7 := Lib.hid q7
      clear g7
      go_wp2_with fail
      obtain ⟨W8, hW8⟩ : ∃ W8, w7.alloc (.cells #[.string ⟨#[]⟩, .int .i64 0, .int .i64 0, .int .i64 0, .slice none 0 0, .int .i64 0, .int .i64 0] 38) = W8 := ⟨_, rfl⟩
      rw [hW8] at q7 Q7 ⊢
      clear hW8
      (with_reducible refine (done_no F (keyV L) N (.slice am (64 * k) cm) 0 0 true W8 (HF6.out.stays q7)).mono ?_)
      rintro ee w9 ⟨rfl, rfl⟩
      dsimp only
      have HC9 := Lib.hid (HC.out.grown q7)
      have HTX := text_any 76 w9 HC9.out (by simp) (by decide) (by intro p hp; simp at hp; subst hp; exact ⟨by decide, by decide⟩)
      rw [told_missing] at HTX
      have HTXT := Lib.hid HTX
      have G9 := Lib.hid (World.grownBy.trans G6.out q7)
      obtain ⟨t2, v2, hv2⟩ := HC9.out.shape
      subst hv2
      have he : ∀ (t : TypeId) (v : Value) (W : World), (binOp .neq 42 (.iface t v) .nilIface).run Tryz.prog W = .ok (.bool true) W := fun t v W => by kernel_rfl
      clear HTX q7
      go_wp2_with fail
      (with_reducible refine HTXT.out.mono ?_)
      rintro ee w10 ⟨rfl, g10⟩
      dsimp only
      have G10 := Lib.hid (World.grownBy.trans G9.out g10)
      have HCO := Lib.hid (code_any 76 w10 (HC9.out.grown g10) (by simp) (HE.out.grown G10.out))
      clear g10
      go_wp2_with fail
      (with_reducible refine HCO.out.mono ?_)
      rintro ee w11 ⟨rfl, g11⟩
      dsimp only
      have G11 := Lib.hid (World.grownBy.trans G10.out g11)
      clear g11
      go_wp2
      go_ret
      exact ⟨rfl, G11.out⟩
end Go.Proofs.YtfpehdldgnfciaaGreatDoor
