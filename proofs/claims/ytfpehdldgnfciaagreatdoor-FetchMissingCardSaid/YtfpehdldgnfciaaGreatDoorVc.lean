/- Marks: as package ver tells them, as the reference does; the reference's Split. -/
import Derived.Test.YtfpehdldgnfciaaGreatDoorVb
namespace Go.Proofs.YtfpehdldgnfciaaGreatDoor
open Go.RowKit

theorem okMark_no (m : ByteArray) (n : Nat) (hn : n < m.size) (h : markB (byteAt m n) = false) : okMark m = false := by
  unfold okMark
  rw [allTo_not markB m n m.size hn h, Bool.and_false]
/-- The four ways of a byte that is no mark's. -/
theorem markB_cases (c : UInt8) (h : markB c = false) : ((c.toNat : Int) < 48 ∧ ¬ (c.toNat : Int) = 45) ∨ (57 < (c.toNat : Int) ∧ (c.toNat : Int) < 65) ∨ (90 < (c.toNat : Int) ∧ (c.toNat : Int) < 97) ∨ 122 < (c.toNat : Int) := by
  simp only [markB, decide_eq_false_iff_not] at h
  omega
theorem markB_yes (c : UInt8) (h : markB c = true) : (48 ≤ (c.toNat : Int) ∧ (c.toNat : Int) ≤ 57) ∨ (97 ≤ (c.toNat : Int) ∧ (c.toNat : Int) ≤ 122) ∨ (65 ≤ (c.toNat : Int) ∧ (c.toNat : Int) ≤ 90) ∨ (c.toNat : Int) = 45 := by
  simp only [markB, decide_eq_true_eq] at h
  omega

set_option maxRecDepth 1000000
set_option maxHeartbeats 2000000 in
theorem refMark_any (s : ByteArray) (hs : s.size ≤ 9223372036854775807) (w : World) :
    Calls Tryz.prog 33 #[.string s] w fun e w' => e = .returned (.bool (okMark s)) ∧ w' = w := by
  by_cases h0 : s = ⟨#[]⟩
  · have e : Hid (okMark s = false) := by show _ = _; unfold okMark; simp [h0]
    subst h0
    go_enter Tryz.func33, Tryz.ntmps33
    go_wp2
    go_ret
    exact ⟨by rw [e.out]; rfl, rfl⟩
  · have hpos := size_pos s h0
    have b1 : decide ((s.size : Int) < 1) = false := by simp; omega
    by_cases h16 : 16 < s.size
    · have e : Hid (okMark s = false) := by show _ = _; unfold okMark; rw [decide_eq_false (by omega : ¬ s.size ≤ 16)]; simp
      have b2 : 16 < (s.size : Int) := by omega
      clear h0 h16 hpos
      go_enter Tryz.func33, Tryz.ntmps33
      go_wp2
      go_ret
      exact ⟨by rw [e.out]; rfl, rfl⟩
    · have b2 : decide (16 < (s.size : Int)) = false := by simp; omega
      have H0 := Lib.hid h0
      have hok : Hid (allTo markB s s.size = true → okMark s = !(allDig s && !isNum s)) := by
        intro h
        unfold okMark
        rw [h, decide_eq_true (by omega : s.size ≤ 16), decide_eq_false h0]
        simp
      clear h0 h16
      go_enter Tryz.func33, Tryz.ntmps33
      go_wp2
      go_loopw [3, 4] (fun i c wr => ∃ k : Nat, k ≤ s.size ∧ i = .int .i64 k ∧ allTo markB s k = true ∧ wr = w) (fun i _ _ => s.size - (intOf i).toNat)
      case atStart => exact ⟨0, Nat.zero_le _, rfl, rfl, rfl⟩
      case round =>
        obtain ⟨k, hk, rfl, ho, rfl⟩ := hrel
        by_cases hlt : k < s.size
        · obtain ⟨c, hc⟩ : ∃ c, byteAt s k = c := ⟨_, rfl⟩
          have hc2 : s[k]'hlt = c := by rw [← byteAt_eq]; exact hc
          have HO := Lib.hid ho
          have HC := Lib.hid hc
          have hc3 := c.toNat_lt
          clear ho hc
          by_cases hb : markB c = true
          · have HX := Lib.hid (show allTo markB s (k + 1) = true by rw [allTo, HO.out, HC.out, hb]; rfl)
            have hy := markB_yes c hb
            clear hb
            rcases hy with ⟨y1, y2⟩ | ⟨y1, y2⟩ | ⟨y1, y2⟩ | y1
            · have z1 : decide (97 ≤ (c.toNat : Int)) = false := by simp; omega
              have z2 : decide (65 ≤ (c.toNat : Int)) = false := by simp; omega
              go_wp2
              go_roundw
              case rel => exact ⟨k + 1, by omega, by go_num, HX.out, trivial⟩
              case measure => simp [intOf]; omega
            · go_wp2
              go_roundw
              case rel => exact ⟨k + 1, by omega, by go_num, HX.out, trivial⟩
              case measure => simp [intOf]; omega
            · have z1 : decide (97 ≤ (c.toNat : Int)) = false := by simp; omega
              go_wp2
              go_roundw
              case rel => exact ⟨k + 1, by omega, by go_num, HX.out, trivial⟩
              case measure => simp [intOf]; omega
            · have y2 : c = 45 := UInt8.toNat_inj.1 (by show _ = 45; omega)
              subst y2
              clear y1
              go_wp2
              go_roundw
              case rel => exact ⟨k + 1, by omega, by go_num, HX.out, trivial⟩
              case measure => simp [intOf]; omega
          · have hb' : markB c = false := by simpa using hb
            have e := Lib.hid (okMark_no s k hlt (by rw [HC.out]; exact hb'))
            have hy := markB_cases c hb'
            clear hb hb'
            have z0 : (c.toNat : Int) ≠ 45 := by omega
            have z1 := beq_no c.toNat 45 z0
            have z2 : ¬ (c.toNat : Int) = 45 := z0
            clear z0
            rcases hy with ⟨y1, y2⟩ | ⟨y1, y2⟩ | ⟨y1, y2⟩ | y1
            · have t1 : decide (97 ≤ (c.toNat : Int)) = false := by simp; omega
              have t2 : decide (65 ≤ (c.toNat : Int)) = false := by simp; omega
              have t3 : decide (48 ≤ (c.toNat : Int)) = false := by simp; omega
              go_wp2
              go_ret
              exact ⟨by rw [e.out]; rfl, rfl⟩
            · have t1 : decide (97 ≤ (c.toNat : Int)) = false := by simp; omega
              have t2 : decide (65 ≤ (c.toNat : Int)) = false := by simp; omega
              have t3 : 48 ≤ (c.toNat : Int) := by omega
              have t4 : decide ((c.toNat : Int) ≤ 57) = false := by simp; omega
              go_wp2
              go_ret
              exact ⟨by rw [e.out]; rfl, rfl⟩
            · have t1 : decide (97 ≤ (c.toNat : Int)) = false := by simp; omega
              have t2 : 65 ≤ (c.toNat : Int) := by omega
              have t3 : 48 ≤ (c.toNat : Int) := by omega
              have t4 : decide ((c.toNat : Int) ≤ 57) = false := by simp; omega
              have t5 : decide ((c.toNat : Int) ≤ 90) = false := by simp; omega
              go_wp2
              go_ret
              exact ⟨by rw [e.out]; rfl, rfl⟩
            · have t1 : 97 ≤ (c.toNat : Int) := by omega
              have t2 : 65 ≤ (c.toNat : Int) := by omega
              have t3 : 48 ≤ (c.toNat : Int) := by omega
              have t4 : decide ((c.toNat : Int) ≤ 57) = false := by simp; omega
              have t5 : decide ((c.toNat : Int) ≤ 90) = false := by simp; omega
              have t6 : decide ((c.toNat : Int) ≤ 122) = false := by simp; omega
              go_wp2
              go_ret
              exact ⟨by rw [e.out]; rfl, rfl⟩
        · have hkm : k = s.size := by omega
          subst hkm
          have hok2 := hok.out ho
          clear hlt hk ho
          cases hd : allDig s with
          | false =>
            have e : Hid (okMark s = true) := by show _ = _; rw [hok2, hd]; rfl
            have HD := Lib.hid hd
            clear hd hok2
            go_wp2_with fail
            (with_reducible refine (refDig_any s hs _).mono ?_)
            rintro ee w' ⟨rfl, hw'⟩
            rw [hw', HD.out]
            clear hw' w'
            dsimp only
            go_wp2
            go_ret
            exact ⟨by rw [e.out]; rfl, rfl⟩
          | true =>
            have HD := Lib.hid hd
            by_cases h48 : s = ⟨#[48]⟩
            · have e : Hid (okMark s = true) := by
                show _ = _; rw [hok2, hd]; unfold isNum; rw [hd, h48]; decide
              subst h48
              clear hd hok2
              go_wp2_with fail
              (with_reducible refine (refDig_any _ hs _).mono ?_)
              rintro ee w' ⟨rfl, hw'⟩
              rw [hw', HD.out]
              clear hw' w'
              dsimp only
              go_wp2
              go_ret
              exact ⟨by rw [e.out]; rfl, rfl⟩
            · obtain ⟨c, hc⟩ : ∃ c, byteAt s 0 = c := ⟨_, rfl⟩
              have hc2 : s[0]'hpos = c := by rw [← byteAt_eq]; exact hc
              have c1 := nb_list s [48] h48
              have d1 := ne_list s [48] h48
              by_cases hb : c = 48
              · have e : Hid (okMark s = false) := by
                  show _ = _; rw [hok2, hd]; unfold isNum; rw [hd, hc, hb]; simp [h48]
                subst hb
                clear hd hok2 h48 hc
                go_wp2_with fail
                (with_reducible refine (refDig_any _ hs _).mono ?_)
                rintro ee w' ⟨rfl, hw'⟩
                rw [hw', HD.out]
                clear hw' w'
                dsimp only
                go_wp2
                go_ret
                exact ⟨by rw [e.out]; rfl, rfl⟩
              · have e : Hid (okMark s = true) := by
                  show _ = _; rw [hok2, hd]; unfold isNum; rw [hd, hc]; simp [hb]
                have hb' : ¬ (c.toNat : Int) = 48 := by
                  intro e; apply hb; apply UInt8.toNat_inj.1; show c.toNat = 48; omega
                have b1 := beq_no c.toNat 48 hb'
                have b2 : ((c.toNat : Int) != 48) = true := by simp [hb']
                clear hd hok2 h48 hc hb
                go_wp2_with fail
                (with_reducible refine (refDig_any _ hs _).mono ?_)
                rintro ee w' ⟨rfl, hw'⟩
                rw [hw', HD.out]
                clear hw' w'
                dsimp only
                go_wp2
                go_ret
                exact ⟨by rw [e.out]; rfl, rfl⟩

def SplitRet (w : World) (L : List ByteArray) (e : Ending) (w' : World) : Prop := ∃ v', e = .returned v' ∧ OwnsS w' w.heap.size v' L ∧ w.grownBy w' none

set_option maxRecDepth 1000000
set_option maxHeartbeats 1000000 in
theorem refSplit_any (s : ByteArray) (d : UInt8) (hs : s.size ≤ 2000000) (w : World) :
    Calls Tryz.prog 32 #[.string s, .int .u8 (d.toNat : Int)] w (SplitRet w (pieces d s)) := by
  go_enter Tryz.func32, Tryz.ntmps32
  go_wp2
  go_loopw [5, 6, 7] (fun v f i wr => ∃ (k g m cp : Nat) (ad : Option Addr) (out : List ByteArray), k ≤ s.size + 1 ∧ g ≤ s.size + 1 ∧ i = .int .i64 k ∧ f = .int .i64 g ∧ v = .slice ad m cp ∧ m = out.length ∧ cp ≤ 9223372036854775807 ∧ SplitAt d s k g out ∧ OwnsS wr w.heap.size v out ∧ w.grownBy wr none) (fun _ _ i _ => s.size + 1 - (intOf i).toNat)
  case atStart => exact ⟨0, 0, 0, 0, none, [], by omega, by omega, rfl, rfl, rfl, rfl, by omega, SplitAt.start d s, OwnsS.nil _ _, World.grownBy.refl _ _⟩
  case round =>
    obtain ⟨k, g, m, cp, ad, out, hk, hg, rfl, rfl, rfl, hm, hcp, hat, hown, hgw⟩ := hrel
    have hml : m ≤ s.size + 1 := by rw [hm]; exact hat.len
    have HM := Lib.hid hm
    have HAT := Lib.hid hat
    have HO := Lib.hid hown
    have HG := Lib.hid hgw
    clear hm hat hown hgw
    by_cases h1 : k < s.size
    · obtain ⟨c, hc⟩ : ∃ c, byteAt s k = c := ⟨_, rfl⟩
      have hc2 : s[k]'h1 = c := by rw [← byteAt_eq]; exact hc
      have HC := Lib.hid hc
      have hne : ¬ (k : Int) = (s.size : Int) := by omega
      clear hc
      by_cases hb : c = d
      · subst hb
        have hcut := HAT.out.cut h1 HC.out
        have hgk := hcut.1
        have HCUT := Lib.hid hcut.2
        clear hcut
        go_wp2_with (at_builtin; go_must (with_reducible refine app_str (o := ⟨some 31, _, _, _, _, _⟩) rfl _ _ rfl w.heap.size (wr.heap.size + 1) (.slice ad m cp) _ out [s.extract g k] ?_ (HO.out.alloc _) ?_ (part_str wr _ 9) ?_ ?_ ?_); go_must (exact rfl); go_must (exact rfl); go_must ((have := HM.out; simp; omega)); go_must ((have := HG.out.size; rw [alloc_size]; omega)); (intro v2 w2 ho2 hg2); have HO2 := Lib.hid ho2; have HG2 := Lib.hid (HO.out.alloc (.cells #[.string (s.extract g k)] 9) |>.grown (World.grownBy.trans HG.out (World.grownBy_alloc _ _ _)) hg2); clear ho2 hg2)
        go_roundw
        case rel =>
          obtain ⟨ad2, cp2, e1, e2, e3⟩ := HO2.out.form
          refine ⟨k + 1, k + 1, _, cp2, ad2, out ++ [s.extract g k], by omega, by omega, by go_num, by go_num, e1, rfl, e3, HCUT.out, HO2.out, HG2.out⟩
        case measure => simp [intOf]; omega
      · have hb' : ¬ (c.toNat : Int) = (d.toNat : Int) := by
          intro e; apply hb; apply UInt8.toNat_inj.1; omega
        have b1 : ((c.toNat : Int) == (d.toNat : Int)) = false := by simp only [beq_eq_false_iff_ne]; exact hb'
        have b3 : (c.toNat == d.toNat) = false := by simp only [beq_eq_false_iff_ne]; omega
        have b2 : ((k : Int) == (s.size : Int)) = false := by simp; omega
        have HS := Lib.hid (HAT.out.skip h1 (by rw [HC.out]; exact hb))
        go_wp2
        go_roundw
        case rel => exact ⟨k + 1, g, m, cp, ad, out, by omega, by omega, by go_num, rfl, rfl, HM.out, hcp, HS.out, HO.out, HG.out⟩
        case measure => simp [intOf]; omega
    · by_cases h2 : k = s.size
      · subst h2
        have hlast := HAT.out.last
        have hgk := hlast.1
        have HL := Lib.hid hlast.2
        have hend := Lib.hid (show SplitAt d s (s.size + 1) (s.size + 1) (out ++ [s.extract g s.size]) from .inr ⟨rfl, hlast.2⟩)
        clear hlast h1
        go_wp2_with (at_builtin; go_must (with_reducible refine app_str (o := ⟨some 31, _, _, _, _, _⟩) rfl _ _ rfl w.heap.size (wr.heap.size + 1) (.slice ad m cp) _ out [s.extract g s.size] ?_ (HO.out.alloc _) ?_ (part_str wr _ 9) ?_ ?_ ?_); go_must (exact rfl); go_must (exact rfl); go_must ((have := HM.out; simp; omega)); go_must ((have := HG.out.size; rw [alloc_size]; omega)); (intro v2 w2 ho2 hg2); have HO2 := Lib.hid ho2; have HG2 := Lib.hid (HO.out.alloc (.cells #[.string (s.extract g s.size)] 9) |>.grown (World.grownBy.trans HG.out (World.grownBy_alloc _ _ _)) hg2); clear ho2 hg2)
        go_roundw
        case rel =>
          obtain ⟨ad2, cp2, e1, e2, e3⟩ := HO2.out.form
          refine ⟨s.size + 1, s.size + 1, _, cp2, ad2, out ++ [s.extract g s.size], by omega, by omega, by go_num, by go_num, e1, rfl, e3, hend.out, HO2.out, HG2.out⟩
        case measure => simp [intOf]
      · have hk1 : k = s.size + 1 := by omega
        have hp : Hid (pieces d s = out) := by
          show _ = _
          rcases HAT.out with ⟨h3, _⟩ | ⟨_, h3⟩
          · exact absurd h3 (by omega)
          · exact h3
        subst hk1
        clear h1 h2 hk
        go_wp2
        go_ret
        exact ⟨_, rfl, by rw [hp.out]; exact HO.out, HG.out⟩
end Go.Proofs.YtfpehdldgnfciaaGreatDoor
