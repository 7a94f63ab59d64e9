/- Lists of marks: as package ver tells them. -/
import Derived.Test.YtkngfkjnohbbiaaDoorVc
namespace Go.Proofs.YtkngfkjnohbbiaaDoor
open Go.RowKit

theorem take_all (L : List ByteArray) (k : Nat) (x : ByteArray) (p : ByteArray → Bool) (h : L[k]? = some x) (ha : (L.take k).all p = true) (hx : p x = true) : (L.take (k + 1)).all p = true := by
  rw [take_snocL L k x h, List.all_append, ha]
  simp [hx]
theorem all_no (L : List ByteArray) (k : Nat) (x : ByteArray) (p : ByteArray → Bool) (h : L[k]? = some x) (hx : p x = false) : L.all p = false := by
  have hm := List.mem_of_getElem? h
  cases ha : L.all p with
  | false => rfl
  | true =>
    rw [List.all_eq_true] at ha
    rw [ha x hm] at hx
    exact absurd hx (by simp)
theorem okMarks_no (L : List ByteArray) (k : Nat) (x : ByteArray) (h : L[k]? = some x) (hx : okMark x = false) : okMarks L = false := by
  unfold okMarks
  rw [all_no L k x okMark h hx, Bool.false_and]

set_option maxRecDepth 1000000
set_option maxHeartbeats 4000000 in
theorem goodMarks_any (B n cap : Nat) (a : Option Addr) (L : List ByteArray) (w : World) (hn : L.length = n) (hn2 : n ≤ 8000000) (hsz : ∀ p ∈ L, p.size ≤ 8000000) (hP : PartS w B (.slice a n cap) L) :
    Calls Tryd.prog 27 #[.slice a n cap] w fun e w' => e = .returned (.bool (okMarks L)) ∧ w.grownBy w' none := by
  have HN := Lib.hid hn
  have HSZ := Lib.hid hsz
  have HP := Lib.hid hP
  clear hn hsz hP
  go_enter Tryd.func27, Tryd.ntmps27
  go_wp2
  go_loopw [4, 6, 9] (fun m c i wr => ∃ k : Nat, k ≤ n ∧ i = .int .i64 k ∧ (L.take k).all okMark = true ∧ w.grownBy wr none) (fun _ _ i _ => n - (intOf i).toNat)
  case atStart => exact ⟨0, Nat.zero_le _, rfl, rfl, World.grownBy.refl _ _⟩
  case round =>
    obtain ⟨k, hk, rfl, ho, hg⟩ := hrel
    have HO := Lib.hid ho
    have HG := Lib.hid hg
    clear ho hg
    by_cases hlt : k < n
    · obtain ⟨x, hx⟩ : ∃ x, L[k]? = some x := ⟨_, List.getElem?_eq_getElem (by rw [HN.out]; exact hlt)⟩
      obtain ⟨b, o, e1, _, g1⟩ := (HP.out.stays HG.out).at k x hx
      subst e1
      have hxs := HSZ.out x (List.mem_of_getElem? hx)
      have HX := Lib.hid hx
      clear hx
      by_cases h0 : x = ⟨#[]⟩
      · have e : Hid (okMarks L = false) := okMarks_no L k x HX.out (by unfold okMark; simp [h0])
        subst h0
        go_wp2
        go_ret
        exact ⟨by rw [e.out]; rfl, HG.out⟩
      · have c1 := empty_no x h0
        have d1 := ne_list x [] h0
        by_cases h16 : 16 < x.size
        · have e : Hid (okMarks L = false) := okMarks_no L k x HX.out (by unfold okMark; rw [decide_eq_false (by omega : ¬ x.size ≤ 16)]; simp)
          have b2 : 16 < (x.size : Int) := by omega
          clear h0 h16
          go_wp2
          go_ret
          exact ⟨by rw [e.out]; rfl, HG.out⟩
        · have b2 : decide (16 < (x.size : Int)) = false := by simp; omega
          have hs9 : x.size ≤ 9223372036854775807 := by omega
          cases hbad : (allDig x && !isNum x) with
          | true =>
            have e : Hid (okMarks L = false) := okMarks_no L k x HX.out (by unfold okMark; rw [hbad]; simp)
            rw [Bool.and_eq_true] at hbad
            have HD := Lib.hid hbad.1
            have HI := Lib.hid (show isNum x = false by simpa using hbad.2)
            clear h0 h16 hbad
            go_wp2_with fail
            (with_reducible refine (allDig_any x hs9 _).mono ?_)
            rintro ee w1 ⟨rfl, g2⟩
            dsimp only
            rw [HD.out]
            have HG2 := Lib.hid (World.grownBy.trans HG.out g2)
            clear g2
            go_wp2_with fail
            (with_reducible refine (isNum_any x hs9 _).mono ?_)
            rintro ee w2 ⟨rfl, g2⟩
            dsimp only
            rw [HI.out]
            have HG3 := Lib.hid (World.grownBy.trans HG2.out g2)
            clear g2
            go_wp2
            go_ret
            exact ⟨by rw [e.out]; rfl, HG3.out⟩
          | false =>
            have hrest : Hid (okMark x = allTo markB x x.size) := by
              show _ = _
              unfold okMark
              rw [hbad, decide_eq_false h0, decide_eq_true (by omega : x.size ≤ 16)]
              simp
            have hway : Hid (allDig x = false ∨ (allDig x = true ∧ isNum x = true)) := by
              cases h1 : allDig x with
              | false => exact .inl rfl
              | true =>
                rw [h1] at hbad
                exact .inr ⟨rfl, by simpa using hbad⟩
            have HB := Lib.hid hbad
            clear h0 h16 hbad
            rcases hway.out with h1 | ⟨h1, h2⟩
            · have HD := Lib.hid h1
              clear h1
              go_wp2_with fail
              (with_reducible refine (allDig_any x hs9 _).mono ?_)
              rintro ee w1 ⟨rfl, g2⟩
              dsimp only
              rw [HD.out]
              have HG2 := Lib.hid (World.grownBy.trans HG.out g2)
              clear g2
              go_wp2_with ((with_reducible refine conv_bytes (o := ⟨some 30, _, _, _, _, _⟩) rfl _ rfl x ?_ ?_); go_must (exact rfl); (intro cap2 w3 hl3 hg3); have HL3 := Lib.hid hl3; have HG3 := Lib.hid (World.grownBy.trans HG2.out hg3); clear hl3 hg3)
              obtain ⟨bb, hbb⟩ : ∃ bb, w1.heap.size = bb := ⟨_, rfl⟩
              rw [hbb] at HL3
              go_loopw [6, 32] (fun c i wq => ∃ q : Nat, q ≤ x.size ∧ i = .int .i64 q ∧ allTo markB x q = true ∧ w3 = wq) (fun _ i _ => x.size - (intOf i).toNat)
              case atStart => exact ⟨0, Nat.zero_le _, rfl, rfl, rfl⟩
              case round =>
                obtain ⟨q, hq, rfl, ho2, rfl⟩ := hrel
                have HO2 := Lib.hid ho2
                clear ho2
                by_cases hql : q < x.size
                · have hcell := HL3.out q hql
                  obtain ⟨c, hc⟩ : ∃ c, byteAt x q = c := ⟨_, rfl⟩
                  rw [hc] at hcell
                  have HC := Lib.hid hc
                  clear hc
                  by_cases hb : markB c = true
                  · have HM := Lib.hid (show allTo markB x (q + 1) = true by rw [allTo, HO2.out, HC.out, hb]; rfl)
                    have HMB := Lib.hid hb
                    clear hb
                    go_wp2_with fail
                    (with_reducible refine (markB_any c _).mono ?_)
                    rintro ee w' ⟨rfl, hw'⟩
                    rw [hw', HMB.out]
                    clear hw' w'
                    dsimp only
                    go_wp2
                    go_roundw
                    case rel => exact ⟨q + 1, by omega, by go_num, HM.out, trivial⟩
                    case measure => simp [intOf]; omega
                  · have hb' : markB c = false := by simpa using hb
                    have HMB := Lib.hid hb'
                    have e : Hid (okMarks L = false) := okMarks_no L k x HX.out (okMark_no x q hql (by rw [HC.out]; exact hb'))
                    clear hb hb'
                    go_wp2_with fail
                    (with_reducible refine (markB_any c _).mono ?_)
                    rintro ee w' ⟨rfl, hw'⟩
                    rw [hw', HMB.out]
                    clear hw' w'
                    dsimp only
                    go_wp2
                    go_ret
                    exact ⟨by rw [e.out]; rfl, HG3.out⟩
                · have hqm : q = x.size := by omega
                  subst hqm
                  clear hql hq
                  have HT := Lib.hid (take_all L k x okMark HX.out HO.out (by rw [hrest.out]; exact HO2.out))
                  go_wp2
                  go_roundw
                  case rel => exact ⟨k + 1, by omega, by go_num, HT.out, HG3.out⟩
                  case measure => simp [intOf]; omega
            · have HD := Lib.hid h1
              have HI := Lib.hid h2
              clear h1 h2
              go_wp2_with fail
              (with_reducible refine (allDig_any x hs9 _).mono ?_)
              rintro ee w0 ⟨rfl, g2⟩
              dsimp only
              rw [HD.out]
              have HG1 := Lib.hid (World.grownBy.trans HG.out g2)
              clear g2
              go_wp2_with fail
              (with_reducible refine (isNum_any x hs9 _).mono ?_)
              rintro ee w1 ⟨rfl, g2⟩
              dsimp only
              rw [HI.out]
              have HG2 := Lib.hid (World.grownBy.trans HG1.out g2)
              clear g2
              go_wp2_with ((with_reducible refine conv_bytes (o := ⟨some 30, _, _, _, _, _⟩) rfl _ rfl x ?_ ?_); go_must (exact rfl); (intro cap2 w3 hl3 hg3); have HL3 := Lib.hid hl3; have HG3 := Lib.hid (World.grownBy.trans HG2.out hg3); clear hl3 hg3)
              obtain ⟨bb, hbb⟩ : ∃ bb, w1.heap.size = bb := ⟨_, rfl⟩
              rw [hbb] at HL3
              go_loopw [6, 32] (fun c i wq => ∃ q : Nat, q ≤ x.size ∧ i = .int .i64 q ∧ allTo markB x q = true ∧ w3 = wq) (fun _ i _ => x.size - (intOf i).toNat)
              case atStart => exact ⟨0, Nat.zero_le _, rfl, rfl, rfl⟩
              case round =>
                obtain ⟨q, hq, rfl, ho2, rfl⟩ := hrel
                have HO2 := Lib.hid ho2
                clear ho2
                by_cases hql : q < x.size
                · have hcell := HL3.out q hql
                  obtain ⟨c, hc⟩ : ∃ c, byteAt x q = c := ⟨_, rfl⟩
                  rw [hc] at hcell
                  have HC := Lib.hid hc
                  clear hc
                  by_cases hb : markB c = true
                  · have HM := Lib.hid (show allTo markB x (q + 1) = true by rw [allTo, HO2.out, HC.out, hb]; rfl)
                    have HMB := Lib.hid hb
                    clear hb
                    go_wp2_with fail
                    (with_reducible refine (markB_any c _).mono ?_)
                    rintro ee w' ⟨rfl, hw'⟩
                    rw [hw', HMB.out]
                    clear hw' w'
                    dsimp only
                    go_wp2
                    go_roundw
                    case rel => exact ⟨q + 1, by omega, by go_num, HM.out, trivial⟩
                    case measure => simp [intOf]; omega
                  · have hb' : markB c = false := by simpa using hb
                    have HMB := Lib.hid hb'
                    have e : Hid (okMarks L = false) := okMarks_no L k x HX.out (okMark_no x q hql (by rw [HC.out]; exact hb'))
                    clear hb hb'
                    go_wp2_with fail
                    (with_reducible refine (markB_any c _).mono ?_)
                    rintro ee w' ⟨rfl, hw'⟩
                    rw [hw', HMB.out]
                    clear hw' w'
                    dsimp only
                    go_wp2
                    go_ret
                    exact ⟨by rw [e.out]; rfl, HG3.out⟩
                · have hqm : q = x.size := by omega
                  subst hqm
                  clear hql hq
                  have HT := Lib.hid (take_all L k x okMark HX.out HO.out (by rw [hrest.out]; exact HO2.out))
                  go_wp2
                  go_roundw
                  case rel => exact ⟨k + 1, by omega, by go_num, HT.out, HG3.out⟩
                  case measure => simp [intOf]; omega
    · have hkn : k = n := by omega
      subst hkn
      clear hlt hk
      have e : Hid (okMarks L = decide ((k : Int) ≤ 5)) := by
        show _ = _
        have := HO.out
        rw [List.take_of_length_le (by rw [HN.out]; exact Nat.le_refl _)] at this
        unfold okMarks
        rw [this, Bool.true_and, HN.out]
        exact decide_eq_decide.2 (by omega)
      go_wp2
      go_ret
      exact ⟨by rw [e.out]; rfl, HG.out⟩
end Go.Proofs.YtkngfkjnohbbiaaDoor
