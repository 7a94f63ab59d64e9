/- The reference's Join; the law PathJoins returns true. -/
import Derived.Test.YtghfnmnjomdacaaDoorW
import Derived.Test.YtghfnmnjomdacaaDoorN
namespace Go.Proofs.YtghfnmnjomdacaaDoor
open Go.RowKit

set_option maxRecDepth 1000000
set_option maxHeartbeats 1000000 in
theorem refbase_long (s : ByteArray) (r rc : Nat) (ra : Option Addr) (w : World) (hl : 200 < s.size) : Calls Tryd.prog 24 #[.string s, .slice ra r rc] w (WalkRet w (⟨#[]⟩, 50)) := by
  have h2 : 200 < (s.size : Int) := by omega
  clear hl
  go_enter Tryd.func24, Tryd.ntmps24
  go_wp2
  go_ret2
  exact ⟨rfl, World.grownBy.refl _ _⟩

set_option maxRecDepth 1000000
set_option maxHeartbeats 1000000 in
theorem refbase_yes (s : ByteArray) (r rc : Nat) (ra : Option Addr) (w : World) (hl : ¬ 200 < s.size) (hp : Lib.hasPrefix s.data.toList slash.data.toList = true) : Calls Tryd.prog 24 #[.string s, .slice ra r rc] w (WalkRet w (⟨#[]⟩, 51)) := by
  have h2 : decide (200 < (s.size : Int)) = false := by simp; omega
  rw [prefix_byte, Bool.and_eq_true, decide_eq_true_eq] at hp
  obtain ⟨h0, hb⟩ := hp
  have hb2 : s[0]'h0 = 47 := by rw [← byteAt_eq]; exact eq_of_beq hb
  have h3 : 0 < (s.size : Int) := by omega
  clear hl hb
  go_enter Tryd.func24, Tryd.ntmps24
  go_wp2
  go_ret2
  exact ⟨rfl, World.grownBy.refl _ _⟩

/-- THE REFERENCE's CLEAN, ANY BASE. -/
theorem refbase_any (s : ByteArray) (root : List ByteArray) (r rc B0 : Nat) (ra : Option Addr) (w : World) (hw0 : 0 < w.heap.size) (hr : root.length = r) (hr2 : r ≤ 1000) (hsum : sumS root ≤ 100000) (hpr : PartS w B0 (.slice ra r rc) root) :
    Calls Tryd.prog 24 #[.string s, .slice ra r rc] w (WalkRet w (if 200 < s.size then (⟨#[]⟩, 50) else walkS root s)) := by
  by_cases hl : 200 < s.size
  · rw [if_pos hl]; exact refbase_long s r rc ra w hl
  · rw [if_neg hl]
    cases hp : Lib.hasPrefix s.data.toList slash.data.toList with
    | true =>
      have e : walkS root s = (⟨#[]⟩, 51) := by unfold walkS; rw [if_pos hp]
      rw [e]; exact refbase_yes s r rc ra w hl hp
    | false => exact refwalk_base s root r rc B0 ra w hw0 hr hr2 hsum hpr hl hp

theorem refparts_any (s : ByteArray) (hs : s.size ≤ 100000) (w : World) (hw0 : 0 < w.heap.size) :
    Calls Tryd.prog 14 #[.string s] w fun e w' => ∃ a cap, e = .returned (.slice a (partsS s).length cap) ∧ (partsS s).length ≤ cap ∧ cap ≤ 9223372036854775807 ∧ PartS w' w'.heap.size (.slice a (partsS s).length cap) (partsS s) ∧ w.grownBy w' none := by
  by_cases h0 : s = ⟨#[]⟩
  · have e : Hid (partsS s = []) := by show _ = _; unfold partsS; rw [if_pos h0]
    have HW := Lib.hid hw0
    subst h0
    clear hw0
    go_enter Tryd.func14, Tryd.ntmps14
    go_wp2
    go_ret
    exact ⟨none, 0, by rw [e.out]; rfl, by rw [e.out]; exact Nat.le_refl _, by omega, by rw [e.out]; exact (OwnsS.nil w 0).part HW.out, World.grownBy.refl _ _⟩
  · have e : Hid (partsS s = pieces s) := by show _ = _; unfold partsS; rw [if_neg h0]
    have d1 := ne_list s [] h0
    have c1 := empty_no s h0
    have HW := Lib.hid hw0
    clear h0 hw0
    go_enter Tryd.func14, Tryd.ntmps14
    go_wp2_with fail
    (with_reducible refine (refsplit_any s hs _).mono ?_)
    rintro ee w1 ⟨v, rfl, ho, hg⟩
    dsimp only
    obtain ⟨a, cap, h1, h2, h3⟩ := ho.form
    subst h1
    have HO := Lib.hid ho
    have HG := Lib.hid hg
    clear ho hg
    go_wp2
    go_ret
    exact ⟨a, cap, by rw [e.out]; rfl, by rw [e.out]; exact h2, h3, by rw [e.out]; exact HO.out.part (by have := HG.out.size; have := HW.out; omega), HG.out⟩

theorem refparts_at (s : ByteArray) (L : List ByteArray) (r : Nat) (hs : s.size ≤ 100000) (w : World) (hw0 : 0 < w.heap.size) (hL : partsS s = L) (hr : L.length = r) :
    Calls Tryd.prog 14 #[.string s] w fun e w' => ∃ a cap, e = .returned (.slice a r cap) ∧ r ≤ cap ∧ cap ≤ 9223372036854775807 ∧ PartS w' w'.heap.size (.slice a r cap) L ∧ w.grownBy w' none := by
  subst hL hr; exact refparts_any s hs w hw0
theorem refbase_at (s : ByteArray) (root : List ByteArray) (r rc B0 : Nat) (ra : Option Addr) (w : World) (R : ByteArray × Int) (hw0 : 0 < w.heap.size) (hr : root.length = r) (hr2 : r ≤ 1000) (hsum : sumS root ≤ 100000) (hpr : PartS w B0 (.slice ra r rc) root)
    (hR : (if 200 < s.size then ((⟨#[]⟩ : ByteArray), (50 : Int)) else walkS root s) = R) :
    Calls Tryd.prog 24 #[.string s, .slice ra r rc] w fun e w' => e = .returned (.tuple #[.string R.1, .int .i64 R.2]) ∧ w.grownBy w' none := by
  rw [← hR]; exact refbase_any s root r rc B0 ra w hw0 hr hr2 hsum hpr

set_option maxRecDepth 1000000
set_option maxHeartbeats 2000000 in
theorem refjoin_any (dir s : ByteArray) (w : World) (hd : dir.size ≤ 200) (hs : s.size ≤ 100000) (hw0 : 0 < w.heap.size) :
    Calls Tryd.prog 22 #[.string dir, .string s] w (WalkRet w (joinS dir s)) := by
  have q1 : dir.size + 1 ≤ 9223372036854775807 := by omega
  have q2 : dir.size + 1 + s.size ≤ 9223372036854775807 := by omega
  have q3 : dir.size ≤ 100000 := by omega
  obtain ⟨L, hL⟩ : ∃ L, partsS dir = L := ⟨_, rfl⟩
  obtain ⟨r, hr⟩ : ∃ r, L.length = r := ⟨_, rfl⟩
  have hpl := parts_len dir
  have hpz := parts_size dir
  rw [hL] at hpl hpz
  rw [hr] at hpl
  have hpsum := sumS_le L dir.size hpz
  rw [hr] at hpsum
  have hrz : Hid (r ≤ 1000 ∧ sumS L ≤ 100000) := by
    refine ⟨by omega, Nat.le_trans hpsum ?_⟩
    exact Nat.le_trans (Nat.mul_le_mul (show r ≤ 201 by omega) (show dir.size + 1 ≤ 201 by omega)) (by decide)
  have HW := Lib.hid hw0
  have HL := Lib.hid hL
  have HR := Lib.hid hr
  have HEQ := Lib.hid (show joinS dir s = if 200 < (if dir = ⟨#[]⟩ then s.size else dir.size + 1 + s.size) then (⟨#[]⟩, 50) else walkS L s by unfold joinS; rw [hL])
  clear hw0 hL hr hpz hpsum hpl
  by_cases h0 : dir = ⟨#[]⟩
  · have e : Hid ((if 200 < s.size then ((⟨#[]⟩ : ByteArray), (50 : Int)) else walkS L s) = joinS dir s) := by show _ = _; rw [HEQ.out, if_pos h0]
    subst h0
    go_enter Tryd.func22, Tryd.ntmps22
    go_wp2_with fail
    (with_reducible refine (refparts_at _ L r q3 _ HW.out HL.out HR.out).mono ?_)
    rintro ee w1 ⟨a, cap, rfl, hc1, hc2, hf, hg⟩
    dsimp only
    have HF := Lib.hid hf
    have HG := Lib.hid hg
    clear hf hg
    go_wp2_with fail
    (with_reducible refine (refbase_at s L r cap _ a _ _ (Nat.lt_of_lt_of_le HW.out HG.out.size) HR.out hrz.out.1 hrz.out.2 HF.out e.out).mono ?_)
    rintro ee w2 ⟨rfl, hg2⟩
    dsimp only
    have HG2 := Lib.hid (World.grownBy.trans HG.out hg2)
    clear hg2
    go_wp2
    go_ret2
    exact ⟨rfl, HG2.out⟩
  · have d1 := ne_list dir [] h0
    have c1 := empty_no dir h0
    by_cases hl : 200 < dir.size + 1 + s.size
    · have e : Hid (joinS dir s = (⟨#[]⟩, 50)) := by show _ = _; rw [HEQ.out, if_neg h0, if_pos hl]
      have h2 : 200 < (dir.size : Int) + 1 + (s.size : Int) := by omega
      clear h0 hl
      go_enter Tryd.func22, Tryd.ntmps22
      go_wp2
      go_ret2
      exact ⟨by rw [e.out]; rfl, World.grownBy.refl _ _⟩
    · have e : Hid ((if 200 < s.size then ((⟨#[]⟩ : ByteArray), (50 : Int)) else walkS L s) = joinS dir s) := by show _ = _; rw [HEQ.out, if_neg h0, if_neg hl, if_neg (by omega)]
      have h2 : decide (200 < (dir.size : Int) + 1 + (s.size : Int)) = false := by simp; omega
      clear h0 hl
      go_enter Tryd.func22, Tryd.ntmps22
      go_wp2_with fail
      (with_reducible refine (refparts_at dir L r q3 _ HW.out HL.out HR.out).mono ?_)
      rintro ee w1 ⟨a, cap, rfl, hc1, hc2, hf, hg⟩
      dsimp only
      have HF := Lib.hid hf
      have HG := Lib.hid hg
      clear hf hg
      go_wp2_with fail
      (with_reducible refine (refbase_at s L r cap _ a _ _ (Nat.lt_of_lt_of_le HW.out HG.out.size) HR.out hrz.out.1 hrz.out.2 HF.out e.out).mono ?_)
      rintro ee w2 ⟨rfl, hg2⟩
      dsimp only
      have HG2 := Lib.hid (World.grownBy.trans HG.out hg2)
      clear hg2
      go_wp2
      go_ret2
      exact ⟨rfl, HG2.out⟩

theorem refjoin_at (d s p : ByteArray) (q : Int) (w : World) (hd : d.size ≤ 200) (hs : s.size ≤ 100000) (hw : 0 < w.heap.size) (h : joinS d s = (p, q)) :
    Calls Tryd.prog 22 #[.string d, .string s] w fun e w' => e = .returned (.tuple #[.string p, .int .i64 q]) ∧ w.grownBy w' none :=
  (refjoin_any d s w hd hs hw).mono fun e w' h2 => by rw [h] at h2; exact h2
theorem cleanS_size (s p : ByteArray) (q : Int) (h : cleanS s = (p, q)) : q = 0 → p.size ≤ 200 := by
  rintro rfl
  obtain ⟨_, _, _, _, h4⟩ := cleanS_zero s p h
  exact h4
theorem walkS_small (root : List ByteArray) (s p : ByteArray) (q : Int) (h : walkS root s = (p, q)) (h0 : ¬ q = 0) : p = ⟨#[]⟩ := by
  unfold walkS at h
  split at h
  · exact (congrArg Prod.fst h).symm
  · split at h
    · exact (congrArg Prod.fst h).symm
    · split at h
      · exact (congrArg Prod.fst h).symm
      · exact absurd (congrArg Prod.snd h).symm h0
theorem sumS_pos (L : List ByteArray) : L.length ≤ sumS L := by
  induction L with
  | nil => exact Nat.le_refl _
  | cons x r ih => simp only [sumS, List.length_cons]; omega
theorem joinS_size (d s p : ByteArray) (q : Int) (hd : d.size ≤ 200) (h : joinS d s = (p, q)) : p.size ≤ 100000 := by
  unfold joinS at h
  by_cases h9 : 200 < (if d = ⟨#[]⟩ then s.size else d.size + 1 + s.size)
  · rw [if_pos h9] at h
    have e : (⟨#[]⟩ : ByteArray) = p := congrArg Prod.fst h
    rw [← e]; exact Nat.zero_le _
  · rw [if_neg h9] at h
    by_cases h0 : q = 0
    · subst h0
      obtain ⟨M, a, b, c, e⟩ := walkS_zero _ s p h
      have h1 := joinB_le (partsS d ++ M)
      have h3 : sumS (partsS d) ≤ 201 := by
        unfold partsS
        split
        · exact Nat.zero_le _
        · rw [sumS_pieces]; omega
      have h4 : s.size ≤ 200 := by split at h9 <;> omega
      rw [a]; omega
    · rw [walkS_small _ _ _ _ h h0]; exact Nat.zero_le _

set_option maxRecDepth 1000000
set_option maxHeartbeats 4000000 in
theorem joins_law (m : Int) (dir s : ByteArray) (hz1 : dir.size ≤ 9223372036854775807) (hz2 : s.size ≤ 9223372036854775807) (w : World) (hm : w.cell? ⟨0, 0, none⟩ = some (.int .i64 m)) :
    Calls Tryd.prog 5 #[.string dir, .string s] w fun e w' => e = .returned (.bool true) ∧ w.grownBy w' none := by
  have HM := Lib.hid hm
  have HW := Lib.hid (World.block_lt_of_cell? _ _ hm)
  clear hm
  by_cases hl : 300 < dir.size
  · have h2 : 300 < (dir.size : Int) := by omega
    clear hl
    go_enter Tryd.func5, Tryd.ntmps5
    go_wp2_with fail
    (with_reducible refine (known_any m _ HM.out).mono ?_)
    rintro ee w1 ⟨rfl, g1⟩
    dsimp only
    go_wp2
    go_ret
    exact ⟨rfl, g1⟩
  · have h2 : decide (300 < (dir.size : Int)) = false := by simp; omega
    by_cases hl2 : 300 < s.size
    · have h3 : 300 < (s.size : Int) := by omega
      clear hl hl2
      go_enter Tryd.func5, Tryd.ntmps5
      go_wp2_with fail
      (with_reducible refine (known_any m _ HM.out).mono ?_)
      rintro ee w1 ⟨rfl, g1⟩
      dsimp only
      go_wp2
      go_ret
      exact ⟨rfl, g1⟩
    · have h3 : decide (300 < (s.size : Int)) = false := by simp; omega
      have hs5 : s.size ≤ 100000 := by omega
      obtain ⟨d, f, hc⟩ : ∃ p q, cleanS dir = (p, q) := ⟨_, _, rfl⟩
      have HC := Lib.hid hc
      clear hl hl2
      by_cases hf : f = 0
      · have hds := cleanS_size _ _ _ hc hf
        have hds5 : d.size ≤ 100000 := by omega
        obtain ⟨p, q, hj⟩ : ∃ p q, joinS d s = (p, q) := ⟨_, _, rfl⟩
        have hps5 := joinS_size d s p q hds hj
        have HJ := Lib.hid hj
        by_cases hq : q = 0
        · have hwi := within_join d s p (by rw [hj, hq])
          have HWI := Lib.hid hwi
          subst hf hq
          clear hc hj hwi
          go_enter Tryd.func5, Tryd.ntmps5
          go_wp2_with fail
          (with_reducible refine (known_any m _ HM.out).mono ?_)
          rintro ee w1 ⟨rfl, g1⟩
          dsimp only
          have G1 := Lib.hid g1
          clear g1
          go_wp2_with fail
          (with_reducible refine (refclean_at dir d 0 _ (Nat.lt_of_lt_of_le HW.out G1.out.size) HC.out).mono ?_)
          rintro ee w2 ⟨rfl, g2⟩
          dsimp only
          have G2 := Lib.hid (World.grownBy.trans G1.out g2)
          clear g2
          go_wp2_with fail
          (with_reducible refine (join_at m d s p 0 _ hds5 hs5 (G2.out.cell HM.out (by simp)) HJ.out).mono ?_)
          rintro ee w3 ⟨rfl, g3⟩
          dsimp only
          have G3 := Lib.hid (World.grownBy.trans G2.out g3)
          clear g3
          go_wp2_with fail
          (with_reducible refine (refjoin_at d s p 0 _ hds hs5 (Nat.lt_of_lt_of_le HW.out G3.out.size) HJ.out).mono ?_)
          rintro ee w4 ⟨rfl, g4⟩
          dsimp only
          have G4 := Lib.hid (World.grownBy.trans G3.out g4)
          clear g4
          go_wp2_with fail
          (with_reducible refine (refwithin_any p d hps5 hds5 _).mono ?_)
          rintro ee w' ⟨rfl, hw'⟩
          rw [hw', HWI.out]
          clear hw' w'
          dsimp only
          go_wp2
          go_ret
          exact ⟨rfl, G4.out⟩
        · subst hf
          clear hc hj
          have hqn : (q == 0) = false := by simpa using hq
          go_enter Tryd.func5, Tryd.ntmps5
          go_wp2_with fail
          (with_reducible refine (known_any m _ HM.out).mono ?_)
          rintro ee w1 ⟨rfl, g1⟩
          dsimp only
          have G1 := Lib.hid g1
          clear g1
          go_wp2_with fail
          (with_reducible refine (refclean_at dir d 0 _ (Nat.lt_of_lt_of_le HW.out G1.out.size) HC.out).mono ?_)
          rintro ee w2 ⟨rfl, g2⟩
          dsimp only
          have G2 := Lib.hid (World.grownBy.trans G1.out g2)
          clear g2
          go_wp2_with fail
          (with_reducible refine (join_at m d s p q _ hds5 hs5 (G2.out.cell HM.out (by simp)) HJ.out).mono ?_)
          rintro ee w3 ⟨rfl, g3⟩
          dsimp only
          have G3 := Lib.hid (World.grownBy.trans G2.out g3)
          clear g3
          go_wp2_with fail
          (with_reducible refine (refjoin_at d s p q _ hds hs5 (Nat.lt_of_lt_of_le HW.out G3.out.size) HJ.out).mono ?_)
          rintro ee w4 ⟨rfl, g4⟩
          dsimp only
          have G4 := Lib.hid (World.grownBy.trans G3.out g4)
          clear g4
          go_wp2
          go_ret
          exact ⟨rfl, G4.out⟩
      · clear hc
        have hfn : (f == 0) = false := by simpa using hf
        go_enter Tryd.func5, Tryd.ntmps5
        go_wp2_with fail
        (with_reducible refine (known_any m _ HM.out).mono ?_)
        rintro ee w1 ⟨rfl, g1⟩
        dsimp only
        have G1 := Lib.hid g1
        clear g1
        go_wp2_with fail
        (with_reducible refine (refclean_at dir d f _ (Nat.lt_of_lt_of_le HW.out G1.out.size) HC.out).mono ?_)
        rintro ee w2 ⟨rfl, g2⟩
        dsimp only
        have G2 := Lib.hid (World.grownBy.trans G1.out g2)
        clear g2
        go_wp2
        go_ret
        exact ⟨rfl, G2.out⟩
end Go.Proofs.YtghfnmnjomdacaaDoor
