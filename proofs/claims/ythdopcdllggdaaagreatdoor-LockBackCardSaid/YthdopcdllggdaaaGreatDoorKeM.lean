/- The chapter's example. -/
import Derived.Test.YthdopcdllggdaaaGreatDoorKdM
namespace Go.Proofs.YthdopcdllggdaaaGreatDoor
open Go.RowKit
attribute [local irreducible] wpQuiet

theorem Wok.max {m : Int} {w : World} (h : Wok m w) : MaxAt m w := h.len
def zeroK : Array UInt8 := Array.replicate 32 0
theorem zeroK_size : zeroK.size = 32 := by simp [zeroK]
def verOne : Vn := ⟨1, 0, 0, []⟩
theorem one_parse : parseS ⟨#[49, 46, 48, 46, 48]⟩ = (verOne, 0) := by
  have h := nums_parse 1 0 0 (by omega) (by omega) (by omega)
  have e : numsS 1 0 0 = ⟨#[49, 46, 48, 46, 48]⟩ := by decide +kernel
  rw [e] at h
  exact h
/-- The example's pin. -/
def pA (a : Option Addr) (c : Nat) : Pc := ⟨⟨#[97]⟩, verOne, a, c, zeroK, zeroK_size⟩
theorem good_pA (a : Option Addr) (c : Nat) : Good (pA a c) := good_nums (pA a c) (show okName ⟨#[97]⟩ = true by decide) 1 0 0 rfl (by omega) (by omega) (by omega)
theorem lock_none : lockS ⟨#[108, 111, 99, 107, 32, 49, 10]⟩ = .inr [] := lock_back [] (fun _ h => by cases h) trivial (by simp) (by decide)
theorem lock_x : lockS ⟨#[108, 111, 99, 107, 32, 49, 10, 120, 10]⟩ = .inl 2 := by
  have h1 : openB ⟨#[108, 111, 99, 107, 32, 49, 10, 120, 10]⟩ = true := by decide
  have h2 : (⟨#[108, 111, 99, 107, 32, 49, 10, 120, 10]⟩ : ByteArray).extract 7 9 = toB (writ [[120]]) := by decide +kernel
  unfold lockS
  rw [if_pos h1]
  show readS (linesS (ByteArray.extract _ 7 9)) 0 ⟨#[]⟩ [] = _
  rw [h2, lines_writ _ (by simp)]
  have h3 : lineB (toB [120]) = false := by
    unfold lineB
    rw [pieces_of, data_toB, cutL_plain 32 [120] (by simp)]
    rfl
  rw [List.map_cons, readS_step, if_neg (by rw [h3]; simp)]
theorem lockT_a (a : Option Addr) (c : Nat) : lockT [pA a c] = rowT [pA a c] := by
  unfold lockT
  rw [sortP_ord _ (fun i j x y hij hi hj => by
    have h1 := (List.getElem?_eq_some_iff.1 hj).1
    simp at h1
    omega)]
theorem len_a (a : Option Addr) (c : Nat) : (rowT [pA a c]).length ≤ 65536 := by
  have h1 : (rowT [pA a c]).length = 7 + (pinL (pA a c)).length := by simp [rowT, headL]; omega
  have h3 : textS verOne = ⟨#[49, 46, 48, 46, 48]⟩ := by decide +kernel
  rw [h1, pinL_line]
  unfold lineW
  show 7 + (([97] : List UInt8) ++ 32 :: ((textS verOne).data.toList ++ 32 :: Sha.hexL zeroK.toList) ++ [10]).length ≤ 65536
  rw [h3]
  simp [Sha.hexL_len, zeroK]
theorem lock_a (a : Option Addr) (c : Nat) : lockS (toB (lockT [pA a c])) = .inr [(⟨#[97]⟩, verOne, zeroK)] := by
  rw [lockT_a, lock_back [pA a c] (fun p hp => by rw [List.mem_singleton.1 hp]; exact good_pA a c) ⟨less_empty ⟨#[97]⟩ (by decide), trivial⟩ (by simp) (len_a a c)]
  rfl
theorem PartP.empty {w : World} {B : Nat} (h : 0 < B) : PartP w B (.slice none 0 0) [] := ⟨none, 0, 0, 0, rfl, by simp, (fun _ => rfl), h, (fun h => by simp at h), fun k p hk => by simp at hk⟩
theorem AllAt.empty (w : World) (B : Nat) : AllAt w B [] := fun p hp => by cases hp
theorem same_of (p q : Pc) (h : mp p = mp q) : sameB p q = true := by
  have h1 : p.name = q.name := congrArg (·.1) h
  have h2 : p.v = q.v := congrArg (·.2.1) h
  have h3 : p.key = q.key := congrArg (·.2.2) h
  unfold sameB
  rw [h1, h2, h3]
  simp
theorem all_same (L M : List Pc) (h : L.map mp = M.map mp) : allB sameB L M = true := by
  refine allB_yes sameB L M (by have := congrArg List.length h; simpa using this) (fun i p q hp hq => same_of p q ?_)
  have h2 : (L.map mp)[i]? = (M.map mp)[i]? := by rw [h]
  rw [List.getElem?_map, List.getElem?_map, hp, hq] at h2
  exact Option.some.inj h2
set_option maxRecDepth 1000000
set_option maxHeartbeats 4000000 in
theorem known_any (m : Int) (w : World) (hw : Wok m w) : Calls Tryz.prog 5 #[] w fun e w' => e = .returned (.bool true) ∧ w.grownBy w' none := by
  have HW := Lib.hid hw
  clear hw
  go_enter Tryz.func5, Tryz.ntmps5
  go_wp2_with fail
  (with_reducible refine (lParse_any m ⟨#[108, 111, 99, 107, 32, 49, 10]⟩ w (by decide) HW.out.max).mono ?_)
  rintro ee w1 ⟨hg, ⟨k, h1, rfl⟩ | ⟨v1, L1, h1, rfl, h2, h3⟩⟩
  · rw [lock_none] at h1; cases h1
  have e0 : L1 = [] := by
    rw [lock_none] at h1
    have h1 := Sum.inr.inj h1
    cases L1 with
    | nil => rfl
    | cons a l => cases h1
  subst e0
  obtain ⟨a1, c1, e1, _, _⟩ := h2.form
  rw [List.length_nil] at e1
  subst e1
  have G1 := Lib.hid hg
  clear h1 h2 h3 hg
  dsimp only
  go_wp2_with fail
  (with_reducible refine (lParse_any m ⟨#[108, 111, 99, 107, 32, 49, 10, 120, 10]⟩ w1 (by decide) (HW.out.max.stays G1.out)).mono ?_)
  rintro ee w2 ⟨hg, ⟨k, h1, rfl⟩ | ⟨v1, L1, h1, rfl, h2, h3⟩⟩
  case inr => rw [lock_x] at h1; cases h1
  obtain rfl : k = 2 := by rw [lock_x] at h1; exact (Sum.inl.inj h1).symm
  have G2 := Lib.hid (World.grownBy.trans G1.out hg)
  clear h1 hg
  dsimp only
  go_wp2_with fail
  (with_reducible refine (refParse_new m ⟨#[49, 46, 48, 46, 48]⟩ w2 (by decide)).mono ?_)
  rintro ee w3 ⟨sl, rfl, hP3, hg3, hnw3⟩
  rw [one_parse] at hP3 ⊢
  have G3 := Lib.hid (World.grownBy.trans G2.out hg3)
  have HP3 := Lib.hid hP3
  obtain ⟨sa, sc, hsl, _, _⟩ := hP3.form
  subst hsl
  clear hP3 hg3 hnw3
  simp only [verV]
  go_wp2_with fail
  obtain ⟨W5, hW5⟩ : ∃ W5, ((w3.alloc (.cells #[.int .i64 verOne.maj, .int .i64 verOne.min, .int .i64 verOne.pat, .slice sa verOne.pre.length sc] 28)).alloc (.cells (pA sa sc).enc.toArray 35)) = W5 := ⟨_, rfl⟩
  have hb5 : W5.heap[w3.heap.size + 1]? = some (.cells (pA sa sc).enc.toArray 35 (0, 0)) := by
    rw [← hW5, ← alloc_size w3 (.cells #[.int .i64 verOne.maj, .int .i64 verOne.min, .int .i64 verOne.pat, .slice sa verOne.pre.length sc] 28)]
    exact bk_alloc _ _
  have g5 : w3.grownBy W5 none := by rw [← hW5]; exact grown_alloc _ (World.grownBy_alloc _ _ _)
  have s5 : W5.heap.size = w3.heap.size + 2 := by rw [← hW5, alloc_size, alloc_size]
  have GW5 := Lib.hid (World.grownBy.trans G3.out g5)
  have HP5 : Hid (PartP W5 W5.heap.size (.slice (some ⟨w3.heap.size + 1, 0, none⟩) 1 1) [pA sa sc]) := Lib.hid ⟨some ⟨w3.heap.size + 1, 0, none⟩, 1, w3.heap.size + 1, 0, rfl, by simp, (fun h => by cases h), by omega, (fun _ => rfl), fun k p hk => by
    cases k with
    | succ k => simp at hk
    | zero =>
      obtain rfl : pA sa sc = p := by simpa using hk
      intro j u hj
      show W5.cell? ⟨w3.heap.size + 1, 0 + 0 * 37 + j, none⟩ = some u
      rw [show 0 + 0 * 37 + j = j by omega, cell_in hb5]
      simpa using hj⟩
  have HA5 : Hid (AllAt W5 W5.heap.size [pA sa sc]) := Lib.hid (fun p hp => by
    rw [List.mem_singleton.1 hp]
    exact ⟨((parse_read _ _ one_parse).at (HP3.out.stays g5)).mono g5.size, by show 1 ≤ 1000000; omega⟩)
  have HT := lockText_any m 1 1 (some ⟨w3.heap.size + 1, 0, none⟩) [pA sa sc] (fun w base g cap hO hn => stableF_small w base g 1 cap _ hO hn (by omega)) W5 (HW.out.stays GW5.out) rfl (by omega) HP5.out HA5.out
  rw [← hW5] at HT
  refine HT.mono ?_
  rintro ee w6 ⟨rfl, hg6⟩
  rw [hW5] at hg6
  have G6 := Lib.hid (World.grownBy.trans GW5.out hg6)
  have HP6 := Lib.hid ((HP5.out.stays hg6).mono hg6.size)
  have HA6 : Hid (AllAt w6 w6.heap.size [pA sa sc]) := Lib.hid (fun p hp => ((HA5.out p hp).stays hg6).mono hg6.size)
  clear HT hg6 hW5 hb5 g5 s5 HP5 HA5 HP3
  obtain ⟨gp, hgp⟩ : ∃ gp, w3.heap.size + 1 = gp := ⟨_, rfl⟩
  rw [hgp] at HP6
  obtain ⟨T, hT⟩ : ∃ T : ByteArray, (⟨(lockT [pA sa sc]).toArray⟩ : ByteArray) = T := ⟨_, rfl⟩
  have HT2 : Hid (lockS T = .inr [(⟨#[97]⟩, verOne, zeroK)]) := Lib.hid (by rw [← hT]; exact lock_a sa sc)
  have hTs : T.size ≤ 65536 := by
    rw [← hT, lockT_a]
    have h := len_a sa sc
    have e := size_toB (rowT [pA sa sc])
    unfold toB at e
    rw [e]
    exact h
  rw [hT]
  clear hT
  dsimp only
  go_wp2_with fail
  (with_reducible refine (lParse_any m T w6 (by omega) (HW.out.max.stays G6.out)).mono ?_)
  rintro ee w7 ⟨hg, ⟨k, h1, rfl⟩ | ⟨v1, L1, h1, rfl, h2, h3⟩⟩
  · rw [HT2.out] at h1; cases h1
  rw [HT2.out] at h1
  have h1 := Sum.inr.inj h1
  have HG7 := Lib.hid (World.grownBy.trans G6.out hg)
  obtain ⟨a7, c7, e7, _, _⟩ := h2.form
  have hl7 : L1.length = 1 := by have := congrArg List.length h1; simpa using this.symm
  have hP7 := h2.part (by have := hg.size; have := (HW.out.stays G6.out).pos; omega)
  rw [e7, hl7] at hP7
  rw [e7, hl7]
  have HP7 := Lib.hid hP7
  have HA7 := Lib.hid h3
  have HQ7 := Lib.hid ((HP6.out.stays hg).mono hg.size)
  have HB7 : Hid (AllAt w7 w7.heap.size [pA sa sc]) := Lib.hid (fun p hp => ((HA6.out p hp).stays hg).mono hg.size)
  have HS7 : Hid (allB sameB L1 [pA sa sc] = true) := Lib.hid (all_same _ _ h1.symm)
  have HL7 := Lib.hid hl7
  have HW7 := Lib.hid (HW.out.stays HG7.out)
  clear h1 h2 h3 hg e7 hl7 hP7 hTs HP6 HA6
  rw [hgp]
  clear hgp
  dsimp only
  go_wp2_with fail
  (with_reducible refine (same_any m w7.heap.size 1 1 c7 1 a7 (some ⟨gp, 0, none⟩) L1 [pA sa sc] w7 HW7.out (Nat.le_refl _) HL7.out rfl (by omega) (by omega) HP7.out HQ7.out HA7.out HB7.out).mono ?_)
  rw [HS7.out]
  rintro ee w8 ⟨rfl, hg⟩
  have HG8 := Lib.hid (World.grownBy.trans HG7.out hg)
  have HS8 : Hid (allB sameB L1 [] = false) := Lib.hid (allB_len sameB L1 [] (by rw [HL7.out]; simp))
  have HP8 := Lib.hid ((HP7.out.stays hg).mono hg.size)
  have HA8 : Hid (AllAt w8 w8.heap.size L1) := Lib.hid (fun p hp => ((HA7.out p hp).stays hg).mono hg.size)
  have HW8 := Lib.hid (HW.out.stays HG8.out)
  clear hg
  dsimp only
  go_wp2_with fail
  (with_reducible refine (same_any m w8.heap.size 1 0 c7 0 a7 none L1 [] w8 HW8.out (Nat.le_refl _) HL7.out rfl (by omega) (by omega) HP8.out (PartP.empty HW8.out.pos) HA8.out (AllAt.empty _ _)).mono ?_)
  rw [HS8.out]
  rintro ee w9 ⟨rfl, hg⟩
  have HG9 := Lib.hid (World.grownBy.trans HG8.out hg)
  clear hg
  dsimp only
  go_wp2
  go_ret
  exact ⟨rfl, HG9.out⟩
end Go.Proofs.YthdopcdllggdaaaGreatDoor
