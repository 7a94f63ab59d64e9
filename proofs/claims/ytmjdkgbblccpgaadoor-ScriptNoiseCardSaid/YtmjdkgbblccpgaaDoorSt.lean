/- The words of a line, as package script tells them. -/
import Derived.Test.YtmjdkgbblccpgaaDoorSs
import Derived.Shelf.Strings.SlTrimAscii
import Derived.Lib.SmallJoins
namespace Go.Proofs.YtmjdkgbblccpgaaDoor
open Go.RowKit

theorem blk_has (c : UInt8) : ([32, 9] : List UInt8).contains c = blk c := by
  unfold blk
  by_cases h1 : c = 32
  · subst h1; rfl
  · by_cases h2 : c = 9
    · subst h2; rfl
    · simp [h1, h2]
theorem trim_has (l : List UInt8) : Lib.trimLeftS l [32, 9] = trimB l := by
  unfold Lib.trimLeftS trimB
  rw [show (fun x : UInt8 => ([32, 9] : List UInt8).contains x) = blk from funext blk_has]
theorem info_set : (Tryd.prog.info? 68).map (fun i => (i.zero, i.size)) = some (some (.agg (Array.replicate 256 (.bool false))), 256) := by kernel_rfl
theorem trim_blank (t : ByteArray) (w : World) :
    Calls Tryd.prog 18 #[.string t, .string ⟨#[32, 9]⟩] w fun e w' => e = .returned (.string (toB (trimB t.data.toList))) ∧ w.grownBy w' none := by
  refine (Any.strings_TrimLeft_laid Tryd.lays161 info_set t ⟨#[32, 9]⟩ w (by decide) (fun j b hj => ?_)).mono fun e w' h => ⟨?_, grown_of_below h.2⟩
  · match j with
    | 0 => obtain rfl := Option.some.inj hj; decide
    | 1 => obtain rfl := Option.some.inj hj; decide
    | j + 2 => cases hj
  · rw [h.1, ← trim_has]; rfl
/-- Where the first word ends. -/
theorem any_plain (l : List UInt8) : (plainR l = [] ∧ Lib.indexAny l [32, 9] = -1 ∧ plainW l = l) ∨ (plainR l ≠ [] ∧ Lib.indexAny l [32, 9] = ((plainW l).length : Int)) := by
  have hno : ∀ k, k ≤ (plainW l).length → Lib.NoAny l [32, 9] k := by
    intro k hk j b hj hb
    have hm : b ∈ plainW l := by
      have : (plainW l)[j]? = some b := by
        have e : plainW l ++ plainR l = l := List.takeWhile_append_dropWhile
        rw [← e, List.getElem?_append_left (by omega)] at hb
        exact hb
      exact List.mem_of_getElem? this
    have := List.all_takeWhile (p := fun c => !blk c) (l := l)
    rw [List.all_eq_true] at this
    have h2 := this b hm
    rw [blk_has]
    simpa using h2
  by_cases h : plainR l = []
  · have e : plainW l = l := by
      have := List.takeWhile_append_dropWhile (p := fun c => !blk c) (l := l)
      unfold plainR at h
      rw [h, List.append_nil] at this
      exact this
    exact .inl ⟨h, Lib.indexAny_none (hno _ (by rw [e]; exact Nat.le_refl _)), e⟩
  · refine .inr ⟨h, ?_⟩
    obtain ⟨c, r, hc⟩ := List.exists_cons_of_ne_nil h
    have e : plainW l ++ plainR l = l := List.takeWhile_append_dropWhile
    have hat : l[(plainW l).length]? = some c := by
      rw [hc] at e
      have h2 : (plainW l ++ c :: r)[(plainW l).length]? = some c := by simp
      rw [e] at h2
      exact h2
    have hb : blk c = true := by
      have := List.head?_dropWhile_not (fun c => !blk c) l
      unfold plainR at hc
      rw [hc] at this
      simpa using this
    exact Lib.indexAny_hit (hno _ (Nat.le_refl _)) hat (by rw [blk_has]; exact hb)
theorem plain_take (l : List UInt8) : plainW l = l.take (plainW l).length ∧ plainR l = l.drop (plainW l).length := by
  have e : plainW l ++ plainR l = l := List.takeWhile_append_dropWhile
  constructor
  · conv => rhs; arg 2; rw [← e]
    simp
  · conv => rhs; arg 2; rw [← e]
    simp
theorem extract_take (u : ByteArray) (k : Nat) : u.extract 0 k = toB (u.data.toList.take k) := by
  apply bytes_ext
  rw [data_toB, ByteArray.data_extract, Array.toList_extract]
  simp
theorem extract_drop (u : ByteArray) (k : Nat) : u.extract k u.size = toB (u.data.toList.drop k) := by
  apply bytes_ext
  rw [data_toB]; exact Lib.extract_to_end _ _

theorem prefix_one (c d : UInt8) (r : List UInt8) : Lib.hasPrefix (c :: r) [d] = (c == d) := by
  unfold Lib.hasPrefix
  simp only [List.isPrefixOf, Bool.and_true]
  exact Bool.beq_comm
theorem quoteL_suffix (l t r : List UInt8) (h : quoteL l = some (t, r)) : ∃ p, l = p ++ r := by
  have H : ∀ (n : Nat) (l t r : List UInt8), l.length ≤ n → quoteL l = some (t, r) → ∃ p, l = p ++ r := by
    intro n
    induction n with
    | zero =>
      intro l t r hl h
      obtain rfl : l = [] := List.eq_nil_of_length_eq_zero (by omega)
      simp [quoteL] at h
    | succ n ih =>
      intro l t r hl h
      cases l with
      | nil => simp [quoteL] at h
      | cons c q =>
        rw [quoteL.eq_def] at h
        simp only at h
        simp only [List.length_cons] at hl
        split at h
        · simp only [Option.some.injEq, Prod.mk.injEq] at h
          exact ⟨[c], by rw [h.2]; rfl⟩
        · split at h
          · cases q with
            | nil => simp at h
            | cons e q' =>
              simp only at h
              cases he : escB e with
              | none => rw [he] at h; simp at h
              | some d =>
                rw [he] at h
                simp only [Option.map_eq_some_iff] at h
                obtain ⟨⟨t2, r2⟩, h1, h2⟩ := h
                simp only [Prod.mk.injEq] at h2
                obtain ⟨rfl, rfl⟩ := h2
                simp only [List.length_cons] at hl
                obtain ⟨p, hp⟩ := ih q' t2 r2 (by omega) h1
                exact ⟨c :: e :: p, by rw [hp]; rfl⟩
          · simp only [Option.map_eq_some_iff] at h
            obtain ⟨⟨t2, r2⟩, h1, h2⟩ := h
            simp only [Prod.mk.injEq] at h2
            obtain ⟨rfl, rfl⟩ := h2
            obtain ⟨p, hp⟩ := ih q t2 r2 (by omega) h1
            exact ⟨c :: p, by rw [hp]; rfl⟩
  exact H l.length l t r (Nat.le_refl _) h
def WordsTo (s t : ByteArray) (A : List (List UInt8)) : Prop := wordsL s.data.toList = (wordsL t.data.toList).map fun x => A ++ x
theorem WordsTo.start (s : ByteArray) : WordsTo s s [] := by
  unfold WordsTo
  cases wordsL s.data.toList <;> rfl
theorem WordsTo.step {s t u : ByteArray} {A : List (List UInt8)} {x : List UInt8} (h : WordsTo s t A) (e : wordsL t.data.toList = (wordsL u.data.toList).map fun y => x :: y) : WordsTo s u (A ++ [x]) := by
  unfold WordsTo at h ⊢
  rw [h, e]
  cases wordsL u.data.toList <;> simp
theorem WordsTo.no {s t : ByteArray} {A : List (List UInt8)} (h : WordsTo s t A) (e : wordsL t.data.toList = none) : wordsL s.data.toList = none := by
  unfold WordsTo at h
  rw [h, e]; rfl
theorem WordsTo.done {s t : ByteArray} {A : List (List UInt8)} (h : WordsTo s t A) (e : trimB t.data.toList = []) : wordsL s.data.toList = some A := by
  unfold WordsTo at h
  rw [h, wordsL_trim, e, wordsL_nil]
  simp
def WordsRet (s : ByteArray) (w : World) (e : Ending) (w' : World) : Prop :=
  w.grownBy w' none ∧ ((∃ L v, wordsL s.data.toList = some L ∧ e = .returned (.tuple #[v, .bool true]) ∧ OwnsS w' w.heap.size v (L.map toB)) ∨ (wordsL s.data.toList = none ∧ e = .returned (.tuple #[.slice none 0 0, .bool false])))

set_option maxRecDepth 1000000
set_option maxHeartbeats 4000000 in
theorem words_any (s : ByteArray) (w : World) (hs : s.size ≤ 1000000) : Calls Tryd.prog 9 #[.string s] w (WordsRet s w) := by
  go_enter Tryd.func9, Tryd.ntmps9
  go_wp2
  go_loopg [0, 4] s.size (fun g a b wr => ∃ (t : ByteArray) (ad : Option Addr) (m cp : Nat) (A : List (List UInt8)), t.size ≤ g ∧ a = .string t ∧ b = .slice ad m cp ∧ Hid (A.length + t.size ≤ s.size) ∧ Hid (OwnsS wr w.heap.size (.slice ad m cp) (A.map toB)) ∧ Hid (w.grownBy wr none) ∧ Hid (WordsTo s t A))
  case atStart => exact ⟨s, none, 0, 0, [], Nat.le_refl _, rfl, rfl, by (show [].length + _ ≤ _; simp), OwnsS.nil _ _, World.grownBy.refl _ _, WordsTo.start s⟩
  case round =>
    obtain ⟨t, ad, m, cp, A, hg, rfl, rfl, hA, hO, hG, hW⟩ := hrel
    go_wp2_with fail
    (with_reducible refine (trim_blank t _).mono ?_)
    rintro ee w1 ⟨rfl, g1⟩
    dsimp only
    have HG1 := Lib.hid (World.grownBy.trans hG.out g1)
    have HO1 := Lib.hid (hO.out.stays g1)
    clear g1
    have hts : t.size ≤ 1000000 := by have := hA.out; omega
    have htl := trimB_len t.data.toList
    rw [data_len] at htl
    obtain ⟨l, hl⟩ : ∃ l, trimB t.data.toList = l := ⟨_, rfl⟩
    cases l with
    | nil =>
      have HL := Lib.hid hl
      rw [hl]
      have e0 : toB [] = ⟨#[]⟩ := rfl
      rw [e0]
      clear hl htl e0
      go_wp2
      go_ret2
      exact ⟨HG1.out, .inl ⟨A, _, hW.out.done HL.out, rfl, HO1.out⟩⟩
    | cons c r =>
      have hb := trimB_head _ c r hl
      rw [hl] at htl ⊢
      obtain ⟨u, hu⟩ : ∃ u, toB (c :: r) = u := ⟨_, rfl⟩
      rw [hu]
      have hud : u.data.toList = c :: r := by rw [← hu, data_toB]
      have hus : u.size = r.length + 1 := by rw [← data_len, hud]; simp
      have HW : Hid (WordsTo s u A) := by
        show WordsTo s u A
        have := hW.out
        unfold WordsTo at this ⊢
        rw [this, wordsL_trim, hl, hud]
      have hu0 : ¬ u = ⟨#[]⟩ := by rintro rfl; cases hud
      have f1 := empty_no u hu0
      have f2 := ne_list u [] hu0
      obtain ⟨g, rfl⟩ : ∃ g, gk = g + 1 := ⟨gk - 1, by simp at htl; omega⟩
      simp only [List.length_cons] at htl
      have HUD := Lib.hid hud
      have HB := Lib.hid hb
      clear hud hb hl hu hu0
      go_wp2_with fail
      (with_reducible refine (any_blank u _ (by omega)).mono ?_)
      rintro ee w2 ⟨rfl, g2⟩
      dsimp only
      have HG2 := Lib.hid (World.grownBy.trans HG1.out g2)
      have HO2 := Lib.hid (HO1.out.stays g2)
      clear g2
      have hkl : ∃ k : Nat, k = (plainW (c :: r)).length ∧ 1 ≤ k ∧ k ≤ u.size ∧ Hid (plainR (c :: r) = u.data.toList.drop k) ∧ Hid (plainW (c :: r) = u.data.toList.take k) ∧ ((Lib.indexAny u.data.toList [32, 9] = -1 ∧ k = u.size) ∨ (Lib.indexAny u.data.toList [32, 9] = (k : Int))) := by
        refine ⟨_, rfl, ?_, ?_, ?_, ?_, ?_⟩
        · unfold plainW
          rw [List.takeWhile_cons, HB.out]
          simp
        · rw [hus]
          exact (List.takeWhile_sublist _).length_le
        · show _ = _
          rw [HUD.out]; exact (plain_take _).2
        · show _ = _
          rw [HUD.out]; exact (plain_take _).1
        · rw [HUD.out]
          rcases any_plain (c :: r) with ⟨h1, h2, h3⟩ | ⟨_, h2⟩
          · exact .inl ⟨h2, by rw [h3, hus]; rfl⟩
          · exact .inr h2
      obtain ⟨k, -, hk1, hku, HR, HT, hidx⟩ := hkl
      have h34 : Hid (Lib.hasPrefix u.data.toList (⟨#[34]⟩ : ByteArray).data.toList = (c == 34)) := by
        show _ = _
        rw [HUD.out]
        exact prefix_one c 34 r
      have HUS := Lib.hid hus
      have hus2 : u.size ≤ t.size := by omega
      clear hus
      rcases hidx with ⟨h1, h2⟩ | h1
      · rw [h1]
        clear h1
        subst h2
        go_wp2_with fail
        (with_reducible refine (Tryd.strings_HasPrefix u ⟨#[34]⟩ _).mono ?_)
        rintro ee w3 ⟨rfl, hw3⟩
        rw [hw3, h34.out]
        clear hw3 w3
        dsimp only
        by_cases hc : c = 34
        · subst hc
          rw [show ((34 : UInt8) == 34) = true from rfl]
          go_wp2_with fail
          (with_reducible refine (unquoted_any u _ (by omega)).mono ?_)
          rintro ee w4 ⟨g4, hcase⟩
          have HG4 := Lib.hid (World.grownBy.trans HG2.out g4)
          have HO4 := Lib.hid (HO2.out.stays g4)
          clear g4
          have hq : u.data.toList.drop 1 = r := by rw [HUD.out]; rfl
          rw [hq] at hcase
          rcases hcase with ⟨x, rest, hq1, hq2, rfl⟩ | ⟨hno, x, n, rfl⟩
          · dsimp only
            have hlen := quoteL_len r.length r x rest (Nat.le_refl _) hq1
            have hsuf := quoteL_suffix r x rest hq1
            obtain ⟨q, hqq⟩ : ∃ q, u.size - rest.length = q := ⟨_, rfl⟩
            have hrd : u.extract q u.size = toB rest := by
              rw [extract_drop, ← hqq, HUD.out, HUS.out]
              obtain ⟨p, hp⟩ := hsuf
              rw [hp]
              congr 1
              have e : (p ++ rest).length + 1 - rest.length = (34 :: p).length := by simp; omega
              rw [e, ← List.cons_append]
              simp
            have hq3 : q ≤ u.size := by omega
            have HST : Hid (WordsTo s (toB rest) (A ++ [34 :: x])) := HW.out.step (by
              rw [HUD.out, wordsL_quote, hq1, data_toB]
              simp only
              rw [if_pos hq2])
            have HWD : Hid ((⟨#[34]⟩ : ByteArray) ++ toB x = toB (34 :: x)) := by
              show _ = _
              apply bytes_ext
              rw [data_toB, Go.Joins.data_append, data_toB]
              rfl
            have hrs : (toB rest).size = rest.length := by rw [← data_len, data_toB]
            have HRS := Lib.hid hrs
            have hx9 : (toB x).size ≤ 1000000 := by
              have := data_len (toB x)
              rw [data_toB] at this
              omega
            have HRD := Lib.hid hrd
            have HLEN := Lib.hid hlen.2
            rw [hqq]
            clear hq hq1 hq2 hlen hsuf hrs hrd hqq
            go_wp2_with (at_builtin; go_must (with_reducible refine app_str (o := ⟨some 40, _, _, _, _, _⟩) rfl _ _ rfl w.heap.size (w4.heap.size + 1) (.slice ad m cp) _ (A.map toB) [(⟨#[34]⟩ : ByteArray) ++ toB x] ?_ (HO4.out.alloc _) ?_ (part_str w4 _ 9) ?_ ?_ ?_); go_must (exact rfl); go_must (exact rfl); go_must ((have := hA.out; simp; omega)); go_must ((have := HG4.out.size; rw [alloc_size]; omega)); (intro v2 w5 ho5 hg5); have HO5 := Lib.hid ho5; have HG5 := Lib.hid (HO4.out.alloc (.cells #[.string ((⟨#[34]⟩ : ByteArray) ++ toB x)] 9) |>.grown (World.grownBy.trans HG4.out (World.grownBy_alloc _ _ _)) hg5); clear ho5 hg5)
            go_roundg g
            case measure => omega
            case rel =>
              obtain ⟨ad2, cp2, e1, e2, e3⟩ := HO5.out.form
              have hl := HLEN.out
              have hr := HRS.out
              refine ⟨toB rest, ad2, _, cp2, A ++ [34 :: x], by omega, by rw [HRD.out], e1, ?_, ?_, HG5.out, HST.out⟩
              · show _ ≤ _
                have := hA.out
                simp
                omega
              · show OwnsS _ _ _ _
                rw [List.map_append, List.map_cons, List.map_nil, ← HWD.out, ← e1]
                exact HO5.out
          · dsimp only
            have HNO : Hid (wordsL s.data.toList = none) := HW.out.no (by
              rw [HUD.out, wordsL_quote]
              cases hqr : quoteL r with
              | none => rfl
              | some p =>
                simp only
                rw [if_neg (by rw [hno p.1 p.2 hqr]; simp)])
            clear hno hq
            go_wp2
            go_ret2
            exact ⟨HG4.out, .inr ⟨HNO.out, rfl⟩⟩
        · rw [show (c == 34) = false from beq_eq_false_iff_ne.2 hc]
          have HST : Hid (WordsTo s (u.extract u.size u.size) (A ++ [plainW (c :: r)])) := HW.out.step (by
            rw [HUD.out, wordsL_plain c r HB.out hc, HR.out, extract_drop, data_toB])
          have HWD : Hid (u = toB (plainW (c :: r))) := by
            show _ = _
            rw [HT.out, ← extract_take]; exact (ByteArray.extract_zero_size).symm
          have HXS : Hid ((u.extract u.size u.size).size = u.size - u.size) := by
            show _ = _
            rw [ByteArray.size_extract]; omega
          clear hc
          go_wp2_with (at_builtin; go_must (with_reducible refine app_str (o := ⟨some 40, _, _, _, _, _⟩) rfl _ _ rfl w.heap.size (w2.heap.size + 1) (.slice ad m cp) _ (A.map toB) [u] ?_ (HO2.out.alloc _) ?_ (part_str w2 _ 9) ?_ ?_ ?_); go_must (exact rfl); go_must (exact rfl); go_must ((have := hA.out; simp; omega)); go_must ((have := HG2.out.size; rw [alloc_size]; omega)); (intro v2 w5 ho5 hg5); have HO5 := Lib.hid ho5; have HG5 := Lib.hid (HO2.out.alloc (.cells #[.string (u)] 9) |>.grown (World.grownBy.trans HG2.out (World.grownBy_alloc _ _ _)) hg5); clear ho5 hg5)
          go_roundg g
          case measure => omega
          case rel =>
            obtain ⟨ad2, cp2, e1, e2, e3⟩ := HO5.out.form
            have hx := HXS.out
            have hu := HUS.out
            refine ⟨u.extract u.size u.size, ad2, _, cp2, A ++ [plainW (c :: r)], by omega, by rw [ByteArray.extract_eq_empty_iff.2 (Nat.min_le_left _ _)], e1, ?_, ?_, HG5.out, HST.out⟩
            · show _ ≤ _
              have := hA.out
              simp
              omega
            · show OwnsS _ _ _ _
              rw [List.map_append, List.map_cons, List.map_nil, ← HWD.out, ← e1]
              exact HO5.out
      · rw [h1]
        clear h1
        go_wp2_with fail
        (with_reducible refine (Tryd.strings_HasPrefix u ⟨#[34]⟩ _).mono ?_)
        rintro ee w3 ⟨rfl, hw3⟩
        rw [hw3, h34.out]
        clear hw3 w3
        dsimp only
        by_cases hc : c = 34
        · subst hc
          rw [show ((34 : UInt8) == 34) = true from rfl]
          go_wp2_with fail
          (with_reducible refine (unquoted_any u _ (by omega)).mono ?_)
          rintro ee w4 ⟨g4, hcase⟩
          have HG4 := Lib.hid (World.grownBy.trans HG2.out g4)
          have HO4 := Lib.hid (HO2.out.stays g4)
          clear g4
          have hq : u.data.toList.drop 1 = r := by rw [HUD.out]; rfl
          rw [hq] at hcase
          rcases hcase with ⟨x, rest, hq1, hq2, rfl⟩ | ⟨hno, x, n, rfl⟩
          · dsimp only
            have hlen := quoteL_len r.length r x rest (Nat.le_refl _) hq1
            have hsuf := quoteL_suffix r x rest hq1
            obtain ⟨q, hqq⟩ : ∃ q, u.size - rest.length = q := ⟨_, rfl⟩
            have hrd : u.extract q u.size = toB rest := by
              rw [extract_drop, ← hqq, HUD.out, HUS.out]
              obtain ⟨p, hp⟩ := hsuf
              rw [hp]
              congr 1
              have e : (p ++ rest).length + 1 - rest.length = (34 :: p).length := by simp; omega
              rw [e, ← List.cons_append]
              simp
            have hq3 : q ≤ u.size := by omega
            have HST : Hid (WordsTo s (toB rest) (A ++ [34 :: x])) := HW.out.step (by
              rw [HUD.out, wordsL_quote, hq1, data_toB]
              simp only
              rw [if_pos hq2])
            have HWD : Hid ((⟨#[34]⟩ : ByteArray) ++ toB x = toB (34 :: x)) := by
              show _ = _
              apply bytes_ext
              rw [data_toB, Go.Joins.data_append, data_toB]
              rfl
            have hrs : (toB rest).size = rest.length := by rw [← data_len, data_toB]
            have HRS := Lib.hid hrs
            have hx9 : (toB x).size ≤ 1000000 := by
              have := data_len (toB x)
              rw [data_toB] at this
              omega
            have HRD := Lib.hid hrd
            have HLEN := Lib.hid hlen.2
            rw [hqq]
            clear hq hq1 hq2 hlen hsuf hrs hrd hqq
            go_wp2_with (at_builtin; go_must (with_reducible refine app_str (o := ⟨some 40, _, _, _, _, _⟩) rfl _ _ rfl w.heap.size (w4.heap.size + 1) (.slice ad m cp) _ (A.map toB) [(⟨#[34]⟩ : ByteArray) ++ toB x] ?_ (HO4.out.alloc _) ?_ (part_str w4 _ 9) ?_ ?_ ?_); go_must (exact rfl); go_must (exact rfl); go_must ((have := hA.out; simp; omega)); go_must ((have := HG4.out.size; rw [alloc_size]; omega)); (intro v2 w5 ho5 hg5); have HO5 := Lib.hid ho5; have HG5 := Lib.hid (HO4.out.alloc (.cells #[.string ((⟨#[34]⟩ : ByteArray) ++ toB x)] 9) |>.grown (World.grownBy.trans HG4.out (World.grownBy_alloc _ _ _)) hg5); clear ho5 hg5)
            go_roundg g
            case measure => omega
            case rel =>
              obtain ⟨ad2, cp2, e1, e2, e3⟩ := HO5.out.form
              have hl := HLEN.out
              have hr := HRS.out
              refine ⟨toB rest, ad2, _, cp2, A ++ [34 :: x], by omega, by rw [HRD.out], e1, ?_, ?_, HG5.out, HST.out⟩
              · show _ ≤ _
                have := hA.out
                simp
                omega
              · show OwnsS _ _ _ _
                rw [List.map_append, List.map_cons, List.map_nil, ← HWD.out, ← e1]
                exact HO5.out
          · dsimp only
            have HNO : Hid (wordsL s.data.toList = none) := HW.out.no (by
              rw [HUD.out, wordsL_quote]
              cases hqr : quoteL r with
              | none => rfl
              | some p =>
                simp only
                rw [if_neg (by rw [hno p.1 p.2 hqr]; simp)])
            clear hno hq
            go_wp2
            go_ret2
            exact ⟨HG4.out, .inr ⟨HNO.out, rfl⟩⟩
        · rw [show (c == 34) = false from beq_eq_false_iff_ne.2 hc]
          have HST : Hid (WordsTo s (u.extract k u.size) (A ++ [plainW (c :: r)])) := HW.out.step (by
            rw [HUD.out, wordsL_plain c r HB.out hc, HR.out, extract_drop, data_toB])
          have HWD : Hid (u.extract 0 k = toB (plainW (c :: r))) := by
            show _ = _
            rw [HT.out, ← extract_take]
          have HXS : Hid ((u.extract k u.size).size = u.size - k) := by
            show _ = _
            rw [ByteArray.size_extract]; omega
          clear hc
          go_wp2_with (at_builtin; go_must (with_reducible refine app_str (o := ⟨some 40, _, _, _, _, _⟩) rfl _ _ rfl w.heap.size (w2.heap.size + 1) (.slice ad m cp) _ (A.map toB) [u.extract 0 k] ?_ (HO2.out.alloc _) ?_ (part_str w2 _ 9) ?_ ?_ ?_); go_must (exact rfl); go_must (exact rfl); go_must ((have := hA.out; simp; omega)); go_must ((have := HG2.out.size; rw [alloc_size]; omega)); (intro v2 w5 ho5 hg5); have HO5 := Lib.hid ho5; have HG5 := Lib.hid (HO2.out.alloc (.cells #[.string (u.extract 0 k)] 9) |>.grown (World.grownBy.trans HG2.out (World.grownBy_alloc _ _ _)) hg5); clear ho5 hg5)
          go_roundg g
          case measure => omega
          case rel =>
            obtain ⟨ad2, cp2, e1, e2, e3⟩ := HO5.out.form
            have hx := HXS.out
            have hu := HUS.out
            refine ⟨u.extract k u.size, ad2, _, cp2, A ++ [plainW (c :: r)], by omega, rfl, e1, ?_, ?_, HG5.out, HST.out⟩
            · show _ ≤ _
              have := hA.out
              simp
              omega
            · show OwnsS _ _ _ _
              rw [List.map_append, List.map_cons, List.map_nil, ← HWD.out, ← e1]
              exact HO5.out
end Go.Proofs.YtmjdkgbblccpgaaDoor
