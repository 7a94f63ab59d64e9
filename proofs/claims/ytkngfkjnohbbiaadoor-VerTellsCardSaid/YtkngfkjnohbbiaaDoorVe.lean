/- A version, read: as package ver tells it. -/
import Derived.Test.YtkngfkjnohbbiaaDoorVd
namespace Go.Proofs.YtkngfkjnohbbiaaDoor
open Go.RowKit

/-- A version: three numbers, and marks. -/
structure Vn where
  maj : Int
  min : Int
  pat : Int
  pre : List ByteArray
deriving DecidableEq
def verV (v : Vn) (sl : Value) : Value := .agg #[.int .i64 v.maj, .int .i64 v.min, .int .i64 v.pat, sl]
def zeroV : Vn := ⟨0, 0, 0, []⟩
/-- A number that a version may have. -/
def okNum (p : ByteArray) : Bool := isNum p && decide (p.size ≤ 9)
/-- What stands ahead of the first -, behind it, and whether there is one. -/
def dashS (s : ByteArray) : ByteArray × ByteArray × Bool := (toB (Lib.cut s.data.toList [45]).1, toB (Lib.cut s.data.toList [45]).2.1, (Lib.cut s.data.toList [45]).2.2)
/-- A version's parts, whether they make one. -/
def okVer (P : List ByteArray) (marks : ByteArray) (marked : Bool) : Bool := decide (P.length = 3) && P.all okNum && (!marked || okMarks (pieces 46 marks))
def preOf (marks : ByteArray) (marked : Bool) : List ByteArray := if marked = true then pieces 46 marks else []
def parseP (P : List ByteArray) (marks : ByteArray) (marked : Bool) : Vn × Int :=
  if okVer P marks marked = true then (⟨num (strAt P 0), num (strAt P 1), num (strAt P 2), preOf marks marked⟩, 0) else (zeroV, 60)
/-- THE DOCUMENT's VERSION, OR NONE. -/
def parseS (s : ByteArray) : Vn × Int := parseP (pieces 46 (dashS s).1) (dashS s).2.1 (dashS s).2.2
def VerRet (w : World) (R : Vn × Int) (e : Ending) (w' : World) : Prop :=
  ∃ sl, e = .returned (.tuple #[verV R.1 sl, .int .i64 R.2]) ∧ PartS w' w'.heap.size sl R.1.pre ∧ w.grownBy w' none

theorem cut_any (m : Int) (s core marks : ByteArray) (marked : Bool) (w : World) (hs : s.size ≤ 8000000) (hm : w.cell? ⟨0, 0, none⟩ = some (.int .i64 m)) (h : dashS s = (core, marks, marked)) :
    Calls Tryd.prog 24 #[.string s, .string ⟨#[45]⟩] w fun e w' => e = .returned (.tuple #[.string core, .string marks, .bool marked]) ∧ ∃ n, w' = w.drewN n := by
  have h1 := Tryd.strings_Cut s ⟨#[45]⟩ m w (by omega) hm
  have e1 : toB (Lib.cut s.data.toList [45]).1 = core := congrArg (·.1) h
  have e2 : toB (Lib.cut s.data.toList [45]).2.1 = marks := congrArg (·.2.1) h
  have e3 : (Lib.cut s.data.toList [45]).2.2 = marked := congrArg (·.2.2) h
  rw [← e1, ← e2, ← e3]
  exact h1
theorem split_any (s : ByteArray) (m : Int) (N : Nat) (P : List ByteArray) (w : World) (hs : s.size ≤ 8000000) (hm : w.cell? ⟨0, 0, none⟩ = some (.int .i64 m)) (hP : pieces 46 s = P) (hN : P.length = N) :
    Calls Tryd.prog 25 #[.string s, .string ⟨#[46]⟩] w fun e w' => e = .returned (.slice (some ⟨w.heap.size, 0, none⟩) N N) ∧ w' = w.alloc (.cells (P.map Value.string).toArray 9) := by
  have e : Lib.countB s ⟨#[46]⟩ + 1 = N := by rw [← hN, ← hP, pieces_len]
  rw [← e, ← hP]
  exact Tryd.strings_Split s ⟨#[46]⟩ m w (by omega) hm (by decide)

theorem block_kept {w w' : World} {b : Nat} {c : Obj} (h : w.heap[b]? = some c) (hg : w.grownBy w' none) : w'.heap[b]? = some c := by
  have hb : b < w.heap.size := by
    rcases Nat.lt_or_ge b w.heap.size with h1 | h1
    · exact h1
    · rw [Array.getElem?_eq_none h1] at h; cases h
  rw [hg.block b hb (by simp), h]
theorem alloc_block (w : World) (o : Obj) : (w.alloc o).heap[w.heap.size]? = some o := by
  show (w.heap.push o)[w.heap.size]? = some o
  simp
theorem block_cell {w : World} {b : Nat} {c : Array Value} {t : TypeId} (h : w.heap[b]? = some (.cells c t (0, 0))) (j : Nat) (v : Value) (hj : c[j]? = some v) : w.cell? ⟨b, j, none⟩ = some v ∧ w.frozen? ⟨b, j, none⟩ = false := by
  refine ⟨by rw [cell_in h, hj], ?_⟩
  simp [World.frozen?, h]
theorem block_size {w : World} {b : Nat} {o : Obj} (h : w.heap[b]? = some o) : b < w.heap.size := by
  rcases Nat.lt_or_ge b w.heap.size with h1 | h1
  · exact h1
  · rw [Array.getElem?_eq_none h1] at h; cases h

theorem PartS.other {w w' : World} {B k : Nat} {v : Value} {M : List ByteArray} (h : PartS w B v M) (hg : w.grownBy w' (some k)) (hk : v.ownBlock ≠ some k) : PartS w' B v M := by
  obtain ⟨a, cap, b, o, h1, h2, h3, h4, h5, h6⟩ := h
  refine ⟨a, cap, b, o, h1, h2, h3, h4, h5, fun j x hj => hg.cell (h6 j x hj) (fun e => hk ?_)⟩
  have hl := (List.getElem?_eq_some_iff.1 hj).1
  rw [h1, h5 (by omega), ← e]; rfl
theorem dash_size (s : ByteArray) : (dashS s).1.size ≤ s.size ∧ (dashS s).2.1.size ≤ s.size := by
  have h1 : ∀ l : List UInt8, (toB l).size = l.length := fun l => rfl
  have hl := data_len s
  unfold dashS
  simp only [h1]
  unfold Lib.cut
  split
  · simp only [List.length_take, List.length_drop]; omega
  · simp only [List.length_nil]; omega
theorem set_block {w : World} {b : Nat} {c : Array Value} {t : TypeId} {f : Nat × Nat} (h : w.heap[b]? = some (.cells c t f)) (i : Nat) (v : Value) : (w.setCell ⟨b, i, none⟩ v).heap[b]? = some (.cells (c.setIfInBounds i v) t f) := by
  simp [World.setCell, Array.getElem?_modify, h]
theorem set_grown (w : World) (b i : Nat) (v : Value) : w.grownBy (w.setCell ⟨b, i, none⟩ v) (some b) :=
  ⟨rfl, rfl, rfl, by simp [World.setCell], fun k hk hne => by
    have : ¬ b = k := fun e => hne (by rw [e])
    simp [World.setCell, Array.getElem?_modify, this]⟩
theorem grown_set {w0 w : World} {b : Nat} (h : w0.grownBy w none) (hb : w0.heap.size ≤ b) (i : Nat) (v : Value) : w0.grownBy (w.setCell ⟨b, i, none⟩ v) none := grown_new h (set_grown w b i v) hb
/-- A version is laid into the block R. -/
theorem lay_ver {w0 w : World} {R : Nat} {x0 x1 x2 x3 : Value} (h0 : w0.grownBy w none) (hb : w0.heap.size ≤ R) (hR : w.heap[R]? = some (.cells #[x0, x1, x2, x3] 25 (0, 0))) (y0 y1 y2 y3 : Value) (w' : World)
    (hw : (((w.setCell ⟨R, 0, none⟩ y0).setCell ⟨R, 1, none⟩ y1).setCell ⟨R, 2, none⟩ y2).setCell ⟨R, 3, none⟩ y3 = w') :
    w0.grownBy w' none ∧ w'.heap[R]? = some (.cells #[y0, y1, y2, y3] 25 (0, 0)) ∧ w.heap.size ≤ w'.heap.size ∧ w.grownBy w' (some R) := by
  have g1 := grown_set (grown_set (grown_set (grown_set h0 hb 0 y0) hb 1 y1) hb 2 y2) hb 3 y3
  have r1 := set_block (set_block (set_block (set_block hR 0 y0) 1 y1) 2 y2) 3 y3
  have s1 : w.grownBy ((((w.setCell ⟨R, 0, none⟩ y0).setCell ⟨R, 1, none⟩ y1).setCell ⟨R, 2, none⟩ y2).setCell ⟨R, 3, none⟩ y3) (some R) :=
    World.grownBy.trans (World.grownBy.trans (World.grownBy.trans (set_grown w R 0 y0) (set_grown _ R 1 y1)) (set_grown _ R 2 y2)) (set_grown _ R 3 y3)
  rw [hw] at g1 r1 s1
  exact ⟨g1, r1, s1.size, s1⟩

/-- The three numbers' cells: k are done, the next one stands at y. -/
def nIn (P : List ByteArray) (k : Nat) (y : Int) (j : Nat) : Int := if j < k then (num (strAt P j) : Int) else if j = k then y else 0
def numsC (P : List ByteArray) (k : Nat) (y : Int) : Array Value := #[.int .i64 (nIn P k y 0), .int .i64 (nIn P k y 1), .int .i64 (nIn P k y 2)]
theorem numsC_start (P : List ByteArray) : numsC P 0 0 = #[.int .i64 0, .int .i64 0, .int .i64 0] := rfl
theorem numsC_at (P : List ByteArray) (k : Nat) (y : Int) (h : k < 3) : (numsC P k y)[k]? = some (.int .i64 y) := by
  match k, h with
  | 0, _ => rfl
  | 1, _ => rfl
  | 2, _ => rfl
theorem numsC_set (P : List ByteArray) (k : Nat) (y z : Int) (h : k < 3) : (numsC P k y).setIfInBounds k (.int .i64 z) = numsC P k z := by
  match k, h with
  | 0, _ => rfl
  | 1, _ => rfl
  | 2, _ => rfl
theorem numsC_next (P : List ByteArray) (k : Nat) (h : k < 3) : numsC P k (num (strAt P k) : Int) = numsC P (k + 1) 0 := by
  match k, h with
  | 0, _ => rfl
  | 1, _ => rfl
  | 2, _ => rfl
theorem allTo_less (p : UInt8 → Bool) (s : ByteArray) (m : Nat) (h : allTo p s m = true) (k : Nat) (hk : k ≤ m) : allTo p s k = true := by
  induction m with
  | zero => have : k = 0 := by omega
            subst this; exact h
  | succ m ih =>
    by_cases e : k = m + 1
    · rw [e]; exact h
    · refine ih ?_ (by omega)
      rw [allTo, Bool.and_eq_true] at h
      exact h.1
theorem okNum_bound (x : ByteArray) (h : okNum x = true) (q : Nat) (hq : q ≤ x.size) : numTo x q < 1000000000 := by
  unfold okNum isNum allDig at h
  simp only [Bool.and_eq_true, decide_eq_true_eq] at h
  have h1 := numTo_lt x q (allTo_less isDig x x.size h.1.1.1 q hq)
  have h2 : (10 : Nat) ^ q ≤ 10 ^ 9 := Nat.pow_le_pow_right (by omega) (by omega)
  omega
theorem okNum_dig (x : ByteArray) (h : okNum x = true) (q : Nat) (hq : q < x.size) : isDig (byteAt x q) = true := by
  unfold okNum isNum allDig at h
  simp only [Bool.and_eq_true, decide_eq_true_eq] at h
  exact allTo_at isDig x x.size h.1.1.1 q hq
theorem okVer_no (P : List ByteArray) (marks : ByteArray) (marked : Bool) (k : Nat) (x : ByteArray) (h : P[k]? = some x) (hx : okNum x = false) : okVer P marks marked = false := by
  unfold okVer
  rw [all_no P k x okNum h hx]
  simp

set_option maxRecDepth 1000000
set_option maxHeartbeats 4000000 in
theorem parse_any (m : Int) (s : ByteArray) (w : World) (hs : s.size ≤ 2000000) (hm : w.cell? ⟨0, 0, none⟩ = some (.int .i64 m)) :
    Calls Tryd.prog 10 #[.string s] w (VerRet w (parseS s)) := by
  obtain ⟨core, marks, marked, hd⟩ : ∃ a b c, dashS s = (a, b, c) := ⟨_, _, _, rfl⟩
  obtain ⟨P, hP⟩ : ∃ P, pieces 46 core = P := ⟨_, rfl⟩
  obtain ⟨N, hN⟩ : ∃ N, P.length = N := ⟨_, rfl⟩
  have hE := Lib.hid (show parseS s = parseP P marks marked by unfold parseS; rw [hd, hP])
  have hcs : core.size ≤ 8000000 := by have := (dash_size s).1; rw [hd] at this; simp only at this; omega
  have hms : marks.size ≤ 2000000 := by have := (dash_size s).2; rw [hd] at this; simp only at this; omega
  have HD := Lib.hid hd
  have HP := Lib.hid hP
  have HN := Lib.hid hN
  have HM := Lib.hid hm
  obtain ⟨R, hR⟩ : ∃ R, w.heap.size = R := ⟨_, rfl⟩
  have HR := Lib.hid hR
  clear hd hP hN hm
  go_enter Tryd.func10, Tryd.ntmps10
  go_wp2_with fail
  have HM1 : Hid ((w.alloc (.cells #[.int .i64 0, .int .i64 0, .int .i64 0, .slice none 0 0] 25)).cell? ⟨0, 0, none⟩ = some (.int .i64 m)) := (World.grownBy_alloc w _ none).cell HM.out (by simp)
  (with_reducible refine (cut_any m s core marks marked _ (by omega) HM1.out HD.out).mono ?_)
  rintro ee w1 ⟨rfl, nn, hw1⟩
  have HG1 : Hid (w.grownBy w1 none) := by rw [hw1]; exact grown_drew nn (World.grownBy_alloc w _ none)
  have HR1 : Hid (w1.heap[R]? = some (.cells #[.int .i64 0, .int .i64 0, .int .i64 0, .slice none 0 0] 25 (0, 0))) := by rw [hw1, ← HR.out]; exact alloc_block w _
  clear hw1 HM1
  dsimp only
  go_wp2_with fail
  (with_reducible refine (split_any core m N P _ hcs (HG1.out.cell HM.out (by simp)) HP.out HN.out).mono ?_)
  rintro ee w2 ⟨rfl, hw2⟩
  have HPp : Hid (PartS w2 w2.heap.size (.slice (some ⟨w1.heap.size, 0, none⟩) N N) P) := by
    have := part_block w1 P 9 N HN.out
    rw [← hw2] at this
    exact this.le (by rw [hw2, alloc_size]; exact Nat.le_refl _)
  have HG2 : Hid (w.grownBy w2 none) := by rw [hw2]; exact grown_alloc _ HG1.out
  have HR2 : Hid (w2.heap[R]? = some (.cells #[.int .i64 0, .int .i64 0, .int .i64 0, .slice none 0 0] 25 (0, 0))) := block_kept HR1.out (by rw [hw2]; exact World.grownBy_alloc _ _ _)
  clear hw2 hR
  obtain ⟨ap, hap⟩ : ∃ a : Option Addr, some ⟨w1.heap.size, 0, none⟩ = a := ⟨_, rfl⟩
  rw [hap] at HPp ⊢
  clear hap HR1
  dsimp only
  by_cases h3 : N = 3
  · subst h3
    have HNB : Hid ((w2.alloc (.cells #[.int .i64 0, .int .i64 0, .int .i64 0] 53)).heap[w2.heap.size]? = some (.cells (numsC P 0 0) 53 (0, 0))) := alloc_block w2 _
    have HR3 := Lib.hid (block_kept HR2.out (World.grownBy_alloc w2 (.cells #[.int .i64 0, .int .i64 0, .int .i64 0] 53) none))
    have HG3 := Lib.hid (grown_alloc (.cells #[.int .i64 0, .int .i64 0, .int .i64 0] 53) HG2.out)
    have HP3 := Lib.hid (HPp.out.stays (World.grownBy_alloc w2 (.cells #[.int .i64 0, .int .i64 0, .int .i64 0] 53) none))
    have HRlt := Lib.hid (block_size HR2.out)
    go_wp2
    obtain ⟨nb, hnb⟩ : ∃ nb, w2.heap.size = nb := ⟨_, rfl⟩
    rw [hnb] at HNB HP3 HRlt ⊢
    have HGN := Lib.hid (show w.heap.size ≤ nb by rw [← hnb]; exact HG2.out.size)
    clear hnb
    go_loopw [9, 10, 28] (fun i p t wr => ∃ k : Nat, k ≤ 3 ∧ t = .int .i64 k ∧ (P.take k).all okNum = true ∧ wr.heap[nb]? = some (.cells (numsC P k 0) 53 (0, 0)) ∧ wr.heap[R]? = some (.cells #[.int .i64 0, .int .i64 0, .int .i64 0, .slice none 0 0] 25 (0, 0)) ∧ PartS wr nb (.slice ap 3 3) P ∧ w.grownBy wr none) (fun _ _ t _ => 3 - (intOf t).toNat)
    case atStart => exact ⟨0, by omega, rfl, rfl, HNB.out, HR3.out, HP3.out, HG3.out⟩
    case round =>
      obtain ⟨k, hk, rfl, ho, hnb, hrr, hpp, hg⟩ := hrel
      have HO := Lib.hid ho
      have HNR := Lib.hid hnb
      have HRX := Lib.hid hrr
      have HPR := Lib.hid hpp
      have HGX := Lib.hid hg
      clear ho hnb hrr hpp hg
      by_cases hlt : k < 3
      · obtain ⟨x, hx⟩ : ∃ x, P[k]? = some x := ⟨_, List.getElem?_eq_getElem (by rw [HN.out]; exact hlt)⟩
        obtain ⟨b, o, e1, hbn, g1⟩ := HPR.out.at k x hx
        subst e1
        have HX := Lib.hid hx
        have HXA := Lib.hid (show strAt P k = x by have := strAt_eq P k (by rw [HN.out]; exact hlt); rw [hx] at this; exact (Option.some.inj this).symm)
        have hxs : x.size ≤ 8000000 := by
          have := pieces_size 46 core x (by rw [HP.out]; exact List.mem_of_getElem? hx)
          omega
        have hs9 : x.size ≤ 9223372036854775807 := by omega
        clear hx
        cases hnum : isNum x with
        | false =>
          have e : Hid (parseS s = (zeroV, 60)) := by
            show _ = _
            rw [hE.out]
            unfold parseP
            rw [okVer_no P marks marked k x HX.out (by unfold okNum; rw [hnum, Bool.false_and]), if_neg (by simp)]
          have HU := Lib.hid hnum
          clear hnum
          go_wp2_with fail
          (with_reducible refine (isNum_any x hs9 _).mono ?_)
          rintro ee w4 ⟨rfl, g2⟩
          dsimp only
          rw [HU.out]
          have HRY := Lib.hid (block_kept HRX.out g2)
          have HGY := Lib.hid (World.grownBy.trans HGX.out g2)
          clear g2
          obtain ⟨r0, f0⟩ := block_cell HRY.out 0 _ rfl
          obtain ⟨r1, f1⟩ := block_cell HRY.out 1 _ rfl
          obtain ⟨r2, f2⟩ := block_cell HRY.out 2 _ rfl
          obtain ⟨r3, f3⟩ := block_cell HRY.out 3 _ rfl
          go_wp2
          generalize hw9 : (((w4.setCell ⟨R, 0, none⟩ _).setCell ⟨R, 1, none⟩ _).setCell ⟨R, 2, none⟩ _).setCell ⟨R, 3, none⟩ _ = w9
          obtain ⟨G9, R9, S9, K9⟩ := lay_ver HGY.out (by rw [HR.out]; exact Nat.le_refl _) HRY.out _ _ _ _ w9 hw9
          obtain ⟨q0, _⟩ := block_cell R9 0 _ rfl
          obtain ⟨q1, _⟩ := block_cell R9 1 _ rfl
          obtain ⟨q2, _⟩ := block_cell R9 2 _ rfl
          obtain ⟨q3, _⟩ := block_cell R9 3 _ rfl
          refine bodyPost_ret (v := .tuple #[verV zeroV (.slice none 0 0), .int .i64 60]) (by simp [results, Tryd.results10, go_sem, q0, q1, q2, q3, verV, zeroV]) rfl ⟨.slice none 0 0, by rw [e.out], ?_, G9⟩
          rw [e.out]
          exact PartS.nil (block_size R9 |> Nat.lt_of_le_of_lt (Nat.zero_le _))
        | true =>
          have HU := Lib.hid hnum
          by_cases h9 : 9 < x.size
          · have e : Hid (parseS s = (zeroV, 60)) := by
              show _ = _
              rw [hE.out]
              unfold parseP
              rw [okVer_no P marks marked k x HX.out (by unfold okNum; rw [hnum, decide_eq_false (by omega)]; rfl), if_neg (by simp)]
            have b9 : 9 < (x.size : Int) := by omega
            clear hnum h9
            go_wp2_with fail
            (with_reducible refine (isNum_any x hs9 _).mono ?_)
            rintro ee w4 ⟨rfl, g2⟩
            dsimp only
            rw [HU.out]
            have HRY := Lib.hid (block_kept HRX.out g2)
            have HGY := Lib.hid (World.grownBy.trans HGX.out g2)
            clear g2
            obtain ⟨r0, f0⟩ := block_cell HRY.out 0 _ rfl
            obtain ⟨r1, f1⟩ := block_cell HRY.out 1 _ rfl
            obtain ⟨r2, f2⟩ := block_cell HRY.out 2 _ rfl
            obtain ⟨r3, f3⟩ := block_cell HRY.out 3 _ rfl
            go_wp2
            generalize hw9 : (((w4.setCell ⟨R, 0, none⟩ _).setCell ⟨R, 1, none⟩ _).setCell ⟨R, 2, none⟩ _).setCell ⟨R, 3, none⟩ _ = w9
            obtain ⟨G9, R9, S9, K9⟩ := lay_ver HGY.out (by rw [HR.out]; exact Nat.le_refl _) HRY.out _ _ _ _ w9 hw9
            obtain ⟨q0, _⟩ := block_cell R9 0 _ rfl
            obtain ⟨q1, _⟩ := block_cell R9 1 _ rfl
            obtain ⟨q2, _⟩ := block_cell R9 2 _ rfl
            obtain ⟨q3, _⟩ := block_cell R9 3 _ rfl
            refine bodyPost_ret (v := .tuple #[verV zeroV (.slice none 0 0), .int .i64 60]) (by simp [results, Tryd.results10, go_sem, q0, q1, q2, q3, verV, zeroV]) rfl ⟨.slice none 0 0, by rw [e.out], ?_, G9⟩
            rw [e.out]
            exact PartS.nil (block_size R9 |> Nat.lt_of_le_of_lt (Nat.zero_le _))
          · have HOK := Lib.hid (show okNum x = true by unfold okNum; rw [hnum, decide_eq_true (by omega)]; rfl)
            have b9 : decide (9 < (x.size : Int)) = false := by simp; omega
            clear hnum h9
            go_wp2_with fail
            (with_reducible refine (isNum_any x hs9 _).mono ?_)
            rintro ee w4 ⟨rfl, g2⟩
            dsimp only
            rw [HU.out]
            have HRY := Lib.hid (block_kept HRX.out g2)
            have HGY := Lib.hid (World.grownBy.trans HGX.out g2)
            have HNY := Lib.hid (block_kept HNR.out g2)
            have HPY := Lib.hid (HPR.out.stays g2)
            clear g2
            go_wp2_with ((with_reducible refine conv_bytes (o := ⟨some 43, _, _, _, _, _⟩) rfl _ rfl x ?_ ?_); go_must (exact rfl); (intro cap2 w5 hl3 hg3); have HL3 := Lib.hid hl3; have HG5 := Lib.hid (World.grownBy.trans HGY.out hg3); have HR5 := Lib.hid (block_kept HRY.out hg3); have HN5 := Lib.hid (block_kept HNY.out hg3); have HP5 := Lib.hid (HPY.out.stays hg3); clear hl3 hg3)
            obtain ⟨bb, hbb⟩ : ∃ bb, w4.heap.size = bb := ⟨_, rfl⟩
            rw [hbb] at HL3
            have hbnb : Hid (nb < bb) := by
              show _ < _
              rw [← hbb]; exact block_size HNY.out
            go_loopw [12, 45] (fun c t wq => ∃ q : Nat, q ≤ x.size ∧ t = .int .i64 q ∧ wq.heap[nb]? = some (.cells (numsC P k (numTo x q : Int)) 53 (0, 0)) ∧ wq.heap[R]? = some (.cells #[.int .i64 0, .int .i64 0, .int .i64 0, .slice none 0 0] 25 (0, 0)) ∧ PartS wq nb (.slice (some ⟨b, o, none⟩) 3 3) P ∧ LieB wq bb x ∧ w.grownBy wq none) (fun _ t _ => x.size - (intOf t).toNat)
            case atStart => exact ⟨0, Nat.zero_le _, rfl, HN5.out, HR5.out, HP5.out, HL3.out, HG5.out⟩
            case round =>
              obtain ⟨q, hq, rfl, y1, y2, y3, y4, y5⟩ := hrel
              have Y1 := Lib.hid y1
              have Y2 := Lib.hid y2
              have Y3 := Lib.hid y3
              have Y4 := Lib.hid y4
              have Y5 := Lib.hid y5
              clear y1 y2 y3 y4 y5
              by_cases hql : q < x.size
              · have hcell := Y4.out q hql
                obtain ⟨c, hc⟩ : ∃ c, byteAt x q = c := ⟨_, rfl⟩
                rw [hc] at hcell
                have hdig := okNum_dig x HOK.out q hql
                rw [hc] at hdig
                simp only [isDig, decide_eq_true_eq] at hdig
                obtain ⟨t1, t2⟩ := hdig
                have hbd := okNum_bound x HOK.out q (by omega)
                have HT := Lib.hid (show numTo x (q + 1) = 10 * numTo x q + (c.toNat - 48) by rw [numTo, hc])
                obtain ⟨z, hz⟩ : ∃ z, numTo x q = z := ⟨_, rfl⟩
                rw [hz] at HT hbd
                obtain ⟨n0, fn0⟩ := block_cell Y1.out k _ (numsC_at P k _ hlt)
                rw [hz] at n0
                have u1 : 0 ≤ (c.toNat : Int) - 48 := by omega
                have u2 : (c.toNat : Int) - 48 ≤ 9 := by omega
                clear hc hz
                go_wp2
                go_roundw
                case rel =>
                  have hv : (10 * (z : Int) + ((c.toNat : Int) - 48)) = (numTo x (q + 1) : Int) := by rw [HT.out]; omega
                  refine ⟨q + 1, by omega, by go_num, ?_, ?_, ?_, ?_, ?_⟩
                  · have := set_block Y1.out k (.int .i64 (10 * (z : Int) + ((c.toNat : Int) - 48)))
                    rw [numsC_set P k _ _ hlt] at this
                    rw [← hv]; exact this
                  · exact ((set_grown _ nb k _).block R (block_size Y2.out) (by have := HRlt.out; simp; omega)).trans Y2.out
                  · exact Y3.out.grown (set_grown _ nb k _) (fun j hj => by have := Option.some.inj hj; omega)
                  · exact Y4.out.grown (set_grown _ nb k _) (by have := hbnb.out; simp; omega)
                  · exact grown_set Y5.out HGN.out k _
                case measure => simp [intOf]; omega
              · have hqm : q = x.size := by omega
                subst hqm
                clear hql hq
                have HT := Lib.hid (take_all P k x okNum HX.out HO.out HOK.out)
                have HNN := Lib.hid (show numsC P k (numTo x x.size : Int) = numsC P (k + 1) 0 by
                  have := numsC_next P k hlt
                  rw [HXA.out] at this
                  exact this)
                go_wp2
                go_roundw
                case rel => exact ⟨k + 1, by omega, by go_num, HT.out, by rw [← HNN.out]; exact Y1.out, Y2.out, Y3.out, Y5.out⟩
                case measure => simp [intOf]; omega
      · have hk3 : k = 3 := by omega
        subst hk3
        clear hlt hk
        have hall : Hid (P.all okNum = true) := by
          have := HO.out
          rw [List.take_of_length_le (by rw [HN.out]; exact Nat.le_refl _)] at this
          exact this
        obtain ⟨a0, ha0⟩ : ∃ a : Int, (num (strAt P 0) : Int) = a := ⟨_, rfl⟩
        obtain ⟨a1, ha1⟩ : ∃ a : Int, (num (strAt P 1) : Int) = a := ⟨_, rfl⟩
        obtain ⟨a2, ha2⟩ : ∃ a : Int, (num (strAt P 2) : Int) = a := ⟨_, rfl⟩
        obtain ⟨n0, _⟩ := block_cell HNR.out 0 (.int .i64 (num (strAt P 0) : Int)) rfl
        obtain ⟨n1, _⟩ := block_cell HNR.out 1 (.int .i64 (num (strAt P 1) : Int)) rfl
        obtain ⟨n2, _⟩ := block_cell HNR.out 2 (.int .i64 (num (strAt P 2) : Int)) rfl
        rw [ha0] at n0
        rw [ha1] at n1
        rw [ha2] at n2
        have HA := Lib.hid (And.intro ha0 (And.intro ha1 ha2))
        clear ha0 ha1 ha2
        have HNR2 := Lib.hid (block_size HRX.out)
        have hg6 : wr.grownBy (wr.alloc (.cells #[.int .i64 a0, .int .i64 a1, .int .i64 a2, .slice none 0 0] 25)) none := World.grownBy_alloc wr _ none
        have HR6 := Lib.hid (block_kept HRX.out hg6)
        have HG6 := Lib.hid (World.grownBy.trans HGX.out hg6)
        have HV6 := Lib.hid (alloc_block wr (.cells #[.int .i64 a0, .int .i64 a1, .int .i64 a2, .slice none 0 0] 25))
        clear hg6
        cases marked with
        | false =>
          obtain ⟨r0, f0⟩ := block_cell HR6.out 0 _ rfl
          obtain ⟨r1, f1⟩ := block_cell HR6.out 1 _ rfl
          obtain ⟨r2, f2⟩ := block_cell HR6.out 2 _ rfl
          obtain ⟨r3, f3⟩ := block_cell HR6.out 3 _ rfl
          have e : Hid (parseS s = (⟨a0, a1, a2, []⟩, 0)) := by
            show _ = _
            rw [hE.out]
            unfold parseP okVer
            rw [HN.out, hall.out, HA.out.1, HA.out.2.1, HA.out.2.2]
            rfl
          go_wp2
          generalize hw9 : ((((wr.alloc _).setCell ⟨R, 0, none⟩ _).setCell ⟨R, 1, none⟩ _).setCell ⟨R, 2, none⟩ _).setCell ⟨R, 3, none⟩ _ = w9
          obtain ⟨G9, R9, S9, K9⟩ := lay_ver HG6.out (by rw [HR.out]; exact Nat.le_refl _) HR6.out _ _ _ _ w9 hw9
          obtain ⟨q0, _⟩ := block_cell R9 0 _ rfl
          obtain ⟨q1, _⟩ := block_cell R9 1 _ rfl
          obtain ⟨q2, _⟩ := block_cell R9 2 _ rfl
          obtain ⟨q3, _⟩ := block_cell R9 3 _ rfl
          refine bodyPost_ret (v := .tuple #[verV ⟨a0, a1, a2, []⟩ (.slice none 0 0), .int .i64 0]) (by simp [results, Tryd.results10, go_sem, q0, q1, q2, q3, verV]) rfl ⟨.slice none 0 0, by rw [e.out], ?_, G9⟩
          rw [e.out]
          exact PartS.nil (block_size R9 |> Nat.lt_of_le_of_lt (Nat.zero_le _))
        | true =>
          obtain ⟨M, hM⟩ : ∃ M, pieces 46 marks = M := ⟨_, rfl⟩
          obtain ⟨n, hn⟩ : ∃ n, M.length = n := ⟨_, rfl⟩
          have HPM := Lib.hid hM
          have HPN := Lib.hid hn
          have hnm : n ≤ 8000000 := by rw [← hn, ← hM]; have := pieces_le 46 marks; omega
          have HSM : Hid (∀ p ∈ M, p.size ≤ 8000000) := by
            intro p hp
            rw [← hM] at hp
            have := pieces_size 46 marks p hp
            omega
          clear hM hn
          go_wp2_with fail
          (with_reducible refine (split_any marks m n M _ (by omega) (HG6.out.cell HM.out (by simp)) HPM.out HPN.out).mono ?_)
          rintro ee w7 ⟨rfl, hw7⟩
          obtain ⟨vb, hvb⟩ : ∃ vb, wr.heap.size = vb := ⟨_, rfl⟩
          have hap2 : ∃ ap2 : Option Addr, some ⟨(wr.alloc (.cells #[.int .i64 a0, .int .i64 a1, .int .i64 a2, .slice none 0 0] 25)).heap.size, 0, none⟩ = ap2 := ⟨_, rfl⟩
          obtain ⟨ap2, hap2⟩ := hap2
          have hg7 : (wr.alloc (.cells #[.int .i64 a0, .int .i64 a1, .int .i64 a2, .slice none 0 0] 25)).grownBy w7 none := by rw [hw7]; exact World.grownBy_alloc _ _ _
          have HPp7 : Hid (PartS w7 w7.heap.size (.slice ap2 n n) M) := by
            have := part_block (wr.alloc (.cells #[.int .i64 a0, .int .i64 a1, .int .i64 a2, .slice none 0 0] 25)) M 9 n HPN.out
            rw [← hw7] at this
            rw [← hap2]
            exact this.le (by rw [hw7]; exact Nat.le_of_eq (alloc_size _ _).symm)
          have HOB : Hid ((Value.slice ap2 n n).ownBlock ≠ some vb) := by
            rw [← hap2, ← hvb]
            show some _ ≠ some _
            rw [alloc_size]; simp
          have HOR : Hid ((Value.slice ap2 n n).ownBlock ≠ some R) := by
            have := HNR2.out
            rw [← hap2]
            show some _ ≠ some _
            rw [alloc_size]; simp; omega
          have HR7 := Lib.hid (block_kept HR6.out hg7)
          have HG7 := Lib.hid (World.grownBy.trans HG6.out hg7)
          have HV7 := Lib.hid (block_kept HV6.out hg7)
          have HRV : Hid (R < vb) := by rw [← hvb]; exact HNR2.out
          rw [hap2]
          rw [hvb] at HV7 ⊢
          clear hg7 hw7 hap2 hvb HV6
          have hwv : w.heap.size ≤ vb := by rw [HR.out]; exact Nat.le_of_lt HRV.out
          have hs8 : w7.grownBy (w7.setCell ⟨vb, 3, none⟩ (.slice ap2 n n)) (some vb) := set_grown _ _ _ _
          have HR8 := Lib.hid (show (w7.setCell ⟨vb, 3, none⟩ (.slice ap2 n n)).heap[R]? = _ from (hs8.block R (block_size HR7.out) (by have := HRV.out; simp; omega)).trans HR7.out)
          have HP8 := Lib.hid (HPp7.out.other hs8 HOB.out)
          have HV8 := Lib.hid (show (w7.setCell ⟨vb, 3, none⟩ (.slice ap2 n n)).heap[vb]? = some (.cells #[.int .i64 a0, .int .i64 a1, .int .i64 a2, .slice ap2 n n] 25 (0, 0)) from set_block HV7.out 3 _)
          have HG8 := Lib.hid (grown_set HG7.out hwv 3 (.slice ap2 n n))
          obtain ⟨v3, fv3⟩ := block_cell HV7.out 3 _ rfl
          obtain ⟨v30, _⟩ := block_cell HV8.out 3 _ rfl
          clear hs8 hwv
          dsimp only
          go_wp2_with fail
          (with_reducible refine (goodMarks_any _ n n ap2 M _ HPN.out hnm HSM.out HP8.out).mono ?_)
          rintro ee w9 ⟨rfl, g9⟩
          dsimp only
          have HR9 := Lib.hid (block_kept HR8.out g9)
          have HV9 := Lib.hid (block_kept HV8.out g9)
          have HP9 := Lib.hid (HP8.out.stays g9)
          have HG9 := Lib.hid (World.grownBy.trans HG8.out g9)
          have HS9 := Lib.hid (show w7.heap.size ≤ w9.heap.size from Nat.le_trans (set_grown w7 vb 3 (.slice ap2 n n)).size g9.size)
          clear g9 v3 fv3 v30
          obtain ⟨r0, f0⟩ := block_cell HR9.out 0 _ rfl
          obtain ⟨r1, f1⟩ := block_cell HR9.out 1 _ rfl
          obtain ⟨r2, f2⟩ := block_cell HR9.out 2 _ rfl
          obtain ⟨r3, f3⟩ := block_cell HR9.out 3 _ rfl
          cases hok : okMarks M with
          | false =>
            have e : Hid (parseS s = (zeroV, 60)) := by
              show _ = _
              rw [hE.out]
              unfold parseP okVer
              rw [HN.out, hall.out, HPM.out, hok, if_neg (by simp)]
            go_wp2
            generalize hw10 : (((w9.setCell ⟨R, 0, none⟩ _).setCell ⟨R, 1, none⟩ _).setCell ⟨R, 2, none⟩ _).setCell ⟨R, 3, none⟩ _ = w10
            obtain ⟨G9, R9, S9, K9⟩ := lay_ver HG9.out (by rw [HR.out]; exact Nat.le_refl _) HR9.out _ _ _ _ w10 hw10
            obtain ⟨q0, _⟩ := block_cell R9 0 _ rfl
            obtain ⟨q1, _⟩ := block_cell R9 1 _ rfl
            obtain ⟨q2, _⟩ := block_cell R9 2 _ rfl
            obtain ⟨q3, _⟩ := block_cell R9 3 _ rfl
            refine bodyPost_ret (v := .tuple #[verV zeroV (.slice none 0 0), .int .i64 60]) (by simp [results, Tryd.results10, go_sem, q0, q1, q2, q3, verV, zeroV]) rfl ⟨.slice none 0 0, by rw [e.out], ?_, G9⟩
            rw [e.out]
            exact PartS.nil (block_size R9 |> Nat.lt_of_le_of_lt (Nat.zero_le _))
          | true =>
            have e : Hid (parseS s = (⟨a0, a1, a2, M⟩, 0)) := by
              show _ = _
              rw [hE.out]
              unfold parseP okVer preOf
              rw [HN.out, hall.out, HPM.out, hok, HA.out.1, HA.out.2.1, HA.out.2.2]
              rfl
            obtain ⟨v0, _⟩ := block_cell HV9.out 0 _ rfl
            obtain ⟨v1, _⟩ := block_cell HV9.out 1 _ rfl
            obtain ⟨v2, _⟩ := block_cell HV9.out 2 _ rfl
            obtain ⟨v3, _⟩ := block_cell HV9.out 3 _ rfl
            go_wp2
            generalize hw10 : (((w9.setCell ⟨R, 0, none⟩ _).setCell ⟨R, 1, none⟩ _).setCell ⟨R, 2, none⟩ _).setCell ⟨R, 3, none⟩ _ = w10
            obtain ⟨G9, R9, S9, K9⟩ := lay_ver HG9.out (by rw [HR.out]; exact Nat.le_refl _) HR9.out _ _ _ _ w10 hw10
            obtain ⟨q0, _⟩ := block_cell R9 0 _ rfl
            obtain ⟨q1, _⟩ := block_cell R9 1 _ rfl
            obtain ⟨q2, _⟩ := block_cell R9 2 _ rfl
            obtain ⟨q3, _⟩ := block_cell R9 3 _ rfl
            refine bodyPost_ret (v := .tuple #[verV ⟨a0, a1, a2, M⟩ (.slice ap2 n n), .int .i64 0]) (by simp [results, Tryd.results10, go_sem, q0, q1, q2, q3, verV]) rfl ⟨.slice ap2 n n, by rw [e.out], ?_, G9⟩
            rw [e.out]
            refine (HP9.out.other K9 ?_).le ?_
            · exact HOR.out
            · exact Nat.le_trans HS9.out S9
  · have hne : ¬ (N : Int) = 3 := by omega
    obtain ⟨r0, f0⟩ := block_cell HR2.out 0 _ rfl
    obtain ⟨r1, f1⟩ := block_cell HR2.out 1 _ rfl
    obtain ⟨r2, f2⟩ := block_cell HR2.out 2 _ rfl
    obtain ⟨r3, f3⟩ := block_cell HR2.out 3 _ rfl
    clear h3
    have e : Hid (parseS s = (zeroV, 60)) := by
      show _ = _
      rw [hE.out]
      unfold parseP okVer
      rw [HN.out, decide_eq_false (by omega : ¬ N = 3), if_neg (by simp)]
    go_wp2
    generalize hw9 : (((w2.setCell ⟨R, 0, none⟩ _).setCell ⟨R, 1, none⟩ _).setCell ⟨R, 2, none⟩ _).setCell ⟨R, 3, none⟩ _ = w9
    obtain ⟨G9, R9, S9, K9⟩ := lay_ver HG2.out (by rw [HR.out]; exact Nat.le_refl _) HR2.out _ _ _ _ w9 hw9
    obtain ⟨q0, _⟩ := block_cell R9 0 _ rfl
    obtain ⟨q1, _⟩ := block_cell R9 1 _ rfl
    obtain ⟨q2, _⟩ := block_cell R9 2 _ rfl
    obtain ⟨q3, _⟩ := block_cell R9 3 _ rfl
    refine bodyPost_ret (v := .tuple #[verV zeroV (.slice none 0 0), .int .i64 60]) (by simp [results, Tryd.results10, go_sem, q0, q1, q2, q3, verV, zeroV]) rfl ⟨.slice none 0 0, by rw [e.out], ?_, G9⟩
    rw [e.out]
    exact PartS.nil (block_size R9 |> Nat.lt_of_le_of_lt (Nat.zero_le _))
end Go.Proofs.YtkngfkjnohbbiaaDoor
