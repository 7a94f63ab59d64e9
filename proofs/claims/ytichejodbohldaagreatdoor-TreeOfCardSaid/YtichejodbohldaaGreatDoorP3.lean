/- Texts of one ground, in one file: QA QB QC QD. -/
import Derived.Test.YtichejodbohldaaGreatDoorP1
import Derived.WalkKit
import Derived.WalkSpells
import Derived.Deep.QuietTactic
import Derived.BigQuiet
import Derived.IntWalk
import Derived.Lib.Hide
import Derived.Outline
import Derived.Lib.SplitLaws
import Derived.Laws.AppendOwnNone
import Derived.Laws.OwnMore
import Derived.Deep.MidRow
import Derived.Test.YtichejodbohldaaGreatDoorP2
namespace Go.Proofs.YtichejodbohldaaGreatDoor.Pth
open Go.RowKit

/-- A byte that a part may have. -/
def okB (c : UInt8) : Bool := decide (33 ≤ c.toNat ∧ c.toNat ≤ 126 ∧ c.toNat ≠ 34 ∧ c.toNat ≠ 92 ∧ c.toNat ≠ 42 ∧ c.toNat ≠ 63 ∧ c.toNat ≠ 58)

theorem beq_no (a : Nat) (k : Int) (h : (a : Int) ≠ k) : ((a : Int) == k) = false := by simp [h]

theorem plain_any (c : UInt8) (w : World) :
    Calls Tryz.prog 101 #[.int .u8 (c.toNat : Int)] w fun e w' => e = .returned (.bool (okB c)) ∧ w' = w := by
  have hc := c.toNat_lt
  by_cases h : okB c = true
  · have e := Lib.hid h
    simp only [okB, decide_eq_true_eq] at h
    obtain ⟨h1, h2, h3, h4, h5, h6, h7⟩ := h
    have b1 : decide ((c.toNat : Int) < 33) = false := by simp; omega
    have b2 : decide (126 < (c.toNat : Int)) = false := by simp; omega
    have b3 := beq_no c.toNat 34 (by omega)
    have b4 := beq_no c.toNat 92 (by omega)
    have b5 := beq_no c.toNat 42 (by omega)
    have b6 := beq_no c.toNat 63 (by omega)
    have b7 := beq_no c.toNat 58 (by omega)
    have d3 : ¬ (c.toNat : Int) = 34 := by omega
    have d4 : ¬ (c.toNat : Int) = 92 := by omega
    have d5 : ¬ (c.toNat : Int) = 42 := by omega
    have d6 : ¬ (c.toNat : Int) = 63 := by omega
    have d7 : ¬ (c.toNat : Int) = 58 := by omega
    clear h1 h2 h3 h4 h5 h6 h7
    go_enter Tryz.func101, Tryz.ntmps101
    go_wp2
    go_ret
    exact ⟨by rw [e.out]; rfl, rfl⟩
  · have e : Hid (okB c = false) := by show _ = _; simpa using h
    by_cases h1 : c.toNat < 33
    · have a1 : (c.toNat : Int) < 33 := by omega
      clear h1 h
      go_enter Tryz.func101, Tryz.ntmps101
      go_wp2
      go_ret
      exact ⟨by rw [e.out]; rfl, rfl⟩
    · have b1 : decide ((c.toNat : Int) < 33) = false := by simp; omega
      by_cases h2 : 126 < c.toNat
      · have a1 : 126 < (c.toNat : Int) := by omega
        clear h1 h h2
        go_enter Tryz.func101, Tryz.ntmps101
        go_wp2
        go_ret
        exact ⟨by rw [e.out]; rfl, rfl⟩
      · have h3 : (c.toNat : Int) = 34 ∨ (c.toNat : Int) = 92 ∨ (c.toNat : Int) = 42 ∨ (c.toNat : Int) = 63 ∨ (c.toNat : Int) = 58 := by
          simp only [okB, decide_eq_true_eq] at h; omega
        clear h h1 h2 b1
        rcases h3 with h3 | h3 | h3 | h3 | h3
        all_goals
          rw [h3]
          go_enter Tryz.func101, Tryz.ntmps101
          go_wp2
          go_ret
          exact ⟨by rw [e.out]; rfl, rfl⟩
end Go.Proofs.YtichejodbohldaaGreatDoor.Pth
namespace Go.Proofs.YtichejodbohldaaGreatDoor.Pth
open Go.RowKit

def byteAt (s : ByteArray) (i : Nat) : UInt8 := s.data.toList.getD i 0
theorem byteAt_eq (s : ByteArray) (i : Nat) (h : i < s.size) : byteAt s i = s[i] := by
  unfold byteAt
  rw [List.getD_eq_getElem?_getD, Array.getElem?_toList, Array.getElem?_eq_getElem (by simpa using h)]; rfl
/-- The first k bytes are such as a part may have. -/
def okTo (s : ByteArray) : Nat → Bool
  | 0 => true
  | k + 1 => okTo s k && okB (byteAt s k)
theorem okTo_not (s : ByteArray) (n m : Nat) (h : n < m) (hb : okB (byteAt s n) = false) : okTo s m = false := by
  induction m with
  | zero => omega
  | succ m ih =>
    unfold okTo
    by_cases e : n = m
    · rw [← e, hb, Bool.and_false]
    · rw [ih (by omega), Bool.false_and]
/-- A part that a path may have. -/
def okPart (s : ByteArray) : Bool := okTo s s.size && decide (s.size ≤ 32)

theorem good_any (s : ByteArray) (hs : s.size ≤ 9223372036854775807) (w : World) :
    Calls Tryz.prog 85 #[.string s] w fun e w' => e = .returned (.bool (okPart s)) ∧ w' = w := by
  go_enter Tryz.func85, Tryz.ntmps85
  go_wp2
  go_loopw [6] (fun i wr => ∃ k : Nat, k ≤ s.size ∧ i = .int .i64 k ∧ okTo s k = true ∧ wr = w) (fun i _ => s.size - (intOf i).toNat)
  case atStart => exact ⟨0, Nat.zero_le _, rfl, rfl, rfl⟩
  case round =>
    obtain ⟨k, hk, rfl, ho, rfl⟩ := hrel
    by_cases hlt : k < s.size
    · obtain ⟨c, hc⟩ : ∃ c, byteAt s k = c := ⟨_, rfl⟩
      have hc2 : s[k]'hlt = c := by rw [← byteAt_eq]; exact hc
      have HO := Lib.hid ho
      have HC := Lib.hid hc
      clear ho hc
      go_wp2_with fail
      (with_reducible refine (plain_any c _).mono ?_)
      rintro ee w1 ⟨rfl, rfl⟩
      dsimp only
      by_cases hb : okB c = true
      · rw [hb]
        go_wp2
        go_roundw
        case rel => exact ⟨k + 1, by omega, by go_num, by rw [okTo, HO.out, HC.out, hb]; rfl, trivial⟩
        case measure => simp [intOf]; omega
      · have hb' : okB c = false := by simpa using hb
        rw [hb']
        have e : Hid (okPart s = false) := by
          show _ = _
          unfold okPart
          rw [okTo_not s k s.size hlt (by rw [HC.out]; exact hb'), Bool.false_and]
        clear hb hb'
        go_wp2
        go_ret
        exact ⟨by rw [e.out]; rfl, rfl⟩
    · have hkm : k = s.size := by omega
      subst hkm
      clear hlt hk
      have e : Hid (okPart s = decide ((s.size : Int) ≤ 32)) := by
        show _ = _
        unfold okPart
        rw [ho, Bool.true_and]
        exact decide_eq_decide.2 (by omega)
      clear ho
      go_wp2
      go_ret
      exact ⟨by rw [e.out]; rfl, rfl⟩

theorem bad_any (s : ByteArray) (hs : s.size ≤ 9223372036854775807) (w : World) :
    Calls Tryz.prog 81 #[.string s] w fun e w' => e = .returned (.bool (!okPart s)) ∧ w' = w := by
  by_cases h32 : s.size ≤ 32
  · go_enter Tryz.func81, Tryz.ntmps81
    go_wp2
    go_loopw [3] (fun i wr => ∃ k : Nat, k ≤ s.size ∧ i = .int .i64 k ∧ okTo s k = true ∧ wr = w) (fun i _ => s.size - (intOf i).toNat)
    case atStart => exact ⟨0, Nat.zero_le _, rfl, rfl, rfl⟩
    case round =>
      obtain ⟨k, hk, rfl, ho, rfl⟩ := hrel
      by_cases hlt : k < s.size
      · obtain ⟨c, hc⟩ : ∃ c, byteAt s k = c := ⟨_, rfl⟩
        have hc2 : s[k]'hlt = c := by rw [← byteAt_eq]; exact hc
        have HO := Lib.hid ho
        have HC := Lib.hid hc
        clear ho hc
        by_cases hb : okB c = true
        · have HB := Lib.hid hb
          simp only [okB, decide_eq_true_eq] at hb
          obtain ⟨h1, h2, h3, h4, h5, h6, h7⟩ := hb
          have b1 : decide ((c.toNat : Int) < 33) = false := by simp; omega
          have b2 : decide (126 < (c.toNat : Int)) = false := by simp; omega
          have b3 := beq_no c.toNat 34 (by omega)
          have b4 := beq_no c.toNat 92 (by omega)
          have b5 := beq_no c.toNat 42 (by omega)
          have b6 := beq_no c.toNat 63 (by omega)
          have b7 := beq_no c.toNat 58 (by omega)
          clear h1 h2 h3 h4 h5 h6 h7
          go_wp2
          go_roundw
          case rel => exact ⟨k + 1, by omega, by go_num, by rw [okTo, HO.out, HC.out, HB.out]; rfl, trivial⟩
          case measure => simp [intOf]; omega
        · have hb' : okB c = false := by simpa using hb
          have e : Hid (okPart s = false) := by
            show _ = _
            unfold okPart
            rw [okTo_not s k s.size hlt (by rw [HC.out]; exact hb'), Bool.false_and]
          have h3 : (c.toNat : Int) < 33 ∨ 126 < (c.toNat : Int) ∨ (c.toNat : Int) = 34 ∨ (c.toNat : Int) = 92 ∨ (c.toNat : Int) = 42 ∨ (c.toNat : Int) = 63 ∨ (c.toNat : Int) = 58 := by
            simp only [okB, decide_eq_true_eq] at hb; omega
          clear hb hb'
          rcases h3 with h3 | h3 | h3 | h3 | h3 | h3 | h3
          all_goals
            go_wp2
            all_goals first
              | (go_ret; exact ⟨by rw [e.out]; rfl, rfl⟩)
              | (exfalso; omega)
      · have hkm : k = s.size := by omega
        subst hkm
        clear hlt hk
        have e : Hid (okPart s = true) := by
          show _ = _
          unfold okPart
          rw [ho, Bool.true_and]
          exact decide_eq_true h32
        clear ho
        go_wp2
        go_ret
        exact ⟨by rw [e.out]; rfl, rfl⟩
  · have e : Hid (okPart s = false) := by
      show _ = _
      unfold okPart
      rw [decide_eq_false h32, Bool.and_false]
    have h33 : 32 < (s.size : Int) := by omega
    clear h32
    go_enter Tryz.func81, Tryz.ntmps81
    go_wp2
    go_ret
    exact ⟨by rw [e.out]; rfl, rfl⟩
end Go.Proofs.YtichejodbohldaaGreatDoor.Pth
namespace Go.Proofs.YtichejodbohldaaGreatDoor.Pth
open Go.RowKit

def slash : ByteArray := ⟨#[47]⟩
/-- What stands between the slashes. -/
def pieces (s : ByteArray) : List ByteArray := Lib.splitB slash 0 (Lib.countB s slash) s

theorem occ_slash (s : ByteArray) (i : Nat) (h : i < s.size) : Lib.occAt s.data.toList [47] i = (byteAt s i == 47) := by
  unfold Lib.occAt byteAt
  have hl : i < s.data.toList.length := by simpa using h
  rw [List.drop_eq_getElem_cons hl, List.getD_eq_getElem?_getD, List.getElem?_eq_getElem hl]
  simp only [List.isPrefixOf, Bool.and_true, Option.getD_some]
  exact Bool.beq_comm
theorem index_slash (s : ByteArray) (i : Nat) (h : i < s.size) (h1 : byteAt s i = 47) (h2 : ∀ j, j < i → byteAt s j ≠ 47) : Lib.indexB s slash = i := by
  refine Lib.index_first (s := s.data.toList) (sub := [47]) (by simpa using Nat.le_of_lt h) ?_ ?_
  · rw [occ_slash s i h, h1]; rfl
  · intro j hj
    rw [occ_slash s j (by omega)]
    simpa using h2 j hj
theorem noindex_slash (s : ByteArray) (h2 : ∀ j, j < s.size → byteAt s j ≠ 47) : Lib.indexB s slash = -1 := by
  refine Lib.index_none (s := s.data.toList) (sub := [47]) ?_
  intro j hj
  by_cases h : j < s.size
  · rw [occ_slash s j h]
    simpa using h2 j h
  · have e : s.data.toList.drop j = [] := List.drop_eq_nil_of_le (by simp; omega)
    unfold Lib.occAt
    rw [e]; rfl
theorem pieces_none (s : ByteArray) (h2 : ∀ j, j < s.size → byteAt s j ≠ 47) : pieces s = [s] :=
  Lib.splitB_miss _ _ _ _ (noindex_slash s h2)
theorem pieces_hit (s : ByteArray) (i : Nat) (h : i < s.size) (h1 : byteAt s i = 47) (h2 : ∀ j, j < i → byteAt s j ≠ 47) :
    pieces s = s.extract 0 i :: pieces (s.extract (i + 1) s.size) := by
  have e := index_slash s i h h1 h2
  have c := Lib.countB_hit s slash i (by decide) e
  unfold pieces
  rw [c, Nat.add_comm, Lib.splitB_hit _ _ _ _ i e]
  rfl
theorem byteAt_extract (s : ByteArray) (a j : Nat) (h : a + j < s.size) : byteAt (s.extract a s.size) j = byteAt s (a + j) := by
  have h1 : j < (s.extract a s.size).size := by rw [ByteArray.size_extract]; omega
  rw [byteAt_eq _ _ h1, byteAt_eq _ _ h, ByteArray.getElem_extract]
theorem pieces_from (s : ByteArray) (f i : Nat) (hf : f ≤ i) (h : i < s.size) (h1 : byteAt s i = 47) (h2 : ∀ j, f ≤ j → j < i → byteAt s j ≠ 47) :
    pieces (s.extract f s.size) = s.extract f i :: pieces (s.extract (i + 1) s.size) := by
  have hz : (s.extract f s.size).size = s.size - f := by rw [ByteArray.size_extract]; omega
  rw [pieces_hit _ (i - f) (by omega) (by rw [byteAt_extract _ _ _ (by omega), show f + (i - f) = i by omega]; exact h1) (fun j hj => by rw [byteAt_extract _ _ _ (by omega)]; exact h2 _ (by omega) (by omega))]
  rw [hz, ByteArray.extract_extract, ByteArray.extract_extract]
  congr 2
  · omega
  · congr 1 <;> omega
theorem pieces_last (s : ByteArray) (f : Nat) (h2 : ∀ j, f ≤ j → j < s.size → byteAt s j ≠ 47) :
    pieces (s.extract f s.size) = [s.extract f s.size] :=
  pieces_none _ fun j hj => by
    rw [ByteArray.size_extract] at hj
    rw [byteAt_extract _ _ _ (by omega)]
    exact h2 _ (by omega) (by omega)
theorem pieces_len (s : ByteArray) : (pieces s).length = Lib.countB s slash + 1 := Lib.splitB_all slash (by decide) 0 _ s rfl
theorem count_le (s : ByteArray) : Lib.countB s slash ≤ s.size := Lib.countB_le slash (by decide) s.size s (Nat.le_refl _)
theorem pieces_le (s : ByteArray) : (pieces s).length ≤ s.size + 1 := by rw [pieces_len]; have := count_le s; omega
theorem pieces_size (s : ByteArray) : ∀ p ∈ pieces s, p.size ≤ s.size := by
  have H : ∀ (k : Nat) (t : ByteArray), ∀ p ∈ Lib.splitB slash 0 k t, p.size ≤ t.size := by
    intro k
    induction k with
    | zero => intro t p hp; simp [Lib.splitB] at hp; rw [hp]; exact Nat.le_refl _
    | succ k ih =>
      intro t p hp
      rcases Lib.indexB_cases t slash with e | ⟨i, e, hi⟩
      · rw [Lib.splitB_miss _ _ _ _ e] at hp; simp at hp; rw [hp]; exact Nat.le_refl _
      · rw [Lib.splitB_hit _ _ _ _ i e] at hp
        rcases List.mem_cons.1 hp with rfl | hp
        · rw [ByteArray.size_extract]; omega
        · have := ih _ p hp
          rw [ByteArray.size_extract] at this; omega
  exact H _ s
end Go.Proofs.YtichejodbohldaaGreatDoor.Pth
namespace Go.Proofs.YtichejodbohldaaGreatDoor.Pth
open Go.RowKit

theorem alloc_cell (w : World) (c : Array Value) (t : TypeId) (i : Nat) : (w.alloc (.cells c t)).cell? ⟨w.heap.size, i, none⟩ = c[i]? := by
  simp [World.alloc, World.cell?, -World.alloc_eq]
theorem alloc_frozen (w : World) (c : Array Value) (t : TypeId) (i : Nat) : (w.alloc (.cells c t)).frozen? ⟨w.heap.size, i, none⟩ = false := by
  simp [World.alloc, World.frozen?, -World.alloc_eq]
theorem alloc_size (w : World) (o : Obj) : (w.alloc o).heap.size = w.heap.size + 1 := by
  show (w.heap.push o).size = _
  simp
theorem cell_in {w : World} {b : Nat} {c : Array Value} {t : TypeId} (h : w.heap[b]? = some (.cells c t (0, 0))) (j : Nat) : w.cell? ⟨b, j, none⟩ = c[j]? := by
  simp [World.cell?, h]
theorem grown_new {w w1 w2 : World} {k : Nat} (h1 : w.grownBy w1 none) (h2 : w1.grownBy w2 (some k)) (hk : w.heap.size ≤ k) : w.grownBy w2 none :=
  ⟨h2.os.trans h1.os, h2.tape.trans h1.tape, h2.output.trans h1.output, Nat.le_trans h1.size h2.size, fun j hj hne => (h2.block j (Nat.lt_of_lt_of_le hj h1.size) (by simp; omega)).trans (h1.block j hj hne)⟩

/-- v holds the texts L, in a block that was made from base on. -/
def OwnsS (w : World) (base : Nat) (v : Value) (L : List ByteArray) : Prop := w.ownsRow base 9 1 v L.length (L.map Value.string)
/-- v is the texts M, which lie anywhere below B. -/
def PartS (w : World) (B : Nat) (v : Value) (M : List ByteArray) : Prop :=
  ∃ a cap b o, v = .slice a M.length cap ∧ M.length ≤ cap ∧ (a = none → cap = 0) ∧ b < B ∧ (0 < M.length → a = some ⟨b, o, none⟩) ∧ ∀ j x, M[j]? = some x → w.cell? ⟨b, o + j, none⟩ = some (.string x)

theorem OwnsS.nil (w : World) (base : Nat) : OwnsS w base (.slice none 0 0) [] := World.ownsRow_nil w base 9 1
theorem OwnsS.form {w : World} {base : Nat} {v : Value} {L : List ByteArray} (h : OwnsS w base v L) : ∃ a cap, v = .slice a L.length cap ∧ L.length ≤ cap ∧ cap ≤ maxLen := by
  rcases h.2 with ⟨h1, h2⟩ | ⟨g, cap, cur, h1, h2, h3, h4, h5, _⟩
  · exact ⟨none, 0, by rw [h1, h2], by omega, by unfold maxLen; omega⟩
  · exact ⟨_, cap, h1, h4, h5⟩
theorem OwnsS.part {w : World} {base : Nat} {v : Value} {L : List ByteArray} (h : OwnsS w base v L) (hp : 0 < w.heap.size) : PartS w w.heap.size v L := by
  rcases h.2 with ⟨h1, h2⟩ | ⟨g, cap, cur, h1, h2, h3, h4, h5, h6, h7⟩
  · exact ⟨none, 0, 0, 0, by rw [h1, h2], by omega, fun _ => rfl, hp, fun h => by omega, fun j x hj => by
      have := (List.getElem?_eq_some_iff.1 hj).1; omega⟩
  · refine ⟨_, cap, g, 0, h1, h4, fun h => by simp at h, (Array.getElem?_eq_some_iff.1 h3).1, fun _ => rfl, fun j x hj => ?_⟩
    have hl := (List.getElem?_eq_some_iff.1 hj).1
    rw [Nat.zero_add, cell_in h3]
    have e : (L.map Value.string)[j]? = some (.string x) := by rw [List.getElem?_map, hj]; rfl
    rw [← h7, List.getElem?_take, if_pos (by omega)] at e
    simpa using e
theorem OwnsS.grown {w w1 w2 : World} {v : Value} {L : List ByteArray} (h : OwnsS w1 w.heap.size v L) (h1 : w.grownBy w1 none) (h2 : w1.grownBy w2 v.ownBlock) : w.grownBy w2 none := by
  cases e : v.ownBlock with
  | none => rw [e] at h2; exact World.grownBy.trans h1 h2
  | some k => rw [e] at h2; exact grown_new h1 h2 (World.ownsRow.lt h k e).1
theorem OwnsS.alloc {w : World} {base : Nat} {v : Value} {L : List ByteArray} (h : OwnsS w base v L) (o : Obj) : OwnsS (w.alloc o) base v L := World.ownsRow.alloc h o
theorem OwnsS.step {w wr w2 : World} {v : Value} {L : List ByteArray} {o : Obj} (hgw : w.grownBy wr none) (ho : OwnsS wr w.heap.size v L) (hg : (wr.alloc o).drew.grownBy w2 v.ownBlock) : w.grownBy w2 none := by
  have h := World.grownBy.trans hgw (World.grownBy_alloc wr o none)
  exact OwnsS.grown (w1 := wr.alloc o) (ho.alloc o) h ⟨hg.os, hg.tape, hg.output, hg.size, hg.block⟩
theorem PartS.grown {w w' : World} {B : Nat} {v : Value} {M : List ByteArray} {r : Option Nat} (h : PartS w B v M) (hg : w.grownBy w' r) (hr : ∀ k, r = some k → B ≤ k) : PartS w' B v M := by
  obtain ⟨a, cap, b, o, h1, h2, h3, h4, h5, h6⟩ := h
  exact ⟨a, cap, b, o, h1, h2, h3, h4, h5, fun j x hj => hg.cell (h6 j x hj) (fun e => by have := hr b e.symm; omega)⟩
/-- One text, in a block of its own. -/
theorem part_str (w : World) (x : ByteArray) (t : TypeId) : PartS (w.alloc (.cells #[.string x] t)) (w.heap.size + 1) (.slice (some ⟨w.heap.size, 0, none⟩) 1 1) [x] :=
  ⟨_, 1, w.heap.size, 0, rfl, Nat.le_refl _, fun h => by simp at h, by omega, fun _ => rfl, fun j y hj => by
    have hl := (List.getElem?_eq_some_iff.1 hj).1
    have h0 : j = 0 := by simpa using hl
    subst h0
    have e : x = y := by simpa using hj
    rw [Nat.add_zero, alloc_cell, e]; rfl⟩

theorem info9 : (Tryz.prog.info? 9).map (fun i => (i.zero, i.size, i.bytes)) = some (some (.string ByteArray.empty), 1, 16) := by kernel_rfl

/-- append of texts that lie anywhere to texts that the call owns. -/
theorem app_str {w : World} {ops : Array Oper} {rest : List Oper} {o : Oper} {a : Act} {Q : Exit → Act → World → Prop} (hgd : o.guard = none) (s x : Operand)
    (ho : o.op = .call { callee := .builtin .append, args := #[s, x], argTypes := #[56, 56] }) (base B : Nat) (v xv : Value) (L M : List ByteArray) (hs : a.eval s = v) (hown : OwnsS w base v L)
    (hx : a.eval x = xv) (hp : PartS w B xv M) (hb : L.length + M.length ≤ 1000000) (hbase : base ≤ w.heap.size)
    (h : ∀ v' w', OwnsS w' base v' (L ++ M) → w.grownBy w' v.ownBlock → wpList Tryz.prog ops Q rest (a.put o.dst v') w') : wpList Tryz.prog ops Q (o :: rest) a w := by
  obtain ⟨i0, hi, hz0, hz1, hz2⟩ := info_parts info9
  obtain ⟨ap, cap, b, of, h1, h2, h6, h3, h4, h5⟩ := hp
  subst h1
  cases ap with
  | none =>
    have hc := h6 rfl
    have hm : M = [] := List.eq_nil_of_length_eq_zero (by omega)
    subst hm
    have hc' : cap = 0 := by omega
    subst hc'
    refine wpList_append_own_none hgd s x 56 ho base 9 i0 1 Tryz.underlying56 hi v L.length (L.map Value.string) hs hown hx ?_
    exact h v w (by simpa using hown) (World.grownBy.refl _ _)
  | some ad =>
    refine wpList_append_own w hgd s x 56 ho base 9 i0 (.string ByteArray.empty) 1 16 Tryz.underlying56 hi hz0 hz1 hz2 rfl (by decide) v L.length (L.map Value.string) hs hown ad M.length cap (M.map Value.string) hx (by simp) ?_ ?_ (by unfold maxLen; omega) (by omega) hbase ?_
    · intro j u hu
      have hj : j < M.length := by have := (List.getElem?_eq_some_iff.1 hu).1; simpa using this
      have e := h4 (by omega)
      rw [List.getElem?_map, List.getElem?_eq_getElem hj] at hu
      have hu' : Value.string M[j] = u := by simpa using hu
      rw [Option.some.inj e, Addr.add_mid, h5 j M[j] (List.getElem?_eq_getElem hj), hu']
    · intro u hu
      obtain ⟨y, _, rfl⟩ := List.mem_map.1 hu
      rfl
    · intro v' w' h7 h8 _
      refine h v' w' ?_ h8
      show World.ownsRow _ _ _ _ _ _ _
      rw [List.length_append, List.map_append]
      exact h7

/-- The same, within a region whose order is drawn. -/
theorem step_str {w : World} {ops : Array Oper} {o : Oper} {a : Act} {K : Act → World → Prop} {Q : Exit → Act → World → Prop} {E : Prop} (hgd : o.guard = none) (s x : Operand)
    (ho : o.op = .call { callee := .builtin .append, args := #[s, x], argTypes := #[56, 56] }) (base B : Nat) (v xv : Value) (L M : List ByteArray) (hs : a.eval s = v) (hown : OwnsS w base v L)
    (hx : a.eval x = xv) (hp : PartS w B xv M) (hb : L.length + M.length ≤ 1000000) (hbase : base ≤ w.heap.size)
    (h : ∀ v' w', OwnsS w' base v' (L ++ M) → w.grownBy w' v.ownBlock → K (a.put o.dst v') w') : if Region.wanted o (yielded ops a.tmps) = true then Oper.wp Tryz.prog o a w K Q else E := by
  rw [if_pos (by simp [Region.wanted, hgd])]
  obtain ⟨i0, hi, hz0, hz1, hz2⟩ := info_parts info9
  obtain ⟨ap, cap, b, of, h1, h2, h6, h3, h4, h5⟩ := hp
  subst h1
  cases ap with
  | none =>
    have hc := h6 rfl
    have hm : M = [] := List.eq_nil_of_length_eq_zero (by omega)
    subst hm
    have hc' : cap = 0 := by omega
    subst hc'
    have hrun := run_append_owned_none (P := Tryz.prog) (w := w) base 56 o.type 9 i0 1 Tryz.underlying56 hi v L.length (L.map Value.string) hown
    unfold Oper.wp
    simp [execOp, ho, resolve, invoke, builtin, hs, hx, hrun, Result.andThen]
    exact h v w (by simpa using hown) (World.grownBy.refl _ _)
  | some ad =>
    refine wp_append_own w s x 56 ho base 9 i0 (.string ByteArray.empty) 1 16 Tryz.underlying56 hi hz0 hz1 hz2 rfl (by decide) v L.length (L.map Value.string) hs hown ad M.length cap (M.map Value.string) hx (by simp) ?_ ?_ (by unfold maxLen; omega) (by omega) hbase ?_
    · intro j u hu
      have hj : j < M.length := by have := (List.getElem?_eq_some_iff.1 hu).1; simpa using this
      have e := h4 (by omega)
      rw [List.getElem?_map, List.getElem?_eq_getElem hj] at hu
      have hu' : Value.string M[j] = u := by simpa using hu
      rw [Option.some.inj e, Addr.add_mid, h5 j M[j] (List.getElem?_eq_getElem hj), hu']
    · intro u hu
      obtain ⟨y, _, rfl⟩ := List.mem_map.1 hu
      rfl
    · intro v' w' h7 h8 _
      refine h v' w' ?_ h8
      show World.ownsRow _ _ _ _ _ _ _
      rw [List.length_append, List.map_append]
      exact h7
end Go.Proofs.YtichejodbohldaaGreatDoor.Pth
