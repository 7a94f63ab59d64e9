/- What sha's add does to a sum under way. -/
import Derived.Test.YtfpehdldgnfciaaGreatDoorD
import Derived.Laws.CopyOwn
import Derived.Deep.MidRow
import Derived.Deep.RegionLaw
namespace Go.Proofs.YtfpehdldgnfciaaGreatDoor.Sha
open Go.RowKit Go.Sort

theorem grown_set (w : World) (b j : Nat) (v : Value) : w.grownBy (w.setCell ⟨b, j, none⟩ v) (some b) :=
  ⟨rfl, rfl, rfl, by simp [World.setCell], fun k _ hne => by
    show (w.heap.modify b _)[k]? = _
    rw [Array.getElem?_modify, if_neg (by intro e; exact hne (by rw [e]))]⟩
theorem lies_cells {w : World} {b : Nat} {c : Array Value} {t : TypeId} (j : Nat) (v : Value) (h : w.heap[b]? = some (.cells c t (0, 0))) :
    (w.setCell ⟨b, j, none⟩ v).heap[b]? = some (.cells (c.setIfInBounds j v) t (0, 0)) := by
  show (w.heap.modify b _)[b]? = _
  rw [Array.getElem?_modify, if_pos rfl, h, Option.map_some]
  rfl
theorem lies_length {w : World} {b : Nat} {s : St} {R : Array UInt8} {f n : Nat} (hR : R.size = 64) (m : Nat) (h : Lies w b s R f n) : Lies (w.setCell ⟨b, 73, none⟩ (.int .u64 (m : Int))) b s R f m := by
  unfold Lies at *
  rw [lies_cells _ _ h, obj_set_length _ _ _ _ _ hR]
theorem lies_filled {w : World} {b : Nat} {s : St} {R : Array UInt8} {f n : Nat} (hR : R.size = 64) (m : Nat) (h : Lies w b s R f n) : Lies (w.setCell ⟨b, 72, none⟩ (.int .i64 (m : Int))) b s R m n := by
  unfold Lies at *
  rw [lies_cells _ _ h, obj_set_filled _ _ _ _ _ hR]

/-- Whole blocks, mixed in one behind another. -/
def blocks (P : Nat → UInt8) (s : St) : Nat → St
  | 0 => s
  | k + 1 => mixed (blocks P s k) (fun j => P (64 * k + j))
def bytesOf (P : Nat → UInt8) (from_ cnt : Nat) : List UInt8 := (List.range cnt).map fun j => P (from_ + j)
/-- l laid over R from place g on. -/
def lay (R : Array UInt8) (g : Nat) (l : List UInt8) : Array UInt8 := (R.toList.take g ++ (l ++ R.toList.drop (g + l.length))).toArray
theorem lay_size (R : Array UInt8) (g : Nat) (l : List UInt8) (hR : R.size = 64) (h : g + l.length ≤ 64) : (lay R g l).size = 64 := by
  simp [lay, hR]; omega
theorem lay_nil (R : Array UInt8) : lay R 0 [] = R := by simp [lay]
theorem obj_lay (s : St) (R : Array UInt8) (f n g : Nat) (l : List UInt8) (hR : R.size = 64) (h : g + l.length ≤ 64) :
    ((obj s R f n).toList.take (8 + g) ++ (l.map encB ++ (obj s R f n).toList.drop (8 + g + (l.map encB).length))).toArray = obj s (lay R g l) f n := by
  apply Array.ext'
  have hA : (s.row.map encW).toList.length = 8 := by simp [row_size]
  have e1 : (obj s R f n).toList = (s.row.map encW).toList ++ (R.toList.map encB ++ [Value.int .i64 (f : Int), Value.int .u64 (n : Int)]) := by simp [obj]
  have e2 : (obj s (lay R g l) f n).toList = (s.row.map encW).toList ++ ((R.toList.take g ++ (l ++ R.toList.drop (g + l.length))).map encB ++ [Value.int .i64 (f : Int), Value.int .u64 (n : Int)]) := by simp [obj, lay]
  have hRl : R.toList.length = 64 := by simpa using hR
  rw [e2, List.toList_toArray, e1]
  generalize (s.row.map encW).toList = A at *
  have t1 : List.take (8 + g) (A ++ (R.toList.map encB ++ [Value.int .i64 (f : Int), Value.int .u64 (n : Int)])) = A ++ (R.toList.take g).map encB := by
    rw [← hA, List.take_length_add_append, List.take_append_of_le_length (by simp; omega), List.map_take]
  have t2 : List.drop (8 + g + (l.map encB).length) (A ++ (R.toList.map encB ++ [Value.int .i64 (f : Int), Value.int .u64 (n : Int)])) = (R.toList.drop (g + l.length)).map encB ++ [Value.int .i64 (f : Int), Value.int .u64 (n : Int)] := by
    rw [List.length_map, ← hA, Nat.add_assoc, List.drop_length_add_append, List.drop_append_of_le_length (by simp; omega), List.map_drop]
  rw [t1, t2]
  simp

theorem lies_row {w : World} {b : Nat} {s : St} {R : Array UInt8} {f n : Nat} (g : Nat) (l : List UInt8) (hR : R.size = 64) (hg : g + l.length ≤ 64) (h : Lies w b s R f n) :
    Lies (w.setRow b ((obj s R f n).toList.take (8 + g) ++ (l.map encB ++ (obj s R f n).toList.drop (8 + g + (l.map encB).length))).toArray) b s (lay R g l) f n := by
  unfold Lies
  rw [← obj_lay s R f n g l hR hg]
  exact setRow_heap w b _ _ 120 _ h
theorem grown_row (w : World) (b : Nat) (c : Array Value) : w.grownBy (w.setRow b c) (some b) :=
  ⟨rfl, rfl, rfl, by simp [World.setRow], fun k _ hne => setRow_other w b k c (fun e => hne (by rw [e]))⟩

theorem info5 : (Tryz.prog.info? 5).map (·.size) = some 1 := by kernel_rfl
def lenOf : Value → Nat
  | .slice _ m _ => m
  | _ => 0

set_option maxRecDepth 1000000
set_option maxHeartbeats 1000000 in
theorem add_zero (bx bp op cap len n : Nat) (a : Option Addr) (P : Nat → UInt8) (s : St) (R : Array UInt8) (w : World) (hR : R.size = 64) (hbx : bx ≠ 1) (hbp : bp ≠ bx)
    (hlc : len ≤ cap) (hn : n + len ≤ 100000) (ha : 0 < len → a = some ⟨bp, op, none⟩)
    (hp : ∀ j, j < len → w.cell? ⟨bp, op + j, none⟩ = some (.int .u8 ((P j).toNat : Int)))
    (hT : ∀ j, j < 64 → w.cell? ⟨1, j, none⟩ = some (encW table[j]!))
    (hL : Lies w bx s R 0 n) :
    Calls Tryz.prog 47 #[.pointer (some ⟨bx, 0, none⟩), .slice a len cap] w fun e w' => e = .returned (.tuple #[]) ∧ w.grownBy w' (some bx) ∧
      Lies w' bx (blocks P s (len / 64)) (lay R 0 (bytesOf P (64 * (len / 64)) (len % 64))) (len % 64) (n + len) := by
  have g72 : w.cell? ⟨bx, 72, none⟩ = some (.int .i64 0) := by rw [cell_in hL, obj_filled _ _ _ _ hR]; rfl
  have g73 : w.cell? ⟨bx, 73, none⟩ = some (.int .u64 (n : Int)) := by rw [cell_in hL, obj_length _ _ _ _ hR]
  have f73 : w.frozen? ⟨bx, 73, none⟩ = false := free_in hL _
  have HP := Lib.hid hp
  have HT := Lib.hid hT
  have HL := Lib.hid hL
  have HA := Lib.hid ha
  have HR := Lib.hid hR
  clear hp hT hL ha hR
  go_enter Tryz.func47, Tryz.ntmps47
  go_wp2
  go_loopw [1] (fun p wr => ∃ (k m c : Nat) (b : Option Addr), 64 * k + m = len ∧ p = .slice b m c ∧ m ≤ c ∧ (0 < m → b = some ⟨bp, op + 64 * k, none⟩) ∧ w.grownBy wr (some bx) ∧ Lies wr bx (blocks P s k) R 0 (n + len)) (fun p _ => lenOf p)
  case atStart => exact ⟨0, len, cap, a, by omega, rfl, hlc, HA.out, grown_set _ _ _ _, lies_length HR.out (n + len) HL.out⟩
  case round =>
    obtain ⟨k, m, c, b, hk, rfl, hmc, hb, hg, hl⟩ := hrel
    by_cases hlt : 64 ≤ m
    · obtain rfl := hb (by omega)
      clear hb
      have hpw : Hid (∀ j, j < 64 → wr.cell? ⟨bp, op + 64 * k + j, none⟩ = some (.int .u8 ((P (64 * k + j)).toNat : Int))) := by
        intro j hj
        rw [Nat.add_assoc]
        exact hg.cell (HP.out (64 * k + j) (by omega)) (by simpa using hbp)
      have hTw : Hid (∀ j, j < 64 → wr.cell? ⟨1, j, none⟩ = some (encW table[j]!)) := fun j hj => hg.cell (HT.out j hj) (by simpa using hbx.symm)
      have HK := Lib.hid hk
      clear hk
      by_cases hc : c = 64
      · subst hc
        have hm : m = 64 := by omega
        subst hm
        clear hlt hmc
        go_wp2_with ((go_at_call 59; refine (mix_obj bx bp (op + 64 * k) _ (fun j => P (64 * k + j)) (blocks P s k) R 0 (n + len) _ hpw.out hTw.out hl).mono ?_; rintro ee ww ⟨rfl, hgw, hlw⟩))
        go_roundw
        case rel => exact ⟨k + 1, 0, 0, _, by have := HK.out; omega, rfl, Nat.le_refl _, fun h => absurd h (by omega), World.grownBy.trans hg hgw, hlw⟩
        case measure => simp [lenOf]
      · go_wp2_with ((go_at_call 59; refine (mix_obj bx bp (op + 64 * k) _ (fun j => P (64 * k + j)) (blocks P s k) R 0 (n + len) _ hpw.out hTw.out hl).mono ?_; rintro ee ww ⟨rfl, hgw, hlw⟩))
        go_roundw
        case rel => exact ⟨k + 1, m - 64, c - 64, _, by have := HK.out; omega, rfl, by omega, fun _ => by rw [Nat.mul_add, Nat.add_assoc], World.grownBy.trans hg hgw, hlw⟩
        case measure => simp [lenOf]; omega
    · have hd : len / 64 = k := by omega
      have hm : len % 64 = m := by omega
      have HD := Lib.hid hd
      have HM := Lib.hid hm
      have HB := Lib.hid hb
      have HK := Lib.hid hk
      clear hd hm hb hk
      have hsrc : Hid (∀ j v, ((bytesOf P (64 * k) m).map encB)[j]? = some v → wr.cell? ((⟨bp, op + 64 * k, none⟩ : Addr).add j) = some v) := by
        intro j v hv
        have hj : j < m := by
          have := (List.getElem?_eq_some_iff.1 hv).1
          simpa [bytesOf] using this
        simp only [bytesOf, List.getElem?_map, List.getElem?_range hj, Option.map_some, Option.some.injEq] at hv
        rw [← hv, Addr.add_mid, Nat.add_assoc]
        exact hg.cell (HP.out (64 * k + j) (by have := HK.out; omega)) (by simpa using hbp)
      have hone : Hid (∀ v ∈ (bytesOf P (64 * k) m).map encB, v.oneCell' = true) := by
        intro v hv
        obtain ⟨x, _, rfl⟩ := List.mem_map.1 hv
        rfl
      have hlen : Hid (((bytesOf P (64 * k) m).map encB).length = m) := by show _ = _; simp [bytesOf]
      by_cases h0 : m = 0
      · subst h0
        have hl' : wr.heap[bx]? = some (.cells (obj (blocks P s k) R 0 (n + len)) 120 (0, 0)) := hl
        have c72 := cell_in hl 72
        rw [obj_filled _ _ _ _ HR.out] at c72
        have f72 := free_in hl 72
        clear hl'
        go_wp2_with ((with_reducible refine wpList_copy_nothing (o := ⟨some 70, _, _, _, _, _⟩) rfl _ _ 24 24 rfl 5 Tryz.underlying24 info5 (some ⟨bx, 8, none⟩) b 64 64 0 c ?_ ?_ ?_ ?_); (exact rfl); (exact rfl); (exact rfl))
        go_end0
        refine ⟨rfl, World.grownBy.trans hg (grown_set _ _ _ _), ?_⟩
        rw [HD.out, HM.out]
        exact lies_filled (lay_size _ _ _ HR.out (by simp [bytesOf])) 0 (by rw [show bytesOf P (64 * k) 0 = [] from rfl, lay_nil]; exact hl)
      · have hb := HB.out (by omega)
        subst hb
        have hl' : wr.heap[bx]? = some (.cells (obj (blocks P s k) R 0 (n + len)) 120 (0, 0)) := hl
        have HLW := Lib.hid hl'
        clear hl'
        go_wp2_with ((with_reducible refine wpList_copy_own (o := ⟨some 70, _, _, _, _, _⟩) rfl _ _ 24 24 rfl 5 Tryz.underlying24 info5 bx 8 64 64 _ m c ?_ ?_ _ 120 HLW.out ((bytesOf P (64 * k) m).map encB) ?_ hsrc.out ?_ hone.out ?_); (exact rfl); (exact rfl); (rw [hlen.out]; exact (Nat.min_eq_left (by omega)).symm); (rw [hlen.out, obj_size _ _ _ _ HR.out]; omega); (generalize hwz : World.setRow wr bx _ = wz); (have hg2 : wr.grownBy wz (some bx) := hwz ▸ grown_row wr bx _); (have hl2 : Lies wz bx (blocks P s k) (lay R 0 (bytesOf P (64 * k) m)) 0 (n + len) := hwz ▸ lies_row 0 (bytesOf P (64 * k) m) HR.out (by simp [bytesOf]; omega) hl); (have c72 := cell_in hl2 72); (rw [obj_filled _ _ _ _ (lay_size _ _ _ HR.out (by simp [bytesOf]; omega))] at c72); (have f72 := free_in hl2 72); (clear hwz); (rw [hlen.out]))
        go_end0
        refine ⟨rfl, World.grownBy.trans hg (World.grownBy.trans hg2 (grown_set _ _ _ _)), ?_⟩
        rw [HD.out, HM.out]
        exact lies_filled (lay_size _ _ _ HR.out (by simp [bytesOf]; omega)) m hl2
end Go.Proofs.YtfpehdldgnfciaaGreatDoor.Sha
