/- Texts of one ground, in one file: Sh Ba Ga Cu. -/
import Derived.Shelf.Strings.Builder1
import Derived.Shelf.Strings.Builder2
import Derived.Shelf.Strings.OnBuilder
import Derived.Shelf.Small.Bits
import Derived.Shelf.Strconv.Itoa0
import Derived.Shelf.Strings.Search1
import Derived.Shelf.Strings.Search2
import Derived.Shelf.Strings.Search3
import Derived.Shelf.Strings.Count
import Derived.Shelf.LaysM
import Derived.Shelf.Strings.Shaped
import Derived.Shelf.Sort.Plain
import Derived.Shelf.Strings.LastIndex
import Derived.Shelf.Strings.Prefix
import Derived.Shelf.Strings.Split
import Derived.Shelf.Unicode.DecodeSlow
import Derived.Shelf.Slices.In.SortNone
import Derived.Test.YtichejodbohldaaGreatDoorRows
import Derived.WalkKit
import Derived.WalkSpells
import Derived.Deep.QuietTactic
import Derived.BigQuiet
import Derived.IntWalk
import Derived.Lib.Hide
import Derived.Lib.SplitLaws
import Derived.Lib.Join
import Derived.Outline
import Derived.OwnWalk
import Derived.ArgAppend
import Derived.Laws.AppendOwnNone
import Derived.Laws.OwnMore
import Derived.Deep.MidRow
import Derived.Maps.OwnSet
import Derived.Maps.Ext
import Derived.Sort.Walk0
namespace Go.Proofs
open Go.Shelf
def Tryz.lays156_ren : Go.Shelf.Ren := ⟨fun | 156 => 86 | 165 => 102 | 166 => 103 | 169 => 104 | 240 => 122 | 241 => 123 | 276 => 132 | 277 => 133 | n => n, fun | 31 => 56 | 9 => 9 | 3 => 3 | 4 => 4 | 0 => 0 | 20 => 20 | 72 => 124 | 76 => 128 | 70 => 122 | 37 => 31 | 75 => 127 | 127 => 143 | 164 => 151 | 5 => 5 | 80 => 130 | n => n, fun | n => n⟩
theorem Tryz.lays156 : Go.Proofs.Lays.n156 Tryz.prog Tryz.lays156_ren := {
  mixed := by kernel_rfl
  f156 := Tryz.func86.trans (congrArg some (by kernel_rfl))
  f165 := Tryz.func102.trans (congrArg some (by kernel_rfl))
  f166 := Tryz.func103.trans (congrArg some (by kernel_rfl))
  f169 := Tryz.func104.trans (congrArg some (by kernel_rfl))
  f240 := Tryz.func122.trans (congrArg some (by kernel_rfl))
  f241 := Tryz.func123.trans (congrArg some (by kernel_rfl))
  f276 := Tryz.func132.trans (congrArg some (by kernel_rfl))
  f277 := Tryz.func133.trans (congrArg some (by kernel_rfl))
  t0 := Tryz.underlying0
  a0 := Tryz.isAgg0
  z0 := Tryz.sizeOf0
  v0 := Tryz.zeroValue0
  t3 := Tryz.underlying3
  a3 := Tryz.isAgg3
  z3 := Tryz.sizeOf3
  v3 := Tryz.zeroValue3
  t4 := Tryz.underlying4
  a4 := Tryz.isAgg4
  z4 := Tryz.sizeOf4
  v4 := Tryz.zeroValue4
  t9 := Tryz.underlying9
  a9 := Tryz.isAgg9
  z9 := Tryz.sizeOf9
  v9 := Tryz.zeroValue9
  t20 := Tryz.underlying20
  a20 := Tryz.isAgg20
  z20 := Tryz.sizeOf20
  v20 := Tryz.zeroValue20
  t31 := Tryz.underlying56
  a31 := Tryz.isAgg56
  z31 := Tryz.sizeOf56
  v31 := Tryz.zeroValue56
  t37 := Tryz.underlying31
  a37 := Tryz.isAgg31
  z37 := Tryz.sizeOf31
  v37 := Tryz.zeroValue31
  t70 := Tryz.underlying122
  a70 := Tryz.isAgg122
  z70 := Tryz.sizeOf122
  v70 := Tryz.zeroValue122
  t72 := Tryz.underlying124
  a72 := Tryz.isAgg124
  z72 := Tryz.sizeOf124
  v72 := Tryz.zeroValue124
  t75 := Tryz.underlying127
  a75 := Tryz.isAgg127
  z75 := Tryz.sizeOf127
  v75 := Tryz.zeroValue127
  t76 := Tryz.underlying128
  a76 := Tryz.isAgg128
  z76 := Tryz.sizeOf128
  v76 := Tryz.zeroValue128
  t127 := Tryz.underlying143
  a127 := Tryz.isAgg143
  z127 := Tryz.sizeOf143
  v127 := Tryz.zeroValue143
  t164 := Tryz.underlying151
  a164 := Tryz.isAgg151
  z164 := Tryz.sizeOf151
  v164 := Tryz.zeroValue151 }
theorem Tryz.Builder_Extra_156 : Builder.Extra Tryz.prog Tryz.lays156_ren := {
  sizeBuilder := by kernel_rfl
  liesBuilder := by kernel_rfl
  t5 := Tryz.underlying5
  a5 := Tryz.isAgg5
  z5 := Tryz.sizeOf5
  v5 := Tryz.zeroValue5
  infoByte := by kernel_rfl
  cellsByte := by kernel_rfl
  sizeByte := by kernel_rfl
  neB5 := by decide }
open Go.RowKit in
theorem Tryz.strings_Join_none (a : Option Addr) (c : Nat) (sep : ByteArray) (w : World) :
    Calls Tryz.prog 86 #[.slice a 0 c, .string sep] w fun e w' => e = .returned (.string ⟨#[]⟩) ∧ w' = w := Any.strings_Join_none Tryz.lays156 Tryz.Builder_Extra_156 a c sep w
open Go.RowKit in
theorem Tryz.strings_Join (bk o c : Nat) (xs : List ByteArray) (sep : ByteArray) (w : World) (hcells : ∀ (j : Nat) x, xs[j]? = some x → w.cell? ⟨bk, o + j, none⟩ = some (.string x)) (hbk : bk < w.heap.size) (hN : xs.length ≤ 140737488355328) (hcap : xs.length ≤ c) (hlen : (Lib.join (xs.map (·.data.toList)) sep.data.toList).length ≤ 140737488355328) :
    Calls Tryz.prog 86 #[.slice (some ⟨bk, o, none⟩) xs.length c, .string sep] w fun e w' => e = .returned (.string ⟨(Lib.join (xs.map (·.data.toList)) sep.data.toList).toArray⟩) ∧ Below w.heap.size w w' := Any.strings_Join Tryz.lays156 Tryz.Builder_Extra_156 bk o c xs sep w hcells hbk hN hcap hlen
def Tryz.lays149_ren : Go.Shelf.Ren := ⟨fun | 149 => 82 | 222 => 98 | n => n, fun | 9 => 9 | 5 => 5 | 3 => 3 | 4 => 4 | n => n, fun | n => n⟩
theorem Tryz.lays149 : Go.Proofs.Lays.n149 Tryz.prog Tryz.lays149_ren := {
  mixed := by kernel_rfl
  f149 := Tryz.func82.trans (congrArg some (by kernel_rfl))
  f222 := Tryz.func98.trans (congrArg some (by kernel_rfl))
  t3 := Tryz.underlying3
  a3 := Tryz.isAgg3
  z3 := Tryz.sizeOf3
  v3 := Tryz.zeroValue3
  t4 := Tryz.underlying4
  a4 := Tryz.isAgg4
  z4 := Tryz.sizeOf4
  v4 := Tryz.zeroValue4
  t5 := Tryz.underlying5
  a5 := Tryz.isAgg5
  z5 := Tryz.sizeOf5
  v5 := Tryz.zeroValue5
  t9 := Tryz.underlying9
  a9 := Tryz.isAgg9
  z9 := Tryz.sizeOf9
  v9 := Tryz.zeroValue9 }
open Go.RowKit Go.Lib in
theorem Tryz.strings_LastIndexByte (s : ByteArray) (c : Int) (hs : s.size < 4611686018427387904) (w : World) :
    Calls Tryz.prog 82 #[.string s, .int .u8 c] w fun e w' => e = .returned (.int .i64 (Lib.lastIndexByte s c)) ∧ w' = w := Any.strings_LastIndexByte Tryz.lays149 s c hs w
def Tryz.lays99_ren : Go.Shelf.Ren := ⟨fun | 99 => 83 | 206 => 99 | n => n, fun | 9 => 9 | 4 => 4 | 3 => 3 | n => n, fun | n => n⟩
theorem Tryz.lays99 : Go.Proofs.Lays.n99 Tryz.prog Tryz.lays99_ren := {
  mixed := by kernel_rfl
  f99 := Tryz.func83.trans (congrArg some (by kernel_rfl))
  f206 := Tryz.func99.trans (congrArg some (by kernel_rfl))
  t3 := Tryz.underlying3
  a3 := Tryz.isAgg3
  z3 := Tryz.sizeOf3
  v3 := Tryz.zeroValue3
  t4 := Tryz.underlying4
  a4 := Tryz.isAgg4
  z4 := Tryz.sizeOf4
  v4 := Tryz.zeroValue4
  t9 := Tryz.underlying9
  a9 := Tryz.isAgg9
  z9 := Tryz.sizeOf9
  v9 := Tryz.zeroValue9 }
open Go.RowKit Go.Lib in
theorem Tryz.strings_HasPrefix (s p : ByteArray) (w : World) :
    Calls Tryz.prog 83 #[.string s, .string p] w fun e w' => e = .returned (.bool (Lib.hasPrefix s.data.toList p.data.toList)) ∧ w' = w := Any.strings_HasPrefix Tryz.lays99 s p w
def Tryz.lays146_ren : Go.Shelf.Ren := ⟨fun | 146 => 84 | 221 => 100 | 268 => 119 | 138 => 120 | 143 => 121 | 195 => 128 | 197 => 129 | 218 => 130 | 219 => 131 | 260 => 135 | 217 => 136 | 225 => 137 | 224 => 138 | 267 => 139 | 266 => 140 | 314 => 141 | n => n, fun | 9 => 9 | 31 => 56 | 3 => 3 | 4 => 4 | 0 => 0 | 105 => 149 | 21 => 21 | 5 => 5 | 46 => 104 | 119 => 156 | 139 => 159 | 138 => 158 | 146 => 160 | 51 => 117 | n => n, fun | 1 => 0 | 3 => 1 | 4 => 2 | n => n⟩
theorem Tryz.lays146 : Go.Proofs.Lays.n146 Tryz.prog Tryz.lays146_ren := {
  mixed := by kernel_rfl
  f138 := Tryz.func120.trans (congrArg some (by kernel_rfl))
  f143 := Tryz.func121.trans (congrArg some (by kernel_rfl))
  f146 := Tryz.func84.trans (congrArg some (by kernel_rfl))
  f195 := Tryz.func128.trans (congrArg some (by kernel_rfl))
  f197 := Tryz.func129.trans (congrArg some (by kernel_rfl))
  f217 := Tryz.func136.trans (congrArg some (by kernel_rfl))
  f218 := Tryz.func130.trans (congrArg some (by kernel_rfl))
  f219 := Tryz.func131.trans (congrArg some (by kernel_rfl))
  f221 := Tryz.func100.trans (congrArg some (by kernel_rfl))
  f224 := Tryz.func138.trans (congrArg some (by kernel_rfl))
  f225 := Tryz.func137.trans (congrArg some (by kernel_rfl))
  f260 := Tryz.func135.trans (congrArg some (by kernel_rfl))
  f266 := Tryz.func140.trans (congrArg some (by kernel_rfl))
  f267 := Tryz.func139.trans (congrArg some (by kernel_rfl))
  f268 := Tryz.func119.trans (congrArg some (by kernel_rfl))
  f314 := Tryz.func141.trans (congrArg some (by kernel_rfl))
  t0 := Tryz.underlying0
  a0 := Tryz.isAgg0
  z0 := Tryz.sizeOf0
  v0 := Tryz.zeroValue0
  t3 := Tryz.underlying3
  a3 := Tryz.isAgg3
  z3 := Tryz.sizeOf3
  v3 := Tryz.zeroValue3
  t4 := Tryz.underlying4
  a4 := Tryz.isAgg4
  z4 := Tryz.sizeOf4
  v4 := Tryz.zeroValue4
  t5 := Tryz.underlying5
  a5 := Tryz.isAgg5
  z5 := Tryz.sizeOf5
  v5 := Tryz.zeroValue5
  t9 := Tryz.underlying9
  a9 := Tryz.isAgg9
  z9 := Tryz.sizeOf9
  v9 := Tryz.zeroValue9
  t21 := Tryz.underlying21
  a21 := Tryz.isAgg21
  z21 := Tryz.sizeOf21
  v21 := Tryz.zeroValue21
  t31 := Tryz.underlying56
  a31 := Tryz.isAgg56
  z31 := Tryz.sizeOf56
  v31 := Tryz.zeroValue56
  t46 := Tryz.underlying104
  a46 := Tryz.isAgg104
  z46 := Tryz.sizeOf104
  v46 := Tryz.zeroValue104
  t51 := Tryz.underlying117
  a51 := Tryz.isAgg117
  z51 := Tryz.sizeOf117
  v51 := Tryz.zeroValue117
  t105 := Tryz.underlying149
  a105 := Tryz.isAgg149
  z105 := Tryz.sizeOf149
  v105 := Tryz.zeroValue149
  t119 := Tryz.underlying156
  a119 := Tryz.isAgg156
  z119 := Tryz.sizeOf156
  t138 := Tryz.underlying158
  a138 := Tryz.isAgg158
  z138 := Tryz.sizeOf158
  v138 := Tryz.zeroValue158
  t139 := Tryz.underlying159
  a139 := Tryz.isAgg159
  z139 := Tryz.sizeOf159
  v139 := Tryz.zeroValue159
  t146 := Tryz.underlying160
  a146 := Tryz.isAgg160
  z146 := Tryz.sizeOf160
  v146 := Tryz.zeroValue160
  g1 := by kernel_rfl
  g3 := by kernel_rfl
  g4 := by kernel_rfl }
open Go.RowKit Go.Lib in
theorem Tryz.strings_Split (s sep : ByteArray) (m : Int) (w : World) (hs : s.size < 4294967281) (hm : w.cell? ⟨0, 0, none⟩ = some (.int .i64 m)) (h1 : 1 ≤ sep.size) :
    Calls Tryz.prog 84 #[.string s, .string sep] w fun e w' =>
      e = .returned (.slice (some ⟨w.heap.size, 0, none⟩) (Lib.countB s sep + 1) (Lib.countB s sep + 1)) ∧ w' = w.alloc (.cells ((Lib.splitB sep 0 (Lib.countB s sep) s).map Value.string).toArray 9) := Any.strings_Split Tryz.lays146 (by kernel_rfl) s sep m w hs hm h1
end Go.Proofs
namespace Go.Proofs.YtichejodbohldaaGreatDoor
open Go.RowKit

theorem alloc_cell (w : World) (c : Array Value) (t : TypeId) (i : Nat) : (w.alloc (.cells c t)).cell? ⟨w.heap.size, i, none⟩ = c[i]? := by
  simp [World.alloc, World.cell?, -World.alloc_eq]
theorem alloc_frozen (w : World) (c : Array Value) (t : TypeId) (i : Nat) : (w.alloc (.cells c t)).frozen? ⟨w.heap.size, i, none⟩ = false := by
  simp [World.alloc, World.frozen?, -World.alloc_eq]
theorem alloc_size (w : World) (o : Obj) : (w.alloc o).heap.size = w.heap.size + 1 := by
  show (w.heap.push o).size = _
  simp
theorem cell_in {w : World} {b : Nat} {c : Array Value} {t : TypeId} (h : w.heap[b]? = some (.cells c t (0, 0))) (j : Nat) : w.cell? ⟨b, j, none⟩ = c[j]? := by
  simp [World.cell?, h]
theorem grown_new {w w1 w2 : World} {k : Nat} (h1 : w.grownBy w1 none) (h2 : w1.grownBy w2 (some k)) (hk : w.heap.size ≤ k) : w.grownBy w2 none :=
  ⟨h2.os.trans h1.os, h2.tape.trans h1.tape, h2.output.trans h1.output, Nat.le_trans h1.size h2.size, fun j hj hne => (h2.block j (Nat.lt_of_lt_of_le hj h1.size) (by simp; omega)).trans (h1.block j hj hne)⟩
theorem grown_drew {w w1 : World} (n : Nat) (h : w.grownBy w1 none) : w.grownBy (w1.drewN n) none := ⟨h.os, h.tape, h.output, h.size, h.block⟩
theorem grown_alloc {w w1 : World} (o : Obj) (h : w.grownBy w1 none) : w.grownBy (w1.alloc o) none := World.grownBy.trans h (World.grownBy_alloc _ _ _)
theorem below_of_grown {w w' : World} (h : w.grownBy w' none) : Below w.heap.size w w' := ⟨h.os, h.tape, h.output, h.size, fun k hk => h.block k hk (by simp)⟩
theorem grown_of_below {w w' : World} (h : Below w.heap.size w w') : w.grownBy w' none := ⟨h.os, h.tape, h.output, h.size, fun k hk _ => h.block k hk⟩
theorem frozen_kept {w w1 : World} (h : w.grownBy w1 none) {b : Nat} (hb : b < w.heap.size) (o : Nat) : w1.frozen? ⟨b, o, none⟩ = w.frozen? ⟨b, o, none⟩ := by
  have e := h.block b hb (by simp)
  simp only [World.frozen?, e]

theorem beq_no (a : Nat) (k : Int) (h : (a : Int) ≠ k) : ((a : Int) == k) = false := by simp [h]
theorem eq_list (x : ByteArray) (l : List UInt8) (h : x = ⟨l.toArray⟩) : x.toList = l := by
  rw [h, ByteArray.toList_eq]
theorem ne_list (x : ByteArray) (l : List UInt8) (h : ¬ x = ⟨l.toArray⟩) : ¬ x.toList = l := by
  intro e
  apply h
  rw [ByteArray.toList_eq] at e
  apply ByteArray.ext
  apply Array.ext'
  rw [e]
theorem nb_list (x : ByteArray) (l : List UInt8) (h : ¬ x = ⟨l.toArray⟩) : (x.toList == l) = false := by
  rw [beq_eq_false_iff_ne]; exact ne_list x l h
theorem ne_lists (x y : ByteArray) (h : ¬ x = y) : ¬ x.toList = y.toList := by
  intro e
  apply h
  rw [ByteArray.toList_eq, ByteArray.toList_eq] at e
  apply ByteArray.ext
  apply Array.ext'
  rw [e]
theorem nb_lists (x y : ByteArray) (h : ¬ x = y) : (x.toList == y.toList) = false := by
  rw [beq_eq_false_iff_ne]; exact ne_lists x y h
theorem empty_no (x : ByteArray) (h : ¬ x = ⟨#[]⟩) : x.toList.isEmpty = false := by
  cases hl : x.toList with
  | nil => exact absurd hl (ne_list x [] h)
  | cons _ _ => rfl
theorem bytes_ext {x y : ByteArray} (h : x.data.toList = y.data.toList) : x = y := by
  apply ByteArray.ext
  exact Array.ext' h

def byteAt (s : ByteArray) (i : Nat) : UInt8 := s.data.toList.getD i 0
theorem byteAt_eq (s : ByteArray) (i : Nat) (h : i < s.size) : byteAt s i = s[i] := by
  unfold byteAt
  rw [List.getD_eq_getElem?_getD, Array.getElem?_toList, Array.getElem?_eq_getElem (by simpa using h)]; rfl
theorem byteAt_extract (s : ByteArray) (a j : Nat) (h : a + j < s.size) : byteAt (s.extract a s.size) j = byteAt s (a + j) := by
  have h1 : j < (s.extract a s.size).size := by rw [ByteArray.size_extract]; omega
  rw [byteAt_eq _ _ h1, byteAt_eq _ _ h, ByteArray.getElem_extract]
theorem byteAt_extract' (s : ByteArray) (a b j : Nat) (h : a + j < b) (hb : b ≤ s.size) : byteAt (s.extract a b) j = byteAt s (a + j) := by
  have h1 : j < (s.extract a b).size := by rw [ByteArray.size_extract]; omega
  rw [byteAt_eq _ _ h1, byteAt_eq _ _ (by omega), ByteArray.getElem_extract]
def toB (l : List UInt8) : ByteArray := ⟨l.toArray⟩
theorem toB_data (s : ByteArray) : toB s.data.toList = s := by
  apply ByteArray.ext; simp [toB]
theorem data_toB (l : List UInt8) : (toB l).data.toList = l := by simp [toB]
theorem data_len (s : ByteArray) : s.data.toList.length = s.size := by simp
theorem byteAt_mem (s : ByteArray) (j : Nat) (h : j < s.size) : byteAt s j ∈ s.data.toList := by
  unfold byteAt
  rw [List.getD_eq_getElem?_getD, List.getElem?_eq_getElem (by rw [data_len]; exact h)]
  exact List.getElem_mem _

/-- v holds the texts L, in a block that was made from base on. -/
def OwnsS (w : World) (base : Nat) (v : Value) (L : List ByteArray) : Prop := w.ownsRow base 9 1 v L.length (L.map Value.string)
/-- v is the texts M, which lie anywhere below B. -/
def PartS (w : World) (B : Nat) (v : Value) (M : List ByteArray) : Prop :=
  ∃ a cap b o, v = .slice a M.length cap ∧ M.length ≤ cap ∧ (a = none → cap = 0) ∧ b < B ∧ (0 < M.length → a = some ⟨b, o, none⟩) ∧ ∀ j x, M[j]? = some x → w.cell? ⟨b, o + j, none⟩ = some (.string x)

theorem OwnsS.nil (w : World) (base : Nat) : OwnsS w base (.slice none 0 0) [] := World.ownsRow_nil w base 9 1
theorem OwnsS.form {w : World} {base : Nat} {v : Value} {L : List ByteArray} (h : OwnsS w base v L) : ∃ a cap, v = .slice a L.length cap ∧ L.length ≤ cap ∧ cap ≤ maxLen := by
  rcases h.2 with ⟨h1, h2⟩ | ⟨g, cap, cur, h1, h2, h3, h4, h5, _⟩
  · exact ⟨none, 0, by rw [h1, h2], by omega, by unfold maxLen; omega⟩
  · exact ⟨_, cap, h1, h4, h5⟩
theorem OwnsS.block_lt {w : World} {base : Nat} {v : Value} {L : List ByteArray} (h : OwnsS w base v L) (k : Nat) (e : v.ownBlock = some k) : base ≤ k ∧ k < w.heap.size := World.ownsRow.lt h k e
theorem OwnsS.part {w : World} {base : Nat} {v : Value} {L : List ByteArray} (h : OwnsS w base v L) (hp : 0 < w.heap.size) : PartS w w.heap.size v L := by
  have hlt := OwnsS.block_lt h
  rcases h.2 with ⟨h1, h2⟩ | ⟨g, cap, cur, h1, h2, h3, h4, h5, h6, h7⟩
  · exact ⟨none, 0, 0, 0, by rw [h1, h2], by omega, fun _ => rfl, hp, fun hh => by omega, fun j x hj => by
      have := (List.getElem?_eq_some_iff.1 hj).1; omega⟩
  · have hg := (hlt g (by rw [h1]; rfl)).2
    refine ⟨some ⟨g, 0, none⟩, cap, g, 0, h1, h4, (fun h => by cases h), hg, fun _ => rfl, fun j x hj => ?_⟩
    have hjl := (List.getElem?_eq_some_iff.1 hj).1
    rw [Nat.zero_add, cell_in h3]
    have e : (L.map Value.string)[j]? = some (.string x) := by rw [List.getElem?_map, hj]; rfl
    rw [← h7, List.getElem?_take, if_pos (by omega)] at e
    simpa using e
theorem OwnsS.grown {w w1 w2 : World} {v : Value} {L : List ByteArray} (h : OwnsS w1 w.heap.size v L) (h1 : w.grownBy w1 none) (h2 : w1.grownBy w2 v.ownBlock) : w.grownBy w2 none := by
  cases e : v.ownBlock with
  | none => rw [e] at h2; exact World.grownBy.trans h1 h2
  | some k => rw [e] at h2; exact grown_new h1 h2 (World.ownsRow.lt h k e).1
theorem OwnsS.alloc {w : World} {base : Nat} {v : Value} {L : List ByteArray} (h : OwnsS w base v L) (o : Obj) : OwnsS (w.alloc o) base v L := World.ownsRow.alloc h o
theorem OwnsS.stays {w w1 : World} {base : Nat} {v : Value} {L : List ByteArray} (h : OwnsS w base v L) (hg : w.grownBy w1 none) : OwnsS w1 base v L :=
  World.ownsRow.kept h hg (by cases v.ownBlock with
    | none => exact .inl rfl
    | some k => exact .inr (by simp))
theorem OwnsS.mono {w : World} {b c : Nat} {v : Value} {L : List ByteArray} (h : OwnsS w b v L) (hc : c ≤ b) : OwnsS w c v L := by
  refine ⟨h.1, ?_⟩
  rcases h.2 with h1 | ⟨g, cap, cur, h1, h2, h3⟩
  · exact .inl h1
  · exact .inr ⟨g, cap, cur, h1, Nat.le_trans hc h2, h3⟩
theorem OwnsS.shorter {w : World} {b n cap : Nat} {a : Option Addr} {L : List ByteArray} (h : OwnsS w b (.slice a n cap) L) (hn : L.length = n) (h0 : 0 < n) : OwnsS w b (.slice a (n - 1) cap) L.dropLast := by
  have hl : L.dropLast.length = n - 1 := by rw [List.length_dropLast, hn]
  refine ⟨by simp, ?_⟩
  rcases h.2 with ⟨h1, h2⟩ | ⟨g, cp, cur, h1, h2, h3, h4, h5, h6, h7⟩
  · omega
  · have e := Value.slice.inj h1
    refine .inr ⟨g, cap, cur, by rw [e.1, hl], h2, h3, ?_, ?_, ?_, ?_⟩
    · have := e.2.1; rw [hl]; have := e.2.2; omega
    · rw [e.2.2]; exact h5
    · rw [e.2.2]; exact h6
    · rw [hl, List.map_dropLast, ← h7, List.dropLast_eq_take, List.length_take, List.take_take]
      congr 1
      have : cur.toList.length = cp := by simpa using h6
      omega
theorem PartS.grown {w w' : World} {B : Nat} {v : Value} {M : List ByteArray} {r : Option Nat} (h : PartS w B v M) (hg : w.grownBy w' r) (hr : ∀ k, r = some k → B ≤ k) : PartS w' B v M := by
  obtain ⟨a, cap, b, o, h1, h2, h3, h4, h5, h6⟩ := h
  exact ⟨a, cap, b, o, h1, h2, h3, h4, h5, fun j x hj => hg.cell (h6 j x hj) (fun e => by have := hr b e.symm; omega)⟩
theorem PartS.stays {w w' : World} {B : Nat} {v : Value} {M : List ByteArray} (h : PartS w B v M) (hg : w.grownBy w' none) : PartS w' B v M := h.grown hg (fun k hk => by simp at hk)
theorem PartS.le {w : World} {B B' : Nat} {v : Value} {M : List ByteArray} (h : PartS w B v M) (hB : B ≤ B') : PartS w B' v M := by
  obtain ⟨a, cap, b, o, h1, h2, h3, h4, h5, h6⟩ := h
  exact ⟨a, cap, b, o, h1, h2, h3, by omega, h5, h6⟩
theorem PartS.form {w : World} {B : Nat} {v : Value} {M : List ByteArray} (h : PartS w B v M) : ∃ a cap, v = .slice a M.length cap ∧ M.length ≤ cap ∧ (a = none → cap = 0) := by
  obtain ⟨a, cap, b, o, h1, h2, h3, h4, h5, h6⟩ := h
  exact ⟨a, cap, h1, h2, h3⟩
/-- The k-th text of a part, by its cell. -/
theorem PartS.at {w : World} {B n cap : Nat} {a : Option Addr} {M : List ByteArray} (h : PartS w B (.slice a n cap) M) (k : Nat) (x : ByteArray) (hk : M[k]? = some x) : ∃ b o, a = some ⟨b, o, none⟩ ∧ b < B ∧ w.cell? ⟨b, o + k, none⟩ = some (.string x) := by
  obtain ⟨a', cap', b, o, f1, f2, f3, f4, f5, f6⟩ := h
  have e := Value.slice.inj f1
  have hl := (List.getElem?_eq_some_iff.1 hk).1
  exact ⟨b, o, by rw [e.1]; exact f5 (by omega), f4, f6 k x hk⟩
theorem PartS.nil {w : World} {B : Nat} (h : 0 < B) : PartS w B (.slice none 0 0) [] :=
  ⟨none, 0, 0, 0, rfl, Nat.le_refl _, fun _ => rfl, h, fun h => by simp at h, fun j x hj => by simp at hj⟩
/-- Texts that lie in a block of their own. -/
theorem part_block (w : World) (P : List ByteArray) (t : TypeId) (n : Nat) (hn : P.length = n) : PartS (w.alloc (.cells (P.map Value.string).toArray t)) (w.heap.size + 1) (.slice (some ⟨w.heap.size, 0, none⟩) n n) P :=
  ⟨_, n, w.heap.size, 0, by rw [hn], by rw [hn]; exact Nat.le_refl _, fun h => by simp at h, by omega, fun _ => rfl, fun j y hj => by
    rw [Nat.zero_add, alloc_cell]; simp [hj]⟩
/-- One text, in a block of its own. -/
theorem part_str (w : World) (x : ByteArray) (t : TypeId) : PartS (w.alloc (.cells #[.string x] t)) (w.heap.size + 1) (.slice (some ⟨w.heap.size, 0, none⟩) 1 1) [x] :=
  part_block w [x] t 1 rfl

theorem infoS : (Tryz.prog.info? 9).map (fun i => (i.zero, i.size, i.bytes)) = some (some (.string ByteArray.empty), 1, 16) := by kernel_rfl

/-- append of texts that lie anywhere to texts that the call owns. -/
theorem app_str {w : World} {ops : Array Oper} {rest : List Oper} {o : Oper} {a : Act} {Q : Exit → Act → World → Prop} (hgd : o.guard = none) (s x : Operand)
    (ho : o.op = .call { callee := .builtin .append, args := #[s, x], argTypes := #[56, 56] }) (base B : Nat) (v xv : Value) (L M : List ByteArray) (hs : a.eval s = v) (hown : OwnsS w base v L)
    (hx : a.eval x = xv) (hp : PartS w B xv M) (hb : L.length + M.length ≤ 8000000) (hbase : base ≤ w.heap.size)
    (h : ∀ v' w', OwnsS w' base v' (L ++ M) → w.grownBy w' v.ownBlock → wpList Tryz.prog ops Q rest (a.put o.dst v') w') : wpList Tryz.prog ops Q (o :: rest) a w := by
  obtain ⟨i0, hi, hz0, hz1, hz2⟩ := info_parts infoS
  obtain ⟨ap, cap, b, of, h1, h2, h6, h3, h4, h5⟩ := hp
  subst h1
  cases ap with
  | none =>
    have hc := h6 rfl
    have hm : M = [] := List.eq_nil_of_length_eq_zero (by omega)
    subst hm
    have hc' : cap = 0 := by omega
    subst hc'
    refine wpList_append_own_none hgd s x 56 ho base 9 i0 1 Tryz.underlying56 hi v L.length (L.map Value.string) hs hown hx ?_
    exact h v w (by simpa using hown) (World.grownBy.refl _ _)
  | some ad =>
    refine wpList_append_own w hgd s x 56 ho base 9 i0 (.string ByteArray.empty) 1 16 Tryz.underlying56 hi hz0 hz1 hz2 rfl (by decide) v L.length (L.map Value.string) hs hown ad M.length cap (M.map Value.string) hx (by simp) ?_ ?_ (by unfold maxLen; omega) (by omega) hbase ?_
    · intro j u hu
      have hj : j < M.length := by have := (List.getElem?_eq_some_iff.1 hu).1; simpa using this
      have e := h4 (by omega)
      rw [List.getElem?_map, List.getElem?_eq_getElem hj] at hu
      have hu' : Value.string M[j] = u := by simpa using hu
      rw [Option.some.inj e, Addr.add_mid, h5 j M[j] (List.getElem?_eq_getElem hj), hu']
    · intro u hu
      obtain ⟨y, _, rfl⟩ := List.mem_map.1 hu
      rfl
    · intro v' w' h7 h8 _
      refine h v' w' ?_ h8
      show World.ownsRow _ _ _ _ _ _ _
      rw [List.length_append, List.map_append]
      exact h7

/-- Parts, put together with a text between. -/
def joinB (sep : ByteArray) (L : List ByteArray) : ByteArray := ⟨(Lib.join (L.map (·.data.toList)) sep.data.toList).toArray⟩
theorem joinB_nil (sep : ByteArray) : joinB sep [] = ByteArray.empty := rfl
theorem joinB_one (sep x : ByteArray) : joinB sep [x] = x := by
  unfold joinB
  simp [Lib.join_one]
theorem joinB_snoc (sep : ByteArray) (L : List ByteArray) (x : ByteArray) (h : L ≠ []) : joinB sep (L ++ [x]) = joinB sep L ++ sep ++ x := by
  obtain ⟨y, r, rfl⟩ : ∃ y r, L = y :: r := List.exists_cons_of_ne_nil h
  unfold joinB
  rw [List.cons_append, List.map_cons, List.map_cons, Lib.join_cons, Lib.join_cons]
  apply ByteArray.ext
  apply Array.ext'
  simp [Lib.joinTail]
theorem joinB_app (sep : ByteArray) (A B : List ByteArray) (ha : A ≠ []) (hb : B ≠ []) : joinB sep (A ++ B) = joinB sep A ++ sep ++ joinB sep B := by
  obtain ⟨y, r, rfl⟩ : ∃ y r, A = y :: r := List.exists_cons_of_ne_nil ha
  obtain ⟨z, t, rfl⟩ : ∃ y r, B = y :: r := List.exists_cons_of_ne_nil hb
  unfold joinB
  apply ByteArray.ext
  apply Array.ext'
  simp only [List.cons_append, List.map_cons, Lib.join_cons, List.map_append]
  simp [Lib.joinTail]
def strAt (L : List ByteArray) (i : Nat) : ByteArray := L.getD i ByteArray.empty
theorem strAt_eq (L : List ByteArray) (i : Nat) (h : i < L.length) : L[i]? = some (strAt L i) := by
  unfold strAt
  rw [List.getD_eq_getElem?_getD, List.getElem?_eq_getElem h]; rfl
theorem take_snocL {α : Type} (L : List α) (k : Nat) (b : α) (h : L[k]? = some b) : L.take (k + 1) = L.take k ++ [b] := by
  rw [List.take_add_one, h]; rfl
/-- All the bytes of the parts, and one for each. -/
def sumS : List ByteArray → Nat
  | [] => 0
  | x :: r => x.size + 1 + sumS r
theorem sumS_snoc (L : List ByteArray) (x : ByteArray) : sumS (L ++ [x]) = sumS L + x.size + 1 := by
  induction L with
  | nil => simp [sumS]
  | cons y r ih => simp only [List.cons_append, sumS, ih]; omega
theorem sumS_app (L M : List ByteArray) : sumS (L ++ M) = sumS L + sumS M := by
  induction L with
  | nil => simp [sumS]
  | cons x r ih => simp only [List.cons_append, sumS, ih]; omega
theorem sumS_take (L : List ByteArray) (k : Nat) : sumS (L.take k) ≤ sumS L := by
  induction L generalizing k with
  | nil => simp [sumS]
  | cons y r ih => cases k with
    | zero => simp [sumS]
    | succ k => simp only [List.take_succ_cons, sumS]; have := ih k; omega
theorem sumS_le (L : List ByteArray) (c : Nat) (h : ∀ p ∈ L, p.size ≤ c) : sumS L ≤ L.length * (c + 1) := by
  induction L with
  | nil => simp [sumS]
  | cons x r ih =>
    have h1 := h x (by simp)
    have h2 := ih fun p hp => h p (by simp [hp])
    simp only [sumS, List.length_cons, Nat.add_mul]
    omega
theorem joinB_size (d : UInt8) (L : List ByteArray) (h : L ≠ []) : (joinB ⟨#[d]⟩ L).size + 1 = sumS L := by
  cases L with
  | nil => exact absurd rfl h
  | cons y r =>
    have h : ∀ (r : List ByteArray), (Lib.joinTail (⟨#[d]⟩ : ByteArray).data.toList (r.map (·.data.toList))).length = sumS r := by
      intro r
      induction r with
      | nil => rfl
      | cons z r ih =>
        simp only [Lib.joinTail, List.map_cons, List.flatten_cons, List.length_append, sumS] at ih ⊢
        rw [ih]; simp; omega
    show (Lib.join _ _).toArray.size + 1 = _
    rw [List.map_cons, Lib.join_cons, List.size_toArray, List.length_append, h]
    simp [sumS]; omega
theorem joinB_le (d : UInt8) (L : List ByteArray) : (joinB ⟨#[d]⟩ L).size ≤ sumS L := by
  by_cases h : L = []
  · subst h; exact Nat.le_refl _
  · have := joinB_size d L h; omega
end Go.Proofs.YtichejodbohldaaGreatDoor
namespace Go.Proofs.YtichejodbohldaaGreatDoor
open Go.RowKit

/-- Values by keys. -/
abbrev As (α : Type) := List (ByteArray × α)
def lessA (x y : ByteArray) : Bool := Op.bytesLess x.data.toList y.data.toList
theorem lessA_lt (x y : ByteArray) : lessA x y = decide (x.data.toList < y.data.toList) := by
  unfold lessA; rw [bytesLess_eq]
theorem lessA_self (x : ByteArray) : lessA x x = false := by
  rw [lessA_lt, decide_eq_false_iff_not]; exact List.lt_irrefl _
theorem lessA_trans {x y z : ByteArray} (h1 : lessA x y = true) (h2 : lessA y z = true) : lessA x z = true := by
  rw [lessA_lt, decide_eq_true_eq] at *
  exact List.lt_trans h1 h2
theorem lessA_asymm {x y : ByteArray} (h1 : lessA x y = true) : lessA y x = false := by
  rw [← Bool.not_eq_true]; intro h2
  have := lessA_trans h1 h2
  rw [lessA_self] at this; cases this
theorem lessA_total {x y : ByteArray} (h1 : ¬ x = y) (h2 : lessA x y = false) : lessA y x = true := by
  rw [lessA_lt, decide_eq_true_eq]
  rw [lessA_lt, decide_eq_false_iff_not] at h2
  rcases List.le_total x.data.toList y.data.toList with h | h
  · exact absurd (bytes_ext (List.le_antisymm h h2)) h1
  · rcases Decidable.em (y.data.toList < x.data.toList) with h3 | h3
    · exact h3
    · exact absurd (bytes_ext (List.le_antisymm h3 h)) h1
theorem lessA_ne {x y : ByteArray} (h : lessA x y = true) : ¬ x = y := by
  rintro rfl; rw [lessA_self] at h; cases h

variable {α β : Type}
def getA : As α → ByteArray → Option α
  | [], _ => none
  | (q, x) :: r, p => if q = p then some x else getA r p
def putA : As α → ByteArray → α → As α
  | [], p, x => [(p, x)]
  | (q, y) :: r, p, x => if q = p then (p, x) :: r else if lessA p q = true then (p, x) :: (q, y) :: r else (q, y) :: putA r p x
def delA (M : As α) (p : ByteArray) : As α := M.filter fun e => decide (¬ e.1 = p)
def AscA (M : As α) : Prop := M.Pairwise fun a b => lessA a.1 b.1 = true
def mapA (f : α → β) (M : As α) : As β := M.map fun e => (e.1, f e.2)

theorem getA_nil (p : ByteArray) : getA ([] : As α) p = none := rfl
theorem getA_cons (q p : ByteArray) (x : α) (r : As α) : getA ((q, x) :: r) p = if q = p then some x else getA r p := rfl
theorem putA_cons (q p : ByteArray) (y x : α) (r : As α) : putA ((q, y) :: r) p x = if q = p then (p, x) :: r else if lessA p q = true then (p, x) :: (q, y) :: r else (q, y) :: putA r p x := rfl
theorem getA_put_same (M : As α) (p : ByteArray) (x : α) : getA (putA M p x) p = some x := by
  induction M with
  | nil => simp [putA, getA]
  | cons e r ih =>
    obtain ⟨q, y⟩ := e
    unfold putA
    split
    · simp [getA]
    · split
      · simp [getA]
      · rename_i h1 h2
        unfold getA
        rw [if_neg h1]; exact ih
theorem getA_put_other (M : As α) (p q : ByteArray) (x : α) (h : ¬ p = q) : getA (putA M p x) q = getA M q := by
  induction M with
  | nil => simp [putA, getA, h]
  | cons e r ih =>
    obtain ⟨k, y⟩ := e
    unfold putA
    split
    · rename_i h1
      subst h1
      simp [getA, h]
    · split
      · simp [getA, h]
      · unfold getA
        rw [ih]
theorem getA_put (M : As α) (p q : ByteArray) (x : α) : getA (putA M p x) q = if p = q then some x else getA M q := by
  split
  · rename_i h; subst h; exact getA_put_same M p x
  · rename_i h; exact getA_put_other M p q x h
theorem getA_del (M : As α) (p q : ByteArray) : getA (delA M p) q = if p = q then none else getA M q := by
  induction M with
  | nil => simp [delA, getA]
  | cons e r ih =>
    obtain ⟨k, y⟩ := e
    unfold delA at ih ⊢
    rw [List.filter_cons]
    by_cases hk : k = p
    · subst hk
      simp only [not_true_eq_false, decide_false, Bool.false_eq_true, if_false]
      rw [ih]
      split
      · rfl
      · rename_i h; simp [getA, h]
    · simp only [hk, not_false_eq_true, decide_true, if_true]
      rw [getA_cons, getA_cons, ih]
      by_cases hq : k = q
      · subst hq
        rw [if_pos rfl, if_neg (fun h : p = k => hk h.symm), if_pos rfl]
      · rw [if_neg hq, if_neg hq]
theorem getA_filter (M : As α) (f : ByteArray → Bool) (q : ByteArray) : getA (M.filter fun e => f e.1) q = if f q = true then getA M q else none := by
  induction M with
  | nil => simp [getA]
  | cons e r ih =>
    obtain ⟨k, y⟩ := e
    rw [List.filter_cons]
    by_cases hk : f k = true
    · simp only [hk, if_true]
      rw [getA_cons, getA_cons, ih]
      by_cases hq : k = q
      · subst hq; simp [hk]
      · simp [hq]
    · simp only [hk]
      rw [getA_cons]
      by_cases hq : k = q
      · subst hq; rw [if_neg (by simp), ih, if_neg hk, if_neg hk]
      · rw [if_neg (by simp), ih, if_neg hq]
theorem getA_map (f : α → β) (M : As α) (p : ByteArray) : getA (mapA f M) p = (getA M p).map f := by
  induction M with
  | nil => rfl
  | cons e r ih =>
    obtain ⟨k, y⟩ := e
    unfold mapA at ih ⊢
    rw [List.map_cons]
    unfold getA
    by_cases h : k = p
    · simp [h]
    · simp [h]; exact ih
theorem putA_map (f : α → β) (M : As α) (p : ByteArray) (x : α) : putA (mapA f M) p (f x) = mapA f (putA M p x) := by
  induction M with
  | nil => rfl
  | cons e r ih =>
    obtain ⟨k, y⟩ := e
    unfold mapA at ih ⊢
    rw [List.map_cons]
    unfold putA
    by_cases h : k = p
    · simp [h]
    · by_cases h2 : lessA p k = true
      · simp [h, h2]
      · simp only [h, h2]; simp [ih]
theorem delA_map (f : α → β) (M : As α) (p : ByteArray) : delA (mapA f M) p = mapA f (delA M p) := by
  unfold delA mapA; rw [List.filter_map]; rfl
theorem filterA_map (f : α → β) (M : As α) (g : ByteArray → Bool) : (mapA f M).filter (fun e => g e.1) = mapA f (M.filter fun e => g e.1) := by
  unfold mapA; rw [List.filter_map]; rfl
theorem mem_get {M : As α} {p : ByteArray} {x : α} (h : getA M p = some x) : (p, x) ∈ M := by
  induction M with
  | nil => cases h
  | cons e r ih =>
    obtain ⟨k, y⟩ := e
    unfold getA at h
    split at h
    · rename_i hk; subst hk; cases h; exact List.mem_cons_self
    · exact List.mem_cons_of_mem _ (ih h)
theorem get_none {M : As α} {p : ByteArray} (h : getA M p = none) : ∀ e ∈ M, ¬ e.1 = p := by
  induction M with
  | nil => simp
  | cons e r ih =>
    obtain ⟨k, y⟩ := e
    unfold getA at h
    split at h
    · cases h
    · rename_i hk
      intro e he
      rcases List.mem_cons.1 he with rfl | he
      · exact hk
      · exact ih h e he
theorem get_of_none {M : As α} {p : ByteArray} (h : ∀ e ∈ M, ¬ e.1 = p) : getA M p = none := by
  induction M with
  | nil => rfl
  | cons e r ih =>
    obtain ⟨k, y⟩ := e
    unfold getA
    rw [if_neg (h _ List.mem_cons_self)]
    exact ih fun e he => h e (List.mem_cons_of_mem _ he)
theorem AscA.get {M : As α} (hM : AscA M) {p : ByteArray} {x : α} (h : (p, x) ∈ M) : getA M p = some x := by
  induction M with
  | nil => cases h
  | cons e r ih =>
    obtain ⟨k, y⟩ := e
    unfold AscA at hM
    rw [List.pairwise_cons] at hM
    unfold getA
    rcases List.mem_cons.1 h with h | h
    · cases h; simp
    · rw [if_neg (lessA_ne (hM.1 _ h))]
      exact ih hM.2 h
theorem AscA.map {M : As α} (h : AscA M) (f : α → β) : AscA (mapA f M) := by
  unfold AscA mapA at *
  rw [List.pairwise_map]; exact h
theorem AscA.of_map {M : As α} {f : α → β} (h : AscA (mapA f M)) : AscA M := by
  unfold AscA mapA at *
  rw [List.pairwise_map] at h; exact h
theorem AscA.filter {M : As α} (h : AscA M) (g : ByteArray × α → Bool) : AscA (M.filter g) := List.Pairwise.filter _ h
theorem AscA.del {M : As α} (h : AscA M) (p : ByteArray) : AscA (delA M p) := h.filter _
theorem mem_put {M : As α} {p : ByteArray} {x : α} {e : ByteArray × α} (h : e ∈ putA M p x) : e = (p, x) ∨ e ∈ M := by
  induction M with
  | nil => simp [putA] at h; exact .inl h
  | cons a r ih =>
    obtain ⟨k, y⟩ := a
    unfold putA at h
    split at h
    · rcases List.mem_cons.1 h with h | h
      · exact .inl h
      · exact .inr (List.mem_cons_of_mem _ h)
    · split at h
      · rcases List.mem_cons.1 h with h | h
        · exact .inl h
        · exact .inr h
      · rcases List.mem_cons.1 h with h | h
        · exact .inr (h ▸ List.mem_cons_self)
        · rcases ih h with h | h
          · exact .inl h
          · exact .inr (List.mem_cons_of_mem _ h)
theorem AscA.put {M : As α} (h : AscA M) (p : ByteArray) (x : α) : AscA (putA M p x) := by
  induction M with
  | nil => exact List.pairwise_singleton _ _
  | cons e r ih =>
    obtain ⟨k, y⟩ := e
    unfold AscA at h
    rw [List.pairwise_cons] at h
    unfold putA
    split
    · rename_i hk
      subst hk
      exact List.pairwise_cons.2 ⟨h.1, h.2⟩
    · rename_i hk
      split
      · rename_i hl
        refine List.pairwise_cons.2 ⟨fun e he => ?_, List.pairwise_cons.2 ⟨h.1, h.2⟩⟩
        rcases List.mem_cons.1 he with rfl | he
        · exact hl
        · exact lessA_trans hl (h.1 e he)
      · rename_i hl
        refine List.pairwise_cons.2 ⟨fun e he => ?_, ih h.2⟩
        rcases mem_put he with rfl | he
        · exact lessA_total (fun e => hk e.symm) (by simpa using hl)
        · exact h.1 e he
theorem ascA_ext : ∀ {M N : As α}, AscA M → AscA N → (∀ p, getA M p = getA N p) → M = N
  | [], [], _, _, _ => rfl
  | [], (k, y) :: s, _, _, h => by have := h k; simp [getA] at this
  | (k, y) :: s, [], _, _, h => by have := h k; simp [getA] at this
  | (k, x) :: r, (j, y) :: s, hM, hN, h => by
    unfold AscA at hM hN
    rw [List.pairwise_cons] at hM hN
    have e : k = j := by
      by_cases hkj : k = j
      · exact hkj
      · have h1 := h k
        have h2 := h j
        simp only [getA, if_true] at h1 h2
        rw [if_neg (fun e => hkj e.symm)] at h1
        rw [if_neg hkj] at h2
        have m1 := hN.1 _ (mem_get h1.symm)
        have m2 := hM.1 _ (mem_get h2)
        have := lessA_asymm m1
        rw [m2] at this; cases this
    subst e
    have hx := h k
    simp only [getA, if_true] at hx
    cases hx
    rw [ascA_ext hM.2 hN.2 (fun p => ?_)]
    have hp := h p
    simp only [getA] at hp
    by_cases hkp : k = p
    · subst hkp
      rw [get_of_none (fun e he => Ne.symm (lessA_ne (hM.1 e he))), get_of_none (fun e he => Ne.symm (lessA_ne (hN.1 e he)))]
    · rwa [if_neg hkp, if_neg hkp] at hp
theorem put_len {M : As α} (hM : AscA M) (p : ByteArray) (x : α) : (putA M p x).length = if (getA M p).isSome = true then M.length else M.length + 1 := by
  induction M with
  | nil => simp [putA, getA]
  | cons e r ih =>
    obtain ⟨k, y⟩ := e
    unfold AscA at hM
    rw [List.pairwise_cons] at hM
    rw [putA_cons, getA_cons]
    by_cases hk : k = p
    · simp [hk]
    · by_cases hl : lessA p k = true
      · have : getA r p = none := get_of_none fun e he => Ne.symm (lessA_ne (lessA_trans hl (hM.1 e he)))
        simp [hk, hl, this]
      · rw [if_neg hk, if_neg hl, if_neg hk, List.length_cons, List.length_cons, ih hM.2]
        split <;> rfl
/-- A sum over a list. -/
def sumA (f : α → Nat) : As α → Nat
  | [] => 0
  | (_, x) :: r => f x + sumA f r
theorem put_sum (f : α → Nat) {M : As α} (hM : AscA M) (p : ByteArray) (x : α) : sumA f (putA M p x) + ((getA M p).map f).getD 0 = sumA f M + f x := by
  induction M with
  | nil => simp [putA, getA, sumA]
  | cons e r ih =>
    obtain ⟨k, y⟩ := e
    unfold AscA at hM
    rw [List.pairwise_cons] at hM
    rw [putA_cons, getA_cons]
    by_cases hk : k = p
    · simp [hk, sumA]; omega
    · by_cases hl : lessA p k = true
      · have : getA r p = none := get_of_none fun e he => Ne.symm (lessA_ne (lessA_trans hl (hM.1 e he)))
        simp [hk, hl, this, sumA]; omega
      · have := ih hM.2
        rw [if_neg hk, if_neg hl, if_neg hk]
        simp only [sumA]
        omega
theorem del_sum (f : α → Nat) {M : As α} (hM : AscA M) (p : ByteArray) : sumA f (delA M p) + ((getA M p).map f).getD 0 = sumA f M := by
  induction M with
  | nil => simp [delA, getA, sumA]
  | cons e r ih =>
    obtain ⟨k, y⟩ := e
    unfold AscA at hM
    rw [List.pairwise_cons] at hM
    have := ih hM.2
    unfold delA at this ⊢
    rw [List.filter_cons]
    unfold getA
    by_cases hk : k = p
    · have h0 : getA r p = none := get_of_none fun e he => by rw [← hk]; exact Ne.symm (lessA_ne (hM.1 e he))
      rw [h0] at this
      simp [hk, sumA] at this ⊢; omega
    · simp [hk, sumA] at this ⊢; omega
theorem sum_map (g : α → β) (f : β → Nat) (M : As α) : sumA f (mapA g M) = sumA (fun x => f (g x)) M := by
  induction M with
  | nil => rfl
  | cons e r ih => obtain ⟨k, y⟩ := e; simp [mapA, sumA] at ih ⊢; exact ih
theorem get_sum (f : α → Nat) {M : As α} {p : ByteArray} {x : α} (h : getA M p = some x) : f x ≤ sumA f M := by
  induction M with
  | nil => cases h
  | cons e r ih =>
    obtain ⟨k, y⟩ := e
    unfold getA at h
    unfold sumA
    split at h
    · cases h; omega
    · have := ih h; omega
theorem mapA_len (f : α → β) (M : As α) : (mapA f M).length = M.length := by simp [mapA]
theorem del_len {M : As α} (hM : AscA M) (p : ByteArray) : (delA M p).length + (if (getA M p).isSome = true then 1 else 0) = M.length := by
  induction M with
  | nil => simp [delA, getA]
  | cons e r ih =>
    obtain ⟨k, y⟩ := e
    unfold AscA at hM
    rw [List.pairwise_cons] at hM
    have := ih hM.2
    unfold delA at this ⊢
    rw [List.filter_cons]
    unfold getA
    by_cases hk : k = p
    · have h0 : getA r p = none := get_of_none fun e he => by rw [← hk]; exact Ne.symm (lessA_ne (hM.1 e he))
      rw [h0] at this
      simp [hk] at this ⊢; omega
    · simp [hk] at this ⊢; omega

/-! ### The datum of a map whose elements are told as they are -/
/-- What a map of texts to values reads as. -/
def keyL (p : ByteArray) : Lit := .string p.data.toList
def encA (E : As Value) : DataW Value := .map (E.map fun e => (keyL e.1, .held e.2))
/-- Each element is told as it is. -/
def RV (v : Value) : Option (DataW Value × List MemPlace) := some (.held v, [])
theorem key_same (p q : ByteArray) : (keyL p).sameKey (keyL q) = decide (p = q) := by
  show (p.data.toList == q.data.toList) = decide (p = q)
  by_cases h : p = q
  · subst h; simp
  · simp only [h, decide_false, beq_eq_false_iff_ne]
    exact fun e => h (bytes_ext e)
theorem bytesBefore_less : ∀ x y : List UInt8, bytesBefore x y = Op.bytesLess x y
  | [], [] => rfl
  | [], _ :: _ => rfl
  | _ :: _, [] => rfl
  | a :: r, b :: s => by unfold bytesBefore Op.bytesLess; rw [bytesBefore_less r s]
theorem key_before (p q : ByteArray) : (keyL p).before (keyL q) = lessA p q := by
  show bytesBefore _ _ = _
  rw [bytesBefore_less]; rfl
theorem encA_has (E : As Value) (p : ByteArray) : Maps.has (encA E) (keyL p) = (getA E p).isSome := by
  unfold encA
  rw [Maps.has_eq]
  induction E with
  | nil => rfl
  | cons e r ih =>
    obtain ⟨k, y⟩ := e
    rw [List.map_cons, List.any_cons, ih, key_same, getA_cons]
    by_cases h : k = p
    · simp [h]
    · simp [h]
theorem encA_at (E : As Value) (p : ByteArray) (z : Value) : (encA E).atKey (keyL p) (.held z) = .held ((getA E p).getD z) := by
  unfold encA DataW.atKey
  simp only
  induction E with
  | nil => rfl
  | cons e r ih =>
    obtain ⟨k, y⟩ := e
    rw [List.map_cons, List.find?_cons, getA_cons]
    simp only [key_same]
    by_cases h : k = p
    · simp [h]
    · simp only [h, decide_false, if_false]; exact ih
theorem encA_size (E : As Value) : Maps.size (encA E) = E.length := by simp [encA, Maps.size_eq]
theorem encA_del (E : As Value) (p : ByteArray) : (encA E).del (keyL p) = encA (delA E p) := by
  unfold encA delA
  rw [DataW.del_eq]
  unfold ChangeMaps.delKey
  rw [List.filter_map]
  congr 2
  apply List.filter_congr
  intro e _
  simp [ChangeMaps.notKey, key_same]
theorem encA_put {E : As Value} (hE : AscA E) (p : ByteArray) (v : Value) : (encA E).put (keyL p) (.held v) = encA (putA E p v) := by
  unfold encA
  rw [DataW.put_eq]
  unfold ChangeMaps.putKey
  congr 1
  induction E with
  | nil => rfl
  | cons e r ih =>
    obtain ⟨k, y⟩ := e
    unfold AscA at hE
    rw [List.pairwise_cons] at hE
    rw [List.map_cons, List.filter_cons]
    unfold putA
    by_cases hk : k = p
    · subst hk
      rw [if_neg (by simp [ChangeMaps.notKey, key_same]), if_pos rfl]
      have hf : (r.map fun e => (keyL e.1, (DataW.held e.2 : DataW Value))).filter (ChangeMaps.notKey (keyL k)) = r.map fun e => (keyL e.1, DataW.held e.2) := by
        rw [List.filter_eq_self]
        intro q hq
        rw [List.mem_map] at hq
        obtain ⟨e, he, rfl⟩ := hq
        simp [ChangeMaps.notKey, key_same, Ne.symm (lessA_ne (hE.1 e he))]
      rw [hf]
      cases r with
      | nil => rfl
      | cons a s =>
        rw [List.map_cons, DataW.insert, if_pos (by rw [key_before]; exact hE.1 a List.mem_cons_self)]
        rfl
    · rw [if_pos (by simp [ChangeMaps.notKey, key_same, hk]), if_neg hk]
      rw [DataW.insert]
      simp only [key_before]
      by_cases hl : lessA p k = true
      · rw [if_pos hl, if_pos hl]
        have hf : (r.map fun e => (keyL e.1, (DataW.held e.2 : DataW Value))).filter (ChangeMaps.notKey (keyL p)) = r.map fun e => (keyL e.1, DataW.held e.2) := by
          rw [List.filter_eq_self]
          intro q hq
          rw [List.mem_map] at hq
          obtain ⟨e, he, rfl⟩ := hq
          simp [ChangeMaps.notKey, key_same, Ne.symm (lessA_ne (lessA_trans hl (hE.1 e he)))]
        rw [hf]; rfl
      · rw [if_neg hl, if_neg hl]
        rw [ih hE.2]; rfl
end Go.Proofs.YtichejodbohldaaGreatDoor
namespace Go.Proofs.YtichejodbohldaaGreatDoor
open Go.RowKit

/-- What stands between the ds of a list of bytes. -/
def cutL (d : UInt8) : List UInt8 → List (List UInt8)
  | [] => [[]]
  | c :: r => if c = d then [] :: cutL d r else match cutL d r with
    | [] => [[c]]
    | h :: t => (c :: h) :: t
theorem cutL_ne (d : UInt8) (l : List UInt8) : cutL d l ≠ [] := by
  cases l with
  | nil => simp [cutL]
  | cons c r =>
    unfold cutL
    split
    · simp
    · split <;> simp
theorem cutL_plain (d : UInt8) (l : List UInt8) (h : ∀ c ∈ l, c ≠ d) : cutL d l = [l] := by
  induction l with
  | nil => rfl
  | cons c r ih =>
    rw [cutL, if_neg (h c (by simp)), ih fun e he => h e (by simp [he])]
theorem cutL_at (d : UInt8) (a b : List UInt8) (h : ∀ c ∈ a, c ≠ d) : cutL d (a ++ d :: b) = a :: cutL d b := by
  induction a with
  | nil => simp [cutL]
  | cons c r ih =>
    rw [List.cons_append, cutL, if_neg (h c (by simp)), ih fun e he => h e (by simp [he])]
theorem cutL_app (d : UInt8) (a b : List UInt8) : cutL d (a ++ d :: b) = cutL d a ++ cutL d b := by
  induction a with
  | nil => simp [cutL]
  | cons c r ih =>
    rw [List.cons_append, cutL, cutL, ih]
    split
    · rfl
    · cases h : cutL d r with
      | nil => exact absurd h (cutL_ne d r)
      | cons x t => rfl
theorem cutL_ns (d : UInt8) (l : List UInt8) : ∀ x ∈ cutL d l, ∀ c ∈ x, c ≠ d := by
  induction l with
  | nil => intro x hx; simp [cutL] at hx; subst hx; simp
  | cons c r ih =>
    unfold cutL
    split
    · intro x hx
      rcases List.mem_cons.1 hx with rfl | hx
      · simp
      · exact ih x hx
    · rename_i hc
      cases h : cutL d r with
      | nil => exact absurd h (cutL_ne d r)
      | cons y t =>
        rw [h] at ih
        intro x hx
        rcases List.mem_cons.1 hx with rfl | hx
        · intro e he
          rcases List.mem_cons.1 he with rfl | he
          · exact hc
          · exact ih y (by simp) e he
        · exact ih x (by simp [hx])

/-- What stands between the ds of a text. -/
def pieces (d : UInt8) (s : ByteArray) : List ByteArray := Lib.splitB ⟨#[d]⟩ 0 (Lib.countB s ⟨#[d]⟩) s
theorem occ_d (d : UInt8) (s : ByteArray) (i : Nat) (h : i < s.size) : Lib.occAt s.data.toList [d] i = (byteAt s i == d) := by
  unfold Lib.occAt byteAt
  have hl : i < s.data.toList.length := by simpa using h
  rw [List.drop_eq_getElem_cons hl, List.getD_eq_getElem?_getD, List.getElem?_eq_getElem hl]
  simp only [List.isPrefixOf, Bool.and_true, Option.getD_some]
  exact Bool.beq_comm
theorem index_d (d : UInt8) (s : ByteArray) (i : Nat) (h : i < s.size) (h1 : byteAt s i = d) (h2 : ∀ j, j < i → byteAt s j ≠ d) : Lib.indexB s ⟨#[d]⟩ = i := by
  refine Lib.index_first (s := s.data.toList) (sub := [d]) (by simpa using Nat.le_of_lt h) ?_ ?_
  · rw [occ_d d s i h, h1]; exact beq_self_eq_true d
  · intro j hj
    rw [occ_d d s j (by omega)]
    simpa using h2 j hj
theorem noindex_d (d : UInt8) (s : ByteArray) (h2 : ∀ j, j < s.size → byteAt s j ≠ d) : Lib.indexB s ⟨#[d]⟩ = -1 := by
  refine Lib.index_none (s := s.data.toList) (sub := [d]) ?_
  intro j hj
  by_cases h : j < s.size
  · rw [occ_d d s j h]
    simpa using h2 j h
  · have e : s.data.toList.drop j = [] := List.drop_eq_nil_of_le (by simp; omega)
    unfold Lib.occAt
    rw [e]; rfl
theorem pieces_none (d : UInt8) (s : ByteArray) (h2 : ∀ j, j < s.size → byteAt s j ≠ d) : pieces d s = [s] :=
  Lib.splitB_miss _ _ _ _ (noindex_d d s h2)
theorem pieces_hit (d : UInt8) (s : ByteArray) (i : Nat) (h : i < s.size) (h1 : byteAt s i = d) (h2 : ∀ j, j < i → byteAt s j ≠ d) :
    pieces d s = s.extract 0 i :: pieces d (s.extract (i + 1) s.size) := by
  have e := index_d d s i h h1 h2
  have c := Lib.countB_hit s ⟨#[d]⟩ i (Nat.le_refl 1) e
  unfold pieces
  rw [c, Nat.add_comm, Lib.splitB_hit _ _ _ _ i e]
  rfl
theorem pieces_from (d : UInt8) (s : ByteArray) (f i : Nat) (hf : f ≤ i) (h : i < s.size) (h1 : byteAt s i = d) (h2 : ∀ j, f ≤ j → j < i → byteAt s j ≠ d) :
    pieces d (s.extract f s.size) = s.extract f i :: pieces d (s.extract (i + 1) s.size) := by
  have hz : (s.extract f s.size).size = s.size - f := by rw [ByteArray.size_extract]; omega
  rw [pieces_hit d _ (i - f) (by omega) (by rw [byteAt_extract _ _ _ (by omega), show f + (i - f) = i by omega]; exact h1) (fun j hj => by rw [byteAt_extract _ _ _ (by omega)]; exact h2 _ (by omega) (by omega))]
  rw [hz, ByteArray.extract_extract, ByteArray.extract_extract]
  congr 2
  · omega
  · congr 1 <;> omega
theorem pieces_last (d : UInt8) (s : ByteArray) (f : Nat) (h2 : ∀ j, f ≤ j → j < s.size → byteAt s j ≠ d) :
    pieces d (s.extract f s.size) = [s.extract f s.size] :=
  pieces_none d _ fun j hj => by
    rw [ByteArray.size_extract] at hj
    rw [byteAt_extract _ _ _ (by omega)]
    exact h2 _ (by omega) (by omega)
theorem pieces_len (d : UInt8) (s : ByteArray) : (pieces d s).length = Lib.countB s ⟨#[d]⟩ + 1 := Lib.splitB_all ⟨#[d]⟩ (Nat.le_refl 1) 0 _ s rfl
theorem count_le (d : UInt8) (s : ByteArray) : Lib.countB s ⟨#[d]⟩ ≤ s.size := Lib.countB_le ⟨#[d]⟩ (Nat.le_refl 1) s.size s (Nat.le_refl _)
theorem pieces_le (d : UInt8) (s : ByteArray) : (pieces d s).length ≤ s.size + 1 := by rw [pieces_len]; have := count_le d s; omega
theorem pieces_ne (d : UInt8) (s : ByteArray) : pieces d s ≠ [] := by
  intro h
  have := pieces_len d s
  rw [h] at this
  simp at this
theorem first_d (d : UInt8) (s : ByteArray) : ∀ k, k ≤ s.size → (∀ j, j < k → byteAt s j ≠ d) ∨ ∃ i, i < k ∧ byteAt s i = d ∧ ∀ j, j < i → byteAt s j ≠ d := by
  intro k
  induction k with
  | zero => intro _; exact .inl fun j h => by omega
  | succ k ih =>
    intro h
    rcases ih (by omega) with h1 | ⟨i, h1, h2, h3⟩
    · by_cases hb : byteAt s k = d
      · exact .inr ⟨k, by omega, hb, h1⟩
      · refine .inl fun j hj => ?_
        by_cases e : j = k
        · rw [e]; exact hb
        · exact h1 j (by omega)
    · exact .inr ⟨i, by omega, h2, h3⟩
theorem byteAt_take (d : UInt8) (s : ByteArray) (n : Nat) (hn : n ≤ s.size) (h : ∀ j, j < n → byteAt s j ≠ d) : ∀ c ∈ s.data.toList.take n, c ≠ d := by
  intro c hc
  obtain ⟨j, hj, rfl⟩ := List.mem_iff_getElem.1 hc
  have hl := data_len s
  rw [List.length_take] at hj
  have h1 := h j (by omega)
  unfold byteAt at h1
  rw [List.getD_eq_getElem?_getD, List.getElem?_eq_getElem (by omega)] at h1
  rw [List.getElem_take]
  simpa using h1
theorem byteAt_list (s : ByteArray) (i : Nat) (h : i < s.size) : s.data.toList = s.data.toList.take i ++ byteAt s i :: s.data.toList.drop (i + 1) := by
  have hl := data_len s
  have h4 : s.data.toList[i]'(by omega) = byteAt s i := by
    unfold byteAt
    rw [List.getD_eq_getElem?_getD, List.getElem?_eq_getElem (by omega)]; rfl
  rw [← h4, ← List.drop_eq_getElem_cons, List.take_append_drop]
theorem extract_head (s : ByteArray) (i : Nat) : (s.extract 0 i).data.toList = s.data.toList.take i := Lib.extract_from_zero s i
theorem extract_tail (s : ByteArray) (i : Nat) : (s.extract i s.size).data.toList = s.data.toList.drop i := by
  have hl := data_len s
  rw [ByteArray.data_extract, Array.toList_extract, List.extract_eq_take_drop]
  exact List.take_of_length_le (by rw [List.length_drop]; omega)
theorem pieces_cut (d : UInt8) (n : Nat) : ∀ s : ByteArray, s.size ≤ n → pieces d s = (cutL d s.data.toList).map toB := by
  induction n with
  | zero =>
    intro s hs
    rw [pieces_none d s (fun j hj => by omega)]
    have hl := data_len s
    have h : s.data.toList = [] := List.eq_nil_of_length_eq_zero (by omega)
    have h2 := toB_data s
    rw [h] at h2 ⊢
    simp [cutL, h2]
  | succ n ih =>
    intro s hs
    have hl := data_len s
    rcases first_d d s s.size (Nat.le_refl _) with h1 | ⟨i, h1, h2, h3⟩
    · rw [pieces_none d s h1, cutL_plain d _ (by have := byteAt_take d s s.size (Nat.le_refl _) h1; rwa [List.take_of_length_le (by omega)] at this)]
      simp [toB_data]
    · rw [pieces_hit d s i h1 h2 h3, ih _ (by rw [ByteArray.size_extract]; omega)]
      have e := byteAt_list s i h1
      rw [h2] at e
      rw [e, cutL_at d _ _ (byteAt_take d s i (by omega) h3), List.map_cons, ← extract_head, ← extract_tail, toB_data]
theorem pieces_of (d : UInt8) (s : ByteArray) : pieces d s = (cutL d s.data.toList).map toB := pieces_cut d _ s (Nat.le_refl _)
/-- No d in it. -/
def NoB (d : UInt8) (p : ByteArray) : Prop := ∀ c ∈ p.data.toList, c ≠ d
theorem pieces_no (d : UInt8) (s : ByteArray) : ∀ p ∈ pieces d s, NoB d p := by
  intro p hp
  rw [pieces_of] at hp
  obtain ⟨x, hx, rfl⟩ := List.mem_map.1 hp
  have := cutL_ns d _ x hx
  unfold NoB
  rw [data_toB]
  exact this
theorem pieces_app (d : UInt8) (a b : ByteArray) : pieces d (a ++ ⟨#[d]⟩ ++ b) = pieces d a ++ pieces d b := by
  rw [pieces_of, pieces_of d a, pieces_of d b, ← List.map_append, ← cutL_app]
  congr 2
  simp
theorem joinB_pieces (d : UInt8) (s : ByteArray) : joinB ⟨#[d]⟩ (pieces d s) = s := by
  have H : ∀ l : List UInt8, Lib.join (cutL d l) [d] = l := by
    intro l
    induction l with
    | nil => rfl
    | cons c r ih =>
      unfold cutL
      cases h : cutL d r with
      | nil => exact absurd h (cutL_ne d r)
      | cons x t =>
        rw [h] at ih
        by_cases hc : c = d
        · rw [if_pos hc]
          show Lib.join ([] :: x :: t) [d] = _
          rw [Lib.join_cons] at ih ⊢
          rw [← ih, hc]
          simp [Lib.joinTail]
        · rw [if_neg hc]
          show Lib.join ((c :: x) :: t) [d] = _
          rw [Lib.join_cons] at ih ⊢
          rw [← ih]; rfl
  refine bytes_ext ?_
  unfold joinB
  rw [pieces_of, List.map_map]
  have h3 : ((fun x : ByteArray => x.data.toList) ∘ toB) = id := by
    funext l
    simp [toB]
  rw [h3, List.map_id]
  exact H _
theorem pieces_join (d : UInt8) (L : List ByteArray) (h0 : L ≠ []) (h : ∀ p ∈ L, NoB d p) : pieces d (joinB ⟨#[d]⟩ L) = L := by
  induction L with
  | nil => exact absurd rfl h0
  | cons x t ih =>
    cases t with
    | nil =>
      rw [joinB_one]
      refine pieces_none d x fun j hj => ?_
      exact h x (by simp) _ (byteAt_mem x j hj)
    | cons y t =>
      have e : joinB ⟨#[d]⟩ (x :: y :: t) = x ++ ⟨#[d]⟩ ++ joinB ⟨#[d]⟩ (y :: t) := by
        have := joinB_app ⟨#[d]⟩ [x] (y :: t) (by simp) (by simp)
        rw [joinB_one] at this
        exact this
      rw [e, pieces_app, ih (by simp) fun z hz => h z (by simp [hz]), pieces_none d x fun j hj => h x (by simp) _ (byteAt_mem x j hj)]
      rfl
theorem sumS_pieces (d : UInt8) (s : ByteArray) : sumS (pieces d s) = s.size + 1 := by
  rw [← joinB_size d _ (pieces_ne d s), joinB_pieces]
theorem size_of_sum (L : List ByteArray) (p : ByteArray) (h : p ∈ L) : p.size + 1 ≤ sumS L := by
  induction L with
  | nil => simp at h
  | cons x r ih =>
    rcases List.mem_cons.1 h with rfl | h
    · simp only [sumS]; omega
    · simp only [sumS]; have := ih h; omega
theorem pieces_size (d : UInt8) (s : ByteArray) : ∀ p ∈ pieces d s, p.size ≤ s.size := by
  intro p hp
  have := size_of_sum _ p hp
  rw [sumS_pieces] at this
  omega

/-- How far a loop over the bytes has come: out holds what is done. -/
def SplitAt (d : UInt8) (s : ByteArray) (i f : Nat) (out : List ByteArray) : Prop :=
  (i ≤ s.size ∧ f ≤ i ∧ (∀ j, f ≤ j → j < i → byteAt s j ≠ d) ∧ pieces d s = out ++ pieces d (s.extract f s.size)) ∨ (i = s.size + 1 ∧ pieces d s = out)
theorem SplitAt.len {d : UInt8} {s : ByteArray} {i f : Nat} {out : List ByteArray} (h : SplitAt d s i f out) : out.length ≤ s.size + 1 := by
  have hl := pieces_le d s
  rcases h with ⟨_, _, _, h⟩ | ⟨_, h⟩
  · rw [h, List.length_append] at hl; omega
  · rw [← h]; exact hl
theorem SplitAt.start (d : UInt8) (s : ByteArray) : SplitAt d s 0 0 [] :=
  .inl ⟨Nat.zero_le _, Nat.le_refl _, fun j _ h => by omega, by rw [List.nil_append, ByteArray.extract_zero_size]⟩
theorem SplitAt.skip {d : UInt8} {s : ByteArray} {i f : Nat} {out : List ByteArray} (h : SplitAt d s i f out) (hi : i < s.size) (hb : byteAt s i ≠ d) : SplitAt d s (i + 1) f out := by
  rcases h with ⟨h1, h2, h3, h4⟩ | ⟨h1, _⟩
  · refine .inl ⟨by omega, by omega, fun j hj hj2 => ?_, h4⟩
    by_cases e : j = i
    · rw [e]; exact hb
    · exact h3 j hj (by omega)
  · omega
theorem SplitAt.cut {d : UInt8} {s : ByteArray} {i f : Nat} {out : List ByteArray} (h : SplitAt d s i f out) (hi : i < s.size) (hb : byteAt s i = d) : f ≤ i ∧ SplitAt d s (i + 1) (i + 1) (out ++ [s.extract f i]) := by
  rcases h with ⟨h1, h2, h3, h4⟩ | ⟨h1, _⟩
  · refine ⟨h2, .inl ⟨by omega, Nat.le_refl _, fun j hj hj2 => by omega, ?_⟩⟩
    rw [h4, pieces_from d s f i h2 hi hb h3, List.append_assoc]; rfl
  · omega
theorem SplitAt.last {d : UInt8} {s : ByteArray} {f : Nat} {out : List ByteArray} (h : SplitAt d s s.size f out) : f ≤ s.size ∧ pieces d s = out ++ [s.extract f s.size] := by
  rcases h with ⟨h1, h2, h3, h4⟩ | ⟨h1, _⟩
  · exact ⟨h2, by rw [h4, pieces_last d s f h3]⟩
  · omega
end Go.Proofs.YtichejodbohldaaGreatDoor
