/- Texts of one ground, in one file: Sh Ba Cu By Va Vb Vc Vd Ve. -/
import Derived.Shelf.SlSortCmp.InsertionK
import Derived.Shelf.SlGeneric
import Derived.Shelf.Strings.Builder1
import Derived.Shelf.Strings.Builder2
import Derived.Shelf.Strings.OnBuilder
import Derived.Shelf.Strings.BuilderF
import Derived.Shelf.Strings.BuilderK
import Derived.Shelf.Utf8.RuneCount
import Derived.Shelf.Strings.Builder2Cap
import Derived.Shelf.Strconv.Itoa0
import Derived.Shelf.Strconv.Itoa1
import Derived.Shelf.LaysM
import Derived.Shelf.Strconv.Itoa2
import Derived.Shelf.Strconv.Itoa3
import Derived.Shelf.Strings.Search1
import Derived.Shelf.Strings.Search2
import Derived.Shelf.Strings.Search3
import Derived.Shelf.Strings.Cut
import Derived.Shelf.Strings.Count
import Derived.Shelf.Strings.Shaped
import Derived.Shelf.Strings.Prefix
import Derived.Shelf.Strings.Split
import Derived.Shelf.Strings.SplitShaped
import Derived.Shelf.Unicode.Decode
import Derived.Shelf.Strings.RuneCount
import Derived.Shelf.Strings.Explode
import Derived.Shelf.Unicode.DecodeSlow
import Derived.Shelf.Unicode.DecodeAny
import Derived.Shelf.Strings.BuilderCap
import Derived.Test.YthdopcdllggdaaaGreatDoorRows
import Derived.WalkKit
import Derived.WalkSpells
import Derived.Deep.QuietTactic
import Derived.BigQuiet
import Derived.IntWalk
import Derived.Lib.Hide
import Derived.Lib.SplitLaws
import Derived.Lib.Join
import Derived.Outline
import Derived.OwnWalk
import Derived.ArgAppend
import Derived.Laws.AppendOwnNone
import Derived.Laws.OwnMore
import Derived.Deep.MidRow
import Derived.Laws.IdiomStrings
namespace Go.Proofs
open Go.Shelf
def Tryz.lays169_ren : Go.Shelf.Ren := ⟨fun | 169 => 26 | n => n, fun | 70 => 51 | 9 => 9 | 0 => 0 | 72 => 53 | 37 => 22 | 127 => 79 | 3 => 3 | 5 => 5 | n => n, fun | n => n⟩
theorem Tryz.lays169 : Go.Proofs.Lays.n169 Tryz.prog Tryz.lays169_ren := {
  mixed := by kernel_rfl
  f169 := Tryz.func26.trans (congrArg some (by kernel_rfl))
  t0 := Tryz.underlying0
  a0 := Tryz.isAgg0
  z0 := Tryz.sizeOf0
  v0 := Tryz.zeroValue0
  t3 := Tryz.underlying3
  a3 := Tryz.isAgg3
  z3 := Tryz.sizeOf3
  v3 := Tryz.zeroValue3
  t9 := Tryz.underlying9
  a9 := Tryz.isAgg9
  z9 := Tryz.sizeOf9
  v9 := Tryz.zeroValue9
  t37 := Tryz.underlying22
  a37 := Tryz.isAgg22
  z37 := Tryz.sizeOf22
  v37 := Tryz.zeroValue22
  t70 := Tryz.underlying51
  a70 := Tryz.isAgg51
  z70 := Tryz.sizeOf51
  v70 := Tryz.zeroValue51
  t72 := Tryz.underlying53
  a72 := Tryz.isAgg53
  z72 := Tryz.sizeOf53
  v72 := Tryz.zeroValue53
  t127 := Tryz.underlying79
  a127 := Tryz.isAgg79
  z127 := Tryz.sizeOf79
  v127 := Tryz.zeroValue79 }
theorem Tryz.Builder_Extra_169 : Builder.Extra Tryz.prog Tryz.lays169_ren := {
  sizeBuilder := by kernel_rfl
  liesBuilder := by kernel_rfl
  t5 := Tryz.underlying5
  a5 := Tryz.isAgg5
  z5 := Tryz.sizeOf5
  v5 := Tryz.zeroValue5
  infoByte := by kernel_rfl
  cellsByte := by kernel_rfl
  sizeByte := by kernel_rfl
  neB5 := by decide }
open Go.RowKit in
theorem Tryz.Builder_String_any (B b : Nat) (l : List UInt8) (w : World) (h : Lib.IsBuilder 53 5 B b (Lib.byteCells l) w) (hBw : B ≤ w.heap.size) :
    Calls Tryz.prog 26 #[.pointer (some ⟨b, 0, none⟩)] w fun e w' => e = .returned (.string ⟨l.toArray⟩) ∧ Below B w w' := Any.Builder_String_any Tryz.lays169 Tryz.Builder_Extra_169 B b l w h hBw
def Tryz.lays156_ren : Go.Shelf.Ren := ⟨fun | 156 => 44 | 165 => 53 | 166 => 19 | 169 => 26 | 240 => 38 | 241 => 61 | 276 => 49 | 277 => 70 | n => n, fun | 31 => 26 | 9 => 9 | 3 => 3 | 4 => 4 | 0 => 0 | 20 => 20 | 72 => 53 | 76 => 56 | 70 => 51 | 37 => 22 | 75 => 55 | 127 => 79 | 164 => 83 | 5 => 5 | 80 => 66 | n => n, fun | n => n⟩
theorem Tryz.lays156 : Go.Proofs.Lays.n156 Tryz.prog Tryz.lays156_ren := {
  mixed := by kernel_rfl
  f156 := Tryz.func44.trans (congrArg some (by kernel_rfl))
  f165 := Tryz.func53.trans (congrArg some (by kernel_rfl))
  f166 := Tryz.func19.trans (congrArg some (by kernel_rfl))
  f169 := Tryz.func26.trans (congrArg some (by kernel_rfl))
  f240 := Tryz.func38.trans (congrArg some (by kernel_rfl))
  f241 := Tryz.func61.trans (congrArg some (by kernel_rfl))
  f276 := Tryz.func49.trans (congrArg some (by kernel_rfl))
  f277 := Tryz.func70.trans (congrArg some (by kernel_rfl))
  t0 := Tryz.underlying0
  a0 := Tryz.isAgg0
  z0 := Tryz.sizeOf0
  v0 := Tryz.zeroValue0
  t3 := Tryz.underlying3
  a3 := Tryz.isAgg3
  z3 := Tryz.sizeOf3
  v3 := Tryz.zeroValue3
  t4 := Tryz.underlying4
  a4 := Tryz.isAgg4
  z4 := Tryz.sizeOf4
  v4 := Tryz.zeroValue4
  t9 := Tryz.underlying9
  a9 := Tryz.isAgg9
  z9 := Tryz.sizeOf9
  v9 := Tryz.zeroValue9
  t20 := Tryz.underlying20
  a20 := Tryz.isAgg20
  z20 := Tryz.sizeOf20
  v20 := Tryz.zeroValue20
  t31 := Tryz.underlying26
  a31 := Tryz.isAgg26
  z31 := Tryz.sizeOf26
  v31 := Tryz.zeroValue26
  t37 := Tryz.underlying22
  a37 := Tryz.isAgg22
  z37 := Tryz.sizeOf22
  v37 := Tryz.zeroValue22
  t70 := Tryz.underlying51
  a70 := Tryz.isAgg51
  z70 := Tryz.sizeOf51
  v70 := Tryz.zeroValue51
  t72 := Tryz.underlying53
  a72 := Tryz.isAgg53
  z72 := Tryz.sizeOf53
  v72 := Tryz.zeroValue53
  t75 := Tryz.underlying55
  a75 := Tryz.isAgg55
  z75 := Tryz.sizeOf55
  v75 := Tryz.zeroValue55
  t76 := Tryz.underlying56
  a76 := Tryz.isAgg56
  z76 := Tryz.sizeOf56
  v76 := Tryz.zeroValue56
  t127 := Tryz.underlying79
  a127 := Tryz.isAgg79
  z127 := Tryz.sizeOf79
  v127 := Tryz.zeroValue79
  t164 := Tryz.underlying83
  a164 := Tryz.isAgg83
  z164 := Tryz.sizeOf83
  v164 := Tryz.zeroValue83 }
theorem Tryz.Builder_Extra_156 : Builder.Extra Tryz.prog Tryz.lays156_ren := {
  sizeBuilder := by kernel_rfl
  liesBuilder := by kernel_rfl
  t5 := Tryz.underlying5
  a5 := Tryz.isAgg5
  z5 := Tryz.sizeOf5
  v5 := Tryz.zeroValue5
  infoByte := by kernel_rfl
  cellsByte := by kernel_rfl
  sizeByte := by kernel_rfl
  neB5 := by decide }
open Go.RowKit in
theorem Tryz.strings_Join_none (a : Option Addr) (c : Nat) (sep : ByteArray) (w : World) :
    Calls Tryz.prog 44 #[.slice a 0 c, .string sep] w fun e w' => e = .returned (.string ⟨#[]⟩) ∧ w' = w := Any.strings_Join_none Tryz.lays156 Tryz.Builder_Extra_156 a c sep w
open Go.RowKit in
theorem Tryz.strings_Join (bk o c : Nat) (xs : List ByteArray) (sep : ByteArray) (w : World) (hcells : ∀ (j : Nat) x, xs[j]? = some x → w.cell? ⟨bk, o + j, none⟩ = some (.string x)) (hbk : bk < w.heap.size) (hN : xs.length ≤ 140737488355328) (hcap : xs.length ≤ c) (hlen : (Lib.join (xs.map (·.data.toList)) sep.data.toList).length ≤ 140737488355328) :
    Calls Tryz.prog 44 #[.slice (some ⟨bk, o, none⟩) xs.length c, .string sep] w fun e w' => e = .returned (.string ⟨(Lib.join (xs.map (·.data.toList)) sep.data.toList).toArray⟩) ∧ Below w.heap.size w w' := Any.strings_Join Tryz.lays156 Tryz.Builder_Extra_156 bk o c xs sep w hcells hbk hN hcap hlen
def Tryz.laysM171_ren : Go.Shelf.Ren := ⟨fun | 171 => 52 | 243 => 60 | 246 => 69 | 283 => 78 | 284 => 79 | 285 => 80 | 286 => 81 | 129 => 89 | 317 => 88 | 318 => 90 | 319 => 91 | 320 => 92 | 337 => 97 | 338 => 98 | n => n, fun | 3 => 3 | 9 => 9 | 2 => 2 | 4 => 4 | 171 => 108 | 0 => 0 | 53 => 109 | 37 => 22 | 5 => 5 | 173 => 112 | 212 => 118 | 51 => 119 | 20 => 20 | 213 => 120 | 46 => 78 | 232 => 32 | 233 => 128 | n => n, fun | 17 => 1 | 18 => 2 | 19 => 3 | n => n⟩
theorem Tryz.laysM171 : Go.Proofs.LaysM.n171 Tryz.prog Tryz.laysM171_ren := {
  mixed := by kernel_rfl
  f129 := Tryz.func89.trans (congrArg some (by kernel_rfl))
  f171 := Tryz.func52.trans (congrArg some (by kernel_rfl))
  f243 := Tryz.func60.trans (congrArg some (by kernel_rfl))
  f246 := Tryz.func69.trans (congrArg some (by kernel_rfl))
  f283 := Tryz.func78.trans (congrArg some (by kernel_rfl))
  f284 := Tryz.func79.trans (congrArg some (by kernel_rfl))
  f285 := Tryz.func80.trans (congrArg some (by kernel_rfl))
  f286 := Tryz.func81.trans (congrArg some (by kernel_rfl))
  f317 := Tryz.func88.trans (congrArg some (by kernel_rfl))
  f318 := Tryz.func90.trans (congrArg some (by kernel_rfl))
  f319 := Tryz.func91.trans (congrArg some (by kernel_rfl))
  f320 := Tryz.func92.trans (congrArg some (by kernel_rfl))
  f337 := Tryz.func97.trans (congrArg some (by kernel_rfl))
  f338 := Tryz.func98.trans (congrArg some (by kernel_rfl))
  t0 := Tryz.underlying0
  a0 := Tryz.isAgg0
  z0 := Tryz.sizeOf0
  v0 := Tryz.zeroValue0
  t2 := Tryz.underlying2
  a2 := Tryz.isAgg2
  z2 := Tryz.sizeOf2
  v2 := Tryz.zeroValue2
  t3 := Tryz.underlying3
  a3 := Tryz.isAgg3
  z3 := Tryz.sizeOf3
  v3 := Tryz.zeroValue3
  t4 := Tryz.underlying4
  a4 := Tryz.isAgg4
  z4 := Tryz.sizeOf4
  v4 := Tryz.zeroValue4
  t5 := Tryz.underlying5
  a5 := Tryz.isAgg5
  z5 := Tryz.sizeOf5
  v5 := Tryz.zeroValue5
  t9 := Tryz.underlying9
  a9 := Tryz.isAgg9
  z9 := Tryz.sizeOf9
  v9 := Tryz.zeroValue9
  t20 := Tryz.underlying20
  a20 := Tryz.isAgg20
  z20 := Tryz.sizeOf20
  v20 := Tryz.zeroValue20
  t37 := Tryz.underlying22
  a37 := Tryz.isAgg22
  z37 := Tryz.sizeOf22
  v37 := Tryz.zeroValue22
  t46 := Tryz.underlying78
  a46 := Tryz.isAgg78
  z46 := Tryz.sizeOf78
  v46 := Tryz.zeroValue78
  t51 := Tryz.underlying119
  a51 := Tryz.isAgg119
  z51 := Tryz.sizeOf119
  v51 := Tryz.zeroValue119
  t53 := Tryz.underlying109
  a53 := Tryz.isAgg109
  z53 := Tryz.sizeOf109
  v53 := Tryz.zeroValue109
  t171 := Tryz.underlying108
  a171 := Tryz.isAgg108
  z171 := Tryz.sizeOf108
  v171 := Tryz.zeroValue108
  t173 := Tryz.underlying112
  a173 := Tryz.isAgg112
  z173 := Tryz.sizeOf112
  v173 := Tryz.zeroValue112
  t212 := Tryz.underlying118
  a212 := Tryz.isAgg118
  z212 := Tryz.sizeOf118
  v212 := Tryz.zeroValue118
  t213 := Tryz.underlying120
  a213 := Tryz.isAgg120
  z213 := Tryz.sizeOf120
  t232 := Tryz.underlying32
  a232 := Tryz.isAgg32
  z232 := Tryz.sizeOf32
  v232 := Tryz.zeroValue32
  t233 := Tryz.underlying128
  a233 := Tryz.isAgg128
  z233 := Tryz.sizeOf128
  v233 := Tryz.zeroValue128
  g17 := by kernel_rfl
  g18 := by kernel_rfl
  g19 := by kernel_rfl
  i0 := by kernel_rfl
  i2 := by kernel_rfl
  i3 := by kernel_rfl
  i4 := by kernel_rfl
  i5 := by kernel_rfl
  i9 := by kernel_rfl
  i20 := by kernel_rfl
  i37 := by kernel_rfl
  i46 := by kernel_rfl
  i51 := by kernel_rfl
  i53 := by kernel_rfl
  i171 := by kernel_rfl
  i173 := by kernel_rfl
  i212 := by kernel_rfl
  i232 := by kernel_rfl
  i233 := by kernel_rfl
  m17 := by kernel_rfl
  m18 := by kernel_rfl
  m19 := by kernel_rfl }
open Go.RowKit Go.Sort Go.Lib in
theorem Tryz.strconv_Itoa (n : Int) (h0 : -9223372036854775808 ≤ n) (h1 : n ≤ 9223372036854775807) (w : World) (htab : Lib.TabIs Tryz.prog w "internal/strconv.uint64pow10" .u64 Lib.pow10Tab) :
    Calls Tryz.prog 52 #[.int .i64 n] w fun e w' => e = .returned (.string ⟨(Lib.itoa n).toArray⟩) ∧ ∃ k os, w' = grow (w.drewN k) os := Any.strconv_Itoa Tryz.laysM171 n h0 h1 w htab
def Tryz.lays171_ren : Go.Shelf.Ren := ⟨fun | 171 => 52 | 243 => 60 | 246 => 69 | 283 => 78 | 284 => 79 | 285 => 80 | 286 => 81 | 129 => 89 | 317 => 88 | 318 => 90 | 319 => 91 | 320 => 92 | 337 => 97 | 338 => 98 | n => n, fun | 3 => 3 | 9 => 9 | 2 => 2 | 4 => 4 | 171 => 108 | 0 => 0 | 53 => 109 | 37 => 22 | 5 => 5 | 173 => 112 | 212 => 118 | 51 => 119 | 20 => 20 | 213 => 120 | 46 => 78 | 232 => 32 | 233 => 128 | n => n, fun | 17 => 1 | 18 => 2 | 19 => 3 | n => n⟩
theorem Tryz.lays171 : Go.Proofs.Lays.n171 Tryz.prog Tryz.lays171_ren := {
  mixed := by kernel_rfl
  f129 := Tryz.func89.trans (congrArg some (by kernel_rfl))
  f171 := Tryz.func52.trans (congrArg some (by kernel_rfl))
  f243 := Tryz.func60.trans (congrArg some (by kernel_rfl))
  f246 := Tryz.func69.trans (congrArg some (by kernel_rfl))
  f283 := Tryz.func78.trans (congrArg some (by kernel_rfl))
  f284 := Tryz.func79.trans (congrArg some (by kernel_rfl))
  f285 := Tryz.func80.trans (congrArg some (by kernel_rfl))
  f286 := Tryz.func81.trans (congrArg some (by kernel_rfl))
  f317 := Tryz.func88.trans (congrArg some (by kernel_rfl))
  f318 := Tryz.func90.trans (congrArg some (by kernel_rfl))
  f319 := Tryz.func91.trans (congrArg some (by kernel_rfl))
  f320 := Tryz.func92.trans (congrArg some (by kernel_rfl))
  f337 := Tryz.func97.trans (congrArg some (by kernel_rfl))
  f338 := Tryz.func98.trans (congrArg some (by kernel_rfl))
  t0 := Tryz.underlying0
  a0 := Tryz.isAgg0
  z0 := Tryz.sizeOf0
  v0 := Tryz.zeroValue0
  t2 := Tryz.underlying2
  a2 := Tryz.isAgg2
  z2 := Tryz.sizeOf2
  v2 := Tryz.zeroValue2
  t3 := Tryz.underlying3
  a3 := Tryz.isAgg3
  z3 := Tryz.sizeOf3
  v3 := Tryz.zeroValue3
  t4 := Tryz.underlying4
  a4 := Tryz.isAgg4
  z4 := Tryz.sizeOf4
  v4 := Tryz.zeroValue4
  t5 := Tryz.underlying5
  a5 := Tryz.isAgg5
  z5 := Tryz.sizeOf5
  v5 := Tryz.zeroValue5
  t9 := Tryz.underlying9
  a9 := Tryz.isAgg9
  z9 := Tryz.sizeOf9
  v9 := Tryz.zeroValue9
  t20 := Tryz.underlying20
  a20 := Tryz.isAgg20
  z20 := Tryz.sizeOf20
  v20 := Tryz.zeroValue20
  t37 := Tryz.underlying22
  a37 := Tryz.isAgg22
  z37 := Tryz.sizeOf22
  v37 := Tryz.zeroValue22
  t46 := Tryz.underlying78
  a46 := Tryz.isAgg78
  z46 := Tryz.sizeOf78
  v46 := Tryz.zeroValue78
  t51 := Tryz.underlying119
  a51 := Tryz.isAgg119
  z51 := Tryz.sizeOf119
  v51 := Tryz.zeroValue119
  t53 := Tryz.underlying109
  a53 := Tryz.isAgg109
  z53 := Tryz.sizeOf109
  v53 := Tryz.zeroValue109
  t171 := Tryz.underlying108
  a171 := Tryz.isAgg108
  z171 := Tryz.sizeOf108
  v171 := Tryz.zeroValue108
  t173 := Tryz.underlying112
  a173 := Tryz.isAgg112
  z173 := Tryz.sizeOf112
  v173 := Tryz.zeroValue112
  t212 := Tryz.underlying118
  a212 := Tryz.isAgg118
  z212 := Tryz.sizeOf118
  v212 := Tryz.zeroValue118
  t213 := Tryz.underlying120
  a213 := Tryz.isAgg120
  z213 := Tryz.sizeOf120
  t232 := Tryz.underlying32
  a232 := Tryz.isAgg32
  z232 := Tryz.sizeOf32
  v232 := Tryz.zeroValue32
  t233 := Tryz.underlying128
  a233 := Tryz.isAgg128
  z233 := Tryz.sizeOf128
  v233 := Tryz.zeroValue128
  g17 := by kernel_rfl
  g18 := by kernel_rfl
  g19 := by kernel_rfl }
open Go.RowKit Go.Sort Go.Lib in
theorem Tryz.strconv_Itoa_small (i : Nat) (hi : i < 100) (w : World) :
    Calls Tryz.prog 52 #[.int .i64 i] w fun e w' => e = .returned (.string ⟨(Lib.decDigits i).toArray⟩) ∧ w' = w := Any.strconv_Itoa_small Tryz.lays171 i hi w
def Tryz.lays145_ren : Go.Shelf.Ren := ⟨fun | 145 => 72 | 220 => 85 | 219 => 96 | 217 => 100 | 225 => 101 | 224 => 102 | 267 => 103 | 266 => 104 | 314 => 105 | n => n, fun | 9 => 9 | 4 => 4 | 59 => 101 | 3 => 3 | 5 => 5 | 46 => 78 | 146 => 133 | 51 => 119 | n => n, fun | 1 => 0 | n => n⟩
theorem Tryz.lays145 : Go.Proofs.Lays.n145 Tryz.prog Tryz.lays145_ren := {
  mixed := by kernel_rfl
  f145 := Tryz.func72.trans (congrArg some (by kernel_rfl))
  f217 := Tryz.func100.trans (congrArg some (by kernel_rfl))
  f219 := Tryz.func96.trans (congrArg some (by kernel_rfl))
  f220 := Tryz.func85.trans (congrArg some (by kernel_rfl))
  f224 := Tryz.func102.trans (congrArg some (by kernel_rfl))
  f225 := Tryz.func101.trans (congrArg some (by kernel_rfl))
  f266 := Tryz.func104.trans (congrArg some (by kernel_rfl))
  f267 := Tryz.func103.trans (congrArg some (by kernel_rfl))
  f314 := Tryz.func105.trans (congrArg some (by kernel_rfl))
  t3 := Tryz.underlying3
  a3 := Tryz.isAgg3
  z3 := Tryz.sizeOf3
  v3 := Tryz.zeroValue3
  t4 := Tryz.underlying4
  a4 := Tryz.isAgg4
  z4 := Tryz.sizeOf4
  v4 := Tryz.zeroValue4
  t5 := Tryz.underlying5
  a5 := Tryz.isAgg5
  z5 := Tryz.sizeOf5
  v5 := Tryz.zeroValue5
  t9 := Tryz.underlying9
  a9 := Tryz.isAgg9
  z9 := Tryz.sizeOf9
  v9 := Tryz.zeroValue9
  t46 := Tryz.underlying78
  a46 := Tryz.isAgg78
  z46 := Tryz.sizeOf78
  v46 := Tryz.zeroValue78
  t51 := Tryz.underlying119
  a51 := Tryz.isAgg119
  z51 := Tryz.sizeOf119
  v51 := Tryz.zeroValue119
  t59 := Tryz.underlying101
  a59 := Tryz.isAgg101
  z59 := Tryz.sizeOf101
  v59 := Tryz.zeroValue101
  t146 := Tryz.underlying133
  a146 := Tryz.isAgg133
  z146 := Tryz.sizeOf133
  v146 := Tryz.zeroValue133
  g1 := by kernel_rfl }
open Go.RowKit Go.Lib in
theorem Tryz.strings_Cut (s sep : ByteArray) (m : Int) (w : World) (hs : s.size < 4294967281) (hm : w.cell? ⟨0, 0, none⟩ = some (.int .i64 m)) :
    Calls Tryz.prog 72 #[.string s, .string sep] w fun e w' => e = .returned (.tuple #[.string ⟨(Lib.cut s.data.toList sep.data.toList).1.toArray⟩, .string ⟨(Lib.cut s.data.toList sep.data.toList).2.1.toArray⟩, .bool (Lib.cut s.data.toList sep.data.toList).2.2]) ∧ ∃ n, w' = w.drewN n := Any.strings_Cut Tryz.lays145 s sep m w hs hm
def Tryz.lays99_ren : Go.Shelf.Ren := ⟨fun | 99 => 54 | 206 => 62 | n => n, fun | 9 => 9 | 4 => 4 | 3 => 3 | n => n, fun | n => n⟩
theorem Tryz.lays99 : Go.Proofs.Lays.n99 Tryz.prog Tryz.lays99_ren := {
  mixed := by kernel_rfl
  f99 := Tryz.func54.trans (congrArg some (by kernel_rfl))
  f206 := Tryz.func62.trans (congrArg some (by kernel_rfl))
  t3 := Tryz.underlying3
  a3 := Tryz.isAgg3
  z3 := Tryz.sizeOf3
  v3 := Tryz.zeroValue3
  t4 := Tryz.underlying4
  a4 := Tryz.isAgg4
  z4 := Tryz.sizeOf4
  v4 := Tryz.zeroValue4
  t9 := Tryz.underlying9
  a9 := Tryz.isAgg9
  z9 := Tryz.sizeOf9
  v9 := Tryz.zeroValue9 }
open Go.RowKit Go.Lib in
theorem Tryz.strings_HasPrefix (s p : ByteArray) (w : World) :
    Calls Tryz.prog 54 #[.string s, .string p] w fun e w' => e = .returned (.bool (Lib.hasPrefix s.data.toList p.data.toList)) ∧ w' = w := Any.strings_HasPrefix Tryz.lays99 s p w
def Tryz.lays100_ren : Go.Shelf.Ren := ⟨fun | 100 => 55 | 207 => 63 | n => n, fun | 9 => 9 | 4 => 4 | 3 => 3 | n => n, fun | n => n⟩
theorem Tryz.lays100 : Go.Proofs.Lays.n100 Tryz.prog Tryz.lays100_ren := {
  mixed := by kernel_rfl
  f100 := Tryz.func55.trans (congrArg some (by kernel_rfl))
  f207 := Tryz.func63.trans (congrArg some (by kernel_rfl))
  t3 := Tryz.underlying3
  a3 := Tryz.isAgg3
  z3 := Tryz.sizeOf3
  v3 := Tryz.zeroValue3
  t4 := Tryz.underlying4
  a4 := Tryz.isAgg4
  z4 := Tryz.sizeOf4
  v4 := Tryz.zeroValue4
  t9 := Tryz.underlying9
  a9 := Tryz.isAgg9
  z9 := Tryz.sizeOf9
  v9 := Tryz.zeroValue9 }
open Go.RowKit Go.Lib in
theorem Tryz.strings_HasSuffix (s p : ByteArray) (w : World) (hs : s.size ≤ 9223372036854775807) :
    Calls Tryz.prog 55 #[.string s, .string p] w fun e w' => e = .returned (.bool (Lib.hasSuffix s.data.toList p.data.toList)) ∧ w' = w := Any.strings_HasSuffix Tryz.lays100 s p w hs
def Tryz.lays146_ren : Go.Shelf.Ren := ⟨fun | 146 => 64 | 221 => 71 | 268 => 82 | 138 => 83 | 143 => 84 | 195 => 93 | 197 => 94 | 218 => 95 | 219 => 96 | 260 => 99 | 217 => 100 | 225 => 101 | 224 => 102 | 267 => 103 | 266 => 104 | 314 => 105 | n => n, fun | 9 => 9 | 31 => 26 | 3 => 3 | 4 => 4 | 0 => 0 | 105 => 124 | 21 => 21 | 5 => 5 | 46 => 78 | 119 => 129 | 139 => 132 | 138 => 131 | 146 => 133 | 51 => 119 | n => n, fun | 1 => 0 | 3 => 4 | 4 => 5 | n => n⟩
theorem Tryz.lays146 : Go.Proofs.Lays.n146 Tryz.prog Tryz.lays146_ren := {
  mixed := by kernel_rfl
  f138 := Tryz.func83.trans (congrArg some (by kernel_rfl))
  f143 := Tryz.func84.trans (congrArg some (by kernel_rfl))
  f146 := Tryz.func64.trans (congrArg some (by kernel_rfl))
  f195 := Tryz.func93.trans (congrArg some (by kernel_rfl))
  f197 := Tryz.func94.trans (congrArg some (by kernel_rfl))
  f217 := Tryz.func100.trans (congrArg some (by kernel_rfl))
  f218 := Tryz.func95.trans (congrArg some (by kernel_rfl))
  f219 := Tryz.func96.trans (congrArg some (by kernel_rfl))
  f221 := Tryz.func71.trans (congrArg some (by kernel_rfl))
  f224 := Tryz.func102.trans (congrArg some (by kernel_rfl))
  f225 := Tryz.func101.trans (congrArg some (by kernel_rfl))
  f260 := Tryz.func99.trans (congrArg some (by kernel_rfl))
  f266 := Tryz.func104.trans (congrArg some (by kernel_rfl))
  f267 := Tryz.func103.trans (congrArg some (by kernel_rfl))
  f268 := Tryz.func82.trans (congrArg some (by kernel_rfl))
  f314 := Tryz.func105.trans (congrArg some (by kernel_rfl))
  t0 := Tryz.underlying0
  a0 := Tryz.isAgg0
  z0 := Tryz.sizeOf0
  v0 := Tryz.zeroValue0
  t3 := Tryz.underlying3
  a3 := Tryz.isAgg3
  z3 := Tryz.sizeOf3
  v3 := Tryz.zeroValue3
  t4 := Tryz.underlying4
  a4 := Tryz.isAgg4
  z4 := Tryz.sizeOf4
  v4 := Tryz.zeroValue4
  t5 := Tryz.underlying5
  a5 := Tryz.isAgg5
  z5 := Tryz.sizeOf5
  v5 := Tryz.zeroValue5
  t9 := Tryz.underlying9
  a9 := Tryz.isAgg9
  z9 := Tryz.sizeOf9
  v9 := Tryz.zeroValue9
  t21 := Tryz.underlying21
  a21 := Tryz.isAgg21
  z21 := Tryz.sizeOf21
  v21 := Tryz.zeroValue21
  t31 := Tryz.underlying26
  a31 := Tryz.isAgg26
  z31 := Tryz.sizeOf26
  v31 := Tryz.zeroValue26
  t46 := Tryz.underlying78
  a46 := Tryz.isAgg78
  z46 := Tryz.sizeOf78
  v46 := Tryz.zeroValue78
  t51 := Tryz.underlying119
  a51 := Tryz.isAgg119
  z51 := Tryz.sizeOf119
  v51 := Tryz.zeroValue119
  t105 := Tryz.underlying124
  a105 := Tryz.isAgg124
  z105 := Tryz.sizeOf124
  v105 := Tryz.zeroValue124
  t119 := Tryz.underlying129
  a119 := Tryz.isAgg129
  z119 := Tryz.sizeOf129
  t138 := Tryz.underlying131
  a138 := Tryz.isAgg131
  z138 := Tryz.sizeOf131
  v138 := Tryz.zeroValue131
  t139 := Tryz.underlying132
  a139 := Tryz.isAgg132
  z139 := Tryz.sizeOf132
  v139 := Tryz.zeroValue132
  t146 := Tryz.underlying133
  a146 := Tryz.isAgg133
  z146 := Tryz.sizeOf133
  v146 := Tryz.zeroValue133
  g1 := by kernel_rfl
  g3 := by kernel_rfl
  g4 := by kernel_rfl }
open Go.RowKit Go.Lib in
theorem Tryz.strings_Split (s sep : ByteArray) (m : Int) (w : World) (hs : s.size < 4294967281) (hm : w.cell? ⟨0, 0, none⟩ = some (.int .i64 m)) (h1 : 1 ≤ sep.size) :
    Calls Tryz.prog 64 #[.string s, .string sep] w fun e w' =>
      e = .returned (.slice (some ⟨w.heap.size, 0, none⟩) (Lib.countB s sep + 1) (Lib.countB s sep + 1)) ∧ w' = w.alloc (.cells ((Lib.splitB sep 0 (Lib.countB s sep) s).map Value.string).toArray 9) := Any.strings_Split Tryz.lays146 (by kernel_rfl) s sep m w hs hm h1
def Tryz.laysM146_ren : Go.Shelf.Ren := ⟨fun | 146 => 64 | 221 => 71 | 268 => 82 | 138 => 83 | 143 => 84 | 195 => 93 | 197 => 94 | 218 => 95 | 219 => 96 | 260 => 99 | 217 => 100 | 225 => 101 | 224 => 102 | 267 => 103 | 266 => 104 | 314 => 105 | n => n, fun | 9 => 9 | 31 => 26 | 3 => 3 | 4 => 4 | 0 => 0 | 105 => 124 | 21 => 21 | 5 => 5 | 46 => 78 | 119 => 129 | 139 => 132 | 138 => 131 | 146 => 133 | 51 => 119 | n => n, fun | 1 => 0 | 3 => 4 | 4 => 5 | n => n⟩
theorem Tryz.laysM146 : Go.Proofs.LaysM.n146 Tryz.prog Tryz.laysM146_ren := {
  mixed := by kernel_rfl
  f138 := Tryz.func83.trans (congrArg some (by kernel_rfl))
  f143 := Tryz.func84.trans (congrArg some (by kernel_rfl))
  f146 := Tryz.func64.trans (congrArg some (by kernel_rfl))
  f195 := Tryz.func93.trans (congrArg some (by kernel_rfl))
  f197 := Tryz.func94.trans (congrArg some (by kernel_rfl))
  f217 := Tryz.func100.trans (congrArg some (by kernel_rfl))
  f218 := Tryz.func95.trans (congrArg some (by kernel_rfl))
  f219 := Tryz.func96.trans (congrArg some (by kernel_rfl))
  f221 := Tryz.func71.trans (congrArg some (by kernel_rfl))
  f224 := Tryz.func102.trans (congrArg some (by kernel_rfl))
  f225 := Tryz.func101.trans (congrArg some (by kernel_rfl))
  f260 := Tryz.func99.trans (congrArg some (by kernel_rfl))
  f266 := Tryz.func104.trans (congrArg some (by kernel_rfl))
  f267 := Tryz.func103.trans (congrArg some (by kernel_rfl))
  f268 := Tryz.func82.trans (congrArg some (by kernel_rfl))
  f314 := Tryz.func105.trans (congrArg some (by kernel_rfl))
  t0 := Tryz.underlying0
  a0 := Tryz.isAgg0
  z0 := Tryz.sizeOf0
  v0 := Tryz.zeroValue0
  t3 := Tryz.underlying3
  a3 := Tryz.isAgg3
  z3 := Tryz.sizeOf3
  v3 := Tryz.zeroValue3
  t4 := Tryz.underlying4
  a4 := Tryz.isAgg4
  z4 := Tryz.sizeOf4
  v4 := Tryz.zeroValue4
  t5 := Tryz.underlying5
  a5 := Tryz.isAgg5
  z5 := Tryz.sizeOf5
  v5 := Tryz.zeroValue5
  t9 := Tryz.underlying9
  a9 := Tryz.isAgg9
  z9 := Tryz.sizeOf9
  v9 := Tryz.zeroValue9
  t21 := Tryz.underlying21
  a21 := Tryz.isAgg21
  z21 := Tryz.sizeOf21
  v21 := Tryz.zeroValue21
  t31 := Tryz.underlying26
  a31 := Tryz.isAgg26
  z31 := Tryz.sizeOf26
  v31 := Tryz.zeroValue26
  t46 := Tryz.underlying78
  a46 := Tryz.isAgg78
  z46 := Tryz.sizeOf78
  v46 := Tryz.zeroValue78
  t51 := Tryz.underlying119
  a51 := Tryz.isAgg119
  z51 := Tryz.sizeOf119
  v51 := Tryz.zeroValue119
  t105 := Tryz.underlying124
  a105 := Tryz.isAgg124
  z105 := Tryz.sizeOf124
  v105 := Tryz.zeroValue124
  t119 := Tryz.underlying129
  a119 := Tryz.isAgg129
  z119 := Tryz.sizeOf129
  t138 := Tryz.underlying131
  a138 := Tryz.isAgg131
  z138 := Tryz.sizeOf131
  v138 := Tryz.zeroValue131
  t139 := Tryz.underlying132
  a139 := Tryz.isAgg132
  z139 := Tryz.sizeOf132
  v139 := Tryz.zeroValue132
  t146 := Tryz.underlying133
  a146 := Tryz.isAgg133
  z146 := Tryz.sizeOf133
  v146 := Tryz.zeroValue133
  g1 := by kernel_rfl
  g3 := by kernel_rfl
  g4 := by kernel_rfl
  i0 := by kernel_rfl
  i3 := by kernel_rfl
  i4 := by kernel_rfl
  i5 := by kernel_rfl
  i9 := by kernel_rfl
  i21 := by kernel_rfl
  i31 := by kernel_rfl
  i46 := by kernel_rfl
  i51 := by kernel_rfl
  i105 := by kernel_rfl
  i138 := by kernel_rfl
  i139 := by kernel_rfl
  i146 := by kernel_rfl
  m1 := by kernel_rfl
  s1_3 := fun w h => Go.Proofs.cell_of_shapedOpen_int (zero := #[.int .i64 0]) (t := 3) h (of_decide_eq_true (by kernel_rfl)) (by kernel_rfl) rfl (by kernel_rfl) (by kernel_rfl) Tryz.underlying3
  m3 := by kernel_rfl
  m4 := by kernel_rfl }
def Tryz.sortIns_ren : Go.Shelf.Ren := ⟨fun | 20 => 58 | n => n, fun | 24 => 35 | 22 => 25 | 3 => 3 | 25 => 59 | 4 => 4 | 0 => 0 | n => n, fun | n => n⟩
theorem Tryz.sortIns : Go.Proofs.SlLaysF0.n20 Tryz.prog Tryz.sortIns_ren := {
  mixed := by kernel_rfl
  f20 := ⟨Tryz.f58.name, by decide, Tryz.func58.trans (congrArg some (by kernel_rfl))⟩
  t0 := Tryz.underlying0
  a0 := Tryz.isAgg0
  z0 := Tryz.sizeOf0
  v0 := Tryz.zeroValue0
  t3 := Tryz.underlying3
  a3 := Tryz.isAgg3
  z3 := Tryz.sizeOf3
  v3 := Tryz.zeroValue3
  t4 := Tryz.underlying4
  a4 := Tryz.isAgg4
  z4 := Tryz.sizeOf4
  v4 := Tryz.zeroValue4
  t22 := Tryz.underlying25
  a22 := Tryz.isAgg25
  z22 := Tryz.sizeOf25
  v22 := Tryz.zeroValue25
  t25 := Tryz.underlying59
  a25 := Tryz.isAgg59
  z25 := Tryz.sizeOf59
  v25 := Tryz.zeroValue59 }
open Go.RowKit Go.Lib Go.Sort in
theorem Tryz.slices_insertionSort {α : Type} [Inhabited α] (k : Nat) (aE : ∀ w, (isAgg 35).run Tryz.prog w = .ok true w) (zE : ∀ w, (Go.sizeOf 35).run Tryz.prog w = .ok k w) (enc : α → List Value) (hk : ∀ x, (enc x).length = k) (h1 : ∀ x, ∀ v ∈ enc x, v.oneCell' = true)
    (cf : α → α → Int) (g : Nat) (cb : Array Value) (blk off cap a b : Nat) (d : Array α) (w : World)
    (eg : ∀ args w, (callFunc g args).run Tryz.prog w = .ok (.enter g args) w) (hcmp : CmpLays Tryz.prog g cb enc k cf blk off d.size w) (hH : HoldsK enc k w blk off d) (hblk : blk < w.heap.size) (hab : a ≤ b) (hb : b ≤ d.size) (hsz : d.size < 4611686018427387904) :
    Calls Tryz.prog 58 #[.slice (some ⟨blk, off, none⟩) d.size cap, .int .i64 a, .int .i64 b, .func (.func g) #[] cb] w fun e w' =>
      e = .returned (.tuple #[]) ∧ ∃ n os, w' = sortWorldK enc k w blk off n (Sort.insertionSort (ltOf cf) d a b) os := AnyQ.insertionSortCmpFunc Tryz.sortIns k aE zE enc hk h1 cf g cb blk off cap a b d w eg hcmp hH hblk hab hb hsz
end Go.Proofs
namespace Go.Proofs.YthdopcdllggdaaaGreatDoor
open Go.RowKit

theorem alloc_cell (w : World) (c : Array Value) (t : TypeId) (i : Nat) : (w.alloc (.cells c t)).cell? ⟨w.heap.size, i, none⟩ = c[i]? := by
  simp [World.alloc, World.cell?, -World.alloc_eq]
theorem alloc_frozen (w : World) (c : Array Value) (t : TypeId) (i : Nat) : (w.alloc (.cells c t)).frozen? ⟨w.heap.size, i, none⟩ = false := by
  simp [World.alloc, World.frozen?, -World.alloc_eq]
theorem alloc_size (w : World) (o : Obj) : (w.alloc o).heap.size = w.heap.size + 1 := by
  show (w.heap.push o).size = _
  simp
theorem cell_in {w : World} {b : Nat} {c : Array Value} {t : TypeId} (h : w.heap[b]? = some (.cells c t (0, 0))) (j : Nat) : w.cell? ⟨b, j, none⟩ = c[j]? := by
  simp [World.cell?, h]
theorem grown_new {w w1 w2 : World} {k : Nat} (h1 : w.grownBy w1 none) (h2 : w1.grownBy w2 (some k)) (hk : w.heap.size ≤ k) : w.grownBy w2 none :=
  ⟨h2.os.trans h1.os, h2.tape.trans h1.tape, h2.output.trans h1.output, Nat.le_trans h1.size h2.size, fun j hj hne => (h2.block j (Nat.lt_of_lt_of_le hj h1.size) (by simp; omega)).trans (h1.block j hj hne)⟩
theorem grown_drew {w w1 : World} (n : Nat) (h : w.grownBy w1 none) : w.grownBy (w1.drewN n) none := ⟨h.os, h.tape, h.output, h.size, h.block⟩
theorem grown_alloc {w w1 : World} (o : Obj) (h : w.grownBy w1 none) : w.grownBy (w1.alloc o) none := World.grownBy.trans h (World.grownBy_alloc _ _ _)
theorem below_of_grown {w w' : World} (h : w.grownBy w' none) : Below w.heap.size w w' := ⟨h.os, h.tape, h.output, h.size, fun k hk => h.block k hk (by simp)⟩
theorem grown_of_below {w w' : World} (h : Below w.heap.size w w') : w.grownBy w' none := ⟨h.os, h.tape, h.output, h.size, fun k hk _ => h.block k hk⟩
theorem frozen_kept {w w1 : World} (h : w.grownBy w1 none) {b : Nat} (hb : b < w.heap.size) (o : Nat) : w1.frozen? ⟨b, o, none⟩ = w.frozen? ⟨b, o, none⟩ := by
  have e := h.block b hb (by simp)
  simp only [World.frozen?, e]

theorem beq_no (a : Nat) (k : Int) (h : (a : Int) ≠ k) : ((a : Int) == k) = false := by simp [h]
theorem eq_list (x : ByteArray) (l : List UInt8) (h : x = ⟨l.toArray⟩) : x.toList = l := by
  rw [h, ByteArray.toList_eq]
theorem ne_list (x : ByteArray) (l : List UInt8) (h : ¬ x = ⟨l.toArray⟩) : ¬ x.toList = l := by
  intro e
  apply h
  rw [ByteArray.toList_eq] at e
  apply ByteArray.ext
  apply Array.ext'
  rw [e]
theorem nb_list (x : ByteArray) (l : List UInt8) (h : ¬ x = ⟨l.toArray⟩) : (x.toList == l) = false := by
  rw [beq_eq_false_iff_ne]; exact ne_list x l h
theorem ne_lists (x y : ByteArray) (h : ¬ x = y) : ¬ x.toList = y.toList := by
  intro e
  apply h
  rw [ByteArray.toList_eq, ByteArray.toList_eq] at e
  apply ByteArray.ext
  apply Array.ext'
  rw [e]
theorem nb_lists (x y : ByteArray) (h : ¬ x = y) : (x.toList == y.toList) = false := by
  rw [beq_eq_false_iff_ne]; exact ne_lists x y h
theorem empty_no (x : ByteArray) (h : ¬ x = ⟨#[]⟩) : x.toList.isEmpty = false := by
  cases hl : x.toList with
  | nil => exact absurd hl (ne_list x [] h)
  | cons _ _ => rfl
theorem bytes_ext {x y : ByteArray} (h : x.data.toList = y.data.toList) : x = y := by
  apply ByteArray.ext
  exact Array.ext' h

def byteAt (s : ByteArray) (i : Nat) : UInt8 := s.data.toList.getD i 0
theorem byteAt_eq (s : ByteArray) (i : Nat) (h : i < s.size) : byteAt s i = s[i] := by
  unfold byteAt
  rw [List.getD_eq_getElem?_getD, Array.getElem?_toList, Array.getElem?_eq_getElem (by simpa using h)]; rfl
theorem byteAt_extract (s : ByteArray) (a j : Nat) (h : a + j < s.size) : byteAt (s.extract a s.size) j = byteAt s (a + j) := by
  have h1 : j < (s.extract a s.size).size := by rw [ByteArray.size_extract]; omega
  rw [byteAt_eq _ _ h1, byteAt_eq _ _ h, ByteArray.getElem_extract]
theorem byteAt_extract' (s : ByteArray) (a b j : Nat) (h : a + j < b) (hb : b ≤ s.size) : byteAt (s.extract a b) j = byteAt s (a + j) := by
  have h1 : j < (s.extract a b).size := by rw [ByteArray.size_extract]; omega
  rw [byteAt_eq _ _ h1, byteAt_eq _ _ (by omega), ByteArray.getElem_extract]
def toB (l : List UInt8) : ByteArray := ⟨l.toArray⟩
theorem toB_data (s : ByteArray) : toB s.data.toList = s := by
  apply ByteArray.ext; simp [toB]
theorem data_toB (l : List UInt8) : (toB l).data.toList = l := by simp [toB]
theorem data_len (s : ByteArray) : s.data.toList.length = s.size := by simp
theorem byteAt_mem (s : ByteArray) (j : Nat) (h : j < s.size) : byteAt s j ∈ s.data.toList := by
  unfold byteAt
  rw [List.getD_eq_getElem?_getD, List.getElem?_eq_getElem (by rw [data_len]; exact h)]
  exact List.getElem_mem _

/-- v holds the texts L, in a block that was made from base on. -/
def OwnsS (w : World) (base : Nat) (v : Value) (L : List ByteArray) : Prop := w.ownsRow base 9 1 v L.length (L.map Value.string)
/-- v is the texts M, which lie anywhere below B. -/
def PartS (w : World) (B : Nat) (v : Value) (M : List ByteArray) : Prop :=
  ∃ a cap b o, v = .slice a M.length cap ∧ M.length ≤ cap ∧ (a = none → cap = 0) ∧ b < B ∧ (0 < M.length → a = some ⟨b, o, none⟩) ∧ ∀ j x, M[j]? = some x → w.cell? ⟨b, o + j, none⟩ = some (.string x)

theorem OwnsS.nil (w : World) (base : Nat) : OwnsS w base (.slice none 0 0) [] := World.ownsRow_nil w base 9 1
theorem OwnsS.form {w : World} {base : Nat} {v : Value} {L : List ByteArray} (h : OwnsS w base v L) : ∃ a cap, v = .slice a L.length cap ∧ L.length ≤ cap ∧ cap ≤ maxLen := by
  rcases h.2 with ⟨h1, h2⟩ | ⟨g, cap, cur, h1, h2, h3, h4, h5, _⟩
  · exact ⟨none, 0, by rw [h1, h2], by omega, by unfold maxLen; omega⟩
  · exact ⟨_, cap, h1, h4, h5⟩
theorem OwnsS.block_lt {w : World} {base : Nat} {v : Value} {L : List ByteArray} (h : OwnsS w base v L) (k : Nat) (e : v.ownBlock = some k) : base ≤ k ∧ k < w.heap.size := World.ownsRow.lt h k e
theorem OwnsS.part {w : World} {base : Nat} {v : Value} {L : List ByteArray} (h : OwnsS w base v L) (hp : 0 < w.heap.size) : PartS w w.heap.size v L := by
  have hlt := OwnsS.block_lt h
  rcases h.2 with ⟨h1, h2⟩ | ⟨g, cap, cur, h1, h2, h3, h4, h5, h6, h7⟩
  · exact ⟨none, 0, 0, 0, by rw [h1, h2], by omega, fun _ => rfl, hp, fun hh => by omega, fun j x hj => by
      have := (List.getElem?_eq_some_iff.1 hj).1; omega⟩
  · have hg := (hlt g (by rw [h1]; rfl)).2
    refine ⟨some ⟨g, 0, none⟩, cap, g, 0, h1, h4, (fun h => by cases h), hg, fun _ => rfl, fun j x hj => ?_⟩
    have hjl := (List.getElem?_eq_some_iff.1 hj).1
    rw [Nat.zero_add, cell_in h3]
    have e : (L.map Value.string)[j]? = some (.string x) := by rw [List.getElem?_map, hj]; rfl
    rw [← h7, List.getElem?_take, if_pos (by omega)] at e
    simpa using e
theorem OwnsS.grown {w w1 w2 : World} {v : Value} {L : List ByteArray} (h : OwnsS w1 w.heap.size v L) (h1 : w.grownBy w1 none) (h2 : w1.grownBy w2 v.ownBlock) : w.grownBy w2 none := by
  cases e : v.ownBlock with
  | none => rw [e] at h2; exact World.grownBy.trans h1 h2
  | some k => rw [e] at h2; exact grown_new h1 h2 (World.ownsRow.lt h k e).1
theorem OwnsS.alloc {w : World} {base : Nat} {v : Value} {L : List ByteArray} (h : OwnsS w base v L) (o : Obj) : OwnsS (w.alloc o) base v L := World.ownsRow.alloc h o
theorem OwnsS.stays {w w1 : World} {base : Nat} {v : Value} {L : List ByteArray} (h : OwnsS w base v L) (hg : w.grownBy w1 none) : OwnsS w1 base v L :=
  World.ownsRow.kept h hg (by cases v.ownBlock with
    | none => exact .inl rfl
    | some k => exact .inr (by simp))
theorem OwnsS.mono {w : World} {b c : Nat} {v : Value} {L : List ByteArray} (h : OwnsS w b v L) (hc : c ≤ b) : OwnsS w c v L := by
  refine ⟨h.1, ?_⟩
  rcases h.2 with h1 | ⟨g, cap, cur, h1, h2, h3⟩
  · exact .inl h1
  · exact .inr ⟨g, cap, cur, h1, Nat.le_trans hc h2, h3⟩
theorem OwnsS.shorter {w : World} {b n cap : Nat} {a : Option Addr} {L : List ByteArray} (h : OwnsS w b (.slice a n cap) L) (hn : L.length = n) (h0 : 0 < n) : OwnsS w b (.slice a (n - 1) cap) L.dropLast := by
  have hl : L.dropLast.length = n - 1 := by rw [List.length_dropLast, hn]
  refine ⟨by simp, ?_⟩
  rcases h.2 with ⟨h1, h2⟩ | ⟨g, cp, cur, h1, h2, h3, h4, h5, h6, h7⟩
  · omega
  · have e := Value.slice.inj h1
    refine .inr ⟨g, cap, cur, by rw [e.1, hl], h2, h3, ?_, ?_, ?_, ?_⟩
    · have := e.2.1; rw [hl]; have := e.2.2; omega
    · rw [e.2.2]; exact h5
    · rw [e.2.2]; exact h6
    · rw [hl, List.map_dropLast, ← h7, List.dropLast_eq_take, List.length_take, List.take_take]
      congr 1
      have : cur.toList.length = cp := by simpa using h6
      omega
theorem PartS.grown {w w' : World} {B : Nat} {v : Value} {M : List ByteArray} {r : Option Nat} (h : PartS w B v M) (hg : w.grownBy w' r) (hr : ∀ k, r = some k → B ≤ k) : PartS w' B v M := by
  obtain ⟨a, cap, b, o, h1, h2, h3, h4, h5, h6⟩ := h
  exact ⟨a, cap, b, o, h1, h2, h3, h4, h5, fun j x hj => hg.cell (h6 j x hj) (fun e => by have := hr b e.symm; omega)⟩
theorem PartS.stays {w w' : World} {B : Nat} {v : Value} {M : List ByteArray} (h : PartS w B v M) (hg : w.grownBy w' none) : PartS w' B v M := h.grown hg (fun k hk => by simp at hk)
theorem PartS.le {w : World} {B B' : Nat} {v : Value} {M : List ByteArray} (h : PartS w B v M) (hB : B ≤ B') : PartS w B' v M := by
  obtain ⟨a, cap, b, o, h1, h2, h3, h4, h5, h6⟩ := h
  exact ⟨a, cap, b, o, h1, h2, h3, by omega, h5, h6⟩
theorem PartS.form {w : World} {B : Nat} {v : Value} {M : List ByteArray} (h : PartS w B v M) : ∃ a cap, v = .slice a M.length cap ∧ M.length ≤ cap ∧ (a = none → cap = 0) := by
  obtain ⟨a, cap, b, o, h1, h2, h3, h4, h5, h6⟩ := h
  exact ⟨a, cap, h1, h2, h3⟩
/-- The k-th text of a part, by its cell. -/
theorem PartS.at {w : World} {B n cap : Nat} {a : Option Addr} {M : List ByteArray} (h : PartS w B (.slice a n cap) M) (k : Nat) (x : ByteArray) (hk : M[k]? = some x) : ∃ b o, a = some ⟨b, o, none⟩ ∧ b < B ∧ w.cell? ⟨b, o + k, none⟩ = some (.string x) := by
  obtain ⟨a', cap', b, o, f1, f2, f3, f4, f5, f6⟩ := h
  have e := Value.slice.inj f1
  have hl := (List.getElem?_eq_some_iff.1 hk).1
  exact ⟨b, o, by rw [e.1]; exact f5 (by omega), f4, f6 k x hk⟩
theorem PartS.nil {w : World} {B : Nat} (h : 0 < B) : PartS w B (.slice none 0 0) [] :=
  ⟨none, 0, 0, 0, rfl, Nat.le_refl _, fun _ => rfl, h, fun h => by simp at h, fun j x hj => by simp at hj⟩
/-- Texts that lie in a block of their own. -/
theorem part_block (w : World) (P : List ByteArray) (t : TypeId) (n : Nat) (hn : P.length = n) : PartS (w.alloc (.cells (P.map Value.string).toArray t)) (w.heap.size + 1) (.slice (some ⟨w.heap.size, 0, none⟩) n n) P :=
  ⟨_, n, w.heap.size, 0, by rw [hn], by rw [hn]; exact Nat.le_refl _, fun h => by simp at h, by omega, fun _ => rfl, fun j y hj => by
    rw [Nat.zero_add, alloc_cell]; simp [hj]⟩
/-- One text, in a block of its own. -/
theorem part_str (w : World) (x : ByteArray) (t : TypeId) : PartS (w.alloc (.cells #[.string x] t)) (w.heap.size + 1) (.slice (some ⟨w.heap.size, 0, none⟩) 1 1) [x] :=
  part_block w [x] t 1 rfl

theorem infoS : (Tryz.prog.info? 9).map (fun i => (i.zero, i.size, i.bytes)) = some (some (.string ByteArray.empty), 1, 16) := by kernel_rfl

/-- append of texts that lie anywhere to texts that the call owns. -/
theorem app_str {w : World} {ops : Array Oper} {rest : List Oper} {o : Oper} {a : Act} {Q : Exit → Act → World → Prop} (hgd : o.guard = none) (s x : Operand)
    (ho : o.op = .call { callee := .builtin .append, args := #[s, x], argTypes := #[26, 26] }) (base B : Nat) (v xv : Value) (L M : List ByteArray) (hs : a.eval s = v) (hown : OwnsS w base v L)
    (hx : a.eval x = xv) (hp : PartS w B xv M) (hb : L.length + M.length ≤ 8000000) (hbase : base ≤ w.heap.size)
    (h : ∀ v' w', OwnsS w' base v' (L ++ M) → w.grownBy w' v.ownBlock → wpList Tryz.prog ops Q rest (a.put o.dst v') w') : wpList Tryz.prog ops Q (o :: rest) a w := by
  obtain ⟨i0, hi, hz0, hz1, hz2⟩ := info_parts infoS
  obtain ⟨ap, cap, b, of, h1, h2, h6, h3, h4, h5⟩ := hp
  subst h1
  cases ap with
  | none =>
    have hc := h6 rfl
    have hm : M = [] := List.eq_nil_of_length_eq_zero (by omega)
    subst hm
    have hc' : cap = 0 := by omega
    subst hc'
    refine wpList_append_own_none hgd s x 26 ho base 9 i0 1 Tryz.underlying26 hi v L.length (L.map Value.string) hs hown hx ?_
    exact h v w (by simpa using hown) (World.grownBy.refl _ _)
  | some ad =>
    refine wpList_append_own w hgd s x 26 ho base 9 i0 (.string ByteArray.empty) 1 16 Tryz.underlying26 hi hz0 hz1 hz2 rfl (by decide) v L.length (L.map Value.string) hs hown ad M.length cap (M.map Value.string) hx (by simp) ?_ ?_ (by unfold maxLen; omega) (by omega) hbase ?_
    · intro j u hu
      have hj : j < M.length := by have := (List.getElem?_eq_some_iff.1 hu).1; simpa using this
      have e := h4 (by omega)
      rw [List.getElem?_map, List.getElem?_eq_getElem hj] at hu
      have hu' : Value.string M[j] = u := by simpa using hu
      rw [Option.some.inj e, Addr.add_mid, h5 j M[j] (List.getElem?_eq_getElem hj), hu']
    · intro u hu
      obtain ⟨y, _, rfl⟩ := List.mem_map.1 hu
      rfl
    · intro v' w' h7 h8 _
      refine h v' w' ?_ h8
      show World.ownsRow _ _ _ _ _ _ _
      rw [List.length_append, List.map_append]
      exact h7

/-- Parts, put together with a text between. -/
def joinB (sep : ByteArray) (L : List ByteArray) : ByteArray := ⟨(Lib.join (L.map (·.data.toList)) sep.data.toList).toArray⟩
theorem joinB_nil (sep : ByteArray) : joinB sep [] = ByteArray.empty := rfl
theorem joinB_one (sep x : ByteArray) : joinB sep [x] = x := by
  unfold joinB
  simp [Lib.join_one]
theorem joinB_snoc (sep : ByteArray) (L : List ByteArray) (x : ByteArray) (h : L ≠ []) : joinB sep (L ++ [x]) = joinB sep L ++ sep ++ x := by
  obtain ⟨y, r, rfl⟩ : ∃ y r, L = y :: r := List.exists_cons_of_ne_nil h
  unfold joinB
  rw [List.cons_append, List.map_cons, List.map_cons, Lib.join_cons, Lib.join_cons]
  apply ByteArray.ext
  apply Array.ext'
  simp [Lib.joinTail]
theorem joinB_app (sep : ByteArray) (A B : List ByteArray) (ha : A ≠ []) (hb : B ≠ []) : joinB sep (A ++ B) = joinB sep A ++ sep ++ joinB sep B := by
  obtain ⟨y, r, rfl⟩ : ∃ y r, A = y :: r := List.exists_cons_of_ne_nil ha
  obtain ⟨z, t, rfl⟩ : ∃ y r, B = y :: r := List.exists_cons_of_ne_nil hb
  unfold joinB
  apply ByteArray.ext
  apply Array.ext'
  simp only [List.cons_append, List.map_cons, Lib.join_cons, List.map_append]
  simp [Lib.joinTail]
def strAt (L : List ByteArray) (i : Nat) : ByteArray := L.getD i ByteArray.empty
theorem strAt_eq (L : List ByteArray) (i : Nat) (h : i < L.length) : L[i]? = some (strAt L i) := by
  unfold strAt
  rw [List.getD_eq_getElem?_getD, List.getElem?_eq_getElem h]; rfl
theorem take_snocL {α : Type} (L : List α) (k : Nat) (b : α) (h : L[k]? = some b) : L.take (k + 1) = L.take k ++ [b] := by
  rw [List.take_add_one, h]; rfl
/-- All the bytes of the parts, and one for each. -/
def sumS : List ByteArray → Nat
  | [] => 0
  | x :: r => x.size + 1 + sumS r
theorem sumS_snoc (L : List ByteArray) (x : ByteArray) : sumS (L ++ [x]) = sumS L + x.size + 1 := by
  induction L with
  | nil => simp [sumS]
  | cons y r ih => simp only [List.cons_append, sumS, ih]; omega
theorem sumS_app (L M : List ByteArray) : sumS (L ++ M) = sumS L + sumS M := by
  induction L with
  | nil => simp [sumS]
  | cons x r ih => simp only [List.cons_append, sumS, ih]; omega
theorem sumS_take (L : List ByteArray) (k : Nat) : sumS (L.take k) ≤ sumS L := by
  induction L generalizing k with
  | nil => simp [sumS]
  | cons y r ih => cases k with
    | zero => simp [sumS]
    | succ k => simp only [List.take_succ_cons, sumS]; have := ih k; omega
theorem sumS_le (L : List ByteArray) (c : Nat) (h : ∀ p ∈ L, p.size ≤ c) : sumS L ≤ L.length * (c + 1) := by
  induction L with
  | nil => simp [sumS]
  | cons x r ih =>
    have h1 := h x (by simp)
    have h2 := ih fun p hp => h p (by simp [hp])
    simp only [sumS, List.length_cons, Nat.add_mul]
    omega
theorem joinB_size (d : UInt8) (L : List ByteArray) (h : L ≠ []) : (joinB ⟨#[d]⟩ L).size + 1 = sumS L := by
  cases L with
  | nil => exact absurd rfl h
  | cons y r =>
    have h : ∀ (r : List ByteArray), (Lib.joinTail (⟨#[d]⟩ : ByteArray).data.toList (r.map (·.data.toList))).length = sumS r := by
      intro r
      induction r with
      | nil => rfl
      | cons z r ih =>
        simp only [Lib.joinTail, List.map_cons, List.flatten_cons, List.length_append, sumS] at ih ⊢
        rw [ih]; simp; omega
    show (Lib.join _ _).toArray.size + 1 = _
    rw [List.map_cons, Lib.join_cons, List.size_toArray, List.length_append, h]
    simp [sumS]; omega
theorem joinB_le (d : UInt8) (L : List ByteArray) : (joinB ⟨#[d]⟩ L).size ≤ sumS L := by
  by_cases h : L = []
  · subst h; exact Nat.le_refl _
  · have := joinB_size d L h; omega
end Go.Proofs.YthdopcdllggdaaaGreatDoor
namespace Go.Proofs.YthdopcdllggdaaaGreatDoor
open Go.RowKit

/-- What stands between the ds of a list of bytes. -/
def cutL (d : UInt8) : List UInt8 → List (List UInt8)
  | [] => [[]]
  | c :: r => if c = d then [] :: cutL d r else match cutL d r with
    | [] => [[c]]
    | h :: t => (c :: h) :: t
theorem cutL_ne (d : UInt8) (l : List UInt8) : cutL d l ≠ [] := by
  cases l with
  | nil => simp [cutL]
  | cons c r =>
    unfold cutL
    split
    · simp
    · split <;> simp
theorem cutL_plain (d : UInt8) (l : List UInt8) (h : ∀ c ∈ l, c ≠ d) : cutL d l = [l] := by
  induction l with
  | nil => rfl
  | cons c r ih =>
    rw [cutL, if_neg (h c (by simp)), ih fun e he => h e (by simp [he])]
theorem cutL_at (d : UInt8) (a b : List UInt8) (h : ∀ c ∈ a, c ≠ d) : cutL d (a ++ d :: b) = a :: cutL d b := by
  induction a with
  | nil => simp [cutL]
  | cons c r ih =>
    rw [List.cons_append, cutL, if_neg (h c (by simp)), ih fun e he => h e (by simp [he])]
theorem cutL_app (d : UInt8) (a b : List UInt8) : cutL d (a ++ d :: b) = cutL d a ++ cutL d b := by
  induction a with
  | nil => simp [cutL]
  | cons c r ih =>
    rw [List.cons_append, cutL, cutL, ih]
    split
    · rfl
    · cases h : cutL d r with
      | nil => exact absurd h (cutL_ne d r)
      | cons x t => rfl
theorem cutL_ns (d : UInt8) (l : List UInt8) : ∀ x ∈ cutL d l, ∀ c ∈ x, c ≠ d := by
  induction l with
  | nil => intro x hx; simp [cutL] at hx; subst hx; simp
  | cons c r ih =>
    unfold cutL
    split
    · intro x hx
      rcases List.mem_cons.1 hx with rfl | hx
      · simp
      · exact ih x hx
    · rename_i hc
      cases h : cutL d r with
      | nil => exact absurd h (cutL_ne d r)
      | cons y t =>
        rw [h] at ih
        intro x hx
        rcases List.mem_cons.1 hx with rfl | hx
        · intro e he
          rcases List.mem_cons.1 he with rfl | he
          · exact hc
          · exact ih y (by simp) e he
        · exact ih x (by simp [hx])

/-- What stands between the ds of a text. -/
def pieces (d : UInt8) (s : ByteArray) : List ByteArray := Lib.splitB ⟨#[d]⟩ 0 (Lib.countB s ⟨#[d]⟩) s
theorem occ_d (d : UInt8) (s : ByteArray) (i : Nat) (h : i < s.size) : Lib.occAt s.data.toList [d] i = (byteAt s i == d) := by
  unfold Lib.occAt byteAt
  have hl : i < s.data.toList.length := by simpa using h
  rw [List.drop_eq_getElem_cons hl, List.getD_eq_getElem?_getD, List.getElem?_eq_getElem hl]
  simp only [List.isPrefixOf, Bool.and_true, Option.getD_some]
  exact Bool.beq_comm
theorem index_d (d : UInt8) (s : ByteArray) (i : Nat) (h : i < s.size) (h1 : byteAt s i = d) (h2 : ∀ j, j < i → byteAt s j ≠ d) : Lib.indexB s ⟨#[d]⟩ = i := by
  refine Lib.index_first (s := s.data.toList) (sub := [d]) (by simpa using Nat.le_of_lt h) ?_ ?_
  · rw [occ_d d s i h, h1]; exact beq_self_eq_true d
  · intro j hj
    rw [occ_d d s j (by omega)]
    simpa using h2 j hj
theorem noindex_d (d : UInt8) (s : ByteArray) (h2 : ∀ j, j < s.size → byteAt s j ≠ d) : Lib.indexB s ⟨#[d]⟩ = -1 := by
  refine Lib.index_none (s := s.data.toList) (sub := [d]) ?_
  intro j hj
  by_cases h : j < s.size
  · rw [occ_d d s j h]
    simpa using h2 j h
  · have e : s.data.toList.drop j = [] := List.drop_eq_nil_of_le (by simp; omega)
    unfold Lib.occAt
    rw [e]; rfl
theorem pieces_none (d : UInt8) (s : ByteArray) (h2 : ∀ j, j < s.size → byteAt s j ≠ d) : pieces d s = [s] :=
  Lib.splitB_miss _ _ _ _ (noindex_d d s h2)
theorem pieces_hit (d : UInt8) (s : ByteArray) (i : Nat) (h : i < s.size) (h1 : byteAt s i = d) (h2 : ∀ j, j < i → byteAt s j ≠ d) :
    pieces d s = s.extract 0 i :: pieces d (s.extract (i + 1) s.size) := by
  have e := index_d d s i h h1 h2
  have c := Lib.countB_hit s ⟨#[d]⟩ i (Nat.le_refl 1) e
  unfold pieces
  rw [c, Nat.add_comm, Lib.splitB_hit _ _ _ _ i e]
  rfl
theorem pieces_from (d : UInt8) (s : ByteArray) (f i : Nat) (hf : f ≤ i) (h : i < s.size) (h1 : byteAt s i = d) (h2 : ∀ j, f ≤ j → j < i → byteAt s j ≠ d) :
    pieces d (s.extract f s.size) = s.extract f i :: pieces d (s.extract (i + 1) s.size) := by
  have hz : (s.extract f s.size).size = s.size - f := by rw [ByteArray.size_extract]; omega
  rw [pieces_hit d _ (i - f) (by omega) (by rw [byteAt_extract _ _ _ (by omega), show f + (i - f) = i by omega]; exact h1) (fun j hj => by rw [byteAt_extract _ _ _ (by omega)]; exact h2 _ (by omega) (by omega))]
  rw [hz, ByteArray.extract_extract, ByteArray.extract_extract]
  congr 2
  · omega
  · congr 1 <;> omega
theorem pieces_last (d : UInt8) (s : ByteArray) (f : Nat) (h2 : ∀ j, f ≤ j → j < s.size → byteAt s j ≠ d) :
    pieces d (s.extract f s.size) = [s.extract f s.size] :=
  pieces_none d _ fun j hj => by
    rw [ByteArray.size_extract] at hj
    rw [byteAt_extract _ _ _ (by omega)]
    exact h2 _ (by omega) (by omega)
theorem pieces_len (d : UInt8) (s : ByteArray) : (pieces d s).length = Lib.countB s ⟨#[d]⟩ + 1 := Lib.splitB_all ⟨#[d]⟩ (Nat.le_refl 1) 0 _ s rfl
theorem count_le (d : UInt8) (s : ByteArray) : Lib.countB s ⟨#[d]⟩ ≤ s.size := Lib.countB_le ⟨#[d]⟩ (Nat.le_refl 1) s.size s (Nat.le_refl _)
theorem pieces_le (d : UInt8) (s : ByteArray) : (pieces d s).length ≤ s.size + 1 := by rw [pieces_len]; have := count_le d s; omega
theorem pieces_ne (d : UInt8) (s : ByteArray) : pieces d s ≠ [] := by
  intro h
  have := pieces_len d s
  rw [h] at this
  simp at this
theorem first_d (d : UInt8) (s : ByteArray) : ∀ k, k ≤ s.size → (∀ j, j < k → byteAt s j ≠ d) ∨ ∃ i, i < k ∧ byteAt s i = d ∧ ∀ j, j < i → byteAt s j ≠ d := by
  intro k
  induction k with
  | zero => intro _; exact .inl fun j h => by omega
  | succ k ih =>
    intro h
    rcases ih (by omega) with h1 | ⟨i, h1, h2, h3⟩
    · by_cases hb : byteAt s k = d
      · exact .inr ⟨k, by omega, hb, h1⟩
      · refine .inl fun j hj => ?_
        by_cases e : j = k
        · rw [e]; exact hb
        · exact h1 j (by omega)
    · exact .inr ⟨i, by omega, h2, h3⟩
theorem byteAt_take (d : UInt8) (s : ByteArray) (n : Nat) (hn : n ≤ s.size) (h : ∀ j, j < n → byteAt s j ≠ d) : ∀ c ∈ s.data.toList.take n, c ≠ d := by
  intro c hc
  obtain ⟨j, hj, rfl⟩ := List.mem_iff_getElem.1 hc
  have hl := data_len s
  rw [List.length_take] at hj
  have h1 := h j (by omega)
  unfold byteAt at h1
  rw [List.getD_eq_getElem?_getD, List.getElem?_eq_getElem (by omega)] at h1
  rw [List.getElem_take]
  simpa using h1
theorem byteAt_list (s : ByteArray) (i : Nat) (h : i < s.size) : s.data.toList = s.data.toList.take i ++ byteAt s i :: s.data.toList.drop (i + 1) := by
  have hl := data_len s
  have h4 : s.data.toList[i]'(by omega) = byteAt s i := by
    unfold byteAt
    rw [List.getD_eq_getElem?_getD, List.getElem?_eq_getElem (by omega)]; rfl
  rw [← h4, ← List.drop_eq_getElem_cons, List.take_append_drop]
theorem extract_head (s : ByteArray) (i : Nat) : (s.extract 0 i).data.toList = s.data.toList.take i := Lib.extract_from_zero s i
theorem extract_tail (s : ByteArray) (i : Nat) : (s.extract i s.size).data.toList = s.data.toList.drop i := by
  have hl := data_len s
  rw [ByteArray.data_extract, Array.toList_extract, List.extract_eq_take_drop]
  exact List.take_of_length_le (by rw [List.length_drop]; omega)
theorem pieces_cut (d : UInt8) (n : Nat) : ∀ s : ByteArray, s.size ≤ n → pieces d s = (cutL d s.data.toList).map toB := by
  induction n with
  | zero =>
    intro s hs
    rw [pieces_none d s (fun j hj => by omega)]
    have hl := data_len s
    have h : s.data.toList = [] := List.eq_nil_of_length_eq_zero (by omega)
    have h2 := toB_data s
    rw [h] at h2 ⊢
    simp [cutL, h2]
  | succ n ih =>
    intro s hs
    have hl := data_len s
    rcases first_d d s s.size (Nat.le_refl _) with h1 | ⟨i, h1, h2, h3⟩
    · rw [pieces_none d s h1, cutL_plain d _ (by have := byteAt_take d s s.size (Nat.le_refl _) h1; rwa [List.take_of_length_le (by omega)] at this)]
      simp [toB_data]
    · rw [pieces_hit d s i h1 h2 h3, ih _ (by rw [ByteArray.size_extract]; omega)]
      have e := byteAt_list s i h1
      rw [h2] at e
      rw [e, cutL_at d _ _ (byteAt_take d s i (by omega) h3), List.map_cons, ← extract_head, ← extract_tail, toB_data]
theorem pieces_of (d : UInt8) (s : ByteArray) : pieces d s = (cutL d s.data.toList).map toB := pieces_cut d _ s (Nat.le_refl _)
/-- No d in it. -/
def NoB (d : UInt8) (p : ByteArray) : Prop := ∀ c ∈ p.data.toList, c ≠ d
theorem pieces_no (d : UInt8) (s : ByteArray) : ∀ p ∈ pieces d s, NoB d p := by
  intro p hp
  rw [pieces_of] at hp
  obtain ⟨x, hx, rfl⟩ := List.mem_map.1 hp
  have := cutL_ns d _ x hx
  unfold NoB
  rw [data_toB]
  exact this
theorem pieces_app (d : UInt8) (a b : ByteArray) : pieces d (a ++ ⟨#[d]⟩ ++ b) = pieces d a ++ pieces d b := by
  rw [pieces_of, pieces_of d a, pieces_of d b, ← List.map_append, ← cutL_app]
  congr 2
  simp
theorem joinB_pieces (d : UInt8) (s : ByteArray) : joinB ⟨#[d]⟩ (pieces d s) = s := by
  have H : ∀ l : List UInt8, Lib.join (cutL d l) [d] = l := by
    intro l
    induction l with
    | nil => rfl
    | cons c r ih =>
      unfold cutL
      cases h : cutL d r with
      | nil => exact absurd h (cutL_ne d r)
      | cons x t =>
        rw [h] at ih
        by_cases hc : c = d
        · rw [if_pos hc]
          show Lib.join ([] :: x :: t) [d] = _
          rw [Lib.join_cons] at ih ⊢
          rw [← ih, hc]
          simp [Lib.joinTail]
        · rw [if_neg hc]
          show Lib.join ((c :: x) :: t) [d] = _
          rw [Lib.join_cons] at ih ⊢
          rw [← ih]; rfl
  refine bytes_ext ?_
  unfold joinB
  rw [pieces_of, List.map_map]
  have h3 : ((fun x : ByteArray => x.data.toList) ∘ toB) = id := by
    funext l
    simp [toB]
  rw [h3, List.map_id]
  exact H _
theorem pieces_join (d : UInt8) (L : List ByteArray) (h0 : L ≠ []) (h : ∀ p ∈ L, NoB d p) : pieces d (joinB ⟨#[d]⟩ L) = L := by
  induction L with
  | nil => exact absurd rfl h0
  | cons x t ih =>
    cases t with
    | nil =>
      rw [joinB_one]
      refine pieces_none d x fun j hj => ?_
      exact h x (by simp) _ (byteAt_mem x j hj)
    | cons y t =>
      have e : joinB ⟨#[d]⟩ (x :: y :: t) = x ++ ⟨#[d]⟩ ++ joinB ⟨#[d]⟩ (y :: t) := by
        have := joinB_app ⟨#[d]⟩ [x] (y :: t) (by simp) (by simp)
        rw [joinB_one] at this
        exact this
      rw [e, pieces_app, ih (by simp) fun z hz => h z (by simp [hz]), pieces_none d x fun j hj => h x (by simp) _ (byteAt_mem x j hj)]
      rfl
theorem sumS_pieces (d : UInt8) (s : ByteArray) : sumS (pieces d s) = s.size + 1 := by
  rw [← joinB_size d _ (pieces_ne d s), joinB_pieces]
theorem size_of_sum (L : List ByteArray) (p : ByteArray) (h : p ∈ L) : p.size + 1 ≤ sumS L := by
  induction L with
  | nil => simp at h
  | cons x r ih =>
    rcases List.mem_cons.1 h with rfl | h
    · simp only [sumS]; omega
    · simp only [sumS]; have := ih h; omega
theorem pieces_size (d : UInt8) (s : ByteArray) : ∀ p ∈ pieces d s, p.size ≤ s.size := by
  intro p hp
  have := size_of_sum _ p hp
  rw [sumS_pieces] at this
  omega

/-- How far a loop over the bytes has come: out holds what is done. -/
def SplitAt (d : UInt8) (s : ByteArray) (i f : Nat) (out : List ByteArray) : Prop :=
  (i ≤ s.size ∧ f ≤ i ∧ (∀ j, f ≤ j → j < i → byteAt s j ≠ d) ∧ pieces d s = out ++ pieces d (s.extract f s.size)) ∨ (i = s.size + 1 ∧ pieces d s = out)
theorem SplitAt.len {d : UInt8} {s : ByteArray} {i f : Nat} {out : List ByteArray} (h : SplitAt d s i f out) : out.length ≤ s.size + 1 := by
  have hl := pieces_le d s
  rcases h with ⟨_, _, _, h⟩ | ⟨_, h⟩
  · rw [h, List.length_append] at hl; omega
  · rw [← h]; exact hl
theorem SplitAt.start (d : UInt8) (s : ByteArray) : SplitAt d s 0 0 [] :=
  .inl ⟨Nat.zero_le _, Nat.le_refl _, fun j _ h => by omega, by rw [List.nil_append, ByteArray.extract_zero_size]⟩
theorem SplitAt.skip {d : UInt8} {s : ByteArray} {i f : Nat} {out : List ByteArray} (h : SplitAt d s i f out) (hi : i < s.size) (hb : byteAt s i ≠ d) : SplitAt d s (i + 1) f out := by
  rcases h with ⟨h1, h2, h3, h4⟩ | ⟨h1, _⟩
  · refine .inl ⟨by omega, by omega, fun j hj hj2 => ?_, h4⟩
    by_cases e : j = i
    · rw [e]; exact hb
    · exact h3 j hj (by omega)
  · omega
theorem SplitAt.cut {d : UInt8} {s : ByteArray} {i f : Nat} {out : List ByteArray} (h : SplitAt d s i f out) (hi : i < s.size) (hb : byteAt s i = d) : f ≤ i ∧ SplitAt d s (i + 1) (i + 1) (out ++ [s.extract f i]) := by
  rcases h with ⟨h1, h2, h3, h4⟩ | ⟨h1, _⟩
  · refine ⟨h2, .inl ⟨by omega, Nat.le_refl _, fun j hj hj2 => by omega, ?_⟩⟩
    rw [h4, pieces_from d s f i h2 hi hb h3, List.append_assoc]; rfl
  · omega
theorem SplitAt.last {d : UInt8} {s : ByteArray} {f : Nat} {out : List ByteArray} (h : SplitAt d s s.size f out) : f ≤ s.size ∧ pieces d s = out ++ [s.extract f s.size] := by
  rcases h with ⟨h1, h2, h3, h4⟩ | ⟨h1, _⟩
  · exact ⟨h2, by rw [h4, pieces_last d s f h3]⟩
  · omega
end Go.Proofs.YthdopcdllggdaaaGreatDoor
namespace Go.Proofs.YthdopcdllggdaaaGreatDoor
open Go.RowKit

/-- The bytes of s lie in block b. -/
def LieB (w : World) (b : Nat) (s : ByteArray) : Prop := ∀ j, j < s.size → w.cell? ⟨b, j, none⟩ = some (.int .u8 ((byteAt s j).toNat : Int))
theorem LieB.stays {w w' : World} {b : Nat} {s : ByteArray} (h : LieB w b s) (hg : w.grownBy w' none) : LieB w' b s := fun j hj => hg.cell (h j hj) (by simp)
theorem LieB.grown {w w' : World} {b : Nat} {s : ByteArray} {r : Option Nat} (h : LieB w b s) (hg : w.grownBy w' r) (hr : r ≠ some b) : LieB w' b s := fun j hj => hg.cell (h j hj) (fun e => hr e.symm)

theorem conv_bytes {w : World} {ops : Array Oper} {rest : List Oper} {o : Oper} {a : Act} {Q : Exit → Act → World → Prop} (hgd : o.guard = none) (x : Operand)
    (ho : o.op = .convert 9 22 x) (s : ByteArray) (hx : a.eval x = .string s)
    (h : ∀ cap w', LieB w' w.heap.size s → w.grownBy w' none → wpList Tryz.prog ops Q rest (a.put o.dst (.slice (some ⟨w.heap.size, 0, none⟩) s.size cap)) w') : wpList Tryz.prog ops Q (o :: rest) a w := by
  refine wpList_plain hgd fun K hK => ?_
  have hrun := run_bytes_of_string (P := Tryz.prog) w 9 22 5 s Tryz.underlying9 Tryz.underlying22 Tryz.underlying5
  unfold Oper.wp
  simp [execOp, ho, hx, hrun, Result.andThen]
  refine hK _ _ (h _ _ ?_ ?_)
  · intro j hj
    have e : (w.drew.alloc (.cells (bytesRow s (grownCap w s.size 0 5)) 5 ((bytesRow s (grownCap w s.size 0 5)).size, (bytesRow s (grownCap w s.size 0 5)).size + 1))).heap[w.heap.size]? = some (.cells (bytesRow s (grownCap w s.size 0 5)) 5 ((bytesRow s (grownCap w s.size 0 5)).size, (bytesRow s (grownCap w s.size 0 5)).size + 1)) := by
      show (w.heap.push _)[w.heap.size]? = _
      simp
    rw [← World.alloc_eq] at *
    simp only [World.cell?]
    have e2 : (bytesRow s (grownCap w s.size 0 5))[j]? = some (.int .u8 ((byteAt s j).toNat : Int)) := by
      unfold bytesRow
      rw [Array.getElem?_append_left (by simpa using hj), Array.getElem?_map, Array.getElem?_eq_getElem (by simpa using hj), byteAt_eq s j hj]
      rfl
    first
      | (rw [e]; exact e2)
      | (simp [e2])
  · exact ⟨rfl, rfl, rfl, by first | (show w.heap.size ≤ (w.heap.push _).size; simp) | simp, fun k hk _ => by
      first
        | (show (w.heap.push _)[k]? = _; rw [Array.getElem?_push, if_neg (by omega)])
        | simp [Array.getElem?_push, Nat.ne_of_lt hk]⟩
end Go.Proofs.YthdopcdllggdaaaGreatDoor
namespace Go.Proofs.YthdopcdllggdaaaGreatDoor
open Go.RowKit

def isDig (c : UInt8) : Bool := decide (48 ≤ c.toNat ∧ c.toNat ≤ 57)
/-- The first k bytes are such. -/
def allTo (p : UInt8 → Bool) (s : ByteArray) : Nat → Bool
  | 0 => true
  | k + 1 => allTo p s k && p (byteAt s k)
theorem allTo_not (p : UInt8 → Bool) (s : ByteArray) (n m : Nat) (h : n < m) (hb : p (byteAt s n) = false) : allTo p s m = false := by
  induction m with
  | zero => omega
  | succ m ih =>
    unfold allTo
    by_cases e : n = m
    · rw [← e, hb, Bool.and_false]
    · rw [ih (by omega), Bool.false_and]
theorem allTo_at (p : UInt8 → Bool) (s : ByteArray) (m : Nat) (h : allTo p s m = true) (n : Nat) (hn : n < m) : p (byteAt s n) = true := by
  cases hb : p (byteAt s n) with
  | true => rfl
  | false => rw [allTo_not p s n m hn hb] at h; exact absurd h (by simp)
/-- Digits alone, one at least. -/
def allDig (s : ByteArray) : Bool := allTo isDig s s.size && !decide (s = ⟨#[]⟩)
/-- A number without noughts ahead. -/
def isNum (s : ByteArray) : Bool := allDig s && (decide (s = ⟨#[48]⟩) || !(byteAt s 0 == 48))
def markB (c : UInt8) : Bool := decide ((48 ≤ c.toNat ∧ c.toNat ≤ 57) ∨ (97 ≤ c.toNat ∧ c.toNat ≤ 122) ∨ (65 ≤ c.toNat ∧ c.toNat ≤ 90) ∨ c.toNat = 45)

theorem size_zero (s : ByteArray) (h : s.size = 0) : s = ⟨#[]⟩ := ByteArray.size_eq_zero_iff.1 h
theorem size_pos (s : ByteArray) (h : ¬ s = ⟨#[]⟩) : 0 < s.size := by
  rcases Nat.eq_zero_or_pos s.size with h0 | h0
  · exact absurd (size_zero s h0) h
  · exact h0

set_option maxRecDepth 1000000
set_option maxHeartbeats 1000000 in
theorem markB_any (c : UInt8) (w : World) :
    Calls Tryz.prog 87 #[.int .u8 (c.toNat : Int)] w fun e w' => e = .returned (.bool (markB c)) ∧ w' = w := by
  have hc := c.toNat_lt
  by_cases h1 : 48 ≤ c.toNat ∧ c.toNat ≤ 57
  · have e : Hid (markB c = true) := by show _ = _; simp [markB, h1]
    obtain ⟨a1, a2⟩ := h1
    have b1 : 48 ≤ (c.toNat : Int) := by omega
    have b2 : (c.toNat : Int) ≤ 57 := by omega
    clear a1 a2
    go_enter Tryz.func87, Tryz.ntmps87
    go_wp2
    go_ret
    exact ⟨by rw [e.out]; rfl, rfl⟩
  · have r1 : (c.toNat : Int) < 48 ∨ (48 ≤ (c.toNat : Int) ∧ 57 < (c.toNat : Int)) := by omega
    by_cases h2 : 97 ≤ c.toNat ∧ c.toNat ≤ 122
    · have e : Hid (markB c = true) := by show _ = _; simp [markB, h2]
      obtain ⟨a1, a2⟩ := h2
      have b1 : 97 ≤ (c.toNat : Int) := by omega
      have b2 : (c.toNat : Int) ≤ 122 := by omega
      have b3 : 48 ≤ (c.toNat : Int) := by omega
      have b4 : decide ((c.toNat : Int) ≤ 57) = false := by simp; omega
      clear a1 a2 r1 h1
      go_enter Tryz.func87, Tryz.ntmps87
      go_wp2
      go_ret
      exact ⟨by rw [e.out]; rfl, rfl⟩
    · by_cases h3 : 65 ≤ c.toNat ∧ c.toNat ≤ 90
      · have e : Hid (markB c = true) := by show _ = _; simp [markB, h3]
        obtain ⟨a1, a2⟩ := h3
        have b1 : 65 ≤ (c.toNat : Int) := by omega
        have b2 : (c.toNat : Int) ≤ 90 := by omega
        have b3 : 48 ≤ (c.toNat : Int) := by omega
        have b4 : decide ((c.toNat : Int) ≤ 57) = false := by simp; omega
        have b5 : decide (97 ≤ (c.toNat : Int)) = false := by simp; omega
        clear a1 a2 r1 h1 h2
        go_enter Tryz.func87, Tryz.ntmps87
        go_wp2
        go_ret
        exact ⟨by rw [e.out]; rfl, rfl⟩
      · by_cases h4 : c.toNat = 45
        · have e : Hid (markB c = true) := by show _ = _; simp [markB, h4]
          have b0 : (c.toNat : Int) = 45 := by omega
          rw [b0]
          clear r1 h1 h2 h3 h4 b0
          go_enter Tryz.func87, Tryz.ntmps87
          go_wp2
          go_ret
          exact ⟨by rw [e.out]; rfl, rfl⟩
        · have e : Hid (markB c = false) := by show _ = _; simp only [markB, decide_eq_false_iff_not]; omega
          have hn := beq_no c.toNat 45 (by omega)
          have hn2 : ¬ (c.toNat : Int) = 45 := by omega
          rcases r1 with r1 | ⟨r1, r2⟩
          · have b1 : decide (48 ≤ (c.toNat : Int)) = false := by simp; omega
            have b2 : decide (97 ≤ (c.toNat : Int)) = false := by simp; omega
            have b3 : decide (65 ≤ (c.toNat : Int)) = false := by simp; omega
            clear r1 h1 h2 h3 h4
            go_enter Tryz.func87, Tryz.ntmps87
            go_wp2
            go_ret
            exact ⟨by rw [e.out]; rfl, rfl⟩
          · have b1 : decide ((c.toNat : Int) ≤ 57) = false := by simp; omega
            have k1 : (c.toNat : Int) < 65 ∨ (65 ≤ (c.toNat : Int) ∧ 90 < (c.toNat : Int) ∧ (c.toNat : Int) < 97) ∨ (122 < (c.toNat : Int)) := by omega
            rcases k1 with k1 | ⟨k1, k2, k3⟩ | k1
            · have b2 : decide (97 ≤ (c.toNat : Int)) = false := by simp; omega
              have b3 : decide (65 ≤ (c.toNat : Int)) = false := by simp; omega
              clear r2 k1 h1 h2 h3 h4
              go_enter Tryz.func87, Tryz.ntmps87
              go_wp2
              go_ret
              exact ⟨by rw [e.out]; rfl, rfl⟩
            · have b2 : decide (97 ≤ (c.toNat : Int)) = false := by simp; omega
              have b3 : decide ((c.toNat : Int) ≤ 90) = false := by simp; omega
              clear r2 k2 k3 h1 h2 h3 h4
              go_enter Tryz.func87, Tryz.ntmps87
              go_wp2
              go_ret
              exact ⟨by rw [e.out]; rfl, rfl⟩
            · have b2 : 97 ≤ (c.toNat : Int) := by omega
              have b3 : decide ((c.toNat : Int) ≤ 122) = false := by simp; omega
              have b4 : 65 ≤ (c.toNat : Int) := by omega
              have b5 : decide ((c.toNat : Int) ≤ 90) = false := by simp; omega
              clear r2 k1 h1 h2 h3 h4
              go_enter Tryz.func87, Tryz.ntmps87
              go_wp2
              go_ret
              exact ⟨by rw [e.out]; rfl, rfl⟩

set_option maxRecDepth 1000000
set_option maxHeartbeats 1000000 in
theorem allDig_any (s : ByteArray) (hs : s.size ≤ 9223372036854775807) (w : World) :
    Calls Tryz.prog 86 #[.string s] w fun e w' => e = .returned (.bool (allDig s)) ∧ w.grownBy w' none := by
  go_enter Tryz.func86, Tryz.ntmps86
  go_wp2_with ((with_reducible refine conv_bytes (o := ⟨some 6, _, _, _, _, _⟩) rfl _ rfl s ?_ ?_); go_must (exact rfl); (intro cap w1 hl hg); have HL := Lib.hid hl; have HG := Lib.hid hg; clear hl hg)
  go_loopw [2, 4, 8] (fun r c i wr => ∃ k : Nat, k ≤ s.size ∧ i = .int .i64 k ∧ allTo isDig s k = true ∧ r = .bool false ∧ w1 = wr) (fun _ _ i _ => s.size - (intOf i).toNat)
  case atStart => exact ⟨0, Nat.zero_le _, rfl, rfl, rfl, rfl⟩
  case round =>
    obtain ⟨k, hk, rfl, ho, rfl, rfl⟩ := hrel
    by_cases hlt : k < s.size
    · have hcell := HL.out k hlt
      obtain ⟨c, hc⟩ : ∃ c, byteAt s k = c := ⟨_, rfl⟩
      rw [hc] at hcell
      have HO := Lib.hid ho
      have HC := Lib.hid hc
      have hc2 := c.toNat_lt
      clear ho hc
      by_cases hb : isDig c = true
      · have HB := Lib.hid hb
        simp only [isDig, decide_eq_true_eq] at hb
        have b1 : decide ((c.toNat : Int) < 48) = false := by simp; omega
        have b2 : decide (57 < (c.toNat : Int)) = false := by simp; omega
        clear hb
        go_wp2
        go_roundw
        case rel => exact ⟨k + 1, by omega, by go_num, by rw [allTo, HO.out, HC.out, HB.out]; rfl, rfl, trivial⟩
        case measure => simp [intOf]; omega
      · have hb' : isDig c = false := by simpa using hb
        have e : Hid (allDig s = false) := by
          show _ = _
          unfold allDig
          rw [allTo_not isDig s k s.size hlt (by rw [HC.out]; exact hb'), Bool.false_and]
        have h3 : (c.toNat : Int) < 48 ∨ (decide ((c.toNat : Int) < 48) = false ∧ 57 < (c.toNat : Int)) := by
          simp only [isDig, decide_eq_true_eq] at hb
          by_cases h : (c.toNat : Int) < 48
          · exact .inl h
          · exact .inr ⟨decide_eq_false h, by omega⟩
        clear hb hb'
        rcases h3 with h3 | ⟨h3, h4⟩
        all_goals
          go_wp2
          go_ret
          exact ⟨by rw [e.out]; rfl, HG.out⟩
    · have hkm : k = s.size := by omega
      subst hkm
      clear hlt hk
      by_cases h0 : s = ⟨#[]⟩
      · have e : Hid (allDig s = false) := by show _ = _; unfold allDig; simp [h0]
        subst h0
        clear ho
        go_wp2
        go_ret
        exact ⟨by rw [e.out]; rfl, HG.out⟩
      · have e : Hid (allDig s = true) := by show _ = _; unfold allDig; rw [ho]; simp [h0]
        have c1 := empty_no s h0
        have d1 := ne_list s [] h0
        clear ho h0
        go_wp2
        go_ret
        exact ⟨by rw [e.out]; rfl, HG.out⟩
end Go.Proofs.YthdopcdllggdaaaGreatDoor
namespace Go.Proofs.YthdopcdllggdaaaGreatDoor
open Go.RowKit

/-- What the first k digits come to. -/
def numTo (s : ByteArray) : Nat → Nat
  | 0 => 0
  | k + 1 => 10 * numTo s k + ((byteAt s k).toNat - 48)
def num (s : ByteArray) : Nat := numTo s s.size
theorem numTo_lt (s : ByteArray) (k : Nat) (h : allTo isDig s k = true) : numTo s k < 10 ^ k := by
  induction k with
  | zero => simp [numTo]
  | succ k ih =>
    rw [allTo, Bool.and_eq_true] at h
    have h1 := ih h.1
    have h2 := h.2
    simp only [isDig, decide_eq_true_eq] at h2
    rw [numTo, Nat.pow_succ]
    omega
/-- A mark that may stand there. -/
def okMark (m : ByteArray) : Bool := !decide (m = ⟨#[]⟩) && decide (m.size ≤ 16) && !(allDig m && !isNum m) && allTo markB m m.size
def okMarks (L : List ByteArray) : Bool := L.all okMark && decide (L.length ≤ 5)
theorem allDig_pos (s : ByteArray) (h : allDig s = true) : ¬ s = ⟨#[]⟩ := by
  unfold allDig at h
  rw [Bool.and_eq_true] at h
  simpa using h.2
theorem one_nought (s : ByteArray) (h1 : s.size = 1) (h : byteAt s 0 = 48) : s = ⟨#[48]⟩ := by
  refine bytes_ext ?_
  have hl := data_len s
  have e := byteAt_list s 0 (by omega)
  rw [List.take_zero, List.nil_append, List.drop_eq_nil_of_le (by omega), h] at e
  rw [e]

set_option maxRecDepth 1000000
set_option maxHeartbeats 1000000 in
theorem isNum_any (s : ByteArray) (hs : s.size ≤ 9223372036854775807) (w : World) :
    Calls Tryz.prog 73 #[.string s] w fun e w' => e = .returned (.bool (isNum s)) ∧ w.grownBy w' none := by
  cases hd : allDig s with
  | false =>
    have e : Hid (isNum s = false) := by show _ = _; unfold isNum; rw [hd, Bool.false_and]
    have HD := Lib.hid hd
    clear hd
    go_enter Tryz.func73, Tryz.ntmps73
    go_wp2_with fail
    (with_reducible refine (allDig_any s hs _).mono ?_)
    rintro ee w1 ⟨rfl, hg⟩
    dsimp only
    rw [HD.out]
    have HG := Lib.hid hg
    clear hg
    go_wp2
    go_ret
    exact ⟨by rw [e.out]; rfl, HG.out⟩
  | true =>
    have h0 := allDig_pos s hd
    have hpos := size_pos s h0
    have HD := Lib.hid hd
    by_cases h1 : s = ⟨#[48]⟩
    · have e : Hid (isNum s = true) := by show _ = _; unfold isNum; rw [hd]; simp [h1]
      subst h1
      clear hd h0 hpos
      go_enter Tryz.func73, Tryz.ntmps73
      go_wp2_with fail
      (with_reducible refine (allDig_any _ hs _).mono ?_)
      rintro ee w1 ⟨rfl, hg⟩
      dsimp only
      rw [HD.out]
      have HG := Lib.hid hg
      clear hg
      go_wp2
      go_ret
      exact ⟨by rw [e.out]; rfl, HG.out⟩
    · obtain ⟨c, hc⟩ : ∃ c, byteAt s 0 = c := ⟨_, rfl⟩
      have hc2 : s[0]'hpos = c := by rw [← byteAt_eq]; exact hc
      have c1 := nb_list s [48] h1
      have d1 := ne_list s [48] h1
      by_cases hb : c = 48
      · have e : Hid (isNum s = false) := by show _ = _; unfold isNum; rw [hd, hc, hb]; simp [h1]
        subst hb
        clear hd h0 h1 hc
        go_enter Tryz.func73, Tryz.ntmps73
        go_wp2_with fail
        (with_reducible refine (allDig_any _ hs _).mono ?_)
        rintro ee w1 ⟨rfl, hg⟩
        dsimp only
        rw [HD.out]
        have HG := Lib.hid hg
        clear hg
        go_wp2
        go_ret
        exact ⟨by rw [e.out]; rfl, HG.out⟩
      · have e : Hid (isNum s = true) := by show _ = _; unfold isNum; rw [hd, hc]; simp [hb]
        have hb' : ¬ (c.toNat : Int) = 48 := by
          intro e; apply hb; apply UInt8.toNat_inj.1; show c.toNat = 48; omega
        have b1 := beq_no c.toNat 48 hb'
        have b2 : ((c.toNat : Int) != 48) = true := by simp [hb']
        clear hd h0 h1 hc hb
        go_enter Tryz.func73, Tryz.ntmps73
        go_wp2_with fail
        (with_reducible refine (allDig_any _ hs _).mono ?_)
        rintro ee w1 ⟨rfl, hg⟩
        dsimp only
        rw [HD.out]
        have HG := Lib.hid hg
        clear hg
        go_wp2
        go_ret
        exact ⟨by rw [e.out]; rfl, HG.out⟩

set_option maxRecDepth 1000000
set_option maxHeartbeats 1000000 in
theorem refDig_any (s : ByteArray) (hs : s.size ≤ 9223372036854775807) (w : World) :
    Calls Tryz.prog 37 #[.string s] w fun e w' => e = .returned (.bool (allDig s)) ∧ w' = w := by
  go_enter Tryz.func37, Tryz.ntmps37
  go_wp2
  go_loopw [3] (fun i wr => ∃ k : Nat, k ≤ s.size ∧ i = .int .i64 k ∧ allTo isDig s k = true ∧ wr = w) (fun i _ => s.size - (intOf i).toNat)
  case atStart => exact ⟨0, Nat.zero_le _, rfl, rfl, rfl⟩
  case round =>
    obtain ⟨k, hk, rfl, ho, rfl⟩ := hrel
    by_cases hlt : k < s.size
    · obtain ⟨c, hc⟩ : ∃ c, byteAt s k = c := ⟨_, rfl⟩
      have hc2 : s[k]'hlt = c := by rw [← byteAt_eq]; exact hc
      have HO := Lib.hid ho
      have HC := Lib.hid hc
      have hc3 := c.toNat_lt
      clear ho hc
      by_cases hb : isDig c = true
      · have HB := Lib.hid hb
        simp only [isDig, decide_eq_true_eq] at hb
        have b1 : decide ((c.toNat : Int) < 48) = false := by simp; omega
        have b2 : decide (57 < (c.toNat : Int)) = false := by simp; omega
        clear hb
        go_wp2
        go_roundw
        case rel => exact ⟨k + 1, by omega, by go_num, by rw [allTo, HO.out, HC.out, HB.out]; rfl, trivial⟩
        case measure => simp [intOf]; omega
      · have hb' : isDig c = false := by simpa using hb
        have e : Hid (allDig s = false) := by
          show _ = _
          unfold allDig
          rw [allTo_not isDig s k s.size hlt (by rw [HC.out]; exact hb'), Bool.false_and]
        have h3 : (c.toNat : Int) < 48 ∨ (decide ((c.toNat : Int) < 48) = false ∧ 57 < (c.toNat : Int)) := by
          simp only [isDig, decide_eq_true_eq] at hb
          by_cases h : (c.toNat : Int) < 48
          · exact .inl h
          · exact .inr ⟨decide_eq_false h, by omega⟩
        clear hb hb'
        rcases h3 with h3 | ⟨h3, h4⟩
        all_goals
          go_wp2
          go_ret
          exact ⟨by rw [e.out]; rfl, rfl⟩
    · have hkm : k = s.size := by omega
      subst hkm
      clear hlt hk
      by_cases h0 : s = ⟨#[]⟩
      · have e : Hid (allDig s = false) := by show _ = _; unfold allDig; simp [h0]
        subst h0
        clear ho
        go_wp2
        go_ret
        exact ⟨by rw [e.out]; rfl, rfl⟩
      · have e : Hid (allDig s = true) := by show _ = _; unfold allDig; rw [ho]; simp [h0]
        have c1 := empty_no s h0
        have d1 := ne_list s [] h0
        clear ho h0
        go_wp2
        go_ret
        exact ⟨by rw [e.out]; rfl, rfl⟩

theorem isNum_iff (s : ByteArray) (h : allDig s = true) : isNum s = !(decide (1 < s.size) && (byteAt s 0 == 48)) := by
  have hpos := size_pos s (allDig_pos s h)
  unfold isNum
  rw [h, Bool.true_and]
  by_cases hb : byteAt s 0 = 48
  · have hbb : (byteAt s 0 == 48) = true := by rw [hb]; rfl
    rw [hbb]
    by_cases h1 : 1 < s.size
    · have hne : ¬ s = ⟨#[48]⟩ := by
        intro e
        rw [e] at h1
        exact absurd h1 (by decide)
      simp [h1, hne]
    · have := one_nought s (by omega) hb
      simp [this]
      decide
  · have hbb : (byteAt s 0 == 48) = false := by simpa using hb
    rw [hbb]
    simp
/-- What the reference makes of a number. -/
def refNum (s : ByteArray) (most : Int) : Int × Bool := if isNum s = true ∧ s.size ≤ 10 then ((num s : Int), decide ((num s : Int) ≤ most)) else (0, false)
def NumRet (w : World) (R : Int × Bool) (e : Ending) (w' : World) : Prop := e = .returned (.tuple #[.int .i64 R.1, .bool R.2]) ∧ w' = w

set_option maxRecDepth 1000000
set_option maxHeartbeats 2000000 in
theorem refNum_any (s : ByteArray) (most : Int) (hs : s.size ≤ 9223372036854775807) (w : World) :
    Calls Tryz.prog 18 #[.string s, .int .i64 most] w (NumRet w (refNum s most)) := by
  cases hd : allDig s with
  | false =>
    have e : Hid (refNum s most = (0, false)) := by show _ = _; unfold refNum isNum; rw [hd, Bool.false_and, if_neg (by simp)]
    have HD := Lib.hid hd
    clear hd
    go_enter Tryz.func18, Tryz.ntmps18
    go_wp2_with fail
    (with_reducible refine (refDig_any s hs _).mono ?_)
    rintro ee w' ⟨rfl, hw'⟩
    rw [hw', HD.out]
    clear hw' w'
    dsimp only
    go_wp2
    go_ret2
    exact ⟨by rw [e.out]; rfl, rfl⟩
  | true =>
    have hpos := size_pos s (allDig_pos s hd)
    have hni := isNum_iff s hd
    have HD := Lib.hid hd
    obtain ⟨c, hc⟩ : ∃ c, byteAt s 0 = c := ⟨_, rfl⟩
    have hc2 : s[0]'hpos = c := by rw [← byteAt_eq]; exact hc
    have h3 : (1 < s.size ∧ c = 48) ∨ (1 < s.size ∧ ¬ c = 48) ∨ s.size = 1 := by
      by_cases h1 : 1 < s.size
      · by_cases h2 : c = 48
        · exact .inl ⟨h1, h2⟩
        · exact .inr (.inl ⟨h1, h2⟩)
      · exact .inr (.inr (by omega))
    have loop : allTo isDig s s.size = true ∧ (isNum s = true → s.size ≤ 10 → refNum s most = ((num s : Int), decide ((num s : Int) ≤ most))) := by
      unfold allDig at hd
      rw [Bool.and_eq_true] at hd
      exact ⟨hd.1, fun a b => by unfold refNum; rw [if_pos ⟨a, b⟩]⟩
    have HLP := Lib.hid loop
    rcases h3 with ⟨h1, h2⟩ | h3
    · have e : Hid (refNum s most = (0, false)) := by show _ = _; unfold refNum; rw [hni, hc, h2, decide_eq_true h1, if_neg (by simp)]
      subst h2
      have b1 : 1 < (s.size : Int) := by omega
      clear hd hni hc h1 loop
      go_enter Tryz.func18, Tryz.ntmps18
      go_wp2_with fail
      (with_reducible refine (refDig_any s hs _).mono ?_)
      rintro ee w' ⟨rfl, hw'⟩
      rw [hw', HD.out]
      clear hw' w'
      dsimp only
      go_wp2
      go_ret2
      exact ⟨by rw [e.out]; rfl, rfl⟩
    · have hnum : isNum s = true := by
        rw [hni, hc]
        rcases h3 with ⟨h1, h2⟩ | h1
        · simp [h2]
        · simp [h1]
      have HNU := Lib.hid hnum
      have h4 : (1 < (s.size : Int) ∧ ((c.toNat : Int) == 48) = false ∧ ¬ (c.toNat : Int) = 48) ∨ decide (1 < (s.size : Int)) = false := by
        rcases h3 with ⟨h1, h2⟩ | h1
        · have hb' : ¬ (c.toNat : Int) = 48 := by
            intro e; apply h2; apply UInt8.toNat_inj.1; show c.toNat = 48; omega
          exact .inl ⟨by omega, beq_no c.toNat 48 hb', hb'⟩
        · exact .inr (by simp; omega)
      clear hd hni hc h3 loop hnum
      by_cases h10 : 10 < s.size
      · have e : Hid (refNum s most = (0, false)) := by show _ = _; unfold refNum; rw [if_neg (by omega)]
        have b2 : 10 < (s.size : Int) := by omega
        clear h10
        rcases h4 with ⟨a1, a2, a3⟩ | a1
        all_goals
          go_enter Tryz.func18, Tryz.ntmps18
          go_wp2_with fail
          (with_reducible refine (refDig_any s hs _).mono ?_)
          rintro ee w' ⟨rfl, hw'⟩
          rw [hw', HD.out]
          clear hw' w'
          dsimp only
          go_wp2
          go_ret2
          exact ⟨by rw [e.out]; rfl, rfl⟩
      · have e := Lib.hid (HLP.out.2 HNU.out (by omega))
        have b2 : decide (10 < (s.size : Int)) = false := by simp; omega
        have hs10 : s.size ≤ 10 := by omega
        clear h10
        rcases h4 with ⟨a1, a2, a3⟩ | a1
        all_goals
          go_enter Tryz.func18, Tryz.ntmps18
          go_wp2_with fail
          (with_reducible refine (refDig_any s hs _).mono ?_)
          rintro ee w' ⟨rfl, hw'⟩
          rw [hw', HD.out]
          clear hw' w'
          dsimp only
          go_wp2
          go_loopw [6, 7] (fun n i wr => ∃ k : Nat, k ≤ s.size ∧ i = .int .i64 k ∧ n = .int .i64 (numTo s k : Int) ∧ wr = w) (fun _ i _ => s.size - (intOf i).toNat)
          case atStart => exact ⟨0, Nat.zero_le _, rfl, rfl, rfl⟩
          case round =>
            obtain ⟨k, hk, rfl, rfl, rfl⟩ := hrel
            by_cases hlt : k < s.size
            · obtain ⟨d, hd⟩ : ∃ d, byteAt s k = d := ⟨_, rfl⟩
              have hd2 : s[k]'hlt = d := by rw [← byteAt_eq]; exact hd
              have hat := allTo_at isDig s s.size HLP.out.1 k hlt
              rw [hd] at hat
              simp only [isDig, decide_eq_true_eq] at hat
              obtain ⟨t1, t2⟩ := hat
              have u1 : 0 ≤ (d.toNat : Int) - 48 := by omega
              have u2 : (d.toNat : Int) - 48 ≤ 9 := by omega
              have hpre : allTo isDig s k = true := by
                have h := HLP.out.1
                clear HLP HD HNU e
                cases hh : allTo isDig s k with
                | true => rfl
                | false =>
                  have : ∀ m, k ≤ m → allTo isDig s m = false := by
                    intro m hm
                    induction m with
                    | zero => have : k = 0 := by omega
                              subst this; exact hh
                    | succ m ih =>
                      by_cases e : k = m + 1
                      · rw [← e]; exact hh
                      · unfold allTo; rw [ih (by omega), Bool.false_and]
                  rw [this s.size (by omega)] at h
                  exact absurd h (by simp)
              have hlt2 := numTo_lt s k hpre
              have hp10 : (10 : Nat) ^ k ≤ 10 ^ 10 := Nat.pow_le_pow_right (by omega) (by omega)
              have hb : numTo s k ≤ 10000000000 := by omega
              have HN := Lib.hid (show numTo s (k + 1) = 10 * numTo s k + (d.toNat - 48) by rw [numTo, hd])
              obtain ⟨q, hq⟩ : ∃ q, numTo s k = q := ⟨_, rfl⟩
              rw [hq] at HN hb
              rw [hq]
              clear hd hpre hlt2 hp10 hq
              go_wp2
              go_roundw
              case rel => exact ⟨k + 1, by omega, by go_num, by rw [HN.out]; congr 1; omega, trivial⟩
              case measure => simp [intOf]; omega
            · have hkm : k = s.size := by omega
              subst hkm
              clear hlt hk
              go_wp2
              go_ret2
              exact ⟨by rw [e.out]; rfl, rfl⟩
end Go.Proofs.YthdopcdllggdaaaGreatDoor
namespace Go.Proofs.YthdopcdllggdaaaGreatDoor
open Go.RowKit

theorem okMark_no (m : ByteArray) (n : Nat) (hn : n < m.size) (h : markB (byteAt m n) = false) : okMark m = false := by
  unfold okMark
  rw [allTo_not markB m n m.size hn h, Bool.and_false]
/-- The four ways of a byte that is no mark's. -/
theorem markB_cases (c : UInt8) (h : markB c = false) : ((c.toNat : Int) < 48 ∧ ¬ (c.toNat : Int) = 45) ∨ (57 < (c.toNat : Int) ∧ (c.toNat : Int) < 65) ∨ (90 < (c.toNat : Int) ∧ (c.toNat : Int) < 97) ∨ 122 < (c.toNat : Int) := by
  simp only [markB, decide_eq_false_iff_not] at h
  omega
theorem markB_yes (c : UInt8) (h : markB c = true) : (48 ≤ (c.toNat : Int) ∧ (c.toNat : Int) ≤ 57) ∨ (97 ≤ (c.toNat : Int) ∧ (c.toNat : Int) ≤ 122) ∨ (65 ≤ (c.toNat : Int) ∧ (c.toNat : Int) ≤ 90) ∨ (c.toNat : Int) = 45 := by
  simp only [markB, decide_eq_true_eq] at h
  omega

set_option maxRecDepth 1000000
set_option maxHeartbeats 2000000 in
theorem refMark_any (s : ByteArray) (hs : s.size ≤ 9223372036854775807) (w : World) :
    Calls Tryz.prog 17 #[.string s] w fun e w' => e = .returned (.bool (okMark s)) ∧ w' = w := by
  by_cases h0 : s = ⟨#[]⟩
  · have e : Hid (okMark s = false) := by show _ = _; unfold okMark; simp [h0]
    subst h0
    go_enter Tryz.func17, Tryz.ntmps17
    go_wp2
    go_ret
    exact ⟨by rw [e.out]; rfl, rfl⟩
  · have hpos := size_pos s h0
    have b1 : decide ((s.size : Int) < 1) = false := by simp; omega
    by_cases h16 : 16 < s.size
    · have e : Hid (okMark s = false) := by show _ = _; unfold okMark; rw [decide_eq_false (by omega : ¬ s.size ≤ 16)]; simp
      have b2 : 16 < (s.size : Int) := by omega
      clear h0 h16 hpos
      go_enter Tryz.func17, Tryz.ntmps17
      go_wp2
      go_ret
      exact ⟨by rw [e.out]; rfl, rfl⟩
    · have b2 : decide (16 < (s.size : Int)) = false := by simp; omega
      have H0 := Lib.hid h0
      have hok : Hid (allTo markB s s.size = true → okMark s = !(allDig s && !isNum s)) := by
        intro h
        unfold okMark
        rw [h, decide_eq_true (by omega : s.size ≤ 16), decide_eq_false h0]
        simp
      clear h0 h16
      go_enter Tryz.func17, Tryz.ntmps17
      go_wp2
      go_loopw [3, 4] (fun i c wr => ∃ k : Nat, k ≤ s.size ∧ i = .int .i64 k ∧ allTo markB s k = true ∧ wr = w) (fun i _ _ => s.size - (intOf i).toNat)
      case atStart => exact ⟨0, Nat.zero_le _, rfl, rfl, rfl⟩
      case round =>
        obtain ⟨k, hk, rfl, ho, rfl⟩ := hrel
        by_cases hlt : k < s.size
        · obtain ⟨c, hc⟩ : ∃ c, byteAt s k = c := ⟨_, rfl⟩
          have hc2 : s[k]'hlt = c := by rw [← byteAt_eq]; exact hc
          have HO := Lib.hid ho
          have HC := Lib.hid hc
          have hc3 := c.toNat_lt
          clear ho hc
          by_cases hb : markB c = true
          · have HX := Lib.hid (show allTo markB s (k + 1) = true by rw [allTo, HO.out, HC.out, hb]; rfl)
            have hy := markB_yes c hb
            clear hb
            rcases hy with ⟨y1, y2⟩ | ⟨y1, y2⟩ | ⟨y1, y2⟩ | y1
            · have z1 : decide (97 ≤ (c.toNat : Int)) = false := by simp; omega
              have z2 : decide (65 ≤ (c.toNat : Int)) = false := by simp; omega
              go_wp2
              go_roundw
              case rel => exact ⟨k + 1, by omega, by go_num, HX.out, trivial⟩
              case measure => simp [intOf]; omega
            · go_wp2
              go_roundw
              case rel => exact ⟨k + 1, by omega, by go_num, HX.out, trivial⟩
              case measure => simp [intOf]; omega
            · have z1 : decide (97 ≤ (c.toNat : Int)) = false := by simp; omega
              go_wp2
              go_roundw
              case rel => exact ⟨k + 1, by omega, by go_num, HX.out, trivial⟩
              case measure => simp [intOf]; omega
            · have y2 : c = 45 := UInt8.toNat_inj.1 (by show _ = 45; omega)
              subst y2
              clear y1
              go_wp2
              go_roundw
              case rel => exact ⟨k + 1, by omega, by go_num, HX.out, trivial⟩
              case measure => simp [intOf]; omega
          · have hb' : markB c = false := by simpa using hb
            have e := Lib.hid (okMark_no s k hlt (by rw [HC.out]; exact hb'))
            have hy := markB_cases c hb'
            clear hb hb'
            have z0 : (c.toNat : Int) ≠ 45 := by omega
            have z1 := beq_no c.toNat 45 z0
            have z2 : ¬ (c.toNat : Int) = 45 := z0
            clear z0
            rcases hy with ⟨y1, y2⟩ | ⟨y1, y2⟩ | ⟨y1, y2⟩ | y1
            · have t1 : decide (97 ≤ (c.toNat : Int)) = false := by simp; omega
              have t2 : decide (65 ≤ (c.toNat : Int)) = false := by simp; omega
              have t3 : decide (48 ≤ (c.toNat : Int)) = false := by simp; omega
              go_wp2
              go_ret
              exact ⟨by rw [e.out]; rfl, rfl⟩
            · have t1 : decide (97 ≤ (c.toNat : Int)) = false := by simp; omega
              have t2 : decide (65 ≤ (c.toNat : Int)) = false := by simp; omega
              have t3 : 48 ≤ (c.toNat : Int) := by omega
              have t4 : decide ((c.toNat : Int) ≤ 57) = false := by simp; omega
              go_wp2
              go_ret
              exact ⟨by rw [e.out]; rfl, rfl⟩
            · have t1 : decide (97 ≤ (c.toNat : Int)) = false := by simp; omega
              have t2 : 65 ≤ (c.toNat : Int) := by omega
              have t3 : 48 ≤ (c.toNat : Int) := by omega
              have t4 : decide ((c.toNat : Int) ≤ 57) = false := by simp; omega
              have t5 : decide ((c.toNat : Int) ≤ 90) = false := by simp; omega
              go_wp2
              go_ret
              exact ⟨by rw [e.out]; rfl, rfl⟩
            · have t1 : 97 ≤ (c.toNat : Int) := by omega
              have t2 : 65 ≤ (c.toNat : Int) := by omega
              have t3 : 48 ≤ (c.toNat : Int) := by omega
              have t4 : decide ((c.toNat : Int) ≤ 57) = false := by simp; omega
              have t5 : decide ((c.toNat : Int) ≤ 90) = false := by simp; omega
              have t6 : decide ((c.toNat : Int) ≤ 122) = false := by simp; omega
              go_wp2
              go_ret
              exact ⟨by rw [e.out]; rfl, rfl⟩
        · have hkm : k = s.size := by omega
          subst hkm
          have hok2 := hok.out ho
          clear hlt hk ho
          cases hd : allDig s with
          | false =>
            have e : Hid (okMark s = true) := by show _ = _; rw [hok2, hd]; rfl
            have HD := Lib.hid hd
            clear hd hok2
            go_wp2_with fail
            (with_reducible refine (refDig_any s hs _).mono ?_)
            rintro ee w' ⟨rfl, hw'⟩
            rw [hw', HD.out]
            clear hw' w'
            dsimp only
            go_wp2
            go_ret
            exact ⟨by rw [e.out]; rfl, rfl⟩
          | true =>
            have HD := Lib.hid hd
            by_cases h48 : s = ⟨#[48]⟩
            · have e : Hid (okMark s = true) := by
                show _ = _; rw [hok2, hd]; unfold isNum; rw [hd, h48]; decide
              subst h48
              clear hd hok2
              go_wp2_with fail
              (with_reducible refine (refDig_any _ hs _).mono ?_)
              rintro ee w' ⟨rfl, hw'⟩
              rw [hw', HD.out]
              clear hw' w'
              dsimp only
              go_wp2
              go_ret
              exact ⟨by rw [e.out]; rfl, rfl⟩
            · obtain ⟨c, hc⟩ : ∃ c, byteAt s 0 = c := ⟨_, rfl⟩
              have hc2 : s[0]'hpos = c := by rw [← byteAt_eq]; exact hc
              have c1 := nb_list s [48] h48
              have d1 := ne_list s [48] h48
              by_cases hb : c = 48
              · have e : Hid (okMark s = false) := by
                  show _ = _; rw [hok2, hd]; unfold isNum; rw [hd, hc, hb]; simp [h48]
                subst hb
                clear hd hok2 h48 hc
                go_wp2_with fail
                (with_reducible refine (refDig_any _ hs _).mono ?_)
                rintro ee w' ⟨rfl, hw'⟩
                rw [hw', HD.out]
                clear hw' w'
                dsimp only
                go_wp2
                go_ret
                exact ⟨by rw [e.out]; rfl, rfl⟩
              · have e : Hid (okMark s = true) := by
                  show _ = _; rw [hok2, hd]; unfold isNum; rw [hd, hc]; simp [hb]
                have hb' : ¬ (c.toNat : Int) = 48 := by
                  intro e; apply hb; apply UInt8.toNat_inj.1; show c.toNat = 48; omega
                have b1 := beq_no c.toNat 48 hb'
                have b2 : ((c.toNat : Int) != 48) = true := by simp [hb']
                clear hd hok2 h48 hc hb
                go_wp2_with fail
                (with_reducible refine (refDig_any _ hs _).mono ?_)
                rintro ee w' ⟨rfl, hw'⟩
                rw [hw', HD.out]
                clear hw' w'
                dsimp only
                go_wp2
                go_ret
                exact ⟨by rw [e.out]; rfl, rfl⟩

def SplitRet (w : World) (L : List ByteArray) (e : Ending) (w' : World) : Prop := ∃ v', e = .returned v' ∧ OwnsS w' w.heap.size v' L ∧ w.grownBy w' none

set_option maxRecDepth 1000000
set_option maxHeartbeats 1000000 in
theorem refSplit_any (s : ByteArray) (d : UInt8) (hs : s.size ≤ 2000000) (w : World) :
    Calls Tryz.prog 16 #[.string s, .int .u8 (d.toNat : Int)] w (SplitRet w (pieces d s)) := by
  go_enter Tryz.func16, Tryz.ntmps16
  go_wp2
  go_loopw [5, 6, 7] (fun v f i wr => ∃ (k g m cp : Nat) (ad : Option Addr) (out : List ByteArray), k ≤ s.size + 1 ∧ g ≤ s.size + 1 ∧ i = .int .i64 k ∧ f = .int .i64 g ∧ v = .slice ad m cp ∧ m = out.length ∧ cp ≤ 9223372036854775807 ∧ SplitAt d s k g out ∧ OwnsS wr w.heap.size v out ∧ w.grownBy wr none) (fun _ _ i _ => s.size + 1 - (intOf i).toNat)
  case atStart => exact ⟨0, 0, 0, 0, none, [], by omega, by omega, rfl, rfl, rfl, rfl, by omega, SplitAt.start d s, OwnsS.nil _ _, World.grownBy.refl _ _⟩
  case round =>
    obtain ⟨k, g, m, cp, ad, out, hk, hg, rfl, rfl, rfl, hm, hcp, hat, hown, hgw⟩ := hrel
    have hml : m ≤ s.size + 1 := by rw [hm]; exact hat.len
    have HM := Lib.hid hm
    have HAT := Lib.hid hat
    have HO := Lib.hid hown
    have HG := Lib.hid hgw
    clear hm hat hown hgw
    by_cases h1 : k < s.size
    · obtain ⟨c, hc⟩ : ∃ c, byteAt s k = c := ⟨_, rfl⟩
      have hc2 : s[k]'h1 = c := by rw [← byteAt_eq]; exact hc
      have HC := Lib.hid hc
      have hne : ¬ (k : Int) = (s.size : Int) := by omega
      clear hc
      by_cases hb : c = d
      · subst hb
        have hcut := HAT.out.cut h1 HC.out
        have hgk := hcut.1
        have HCUT := Lib.hid hcut.2
        clear hcut
        go_wp2_with (at_builtin; go_must (with_reducible refine app_str (o := ⟨some 31, _, _, _, _, _⟩) rfl _ _ rfl w.heap.size (wr.heap.size + 1) (.slice ad m cp) _ out [s.extract g k] ?_ (HO.out.alloc _) ?_ (part_str wr _ 9) ?_ ?_ ?_); go_must (exact rfl); go_must (exact rfl); go_must ((have := HM.out; simp; omega)); go_must ((have := HG.out.size; rw [alloc_size]; omega)); (intro v2 w2 ho2 hg2); have HO2 := Lib.hid ho2; have HG2 := Lib.hid (HO.out.alloc (.cells #[.string (s.extract g k)] 9) |>.grown (World.grownBy.trans HG.out (World.grownBy_alloc _ _ _)) hg2); clear ho2 hg2)
        go_roundw
        case rel =>
          obtain ⟨ad2, cp2, e1, e2, e3⟩ := HO2.out.form
          refine ⟨k + 1, k + 1, _, cp2, ad2, out ++ [s.extract g k], by omega, by omega, by go_num, by go_num, e1, rfl, e3, HCUT.out, HO2.out, HG2.out⟩
        case measure => simp [intOf]; omega
      · have hb' : ¬ (c.toNat : Int) = (d.toNat : Int) := by
          intro e; apply hb; apply UInt8.toNat_inj.1; omega
        have b1 : ((c.toNat : Int) == (d.toNat : Int)) = false := by simp only [beq_eq_false_iff_ne]; exact hb'
        have b3 : (c.toNat == d.toNat) = false := by simp only [beq_eq_false_iff_ne]; omega
        have b2 : ((k : Int) == (s.size : Int)) = false := by simp; omega
        have HS := Lib.hid (HAT.out.skip h1 (by rw [HC.out]; exact hb))
        go_wp2
        go_roundw
        case rel => exact ⟨k + 1, g, m, cp, ad, out, by omega, by omega, by go_num, rfl, rfl, HM.out, hcp, HS.out, HO.out, HG.out⟩
        case measure => simp [intOf]; omega
    · by_cases h2 : k = s.size
      · subst h2
        have hlast := HAT.out.last
        have hgk := hlast.1
        have HL := Lib.hid hlast.2
        have hend := Lib.hid (show SplitAt d s (s.size + 1) (s.size + 1) (out ++ [s.extract g s.size]) from .inr ⟨rfl, hlast.2⟩)
        clear hlast h1
        go_wp2_with (at_builtin; go_must (with_reducible refine app_str (o := ⟨some 31, _, _, _, _, _⟩) rfl _ _ rfl w.heap.size (wr.heap.size + 1) (.slice ad m cp) _ out [s.extract g s.size] ?_ (HO.out.alloc _) ?_ (part_str wr _ 9) ?_ ?_ ?_); go_must (exact rfl); go_must (exact rfl); go_must ((have := HM.out; simp; omega)); go_must ((have := HG.out.size; rw [alloc_size]; omega)); (intro v2 w2 ho2 hg2); have HO2 := Lib.hid ho2; have HG2 := Lib.hid (HO.out.alloc (.cells #[.string (s.extract g s.size)] 9) |>.grown (World.grownBy.trans HG.out (World.grownBy_alloc _ _ _)) hg2); clear ho2 hg2)
        go_roundw
        case rel =>
          obtain ⟨ad2, cp2, e1, e2, e3⟩ := HO2.out.form
          refine ⟨s.size + 1, s.size + 1, _, cp2, ad2, out ++ [s.extract g s.size], by omega, by omega, by go_num, by go_num, e1, rfl, e3, hend.out, HO2.out, HG2.out⟩
        case measure => simp [intOf]
      · have hk1 : k = s.size + 1 := by omega
        have hp : Hid (pieces d s = out) := by
          show _ = _
          rcases HAT.out with ⟨h3, _⟩ | ⟨_, h3⟩
          · exact absurd h3 (by omega)
          · exact h3
        subst hk1
        clear h1 h2 hk
        go_wp2
        go_ret
        exact ⟨_, rfl, by rw [hp.out]; exact HO.out, HG.out⟩
end Go.Proofs.YthdopcdllggdaaaGreatDoor
namespace Go.Proofs.YthdopcdllggdaaaGreatDoor
open Go.RowKit

theorem take_all (L : List ByteArray) (k : Nat) (x : ByteArray) (p : ByteArray → Bool) (h : L[k]? = some x) (ha : (L.take k).all p = true) (hx : p x = true) : (L.take (k + 1)).all p = true := by
  rw [take_snocL L k x h, List.all_append, ha]
  simp [hx]
theorem all_no (L : List ByteArray) (k : Nat) (x : ByteArray) (p : ByteArray → Bool) (h : L[k]? = some x) (hx : p x = false) : L.all p = false := by
  have hm := List.mem_of_getElem? h
  cases ha : L.all p with
  | false => rfl
  | true =>
    rw [List.all_eq_true] at ha
    rw [ha x hm] at hx
    exact absurd hx (by simp)
theorem okMarks_no (L : List ByteArray) (k : Nat) (x : ByteArray) (h : L[k]? = some x) (hx : okMark x = false) : okMarks L = false := by
  unfold okMarks
  rw [all_no L k x okMark h hx, Bool.false_and]

set_option maxRecDepth 1000000
set_option maxHeartbeats 4000000 in
theorem goodMarks_any (B n cap : Nat) (a : Option Addr) (L : List ByteArray) (w : World) (hn : L.length = n) (hn2 : n ≤ 8000000) (hsz : ∀ p ∈ L, p.size ≤ 8000000) (hP : PartS w B (.slice a n cap) L) :
    Calls Tryz.prog 74 #[.slice a n cap] w fun e w' => e = .returned (.bool (okMarks L)) ∧ w.grownBy w' none := by
  have HN := Lib.hid hn
  have HSZ := Lib.hid hsz
  have HP := Lib.hid hP
  clear hn hsz hP
  go_enter Tryz.func74, Tryz.ntmps74
  go_wp2
  go_loopw [4, 6, 9] (fun m c i wr => ∃ k : Nat, k ≤ n ∧ i = .int .i64 k ∧ (L.take k).all okMark = true ∧ w.grownBy wr none) (fun _ _ i _ => n - (intOf i).toNat)
  case atStart => exact ⟨0, Nat.zero_le _, rfl, rfl, World.grownBy.refl _ _⟩
  case round =>
    obtain ⟨k, hk, rfl, ho, hg⟩ := hrel
    have HO := Lib.hid ho
    have HG := Lib.hid hg
    clear ho hg
    by_cases hlt : k < n
    · obtain ⟨x, hx⟩ : ∃ x, L[k]? = some x := ⟨_, List.getElem?_eq_getElem (by rw [HN.out]; exact hlt)⟩
      obtain ⟨b, o, e1, _, g1⟩ := (HP.out.stays HG.out).at k x hx
      subst e1
      have hxs := HSZ.out x (List.mem_of_getElem? hx)
      have HX := Lib.hid hx
      clear hx
      by_cases h0 : x = ⟨#[]⟩
      · have e : Hid (okMarks L = false) := okMarks_no L k x HX.out (by unfold okMark; simp [h0])
        subst h0
        go_wp2
        go_ret
        exact ⟨by rw [e.out]; rfl, HG.out⟩
      · have c1 := empty_no x h0
        have d1 := ne_list x [] h0
        by_cases h16 : 16 < x.size
        · have e : Hid (okMarks L = false) := okMarks_no L k x HX.out (by unfold okMark; rw [decide_eq_false (by omega : ¬ x.size ≤ 16)]; simp)
          have b2 : 16 < (x.size : Int) := by omega
          clear h0 h16
          go_wp2
          go_ret
          exact ⟨by rw [e.out]; rfl, HG.out⟩
        · have b2 : decide (16 < (x.size : Int)) = false := by simp; omega
          have hs9 : x.size ≤ 9223372036854775807 := by omega
          cases hbad : (allDig x && !isNum x) with
          | true =>
            have e : Hid (okMarks L = false) := okMarks_no L k x HX.out (by unfold okMark; rw [hbad]; simp)
            rw [Bool.and_eq_true] at hbad
            have HD := Lib.hid hbad.1
            have HI := Lib.hid (show isNum x = false by simpa using hbad.2)
            clear h0 h16 hbad
            go_wp2_with fail
            (with_reducible refine (allDig_any x hs9 _).mono ?_)
            rintro ee w1 ⟨rfl, g2⟩
            dsimp only
            rw [HD.out]
            have HG2 := Lib.hid (World.grownBy.trans HG.out g2)
            clear g2
            go_wp2_with fail
            (with_reducible refine (isNum_any x hs9 _).mono ?_)
            rintro ee w2 ⟨rfl, g2⟩
            dsimp only
            rw [HI.out]
            have HG3 := Lib.hid (World.grownBy.trans HG2.out g2)
            clear g2
            go_wp2
            go_ret
            exact ⟨by rw [e.out]; rfl, HG3.out⟩
          | false =>
            have hrest : Hid (okMark x = allTo markB x x.size) := by
              show _ = _
              unfold okMark
              rw [hbad, decide_eq_false h0, decide_eq_true (by omega : x.size ≤ 16)]
              simp
            have hway : Hid (allDig x = false ∨ (allDig x = true ∧ isNum x = true)) := by
              cases h1 : allDig x with
              | false => exact .inl rfl
              | true =>
                rw [h1] at hbad
                exact .inr ⟨rfl, by simpa using hbad⟩
            have HB := Lib.hid hbad
            clear h0 h16 hbad
            rcases hway.out with h1 | ⟨h1, h2⟩
            · have HD := Lib.hid h1
              clear h1
              go_wp2_with fail
              (with_reducible refine (allDig_any x hs9 _).mono ?_)
              rintro ee w1 ⟨rfl, g2⟩
              dsimp only
              rw [HD.out]
              have HG2 := Lib.hid (World.grownBy.trans HG.out g2)
              clear g2
              go_wp2_with ((with_reducible refine conv_bytes (o := ⟨some 30, _, _, _, _, _⟩) rfl _ rfl x ?_ ?_); go_must (exact rfl); (intro cap2 w3 hl3 hg3); have HL3 := Lib.hid hl3; have HG3 := Lib.hid (World.grownBy.trans HG2.out hg3); clear hl3 hg3)
              obtain ⟨bb, hbb⟩ : ∃ bb, w1.heap.size = bb := ⟨_, rfl⟩
              rw [hbb] at HL3
              go_loopw [6, 32] (fun c i wq => ∃ q : Nat, q ≤ x.size ∧ i = .int .i64 q ∧ allTo markB x q = true ∧ w3 = wq) (fun _ i _ => x.size - (intOf i).toNat)
              case atStart => exact ⟨0, Nat.zero_le _, rfl, rfl, rfl⟩
              case round =>
                obtain ⟨q, hq, rfl, ho2, rfl⟩ := hrel
                have HO2 := Lib.hid ho2
                clear ho2
                by_cases hql : q < x.size
                · have hcell := HL3.out q hql
                  obtain ⟨c, hc⟩ : ∃ c, byteAt x q = c := ⟨_, rfl⟩
                  rw [hc] at hcell
                  have HC := Lib.hid hc
                  clear hc
                  by_cases hb : markB c = true
                  · have HM := Lib.hid (show allTo markB x (q + 1) = true by rw [allTo, HO2.out, HC.out, hb]; rfl)
                    have HMB := Lib.hid hb
                    clear hb
                    go_wp2_with fail
                    (with_reducible refine (markB_any c _).mono ?_)
                    rintro ee w' ⟨rfl, hw'⟩
                    rw [hw', HMB.out]
                    clear hw' w'
                    dsimp only
                    go_wp2
                    go_roundw
                    case rel => exact ⟨q + 1, by omega, by go_num, HM.out, trivial⟩
                    case measure => simp [intOf]; omega
                  · have hb' : markB c = false := by simpa using hb
                    have HMB := Lib.hid hb'
                    have e : Hid (okMarks L = false) := okMarks_no L k x HX.out (okMark_no x q hql (by rw [HC.out]; exact hb'))
                    clear hb hb'
                    go_wp2_with fail
                    (with_reducible refine (markB_any c _).mono ?_)
                    rintro ee w' ⟨rfl, hw'⟩
                    rw [hw', HMB.out]
                    clear hw' w'
                    dsimp only
                    go_wp2
                    go_ret
                    exact ⟨by rw [e.out]; rfl, HG3.out⟩
                · have hqm : q = x.size := by omega
                  subst hqm
                  clear hql hq
                  have HT := Lib.hid (take_all L k x okMark HX.out HO.out (by rw [hrest.out]; exact HO2.out))
                  go_wp2
                  go_roundw
                  case rel => exact ⟨k + 1, by omega, by go_num, HT.out, HG3.out⟩
                  case measure => simp [intOf]; omega
            · have HD := Lib.hid h1
              have HI := Lib.hid h2
              clear h1 h2
              go_wp2_with fail
              (with_reducible refine (allDig_any x hs9 _).mono ?_)
              rintro ee w0 ⟨rfl, g2⟩
              dsimp only
              rw [HD.out]
              have HG1 := Lib.hid (World.grownBy.trans HG.out g2)
              clear g2
              go_wp2_with fail
              (with_reducible refine (isNum_any x hs9 _).mono ?_)
              rintro ee w1 ⟨rfl, g2⟩
              dsimp only
              rw [HI.out]
              have HG2 := Lib.hid (World.grownBy.trans HG1.out g2)
              clear g2
              go_wp2_with ((with_reducible refine conv_bytes (o := ⟨some 30, _, _, _, _, _⟩) rfl _ rfl x ?_ ?_); go_must (exact rfl); (intro cap2 w3 hl3 hg3); have HL3 := Lib.hid hl3; have HG3 := Lib.hid (World.grownBy.trans HG2.out hg3); clear hl3 hg3)
              obtain ⟨bb, hbb⟩ : ∃ bb, w1.heap.size = bb := ⟨_, rfl⟩
              rw [hbb] at HL3
              go_loopw [6, 32] (fun c i wq => ∃ q : Nat, q ≤ x.size ∧ i = .int .i64 q ∧ allTo markB x q = true ∧ w3 = wq) (fun _ i _ => x.size - (intOf i).toNat)
              case atStart => exact ⟨0, Nat.zero_le _, rfl, rfl, rfl⟩
              case round =>
                obtain ⟨q, hq, rfl, ho2, rfl⟩ := hrel
                have HO2 := Lib.hid ho2
                clear ho2
                by_cases hql : q < x.size
                · have hcell := HL3.out q hql
                  obtain ⟨c, hc⟩ : ∃ c, byteAt x q = c := ⟨_, rfl⟩
                  rw [hc] at hcell
                  have HC := Lib.hid hc
                  clear hc
                  by_cases hb : markB c = true
                  · have HM := Lib.hid (show allTo markB x (q + 1) = true by rw [allTo, HO2.out, HC.out, hb]; rfl)
                    have HMB := Lib.hid hb
                    clear hb
                    go_wp2_with fail
                    (with_reducible refine (markB_any c _).mono ?_)
                    rintro ee w' ⟨rfl, hw'⟩
                    rw [hw', HMB.out]
                    clear hw' w'
                    dsimp only
                    go_wp2
                    go_roundw
                    case rel => exact ⟨q + 1, by omega, by go_num, HM.out, trivial⟩
                    case measure => simp [intOf]; omega
                  · have hb' : markB c = false := by simpa using hb
                    have HMB := Lib.hid hb'
                    have e : Hid (okMarks L = false) := okMarks_no L k x HX.out (okMark_no x q hql (by rw [HC.out]; exact hb'))
                    clear hb hb'
                    go_wp2_with fail
                    (with_reducible refine (markB_any c _).mono ?_)
                    rintro ee w' ⟨rfl, hw'⟩
                    rw [hw', HMB.out]
                    clear hw' w'
                    dsimp only
                    go_wp2
                    go_ret
                    exact ⟨by rw [e.out]; rfl, HG3.out⟩
                · have hqm : q = x.size := by omega
                  subst hqm
                  clear hql hq
                  have HT := Lib.hid (take_all L k x okMark HX.out HO.out (by rw [hrest.out]; exact HO2.out))
                  go_wp2
                  go_roundw
                  case rel => exact ⟨k + 1, by omega, by go_num, HT.out, HG3.out⟩
                  case measure => simp [intOf]; omega
    · have hkn : k = n := by omega
      subst hkn
      clear hlt hk
      have e : Hid (okMarks L = decide ((k : Int) ≤ 5)) := by
        show _ = _
        have := HO.out
        rw [List.take_of_length_le (by rw [HN.out]; exact Nat.le_refl _)] at this
        unfold okMarks
        rw [this, Bool.true_and, HN.out]
        exact decide_eq_decide.2 (by omega)
      go_wp2
      go_ret
      exact ⟨by rw [e.out]; rfl, HG.out⟩
end Go.Proofs.YthdopcdllggdaaaGreatDoor
namespace Go.Proofs.YthdopcdllggdaaaGreatDoor
open Go.RowKit

/-- A version: three numbers, and marks. -/
structure Vn where
  maj : Int
  min : Int
  pat : Int
  pre : List ByteArray
deriving DecidableEq
def verV (v : Vn) (sl : Value) : Value := .agg #[.int .i64 v.maj, .int .i64 v.min, .int .i64 v.pat, sl]
def zeroV : Vn := ⟨0, 0, 0, []⟩
/-- A number that a version may have. -/
def okNum (p : ByteArray) : Bool := isNum p && decide (p.size ≤ 9)
/-- What stands ahead of the first -, behind it, and whether there is one. -/
def dashS (s : ByteArray) : ByteArray × ByteArray × Bool := (toB (Lib.cut s.data.toList [45]).1, toB (Lib.cut s.data.toList [45]).2.1, (Lib.cut s.data.toList [45]).2.2)
/-- A version's parts, whether they make one. -/
def okVer (P : List ByteArray) (marks : ByteArray) (marked : Bool) : Bool := decide (P.length = 3) && P.all okNum && (!marked || okMarks (pieces 46 marks))
def preOf (marks : ByteArray) (marked : Bool) : List ByteArray := if marked = true then pieces 46 marks else []
def parseP (P : List ByteArray) (marks : ByteArray) (marked : Bool) : Vn × Int :=
  if okVer P marks marked = true then (⟨num (strAt P 0), num (strAt P 1), num (strAt P 2), preOf marks marked⟩, 0) else (zeroV, 60)
/-- THE DOCUMENT's VERSION, OR NONE. -/
def parseS (s : ByteArray) : Vn × Int := parseP (pieces 46 (dashS s).1) (dashS s).2.1 (dashS s).2.2
def VerRet (w : World) (R : Vn × Int) (e : Ending) (w' : World) : Prop :=
  ∃ sl, e = .returned (.tuple #[verV R.1 sl, .int .i64 R.2]) ∧ PartS w' w'.heap.size sl R.1.pre ∧ w.grownBy w' none

theorem cut_any (m : Int) (s core marks : ByteArray) (marked : Bool) (w : World) (hs : s.size ≤ 8000000) (hm : w.cell? ⟨0, 0, none⟩ = some (.int .i64 m)) (h : dashS s = (core, marks, marked)) :
    Calls Tryz.prog 72 #[.string s, .string ⟨#[45]⟩] w fun e w' => e = .returned (.tuple #[.string core, .string marks, .bool marked]) ∧ ∃ n, w' = w.drewN n := by
  have h1 := Tryz.strings_Cut s ⟨#[45]⟩ m w (by omega) hm
  have e1 : toB (Lib.cut s.data.toList [45]).1 = core := congrArg (·.1) h
  have e2 : toB (Lib.cut s.data.toList [45]).2.1 = marks := congrArg (·.2.1) h
  have e3 : (Lib.cut s.data.toList [45]).2.2 = marked := congrArg (·.2.2) h
  rw [← e1, ← e2, ← e3]
  exact h1
theorem split_any (s : ByteArray) (m : Int) (N : Nat) (P : List ByteArray) (w : World) (hs : s.size ≤ 8000000) (hm : w.cell? ⟨0, 0, none⟩ = some (.int .i64 m)) (hP : pieces 46 s = P) (hN : P.length = N) :
    Calls Tryz.prog 64 #[.string s, .string ⟨#[46]⟩] w fun e w' => e = .returned (.slice (some ⟨w.heap.size, 0, none⟩) N N) ∧ w' = w.alloc (.cells (P.map Value.string).toArray 9) := by
  have e : Lib.countB s ⟨#[46]⟩ + 1 = N := by rw [← hN, ← hP, pieces_len]
  rw [← e, ← hP]
  exact Tryz.strings_Split s ⟨#[46]⟩ m w (by omega) hm (by decide)

theorem block_kept {w w' : World} {b : Nat} {c : Obj} (h : w.heap[b]? = some c) (hg : w.grownBy w' none) : w'.heap[b]? = some c := by
  have hb : b < w.heap.size := by
    rcases Nat.lt_or_ge b w.heap.size with h1 | h1
    · exact h1
    · rw [Array.getElem?_eq_none h1] at h; cases h
  rw [hg.block b hb (by simp), h]
theorem alloc_block (w : World) (o : Obj) : (w.alloc o).heap[w.heap.size]? = some o := by
  show (w.heap.push o)[w.heap.size]? = some o
  simp
theorem block_cell {w : World} {b : Nat} {c : Array Value} {t : TypeId} (h : w.heap[b]? = some (.cells c t (0, 0))) (j : Nat) (v : Value) (hj : c[j]? = some v) : w.cell? ⟨b, j, none⟩ = some v ∧ w.frozen? ⟨b, j, none⟩ = false := by
  refine ⟨by rw [cell_in h, hj], ?_⟩
  simp [World.frozen?, h]
theorem block_size {w : World} {b : Nat} {o : Obj} (h : w.heap[b]? = some o) : b < w.heap.size := by
  rcases Nat.lt_or_ge b w.heap.size with h1 | h1
  · exact h1
  · rw [Array.getElem?_eq_none h1] at h; cases h

theorem PartS.other {w w' : World} {B k : Nat} {v : Value} {M : List ByteArray} (h : PartS w B v M) (hg : w.grownBy w' (some k)) (hk : v.ownBlock ≠ some k) : PartS w' B v M := by
  obtain ⟨a, cap, b, o, h1, h2, h3, h4, h5, h6⟩ := h
  refine ⟨a, cap, b, o, h1, h2, h3, h4, h5, fun j x hj => hg.cell (h6 j x hj) (fun e => hk ?_)⟩
  have hl := (List.getElem?_eq_some_iff.1 hj).1
  rw [h1, h5 (by omega), ← e]; rfl
theorem dash_size (s : ByteArray) : (dashS s).1.size ≤ s.size ∧ (dashS s).2.1.size ≤ s.size := by
  have h1 : ∀ l : List UInt8, (toB l).size = l.length := fun l => rfl
  have hl := data_len s
  unfold dashS
  simp only [h1]
  unfold Lib.cut
  split
  · simp only [List.length_take, List.length_drop]; omega
  · simp only [List.length_nil]; omega
theorem set_block {w : World} {b : Nat} {c : Array Value} {t : TypeId} {f : Nat × Nat} (h : w.heap[b]? = some (.cells c t f)) (i : Nat) (v : Value) : (w.setCell ⟨b, i, none⟩ v).heap[b]? = some (.cells (c.setIfInBounds i v) t f) := by
  simp [World.setCell, Array.getElem?_modify, h]
theorem set_grown (w : World) (b i : Nat) (v : Value) : w.grownBy (w.setCell ⟨b, i, none⟩ v) (some b) :=
  ⟨rfl, rfl, rfl, by simp [World.setCell], fun k hk hne => by
    have : ¬ b = k := fun e => hne (by rw [e])
    simp [World.setCell, Array.getElem?_modify, this]⟩
theorem grown_set {w0 w : World} {b : Nat} (h : w0.grownBy w none) (hb : w0.heap.size ≤ b) (i : Nat) (v : Value) : w0.grownBy (w.setCell ⟨b, i, none⟩ v) none := grown_new h (set_grown w b i v) hb
/-- A version is laid into the block R. -/
theorem lay_ver {w0 w : World} {R : Nat} {x0 x1 x2 x3 : Value} (h0 : w0.grownBy w none) (hb : w0.heap.size ≤ R) (hR : w.heap[R]? = some (.cells #[x0, x1, x2, x3] 28 (0, 0))) (y0 y1 y2 y3 : Value) (w' : World)
    (hw : (((w.setCell ⟨R, 0, none⟩ y0).setCell ⟨R, 1, none⟩ y1).setCell ⟨R, 2, none⟩ y2).setCell ⟨R, 3, none⟩ y3 = w') :
    w0.grownBy w' none ∧ w'.heap[R]? = some (.cells #[y0, y1, y2, y3] 28 (0, 0)) ∧ w.heap.size ≤ w'.heap.size ∧ w.grownBy w' (some R) := by
  have g1 := grown_set (grown_set (grown_set (grown_set h0 hb 0 y0) hb 1 y1) hb 2 y2) hb 3 y3
  have r1 := set_block (set_block (set_block (set_block hR 0 y0) 1 y1) 2 y2) 3 y3
  have s1 : w.grownBy ((((w.setCell ⟨R, 0, none⟩ y0).setCell ⟨R, 1, none⟩ y1).setCell ⟨R, 2, none⟩ y2).setCell ⟨R, 3, none⟩ y3) (some R) :=
    World.grownBy.trans (World.grownBy.trans (World.grownBy.trans (set_grown w R 0 y0) (set_grown _ R 1 y1)) (set_grown _ R 2 y2)) (set_grown _ R 3 y3)
  rw [hw] at g1 r1 s1
  exact ⟨g1, r1, s1.size, s1⟩

/-- The three numbers' cells: k are done, the next one stands at y. -/
def nIn (P : List ByteArray) (k : Nat) (y : Int) (j : Nat) : Int := if j < k then (num (strAt P j) : Int) else if j = k then y else 0
def numsC (P : List ByteArray) (k : Nat) (y : Int) : Array Value := #[.int .i64 (nIn P k y 0), .int .i64 (nIn P k y 1), .int .i64 (nIn P k y 2)]
theorem numsC_start (P : List ByteArray) : numsC P 0 0 = #[.int .i64 0, .int .i64 0, .int .i64 0] := rfl
theorem numsC_at (P : List ByteArray) (k : Nat) (y : Int) (h : k < 3) : (numsC P k y)[k]? = some (.int .i64 y) := by
  match k, h with
  | 0, _ => rfl
  | 1, _ => rfl
  | 2, _ => rfl
theorem numsC_set (P : List ByteArray) (k : Nat) (y z : Int) (h : k < 3) : (numsC P k y).setIfInBounds k (.int .i64 z) = numsC P k z := by
  match k, h with
  | 0, _ => rfl
  | 1, _ => rfl
  | 2, _ => rfl
theorem numsC_next (P : List ByteArray) (k : Nat) (h : k < 3) : numsC P k (num (strAt P k) : Int) = numsC P (k + 1) 0 := by
  match k, h with
  | 0, _ => rfl
  | 1, _ => rfl
  | 2, _ => rfl
theorem allTo_less (p : UInt8 → Bool) (s : ByteArray) (m : Nat) (h : allTo p s m = true) (k : Nat) (hk : k ≤ m) : allTo p s k = true := by
  induction m with
  | zero => have : k = 0 := by omega
            subst this; exact h
  | succ m ih =>
    by_cases e : k = m + 1
    · rw [e]; exact h
    · refine ih ?_ (by omega)
      rw [allTo, Bool.and_eq_true] at h
      exact h.1
theorem okNum_bound (x : ByteArray) (h : okNum x = true) (q : Nat) (hq : q ≤ x.size) : numTo x q < 1000000000 := by
  unfold okNum isNum allDig at h
  simp only [Bool.and_eq_true, decide_eq_true_eq] at h
  have h1 := numTo_lt x q (allTo_less isDig x x.size h.1.1.1 q hq)
  have h2 : (10 : Nat) ^ q ≤ 10 ^ 9 := Nat.pow_le_pow_right (by omega) (by omega)
  omega
theorem okNum_dig (x : ByteArray) (h : okNum x = true) (q : Nat) (hq : q < x.size) : isDig (byteAt x q) = true := by
  unfold okNum isNum allDig at h
  simp only [Bool.and_eq_true, decide_eq_true_eq] at h
  exact allTo_at isDig x x.size h.1.1.1 q hq
theorem okVer_no (P : List ByteArray) (marks : ByteArray) (marked : Bool) (k : Nat) (x : ByteArray) (h : P[k]? = some x) (hx : okNum x = false) : okVer P marks marked = false := by
  unfold okVer
  rw [all_no P k x okNum h hx]
  simp

set_option maxRecDepth 1000000
set_option maxHeartbeats 4000000 in
theorem parse_any (m : Int) (s : ByteArray) (w : World) (hs : s.size ≤ 2000000) (hm : w.cell? ⟨0, 0, none⟩ = some (.int .i64 m)) :
    Calls Tryz.prog 65 #[.string s] w (VerRet w (parseS s)) := by
  obtain ⟨core, marks, marked, hd⟩ : ∃ a b c, dashS s = (a, b, c) := ⟨_, _, _, rfl⟩
  obtain ⟨P, hP⟩ : ∃ P, pieces 46 core = P := ⟨_, rfl⟩
  obtain ⟨N, hN⟩ : ∃ N, P.length = N := ⟨_, rfl⟩
  have hE := Lib.hid (show parseS s = parseP P marks marked by unfold parseS; rw [hd, hP])
  have hcs : core.size ≤ 8000000 := by have := (dash_size s).1; rw [hd] at this; simp only at this; omega
  have hms : marks.size ≤ 2000000 := by have := (dash_size s).2; rw [hd] at this; simp only at this; omega
  have HD := Lib.hid hd
  have HP := Lib.hid hP
  have HN := Lib.hid hN
  have HM := Lib.hid hm
  obtain ⟨R, hR⟩ : ∃ R, w.heap.size = R := ⟨_, rfl⟩
  have HR := Lib.hid hR
  clear hd hP hN hm
  go_enter Tryz.func65, Tryz.ntmps65
  go_wp2_with fail
  have HM1 : Hid ((w.alloc (.cells #[.int .i64 0, .int .i64 0, .int .i64 0, .slice none 0 0] 28)).cell? ⟨0, 0, none⟩ = some (.int .i64 m)) := (World.grownBy_alloc w _ none).cell HM.out (by simp)
  (with_reducible refine (cut_any m s core marks marked _ (by omega) HM1.out HD.out).mono ?_)
  rintro ee w1 ⟨rfl, nn, hw1⟩
  have HG1 : Hid (w.grownBy w1 none) := by rw [hw1]; exact grown_drew nn (World.grownBy_alloc w _ none)
  have HR1 : Hid (w1.heap[R]? = some (.cells #[.int .i64 0, .int .i64 0, .int .i64 0, .slice none 0 0] 28 (0, 0))) := by rw [hw1, ← HR.out]; exact alloc_block w _
  clear hw1 HM1
  dsimp only
  go_wp2_with fail
  (with_reducible refine (split_any core m N P _ hcs (HG1.out.cell HM.out (by simp)) HP.out HN.out).mono ?_)
  rintro ee w2 ⟨rfl, hw2⟩
  have HPp : Hid (PartS w2 w2.heap.size (.slice (some ⟨w1.heap.size, 0, none⟩) N N) P) := by
    have := part_block w1 P 9 N HN.out
    rw [← hw2] at this
    exact this.le (by rw [hw2, alloc_size]; exact Nat.le_refl _)
  have HG2 : Hid (w.grownBy w2 none) := by rw [hw2]; exact grown_alloc _ HG1.out
  have HR2 : Hid (w2.heap[R]? = some (.cells #[.int .i64 0, .int .i64 0, .int .i64 0, .slice none 0 0] 28 (0, 0))) := block_kept HR1.out (by rw [hw2]; exact World.grownBy_alloc _ _ _)
  clear hw2 hR
  obtain ⟨ap, hap⟩ : ∃ a : Option Addr, some ⟨w1.heap.size, 0, none⟩ = a := ⟨_, rfl⟩
  rw [hap] at HPp ⊢
  clear hap HR1
  dsimp only
  by_cases h3 : N = 3
  · subst h3
    have HNB : Hid ((w2.alloc (.cells #[.int .i64 0, .int .i64 0, .int .i64 0] 103)).heap[w2.heap.size]? = some (.cells (numsC P 0 0) 103 (0, 0))) := alloc_block w2 _
    have HR3 := Lib.hid (block_kept HR2.out (World.grownBy_alloc w2 (.cells #[.int .i64 0, .int .i64 0, .int .i64 0] 103) none))
    have HG3 := Lib.hid (grown_alloc (.cells #[.int .i64 0, .int .i64 0, .int .i64 0] 103) HG2.out)
    have HP3 := Lib.hid (HPp.out.stays (World.grownBy_alloc w2 (.cells #[.int .i64 0, .int .i64 0, .int .i64 0] 103) none))
    have HRlt := Lib.hid (block_size HR2.out)
    go_wp2
    obtain ⟨nb, hnb⟩ : ∃ nb, w2.heap.size = nb := ⟨_, rfl⟩
    rw [hnb] at HNB HP3 HRlt ⊢
    have HGN := Lib.hid (show w.heap.size ≤ nb by rw [← hnb]; exact HG2.out.size)
    clear hnb
    go_loopw [9, 10, 28] (fun i p t wr => ∃ k : Nat, k ≤ 3 ∧ t = .int .i64 k ∧ (P.take k).all okNum = true ∧ wr.heap[nb]? = some (.cells (numsC P k 0) 103 (0, 0)) ∧ wr.heap[R]? = some (.cells #[.int .i64 0, .int .i64 0, .int .i64 0, .slice none 0 0] 28 (0, 0)) ∧ PartS wr nb (.slice ap 3 3) P ∧ w.grownBy wr none) (fun _ _ t _ => 3 - (intOf t).toNat)
    case atStart => exact ⟨0, by omega, rfl, rfl, HNB.out, HR3.out, HP3.out, HG3.out⟩
    case round =>
      obtain ⟨k, hk, rfl, ho, hnb, hrr, hpp, hg⟩ := hrel
      have HO := Lib.hid ho
      have HNR := Lib.hid hnb
      have HRX := Lib.hid hrr
      have HPR := Lib.hid hpp
      have HGX := Lib.hid hg
      clear ho hnb hrr hpp hg
      by_cases hlt : k < 3
      · obtain ⟨x, hx⟩ : ∃ x, P[k]? = some x := ⟨_, List.getElem?_eq_getElem (by rw [HN.out]; exact hlt)⟩
        obtain ⟨b, o, e1, hbn, g1⟩ := HPR.out.at k x hx
        subst e1
        have HX := Lib.hid hx
        have HXA := Lib.hid (show strAt P k = x by have := strAt_eq P k (by rw [HN.out]; exact hlt); rw [hx] at this; exact (Option.some.inj this).symm)
        have hxs : x.size ≤ 8000000 := by
          have := pieces_size 46 core x (by rw [HP.out]; exact List.mem_of_getElem? hx)
          omega
        have hs9 : x.size ≤ 9223372036854775807 := by omega
        clear hx
        cases hnum : isNum x with
        | false =>
          have e : Hid (parseS s = (zeroV, 60)) := by
            show _ = _
            rw [hE.out]
            unfold parseP
            rw [okVer_no P marks marked k x HX.out (by unfold okNum; rw [hnum, Bool.false_and]), if_neg (by simp)]
          have HU := Lib.hid hnum
          clear hnum
          go_wp2_with fail
          (with_reducible refine (isNum_any x hs9 _).mono ?_)
          rintro ee w4 ⟨rfl, g2⟩
          dsimp only
          rw [HU.out]
          have HRY := Lib.hid (block_kept HRX.out g2)
          have HGY := Lib.hid (World.grownBy.trans HGX.out g2)
          clear g2
          obtain ⟨r0, f0⟩ := block_cell HRY.out 0 _ rfl
          obtain ⟨r1, f1⟩ := block_cell HRY.out 1 _ rfl
          obtain ⟨r2, f2⟩ := block_cell HRY.out 2 _ rfl
          obtain ⟨r3, f3⟩ := block_cell HRY.out 3 _ rfl
          go_wp2
          generalize hw9 : (((w4.setCell ⟨R, 0, none⟩ _).setCell ⟨R, 1, none⟩ _).setCell ⟨R, 2, none⟩ _).setCell ⟨R, 3, none⟩ _ = w9
          obtain ⟨G9, R9, S9, K9⟩ := lay_ver HGY.out (by rw [HR.out]; exact Nat.le_refl _) HRY.out _ _ _ _ w9 hw9
          obtain ⟨q0, _⟩ := block_cell R9 0 _ rfl
          obtain ⟨q1, _⟩ := block_cell R9 1 _ rfl
          obtain ⟨q2, _⟩ := block_cell R9 2 _ rfl
          obtain ⟨q3, _⟩ := block_cell R9 3 _ rfl
          refine bodyPost_ret (v := .tuple #[verV zeroV (.slice none 0 0), .int .i64 60]) (by simp [results, Tryz.results65, go_sem, q0, q1, q2, q3, verV, zeroV]) rfl ⟨.slice none 0 0, by rw [e.out], ?_, G9⟩
          rw [e.out]
          exact PartS.nil (block_size R9 |> Nat.lt_of_le_of_lt (Nat.zero_le _))
        | true =>
          have HU := Lib.hid hnum
          by_cases h9 : 9 < x.size
          · have e : Hid (parseS s = (zeroV, 60)) := by
              show _ = _
              rw [hE.out]
              unfold parseP
              rw [okVer_no P marks marked k x HX.out (by unfold okNum; rw [hnum, decide_eq_false (by omega)]; rfl), if_neg (by simp)]
            have b9 : 9 < (x.size : Int) := by omega
            clear hnum h9
            go_wp2_with fail
            (with_reducible refine (isNum_any x hs9 _).mono ?_)
            rintro ee w4 ⟨rfl, g2⟩
            dsimp only
            rw [HU.out]
            have HRY := Lib.hid (block_kept HRX.out g2)
            have HGY := Lib.hid (World.grownBy.trans HGX.out g2)
            clear g2
            obtain ⟨r0, f0⟩ := block_cell HRY.out 0 _ rfl
            obtain ⟨r1, f1⟩ := block_cell HRY.out 1 _ rfl
            obtain ⟨r2, f2⟩ := block_cell HRY.out 2 _ rfl
            obtain ⟨r3, f3⟩ := block_cell HRY.out 3 _ rfl
            go_wp2
            generalize hw9 : (((w4.setCell ⟨R, 0, none⟩ _).setCell ⟨R, 1, none⟩ _).setCell ⟨R, 2, none⟩ _).setCell ⟨R, 3, none⟩ _ = w9
            obtain ⟨G9, R9, S9, K9⟩ := lay_ver HGY.out (by rw [HR.out]; exact Nat.le_refl _) HRY.out _ _ _ _ w9 hw9
            obtain ⟨q0, _⟩ := block_cell R9 0 _ rfl
            obtain ⟨q1, _⟩ := block_cell R9 1 _ rfl
            obtain ⟨q2, _⟩ := block_cell R9 2 _ rfl
            obtain ⟨q3, _⟩ := block_cell R9 3 _ rfl
            refine bodyPost_ret (v := .tuple #[verV zeroV (.slice none 0 0), .int .i64 60]) (by simp [results, Tryz.results65, go_sem, q0, q1, q2, q3, verV, zeroV]) rfl ⟨.slice none 0 0, by rw [e.out], ?_, G9⟩
            rw [e.out]
            exact PartS.nil (block_size R9 |> Nat.lt_of_le_of_lt (Nat.zero_le _))
          · have HOK := Lib.hid (show okNum x = true by unfold okNum; rw [hnum, decide_eq_true (by omega)]; rfl)
            have b9 : decide (9 < (x.size : Int)) = false := by simp; omega
            clear hnum h9
            go_wp2_with fail
            (with_reducible refine (isNum_any x hs9 _).mono ?_)
            rintro ee w4 ⟨rfl, g2⟩
            dsimp only
            rw [HU.out]
            have HRY := Lib.hid (block_kept HRX.out g2)
            have HGY := Lib.hid (World.grownBy.trans HGX.out g2)
            have HNY := Lib.hid (block_kept HNR.out g2)
            have HPY := Lib.hid (HPR.out.stays g2)
            clear g2
            go_wp2_with ((with_reducible refine conv_bytes (o := ⟨some 43, _, _, _, _, _⟩) rfl _ rfl x ?_ ?_); go_must (exact rfl); (intro cap2 w5 hl3 hg3); have HL3 := Lib.hid hl3; have HG5 := Lib.hid (World.grownBy.trans HGY.out hg3); have HR5 := Lib.hid (block_kept HRY.out hg3); have HN5 := Lib.hid (block_kept HNY.out hg3); have HP5 := Lib.hid (HPY.out.stays hg3); clear hl3 hg3)
            obtain ⟨bb, hbb⟩ : ∃ bb, w4.heap.size = bb := ⟨_, rfl⟩
            rw [hbb] at HL3
            have hbnb : Hid (nb < bb) := by
              show _ < _
              rw [← hbb]; exact block_size HNY.out
            go_loopw [12, 45] (fun c t wq => ∃ q : Nat, q ≤ x.size ∧ t = .int .i64 q ∧ wq.heap[nb]? = some (.cells (numsC P k (numTo x q : Int)) 103 (0, 0)) ∧ wq.heap[R]? = some (.cells #[.int .i64 0, .int .i64 0, .int .i64 0, .slice none 0 0] 28 (0, 0)) ∧ PartS wq nb (.slice (some ⟨b, o, none⟩) 3 3) P ∧ LieB wq bb x ∧ w.grownBy wq none) (fun _ t _ => x.size - (intOf t).toNat)
            case atStart => exact ⟨0, Nat.zero_le _, rfl, HN5.out, HR5.out, HP5.out, HL3.out, HG5.out⟩
            case round =>
              obtain ⟨q, hq, rfl, y1, y2, y3, y4, y5⟩ := hrel
              have Y1 := Lib.hid y1
              have Y2 := Lib.hid y2
              have Y3 := Lib.hid y3
              have Y4 := Lib.hid y4
              have Y5 := Lib.hid y5
              clear y1 y2 y3 y4 y5
              by_cases hql : q < x.size
              · have hcell := Y4.out q hql
                obtain ⟨c, hc⟩ : ∃ c, byteAt x q = c := ⟨_, rfl⟩
                rw [hc] at hcell
                have hdig := okNum_dig x HOK.out q hql
                rw [hc] at hdig
                simp only [isDig, decide_eq_true_eq] at hdig
                obtain ⟨t1, t2⟩ := hdig
                have hbd := okNum_bound x HOK.out q (by omega)
                have HT := Lib.hid (show numTo x (q + 1) = 10 * numTo x q + (c.toNat - 48) by rw [numTo, hc])
                obtain ⟨z, hz⟩ : ∃ z, numTo x q = z := ⟨_, rfl⟩
                rw [hz] at HT hbd
                obtain ⟨n0, fn0⟩ := block_cell Y1.out k _ (numsC_at P k _ hlt)
                rw [hz] at n0
                have u1 : 0 ≤ (c.toNat : Int) - 48 := by omega
                have u2 : (c.toNat : Int) - 48 ≤ 9 := by omega
                clear hc hz
                go_wp2
                go_roundw
                case rel =>
                  have hv : (10 * (z : Int) + ((c.toNat : Int) - 48)) = (numTo x (q + 1) : Int) := by rw [HT.out]; omega
                  refine ⟨q + 1, by omega, by go_num, ?_, ?_, ?_, ?_, ?_⟩
                  · have := set_block Y1.out k (.int .i64 (10 * (z : Int) + ((c.toNat : Int) - 48)))
                    rw [numsC_set P k _ _ hlt] at this
                    rw [← hv]; exact this
                  · exact ((set_grown _ nb k _).block R (block_size Y2.out) (by have := HRlt.out; simp; omega)).trans Y2.out
                  · exact Y3.out.grown (set_grown _ nb k _) (fun j hj => by have := Option.some.inj hj; omega)
                  · exact Y4.out.grown (set_grown _ nb k _) (by have := hbnb.out; simp; omega)
                  · exact grown_set Y5.out HGN.out k _
                case measure => simp [intOf]; omega
              · have hqm : q = x.size := by omega
                subst hqm
                clear hql hq
                have HT := Lib.hid (take_all P k x okNum HX.out HO.out HOK.out)
                have HNN := Lib.hid (show numsC P k (numTo x x.size : Int) = numsC P (k + 1) 0 by
                  have := numsC_next P k hlt
                  rw [HXA.out] at this
                  exact this)
                go_wp2
                go_roundw
                case rel => exact ⟨k + 1, by omega, by go_num, HT.out, by rw [← HNN.out]; exact Y1.out, Y2.out, Y3.out, Y5.out⟩
                case measure => simp [intOf]; omega
      · have hk3 : k = 3 := by omega
        subst hk3
        clear hlt hk
        have hall : Hid (P.all okNum = true) := by
          have := HO.out
          rw [List.take_of_length_le (by rw [HN.out]; exact Nat.le_refl _)] at this
          exact this
        obtain ⟨a0, ha0⟩ : ∃ a : Int, (num (strAt P 0) : Int) = a := ⟨_, rfl⟩
        obtain ⟨a1, ha1⟩ : ∃ a : Int, (num (strAt P 1) : Int) = a := ⟨_, rfl⟩
        obtain ⟨a2, ha2⟩ : ∃ a : Int, (num (strAt P 2) : Int) = a := ⟨_, rfl⟩
        obtain ⟨n0, _⟩ := block_cell HNR.out 0 (.int .i64 (num (strAt P 0) : Int)) rfl
        obtain ⟨n1, _⟩ := block_cell HNR.out 1 (.int .i64 (num (strAt P 1) : Int)) rfl
        obtain ⟨n2, _⟩ := block_cell HNR.out 2 (.int .i64 (num (strAt P 2) : Int)) rfl
        rw [ha0] at n0
        rw [ha1] at n1
        rw [ha2] at n2
        have HA := Lib.hid (And.intro ha0 (And.intro ha1 ha2))
        clear ha0 ha1 ha2
        have HNR2 := Lib.hid (block_size HRX.out)
        have hg6 : wr.grownBy (wr.alloc (.cells #[.int .i64 a0, .int .i64 a1, .int .i64 a2, .slice none 0 0] 28)) none := World.grownBy_alloc wr _ none
        have HR6 := Lib.hid (block_kept HRX.out hg6)
        have HG6 := Lib.hid (World.grownBy.trans HGX.out hg6)
        have HV6 := Lib.hid (alloc_block wr (.cells #[.int .i64 a0, .int .i64 a1, .int .i64 a2, .slice none 0 0] 28))
        clear hg6
        cases marked with
        | false =>
          obtain ⟨r0, f0⟩ := block_cell HR6.out 0 _ rfl
          obtain ⟨r1, f1⟩ := block_cell HR6.out 1 _ rfl
          obtain ⟨r2, f2⟩ := block_cell HR6.out 2 _ rfl
          obtain ⟨r3, f3⟩ := block_cell HR6.out 3 _ rfl
          have e : Hid (parseS s = (⟨a0, a1, a2, []⟩, 0)) := by
            show _ = _
            rw [hE.out]
            unfold parseP okVer
            rw [HN.out, hall.out, HA.out.1, HA.out.2.1, HA.out.2.2]
            rfl
          go_wp2
          generalize hw9 : ((((wr.alloc _).setCell ⟨R, 0, none⟩ _).setCell ⟨R, 1, none⟩ _).setCell ⟨R, 2, none⟩ _).setCell ⟨R, 3, none⟩ _ = w9
          obtain ⟨G9, R9, S9, K9⟩ := lay_ver HG6.out (by rw [HR.out]; exact Nat.le_refl _) HR6.out _ _ _ _ w9 hw9
          obtain ⟨q0, _⟩ := block_cell R9 0 _ rfl
          obtain ⟨q1, _⟩ := block_cell R9 1 _ rfl
          obtain ⟨q2, _⟩ := block_cell R9 2 _ rfl
          obtain ⟨q3, _⟩ := block_cell R9 3 _ rfl
          refine bodyPost_ret (v := .tuple #[verV ⟨a0, a1, a2, []⟩ (.slice none 0 0), .int .i64 0]) (by simp [results, Tryz.results65, go_sem, q0, q1, q2, q3, verV]) rfl ⟨.slice none 0 0, by rw [e.out], ?_, G9⟩
          rw [e.out]
          exact PartS.nil (block_size R9 |> Nat.lt_of_le_of_lt (Nat.zero_le _))
        | true =>
          obtain ⟨M, hM⟩ : ∃ M, pieces 46 marks = M := ⟨_, rfl⟩
          obtain ⟨n, hn⟩ : ∃ n, M.length = n := ⟨_, rfl⟩
          have HPM := Lib.hid hM
          have HPN := Lib.hid hn
          have hnm : n ≤ 8000000 := by rw [← hn, ← hM]; have := pieces_le 46 marks; omega
          have HSM : Hid (∀ p ∈ M, p.size ≤ 8000000) := by
            intro p hp
            rw [← hM] at hp
            have := pieces_size 46 marks p hp
            omega
          clear hM hn
          go_wp2_with fail
          (with_reducible refine (split_any marks m n M _ (by omega) (HG6.out.cell HM.out (by simp)) HPM.out HPN.out).mono ?_)
          rintro ee w7 ⟨rfl, hw7⟩
          obtain ⟨vb, hvb⟩ : ∃ vb, wr.heap.size = vb := ⟨_, rfl⟩
          have hap2 : ∃ ap2 : Option Addr, some ⟨(wr.alloc (.cells #[.int .i64 a0, .int .i64 a1, .int .i64 a2, .slice none 0 0] 28)).heap.size, 0, none⟩ = ap2 := ⟨_, rfl⟩
          obtain ⟨ap2, hap2⟩ := hap2
          have hg7 : (wr.alloc (.cells #[.int .i64 a0, .int .i64 a1, .int .i64 a2, .slice none 0 0] 28)).grownBy w7 none := by rw [hw7]; exact World.grownBy_alloc _ _ _
          have HPp7 : Hid (PartS w7 w7.heap.size (.slice ap2 n n) M) := by
            have := part_block (wr.alloc (.cells #[.int .i64 a0, .int .i64 a1, .int .i64 a2, .slice none 0 0] 28)) M 9 n HPN.out
            rw [← hw7] at this
            rw [← hap2]
            exact this.le (by rw [hw7]; exact Nat.le_of_eq (alloc_size _ _).symm)
          have HOB : Hid ((Value.slice ap2 n n).ownBlock ≠ some vb) := by
            rw [← hap2, ← hvb]
            show some _ ≠ some _
            rw [alloc_size]; simp
          have HOR : Hid ((Value.slice ap2 n n).ownBlock ≠ some R) := by
            have := HNR2.out
            rw [← hap2]
            show some _ ≠ some _
            rw [alloc_size]; simp; omega
          have HR7 := Lib.hid (block_kept HR6.out hg7)
          have HG7 := Lib.hid (World.grownBy.trans HG6.out hg7)
          have HV7 := Lib.hid (block_kept HV6.out hg7)
          have HRV : Hid (R < vb) := by rw [← hvb]; exact HNR2.out
          rw [hap2]
          rw [hvb] at HV7 ⊢
          clear hg7 hw7 hap2 hvb HV6
          have hwv : w.heap.size ≤ vb := by rw [HR.out]; exact Nat.le_of_lt HRV.out
          have hs8 : w7.grownBy (w7.setCell ⟨vb, 3, none⟩ (.slice ap2 n n)) (some vb) := set_grown _ _ _ _
          have HR8 := Lib.hid (show (w7.setCell ⟨vb, 3, none⟩ (.slice ap2 n n)).heap[R]? = _ from (hs8.block R (block_size HR7.out) (by have := HRV.out; simp; omega)).trans HR7.out)
          have HP8 := Lib.hid (HPp7.out.other hs8 HOB.out)
          have HV8 := Lib.hid (show (w7.setCell ⟨vb, 3, none⟩ (.slice ap2 n n)).heap[vb]? = some (.cells #[.int .i64 a0, .int .i64 a1, .int .i64 a2, .slice ap2 n n] 28 (0, 0)) from set_block HV7.out 3 _)
          have HG8 := Lib.hid (grown_set HG7.out hwv 3 (.slice ap2 n n))
          obtain ⟨v3, fv3⟩ := block_cell HV7.out 3 _ rfl
          obtain ⟨v30, _⟩ := block_cell HV8.out 3 _ rfl
          clear hs8 hwv
          dsimp only
          go_wp2_with fail
          (with_reducible refine (goodMarks_any _ n n ap2 M _ HPN.out hnm HSM.out HP8.out).mono ?_)
          rintro ee w9 ⟨rfl, g9⟩
          dsimp only
          have HR9 := Lib.hid (block_kept HR8.out g9)
          have HV9 := Lib.hid (block_kept HV8.out g9)
          have HP9 := Lib.hid (HP8.out.stays g9)
          have HG9 := Lib.hid (World.grownBy.trans HG8.out g9)
          have HS9 := Lib.hid (show w7.heap.size ≤ w9.heap.size from Nat.le_trans (set_grown w7 vb 3 (.slice ap2 n n)).size g9.size)
          clear g9 v3 fv3 v30
          obtain ⟨r0, f0⟩ := block_cell HR9.out 0 _ rfl
          obtain ⟨r1, f1⟩ := block_cell HR9.out 1 _ rfl
          obtain ⟨r2, f2⟩ := block_cell HR9.out 2 _ rfl
          obtain ⟨r3, f3⟩ := block_cell HR9.out 3 _ rfl
          cases hok : okMarks M with
          | false =>
            have e : Hid (parseS s = (zeroV, 60)) := by
              show _ = _
              rw [hE.out]
              unfold parseP okVer
              rw [HN.out, hall.out, HPM.out, hok, if_neg (by simp)]
            go_wp2
            generalize hw10 : (((w9.setCell ⟨R, 0, none⟩ _).setCell ⟨R, 1, none⟩ _).setCell ⟨R, 2, none⟩ _).setCell ⟨R, 3, none⟩ _ = w10
            obtain ⟨G9, R9, S9, K9⟩ := lay_ver HG9.out (by rw [HR.out]; exact Nat.le_refl _) HR9.out _ _ _ _ w10 hw10
            obtain ⟨q0, _⟩ := block_cell R9 0 _ rfl
            obtain ⟨q1, _⟩ := block_cell R9 1 _ rfl
            obtain ⟨q2, _⟩ := block_cell R9 2 _ rfl
            obtain ⟨q3, _⟩ := block_cell R9 3 _ rfl
            refine bodyPost_ret (v := .tuple #[verV zeroV (.slice none 0 0), .int .i64 60]) (by simp [results, Tryz.results65, go_sem, q0, q1, q2, q3, verV, zeroV]) rfl ⟨.slice none 0 0, by rw [e.out], ?_, G9⟩
            rw [e.out]
            exact PartS.nil (block_size R9 |> Nat.lt_of_le_of_lt (Nat.zero_le _))
          | true =>
            have e : Hid (parseS s = (⟨a0, a1, a2, M⟩, 0)) := by
              show _ = _
              rw [hE.out]
              unfold parseP okVer preOf
              rw [HN.out, hall.out, HPM.out, hok, HA.out.1, HA.out.2.1, HA.out.2.2]
              rfl
            obtain ⟨v0, _⟩ := block_cell HV9.out 0 _ rfl
            obtain ⟨v1, _⟩ := block_cell HV9.out 1 _ rfl
            obtain ⟨v2, _⟩ := block_cell HV9.out 2 _ rfl
            obtain ⟨v3, _⟩ := block_cell HV9.out 3 _ rfl
            go_wp2
            generalize hw10 : (((w9.setCell ⟨R, 0, none⟩ _).setCell ⟨R, 1, none⟩ _).setCell ⟨R, 2, none⟩ _).setCell ⟨R, 3, none⟩ _ = w10
            obtain ⟨G9, R9, S9, K9⟩ := lay_ver HG9.out (by rw [HR.out]; exact Nat.le_refl _) HR9.out _ _ _ _ w10 hw10
            obtain ⟨q0, _⟩ := block_cell R9 0 _ rfl
            obtain ⟨q1, _⟩ := block_cell R9 1 _ rfl
            obtain ⟨q2, _⟩ := block_cell R9 2 _ rfl
            obtain ⟨q3, _⟩ := block_cell R9 3 _ rfl
            refine bodyPost_ret (v := .tuple #[verV ⟨a0, a1, a2, M⟩ (.slice ap2 n n), .int .i64 0]) (by simp [results, Tryz.results65, go_sem, q0, q1, q2, q3, verV]) rfl ⟨.slice ap2 n n, by rw [e.out], ?_, G9⟩
            rw [e.out]
            refine (HP9.out.other K9 ?_).le ?_
            · exact HOR.out
            · exact Nat.le_trans HS9.out S9
  · have hne : ¬ (N : Int) = 3 := by omega
    obtain ⟨r0, f0⟩ := block_cell HR2.out 0 _ rfl
    obtain ⟨r1, f1⟩ := block_cell HR2.out 1 _ rfl
    obtain ⟨r2, f2⟩ := block_cell HR2.out 2 _ rfl
    obtain ⟨r3, f3⟩ := block_cell HR2.out 3 _ rfl
    clear h3
    have e : Hid (parseS s = (zeroV, 60)) := by
      show _ = _
      rw [hE.out]
      unfold parseP okVer
      rw [HN.out, decide_eq_false (by omega : ¬ N = 3), if_neg (by simp)]
    go_wp2
    generalize hw9 : (((w2.setCell ⟨R, 0, none⟩ _).setCell ⟨R, 1, none⟩ _).setCell ⟨R, 2, none⟩ _).setCell ⟨R, 3, none⟩ _ = w9
    obtain ⟨G9, R9, S9, K9⟩ := lay_ver HG2.out (by rw [HR.out]; exact Nat.le_refl _) HR2.out _ _ _ _ w9 hw9
    obtain ⟨q0, _⟩ := block_cell R9 0 _ rfl
    obtain ⟨q1, _⟩ := block_cell R9 1 _ rfl
    obtain ⟨q2, _⟩ := block_cell R9 2 _ rfl
    obtain ⟨q3, _⟩ := block_cell R9 3 _ rfl
    refine bodyPost_ret (v := .tuple #[verV zeroV (.slice none 0 0), .int .i64 60]) (by simp [results, Tryz.results65, go_sem, q0, q1, q2, q3, verV, zeroV]) rfl ⟨.slice none 0 0, by rw [e.out], ?_, G9⟩
    rw [e.out]
    exact PartS.nil (block_size R9 |> Nat.lt_of_le_of_lt (Nat.zero_le _))
end Go.Proofs.YthdopcdllggdaaaGreatDoor
