/- Texts of one ground, in one file: A B C D E F G H I J K L N O P. -/
import Derived.Test.YthdopcdllggdaaaGreatDoorRows
import Derived.WalkKit
import Derived.WalkSpells
import Derived.Deep.QuietTactic
import Derived.BigQuiet
import Derived.Laws.BitsAllLaws
import Derived.Lib.Hide
import Derived.BigRegion
import Derived.Lib.RowBridge
import Derived.Sort.Row
import Derived.IntWalk
import Derived.Laws.AppendOwn
import Derived.Maps.AppendAt
import Derived.OwnWalk
import Derived.Deep.AppendLies
import Derived.Laws.CopyOwn
import Derived.Deep.MidRow
import Derived.Deep.RegionLaw
import Derived.Deep.WholeRow
import Derived.Deep.OwnRows
import Derived.Laws.Tables
import Derived.Laws.AppendOwnNone
import Derived.Outline
import Derived.Laws.IdiomStrings
namespace Go.Proofs.YthdopcdllggdaaaGreatDoor.Sha
open Go.RowKit

/-- x turned to the right by n bits. -/
def rt (n : Nat) (x : UInt32) : UInt32 := UInt32.ofNat (x.toNat / 2 ^ n ||| x.toNat * 2 ^ (32 - n) % 4294967296)

theorem u32_lt (x : UInt32) : (x.toNat : Int) < 4294967296 := by have := x.toNat_lt; omega

theorem or_lt (a b : Nat) (ha : a < 4294967296) (hb : b < 4294967296) : a ||| b < 4294967296 := by
  have := @Nat.or_lt_two_pow a b 32 ha hb
  simpa using this

theorem rt_nat (n m M : Nat) (x : UInt32) (hm : m = 2 ^ n) (hM : M = 2 ^ (32 - n)) :
    bits .or .u32 ((x.toNat : Int) / (m : Int)) ((x.toNat : Int) * (M : Int) % 4294967296) = ((rt n x).toNat : Int) := by
  have h1 : (x.toNat : Int) / (m : Int) = ((x.toNat / m : Nat) : Int) := by simp
  have h2 : (x.toNat : Int) * (M : Int) % 4294967296 = ((x.toNat * M % 4294967296 : Nat) : Int) := by simp
  have hx := x.toNat_lt
  have ha : x.toNat / m < 4294967296 := Nat.lt_of_le_of_lt (Nat.div_le_self _ _) hx
  have hb : x.toNat * M % 4294967296 < 4294967296 := Nat.mod_lt _ (by decide)
  rw [h1, h2, u32_or_nat _ _ ha hb]
  unfold rt
  subst hm hM
  rw [UInt32.toNat_ofNat_of_lt' (or_lt _ _ ha hb)]

theorem rt_nat' (n m M : Nat) (x : UInt32) (hm : m = 2 ^ n) (hM : M = 2 ^ (32 - n)) :
    bits .or .u32 ((x.toNat : Int) * (M : Int) % 4294967296) ((x.toNat : Int) / (m : Int)) = ((rt n x).toNat : Int) := by
  have h1 : (x.toNat : Int) / (m : Int) = ((x.toNat / m : Nat) : Int) := by simp
  have h2 : (x.toNat : Int) * (M : Int) % 4294967296 = ((x.toNat * M % 4294967296 : Nat) : Int) := by simp
  have hx := x.toNat_lt
  have ha : x.toNat / m < 4294967296 := Nat.lt_of_le_of_lt (Nat.div_le_self _ _) hx
  have hb : x.toNat * M % 4294967296 < 4294967296 := Nat.mod_lt _ (by decide)
  rw [h1, h2, u32_or_nat _ _ hb ha, Nat.or_comm]
  unfold rt
  subst hm hM
  rw [UInt32.toNat_ofNat_of_lt' (or_lt _ _ ha hb)]

/-- The places by which sha turns. -/
def turnB (k : Int) : Bool := [(-2 : Int), -6, -7, -11, -13, -17, -18, -19, -22, -25].contains k

def turnC (k : Int) : Bool := [(2 : Int), 6, 7, 11, 13, 17, 18, 19, 22, 25].contains k

end Go.Proofs.YthdopcdllggdaaaGreatDoor.Sha
namespace Go.Proofs.YthdopcdllggdaaaGreatDoor.Sha
open Go.RowKit Go.Sort

def encW (x : UInt32) : Value := .int .u32 (x.toNat : Int)
def encB (x : UInt8) : Value := .int .u8 (x.toNat : Int)

theorem alloc_set (w : World) (c : Array Value) (t : TypeId) (i : Nat) (v : Value) :
    (w.alloc (.cells c t)).setCell ⟨w.heap.size, i, none⟩ v = w.alloc (.cells (c.setIfInBounds i v) t) := by
  rw [setCell_eq]
  unfold mapBlock World.alloc
  congr 1
  apply Array.ext_getElem?
  intro k
  simp only [Array.getElem?_modify, Array.getElem?_push]
  by_cases hk : w.heap.size = k
  · subst hk; simp [onCells]
  · simp [hk, Ne.symm hk]

theorem alloc_cell (w : World) (c : Array Value) (t : TypeId) (i : Nat) : (w.alloc (.cells c t)).cell? ⟨w.heap.size, i, none⟩ = c[i]? := by
  simp [World.alloc, World.cell?, -World.alloc_eq]

theorem alloc_frozen (w : World) (c : Array Value) (t : TypeId) (i : Nat) : (w.alloc (.cells c t)).frozen? ⟨w.heap.size, i, none⟩ = false := by
  simp [World.alloc, World.frozen?, -World.alloc_eq]

theorem map_set (a : Array UInt32) (i : Nat) (x : UInt32) : (a.map encW).setIfInBounds i (encW x) = (a.setIfInBounds i x).map encW := by
  apply Array.ext_getElem?
  intro k
  simp only [Array.getElem?_setIfInBounds, Array.getElem?_map, Array.size_map]
  by_cases h : i = k
  · subst h; by_cases h2 : i < a.size <;> simp [h2]
  · simp [h]

theorem map_at (a : Array UInt32) (i : Nat) (h : i < a.size) : (a.map encW)[i]? = some (encW a[i]!) := by
  rw [Array.getElem?_map, Array.getElem?_eq_getElem h, Option.map_some, getElem!_pos a i h]

theorem add32 (a b : UInt32) : ((a.toNat : Int) + (b.toNat : Int)) % 4294967296 = ((a + b).toNat : Int) := by
  rw [UInt32.toNat_add]; simp
theorem xor32 (a b : UInt32) : bits .xor .u32 (a.toNat : Int) (b.toNat : Int) = ((a ^^^ b).toNat : Int) := by
  rw [u32_xor_nat _ _ a.toNat_lt b.toNat_lt, UInt32.toNat_xor]
theorem and32 (a b : UInt32) : bits .and .u32 (a.toNat : Int) (b.toNat : Int) = ((a &&& b).toNat : Int) := by
  rw [u32_and_nat _ _ a.toNat_lt b.toNat_lt, UInt32.toNat_and]
theorem shr3 (a : UInt32) : (a.toNat : Int) / (8 : Int) = ((a >>> 3).toNat : Int) := by
  rw [UInt32.toNat_shiftRight]; simp [Nat.shiftRight_eq_div_pow]
theorem shr10 (a : UInt32) : (a.toNat : Int) / (1024 : Int) = ((a >>> 10).toNat : Int) := by
  rw [UInt32.toNat_shiftRight]; simp [Nat.shiftRight_eq_div_pow]

/-- A callee that leaves the world alone, met behind draws that were made before. -/
theorem same_again {Q : Program} {f : FuncId} {xs : Array Value} {w : World} {m n : Nat} {v : Value}
    (h : Calls Q f xs (w.drewN (m + n)) fun e u => e = .returned v ∧ u = w.drewN (m + n)) :
    Calls Q f xs (w.drewN (m + n)) fun e u => e = .returned v ∧ ∃ k, u = w.drewN (m + k) :=
  h.mono fun _ _ hh => ⟨hh.1, n, hh.2⟩
theorem drawn_again {Q : Program} {f : FuncId} {xs : Array Value} {w : World} {m n : Nat} {v : Value}
    (h : Calls Q f xs (w.drewN (m + n)) fun e u => e = .returned v ∧ ∃ k, u = (w.drewN (m + n)).drewN k) :
    Calls Q f xs (w.drewN (m + n)) fun e u => e = .returned v ∧ ∃ k, u = w.drewN (m + k) :=
  h.mono fun _ _ hh => ⟨hh.1, hh.2.elim fun k hk => ⟨n + k, by rw [hk, World.drewN_drewN, Nat.add_assoc]⟩⟩

def word (P : Nat → UInt8) (k : Nat) : UInt32 := UInt32.ofNat ((((P (4 * k)).toNat * 16777216 ||| (P (4 * k + 1)).toNat * 65536) ||| (P (4 * k + 2)).toNat * 256) ||| (P (4 * k + 3)).toNat)

theorem word_eq (P : Nat → UInt8) (k : Nat) {c0 c1 c2 c3 : UInt8} (h0 : P (4 * k) = c0) (h1 : P (4 * k + 1) = c1) (h2 : P (4 * k + 2) = c2) (h3 : P (4 * k + 3) = c3) :
    bits .or .u32 (bits .or .u32 (bits .or .u32 ((c0.toNat : Int) * 16777216) ((c1.toNat : Int) * 65536)) ((c2.toNat : Int) * 256)) (c3.toNat : Int) = ((word P k).toNat : Int) := by
  subst h0 h1 h2 h3
  have b0 := (P (4 * k)).toNat_lt
  have b1 := (P (4 * k + 1)).toNat_lt
  have b2 := (P (4 * k + 2)).toNat_lt
  have b3 := (P (4 * k + 3)).toNat_lt
  unfold word
  have e0 : ((P (4 * k)).toNat : Int) * 16777216 = (((P (4 * k)).toNat * 16777216 : Nat) : Int) := by simp
  have e1 : ((P (4 * k + 1)).toNat : Int) * 65536 = (((P (4 * k + 1)).toNat * 65536 : Nat) : Int) := by simp
  have e2 : ((P (4 * k + 2)).toNat : Int) * 256 = (((P (4 * k + 2)).toNat * 256 : Nat) : Int) := by simp
  rw [e0, e1, e2, u32_or_nat _ _ (by omega) (by omega), u32_or_nat _ _ (or_lt _ _ (by omega) (by omega)) (by omega),
    u32_or_nat _ _ (or_lt _ _ (or_lt _ _ (by omega) (by omega)) (by omega)) (by omega),
    UInt32.toNat_ofNat_of_lt' (or_lt _ _ (or_lt _ _ (or_lt _ _ (by omega) (by omega)) (by omega)) (by omega))]

def sig0 (x : UInt32) : UInt32 := (rt 7 x ^^^ rt 18 x) ^^^ (x >>> 3)
def sig1 (x : UInt32) : UInt32 := (rt 17 x ^^^ rt 19 x) ^^^ (x >>> 10)
def later (D : Array UInt32) (i : Nat) : UInt32 := D[i - 16]! + sig0 D[i - 15]! + D[i - 7]! + sig1 D[i - 2]!
/-- The block's words, the first k of them laid. -/
def sch (P : Nat → UInt8) : Nat → Array UInt32
  | 0 => Array.replicate 64 0
  | k + 1 => (sch P k).setIfInBounds k (if k < 16 then word P k else later (sch P k) k)

theorem sch_size (P : Nat → UInt8) (k : Nat) : (sch P k).size = 64 := by
  induction k with
  | zero => simp [sch]
  | succ k ih => simp [sch, ih]
theorem sch_word (P : Nat → UInt8) (k : Nat) (h : k < 16) : sch P (k + 1) = (sch P k).setIfInBounds k (word P k) := by simp [sch, h]
theorem sch_later (P : Nat → UInt8) (k : Nat) (h : 16 ≤ k) : sch P (k + 1) = (sch P k).setIfInBounds k (later (sch P k) k) := by
  simp [sch, show ¬ k < 16 by omega]

/-- What is under way in the rounds. -/
structure St where
  a : UInt32
  b : UInt32
  c : UInt32
  d : UInt32
  e : UInt32
  f : UInt32
  g : UInt32
  h : UInt32

def big1 (e : UInt32) : UInt32 := (rt 6 e ^^^ rt 11 e) ^^^ rt 25 e
def big0 (a : UInt32) : UInt32 := (rt 2 a ^^^ rt 13 a) ^^^ rt 22 a
def choose (e f g : UInt32) : UInt32 := (e &&& f) ^^^ ((4294967295 ^^^ e) &&& g)
def most (a b c : UInt32) : UInt32 := ((a &&& b) ^^^ (a &&& c)) ^^^ (b &&& c)
def tOne (s : St) (k v : UInt32) : UInt32 := (((s.h + big1 s.e) + choose s.e s.f s.g) + k) + v
def tTwo (s : St) : UInt32 := big0 s.a + most s.a s.b s.c
def turnOnce (s : St) (k v : UInt32) : St := ⟨tOne s k v + tTwo s, s.a, s.b, s.c, s.d + tOne s k v, s.e, s.f, s.g⟩
def rounds (K W : Array UInt32) (s : St) : Nat → St
  | 0 => s
  | k + 1 => turnOnce (rounds K W s k) K[k]! W[k]!

/-- The constants of the rounds. -/
def table : Array UInt32 := #[1116352408, 1899447441, 3049323471, 3921009573, 961987163, 1508970993, 2453635748, 2870763221, 3624381080, 310598401, 607225278, 1426881987, 1925078388, 2162078206, 2614888103, 3248222580, 3835390401, 4022224774, 264347078, 604807628, 770255983, 1249150122, 1555081692, 1996064986, 2554220882, 2821834349, 2952996808, 3210313671, 3336571891, 3584528711, 113926993, 338241895, 666307205, 773529912, 1294757372, 1396182291, 1695183700, 1986661051, 2177026350, 2456956037, 2730485921, 2820302411, 3259730800, 3345764771, 3516065817, 3600352804, 4094571909, 275423344, 430227734, 506948616, 659060556, 883997877, 958139571, 1322822218, 1537002063, 1747873779, 1955562222, 2024104815, 2227730452, 2361852424, 2428436474, 2756734187, 3204031479, 3329325298]
theorem table_size : table.size = 64 := by rfl

/-- A sum's eight words behind one block more. -/
def mixed (s : St) (P : Nat → UInt8) : St :=
  let r := rounds table (sch P 64) s 64
  ⟨s.a + r.a, s.b + r.b, s.c + r.c, s.d + r.d, s.e + r.e, s.f + r.f, s.g + r.g, s.h + r.h⟩
def St.row (s : St) : Array UInt32 := #[s.a, s.b, s.c, s.d, s.e, s.f, s.g, s.h]

theorem not32 (a : UInt32) : bits .xor .u32 (if IntKind.u32.signed = true then -1 else IntKind.u32.max) (a.toNat : Int) = ((4294967295 ^^^ a : UInt32).toNat : Int) := by
  rw [if_neg (by decide)]
  exact xor32 4294967295 a

theorem sum5 (a b c d e : UInt32) : ((a.toNat : Int) + b.toNat + c.toNat + d.toNat + e.toNat) % 4294967296 = ((a + b + c + d + e : UInt32).toNat : Int) := by
  simp only [UInt32.toNat_add]; simp only [Int.natCast_emod, Int.natCast_add]; simp
theorem sum4 (a b c d : UInt32) : ((a.toNat : Int) + b.toNat + c.toNat + d.toNat) % 4294967296 = ((a + b + c + d : UInt32).toNat : Int) := by
  simp only [UInt32.toNat_add]; simp only [Int.natCast_emod, Int.natCast_add]; simp

theorem later_eq (x16 x15 x7 x2 : UInt32) :
    ((x16.toNat : Int) + bits BinOp.xor IntKind.u32 (bits BinOp.xor IntKind.u32 ((rt 7 x15).toNat : Int) ((rt 18 x15).toNat : Int)) ((x15.toNat : Int) / 8) + (x7.toNat : Int) +
      bits BinOp.xor IntKind.u32 (bits BinOp.xor IntKind.u32 ((rt 17 x2).toNat : Int) ((rt 19 x2).toNat : Int)) ((x2.toNat : Int) / 1024)) % 4294967296 = ((x16 + sig0 x15 + x7 + sig1 x2 : UInt32).toNat : Int) := by
  rw [shr3, shr10, xor32, xor32, xor32, xor32, sum4]; rfl

theorem one_eq (a b c d e f g h kk vv : UInt32) :
    ((h.toNat : Int) + bits BinOp.xor IntKind.u32 (bits BinOp.xor IntKind.u32 ((rt 6 e).toNat : Int) ((rt 11 e).toNat : Int)) ((rt 25 e).toNat : Int) +
      bits BinOp.xor IntKind.u32 (bits BinOp.and IntKind.u32 (e.toNat : Int) (f.toNat : Int)) (bits BinOp.and IntKind.u32 (bits BinOp.xor IntKind.u32 (if IntKind.u32.signed = true then -1 else IntKind.u32.max) (e.toNat : Int)) (g.toNat : Int)) +
      (kk.toNat : Int) + (vv.toNat : Int)) % 4294967296 = ((tOne ⟨a, b, c, d, e, f, g, h⟩ kk vv).toNat : Int) := by
  rw [not32, xor32, xor32, and32, and32, xor32, sum5]; rfl

theorem two_eq (a b c d e f g h : UInt32) :
    (bits BinOp.xor IntKind.u32 (bits BinOp.xor IntKind.u32 ((rt 2 a).toNat : Int) ((rt 13 a).toNat : Int)) ((rt 22 a).toNat : Int) +
      bits BinOp.xor IntKind.u32 (bits BinOp.xor IntKind.u32 (bits BinOp.and IntKind.u32 (a.toNat : Int) (b.toNat : Int)) (bits BinOp.and IntKind.u32 (a.toNat : Int) (c.toNat : Int))) (bits BinOp.and IntKind.u32 (b.toNat : Int) (c.toNat : Int))) % 4294967296 =
      ((tTwo ⟨a, b, c, d, e, f, g, h⟩).toNat : Int) := by
  rw [and32, and32, and32, xor32, xor32, xor32, xor32, add32]; rfl
/-- Eight stores into the words of a sum. -/
theorem eight (w : World) (b : Nat) (x y : St) (hH : Holds encW w b 0 x.row) :
    ((((((((w.setCell ⟨b, 0, none⟩ (encW y.a)).setCell ⟨b, 1, none⟩ (encW y.b)).setCell ⟨b, 2, none⟩ (encW y.c)).setCell ⟨b, 3, none⟩ (encW y.d)).setCell ⟨b, 4, none⟩ (encW y.e)).setCell ⟨b, 5, none⟩ (encW y.f)).setCell ⟨b, 6, none⟩ (encW y.g)).setCell ⟨b, 7, none⟩ (encW y.h)) =
      putRow encW w b 0 y.row := by
  have h : ∀ (d : Array UInt32) (i : Nat) (v : UInt32), i < d.size → (putRow encW w b 0 d).setCell ⟨b, i, none⟩ (encW v) = putRow encW w b 0 (d.setIfInBounds i v) := by
    intro d i v hi
    have := putRow_set encW w b 0 d i v hi
    rwa [Nat.zero_add] at this
  have k : ∀ (d : Array UInt32) (v : World), putRow encW w b 0 d = v → d.size = 8 →
      ((((((((v.setCell ⟨b, 0, none⟩ (encW y.a)).setCell ⟨b, 1, none⟩ (encW y.b)).setCell ⟨b, 2, none⟩ (encW y.c)).setCell ⟨b, 3, none⟩ (encW y.d)).setCell ⟨b, 4, none⟩ (encW y.e)).setCell ⟨b, 5, none⟩ (encW y.f)).setCell ⟨b, 6, none⟩ (encW y.g)).setCell ⟨b, 7, none⟩ (encW y.h)) =
        putRow encW w b 0 ((((((((d.setIfInBounds 0 y.a).setIfInBounds 1 y.b).setIfInBounds 2 y.c).setIfInBounds 3 y.d).setIfInBounds 4 y.e).setIfInBounds 5 y.f).setIfInBounds 6 y.g).setIfInBounds 7 y.h) := by
    intro d v hv hd
    subst hv
    rw [h _ 0 _ (by omega), h _ 1 _ (by simp; omega), h _ 2 _ (by simp; omega), h _ 3 _ (by simp; omega), h _ 4 _ (by simp; omega), h _ 5 _ (by simp; omega), h _ 6 _ (by simp; omega), h _ 7 _ (by simp; omega)]
  have r : ((((((((x.row.setIfInBounds 0 y.a).setIfInBounds 1 y.b).setIfInBounds 2 y.c).setIfInBounds 3 y.d).setIfInBounds 4 y.e).setIfInBounds 5 y.f).setIfInBounds 6 y.g).setIfInBounds 7 y.h) = y.row := by
    simp [St.row]
  have k1 := k x.row w (putRow_self encW w b 0 x.row hH) rfl
  rw [r] at k1
  exact k1

theorem eight_drawn (w : World) (b q : Nat) (x : St) (a1 b1 c1 d1 e1 f1 g1 h1 : UInt32) (hH : Holds encW w b 0 x.row) :
    ((((((((((w.drewN q).setCell ⟨b, 0, none⟩ (.int .u32 (a1.toNat : Int))).setCell ⟨b, 1, none⟩ (.int .u32 (b1.toNat : Int))).setCell ⟨b, 2, none⟩ (.int .u32 (c1.toNat : Int))).setCell ⟨b, 3, none⟩ (.int .u32 (d1.toNat : Int))).setCell ⟨b, 4, none⟩ (.int .u32 (e1.toNat : Int))).setCell ⟨b, 5, none⟩ (.int .u32 (f1.toNat : Int))).setCell ⟨b, 6, none⟩ (.int .u32 (g1.toNat : Int))).setCell ⟨b, 7, none⟩ (.int .u32 (h1.toNat : Int)))).drew.drew.drew.drew.drew.drew.drew.drew =
      (putRow encW w b 0 (St.row ⟨a1, b1, c1, d1, e1, f1, g1, h1⟩)).drewN (q + 8) := by
  rw [← eight w b x ⟨a1, b1, c1, d1, e1, f1, g1, h1⟩ hH]
  have e : ∀ (v : World) (p : Addr) (y : Value), (v.drewN q).setCell p y = (v.setCell p y).drewN q := fun _ _ _ => rfl
  have e2 : ∀ (v : World) (m : Nat), (v.drewN m).drew = v.drewN (m + 1) := fun _ _ => rfl
  rw [e, e, e, e, e, e, e, e, e2, e2, e2, e2, e2, e2, e2, e2]
  simp only [encW, Nat.add_assoc, Nat.reduceAdd]

theorem holds_alloc {w : World} {b : Nat} {d : Array UInt32} (c : Array Value) (t : TypeId) (h : Holds encW w b 0 d) (hb : b < w.heap.size) : Holds encW (w.alloc (.cells c t)) b 0 d := fun j hj =>
  ⟨by rw [World.cell?_alloc_old _ _ _ (Nat.ne_of_lt hb)]; exact (h j hj).1, by rw [World.frozen?_alloc_old _ _ _ (Nat.ne_of_lt hb)]; exact (h j hj).2⟩
end Go.Proofs.YthdopcdllggdaaaGreatDoor.Sha
namespace Go.Proofs.YthdopcdllggdaaaGreatDoor.Sha
open Go.RowKit Go.Sort

end Go.Proofs.YthdopcdllggdaaaGreatDoor.Sha
namespace Go.Proofs.YthdopcdllggdaaaGreatDoor.Sha
open Go.RowKit Go.Sort

/-- The cells of a sum under way. -/
def obj (s : St) (R : Array UInt8) (f n : Nat) : Array Value := (s.row.map encW ++ R.map encB) ++ #[.int .i64 (f : Int), .int .u64 (n : Int)]

theorem row_size (s : St) : s.row.size = 8 := rfl
theorem obj_size (s : St) (R : Array UInt8) (f n : Nat) (hR : R.size = 64) : (obj s R f n).size = 74 := by
  simp [obj, row_size, hR]
theorem obj_row (s : St) (R : Array UInt8) (f n j : Nat) (h : j < 8) : (obj s R f n)[j]? = some (encW s.row[j]!) := by
  unfold obj
  rw [Array.getElem?_append_left (by simp [row_size]; omega), Array.getElem?_append_left (by simp [row_size]; omega), map_at _ _ (by rw [row_size]; exact h)]
theorem obj_rest (s : St) (R : Array UInt8) (f n j : Nat) (hR : R.size = 64) (h : j < 64) : (obj s R f n)[8 + j]? = some (encB R[j]!) := by
  unfold obj
  rw [Array.getElem?_append_left (by simp [row_size, hR]; omega), Array.getElem?_append_right (by simp [row_size])]
  simp only [Array.size_map, row_size, Nat.add_sub_cancel_left, Array.getElem?_map]
  rw [Array.getElem?_eq_getElem (by omega), Option.map_some, getElem!_pos R j (by omega)]
theorem obj_filled (s : St) (R : Array UInt8) (f n : Nat) (hR : R.size = 64) : (obj s R f n)[72]? = some (.int .i64 (f : Int)) := by
  unfold obj
  rw [Array.getElem?_append_right (by simp [row_size, hR])]
  simp [row_size, hR]
theorem obj_length (s : St) (R : Array UInt8) (f n : Nat) (hR : R.size = 64) : (obj s R f n)[73]? = some (.int .u64 (n : Int)) := by
  unfold obj
  rw [Array.getElem?_append_right (by simp [row_size, hR])]
  simp [row_size, hR]
theorem obj_set_length (s : St) (R : Array UInt8) (f n m : Nat) (hR : R.size = 64) : (obj s R f n).setIfInBounds 73 (.int .u64 (m : Int)) = obj s R f m := by
  unfold obj
  rw [Array.setIfInBounds_append_right (by simp [row_size, hR])]
  simp [row_size, hR]
theorem obj_set_filled (s : St) (R : Array UInt8) (f n m : Nat) (hR : R.size = 64) : (obj s R f n).setIfInBounds 72 (.int .i64 (m : Int)) = obj s R m n := by
  unfold obj
  rw [Array.setIfInBounds_append_right (by simp [row_size, hR])]
  simp [row_size, hR]

theorem cell_in {w : World} {b : Nat} {c : Array Value} {t : TypeId} (h : w.heap[b]? = some (.cells c t (0, 0))) (j : Nat) : w.cell? ⟨b, j, none⟩ = c[j]? := by
  simp [World.cell?, h]
theorem free_in {w : World} {b : Nat} {c : Array Value} {t : TypeId} (h : w.heap[b]? = some (.cells c t (0, 0))) (j : Nat) : w.frozen? ⟨b, j, none⟩ = false := by
  simp [World.frozen?, h]

theorem put_row (s t : St) (R : Array UInt8) (f n : Nat) : putCells encW 0 t.row (obj s R f n) = obj t R f n := by
  apply Array.ext_getElem?
  intro k
  simp only [putCells, Array.getElem?_mapIdx]
  by_cases hk : k < 8
  · rw [obj_row s R f n k hk, obj_row t R f n k hk, Option.map_some, if_pos (by rw [row_size]; omega)]; rfl
  · have g : ∀ v : St, (obj v R f n)[k]? = (R.map encB ++ #[Value.int .i64 (f : Int), Value.int .u64 (n : Int)])[k - 8]? := by
      intro v
      unfold obj
      rw [Array.append_assoc, Array.getElem?_append_right (by simp [row_size]; omega)]
      simp only [Array.size_map, row_size]
    have e : (obj s R f n)[k]? = (obj t R f n)[k]? := by rw [g, g]
    rw [e]
    cases (obj t R f n)[k]? with
    | none => rfl
    | some y => simp only [Option.map_some]; rw [if_neg (by rw [row_size]; omega)]

end Go.Proofs.YthdopcdllggdaaaGreatDoor.Sha
namespace Go.Proofs.YthdopcdllggdaaaGreatDoor.Sha
open Go.RowKit Go.Sort

theorem grown_set (w : World) (b j : Nat) (v : Value) : w.grownBy (w.setCell ⟨b, j, none⟩ v) (some b) :=
  ⟨rfl, rfl, rfl, by simp [World.setCell], fun k _ hne => by
    show (w.heap.modify b _)[k]? = _
    rw [Array.getElem?_modify, if_neg (by intro e; exact hne (by rw [e]))]⟩
theorem lies_cells {w : World} {b : Nat} {c : Array Value} {t : TypeId} (j : Nat) (v : Value) (h : w.heap[b]? = some (.cells c t (0, 0))) :
    (w.setCell ⟨b, j, none⟩ v).heap[b]? = some (.cells (c.setIfInBounds j v) t (0, 0)) := by
  show (w.heap.modify b _)[b]? = _
  rw [Array.getElem?_modify, if_pos rfl, h, Option.map_some]
  rfl
/-- Whole blocks, mixed in one behind another. -/
def blocks (P : Nat → UInt8) (s : St) : Nat → St
  | 0 => s
  | k + 1 => mixed (blocks P s k) (fun j => P (64 * k + j))
def bytesOf (P : Nat → UInt8) (from_ cnt : Nat) : List UInt8 := (List.range cnt).map fun j => P (from_ + j)
/-- l laid over R from place g on. -/
def lay (R : Array UInt8) (g : Nat) (l : List UInt8) : Array UInt8 := (R.toList.take g ++ (l ++ R.toList.drop (g + l.length))).toArray
theorem lay_size (R : Array UInt8) (g : Nat) (l : List UInt8) (hR : R.size = 64) (h : g + l.length ≤ 64) : (lay R g l).size = 64 := by
  simp [lay, hR]; omega
theorem lay_nil (R : Array UInt8) : lay R 0 [] = R := by simp [lay]
theorem obj_lay (s : St) (R : Array UInt8) (f n g : Nat) (l : List UInt8) (hR : R.size = 64) (h : g + l.length ≤ 64) :
    ((obj s R f n).toList.take (8 + g) ++ (l.map encB ++ (obj s R f n).toList.drop (8 + g + (l.map encB).length))).toArray = obj s (lay R g l) f n := by
  apply Array.ext'
  have hA : (s.row.map encW).toList.length = 8 := by simp [row_size]
  have e1 : (obj s R f n).toList = (s.row.map encW).toList ++ (R.toList.map encB ++ [Value.int .i64 (f : Int), Value.int .u64 (n : Int)]) := by simp [obj]
  have e2 : (obj s (lay R g l) f n).toList = (s.row.map encW).toList ++ ((R.toList.take g ++ (l ++ R.toList.drop (g + l.length))).map encB ++ [Value.int .i64 (f : Int), Value.int .u64 (n : Int)]) := by simp [obj, lay]
  have hRl : R.toList.length = 64 := by simpa using hR
  rw [e2, List.toList_toArray, e1]
  generalize (s.row.map encW).toList = A at *
  have t1 : List.take (8 + g) (A ++ (R.toList.map encB ++ [Value.int .i64 (f : Int), Value.int .u64 (n : Int)])) = A ++ (R.toList.take g).map encB := by
    rw [← hA, List.take_length_add_append, List.take_append_of_le_length (by simp; omega), List.map_take]
  have t2 : List.drop (8 + g + (l.map encB).length) (A ++ (R.toList.map encB ++ [Value.int .i64 (f : Int), Value.int .u64 (n : Int)])) = (R.toList.drop (g + l.length)).map encB ++ [Value.int .i64 (f : Int), Value.int .u64 (n : Int)] := by
    rw [List.length_map, ← hA, Nat.add_assoc, List.drop_length_add_append, List.drop_append_of_le_length (by simp; omega), List.map_drop]
  rw [t1, t2]
  simp

theorem grown_row (w : World) (b : Nat) (c : Array Value) : w.grownBy (w.setRow b c) (some b) :=
  ⟨rfl, rfl, rfl, by simp [World.setRow], fun k _ hne => setRow_other w b k c (fun e => hne (by rw [e]))⟩

theorem info5 : (Tryz.prog.info? 5).map (·.size) = some 1 := by kernel_rfl
def lenOf : Value → Nat
  | .slice _ m _ => m
  | _ => 0

end Go.Proofs.YthdopcdllggdaaaGreatDoor.Sha
namespace Go.Proofs.YthdopcdllggdaaaGreatDoor.Sha
open Go.RowKit Go.Sort

/-- copy into a row that is known whole, as one step of a region that draws its order. -/
theorem step_row {Q0 : Program} {ops : Array Oper} {o : Oper} {a : Act} {w : World} {K : Act → World → Prop} {Q : Exit → Act → World → Prop} {E : Prop} (hgd : o.guard = none) (d s : Operand) (dT sT : TypeId)
    (ho : o.op = .call { callee := .builtin .copy, args := #[d, s], argTypes := #[dT, sT] }) (elem : TypeId) (hu : Q0.underlying dT = some (.slice elem)) (hsz : (Q0.info? elem).map (·.size) = some 1)
    (g off dLen dCap : Nat) (ad : Addr) (sLen sCap : Nat) (hd : a.eval d = .slice (some ⟨g, off, none⟩) dLen dCap) (hs : a.eval s = .slice (some ad) sLen sCap)
    (cur : Array Value) (t : TypeId) (hg : w.heap[g]? = some (.cells cur t (0, 0))) (cs : List Value) (hn : cs.length = Nat.min sLen dLen)
    (hsrc : ∀ j v, cs[j]? = some v → w.cell? (ad.add j) = some v) (hfit : off + cs.length ≤ cur.size) (h1 : ∀ v ∈ cs, v.oneCell' = true)
    (h : K (a.put o.dst (goInt cs.length)) (w.setRow g (cur.toList.take off ++ (cs ++ cur.toList.drop (off + cs.length))).toArray)) :
    if Region.wanted o (yielded ops a.tmps) = true then Oper.wp Q0 o a w K Q else E := by
  rw [if_pos (by simp [Region.wanted, hgd])]
  have hrun := run_copy_row (P := Q0) w dT sT o.type elem g off dLen dCap ad sLen sCap cur t cs hu hsz hg hn hsrc hfit h1
  unfold Oper.wp
  simp [execOp, ho, resolve, invoke, builtin, hd, hs, hrun, Result.andThen]
  exact h

/-- .. where there is nothing to copy. -/
theorem step_nothing {Q0 : Program} {ops : Array Oper} {o : Oper} {a : Act} {w : World} {K : Act → World → Prop} {Q : Exit → Act → World → Prop} {E : Prop} (hgd : o.guard = none) (d s : Operand) (dT sT : TypeId)
    (ho : o.op = .call { callee := .builtin .copy, args := #[d, s], argTypes := #[dT, sT] }) (elem : TypeId) (hu : Q0.underlying dT = some (.slice elem)) (hsz : (Q0.info? elem).map (·.size) = some 1)
    (dp sp : Option Addr) (dLen dCap sLen sCap : Nat) (hd : a.eval d = .slice dp dLen dCap) (hs : a.eval s = .slice sp sLen sCap) (hn : Nat.min sLen dLen = 0)
    (h : K (a.put o.dst (goInt 0)) w) :
    if Region.wanted o (yielded ops a.tmps) = true then Oper.wp Q0 o a w K Q else E := by
  rw [if_pos (by simp [Region.wanted, hgd])]
  have hrun := run_copy_none (P := Q0) w dT sT o.type elem dp sp dLen dCap sLen sCap hu hsz hn
  unfold Oper.wp
  simp [execOp, ho, resolve, invoke, builtin, hd, hs, hrun, Result.andThen]
  exact h

end Go.Proofs.YthdopcdllggdaaaGreatDoor.Sha
namespace Go.Proofs.YthdopcdllggdaaaGreatDoor.Sha
open Go.RowKit Go.Sort

end Go.Proofs.YthdopcdllggdaaaGreatDoor.Sha
namespace Go.Proofs.YthdopcdllggdaaaGreatDoor.Sha
open Go.RowKit Go.Sort

theorem word_congr (P Q : Nat → UInt8) (k : Nat) (hk : k < 16) (h : ∀ j, j < 64 → P j = Q j) : word P k = word Q k := by
  unfold word
  rw [h (4 * k) (by omega), h (4 * k + 1) (by omega), h (4 * k + 2) (by omega), h (4 * k + 3) (by omega)]
theorem sch_congr (P Q : Nat → UInt8) (h : ∀ j, j < 64 → P j = Q j) (k : Nat) : sch P k = sch Q k := by
  induction k with
  | zero => rfl
  | succ k ih =>
    by_cases hk : k < 16
    · rw [sch_word P k hk, sch_word Q k hk, ih, word_congr P Q k hk h]
    · rw [sch_later P k (by omega), sch_later Q k (by omega), ih]
theorem mixed_congr (s : St) (P Q : Nat → UInt8) (h : ∀ j, j < 64 → P j = Q j) : mixed s P = mixed s Q := by
  unfold mixed
  rw [sch_congr P Q h]
theorem blocks_congr (P Q : Nat → UInt8) (s : St) (k : Nat) (h : ∀ j, j < 64 * k → P j = Q j) : blocks P s k = blocks Q s k := by
  induction k with
  | zero => rfl
  | succ k ih =>
    unfold blocks
    rw [ih fun j hj => h j (by omega)]
    exact mixed_congr _ _ _ fun j hj => h (64 * k + j) (by omega)
theorem blocks_add (P : Nat → UInt8) (s : St) (q k : Nat) : blocks P s (q + k) = blocks (fun j => P (64 * q + j)) (blocks P s q) k := by
  induction k with
  | zero => rfl
  | succ k ih =>
    show mixed (blocks P s (q + k)) _ = mixed _ _
    rw [ih]
    exact mixed_congr _ _ _ fun j _ => by show P (64 * (q + k) + j) = P (64 * q + (64 * k + j)); rw [show 64 * (q + k) + j = 64 * q + (64 * k + j) by omega]

def init : St := ⟨1779033703, 3144134277, 1013904242, 2773480762, 1359893119, 2600822924, 528734635, 1541459225⟩
/-- Where a list's whole blocks lead. -/
def sumSt (L : List UInt8) : St := blocks (fun j => L.getD j 0) init (L.length / 64)
theorem getD_left (L M : List UInt8) (j : Nat) (h : j < L.length) : (L ++ M).getD j 0 = L.getD j 0 := by
  simp [List.getD_eq_getElem?_getD, List.getElem?_append_left h]
theorem getD_right (L M : List UInt8) (j : Nat) : (L ++ M).getD (L.length + j) 0 = M.getD j 0 := by
  simp [List.getD_eq_getElem?_getD, List.getElem?_append_right]

theorem lay_at (R : Array UInt8) (g j : Nat) (l : List UInt8) (hR : R.size = 64) (h : g + l.length ≤ 64) (hj : j < g + l.length) :
    (lay R g l)[j]! = if j < g then R[j]! else l.getD (j - g) 0 := by
  have hRl : R.toList.length = 64 := by simpa using hR
  have hs := lay_size R g l hR h
  rw [getElem!_pos _ j (by rw [hs]; omega)]
  have e : (lay R g l)[j]? = if j < g then R[j]? else l[j - g]? := by
    unfold lay
    simp only [List.getElem?_toArray]
    by_cases h1 : j < g
    · rw [if_pos h1, List.getElem?_append_left (by simp; omega), List.getElem?_take, if_pos h1]; simp
    · rw [if_neg h1, List.getElem?_append_right (by simp; omega), List.getElem?_append_left (by simp; omega)]
      congr 1
      simp; omega
  rw [Array.getElem?_eq_getElem (by rw [hs]; omega)] at e
  by_cases h1 : j < g
  · rw [if_pos h1] at e ⊢
    rw [getElem!_pos R j (by omega)]
    rw [Array.getElem?_eq_getElem (by omega)] at e
    exact Option.some.inj e
  · rw [if_neg h1] at e ⊢
    rw [List.getD_eq_getElem?_getD, ← e]; rfl

theorem bytesOf_at (P : Nat → UInt8) (a n j : Nat) (h : j < n) : (bytesOf P a n).getD j 0 = P (a + j) := by
  simp [bytesOf, List.getD_eq_getElem?_getD, List.getElem?_range h]
theorem bytesOf_len (P : Nat → UInt8) (a n : Nat) : (bytesOf P a n).length = n := by simp [bytesOf]

end Go.Proofs.YthdopcdllggdaaaGreatDoor.Sha
namespace Go.Proofs.YthdopcdllggdaaaGreatDoor.Sha
open Go.RowKit Go.Sort
def zeros : Array Value := obj ⟨0, 0, 0, 0, 0, 0, 0, 0⟩ (Array.replicate 64 0) 0 0
/-- A sum's cells at its start. -/
def fresh : Array Value := obj init (Array.replicate 64 0) 0 0
theorem zeros_size : zeros.size = 74 := by kernel_rfl
theorem fresh_size : fresh.size = 74 := by kernel_rfl
theorem fresh_one : fresh.all (·.oneCell') = true := by kernel_rfl
theorem fresh_of : ((((((((zeros.setIfInBounds 0 (Value.int IntKind.u32 1779033703)).setIfInBounds 1 (Value.int IntKind.u32 3144134277)).setIfInBounds 2 (Value.int IntKind.u32 1013904242)).setIfInBounds 3 (Value.int IntKind.u32 2773480762)).setIfInBounds 4 (Value.int IntKind.u32 1359893119)).setIfInBounds 5 (Value.int IntKind.u32 2600822924)).setIfInBounds 6 (Value.int IntKind.u32 528734635)).setIfInBounds 7 (Value.int IntKind.u32 1541459225)) = fresh := by kernel_rfl
end Go.Proofs.YthdopcdllggdaaaGreatDoor.Sha
namespace Go.Proofs.YthdopcdllggdaaaGreatDoor.Sha
open Go.RowKit Go.Sort

theorem alloc_size (w : World) (o : Obj) : (w.alloc o).heap.size = w.heap.size + 1 := by
  show (w.heap.push o).size = _
  simp
theorem alloc2_set (w : World) (A B : Array Value) (t u : TypeId) (i : Nat) (v : Value) :
    ((w.alloc (.cells A t)).alloc (.cells B u)).setCell ⟨w.heap.size + 1, i, none⟩ v = (w.alloc (.cells A t)).alloc (.cells (B.setIfInBounds i v) u) := by
  have := alloc_set (w.alloc (.cells A t)) B u i v
  rwa [alloc_size] at this
theorem map_setB (a : Array UInt8) (i : Nat) (x : UInt8) : (a.map encB).setIfInBounds i (encB x) = (a.setIfInBounds i x).map encB := by
  apply Array.ext_getElem?
  intro k
  simp only [Array.getElem?_setIfInBounds, Array.getElem?_map, Array.size_map]
  by_cases h : i = k
  · subst h; by_cases h2 : i < a.size <;> simp [h2]
  · simp [h]

/-- What is put behind a text: a bit, noughts; k bytes of how many bits there were. -/
def tailA (c n : Nat) : Nat → Array UInt8
  | 0 => (Array.replicate (c + 8) 0).setIfInBounds 0 128
  | k + 1 => (tailA c n k).setIfInBounds (c + k) (UInt8.ofNat (n * 8 / 2 ^ (56 - 8 * k)))
theorem tailA_size (c n k : Nat) : (tailA c n k).size = c + 8 := by
  induction k with
  | zero => simp [tailA]
  | succ k ih => simp [tailA, ih]

theorem made_zero (m : Nat) : Go.madeCells #[Value.int .u8 0] m = (Array.replicate m (0 : UInt8)).map encB := by
  apply Array.ext
  · simp [Go.madeCells]
  · intro i h1 h2
    simp [Go.madeCells, Nat.mod_one, encB]
theorem zero32 : (Array.replicate 32 (0 : UInt8)).map encB = #[Value.int IntKind.u8 0, Value.int IntKind.u8 0, Value.int IntKind.u8 0, Value.int IntKind.u8 0,
          Value.int IntKind.u8 0, Value.int IntKind.u8 0, Value.int IntKind.u8 0, Value.int IntKind.u8 0,
          Value.int IntKind.u8 0, Value.int IntKind.u8 0, Value.int IntKind.u8 0, Value.int IntKind.u8 0,
          Value.int IntKind.u8 0, Value.int IntKind.u8 0, Value.int IntKind.u8 0, Value.int IntKind.u8 0,
          Value.int IntKind.u8 0, Value.int IntKind.u8 0, Value.int IntKind.u8 0, Value.int IntKind.u8 0,
          Value.int IntKind.u8 0, Value.int IntKind.u8 0, Value.int IntKind.u8 0, Value.int IntKind.u8 0,
          Value.int IntKind.u8 0, Value.int IntKind.u8 0, Value.int IntKind.u8 0, Value.int IntKind.u8 0,
          Value.int IntKind.u8 0, Value.int IntKind.u8 0, Value.int IntKind.u8 0, Value.int IntKind.u8 0] := by kernel_rfl
theorem byte_of (x : Nat) : ((x : Int) % 256) = ((UInt8.ofNat x).toNat : Int) := by
  simp

/-- What end puts behind L. -/
def padOf (L : List UInt8) : List UInt8 := (tailA (64 - (L.length % 64 + 8) % 64) L.length 8).toList
/-- A sum's words as bytes. -/
def keyA (s : St) : Nat → Array UInt8
  | 0 => Array.replicate 32 0
  | k + 1 => ((((keyA s k).setIfInBounds (4 * k) (UInt8.ofNat ((s.row[k]!).toNat / 16777216))).setIfInBounds (4 * k + 1) (UInt8.ofNat ((s.row[k]!).toNat / 65536))).setIfInBounds (4 * k + 2) (UInt8.ofNat ((s.row[k]!).toNat / 256))).setIfInBounds (4 * k + 3) (UInt8.ofNat ((s.row[k]!).toNat))
theorem keyA_size (s : St) (k : Nat) : (keyA s k).size = 32 := by
  induction k with
  | zero => simp [keyA]
  | succ k ih => simp [keyA, ih]
/-- The document's sum of a list. -/
def digest (L : List UInt8) : Array UInt8 := keyA (sumSt (L ++ padOf L)) 8

theorem index_bytes (cs : Array Value) (k : Nat) (v : Value) (hk : k < 32) (hv : cs[k]? = some v) (W : World) :
    Sem.run Tryz.prog (Instr.index 33 (.agg cs) (.int .i64 (k : Int))) W = .ok v W := by
  have hs : (sizeOf 5).run Tryz.prog W = .ok 1 W := by kernel_rfl
  have ha : (isAgg 5).run Tryz.prog W = .ok false W := by kernel_rfl
  simp [Instr.index, asIntOf, run_underlying Tryz.underlying33, hs, ha, hk, part, hv, Result.andThen]

theorem storeCells_row (w : World) (g : Nat) (t ty : TypeId) (old new : Array Value) (hg : w.heap[g]? = some (.cells old t (0, 0))) (hi : (Tryz.prog.info? ty).map (·.size) = some new.size) (ho : old.size = new.size) (h1 : new.all (·.oneCell') = true) :
    (storeCells ⟨g, 0, none⟩ new.toList 0).run Tryz.prog w = .ok () (w.setRow g new) := by
  have := run_storeVar_row (P := Tryz.prog) w g t ty old new hg hi ho h1
  cases hq : Tryz.prog.info? ty with
  | none => simp [hq] at hi
  | some i =>
    have hs : new.size = i.size := by simp [hq] at hi; omega
    simpa [storeVar, sizeOf, typeInfo, hq, Value.cells, hs] using this

theorem info26 : (Tryz.prog.info? 33).map (·.size) = some 32 := by kernel_rfl
end Go.Proofs.YthdopcdllggdaaaGreatDoor.Sha
namespace Go.Proofs.YthdopcdllggdaaaGreatDoor.Sha
open Go.RowKit Go.Sort

/-- v is a slice of the bytes M, in a block below B. -/
def Part (w : World) (B : Nat) (v : Value) (M : List UInt8) : Prop :=
  ∃ (a : Option Addr) (cap b o : Nat), v = .slice a M.length cap ∧ M.length ≤ cap ∧ (a = none → cap = 0) ∧ b < B ∧ (0 < M.length → a = some ⟨b, o, none⟩) ∧
    ∀ j, j < M.length → w.cell? ⟨b, o + j, none⟩ = some (.int .u8 ((M.getD j 0).toNat : Int))
/-- At a lie slices of bytes, in blocks below B. -/
def Parts (w : World) (B : Nat) (a : Option Addr) (Ls : List (List UInt8)) : Prop :=
  ∃ b o : Nat, b < B ∧ (0 < Ls.length → a = some ⟨b, o, none⟩) ∧ ∀ i (h : i < Ls.length), ∃ v, w.cell? ⟨b, o + i, none⟩ = some v ∧ Part w B v Ls[i]

theorem Part.grown {w w' : World} {B : Nat} {v : Value} {M : List UInt8} {row : Option Nat} (h : Part w B v M) (hg : w.grownBy w' row) (hr : ∀ k, row = some k → B ≤ k) : Part w' B v M := by
  obtain ⟨a, cap, b, o, h1, h2, h6, h3, h4, h5⟩ := h
  exact ⟨a, cap, b, o, h1, h2, h6, h3, h4, fun j hj => hg.cell (h5 j hj) (by intro e; have := hr b e.symm; omega)⟩
theorem Parts.grown {w w' : World} {B : Nat} {a : Option Addr} {Ls : List (List UInt8)} {row : Option Nat} (h : Parts w B a Ls) (hg : w.grownBy w' row) (hr : ∀ k, row = some k → B ≤ k) : Parts w' B a Ls := by
  obtain ⟨b, o, h1, h2, h3⟩ := h
  refine ⟨b, o, h1, h2, fun i hi => ?_⟩
  obtain ⟨v, hv, hp⟩ := h3 i hi
  exact ⟨v, hg.cell hv (by intro e; have := hr b e.symm; omega), hp.grown hg hr⟩

theorem sumSt_le (Ls : List (List UInt8)) (k : Nat) : (Ls.take k).flatten.length ≤ Ls.flatten.length := by
  conv => rhs; rw [← List.take_append_drop k Ls]
  rw [List.flatten_append, List.length_append]; omega
theorem take_next (Ls : List (List UInt8)) (k : Nat) (h : k < Ls.length) : (Ls.take (k + 1)).flatten = (Ls.take k).flatten ++ Ls[k] := by
  rw [List.take_succ_eq_append_getElem h, List.flatten_append]; simp

theorem grown_new {w w1 w2 : World} {k : Nat} (h1 : w.grownBy w1 none) (h2 : w1.grownBy w2 (some k)) (hk : w.heap.size ≤ k) : w.grownBy w2 none :=
  ⟨h2.os.trans h1.os, h2.tape.trans h1.tape, h2.output.trans h1.output, Nat.le_trans h1.size h2.size, fun j hj hne => (h2.block j (Nat.lt_of_lt_of_le hj h1.size) (by simp; omega)).trans (h1.block j hj hne)⟩
theorem grown_setRow {w w1 : World} {k : Nat} (h1 : w.grownBy w1 none) (hk : w.heap.size ≤ k) (c : Array Value) : w.grownBy (w1.setRow k c) none :=
  grown_new h1 (grown_row w1 k c) hk

end Go.Proofs.YthdopcdllggdaaaGreatDoor.Sha
namespace Go.Proofs.YthdopcdllggdaaaGreatDoor.Sha
open Go.RowKit Go.Sort

/-- v holds L, in a block that was made from base on. -/
def Owns (w : World) (base : Nat) (v : Value) (L : List UInt8) : Prop := w.ownsRow base 5 1 v L.length (L.map encB)

theorem Owns.nil (w : World) (base : Nat) : Owns w base (.slice none 0 0) [] := World.ownsRow_nil w base 5 1
theorem Owns.form {w : World} {base : Nat} {v : Value} {L : List UInt8} (h : Owns w base v L) : ∃ a cap, v = .slice a L.length cap ∧ L.length ≤ cap ∧ cap ≤ maxLen := by
  rcases h.2 with ⟨h1, h2⟩ | ⟨g, cap, cur, h1, h2, h3, h4, h5, _⟩
  · exact ⟨none, 0, by rw [h1, h2], by omega, by unfold maxLen; omega⟩
  · exact ⟨_, cap, h1, h4, h5⟩
theorem Owns.len {w : World} {base : Nat} {v : Value} {L : List UInt8} (h : Owns w base v L) : lenOf v = L.length := by
  obtain ⟨a, cap, h1, _⟩ := h.form
  rw [h1]; rfl
theorem encB_at (L : List UInt8) (j : Nat) (h : j < L.length) : (L.map encB)[j]? = some (.int .u8 ((L.getD j 0).toNat : Int)) := by
  rw [List.getElem?_map, List.getElem?_eq_getElem h, List.getD_eq_getElem?_getD, List.getElem?_eq_getElem h]
  rfl
theorem Owns.part {w : World} {base : Nat} {v : Value} {L : List UInt8} (h : Owns w base v L) (hp : 0 < w.heap.size) : Part w w.heap.size v L := by
  rcases h.2 with ⟨h1, h2⟩ | ⟨g, cap, cur, h1, h2, h3, h4, h5, h6, h7⟩
  · exact ⟨none, 0, 0, 0, by rw [h1, h2], by omega, fun _ => rfl, hp, fun h => by omega, fun j hj => by omega⟩
  · refine ⟨_, cap, g, 0, h1, h4, fun h => by simp at h, (Array.getElem?_eq_some_iff.1 h3).1, fun _ => rfl, fun j hj => ?_⟩
    rw [Nat.zero_add, cell_in h3]
    have e := encB_at L j hj
    rw [← h7, List.getElem?_take, if_pos (by omega)] at e
    simpa using e
theorem Owns.grown {w w1 w2 : World} {v : Value} {L : List UInt8} (h : Owns w1 w.heap.size v L) (h1 : w.grownBy w1 none) (h2 : w1.grownBy w2 v.ownBlock) : w.grownBy w2 none := by
  cases e : v.ownBlock with
  | none => rw [e] at h2; exact World.grownBy.trans h1 h2
  | some k => rw [e] at h2; exact grown_new h1 h2 (h.lt k e).1
theorem Owns.alloc {w : World} {base : Nat} {v : Value} {L : List UInt8} (h : Owns w base v L) (o : Obj) : Owns (w.alloc o) base v L := World.ownsRow.alloc h o

theorem Tryz.info5' : (Tryz.prog.info? 5).map (fun i => (i.zero, i.size, i.bytes)) = some (some (.int .u8 0), 1, 1) := by kernel_rfl

/-- append of bytes that lie anywhere to bytes that the call owns. -/
theorem app_part {w : World} {ops : Array Oper} {rest : List Oper} {o : Oper} {a : Act} {Q : Exit → Act → World → Prop} (hgd : o.guard = none) (s x : Operand)
    (ho : o.op = .call { callee := .builtin .append, args := #[s, x], argTypes := #[22, 22] }) (base B : Nat) (v xv : Value) (L M : List UInt8) (hs : a.eval s = v) (hown : Owns w base v L)
    (hx : a.eval x = xv) (hp : Part w B xv M) (hb : L.length + M.length ≤ 1000000) (hbase : base ≤ w.heap.size)
    (h : ∀ v' w', Owns w' base v' (L ++ M) → w.grownBy w' v.ownBlock → wpList Tryz.prog ops Q rest (a.put o.dst v') w') : wpList Tryz.prog ops Q (o :: rest) a w := by
  obtain ⟨i0, hi, hz0, hz1, hz2⟩ := info_parts Tryz.info5'
  obtain ⟨ap, cap, b, of, h1, h2, h6, h3, h4, h5⟩ := hp
  subst h1
  cases ap with
  | none =>
    have hc := h6 rfl
    have hm : M = [] := List.eq_nil_of_length_eq_zero (by omega)
    subst hm
    have hc' : cap = 0 := by omega
    subst hc'
    refine wpList_append_own_none hgd s x 22 ho base 5 i0 1 Tryz.underlying22 hi v L.length (L.map encB) hs hown hx ?_
    exact h v w (by simpa using hown) (World.grownBy.refl _ _)
  | some ad =>
    refine wpList_append_own w hgd s x 22 ho base 5 i0 (.int .u8 0) 1 1 Tryz.underlying22 hi hz0 hz1 hz2 rfl (by decide) v L.length (L.map encB) hs hown ad M.length cap (M.map encB) hx (by simp) ?_ ?_ (by unfold maxLen; omega) (by omega) hbase ?_
    · intro j u hu
      have hj : j < M.length := by have := (List.getElem?_eq_some_iff.1 hu).1; simpa using this
      have e := h4 (by omega)
      rw [Option.some.inj e, Addr.add_mid, h5 j hj, ← hu, encB_at M j hj]
    · intro u hu
      obtain ⟨y, _, rfl⟩ := List.mem_map.1 hu
      rfl
    · intro v' w' h7 h8 _
      refine h v' w' ?_ h8
      show World.ownsRow _ _ _ _ _ _ _
      rw [List.length_append, List.map_append]
      exact h7
/-- One byte, in a block of its own. -/
theorem part_one (w : World) (x : Int) (c : UInt8) (t : TypeId) (hx : x = (c.toNat : Int)) : Part (w.alloc (.cells #[.int .u8 x] t)) (w.heap.size + 1) (.slice (some ⟨w.heap.size, 0, none⟩) 1 1) [c] :=
  ⟨_, 1, w.heap.size, 0, rfl, Nat.le_refl _, fun h => by simp at h, by omega, fun _ => rfl, fun j hj => by
    have : j = 0 := by simpa using hj
    subst this
    rw [Nat.add_zero, alloc_cell, hx]; rfl⟩

/-! The bytes behind a text, as a list. -/
def be (n : Nat) (k : Nat) : List UInt8 := (List.range k).map fun i => UInt8.ofNat (n * 8 / 2 ^ (56 - 8 * i))
theorem be_succ (n k : Nat) : be n (k + 1) = be n k ++ [UInt8.ofNat (n * 8 / 2 ^ (56 - 8 * k))] := by
  simp [be, List.range_succ]
theorem be_len (n k : Nat) : (be n k).length = k := by simp [be]
theorem tail_list (c n k : Nat) (hc : 0 < c) (hk : k ≤ 8) : (tailA c n k).toList = (128 :: List.replicate (c - 1) 0) ++ (be n k ++ List.replicate (8 - k) 0) := by
  induction k with
  | zero =>
    obtain ⟨d, rfl⟩ : ∃ d, c = d + 1 := ⟨c - 1, by omega⟩
    simp [tailA, be]
    rw [show d + 1 + 8 = (d + 8) + 1 by omega, List.replicate_succ, List.set_cons_zero, List.replicate_append_replicate.symm]
    rfl
  | succ k ih =>
    have h8 : 8 - k = (8 - (k + 1)) + 1 := by omega
    show ((tailA c n k).setIfInBounds (c + k) _).toList = _
    rw [Array.toList_setIfInBounds, ih (by omega), h8, List.replicate_succ, be_succ]
    rw [List.set_append_right _ _ (by simp; omega), List.set_append_right _ _ (by simp [be_len]; omega)]
    simp only [List.length_cons, List.length_replicate, be_len]
    rw [show c + k - (c - 1 + 1) - k = 0 by omega, List.set_cons_zero]
    simp
theorem pad_list (L : List UInt8) : padOf L = (128 :: List.replicate (63 - (L.length % 64 + 8) % 64) 0) ++ be L.length 8 := by
  unfold padOf
  rw [tail_list _ _ _ (by omega) (Nat.le_refl _)]
  simp
  omega

theorem sub_le (L : List UInt8) (h : L.length ≤ 10000) : ((L.length : Int) * 8) % 18446744073709551616 = ((L.length * 8 : Nat) : Int) := by omega

def PadRet (w : World) (L : List UInt8) (e : Ending) (w' : World) : Prop := ∃ v', e = .returned v' ∧ Owns w' w.heap.size v' (L ++ padOf L) ∧ w.grownBy w' none
theorem e128 : (128 : Int) = ((128 : UInt8).toNat : Int) := rfl
theorem e0 : (0 : Int) = ((0 : UInt8).toNat : Int) := rfl

end Go.Proofs.YthdopcdllggdaaaGreatDoor.Sha
namespace Go.Proofs.YthdopcdllggdaaaGreatDoor.Sha
open Go.RowKit Go.Sort

/-- The digit of n. -/
def dgN (n : Nat) : UInt8 := if n < 10 then UInt8.ofNat (48 + n) else UInt8.ofNat (87 + n)
def hexL (l : List UInt8) : List UInt8 := l.flatMap fun c => [dgN (c.toNat / 16), dgN (c.toNat % 16)]
theorem hexL_snoc (l : List UInt8) (c : UInt8) : hexL (l ++ [c]) = hexL l ++ [dgN (c.toNat / 16), dgN (c.toNat % 16)] := by simp [hexL]
theorem hexL_len (l : List UInt8) : (hexL l).length = 2 * l.length := by
  induction l with
  | nil => rfl
  | cons c l ih => simp only [hexL, List.flatMap_cons, List.length_append, List.length_cons, List.length_nil] at *; omega

theorem idx_digit (n : Nat) (h : n < 16) (W : World) : (Instr.index 9 (.string ⟨#[48, 49, 50, 51, 52, 53, 54, 55, 56, 57, 97, 98, 99, 100, 101, 102]⟩) (.int .u8 (n : Int))).run Tryz.prog W = .ok (.int .u8 ((dgN n).toNat : Int)) W :=
  match n, h with
  | 0, _ => by kernel_rfl
  | 1, _ => by kernel_rfl
  | 2, _ => by kernel_rfl
  | 3, _ => by kernel_rfl
  | 4, _ => by kernel_rfl
  | 5, _ => by kernel_rfl
  | 6, _ => by kernel_rfl
  | 7, _ => by kernel_rfl
  | 8, _ => by kernel_rfl
  | 9, _ => by kernel_rfl
  | 10, _ => by kernel_rfl
  | 11, _ => by kernel_rfl
  | 12, _ => by kernel_rfl
  | 13, _ => by kernel_rfl
  | 14, _ => by kernel_rfl
  | 15, _ => by kernel_rfl
  | n + 16, h => absurd h (by omega)
theorem idx_high (c : UInt8) (W : World) : (Instr.index 9 (.string ⟨#[48, 49, 50, 51, 52, 53, 54, 55, 56, 57, 97, 98, 99, 100, 101, 102]⟩) (.int .u8 ((c.toNat : Int) / 16))).run Tryz.prog W = .ok (.int .u8 ((dgN (c.toNat / 16)).toNat : Int)) W := by
  have := c.toNat_lt
  rw [show (c.toNat : Int) / 16 = ((c.toNat / 16 : Nat) : Int) by omega]
  exact idx_digit _ (by omega) W
theorem idx_low (c : UInt8) (W : World) : (Instr.index 9 (.string ⟨#[48, 49, 50, 51, 52, 53, 54, 55, 56, 57, 97, 98, 99, 100, 101, 102]⟩) (.int .u8 (bits .and .u8 (c.toNat : Int) 15))).run Tryz.prog W = .ok (.int .u8 ((dgN (c.toNat % 16)).toNat : Int)) W := by
  have hc := c.toNat_lt
  have e := u8_and_nat c.toNat 15 hc (by omega)
  rw [show bits .and .u8 (c.toNat : Int) 15 = ((c.toNat % 16 : Nat) : Int) by
    rw [show (15 : Int) = ((15 : Nat) : Int) from rfl, e, Nat.and_two_pow_sub_one_eq_mod (c.toNat) 4]]
  exact idx_digit _ (by omega) W

/-- append, as one step of a region that draws its order. -/
theorem step_part {w : World} {ops : Array Oper} {o : Oper} {a : Act} {K : Act → World → Prop} {Q : Exit → Act → World → Prop} {E : Prop} (hgd : o.guard = none) (s x : Operand)
    (ho : o.op = .call { callee := .builtin .append, args := #[s, x], argTypes := #[22, 22] }) (base B : Nat) (v xv : Value) (L M : List UInt8) (hs : a.eval s = v) (hown : Owns w base v L)
    (hx : a.eval x = xv) (hp : Part w B xv M) (hb : L.length + M.length ≤ 1000000) (hbase : base ≤ w.heap.size)
    (h : ∀ v' w', Owns w' base v' (L ++ M) → w.grownBy w' v.ownBlock → K (a.put o.dst v') w') : if Region.wanted o (yielded ops a.tmps) = true then Oper.wp Tryz.prog o a w K Q else E := by
  rw [if_pos (by simp [Region.wanted, hgd])]
  obtain ⟨i0, hi, hz0, hz1, hz2⟩ := info_parts Tryz.info5'
  obtain ⟨ap, cap, b, of, h1, h2, h6, h3, h4, h5⟩ := hp
  subst h1
  cases ap with
  | none =>
    have hc := h6 rfl
    have hm : M = [] := List.eq_nil_of_length_eq_zero (by omega)
    subst hm
    have hc' : cap = 0 := by omega
    subst hc'
    have hrun := run_append_owned_none (P := Tryz.prog) (w := w) base 22 o.type 5 i0 1 Tryz.underlying22 hi v L.length (L.map encB) hown
    unfold Oper.wp
    simp [execOp, ho, resolve, invoke, builtin, hs, hx, hrun, Result.andThen]
    exact h v w (by simpa using hown) (World.grownBy.refl _ _)
  | some ad =>
    refine wp_append_own w s x 22 ho base 5 i0 (.int .u8 0) 1 1 Tryz.underlying22 hi hz0 hz1 hz2 rfl (by decide) v L.length (L.map encB) hs hown ad M.length cap (M.map encB) hx (by simp) ?_ ?_ (by unfold maxLen; omega) (by omega) hbase ?_
    · intro j u hu
      have hj : j < M.length := by have := (List.getElem?_eq_some_iff.1 hu).1; simpa using this
      have e := h4 (by omega)
      rw [Option.some.inj e, Addr.add_mid, h5 j hj, ← hu, encB_at M j hj]
    · intro u hu
      obtain ⟨y, _, rfl⟩ := List.mem_map.1 hu
      rfl
    · intro v' w' h7 h8 _
      refine h v' w' ?_ h8
      show World.ownsRow _ _ _ _ _ _ _
      rw [List.length_append, List.map_append]
      exact h7
theorem part_two (w : World) (x y : Int) (c d : UInt8) (t : TypeId) (hx : x = (c.toNat : Int)) (hy : y = (d.toNat : Int)) : Part (w.alloc (.cells #[.int .u8 x, .int .u8 y] t)) (w.heap.size + 1) (.slice (some ⟨w.heap.size, 0, none⟩) 2 2) [c, d] :=
  ⟨_, 2, w.heap.size, 0, rfl, Nat.le_refl _, fun h => by simp at h, by omega, fun _ => rfl, fun j hj => by
    have hj2 : j < 2 := by simpa using hj
    rw [Nat.zero_add, alloc_cell, hx, hy]
    rcases j with _ | _ | j
    · rfl
    · rfl
    · omega⟩

theorem take_snocA (K : Array UInt8) (k : Nat) (h : k < K.size) : K.toList.take (k + 1) = K.toList.take k ++ [K[k]!] := by
  rw [List.take_succ_eq_append_getElem (by simpa using h), getElem!_pos K k h]; rfl
theorem hexS_size (K : Array UInt8) (h : K.size = 32) (k : Nat) (hk : k ≤ 32) : (hexL (K.toList.take k)).length = 2 * k := by
  rw [hexL_len, List.length_take, Array.length_toList, h]; omega

theorem conv_part {w : World} {B : Nat} {v : Value} {L : List UInt8} (h : Part w B v L) (hl : 0 < L.length) : (convert 22 9 v).run Tryz.prog w = .ok (.string ⟨L.toArray⟩) w := by
  obtain ⟨a, cap, b, o, rfl, _, _, _, h4, h5⟩ := h
  rw [h4 hl]
  refine run_convert_bytes_back w 22 9 5 ⟨b, o, none⟩ cap L Tryz.underlying22 Tryz.underlying5 Tryz.underlying9 fun j hj => ?_
  rw [Addr.add_mid, h5 j hj]
  simp [List.getD_eq_getElem?_getD, List.getElem?_eq_getElem hj]

theorem grown_step {w wr w2 : World} {v : Value} {L : List UInt8} {o : Obj} (hgw : w.grownBy wr none) (ho : Owns wr w.heap.size v L) (hg : (wr.alloc o).drew.grownBy w2 v.ownBlock) : w.grownBy w2 none := by
  have h := World.grownBy.trans hgw (World.grownBy_alloc wr o none)
  exact Owns.grown (w1 := wr.alloc o) (ho.alloc o) h ⟨hg.os, hg.tape, hg.output, hg.size, hg.block⟩

def HexRet (w : World) (K : Array UInt8) (e : Ending) (w' : World) : Prop := e = .returned (.string ⟨(hexL K.toList).toArray⟩) ∧ w.grownBy w' none

set_option maxRecDepth 1000000
set_option maxHeartbeats 1000000 in
theorem hex_any (K : Array UInt8) (w : World) (hK : K.size = 32) :
    Calls Tryz.prog 25 #[.agg (K.map encB)] w (HexRet w K) := by
  obtain ⟨C, hC⟩ : ∃ C, K.map encB = C := ⟨_, rfl⟩
  have hCs : C.size = 32 := by rw [← hC, Array.size_map, hK]
  have hat : ∀ k, k < 32 → C[k]? = some (encB K[k]!) := by
    intro k hk
    rw [← hC, Array.getElem?_map, Array.getElem?_eq_getElem (by omega), Option.map_some, getElem!_pos K k (by omega)]
  have hmk : ∀ W : World, (Instr.makeSlice 22 (.int .i64 0) (.int .i64 64)).run Tryz.prog W = .ok (.slice (some ⟨W.heap.size, 0, none⟩) 0 64) (W.alloc (.cells (Array.replicate 64 (encB 0)) 5)) := by intro W; kernel_rfl
  have HAT := Lib.hid hat
  have HC := Lib.hid hC
  have HK := Lib.hid hK
  rw [hC]
  clear hat hC hK
  have hres : Hid (((w.alloc (.cells C 33)).alloc (.cells (Array.replicate 64 (encB 0)) 5)).heap[w.heap.size]? = some (.cells C 33 (0, 0))) := by
    show _ = _
    rw [heap_alloc_old _ _ (by rw [alloc_size]; omega), heap_alloc_new]
  have hgr0 : Hid (w.grownBy ((w.alloc (.cells C 33)).alloc (.cells (Array.replicate 64 (encB 0)) 5)) none) := World.grownBy.trans (World.grownBy_alloc _ _ _) (World.grownBy_alloc _ _ _)
  have how0 : Hid (Owns ((w.alloc (.cells C 33)).alloc (.cells (Array.replicate 64 (encB 0)) 5)) w.heap.size (.slice (some ⟨w.heap.size + 1, 0, none⟩) 0 64) []) := by
    have h := World.ownsRow_made (base := w.heap.size) (e := 5) (size := 1) (w.alloc (.cells C 33)) (Array.replicate 64 (encB 0)) 64 (by rw [alloc_size]; omega) (by unfold maxLen; omega) (by simp)
    rw [alloc_size] at h
    exact h
  have hCs' := Lib.hid hCs
  clear hCs
  go_enter Tryz.func25, Tryz.ntmps25
  go_wp2_with ((with_reducible refine wpList_load_row (o := ⟨some 7, _, _, _, _, _⟩) rfl 33 _ rfl w.heap.size ?_ 33 C (0, 0) (.array 32 5) hres.out Tryz.underlying33 rfl ?_ ?_); (exact rfl); (rw [info26, hCs'.out]))
  go_loopw [3, 8] (fun v i wr => ∃ (k m cp : Nat) (ad : Option Addr), k ≤ 32 ∧ i = .int .i64 k ∧ v = .slice ad m cp ∧ m = 2 * k ∧ cp ≤ 9223372036854775807 ∧ Owns wr w.heap.size v (hexL (K.toList.take k)) ∧ w.grownBy wr none) (fun _ i _ => 32 - (intOf i).toNat)
  case atStart => exact ⟨0, 0, 64, _, by omega, rfl, rfl, rfl, by omega, how0.out, hgr0.out⟩
  case round =>
    obtain ⟨k, m, cp, ad, hk, rfl, rfl, hm, hcp, hown, hgw⟩ := hrel
    have HM := Lib.hid hm
    have HO := Lib.hid hown
    have hm2 : m ≤ 64 := by omega
    have hln : (hexL (K.toList.take k)).length = 2 * k := hexS_size K HK.out k hk
    have HLN := Lib.hid hln
    clear hm hown hln
    by_cases hlt : k < 32
    · obtain ⟨c, hc⟩ : ∃ c, K[k]! = c := ⟨_, rfl⟩
      have hi := HAT.out k hlt
      rw [hc] at hi
      have hix := index_bytes C k _ hlt hi
      have h1 := idx_high c
      have h2 := idx_low c
      have hcl := c.toNat_lt
      change ∀ W, Sem.run Tryz.prog (Instr.index 33 (.agg C) (.int .i64 (k : Int))) W = .ok (.int .u8 (c.toNat : Int)) W at hix
      have HCC := Lib.hid hc
      clear hc hi
      go_wp2
      go_region_law ((refine step_part rfl _ _ rfl w.heap.size (wr.heap.size + 1) (.slice ad m cp) _ (hexL (K.toList.take k)) [dgN (c.toNat / 16), dgN (c.toNat % 16)] ?_ (Owns.alloc (w := wr.drew) HO.out _) ?_ (part_two wr.drew _ _ _ _ 5 rfl rfl) ?_ ?_ ?_); (exact rfl); (exact rfl); (have := HLN.out; simp; omega); (have := hgw.size; simp; omega); (intro v2 w2 ho2 hg2); have HO2 := Lib.hid ho2; have HG2 := Lib.hid hg2; clear ho2 hg2)
      all_goals
        go_wp2
        go_roundw
        case rel =>
          obtain ⟨ad2, cp2, h1, h2, h3⟩ := HO2.out.form
          refine ⟨k + 1, _, cp2, ad2, by omega, by go_num, h1, ?_, h3, ?_, grown_step hgw HO.out HG2.out⟩
          · have := HLN.out; simp only [List.length_append, List.length_cons, List.length_nil]; omega
          · rw [take_snocA K k (by rw [HK.out]; omega), HCC.out, hexL_snoc]
            exact HO2.out
        case measure => simp [intOf]; omega
    · have hk32 : k = 32 := by omega
      subst hk32
      clear hlt hk
      have hpos : 0 < wr.heap.size := by
        obtain ⟨_, _, _⟩ := HO.out.form
        have h := hres.out
        have := hgw.size
        rcases Nat.eq_zero_or_pos wr.heap.size with h0 | h0
        · have h1 := HO.out.2
          rcases h1 with ⟨_, h2⟩ | ⟨g, _, _, _, _, h3, _⟩
          · rw [HLN.out] at h2; omega
          · have := (Array.getElem?_eq_some_iff.1 h3).1; omega
        · exact h0
      have hcv := conv_part (HO.out.part hpos) (by rw [HLN.out]; omega)
      go_wp2
      go_ret
      refine ⟨?_, hgw⟩
      rw [List.take_of_length_le (by rw [Array.length_toList, HK.out]; exact Nat.le_refl _)]
      rfl

set_option maxRecDepth 1000000
set_option maxHeartbeats 1000000 in
theorem refhex_any (K : Array UInt8) (w : World) (hK : K.size = 32) :
    Calls Tryz.prog 34 #[.agg (K.map encB)] w (HexRet w K) := by
  obtain ⟨C, hC⟩ : ∃ C, K.map encB = C := ⟨_, rfl⟩
  have hat : ∀ k, k < 32 → C[k]? = some (encB K[k]!) := by
    intro k hk
    rw [← hC, Array.getElem?_map, Array.getElem?_eq_getElem (by omega), Option.map_some, getElem!_pos K k (by omega)]
  have HAT := Lib.hid hat
  have HK := Lib.hid hK
  rw [hC]
  clear hat hC hK
  obtain ⟨W0, hW0⟩ : ∃ W0, w.alloc (.cells C 33) = W0 := ⟨_, rfl⟩
  have hs0 : W0.heap.size = w.heap.size + 1 := by rw [← hW0, alloc_size]
  have hg0 : w.grownBy W0 none := by rw [← hW0]; exact World.grownBy_alloc _ _ _
  have hc0 : Hid (∀ k, k < 32 → W0.cell? ⟨w.heap.size, k, none⟩ = some (.int .u8 ((K[k]!).toNat : Int))) := by
    intro k hk
    rw [← hW0, alloc_cell, HAT.out k hk]; rfl
  have HS0 := Lib.hid hs0
  have HW0 := Lib.hid hW0
  clear hs0 hW0
  go_enter Tryz.func34, Tryz.ntmps34
  go_wp2
  rw [HW0.out]
  go_loopw [3, 4] (fun v i wr => ∃ (k m cp : Nat) (ad : Option Addr), k ≤ 32 ∧ i = .int .i64 k ∧ v = .slice ad m cp ∧ m = 2 * k ∧ cp ≤ 9223372036854775807 ∧ Owns wr W0.heap.size v (hexL (K.toList.take k)) ∧ W0.grownBy wr none) (fun _ i _ => 32 - (intOf i).toNat)
  case atStart => exact ⟨0, 0, 0, none, by omega, rfl, rfl, rfl, by omega, Owns.nil _ _, World.grownBy.refl _ _⟩
  case round =>
    obtain ⟨k, m, cp, ad, hk, rfl, rfl, hm, hcp, hown, hgw⟩ := hrel
    have HM := Lib.hid hm
    have HO := Lib.hid hown
    have hm2 : m ≤ 64 := by omega
    have hln : (hexL (K.toList.take k)).length = 2 * k := hexS_size K HK.out k hk
    have HLN := Lib.hid hln
    clear hm hown hln
    by_cases hlt : k < 32
    · obtain ⟨c, hc⟩ : ∃ c, K[k]! = c := ⟨_, rfl⟩
      have hi := hgw.cell (hc0.out k hlt) (by simp)
      rw [hc] at hi
      have h1 := idx_high c
      have h2 := idx_low c
      have hcl := c.toNat_lt
      have HCC := Lib.hid hc
      clear hc
      go_wp2
      go_region_law ((refine step_part rfl _ _ rfl W0.heap.size (wr.heap.size + 1) (.slice ad m cp) _ (hexL (K.toList.take k)) [dgN (c.toNat / 16), dgN (c.toNat % 16)] ?_ (Owns.alloc (w := wr.drew) HO.out _) ?_ (part_two wr.drew _ _ _ _ 5 rfl rfl) ?_ ?_ ?_); (exact rfl); (exact rfl); (have := HLN.out; simp; omega); (have := hgw.size; simp; omega); (intro v2 w2 ho2 hg2); have HO2 := Lib.hid ho2; have HG2 := Lib.hid hg2; clear ho2 hg2)
      all_goals
        go_wp2
        go_roundw
        case rel =>
          obtain ⟨ad2, cp2, h1, h2, h3⟩ := HO2.out.form
          refine ⟨k + 1, _, cp2, ad2, by omega, by go_num, h1, ?_, h3, ?_, grown_step hgw HO.out HG2.out⟩
          · have := HLN.out; simp only [List.length_append, List.length_cons, List.length_nil]; omega
          · rw [take_snocA K k (by rw [HK.out]; omega), HCC.out, hexL_snoc]
            exact HO2.out
        case measure => simp [intOf]; omega
    · have hk32 : k = 32 := by omega
      subst hk32
      clear hlt hk
      have hpos : 0 < wr.heap.size := by have := hgw.size; have := HS0.out; omega
      have hcv := conv_part (HO.out.part hpos) (by rw [HLN.out]; omega)
      go_wp2
      go_ret
      refine ⟨?_, World.grownBy.trans hg0 hgw⟩
      rw [List.take_of_length_le (by rw [Array.length_toList, HK.out]; exact Nat.le_refl _)]
      rfl
end Go.Proofs.YthdopcdllggdaaaGreatDoor.Sha
namespace Go.Proofs.YthdopcdllggdaaaGreatDoor.Sha
open Go.RowKit Go.Sort

def isHex (c : UInt8) : Bool := (decide (48 ≤ c.toNat) && decide (c.toNat ≤ 57)) || (decide (97 ≤ c.toNat) && decide (c.toNat ≤ 102))
def hv (c : UInt8) : UInt8 := if 48 ≤ c.toNat ∧ c.toNat ≤ 57 then UInt8.ofNat (c.toNat - 48) else if 97 ≤ c.toNat ∧ c.toNat ≤ 102 then UInt8.ofNat (c.toNat - 87) else 0

theorem hv_num (c : UInt8) (h1 : 48 ≤ c.toNat) (h2 : c.toNat ≤ 57) : ((hv c).toNat : Int) = (c.toNat : Int) - 48 := by
  unfold hv; rw [if_pos ⟨h1, h2⟩]; simp; omega
theorem hv_low (c : UInt8) (h1 : 97 ≤ c.toNat) (h2 : c.toNat ≤ 102) : ((hv c).toNat : Int) = (c.toNat : Int) - 97 + 10 := by
  unfold hv; rw [if_neg (by omega), if_pos ⟨h1, h2⟩]; simp; omega
theorem hv_lt (c : UInt8) : (hv c).toNat < 16 := by
  unfold hv; split
  · simp; omega
  · split
    · simp; omega
    · decide

theorem digit_any (c : UInt8) (w : World) :
    Calls Tryz.prog 75 #[.int .u8 (c.toNat : Int)] w fun e w' => e = .returned (.tuple #[.int .u8 ((hv c).toNat : Int), .bool (isHex c)]) ∧ w = w' := by
  have hc := c.toNat_lt
  by_cases h1 : 48 ≤ c.toNat ∧ c.toNat ≤ 57
  · have e := Lib.hid (hv_num c h1.1 h1.2)
    have e2 : Hid (isHex c = true) := by show _ = _; simp [isHex]; omega
    have a1 : (48 : Int) ≤ (c.toNat : Int) := by omega
    have a2 : (c.toNat : Int) ≤ 57 := by omega
    clear h1
    go_enter Tryz.func75, Tryz.ntmps75
    go_wp2
    go_ret2
    exact ⟨by rw [e.out, e2.out]; rfl, rfl⟩
  · by_cases h2 : 97 ≤ c.toNat ∧ c.toNat ≤ 102
    · have e := Lib.hid (hv_low c h2.1 h2.2)
      have e2 : Hid (isHex c = true) := by show _ = _; simp [isHex]; omega
      have a1 : (97 : Int) ≤ (c.toNat : Int) := by omega
      have a2 : (c.toNat : Int) ≤ 102 := by omega
      have a3 : decide ((c.toNat : Int) ≤ 57) = false := by simp; omega
      clear h1 h2
      go_enter Tryz.func75, Tryz.ntmps75
      go_wp2
      go_ret2
      exact ⟨by rw [e.out, e2.out]; rfl, rfl⟩
    · have e : Hid (hv c = 0) := by show _ = _; unfold hv; rw [if_neg h1, if_neg h2]
      have e2 : Hid (isHex c = false) := by show _ = _; simp [isHex]; omega
      by_cases a1 : c.toNat < 48
      · have b1 : decide (48 ≤ (c.toNat : Int)) = false := by simp; omega
        have b2 : decide (97 ≤ (c.toNat : Int)) = false := by simp; omega
        clear h1 h2
        go_enter Tryz.func75, Tryz.ntmps75
        go_wp2
        go_ret2
        exact ⟨by rw [e.out, e2.out]; rfl, rfl⟩
      · by_cases a2 : c.toNat < 97
        · have b0 : (48 : Int) ≤ (c.toNat : Int) := by omega
          have b1 : decide ((c.toNat : Int) ≤ 57) = false := by simp; omega
          have b2 : decide (97 ≤ (c.toNat : Int)) = false := by simp; omega
          clear h1 h2
          go_enter Tryz.func75, Tryz.ntmps75
          go_wp2
          go_ret2
          exact ⟨by rw [e.out, e2.out]; rfl, rfl⟩
        · have b0 : (97 : Int) ≤ (c.toNat : Int) := by omega
          have b1 : decide ((c.toNat : Int) ≤ 57) = false := by simp; omega
          have b2 : decide ((c.toNat : Int) ≤ 102) = false := by simp; omega
          clear h1 h2
          go_enter Tryz.func75, Tryz.ntmps75
          go_wp2
          go_ret2
          exact ⟨by rw [e.out, e2.out]; rfl, rfl⟩

def byteAt (s : ByteArray) (i : Nat) : UInt8 := s.data.toList.getD i 0
/-- The sum's first k bytes, as they are read. -/
def keyP (s : ByteArray) : Nat → Array UInt8
  | 0 => Array.replicate 32 0
  | k + 1 => (keyP s k).setIfInBounds k ((hv (byteAt s (2 * k)) <<< 4) ||| hv (byteAt s (2 * k + 1)))
theorem keyP_size (s : ByteArray) (k : Nat) : (keyP s k).size = 32 := by
  induction k with
  | zero => simp [keyP]
  | succ k ih => simp [keyP, ih]
def goodTo (s : ByteArray) (n : Nat) : Bool := (List.range n).all fun i => isHex (byteAt s i)
theorem goodTo_succ (s : ByteArray) (n : Nat) : goodTo s (n + 1) = (goodTo s n && isHex (byteAt s n)) := by
  unfold goodTo; rw [List.range_succ, List.all_append]; simp
theorem goodTo_not (s : ByteArray) (n m : Nat) (h : n < m) (hb : isHex (byteAt s n) = false) : goodTo s m = false :=
  List.all_eq_false.2 ⟨n, List.mem_range.2 h, fun e => by rw [hb] at e; cases e⟩
def pb (s : ByteArray) : Bool := decide (s.size = 64) && goodTo s 64
def pk (s : ByteArray) : Array UInt8 := if pb s = true then keyP s 32 else Array.replicate 32 0
theorem pk_no (s : ByteArray) (h : pb s = false) : pk s = Array.replicate 32 0 := by unfold pk; rw [h]; rfl
theorem pk_yes (s : ByteArray) (h : pb s = true) : pk s = keyP s 32 := by unfold pk; rw [if_pos h]
theorem byteAt_eq (s : ByteArray) (i : Nat) (h : i < s.size) : byteAt s i = s[i] := by
  unfold byteAt
  rw [List.getD_eq_getElem?_getD, Array.getElem?_toList, Array.getElem?_eq_getElem (by simpa using h)]; rfl
theorem join_eq (a b : UInt8) (ha : a.toNat < 16) : bits .or .u8 ((a.toNat : Int) * 16) (b.toNat : Int) = (((a <<< 4) ||| b).toNat : Int) := by
  have e : (a.toNat : Int) * (16 : Int) = Int.ofNat (a <<< 4).toNat := by
    rw [UInt8.toNat_shiftLeft]; simp [Nat.shiftLeft_eq]; omega
  rw [e, Int.ofNat_eq_natCast, u8_or_nat _ _ (UInt8.toNat_lt _) (UInt8.toNat_lt _), UInt8.toNat_or]

def ParseRet (w : World) (s : ByteArray) (e : Ending) (w' : World) : Prop := e = .returned (.tuple #[.agg ((pk s).map encB), .bool (pb s)]) ∧ w.grownBy w' none
def zero32A : Array Value := Array.replicate 32 (encB 0)
theorem zero32A_eq : (Array.replicate 32 (0 : UInt8)).map encB = zero32A := by unfold zero32A; simp
theorem zero32A_size : zero32A.size = 32 := by unfold zero32A; simp
theorem zero32A_one : zero32A.all (·.oneCell') = true := by kernel_rfl

theorem wpList_built2 {P : Program} {ops : Array Oper} {rest : List Oper} {o : Oper} {a : Act} {w : World} {Q : Exit → Act → World → Prop} (hg : o.guard = none) (t : TypeId) (parts : Array (Nat × Operand)) (ho : o.op = .build t parts) (cells : Array Value)
    (hc : P.built t (parts.map fun (i, x) => (i, a.eval x)).toList = some cells) (h : wpList P ops Q rest (a.put o.dst (.agg cells)) w) : wpList P ops Q (o :: rest) a w :=
  wpList_build hg t parts ho (by rw [hc]; rfl) (by rw [hc]; exact h)
theorem results_row_tmp {P : Program} {fn : Func} {p u : Tmp} {ty : TypeId} (h : fn.results = #[.cell p ty, .tmp u]) (tmps : Array Value) (w : World) (g : Nat) (t : TypeId) (cs : Array Value) (fr : Nat × Nat) (d : TypeDesc)
    (hp : tmps.getD p undef = .pointer (some ⟨g, 0, none⟩)) (hg : w.heap[g]? = some (.cells cs t fr))
    (hu : P.underlying ty = some d) (hd : (match d with | .struct _ | .array _ _ => true | _ => false) = true) (hi : (P.info? ty).map (·.size) = some cs.size) :
    (results fn tmps).run P w = .ok (.tuple #[.agg cs, tmps.getD u undef]) w := by
  have hp' : tmps[p]?.getD undef = .pointer (some ⟨g, 0, none⟩) := by simpa using hp
  simp [results, h, hp', asAddr, run_loadVar_row w g t ty cs fr d hg hu hd hi]

/-- Two blocks more, the first one laid anew: nothing else has changed. -/
theorem two_grown (w : World) (A B C : Array Value) (t u : TypeId) : w.grownBy (((w.alloc (.cells A t)).alloc (.cells B u)).setRow w.heap.size C) none :=
  grown_setRow (World.grownBy.trans (World.grownBy_alloc _ _ _) (World.grownBy_alloc _ _ _)) (Nat.le_refl _) _
theorem two_heap (w : World) (A B : Array Value) (t u : TypeId) : ((w.alloc (.cells A t)).alloc (.cells B u)).heap[w.heap.size]? = some (.cells A t (0, 0)) := by
  rw [heap_alloc_old _ _ (by rw [alloc_size]; omega), heap_alloc_new]

set_option maxRecDepth 1000000
set_option maxHeartbeats 1000000 in
theorem parse_no (s : ByteArray) (w : World) (hs : s.size ≠ 64) :
    Calls Tryz.prog 66 #[.string s] w (ParseRet w s) := by
  have hpb : Hid (pb s = false) := by show _ = _; unfold pb; rw [decide_eq_false hs]; rfl
  have hz : ∀ W : World, (zeroValue 33).run Tryz.prog W = .ok (.agg zero32A) W := by intro W; kernel_rfl
  have hne : ¬ (s.size : Int) = 64 := by omega
  have hzs := zero32A_size
  have hst := storeCells_row ((w.alloc (.cells zero32A 33)).alloc (.cells zero32A 33)) w.heap.size 33 33 zero32A zero32A (two_heap _ _ _ _ _) (by rw [info26, zero32A_size]) rfl zero32A_one
  clear hs
  go_enter Tryz.func66, Tryz.ntmps66
  go_wp2_with ((with_reducible refine wpList_built2 (o := ⟨some 13, _, _, _, _, _⟩) rfl 33 _ rfl zero32A ?_ ?_); (kernel_rfl))
  refine bodyPost_ret (v := .tuple #[.agg zero32A, .bool false]) ?_ rfl ⟨?_, two_grown _ _ _ _ _ _⟩
  · exact (results_row_tmp rfl _ _ w.heap.size 33 zero32A (0, 0) _ rfl (setRow_heap _ _ _ _ 33 _ (two_heap _ _ _ _ _)) Tryz.underlying33 rfl (by rw [info26, zero32A_size])).trans rfl
  · rw [pk_no s hpb.out, hpb.out, zero32A_eq]

set_option maxRecDepth 1000000
set_option maxHeartbeats 1000000 in
theorem parse_yes (s : ByteArray) (w : World) (hs : s.size = 64) :
    Calls Tryz.prog 66 #[.string s] w (ParseRet w s) := by
  have hz : ∀ W : World, (zeroValue 33).run Tryz.prog W = .ok (.agg zero32A) W := by intro W; kernel_rfl
  have hne : (s.size : Int) = 64 := by omega
  have hsz1 : 64 ≤ s.size := by omega
  have hzs := zero32A_size
  have HS := Lib.hid hs
  clear hs
  go_enter Tryz.func66, Tryz.ntmps66
  go_wp2
  clear hne
  go_loopw [14] (fun i wr => ∃ k : Nat, k ≤ 32 ∧ i = .int .i64 k ∧ goodTo s (2 * k) = true ∧ wr = (w.alloc (.cells zero32A 33)).alloc (.cells ((keyP s k).map encB) 33)) (fun i _ => 32 - (intOf i).toNat)
  case atStart => exact ⟨0, by omega, rfl, rfl, by rw [show (keyP s 0).map encB = zero32A from zero32A_eq]⟩
  case round =>
    obtain ⟨k, hk, rfl, hgood, hw⟩ := hrel
    have HG := Lib.hid hgood
    clear hgood
    by_cases hlt : k < 32
    · obtain ⟨c, hc⟩ : ∃ c, byteAt s (2 * k) = c := ⟨_, rfl⟩
      obtain ⟨d, hd⟩ : ∃ d, byteAt s (2 * k + 1) = d := ⟨_, rfl⟩
      have hc2 : s[2 * k]'(by omega) = c := by rw [← byteAt_eq]; exact hc
      have hd2 : s[2 * k + 1]'(by omega) = d := by rw [← byteAt_eq]; exact hd
      have hcell : wr.cell? ⟨w.heap.size + 1, k, none⟩ = some (encB ((keyP s k)[k]'(by rw [keyP_size]; exact hlt))) := by
        rw [hw, ← alloc_size w (.cells zero32A 33), alloc_cell, Array.getElem?_map, Array.getElem?_eq_getElem (by rw [keyP_size]; exact hlt)]
        rfl
      generalize encB ((keyP s k)[k]'(by rw [keyP_size]; exact hlt)) = old at hcell
      have hfr : wr.frozen? ⟨w.heap.size + 1, k, none⟩ = false := by
        rw [hw, ← alloc_size w (.cells zero32A 33), alloc_frozen]
      have hh := Lib.hid (join_eq (hv c) (hv d) (hv_lt c))
      have hv1 := (hv c).toNat_lt
      have hv2 := hv_lt c
      have hv3 := hv_lt d
      have hjoin : (keyP s (k + 1)) = (keyP s k).setIfInBounds k ((hv c <<< 4) ||| hv d) := by rw [← hc, ← hd]; rfl
      have HJ := Lib.hid hjoin
      have HW := Lib.hid hw
      have HC := Lib.hid hc
      have HD := Lib.hid hd
      clear hjoin hw hc hd
      by_cases hb : isHex c = true ∧ isHex d = true
      · have b1 := hb.1
        have b2 := hb.2
        clear hb
        go_wp2_with fail
        (with_reducible refine (digit_any c _).mono ?_)
        rintro ee ww ⟨rfl, rfl⟩
        go_wp2_with fail
        (with_reducible refine (digit_any d _).mono ?_)
        rintro ee ww ⟨rfl, rfl⟩
        go_wp2
        go_roundw
        case rel =>
          refine ⟨k + 1, by omega, by go_num, ?_, ?_⟩
          · rw [show 2 * (k + 1) = 2 * k + 1 + 1 by omega, goodTo_succ, goodTo_succ, HG.out, HC.out, HD.out, b1, b2]; rfl
          · rw [hh.out, HW.out, alloc2_set, HJ.out, ← map_setB]
            rfl
        case measure => simp [intOf]; omega
      · have hbad : isHex c = false ∨ isHex d = false := by
          cases h1 : isHex c
          · exact .inl rfl
          · cases h2 : isHex d
            · exact .inr rfl
            · exact absurd ⟨h1, h2⟩ hb
        have hpb : Hid (pb s = false) := by
          show _ = _
          unfold pb
          rcases hbad with h | h
          · rw [goodTo_not s (2 * k) 64 (by omega) (by rw [HC.out]; exact h)]; simp
          · rw [goodTo_not s (2 * k + 1) 64 (by omega) (by rw [HD.out]; exact h)]; simp
        clear hb
        have hst := storeCells_row wr w.heap.size 33 33 zero32A zero32A (by rw [HW.out]; exact two_heap _ _ _ _ _) (by rw [info26, zero32A_size]) rfl zero32A_one
        rcases hbad with b1 | b1
        all_goals
          go_wp2_with fail
          (with_reducible refine (digit_any c _).mono ?_)
          rintro ee ww ⟨rfl, rfl⟩
          go_wp2_with fail
          (with_reducible refine (digit_any d _).mono ?_)
          rintro ee ww ⟨rfl, rfl⟩
          go_wp2_with ((with_reducible refine wpList_built2 (o := ⟨some 40, _, _, _, _, _⟩) rfl 33 _ rfl zero32A ?_ ?_); (kernel_rfl))
        all_goals
          refine bodyPost_ret (v := .tuple #[.agg zero32A, .bool false]) ?_ rfl ⟨?_, ?_⟩
          · exact (results_row_tmp rfl _ _ w.heap.size 33 zero32A (0, 0) _ rfl (setRow_heap _ _ _ _ 33 _ (by rw [HW.out]; exact two_heap _ _ _ _ _)) Tryz.underlying33 rfl (by rw [info26, zero32A_size])).trans rfl
          · rw [pk_no s hpb.out, hpb.out, zero32A_eq]
          · rw [HW.out]; exact two_grown _ _ _ _ _ _
    · have hk32 : k = 32 := by omega
      subst hk32
      clear hlt hk
      have hpb : Hid (pb s = true) := by
        show _ = _
        unfold pb
        rw [HS.out, show goodTo s 64 = true from HG.out]; rfl
      have hks : ((keyP s 32).map encB).size = 32 := by rw [Array.size_map, keyP_size]
      have HKS := Lib.hid hks
      have hone : Hid (((keyP s 32).map encB).all (·.oneCell') = true) := by
        show _ = _
        rw [Array.all_map]
        exact Array.all_eq_true.2 fun i hi => rfl
      obtain ⟨KK, hKK⟩ : ∃ KK, (keyP s 32).map encB = KK := ⟨_, rfl⟩
      rw [hKK] at HKS hone hw
      have HK := Lib.hid hKK
      have hst := storeCells_row wr w.heap.size 33 33 zero32A KK (by rw [hw]; exact two_heap _ _ _ _ _) (by rw [info26, HKS.out]) (by rw [HKS.out, zero32A_size]) hone.out
      have hnew : Hid (wr.heap[w.heap.size + 1]? = some (.cells KK 33 (0, 0))) := by
        show _ = _
        rw [hw, ← alloc_size w (.cells zero32A 33), heap_alloc_new]
      have HW := Lib.hid hw
      have hks' := HKS.out
      clear hks hKK hw
      go_wp2_with ((with_reducible refine wpList_load_row (o := ⟨some 48, _, _, _, _, _⟩) rfl 33 _ rfl (w.heap.size + 1) ?_ 33 KK (0, 0) (.array 32 5) hnew.out Tryz.underlying33 rfl ?_ ?_); (exact rfl); (rw [info26, HKS.out]))
      refine bodyPost_ret (v := .tuple #[.agg KK, .bool true]) ?_ rfl ⟨?_, ?_⟩
      · exact (results_row_tmp rfl _ _ w.heap.size 33 KK (0, 0) _ rfl (setRow_heap _ _ _ _ 33 _ (by rw [HW.out]; exact two_heap _ _ _ _ _)) Tryz.underlying33 rfl (by rw [info26, HKS.out])).trans rfl
      · rw [pk_yes s hpb.out, hpb.out, HK.out]
      · rw [HW.out]; exact two_grown _ _ _ _ _ _

theorem parse_any (s : ByteArray) (w : World) : Calls Tryz.prog 66 #[.string s] w (ParseRet w s) := by
  by_cases h : s.size = 64
  · exact parse_yes s w h
  · exact parse_no s w h
end Go.Proofs.YthdopcdllggdaaaGreatDoor.Sha
namespace Go.Proofs.YthdopcdllggdaaaGreatDoor.Sha
open Go.RowKit Go.Sort

def keyR (s : ByteArray) : Nat → Array UInt8
  | 0 => Array.replicate 32 0
  | i + 1 => (keyR s i).setIfInBounds (i / 2) (((keyR s i)[i / 2]! <<< 4) ||| hv (byteAt s i))
theorem keyR_size (s : ByteArray) (k : Nat) : (keyR s k).size = 32 := by
  induction k with
  | zero => simp [keyR]
  | succ k ih => simp [keyR, ih]
theorem keyP_later (s : ByteArray) (k j : Nat) (h : k ≤ j) (hj : j < 32) : (keyP s k)[j]! = 0 := by
  induction k with
  | zero => rw [getElem!_pos _ j (by rw [keyP_size]; exact hj)]; simp [keyP]
  | succ k ih =>
    have e := ih (by omega)
    rw [getElem!_pos _ j (by rw [keyP_size]; exact hj)] at e ⊢
    simp only [keyP]
    rw [Array.getElem_setIfInBounds_ne (by rw [keyP_size]; exact hj) (by omega)]
    exact e
theorem keyR_eq (s : ByteArray) (k : Nat) (h : k ≤ 32) : keyR s (2 * k) = keyP s k := by
  induction k with
  | zero => rfl
  | succ k ih =>
    have e := ih (by omega)
    have e0 := keyP_later s k k (Nat.le_refl _) (by omega)
    show (keyR s (2 * k + 1)).setIfInBounds ((2 * k + 1) / 2) (((keyR s (2 * k + 1))[(2 * k + 1) / 2]! <<< 4) ||| hv (byteAt s (2 * k + 1))) = (keyP s k).setIfInBounds k ((hv (byteAt s (2 * k)) <<< 4) ||| hv (byteAt s (2 * k + 1)))
    have e1 : keyR s (2 * k + 1) = (keyP s k).setIfInBounds k (hv (byteAt s (2 * k))) := by
      show (keyR s (2 * k)).setIfInBounds ((2 * k) / 2) _ = _
      rw [e, show 2 * k / 2 = k by omega, e0]
      simp
    rw [e1, show (2 * k + 1) / 2 = k by omega]
    have e2 : ((keyP s k).setIfInBounds k (hv (byteAt s (2 * k))))[k]! = hv (byteAt s (2 * k)) := by
      rw [getElem!_pos _ k (by simp [keyP_size]; omega)]
      simp
    rw [e2]
    simp
theorem join_eq' (a b : UInt8) : bits .or .u8 ((a.toNat : Int) * 16 % 256) (b.toNat : Int) = (((a <<< 4) ||| b).toNat : Int) := by
  have e : (a.toNat : Int) * (16 : Int) % (256 : Int) = Int.ofNat (a <<< 4).toNat := by
    rw [UInt8.toNat_shiftLeft]; simp [Nat.shiftLeft_eq]
  rw [e, Int.ofNat_eq_natCast, u8_or_nat _ _ (UInt8.toNat_lt _) (UInt8.toNat_lt _), UInt8.toNat_or]

set_option maxRecDepth 1000000
set_option maxHeartbeats 1000000 in
theorem refparse_no (s : ByteArray) (w : World) (hs : s.size ≠ 64) :
    Calls Tryz.prog 32 #[.string s] w (ParseRet w s) := by
  have hpb : Hid (pb s = false) := by show _ = _; unfold pb; rw [decide_eq_false hs]; rfl
  have hz : ∀ W : World, (zeroValue 33).run Tryz.prog W = .ok (.agg zero32A) W := by intro W; kernel_rfl
  have hne : ¬ (s.size : Int) = 64 := by omega
  have hzs := zero32A_size
  have hst := storeCells_row ((w.alloc (.cells zero32A 33)).alloc (.cells zero32A 33)) w.heap.size 33 33 zero32A zero32A (two_heap _ _ _ _ _) (by rw [info26, zero32A_size]) rfl zero32A_one
  have hld : Hid (((w.alloc (.cells zero32A 33)).alloc (.cells zero32A 33)).heap[w.heap.size + 1]? = some (.cells zero32A 33 (0, 0))) := by
    show _ = _
    rw [← alloc_size w (.cells zero32A 33), heap_alloc_new]
  clear hs
  go_enter Tryz.func32, Tryz.ntmps32
  go_wp2_with ((with_reducible refine wpList_load_row (o := ⟨some 11, _, _, _, _, _⟩) rfl 33 _ rfl (w.heap.size + 1) ?_ 33 zero32A (0, 0) (.array 32 5) hld.out Tryz.underlying33 rfl ?_ ?_); (exact rfl); (rw [info26, zero32A_size]))
  refine bodyPost_ret (v := .tuple #[.agg zero32A, .bool false]) ?_ rfl ⟨?_, two_grown _ _ _ _ _ _⟩
  · exact (results_row_tmp rfl _ _ w.heap.size 33 zero32A (0, 0) _ rfl (setRow_heap _ _ _ _ 33 _ (two_heap _ _ _ _ _)) Tryz.underlying33 rfl (by rw [info26, zero32A_size])).trans rfl
  · rw [pk_no s hpb.out, hpb.out, zero32A_eq]

set_option maxRecDepth 1000000
set_option maxHeartbeats 2000000 in
theorem refparse_yes (s : ByteArray) (w : World) (hs : s.size = 64) :
    Calls Tryz.prog 32 #[.string s] w (ParseRet w s) := by
  have hz : ∀ W : World, (zeroValue 33).run Tryz.prog W = .ok (.agg zero32A) W := by intro W; kernel_rfl
  have hne : (s.size : Int) = 64 := by omega
  have hsz1 : 64 ≤ s.size := by omega
  have hzs := zero32A_size
  have HS := Lib.hid hs
  clear hs
  go_enter Tryz.func32, Tryz.ntmps32
  go_wp2
  clear hne
  go_loopw [5] (fun i wr => ∃ k : Nat, k ≤ 64 ∧ i = .int .i64 k ∧ goodTo s k = true ∧ wr = (w.alloc (.cells zero32A 33)).alloc (.cells ((keyR s k).map encB) 33)) (fun i _ => 64 - (intOf i).toNat)
  case atStart => exact ⟨0, by omega, rfl, rfl, by rw [show (keyR s 0).map encB = zero32A from zero32A_eq]⟩
  case round =>
    obtain ⟨k, hk, rfl, hgood, hw⟩ := hrel
    have HG := Lib.hid hgood
    clear hgood
    by_cases hlt : k < 64
    · obtain ⟨c, hc⟩ : ∃ c, byteAt s k = c := ⟨_, rfl⟩
      have hc2 : s[k]'(by omega) = c := by rw [← byteAt_eq]; exact hc
      obtain ⟨x, hx⟩ : ∃ x, (keyR s k)[k / 2]! = x := ⟨_, rfl⟩
      have hcell : wr.cell? ⟨w.heap.size + 1, k / 2, none⟩ = some (.int .u8 (x.toNat : Int)) := by
        rw [hw, ← alloc_size w (.cells zero32A 33), alloc_cell, Array.getElem?_map, Array.getElem?_eq_getElem (by rw [keyR_size]; omega), ← hx, getElem!_pos _ _ (by rw [keyR_size]; omega)]
        rfl
      have hfr : wr.frozen? ⟨w.heap.size + 1, k / 2, none⟩ = false := by
        rw [hw, ← alloc_size w (.cells zero32A 33), alloc_frozen]
      have hh := Lib.hid (join_eq' x (hv c))
      have hxl := x.toNat_lt
      have hcl := c.toNat_lt
      have hjoin : (keyR s (k + 1)) = (keyR s k).setIfInBounds (k / 2) ((x <<< 4) ||| hv c) := by rw [← hc, ← hx]; rfl
      have HJ := Lib.hid hjoin
      have HW := Lib.hid hw
      have HC := Lib.hid hc
      have hst := storeCells_row wr w.heap.size 33 33 zero32A zero32A (by rw [hw]; exact two_heap _ _ _ _ _) (by rw [info26, zero32A_size]) rfl zero32A_one
      clear hjoin hw hc hx
      by_cases h1 : 48 ≤ c.toNat ∧ c.toNat ≤ 57
      · have e := Lib.hid (hv_num c h1.1 h1.2)
        have e2 : Hid (isHex c = true) := by show _ = _; simp [isHex]; omega
        have a1 : (48 : Int) ≤ (c.toNat : Int) := by omega
        have a2 : (c.toNat : Int) ≤ 57 := by omega
        clear h1 hst
        go_wp2
        go_roundw
        case rel =>
          refine ⟨k + 1, by omega, by go_num, ?_, ?_⟩
          · rw [goodTo_succ, HG.out, HC.out, e2.out]; rfl
          · rw [← e.out, hh.out, HW.out, alloc2_set, HJ.out, ← map_setB]
            rfl
        case measure => simp [intOf]; omega
      · by_cases h2 : 97 ≤ c.toNat ∧ c.toNat ≤ 102
        · have e := Lib.hid (hv_low c h2.1 h2.2)
          have e2 : Hid (isHex c = true) := by show _ = _; simp [isHex]; omega
          have a1 : (97 : Int) ≤ (c.toNat : Int) := by omega
          have a2 : (c.toNat : Int) ≤ 102 := by omega
          have a3 : decide ((c.toNat : Int) ≤ 57) = false := by simp; omega
          clear h1 h2 hst
          go_wp2
          go_roundw
          case rel =>
            refine ⟨k + 1, by omega, by go_num, ?_, ?_⟩
            · rw [goodTo_succ, HG.out, HC.out, e2.out]; rfl
            · rw [← e.out, hh.out, HW.out, alloc2_set, HJ.out, ← map_setB]
              rfl
          case measure => simp [intOf]; omega
        · have e2 : isHex c = false := by simp [isHex]; omega
          have hpb : Hid (pb s = false) := by
            show _ = _
            unfold pb
            rw [goodTo_not s k 64 hlt (by rw [HC.out]; exact e2)]; simp
          have htests : (c.toNat < 48) ∨ (48 ≤ c.toNat ∧ 57 < c.toNat ∧ c.toNat < 97) ∨ (102 < c.toNat) := by omega
          clear h1 h2 e2
          rcases htests with t | t | t
          · have b1 : decide (48 ≤ (c.toNat : Int)) = false := by simp; omega
            have b2 : decide (97 ≤ (c.toNat : Int)) = false := by simp; omega
            clear t
            go_wp2_with ((with_reducible refine wpList_built2 (o := ⟨some 19, _, _, _, _, _⟩) rfl 33 _ rfl zero32A ?_ ?_); (kernel_rfl))
            refine bodyPost_ret (v := .tuple #[.agg zero32A, .bool false]) ?_ rfl ⟨?_, ?_⟩
            · exact (results_row_tmp rfl _ _ w.heap.size 33 zero32A (0, 0) _ rfl (setRow_heap _ _ _ _ 33 _ (by rw [HW.out]; exact two_heap _ _ _ _ _)) Tryz.underlying33 rfl (by rw [info26, zero32A_size])).trans rfl
            · rw [pk_no s hpb.out, hpb.out, zero32A_eq]
            · rw [HW.out]; exact two_grown _ _ _ _ _ _
          · have b0 : (48 : Int) ≤ (c.toNat : Int) := by omega
            have b1 : decide ((c.toNat : Int) ≤ 57) = false := by simp; omega
            have b2 : decide (97 ≤ (c.toNat : Int)) = false := by simp; omega
            clear t
            go_wp2_with ((with_reducible refine wpList_built2 (o := ⟨some 19, _, _, _, _, _⟩) rfl 33 _ rfl zero32A ?_ ?_); (kernel_rfl))
            refine bodyPost_ret (v := .tuple #[.agg zero32A, .bool false]) ?_ rfl ⟨?_, ?_⟩
            · exact (results_row_tmp rfl _ _ w.heap.size 33 zero32A (0, 0) _ rfl (setRow_heap _ _ _ _ 33 _ (by rw [HW.out]; exact two_heap _ _ _ _ _)) Tryz.underlying33 rfl (by rw [info26, zero32A_size])).trans rfl
            · rw [pk_no s hpb.out, hpb.out, zero32A_eq]
            · rw [HW.out]; exact two_grown _ _ _ _ _ _
          · have b0 : (97 : Int) ≤ (c.toNat : Int) := by omega
            have b1 : decide ((c.toNat : Int) ≤ 57) = false := by simp; omega
            have b2 : decide ((c.toNat : Int) ≤ 102) = false := by simp; omega
            clear t
            go_wp2_with ((with_reducible refine wpList_built2 (o := ⟨some 19, _, _, _, _, _⟩) rfl 33 _ rfl zero32A ?_ ?_); (kernel_rfl))
            refine bodyPost_ret (v := .tuple #[.agg zero32A, .bool false]) ?_ rfl ⟨?_, ?_⟩
            · exact (results_row_tmp rfl _ _ w.heap.size 33 zero32A (0, 0) _ rfl (setRow_heap _ _ _ _ 33 _ (by rw [HW.out]; exact two_heap _ _ _ _ _)) Tryz.underlying33 rfl (by rw [info26, zero32A_size])).trans rfl
            · rw [pk_no s hpb.out, hpb.out, zero32A_eq]
            · rw [HW.out]; exact two_grown _ _ _ _ _ _
    · have hk64 : k = 64 := by omega
      subst hk64
      clear hlt hk
      have hpb : Hid (pb s = true) := by
        show _ = _
        unfold pb
        rw [HS.out, HG.out]; rfl
      have hks : ((keyP s 32).map encB).size = 32 := by rw [Array.size_map, keyP_size]
      have HKS := Lib.hid hks
      have hone : Hid (((keyP s 32).map encB).all (·.oneCell') = true) := by
        show _ = _
        rw [Array.all_map]
        exact Array.all_eq_true.2 fun i hi => rfl
      rw [keyR_eq s 32 (by omega)] at hw
      obtain ⟨KK, hKK⟩ : ∃ KK, (keyP s 32).map encB = KK := ⟨_, rfl⟩
      rw [hKK] at HKS hone hw
      have HK := Lib.hid hKK
      have hst := storeCells_row wr w.heap.size 33 33 zero32A KK (by rw [hw]; exact two_heap _ _ _ _ _) (by rw [info26, HKS.out]) (by rw [HKS.out, zero32A_size]) hone.out
      have hnew : Hid (wr.heap[w.heap.size + 1]? = some (.cells KK 33 (0, 0))) := by
        show _ = _
        rw [hw, ← alloc_size w (.cells zero32A 33), heap_alloc_new]
      have HW := Lib.hid hw
      have hks' := HKS.out
      clear hks hKK hw
      go_wp2_with ((with_reducible refine wpList_load_row (o := ⟨some 49, _, _, _, _, _⟩) rfl 33 _ rfl (w.heap.size + 1) ?_ 33 KK (0, 0) (.array 32 5) hnew.out Tryz.underlying33 rfl ?_ ?_); (exact rfl); (rw [info26, HKS.out]))
      refine bodyPost_ret (v := .tuple #[.agg KK, .bool true]) ?_ rfl ⟨?_, ?_⟩
      · exact (results_row_tmp rfl _ _ w.heap.size 33 KK (0, 0) _ rfl (setRow_heap _ _ _ _ 33 _ (by rw [HW.out]; exact two_heap _ _ _ _ _)) Tryz.underlying33 rfl (by rw [info26, HKS.out])).trans rfl
      · rw [pk_yes s hpb.out, hpb.out, HK.out]
      · rw [HW.out]; exact two_grown _ _ _ _ _ _
theorem refparse_any (s : ByteArray) (w : World) : Calls Tryz.prog 32 #[.string s] w (ParseRet w s) := by
  by_cases h : s.size = 64
  · exact refparse_yes s w h
  · exact refparse_no s w h
end Go.Proofs.YthdopcdllggdaaaGreatDoor.Sha
