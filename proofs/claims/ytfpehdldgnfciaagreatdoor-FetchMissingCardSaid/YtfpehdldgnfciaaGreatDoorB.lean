/- Plain facts on 32-bit words, new blocks of memory, and the sum's rounds as functions. -/
import Derived.Test.YtfpehdldgnfciaaGreatDoorA
import Derived.BigRegion
import Derived.Lib.RowBridge
import Derived.Sort.Row
namespace Go.Proofs.YtfpehdldgnfciaaGreatDoor.Sha
open Go.RowKit Go.Sort

def encW (x : UInt32) : Value := .int .u32 (x.toNat : Int)
def encB (x : UInt8) : Value := .int .u8 (x.toNat : Int)

theorem alloc_set (w : World) (c : Array Value) (t : TypeId) (i : Nat) (v : Value) :
    (w.alloc (.cells c t)).setCell ⟨w.heap.size, i, none⟩ v = w.alloc (.cells (c.setIfInBounds i v) t) := by
  rw [setCell_eq]
  unfold mapBlock World.alloc
  congr 1
  apply Array.ext_getElem?
  intro k
  simp only [Array.getElem?_modify, Array.getElem?_push]
  by_cases hk : w.heap.size = k
  · subst hk; simp [onCells]
  · simp [hk, Ne.symm hk]

theorem alloc_cell (w : World) (c : Array Value) (t : TypeId) (i : Nat) : (w.alloc (.cells c t)).cell? ⟨w.heap.size, i, none⟩ = c[i]? := by
  simp [World.alloc, World.cell?, -World.alloc_eq]

theorem alloc_frozen (w : World) (c : Array Value) (t : TypeId) (i : Nat) : (w.alloc (.cells c t)).frozen? ⟨w.heap.size, i, none⟩ = false := by
  simp [World.alloc, World.frozen?, -World.alloc_eq]

theorem map_set (a : Array UInt32) (i : Nat) (x : UInt32) : (a.map encW).setIfInBounds i (encW x) = (a.setIfInBounds i x).map encW := by
  apply Array.ext_getElem?
  intro k
  simp only [Array.getElem?_setIfInBounds, Array.getElem?_map, Array.size_map]
  by_cases h : i = k
  · subst h; by_cases h2 : i < a.size <;> simp [h2]
  · simp [h]

theorem map_at (a : Array UInt32) (i : Nat) (h : i < a.size) : (a.map encW)[i]? = some (encW a[i]!) := by
  rw [Array.getElem?_map, Array.getElem?_eq_getElem h, Option.map_some, getElem!_pos a i h]

theorem add32 (a b : UInt32) : ((a.toNat : Int) + (b.toNat : Int)) % 4294967296 = ((a + b).toNat : Int) := by
  rw [UInt32.toNat_add]; simp
theorem xor32 (a b : UInt32) : bits .xor .u32 (a.toNat : Int) (b.toNat : Int) = ((a ^^^ b).toNat : Int) := by
  rw [u32_xor_nat _ _ a.toNat_lt b.toNat_lt, UInt32.toNat_xor]
theorem and32 (a b : UInt32) : bits .and .u32 (a.toNat : Int) (b.toNat : Int) = ((a &&& b).toNat : Int) := by
  rw [u32_and_nat _ _ a.toNat_lt b.toNat_lt, UInt32.toNat_and]
theorem shr3 (a : UInt32) : (a.toNat : Int) / (8 : Int) = ((a >>> 3).toNat : Int) := by
  rw [UInt32.toNat_shiftRight]; simp [Nat.shiftRight_eq_div_pow]
theorem shr10 (a : UInt32) : (a.toNat : Int) / (1024 : Int) = ((a >>> 10).toNat : Int) := by
  rw [UInt32.toNat_shiftRight]; simp [Nat.shiftRight_eq_div_pow]

/-- A callee that leaves the world alone, met behind draws that were made before. -/
theorem same_again {Q : Program} {f : FuncId} {xs : Array Value} {w : World} {m n : Nat} {v : Value}
    (h : Calls Q f xs (w.drewN (m + n)) fun e u => e = .returned v ∧ u = w.drewN (m + n)) :
    Calls Q f xs (w.drewN (m + n)) fun e u => e = .returned v ∧ ∃ k, u = w.drewN (m + k) :=
  h.mono fun _ _ hh => ⟨hh.1, n, hh.2⟩
theorem drawn_again {Q : Program} {f : FuncId} {xs : Array Value} {w : World} {m n : Nat} {v : Value}
    (h : Calls Q f xs (w.drewN (m + n)) fun e u => e = .returned v ∧ ∃ k, u = (w.drewN (m + n)).drewN k) :
    Calls Q f xs (w.drewN (m + n)) fun e u => e = .returned v ∧ ∃ k, u = w.drewN (m + k) :=
  h.mono fun _ _ hh => ⟨hh.1, hh.2.elim fun k hk => ⟨n + k, by rw [hk, World.drewN_drewN, Nat.add_assoc]⟩⟩

def word (P : Nat → UInt8) (k : Nat) : UInt32 := UInt32.ofNat ((((P (4 * k)).toNat * 16777216 ||| (P (4 * k + 1)).toNat * 65536) ||| (P (4 * k + 2)).toNat * 256) ||| (P (4 * k + 3)).toNat)

theorem word_eq (P : Nat → UInt8) (k : Nat) {c0 c1 c2 c3 : UInt8} (h0 : P (4 * k) = c0) (h1 : P (4 * k + 1) = c1) (h2 : P (4 * k + 2) = c2) (h3 : P (4 * k + 3) = c3) :
    bits .or .u32 (bits .or .u32 (bits .or .u32 ((c0.toNat : Int) * 16777216) ((c1.toNat : Int) * 65536)) ((c2.toNat : Int) * 256)) (c3.toNat : Int) = ((word P k).toNat : Int) := by
  subst h0 h1 h2 h3
  have b0 := (P (4 * k)).toNat_lt
  have b1 := (P (4 * k + 1)).toNat_lt
  have b2 := (P (4 * k + 2)).toNat_lt
  have b3 := (P (4 * k + 3)).toNat_lt
  unfold word
  have e0 : ((P (4 * k)).toNat : Int) * 16777216 = (((P (4 * k)).toNat * 16777216 : Nat) : Int) := by simp
  have e1 : ((P (4 * k + 1)).toNat : Int) * 65536 = (((P (4 * k + 1)).toNat * 65536 : Nat) : Int) := by simp
  have e2 : ((P (4 * k + 2)).toNat : Int) * 256 = (((P (4 * k + 2)).toNat * 256 : Nat) : Int) := by simp
  rw [e0, e1, e2, u32_or_nat _ _ (by omega) (by omega), u32_or_nat _ _ (or_lt _ _ (by omega) (by omega)) (by omega),
    u32_or_nat _ _ (or_lt _ _ (or_lt _ _ (by omega) (by omega)) (by omega)) (by omega),
    UInt32.toNat_ofNat_of_lt' (or_lt _ _ (or_lt _ _ (or_lt _ _ (by omega) (by omega)) (by omega)) (by omega))]

def sig0 (x : UInt32) : UInt32 := (rt 7 x ^^^ rt 18 x) ^^^ (x >>> 3)
def sig1 (x : UInt32) : UInt32 := (rt 17 x ^^^ rt 19 x) ^^^ (x >>> 10)
def later (D : Array UInt32) (i : Nat) : UInt32 := D[i - 16]! + sig0 D[i - 15]! + D[i - 7]! + sig1 D[i - 2]!
/-- The block's words, the first k of them laid. -/
def sch (P : Nat → UInt8) : Nat → Array UInt32
  | 0 => Array.replicate 64 0
  | k + 1 => (sch P k).setIfInBounds k (if k < 16 then word P k else later (sch P k) k)

theorem sch_size (P : Nat → UInt8) (k : Nat) : (sch P k).size = 64 := by
  induction k with
  | zero => simp [sch]
  | succ k ih => simp [sch, ih]
theorem sch_word (P : Nat → UInt8) (k : Nat) (h : k < 16) : sch P (k + 1) = (sch P k).setIfInBounds k (word P k) := by simp [sch, h]
theorem sch_later (P : Nat → UInt8) (k : Nat) (h : 16 ≤ k) : sch P (k + 1) = (sch P k).setIfInBounds k (later (sch P k) k) := by
  simp [sch, show ¬ k < 16 by omega]

/-- What is under way in the rounds. -/
structure St where
  a : UInt32
  b : UInt32
  c : UInt32
  d : UInt32
  e : UInt32
  f : UInt32
  g : UInt32
  h : UInt32

def big1 (e : UInt32) : UInt32 := (rt 6 e ^^^ rt 11 e) ^^^ rt 25 e
def big0 (a : UInt32) : UInt32 := (rt 2 a ^^^ rt 13 a) ^^^ rt 22 a
def choose (e f g : UInt32) : UInt32 := (e &&& f) ^^^ ((4294967295 ^^^ e) &&& g)
def most (a b c : UInt32) : UInt32 := ((a &&& b) ^^^ (a &&& c)) ^^^ (b &&& c)
def tOne (s : St) (k v : UInt32) : UInt32 := (((s.h + big1 s.e) + choose s.e s.f s.g) + k) + v
def tTwo (s : St) : UInt32 := big0 s.a + most s.a s.b s.c
def turnOnce (s : St) (k v : UInt32) : St := ⟨tOne s k v + tTwo s, s.a, s.b, s.c, s.d + tOne s k v, s.e, s.f, s.g⟩
def rounds (K W : Array UInt32) (s : St) : Nat → St
  | 0 => s
  | k + 1 => turnOnce (rounds K W s k) K[k]! W[k]!

/-- The constants of the rounds. -/
def table : Array UInt32 := #[1116352408, 1899447441, 3049323471, 3921009573, 961987163, 1508970993, 2453635748, 2870763221, 3624381080, 310598401, 607225278, 1426881987, 1925078388, 2162078206, 2614888103, 3248222580, 3835390401, 4022224774, 264347078, 604807628, 770255983, 1249150122, 1555081692, 1996064986, 2554220882, 2821834349, 2952996808, 3210313671, 3336571891, 3584528711, 113926993, 338241895, 666307205, 773529912, 1294757372, 1396182291, 1695183700, 1986661051, 2177026350, 2456956037, 2730485921, 2820302411, 3259730800, 3345764771, 3516065817, 3600352804, 4094571909, 275423344, 430227734, 506948616, 659060556, 883997877, 958139571, 1322822218, 1537002063, 1747873779, 1955562222, 2024104815, 2227730452, 2361852424, 2428436474, 2756734187, 3204031479, 3329325298]
theorem table_size : table.size = 64 := by rfl

/-- A sum's eight words behind one block more. -/
def mixed (s : St) (P : Nat → UInt8) : St :=
  let r := rounds table (sch P 64) s 64
  ⟨s.a + r.a, s.b + r.b, s.c + r.c, s.d + r.d, s.e + r.e, s.f + r.f, s.g + r.g, s.h + r.h⟩
def St.row (s : St) : Array UInt32 := #[s.a, s.b, s.c, s.d, s.e, s.f, s.g, s.h]

theorem not32 (a : UInt32) : bits .xor .u32 (if IntKind.u32.signed = true then -1 else IntKind.u32.max) (a.toNat : Int) = ((4294967295 ^^^ a : UInt32).toNat : Int) := by
  rw [if_neg (by decide)]
  exact xor32 4294967295 a

theorem sum5 (a b c d e : UInt32) : ((a.toNat : Int) + b.toNat + c.toNat + d.toNat + e.toNat) % 4294967296 = ((a + b + c + d + e : UInt32).toNat : Int) := by
  simp only [UInt32.toNat_add]; simp only [Int.natCast_emod, Int.natCast_add]; simp
theorem sum4 (a b c d : UInt32) : ((a.toNat : Int) + b.toNat + c.toNat + d.toNat) % 4294967296 = ((a + b + c + d : UInt32).toNat : Int) := by
  simp only [UInt32.toNat_add]; simp only [Int.natCast_emod, Int.natCast_add]; simp

theorem later_eq (x16 x15 x7 x2 : UInt32) :
    ((x16.toNat : Int) + bits BinOp.xor IntKind.u32 (bits BinOp.xor IntKind.u32 ((rt 7 x15).toNat : Int) ((rt 18 x15).toNat : Int)) ((x15.toNat : Int) / 8) + (x7.toNat : Int) +
      bits BinOp.xor IntKind.u32 (bits BinOp.xor IntKind.u32 ((rt 17 x2).toNat : Int) ((rt 19 x2).toNat : Int)) ((x2.toNat : Int) / 1024)) % 4294967296 = ((x16 + sig0 x15 + x7 + sig1 x2 : UInt32).toNat : Int) := by
  rw [shr3, shr10, xor32, xor32, xor32, xor32, sum4]; rfl

theorem one_eq (a b c d e f g h kk vv : UInt32) :
    ((h.toNat : Int) + bits BinOp.xor IntKind.u32 (bits BinOp.xor IntKind.u32 ((rt 6 e).toNat : Int) ((rt 11 e).toNat : Int)) ((rt 25 e).toNat : Int) +
      bits BinOp.xor IntKind.u32 (bits BinOp.and IntKind.u32 (e.toNat : Int) (f.toNat : Int)) (bits BinOp.and IntKind.u32 (bits BinOp.xor IntKind.u32 (if IntKind.u32.signed = true then -1 else IntKind.u32.max) (e.toNat : Int)) (g.toNat : Int)) +
      (kk.toNat : Int) + (vv.toNat : Int)) % 4294967296 = ((tOne ⟨a, b, c, d, e, f, g, h⟩ kk vv).toNat : Int) := by
  rw [not32, xor32, xor32, and32, and32, xor32, sum5]; rfl

theorem two_eq (a b c d e f g h : UInt32) :
    (bits BinOp.xor IntKind.u32 (bits BinOp.xor IntKind.u32 ((rt 2 a).toNat : Int) ((rt 13 a).toNat : Int)) ((rt 22 a).toNat : Int) +
      bits BinOp.xor IntKind.u32 (bits BinOp.xor IntKind.u32 (bits BinOp.and IntKind.u32 (a.toNat : Int) (b.toNat : Int)) (bits BinOp.and IntKind.u32 (a.toNat : Int) (c.toNat : Int))) (bits BinOp.and IntKind.u32 (b.toNat : Int) (c.toNat : Int))) % 4294967296 =
      ((tTwo ⟨a, b, c, d, e, f, g, h⟩).toNat : Int) := by
  rw [and32, and32, and32, xor32, xor32, xor32, xor32, add32]; rfl
/-- Eight stores into the words of a sum. -/
theorem eight (w : World) (b : Nat) (x y : St) (hH : Holds encW w b 0 x.row) :
    ((((((((w.setCell ⟨b, 0, none⟩ (encW y.a)).setCell ⟨b, 1, none⟩ (encW y.b)).setCell ⟨b, 2, none⟩ (encW y.c)).setCell ⟨b, 3, none⟩ (encW y.d)).setCell ⟨b, 4, none⟩ (encW y.e)).setCell ⟨b, 5, none⟩ (encW y.f)).setCell ⟨b, 6, none⟩ (encW y.g)).setCell ⟨b, 7, none⟩ (encW y.h)) =
      putRow encW w b 0 y.row := by
  have h : ∀ (d : Array UInt32) (i : Nat) (v : UInt32), i < d.size → (putRow encW w b 0 d).setCell ⟨b, i, none⟩ (encW v) = putRow encW w b 0 (d.setIfInBounds i v) := by
    intro d i v hi
    have := putRow_set encW w b 0 d i v hi
    rwa [Nat.zero_add] at this
  have k : ∀ (d : Array UInt32) (v : World), putRow encW w b 0 d = v → d.size = 8 →
      ((((((((v.setCell ⟨b, 0, none⟩ (encW y.a)).setCell ⟨b, 1, none⟩ (encW y.b)).setCell ⟨b, 2, none⟩ (encW y.c)).setCell ⟨b, 3, none⟩ (encW y.d)).setCell ⟨b, 4, none⟩ (encW y.e)).setCell ⟨b, 5, none⟩ (encW y.f)).setCell ⟨b, 6, none⟩ (encW y.g)).setCell ⟨b, 7, none⟩ (encW y.h)) =
        putRow encW w b 0 ((((((((d.setIfInBounds 0 y.a).setIfInBounds 1 y.b).setIfInBounds 2 y.c).setIfInBounds 3 y.d).setIfInBounds 4 y.e).setIfInBounds 5 y.f).setIfInBounds 6 y.g).setIfInBounds 7 y.h) := by
    intro d v hv hd
    subst hv
    rw [h _ 0 _ (by omega), h _ 1 _ (by simp; omega), h _ 2 _ (by simp; omega), h _ 3 _ (by simp; omega), h _ 4 _ (by simp; omega), h _ 5 _ (by simp; omega), h _ 6 _ (by simp; omega), h _ 7 _ (by simp; omega)]
  have r : ((((((((x.row.setIfInBounds 0 y.a).setIfInBounds 1 y.b).setIfInBounds 2 y.c).setIfInBounds 3 y.d).setIfInBounds 4 y.e).setIfInBounds 5 y.f).setIfInBounds 6 y.g).setIfInBounds 7 y.h) = y.row := by
    simp [St.row]
  have k1 := k x.row w (putRow_self encW w b 0 x.row hH) rfl
  rw [r] at k1
  exact k1

theorem eight_drawn (w : World) (b q : Nat) (x : St) (a1 b1 c1 d1 e1 f1 g1 h1 : UInt32) (hH : Holds encW w b 0 x.row) :
    ((((((((((w.drewN q).setCell ⟨b, 0, none⟩ (.int .u32 (a1.toNat : Int))).setCell ⟨b, 1, none⟩ (.int .u32 (b1.toNat : Int))).setCell ⟨b, 2, none⟩ (.int .u32 (c1.toNat : Int))).setCell ⟨b, 3, none⟩ (.int .u32 (d1.toNat : Int))).setCell ⟨b, 4, none⟩ (.int .u32 (e1.toNat : Int))).setCell ⟨b, 5, none⟩ (.int .u32 (f1.toNat : Int))).setCell ⟨b, 6, none⟩ (.int .u32 (g1.toNat : Int))).setCell ⟨b, 7, none⟩ (.int .u32 (h1.toNat : Int)))).drew.drew.drew.drew.drew.drew.drew.drew =
      (putRow encW w b 0 (St.row ⟨a1, b1, c1, d1, e1, f1, g1, h1⟩)).drewN (q + 8) := by
  rw [← eight w b x ⟨a1, b1, c1, d1, e1, f1, g1, h1⟩ hH]
  have e : ∀ (v : World) (p : Addr) (y : Value), (v.drewN q).setCell p y = (v.setCell p y).drewN q := fun _ _ _ => rfl
  have e2 : ∀ (v : World) (m : Nat), (v.drewN m).drew = v.drewN (m + 1) := fun _ _ => rfl
  rw [e, e, e, e, e, e, e, e, e2, e2, e2, e2, e2, e2, e2, e2]
  simp only [encW, Nat.add_assoc, Nat.reduceAdd]

theorem holds_alloc {w : World} {b : Nat} {d : Array UInt32} (c : Array Value) (t : TypeId) (h : Holds encW w b 0 d) (hb : b < w.heap.size) : Holds encW (w.alloc (.cells c t)) b 0 d := fun j hj =>
  ⟨by rw [World.cell?_alloc_old _ _ _ (Nat.ne_of_lt hb)]; exact (h j hj).1, by rw [World.frozen?_alloc_old _ _ _ (Nat.ne_of_lt hb)]; exact (h j hj).2⟩
end Go.Proofs.YtfpehdldgnfciaaGreatDoor.Sha
