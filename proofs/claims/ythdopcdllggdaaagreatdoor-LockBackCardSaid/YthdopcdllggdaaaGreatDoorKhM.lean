/-
  LockTells, proved: for all lists of pins, raw, the law returns true: they have the document's text, by name, and are alike just where they are letter by letter.
  CONDITIONS: the library's tables (math/bits.deBruijn32tab, deBruijn64tab, internal/strconv.uint64pow10, unicode/utf8.acceptRanges, first) start as the library's text lays them (the card ties them).
-/
import Derived.Test.YthdopcdllggdaaaGreatDoorKgM
import Derived.SliceStrings
import Derived.Lib.SmallJoins
import Derived.Deep.Grids
import Derived.Deep.Slices
import Derived.ChangeSlices
import Derived.ChangeArms
import Derived.OpenShut
namespace Go.Proofs.YthdopcdllggdaaaGreatDoor
open Go.ChangeShapes Go.WideShapes Go.ChangeAt Go.RowKit Go.Deep
theorem cells_str : Tryz.prog.cellsOf 9 = 1 := by kernel_rfl
theorem cells_ver : Tryz.prog.cellsOf 28 = 4 := by kernel_rfl
theorem laidOut : laidOutB Tryz.prog = true := by kernel_rfl
theorem spot_none {W : World} {a : Addr} {v : Value} (h : W.cell? (a.add 0) = some v) : a.spot = none := by
  obtain ⟨b, o, s⟩ := a
  have e : (Addr.add ⟨b, o, s⟩ 0) = ⟨b, o, s⟩ := by simp [Addr.add]
  rw [e] at h
  exact cell_spot h
theorem wf_i64t {n : Int} (h : (Lit.int .i64 n).wf = true) : -9223372036854775808 ≤ n ∧ n ≤ 9223372036854775807 := by
  simp [Lit.wf, IntKind.min, IntKind.max, IntKind.bits, IntKind.signed] at h
  omega
/-- An argument that is a slice of strings. -/
theorem open_strs {H : Type} {enc : TypeId × Value → H} {W : World} {fuel : Nat} {cs : Value} {x : DataW H × List MemPlace} (hp : 0 < W.heap.size)
    (h : DataW.trod enc Tryz.prog W 0 (fun _ => true) true fuel 26 [cs] = some x) : ∃ (a : Option Addr) (n cap : Nat) (L : List ByteArray), cs = .slice a n cap ∧ L.length = n ∧ PartS W W.heap.size (.slice a n cap) L := by
  rcases open_strings Tryz.underlying26 Tryz.underlying9 cells_str h with ⟨hcs, hx⟩ | ⟨a, len, cap, ss, hcs, _, hl, hm, hz, hx, hcell, hsz⟩
  · simp only [List.cons.injEq, and_true] at hcs
    exact ⟨none, 0, 0, [], hcs, rfl, PartS.nil hp⟩
  · simp only [List.cons.injEq, and_true] at hcs
    have hzl : ss.length = cap := by simpa using hz
    have htl : (ss.take len).length = len := by rw [List.length_take]; omega
    refine ⟨some a, len, cap, ss.take len, hcs, htl, ?_⟩
    by_cases h0 : len = 0
    · subst h0
      exact ⟨some a, cap, 0, 0, (by simp), (by simp), (fun h => by cases h), hp, (fun h => by simp at h), (fun j x hj => by simp at hj)⟩
    · have hs : a.spot = none := spot_none (hcell 0 (by omega))
      obtain ⟨b, o, s⟩ := a
      simp only at hs
      subst hs
      have h00 := hcell 0 (by omega)
      have hb : b < W.heap.size := by
        have := World.block_lt_of_cell? _ _ h00
        simpa [Addr.add] using this
      refine ⟨some ⟨b, o, none⟩, cap, b, o, (by rw [htl]), (by rw [htl]; exact hl), (fun h => by cases h), hb, fun _ => rfl, fun j x hj => ?_⟩
      have hj2 : j < len := by have := (List.getElem?_eq_some_iff.1 hj).1; omega
      have h1 := hcell j (by omega)
      have h3 : ss.getD j ByteArray.empty = x := by
        rw [List.getElem?_take_of_lt hj2] at hj
        rw [List.getD_eq_getElem?_getD, hj]; rfl
      rw [h3, Addr.add_mid] at h1
      exact h1
theorem cells_pin : Tryz.prog.cellsOf 35 = 37 := by kernel_rfl
theorem cells_key : Tryz.prog.cellsOf 33 = 32 := by kernel_rfl
theorem cells_int : Tryz.prog.cellsOf 3 = 1 := by kernel_rfl
theorem cells_u8 : Tryz.prog.cellsOf 5 = 1 := by kernel_rfl
theorem cells_sl : Tryz.prog.cellsOf 26 = 1 := by kernel_rfl
/-- The cells of a sum. -/
theorem open_key {H : Type} {enc : TypeId × Value → H} {W : World} {fuel : Nat} {cs : List Value} {x : DataW H × List MemPlace} (h : DataW.trod enc Tryz.prog W 0 (fun _ => true) true fuel 33 cs = some x) : ∃ K : Array UInt8, K.size = 32 ∧ cs = keyC K := by
  obtain ⟨xs, m, _, _, hlen, hxl, hf⟩ := DataW.trod_array Tryz.underlying33 h
  rw [cells_key] at hlen
  have key : ∀ i, ∃ c : UInt8, i < 32 → cs[i]? = some (Sha.encB c) := fun i => by
    by_cases hi : i < 32
    · have h1 := hf i hi
      rw [cells_u8, Nat.mul_one, List.getElem?_eq_getElem (by omega)] at h1
      obtain ⟨z, hz, _, hw⟩ := DataW.trod_int Tryz.underlying5 h1
      have h2 : cs[i]? = some (.int .u8 z) := by
        have := congrArg (·[0]?) hz
        simpa [List.getElem?_take, List.getElem?_drop] using this
      have hb : 0 ≤ z ∧ z ≤ 255 := by simpa [Lit.wf, IntKind.min, IntKind.max, IntKind.signed, IntKind.bits] using hw
      refine ⟨UInt8.ofNat z.toNat, fun _ => ?_⟩
      rw [h2]
      have e : ((UInt8.ofNat z.toNat).toNat : Int) = z := by
        rw [UInt8.toNat_ofNat']
        omega
      unfold Sha.encB
      rw [e]
    · exact ⟨0, fun h => absurd h hi⟩
  refine ⟨Array.ofFn fun i : Fin 32 => (key i.1).choose, by simp, ?_⟩
  apply List.ext_getElem?
  intro i
  unfold keyC
  by_cases hi : i < 32
  · rw [(key i).choose_spec hi]
    simp only [List.getElem?_map, Array.getElem?_toList, Array.getElem?_ofFn, hi, dif_pos]
    rfl
  · rw [List.getElem?_eq_none (by omega), List.getElem?_eq_none (by simp; omega)]
theorem take_one {α : Type} (l : List α) (i : Nat) (x : α) (h : (l.drop i).take 1 = [x]) : l[i]? = some x := by
  have := congrArg (·[0]?) h
  simpa [List.getElem?_take, List.getElem?_drop] using this
/-- The cells of a pin. -/
theorem open_pin {H : Type} {enc : TypeId × Value → H} {W : World} {fuel : Nat} {cs : List Value} {x : DataW H × List MemPlace} (hp : 0 < W.heap.size) (h : DataW.trod enc Tryz.prog W 0 (fun _ => true) true fuel 35 cs = some x) : ∃ p : Pc, cs = p.enc ∧ Raw W W.heap.size p := by
  obtain ⟨xs, k, _, _, hlen, hxl, hf⟩ := DataW.trod_struct Tryz.underlying35 h
  rw [cells_pin] at hlen
  have f0 : DataW.trod enc Tryz.prog W 0 (fun _ => true) true k 9 ((cs.drop 0).take (Tryz.prog.cellsOf 9)) = xs[0]? := hf 0 _ rfl
  have f1 : DataW.trod enc Tryz.prog W 0 (fun _ => true) true k 28 ((cs.drop 1).take (Tryz.prog.cellsOf 28)) = xs[1]? := hf 1 _ rfl
  have f2 : DataW.trod enc Tryz.prog W 0 (fun _ => true) true k 33 ((cs.drop 5).take (Tryz.prog.cellsOf 33)) = xs[2]? := hf 2 _ rfl
  rw [cells_str, List.getElem?_eq_getElem (by rw [hxl]; decide)] at f0
  rw [cells_ver, List.getElem?_eq_getElem (by rw [hxl]; decide)] at f1
  rw [cells_key, List.getElem?_eq_getElem (by rw [hxl]; decide)] at f2
  obtain ⟨nm, e0, _, w0⟩ := DataW.trod_string Tryz.underlying9 f0
  obtain ⟨K, hK, e2⟩ := open_key f2
  obtain ⟨ys, k2, _, _, hlen2, hyl, hg⟩ := DataW.trod_struct Tryz.underlying28 f1
  have g0 : DataW.trod enc Tryz.prog W 0 (fun _ => true) true k2 3 ((((cs.drop 1).take 4).drop 0).take (Tryz.prog.cellsOf 3)) = ys[0]? := hg 0 _ rfl
  have g1 : DataW.trod enc Tryz.prog W 0 (fun _ => true) true k2 3 ((((cs.drop 1).take 4).drop 1).take (Tryz.prog.cellsOf 3)) = ys[1]? := hg 1 _ rfl
  have g2 : DataW.trod enc Tryz.prog W 0 (fun _ => true) true k2 3 ((((cs.drop 1).take 4).drop 2).take (Tryz.prog.cellsOf 3)) = ys[2]? := hg 2 _ rfl
  have g3 : DataW.trod enc Tryz.prog W 0 (fun _ => true) true k2 26 ((((cs.drop 1).take 4).drop 3).take (Tryz.prog.cellsOf 26)) = ys[3]? := hg 3 _ rfl
  rw [cells_int, List.getElem?_eq_getElem (by rw [hyl]; decide)] at g0 g1 g2
  rw [cells_sl, List.getElem?_eq_getElem (by rw [hyl]; decide)] at g3
  obtain ⟨a, i0, _, wa⟩ := DataW.trod_int Tryz.underlying3 g0
  obtain ⟨b, i1, _, wb⟩ := DataW.trod_int Tryz.underlying3 g1
  obtain ⟨c, i2, _, wc⟩ := DataW.trod_int Tryz.underlying3 g2
  obtain ⟨v3, hv3⟩ : ∃ v3, (((cs.drop 1).take 4).drop 3).take 1 = [v3] := List.length_eq_one_iff.1 (by simp [hlen])
  rw [hv3] at g3
  obtain ⟨ad, n, cap, L, e3, hL, hP⟩ := open_strs hp g3
  subst e3
  have c0 := take_one cs 0 _ e0
  have d0 := take_one _ 0 _ i0
  have d1 := take_one _ 1 _ i1
  have d2 := take_one _ 2 _ i2
  have d3 := take_one _ 3 _ hv3
  have hver : (cs.drop 1).take 4 = verC ⟨a, b, c, L⟩ (.slice ad n cap) := by
    have hl4 : ((cs.drop 1).take 4).length = 4 := by simp [hlen]
    apply List.ext_getElem?
    intro i
    rcases (by omega : i = 0 ∨ i = 1 ∨ i = 2 ∨ i = 3 ∨ 4 ≤ i) with rfl | rfl | rfl | rfl | h4
    · rw [d0]; rfl
    · rw [d1]; rfl
    · rw [d2]; rfl
    · rw [d3]; rfl
    · rw [List.getElem?_eq_none (by omega), List.getElem?_eq_none (by simp [verC]; omega)]
  have hkey : cs.drop 5 = keyC K := by rw [← e2, List.take_of_length_le (by simp [hlen])]
  have hcs : cs = .string nm :: (verC ⟨a, b, c, L⟩ (.slice ad n cap) ++ keyC K) := by
    rw [← hver, ← hkey]
    have h1 : (cs.drop 1).drop 4 = cs.drop 5 := by rw [List.drop_drop]
    rw [← h1, List.take_append_drop]
    cases cs with
    | nil => simp at hlen
    | cons x r => 
      have : x = .string nm := by simpa using c0
      rw [this]; rfl
  refine ⟨⟨nm, ⟨a, b, c, L⟩, ad, cap, K, hK⟩, ?_, wf_i64t wa, wf_i64t wb, wf_i64t wc, by unfold maxLen at w0; omega, ?_⟩
  · rw [hcs]
    unfold Pc.enc Pc.sl
    rw [hL]
  · show PartS W W.heap.size (.slice ad L.length cap) L
    rw [hL]
    exact hP
set_option maxRecDepth 100000 in
/-- An argument that is a slice of pins. -/
theorem open_pins {H : Type} {enc : TypeId × Value → H} {W : World} {v : Value} {d : DataW H} {p : List MemPlace} {bb : Nat} (hp0 : 0 < W.heap.size) (hv : Value.okWide Tryz.prog W .any bb 25 v)
    (h : DataW.Trod enc Tryz.prog W 0 (fun _ => true) true 25 v d p) : ∃ (a : Option Addr) (n cap : Nat) (L : List Pc), v = .slice a n cap ∧ L.length = n ∧ PartP W W.heap.size (.slice a n cap) L ∧ ∀ p ∈ L, Raw W W.heap.size p := by
  obtain ⟨a0, n0, c0, rfl⟩ := okWide_slice Tryz.underlying25 hv
  obtain ⟨fuel, hf⟩ := h
  rcases open_slice Tryz.underlying25 hf with ⟨hcs0, hx⟩ | ⟨a, len, cap, m, n, D, Pl, hcs0, _, hl, hm, hmm, hx, hall⟩
  · simp [Value.cells] at hcs0
    obtain ⟨rfl, rfl, rfl⟩ := hcs0
    exact ⟨none, 0, 0, [], rfl, rfl, PartP.empty hp0, fun p hp => by cases hp⟩
  · simp [Value.cells] at hcs0
    obtain ⟨rfl, rfl, rfl⟩ := hcs0
    have hmc : m = c0 := by simpa using hmm
    subst hmc
    have key : ∀ i, ∃ q : Pc, i < n0 → Raw W W.heap.size q ∧ ∀ j u, q.enc[j]? = some u → W.cell? ((a.add (i * 37)).add j) = some u := fun i => by
      by_cases hi : i < n0
      · obtain ⟨cs', h1, h2⟩ := hall i (by omega)
        obtain ⟨q, hq, hr⟩ := open_pin hp0 h2
        rw [cells_pin] at h1
        obtain ⟨_, hlen, hcell⟩ := World.cells?_some h1
        refine ⟨q, fun _ => ⟨hr, fun j u hj => ?_⟩⟩
        rw [← hq] at hj
        have hjl := (List.getElem?_eq_some_iff.1 hj).1
        exact (hcell j (by omega)).trans hj
      · exact ⟨⟨ByteArray.empty, zeroV, none, 0, zeroK, zeroK_size⟩, fun h => absurd h hi⟩
    refine ⟨some a, n0, m, (List.range n0).map fun i => (key i).choose, rfl, by simp, ?_, fun p hp => ?_⟩
    · by_cases h0 : n0 = 0
      · subst h0
        exact ⟨some a, m, 0, 0, (by simp), (by simp), (fun h => by cases h), hp0, (fun h => by simp at h), (fun k p hk => by simp at hk)⟩
      · obtain ⟨nm0, h00⟩ : ∃ nm0, W.cell? ((a.add 0).add 0) = some (.string nm0) := ⟨_, ((key 0).choose_spec (by omega)).2 0 _ rfl⟩
        obtain ⟨b, o, s⟩ := a
        have hs : s = none := by
          have e : ((Addr.add ⟨b, o, s⟩ 0).add 0) = (Addr.add ⟨b, o, s⟩ 0) := by simp [Addr.add]
          rw [e] at h00
          exact spot_none h00
        subst hs
        have hb : b < W.heap.size := by
          have := World.block_lt_of_cell? _ _ h00
          simpa [Addr.add] using this
        refine ⟨some ⟨b, o, none⟩, m, b, o, (by simp), (by simpa using hl), (fun h => by cases h), hb, (fun _ => rfl), fun k p hk => ?_⟩
        have hkn : k < n0 := by
          have := (List.getElem?_eq_some_iff.1 hk).1
          simpa using this
        have hp : (key k).choose = p := by simpa [hkn] using hk
        have hcell := ((key k).choose_spec hkn).2
        rw [hp] at hcell
        intro j u hj
        have := hcell j u hj
        rw [Addr.add_mid, Addr.add_mid] at this
        exact this
    · obtain ⟨i, hi, rfl⟩ := List.mem_map.1 hp
      exact ((key i).choose_spec (List.mem_range.1 hi)).1

end Go.Proofs.YthdopcdllggdaaaGreatDoor
