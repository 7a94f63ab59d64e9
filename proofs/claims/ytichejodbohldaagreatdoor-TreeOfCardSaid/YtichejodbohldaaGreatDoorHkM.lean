/- Arguments: slices of bytes, of acts, of files. -/
import Derived.Test.YtichejodbohldaaGreatDoorIlM
import Derived.Test.YtichejodbohldaaGreatDoorHiM
import Derived.SliceStrings
import Derived.Lib.SmallJoins
import Derived.Deep.Grids
import Derived.Deep.Slices
import Derived.ChangeSlices
namespace Go.Proofs.YtichejodbohldaaGreatDoor
open Go.ChangeShapes Go.WideShapes Go.ChangeAt Go.RowKit Go.Deep
theorem cells_slB : Tryz.prog.cellsOf 31 = 1 := by kernel_rfl
theorem cells_str : Tryz.prog.cellsOf 9 = 1 := by kernel_rfl
theorem cells_bool : Tryz.prog.cellsOf 4 = 1 := by kernel_rfl
theorem cells_act : Tryz.prog.cellsOf 33 = 4 := by kernel_rfl
theorem cells_file : Tryz.prog.cellsOf 68 = 3 := by kernel_rfl
theorem take_one {α : Type} (l : List α) (i : Nat) (x : α) (h : (l.drop i).take 1 = [x]) : l[i]? = some x := by
  have := congrArg (·[0]?) h
  simpa [List.getElem?_take, List.getElem?_drop] using this
def bytesZ (zs : List Int) : List UInt8 := zs.map fun z => UInt8.ofNat z.toNat
theorem byteInt (v : Int) (h0 : 0 ≤ v) (h1 : v < 256) : v = ((UInt8.ofNat v.toNat).toNat : Int) := by
  simp; omega
set_option maxRecDepth 1000000
/-- One row, as a part. -/
theorem rowP (W : World) (A : Option Addr) (L C : Nat) (Z : List Int) (h0 : 0 < W.heap.size) (hLC : L ≤ C) (hZ : Z.length = C) (hw : ∀ n ∈ Z, (Lit.int .u8 n).wf = true) (hn : A = none → C = 0)
    (hc : ∀ a', A = some a' → ∀ c, c < C → W.cell? (a'.add c) = some (.int .u8 (Z.getD c 0))) : Part W W.heap.size (.slice A L C) (bytesZ (Z.take L)) := by
  have hlen : (bytesZ (Z.take L)).length = L := by simp [bytesZ]; omega
  by_cases hL : L = 0
  · subst hL
    exact ⟨A, C, 0, 0, by rw [hlen], by rw [hlen]; omega, hn, h0, fun hp => by rw [hlen] at hp; omega, fun j hj => by rw [hlen] at hj; omega⟩
  · cases hA : A with
    | none => have := hn hA; omega
    | some a' =>
      have hs := spot_none (hc a' hA 0 (by omega))
      obtain ⟨b, o, s⟩ := a'
      have hs' : s = none := hs
      subst hs'
      have hb : b < W.heap.size := by
        have h := hc _ hA 0 (by omega)
        rw [Addr.add_mid] at h
        exact World.block_lt_of_cell? _ _ h
      refine ⟨_, C, b, o, by rw [hlen], by rw [hlen]; exact hLC, (fun h => by cases h), hb, fun _ => rfl, fun j hj => ?_⟩
      rw [hlen] at hj
      have h := hc _ hA j (by omega)
      rw [Addr.add_mid] at h
      rw [h]
      have hz := hw (Z.getD j 0) (by rw [List.getD_eq_getElem?_getD, List.getElem?_eq_getElem (by omega)]; exact List.getElem_mem _)
      have hb2 : 0 ≤ Z.getD j 0 ∧ Z.getD j 0 ≤ 255 := by simpa [Lit.wf, IntKind.min, IntKind.max, IntKind.signed, IntKind.bits] using hz
      have e : (bytesZ (Z.take L)).getD j 0 = UInt8.ofNat (Z.getD j 0).toNat := by
        simp only [bytesZ, List.getD_eq_getElem?_getD, List.getElem?_map, List.getElem?_take, if_pos hj]
        rw [List.getElem?_eq_getElem (by omega)]
        rfl
      rw [e, ← byteInt _ hb2.1 (by omega)]


/-- A cell that is a slice of bytes. -/
theorem open_bytesP {H : Type} {enc : TypeId × Value → H} {W : World} {fuel : Nat} {cs : Value} {x : DataW H × List MemPlace} (hp : 0 < W.heap.size)
    (h : DataW.trod enc Tryz.prog W 0 (fun _ => true) true fuel 31 [cs] = some x) : ∃ (L : List UInt8) (a : Option Addr) (c : Nat), cs = .slice a L.length c ∧ L.length ≤ maxLen ∧ Part W W.heap.size cs L := by
  rcases open_ints Tryz.underlying31 Tryz.underlying5 cells_u8 h with ⟨hcs, hx⟩ | ⟨a, len, cap, zs, hcs, _, hl, hm, hz, hx, hrows, hwf⟩
  · simp only [List.cons.injEq, and_true] at hcs
    refine ⟨[], none, 0, hcs, Nat.zero_le _, none, 0, 0, 0, hcs, Nat.le_refl _, fun _ => rfl, hp, fun h => by simp at h, fun j hj => by simp at hj⟩
  · simp only [List.cons.injEq, and_true] at hcs
    have hzl : zs.length = cap := by simpa using hz
    have hlen : (bytesZ (zs.take len)).length = len := by simp [bytesZ]; omega
    refine ⟨bytesZ (zs.take len), some a, cap, by rw [hlen]; exact hcs, by rw [hlen]; omega, ?_⟩
    rw [hcs]
    exact rowP W (some a) len cap zs hp hl hzl hwf (fun h => by cases h) (fun a' ha c hc => by obtain rfl := Option.some.inj ha; exact hrows c (by omega))
theorem open_act {H : Type} {enc : TypeId × Value → H} {W : World} {fuel : Nat} {cs : List Value} {x : DataW H × List MemPlace} (hp : 0 < W.heap.size) (h : DataW.trod enc Tryz.prog W 0 (fun _ => true) true fuel 33 cs = some x) :
    ∃ y : Ac, cs = actC y ∧ y.what < 256 ∧ y.p.size ≤ maxLen ∧ y.q.size ≤ maxLen ∧ (∃ a c, y.v = .slice a y.b.length c) ∧ y.b.length ≤ maxLen ∧ Part W W.heap.size y.v y.b := by
  obtain ⟨xs, k, _, _, hlen, hxl, hf⟩ := DataW.trod_struct Tryz.underlying33 h
  rw [cells_act] at hlen
  have f0 : DataW.trod enc Tryz.prog W 0 (fun _ => true) true k 5 ((cs.drop 0).take (Tryz.prog.cellsOf 5)) = xs[0]? := hf 0 _ rfl
  have f1 : DataW.trod enc Tryz.prog W 0 (fun _ => true) true k 9 ((cs.drop 1).take (Tryz.prog.cellsOf 9)) = xs[1]? := hf 1 _ rfl
  have f2 : DataW.trod enc Tryz.prog W 0 (fun _ => true) true k 9 ((cs.drop 2).take (Tryz.prog.cellsOf 9)) = xs[2]? := hf 2 _ rfl
  have f3 : DataW.trod enc Tryz.prog W 0 (fun _ => true) true k 31 ((cs.drop 3).take (Tryz.prog.cellsOf 31)) = xs[3]? := hf 3 _ rfl
  rw [cells_u8, List.getElem?_eq_getElem (by rw [hxl]; decide)] at f0
  rw [cells_str, List.getElem?_eq_getElem (by rw [hxl]; decide)] at f1 f2
  rw [cells_slB, List.getElem?_eq_getElem (by rw [hxl]; decide)] at f3
  obtain ⟨z, e0, _, w0⟩ := DataW.trod_int Tryz.underlying5 f0
  obtain ⟨p, e1, _, w1⟩ := DataW.trod_string Tryz.underlying9 f1
  obtain ⟨q, e2, _, w2⟩ := DataW.trod_string Tryz.underlying9 f2
  obtain ⟨v3, hv3⟩ : ∃ v3, (cs.drop 3).take 1 = [v3] := List.length_eq_one_iff.1 (by simp [hlen])
  rw [hv3] at f3
  obtain ⟨L, a, c, e3, h3, hP⟩ := open_bytesP hp f3
  have d0 := take_one cs 0 _ e0
  have d1 := take_one cs 1 _ e1
  have d2 := take_one cs 2 _ e2
  have d3 := take_one cs 3 _ hv3
  have hz := wf_u8 w0
  obtain ⟨zn, rfl⟩ := Int.eq_ofNat_of_zero_le hz.1
  refine ⟨⟨zn, p, q, L, v3⟩, ?_, by show zn < 256; omega, w1, w2, ⟨a, c, e3⟩, h3, hP⟩
  apply List.ext_getElem?
  intro i
  rcases (by omega : i = 0 ∨ i = 1 ∨ i = 2 ∨ i = 3 ∨ 4 ≤ i) with rfl | rfl | rfl | rfl | h4
  · rw [d0]; rfl
  · rw [d1]; rfl
  · rw [d2]; rfl
  · rw [d3]; rfl
  · rw [List.getElem?_eq_none (by omega), List.getElem?_eq_none (by simp [actC]; omega)]
set_option maxRecDepth 100000 in
/-- An argument that is a script. -/
theorem open_acts {H : Type} {enc : TypeId × Value → H} {W : World} {v : Value} {d : DataW H} {p : List MemPlace} {bb : Nat} (hp0 : 0 < W.heap.size) (hv : Value.okWide Tryz.prog W .any bb 22 v)
    (h : DataW.Trod enc Tryz.prog W 0 (fun _ => true) true 22 v d p) : ∃ (a : Option Addr) (n cap : Nat) (L : List Ac), v = .slice a n cap ∧ L.length = n ∧ ActsAt W W.heap.size a L := by
  obtain ⟨a0, n0, c0, rfl⟩ := okWide_slice Tryz.underlying22 hv
  obtain ⟨fuel, hf⟩ := h
  rcases open_slice Tryz.underlying22 hf with ⟨hcs0, hx⟩ | ⟨a, len, cap, m, n, D, Pl, hcs0, _, hl, hm, hmm, hx, hall⟩
  · simp [Value.cells] at hcs0
    obtain ⟨rfl, rfl, rfl⟩ := hcs0
    exact ⟨none, 0, 0, [], rfl, rfl, 0, 0, hp0, fun h => by simp at h, fun j x hj => by simp at hj⟩
  · simp [Value.cells] at hcs0
    obtain ⟨rfl, rfl, rfl⟩ := hcs0
    have hmc : m = c0 := by simpa using hmm
    subst hmc
    have key : ∀ i, ∃ y : Ac, i < n0 → (∀ j u, (actC y)[j]? = some u → W.cell? ((a.add (i * 4)).add j) = some u) ∧ y.what < 256 ∧ y.p.size ≤ maxLen ∧ y.q.size ≤ maxLen ∧ (∃ a c, y.v = .slice a y.b.length c) ∧ y.b.length ≤ maxLen ∧ Part W W.heap.size y.v y.b := fun i => by
      by_cases hi : i < n0
      · obtain ⟨cs', h1, h2⟩ := hall i (by omega)
        obtain ⟨q, hq, hr⟩ := open_act hp0 h2
        rw [cells_act] at h1
        obtain ⟨_, hlen, hcell⟩ := World.cells?_some h1
        refine ⟨q, fun _ => ⟨fun j u hj => ?_, hr⟩⟩
        rw [← hq] at hj
        have hjl := (List.getElem?_eq_some_iff.1 hj).1
        exact (hcell j (by omega)).trans hj
      · exact ⟨⟨0, ByteArray.empty, ByteArray.empty, [], .slice none 0 0⟩, fun h => absurd h hi⟩
    refine ⟨some a, n0, m, (List.range n0).map fun i => (key i).choose, rfl, by simp, ?_⟩
    by_cases h0 : n0 = 0
    · subst h0
      exact ⟨0, 0, hp0, fun h => by simp at h, fun j x hj => by simp at hj⟩
    · obtain ⟨nm0, h00⟩ : ∃ nm0, W.cell? ((a.add 0).add 0) = some nm0 := ⟨_, ((key 0).choose_spec (by omega)).1 0 _ rfl⟩
      obtain ⟨b, o, s⟩ := a
      have hs : s = none := by
        have e : ((Addr.add ⟨b, o, s⟩ 0).add 0) = (Addr.add ⟨b, o, s⟩ 0) := by simp [Addr.add]
        rw [e] at h00
        exact spot_none h00
      subst hs
      have hb : b < W.heap.size := by
        have := World.block_lt_of_cell? _ _ h00
        simpa [Addr.add] using this
      refine ⟨b, o, hb, fun _ => rfl, fun k y hk => ?_⟩
      have hkn : k < n0 := by
        have := (List.getElem?_eq_some_iff.1 hk).1
        simpa using this
      have hy : (key k).choose = y := by simpa [hkn] using hk
      have hcell := (key k).choose_spec hkn
      rw [hy] at hcell
      refine ⟨fun i u hu => ?_, hcell.2⟩
      have := hcell.1 i u hu
      rw [Addr.add_mid, Addr.add_mid] at this
      exact this
end Go.Proofs.YtichejodbohldaaGreatDoor
