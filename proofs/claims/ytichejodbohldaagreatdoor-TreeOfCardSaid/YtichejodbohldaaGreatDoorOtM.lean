/- Of: an argument that is a list of files; LightFiles. -/
import Derived.Test.YtichejodbohldaaGreatDoorHkM
import Derived.Test.YtichejodbohldaaGreatDoorOqM
namespace Go.Proofs.YtichejodbohldaaGreatDoor
open Go.ChangeShapes Go.WideShapes Go.ChangeAt Go.RowKit Go.Deep Go.Maps Go.Lib
set_option maxRecDepth 1000000
def fileG (e : ByteArray × Gn) : List Value := [.string e.1, .bool e.2.nd.dir, e.2.v]
theorem open_file {H : Type} {enc : TypeId × Value → H} {W : World} {fuel : Nat} {cs : List Value} {x : DataW H × List MemPlace} (hp : 0 < W.heap.size) (h : DataW.trod enc Tryz.prog W 0 (fun _ => true) true fuel 68 cs = some x) :
    ∃ y : ByteArray × Gn, cs = fileG y ∧ y.1.size ≤ maxLen ∧ (∃ a c, y.2.v = .slice a y.2.nd.b.length c) ∧ y.2.nd.b.length ≤ maxLen ∧ Part W W.heap.size y.2.v y.2.nd.b := by
  obtain ⟨xs, k, _, _, hlen, hxl, hf⟩ := DataW.trod_struct Tryz.underlying68 h
  rw [cells_file] at hlen
  have f0 : DataW.trod enc Tryz.prog W 0 (fun _ => true) true k 9 ((cs.drop 0).take (Tryz.prog.cellsOf 9)) = xs[0]? := hf 0 _ rfl
  have f1 : DataW.trod enc Tryz.prog W 0 (fun _ => true) true k 4 ((cs.drop 1).take (Tryz.prog.cellsOf 4)) = xs[1]? := hf 1 _ rfl
  have f2 : DataW.trod enc Tryz.prog W 0 (fun _ => true) true k 31 ((cs.drop 2).take (Tryz.prog.cellsOf 31)) = xs[2]? := hf 2 _ rfl
  rw [cells_str, List.getElem?_eq_getElem (by rw [hxl]; decide)] at f0
  rw [cells_bool, List.getElem?_eq_getElem (by rw [hxl]; decide)] at f1
  rw [cells_slB, List.getElem?_eq_getElem (by rw [hxl]; decide)] at f2
  obtain ⟨p, e0, _, w0⟩ := DataW.trod_string Tryz.underlying9 f0
  obtain ⟨d, e1, _⟩ := DataW.trod_bool Tryz.underlying4 f1
  obtain ⟨v3, hv3⟩ : ∃ v3, (cs.drop 2).take 1 = [v3] := List.length_eq_one_iff.1 (by simp [hlen])
  rw [hv3] at f2
  obtain ⟨L, a, c, e3, h3, hP⟩ := open_bytesP hp f2
  have d0 := take_one cs 0 _ e0
  have d1 := take_one cs 1 _ e1
  have d2 := take_one cs 2 _ hv3
  refine ⟨(p, ⟨⟨d, L⟩, v3⟩), ?_, w0, ⟨a, c, e3⟩, h3, hP⟩
  apply List.ext_getElem?
  intro i
  rcases (by omega : i = 0 ∨ i = 1 ∨ i = 2 ∨ 3 ≤ i) with rfl | rfl | rfl | h4
  · rw [d0]; rfl
  · rw [d1]; rfl
  · rw [d2]; rfl
  · rw [List.getElem?_eq_none (by omega), List.getElem?_eq_none (by simp [fileG]; omega)]
set_option maxRecDepth 100000 in
/-- An argument that is a list of files. -/
theorem open_files {H : Type} {enc : TypeId × Value → H} {W : World} {v : Value} {d : DataW H} {p : List MemPlace} {bb : Nat} (hp0 : 0 < W.heap.size) (hv : Value.okWide Tryz.prog W .any bb 28 v)
    (h : DataW.Trod enc Tryz.prog W 0 (fun _ => true) true 28 v d p) : ∃ (a : Option Addr) (n cap : Nat) (L : As Gn), v = .slice a n cap ∧ L.length = n ∧ FilesB W W.heap.size a L := by
  obtain ⟨a0, n0, c0, rfl⟩ := okWide_slice Tryz.underlying28 hv
  obtain ⟨fuel, hf⟩ := h
  rcases open_slice Tryz.underlying28 hf with ⟨hcs0, hx⟩ | ⟨a, len, cap, m, n, D, Pl, hcs0, _, hl, hm, hmm, hx, hall⟩
  · simp [Value.cells] at hcs0
    obtain ⟨rfl, rfl, rfl⟩ := hcs0
    exact ⟨none, 0, 0, [], rfl, rfl, 0, 0, hp0, fun h => by simp at h, fun j x hj => by simp at hj⟩
  · simp [Value.cells] at hcs0
    obtain ⟨rfl, rfl, rfl⟩ := hcs0
    have hmc : m = c0 := by simpa using hmm
    subst hmc
    have key : ∀ i, ∃ y : ByteArray × Gn, i < n0 → (∀ j u, (fileG y)[j]? = some u → W.cell? ((a.add (i * 3)).add j) = some u) ∧ y.1.size ≤ maxLen ∧ (∃ a c, y.2.v = .slice a y.2.nd.b.length c) ∧ y.2.nd.b.length ≤ maxLen ∧ Part W W.heap.size y.2.v y.2.nd.b := fun i => by
      by_cases hi : i < n0
      · obtain ⟨cs', h1, h2⟩ := hall i (by omega)
        obtain ⟨q, hq, hr⟩ := open_file hp0 h2
        rw [cells_file] at h1
        obtain ⟨_, hlen, hcell⟩ := World.cells?_some h1
        refine ⟨q, fun _ => ⟨fun j u hj => ?_, hr⟩⟩
        rw [← hq] at hj
        have hjl := (List.getElem?_eq_some_iff.1 hj).1
        exact (hcell j (by omega)).trans hj
      · exact ⟨(ByteArray.empty, ⟨⟨false, []⟩, .slice none 0 0⟩), fun h => absurd h hi⟩
    refine ⟨some a, n0, m, (List.range n0).map fun i => (key i).choose, rfl, by simp, ?_⟩
    by_cases h0 : n0 = 0
    · subst h0
      exact ⟨0, 0, hp0, fun h => by simp at h, fun j x hj => by simp at hj⟩
    · obtain ⟨nm0, h00⟩ : ∃ nm0, W.cell? ((a.add 0).add 0) = some nm0 := ⟨_, ((key 0).choose_spec (by omega)).1 0 _ rfl⟩
      obtain ⟨b, o, s⟩ := a
      have hs : s = none := by
        have e : ((Addr.add ⟨b, o, s⟩ 0).add 0) = (Addr.add ⟨b, o, s⟩ 0) := by simp [Addr.add]
        rw [e] at h00
        exact spot_none h00
      subst hs
      have hb : b < W.heap.size := by
        have := World.block_lt_of_cell? _ _ h00
        simpa [Addr.add] using this
      refine ⟨b, o, hb, fun _ => rfl, fun k y hk => ?_⟩
      have hkn : k < n0 := by
        have := (List.getElem?_eq_some_iff.1 hk).1
        simpa using this
      have hy : (key k).choose = y := by simpa [hkn] using hk
      have hcell := (key k).choose_spec hkn
      rw [hy] at hcell
      have hc : ∀ i u, (fileG y)[i]? = some u → W.cell? ⟨b, o + k * 3 + i, none⟩ = some u := fun i u hu => by
        have := hcell.1 i u hu
        rw [Addr.add_mid, Addr.add_mid] at this
        exact this
      exact ⟨⟨hc 0 _ rfl, hc 1 _ rfl, hc 2 _ rfl⟩, hcell.2⟩
end Go.Proofs.YtichejodbohldaaGreatDoor
