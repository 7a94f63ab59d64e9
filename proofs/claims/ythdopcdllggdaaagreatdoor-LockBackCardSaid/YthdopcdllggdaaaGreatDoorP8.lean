/- Texts of one ground, in one file: Lt Lu Lv Lx Ly. -/
import Derived.Test.YthdopcdllggdaaaGreatDoorP7
namespace Go.Proofs.YthdopcdllggdaaaGreatDoor
open Go.RowKit

/-- A pin as a line tells it: its name, its version, its sum. -/
def cellsC (name : ByteArray) (v : Vn) (sl : Value) (K : Array UInt8) : List Value := .string name :: (verC v sl ++ keyC K)
/-- THE DOCUMENT's PIN OF A LINE, AND WHETHER IT IS ONE. -/
def lineN (s : ByteArray) : ByteArray := strAt (pieces 32 s) 0
def lineV (s : ByteArray) : Vn × Int := parseS (strAt (pieces 32 s) 1)
def lineK (s : ByteArray) : ByteArray := strAt (pieces 32 s) 2
def lineB (s : ByteArray) : Bool := decide ((pieces 32 s).length = 3) && okName (lineN s) && decide ((lineV s).2 = 0) && Sha.pb (lineK s)
theorem pk_size (s : ByteArray) : (Sha.pk s).size = 32 := by
  unfold Sha.pk
  split
  · exact Sha.keyP_size s 32
  · simp
theorem arr32 (K : Array Value) (hK : K.size = 32) : ∃ k0 k1 k2 k3 k4 k5 k6 k7 k8 k9 k10 k11 k12 k13 k14 k15 k16 k17 k18 k19 k20 k21 k22 k23 k24 k25 k26 k27 k28 k29 k30 k31 : Value, K = #[k0, k1, k2, k3, k4, k5, k6, k7, k8, k9, k10, k11, k12, k13, k14, k15, k16, k17, k18, k19, k20, k21, k22, k23, k24, k25, k26, k27, k28, k29, k30, k31] := by
  obtain ⟨l⟩ := K
  have hl : l.length = 32 := by simpa using hK
  obtain _ | ⟨k0, l⟩ := l
  · simp at hl
  obtain _ | ⟨k1, l⟩ := l
  · simp at hl
  obtain _ | ⟨k2, l⟩ := l
  · simp at hl
  obtain _ | ⟨k3, l⟩ := l
  · simp at hl
  obtain _ | ⟨k4, l⟩ := l
  · simp at hl
  obtain _ | ⟨k5, l⟩ := l
  · simp at hl
  obtain _ | ⟨k6, l⟩ := l
  · simp at hl
  obtain _ | ⟨k7, l⟩ := l
  · simp at hl
  obtain _ | ⟨k8, l⟩ := l
  · simp at hl
  obtain _ | ⟨k9, l⟩ := l
  · simp at hl
  obtain _ | ⟨k10, l⟩ := l
  · simp at hl
  obtain _ | ⟨k11, l⟩ := l
  · simp at hl
  obtain _ | ⟨k12, l⟩ := l
  · simp at hl
  obtain _ | ⟨k13, l⟩ := l
  · simp at hl
  obtain _ | ⟨k14, l⟩ := l
  · simp at hl
  obtain _ | ⟨k15, l⟩ := l
  · simp at hl
  obtain _ | ⟨k16, l⟩ := l
  · simp at hl
  obtain _ | ⟨k17, l⟩ := l
  · simp at hl
  obtain _ | ⟨k18, l⟩ := l
  · simp at hl
  obtain _ | ⟨k19, l⟩ := l
  · simp at hl
  obtain _ | ⟨k20, l⟩ := l
  · simp at hl
  obtain _ | ⟨k21, l⟩ := l
  · simp at hl
  obtain _ | ⟨k22, l⟩ := l
  · simp at hl
  obtain _ | ⟨k23, l⟩ := l
  · simp at hl
  obtain _ | ⟨k24, l⟩ := l
  · simp at hl
  obtain _ | ⟨k25, l⟩ := l
  · simp at hl
  obtain _ | ⟨k26, l⟩ := l
  · simp at hl
  obtain _ | ⟨k27, l⟩ := l
  · simp at hl
  obtain _ | ⟨k28, l⟩ := l
  · simp at hl
  obtain _ | ⟨k29, l⟩ := l
  · simp at hl
  obtain _ | ⟨k30, l⟩ := l
  · simp at hl
  obtain _ | ⟨k31, l⟩ := l
  · simp at hl
  obtain _ | ⟨k, l⟩ := l
  · exact ⟨k0, k1, k2, k3, k4, k5, k6, k7, k8, k9, k10, k11, k12, k13, k14, k15, k16, k17, k18, k19, k20, k21, k22, k23, k24, k25, k26, k27, k28, k29, k30, k31, rfl⟩
  · simp at hl
def pinA (x : ByteArray) (v : Vn) (sl : Value) (A : Array Value) : Array Value := #[.string x, .int .i64 v.maj, .int .i64 v.min, .int .i64 v.pat, sl] ++ A
theorem pinA_cells (x : ByteArray) (v : Vn) (sl : Value) (K : Array UInt8) : pinA x v sl (K.map Sha.encB) = (cellsC x v sl K).toArray := by
  apply Array.ext'; simp [pinA, cellsC, verC, keyC]
theorem pinA_size (x : ByteArray) (v : Vn) (sl : Value) (A : Array Value) (hA : A.size = 32) : (pinA x v sl A).size = 37 := by simp [pinA, hA]
theorem pinA_one (x : ByteArray) (v : Vn) (sa : Option Addr) (sn sc : Nat) (A : Array Value) (hA : A.all (·.oneCell') = true) : (pinA x v (.slice sa sn sc) A).all (·.oneCell') = true := by
  unfold pinA
  rw [Array.all_append, hA]
  kernel_rfl
theorem grown_row (w : World) (g : Nat) (c : Array Value) : w.grownBy (w.drew.setRow g c) (some g) :=
  ⟨rfl, rfl, rfl, (show w.heap.size ≤ (w.setRow g c).heap.size by simp [World.setRow]), fun k _ hne => setRow_other w.drew g k c (fun e => hne (by rw [e]))⟩
theorem zeroP_str (o : Nat) (x : ByteArray) (h : zeroP[o]? = some (.string x)) : x = ⟨#[]⟩ := by
  match o, h with
  | 0, h => exact (Value.string.inj (Option.some.inj h)).symm
  | 1, h => cases h
  | 2, h => cases h
  | 3, h => cases h
  | 4, h => cases h
  | o + 5, h =>
    unfold zeroP at h
    rw [Array.getElem?_append_right (by simp)] at h
    obtain ⟨hlt, e⟩ := Array.getElem?_eq_some_iff.1 h
    rw [Array.getElem_replicate] at e
    cases e
theorem part_row {W : World} {v : Value} {L : List ByteArray} {g : Nat} {C : Array Value} {B : Nat} (h : PartS W B v L) (hB : B ≤ W.heap.size) (hL : ∀ x ∈ L, ¬ x = ⟨#[]⟩) (hg : W.heap[g]? = some (.cells zeroP 35 (0, 0))) : PartS (W.setRow g C) (W.setRow g C).heap.size v L := by
  obtain ⟨a, cap, b, o, h1, h2, h3, h4, h5, h6⟩ := h
  refine ⟨a, cap, b, o, h1, h2, h3, by rw [show (W.setRow g C).heap.size = W.heap.size by simp [World.setRow]]; omega, h5, fun j x hj => ?_⟩
  have hc := h6 j x hj
  by_cases hbg : b = g
  · subst hbg
    rw [cell_in hg] at hc
    exact absurd (zeroP_str _ _ hc) (hL x (List.mem_of_getElem? hj))
  · rw [← hc]
    unfold World.cell?
    rw [show (W.setRow g C).heap[b]? = W.heap[b]? from setRow_other W g b C hbg]
theorem parse_marks (s : ByteArray) : ∀ x ∈ (parseS s).1.pre, ¬ x = ⟨#[]⟩ := by
  intro x hx
  unfold parseS parseP at hx
  split at hx
  · rename_i h
    unfold preOf at hx
    simp only at hx
    split at hx
    · rename_i hm
      unfold okVer at h
      rw [hm] at h
      simp only [Bool.not_true, Bool.false_or, Bool.and_eq_true] at h
      have h2 := h.2
      unfold okMarks at h2
      rw [Bool.and_eq_true, List.all_eq_true] at h2
      have h3 := h2.1 x hx
      intro e
      rw [e] at h3
      revert h3
      decide
    · cases hx
  · cases hx
theorem built_pin (x : ByteArray) (v : Vn) (sl : Value) (A : Array Value) (hA : A.size = 32) : Tryz.prog.built 35 [(0, .string x), (1, .agg #[.int .i64 v.maj, .int .i64 v.min, .int .i64 v.pat, sl]), (2, .agg A)] = some (pinA x v sl A) := by
  obtain ⟨k0, k1, k2, k3, k4, k5, k6, k7, k8, k9, k10, k11, k12, k13, k14, k15, k16, k17, k18, k19, k20, k21, k22, k23, k24, k25, k26, k27, k28, k29, k30, k31, rfl⟩ := arr32 A hA
  kernel_rfl
def PinRet (s : ByteArray) (w : World) (e : Ending) (w' : World) : Prop :=
  ∃ (nm : ByteArray) (v : Vn) (sl : Value) (K : Array UInt8), e = .returned (.tuple #[.agg (cellsC nm v sl K).toArray, .bool (lineB s)]) ∧ PartS w' w'.heap.size sl v.pre ∧ w.grownBy w' none ∧ (∀ q, sl.ownBlock = some q → w.heap.size ≤ q) ∧ 32 = K.size ∧ (lineB s = true → nm = lineN s ∧ v = (lineV s).1 ∧ K = Sha.pk (lineK s))
set_option maxRecDepth 1000000
set_option maxHeartbeats 4000000 in
theorem pin_any (m : Int) (s : ByteArray) (w : World) (hs : s.size ≤ 2000000) (hm : MaxAt m w) : Calls Tryz.prog 57 #[.string s] w (PinRet s w) := by
  have HP00 := Lib.hid hm.pos
  have hz := zeroPin
  have hzk : ∀ W : World, (zeroValue 33).run Tryz.prog W = .ok (.agg Sha.zero32A) W := by intro W; kernel_rfl
  have hzs := zeroP_size
  obtain ⟨Z, hZ⟩ : ∃ Z, zeroP = Z := ⟨_, rfl⟩
  have HZ := Lib.hid hZ
  rw [hZ] at hz hzs
  clear hZ
  obtain ⟨w0, hw0⟩ : ∃ w0, w.alloc (.cells Z 35) = w0 := ⟨_, rfl⟩
  have hm0 : MaxAt m w0 := by rw [← hw0]; exact hm.stays (World.grownBy_alloc _ _ _)
  have hm1 : w0.cell? ⟨0, 0, none⟩ = some (.int .i64 m) := hm0
  have HG0 : Hid (w.grownBy w0 none) := Lib.hid (by rw [← hw0]; exact World.grownBy_alloc _ _ _)
  have HR0 : Hid (w0.heap[w.heap.size]? = some (.cells Z 35 (0, 0))) := Lib.hid (by rw [← hw0, heap_alloc_new])
  go_enter Tryz.func57, Tryz.ntmps57
  go_wp2_with fail
  clear hw0
  obtain ⟨g, hgg⟩ : ∃ g, w.heap.size = g := ⟨_, rfl⟩
  have HGG := Lib.hid hgg
  rw [hgg]
  rw [hgg] at HR0
  clear hgg
  (with_reducible refine (Tryz.strings_Split s ⟨#[32]⟩ m _ (by omega) hm1 (by decide)).mono ?_)
  rintro ee w1 ⟨rfl, h2⟩
  have hg : w0.grownBy w1 none := by rw [h2]; exact World.grownBy_alloc _ _ _
  obtain ⟨P, hP⟩ : ∃ P, pieces 32 s = P := ⟨_, rfl⟩
  have hlen : Lib.countB s ⟨#[32]⟩ + 1 = P.length := by rw [← hP, pieces_len]
  have hPart : PartS w1 (w0.heap.size + 1) (.slice (some ⟨w0.heap.size, 0, none⟩) P.length P.length) P := by rw [h2, ← hP]; exact part_block w0 (pieces 32 s) 9 _ rfl
  rw [hlen]
  have hR1 : w1.heap[g]? = some (.cells Z 35 (0, 0)) := block_kept HR0.out hg
  have HG1 := Lib.hid (World.grownBy.trans HG0.out hg)
  have HM1 := Lib.hid (hm0.stays hg)
  have HSZ1 : Hid (w1.heap.size = w0.heap.size + 1) := Lib.hid (by rw [h2, alloc_size])
  have HPA := Lib.hid hPart
  obtain ⟨g1, hg1⟩ : ∃ g1, w0.heap.size = g1 := ⟨_, rfl⟩
  have HSZ0 := Lib.hid hg1
  rw [hg1] at HPA HSZ1
  rw [hg1]
  clear h2 hg hm0 hm1 hPart hlen hg1
  dsimp only
  by_cases h3 : P.length = 3
  · obtain ⟨x0, x1, x2, rfl⟩ : ∃ x0 x1 x2, P = [x0, x1, x2] := by
      match P, h3 with
      | [x0, x1, x2], _ => exact ⟨x0, x1, x2, rfl⟩
    have hs0 := pieces_size 32 s x0 (by rw [hP]; simp)
    have hs1 := pieces_size 32 s x1 (by rw [hP]; simp)
    have hn : Hid (lineN s = x0) := Lib.hid (by unfold lineN; rw [hP]; rfl)
    have hv : Hid (lineV s = parseS x1) := Lib.hid (by unfold lineV; rw [hP]; rfl)
    have hk : Hid (lineK s = x2) := Lib.hid (by unfold lineK; rw [hP]; rfl)
    have HB : Hid (lineB s = (okName x0 && decide ((parseS x1).2 = 0) && Sha.pb x2)) := Lib.hid (by unfold lineB; rw [hn.out, hv.out, hk.out, hP]; rfl)
    have HP := Lib.hid hP
    obtain ⟨_, _, q0, _, r0⟩ := HPA.out.at 0 x0 rfl
    obtain ⟨_, _, q1, _, r1⟩ := HPA.out.at 1 x1 rfl
    obtain ⟨_, _, q2, _, r2⟩ := HPA.out.at 2 x2 rfl
    cases q0
    cases q1
    cases q2
    have HR1 := Lib.hid hR1
    clear h3 hP hR1
    simp only [List.length_cons, List.length_nil, Nat.zero_add, Nat.reduceAdd]
    simp only [Nat.zero_add] at r0 r1 r2
    have hm2 : w1.cell? ⟨0, 0, none⟩ = some (.int .i64 m) := HM1.out
    go_wp2_with fail
    (with_reducible refine (parse_new m x1 w1 (by omega) hm2).mono ?_)
    rintro ee w2 ⟨sl, rfl, hp2, hg2, hnw⟩
    obtain ⟨V, hV⟩ : ∃ V, parseS x1 = V := ⟨_, rfl⟩
    rw [hV] at HB hv hp2
    rw [hV]
    have HP2 := Lib.hid hp2
    have HG2 := Lib.hid hg2
    obtain ⟨sa, sc, hsl, _, _⟩ := hp2.form
    obtain ⟨sn, hsn⟩ : ∃ sn, V.1.pre.length = sn := ⟨_, rfl⟩
    rw [hsn] at hsl
    subst hsl
    obtain ⟨e2, he2⟩ : ∃ e2, V.2 = e2 := ⟨_, rfl⟩
    rw [he2] at HB
    rw [he2]
    have HE2 := Lib.hid he2
    have HNW := Lib.hid hnw
    have HSN := Lib.hid hsn
    simp only [verV]
    clear hV hp2 he2 hsn hnw
    have r0' := hg2.cell r0 (by simp)
    have r2' := hg2.cell r2 (by simp)
    obtain ⟨w2b, hw2b⟩ : ∃ w2b, w2.alloc (.cells #[.int .i64 V.1.maj, .int .i64 V.1.min, .int .i64 V.1.pat, .slice sa sn sc] 28) = w2b := ⟨_, rfl⟩
    have hg2b : w2.grownBy w2b none := by rw [← hw2b]; exact World.grownBy_alloc _ _ _
    have HG2B := Lib.hid hg2b
    have hv2b : w2b.heap[w2.heap.size]? = some (.cells #[.int .i64 V.1.maj, .int .i64 V.1.min, .int .i64 V.1.pat, .slice sa sn sc] 28 (0, 0)) := by rw [← hw2b, heap_alloc_new]
    obtain ⟨gv, hgv⟩ : ∃ gv, w2.heap.size = gv := ⟨_, rfl⟩
    rw [hgv] at hv2b
    have HV2B := Lib.hid hv2b
    have r2b := hg2b.cell r2' (by simp)
    have r0b := hg2b.cell r0' (by simp)
    clear r0 r1 r2 r0' r2' hg2 hm2 hg2b hv2b
    try dsimp only
    go_wp2_with fail
    clear hw2b
    (with_reducible refine (Sha.parse_any x2 _).mono ?_)
    rintro ee w3 ⟨rfl, hg3⟩
    obtain ⟨K0, hK⟩ : ∃ K0, Sha.pk x2 = K0 := ⟨_, rfl⟩
    obtain ⟨B, hB⟩ : ∃ B, Sha.pb x2 = B := ⟨_, rfl⟩
    have hks : K0.size = 32 := by rw [← hK]; exact pk_size x2
    have HKK := Lib.hid hK
    rw [hB] at HB
    rw [hB, hK]
    obtain ⟨A, hA⟩ : ∃ A, K0.map Sha.encB = A := ⟨_, rfl⟩
    have hAs : A.size = 32 := by rw [← hA, Array.size_map, hks]
    have hA1 : A.all (·.oneCell') = true := by rw [← hA]; exact (by
      rw [Array.all_eq_true_iff_forall_mem]
      intro u hu
      obtain ⟨y, _, rfl⟩ := Array.mem_map.1 hu
      rfl)
    have HAA := Lib.hid hA
    rw [hA]
    obtain ⟨gk, hgk⟩ : ∃ gk, w3.heap.size = gk := ⟨_, rfl⟩
    have hk3 : (w3.alloc (.cells Sha.zero32A 33)).heap[gk]? = some (.cells Sha.zero32A 33 (0, 0)) := by rw [← hgk, heap_alloc_new]
    have hst := Sha.storeCells_row (w3.alloc (.cells Sha.zero32A 33)) gk 33 33 Sha.zero32A A hk3 (by rw [hAs]; kernel_rfl) (by rw [Sha.zero32A_size, hAs]) hA1
    have hg4 : w3.grownBy ((w3.alloc (.cells Sha.zero32A 33)).setRow gk A) none := Sha.grown_setRow (World.grownBy_alloc _ _ _) (Nat.le_of_eq hgk) _
    have hk4 := setRow_heap _ gk _ A 33 _ hk3
    obtain ⟨w4, hw4⟩ : ∃ w4, (w3.alloc (.cells Sha.zero32A 33)).setRow gk A = w4 := ⟨_, rfl⟩
    rw [hw4] at hg4 hk4
    have HG3 := Lib.hid hg3
    have HG4 := Lib.hid hg4
    have HK4 := Lib.hid hk4
    have r0 := (hg3.cell r0b (by simp))
    have r04 := hg4.cell r0 (by simp)
    clear r0 r0b r2b hg3 hK hB hk3 hg4 hk4 hA
    try dsimp only
    go_wp2_with fail
    have hv4 := block_kept (block_kept HV2B.out HG3.out) HG4.out
    have HRV : Hid (w4.rangeAt gv 0 [.int .i64 V.1.maj, .int .i64 V.1.min, .int .i64 V.1.pat, .slice sa sn sc]) := Lib.hid (fun j v hj => by rw [Nat.zero_add, cell_in hv4]; simpa using hj)
    have HRK : Hid (w4.rangeAt gk 0 A.toList) := Lib.hid (fun j v hj => by rw [Nat.zero_add, cell_in HK4.out]; simpa using hj)
    have HC0 := Lib.hid r04
    have HAS := Lib.hid hAs
    have HA1 := Lib.hid hA1
    have HNE : Hid (¬ g1 = g ∧ ¬ gv = g ∧ ¬ gk = g) := Lib.hid (by
      have e1 : g < w0.heap.size := (Array.getElem?_eq_some_iff.1 HR0.out).1
      have e2 := HG2.out.size
      have e3 := HSZ1.out
      have e4 := HG2B.out.size
      have e5 := HG3.out.size
      have e6 := hgv
      have e7 := hgk
      have e8 := HSZ0.out
      omega)
    have HNG : Hid (¬ g = g1 ∧ ¬ g = gv ∧ ¬ g = gk) := Lib.hid (by have := HNE.out; omega)
    obtain ⟨N, hN⟩ : ∃ N, okName x0 = N := ⟨_, rfl⟩
    have hname : ∀ W, Calls Tryz.prog 67 #[.string x0] W fun e w' => e = .returned (.bool N) ∧ w' = W := fun W => by rw [← hN]; exact name_any x0 (by omega) W
    rw [hN] at HB
    clear hN
    have HN0 := Lib.hid hn.out
    have HV0 := Lib.hid hv.out
    have HK0 := Lib.hid hk.out
    clear hv4 r04 hA1 hAs hst hw4 hgk hgv
    have HR4 : Hid (w4.drew.heap[g]? = some (.cells Z 35 (0, 0))) := Lib.hid (block_kept (block_kept (block_kept (block_kept HR1.out HG2.out) HG2B.out) HG3.out) (World.grownBy.trans HG4.out ⟨rfl, rfl, rfl, Nat.le_refl _, fun _ _ _ => rfl⟩))
    have HZS := Lib.hid hzs
    have HFIN : Hid (∀ R : Bool, lineB s = R → PinRet s w (.returned (.tuple #[.agg (pinA x0 V.1 (.slice sa sn sc) A), .bool R])) (w4.drew.setRow g (pinA x0 V.1 (.slice sa sn sc) A))) := Lib.hid (fun R hR => by
      have hG : w.grownBy w4.drew none := World.grownBy.trans HG1.out (World.grownBy.trans HG2.out (World.grownBy.trans HG2B.out (World.grownBy.trans HG3.out (World.grownBy.trans HG4.out ⟨rfl, rfl, rfl, Nat.le_refl _, fun _ _ _ => rfl⟩))))
      have hG2 : w2.grownBy w4.drew none := World.grownBy.trans HG2B.out (World.grownBy.trans HG3.out (World.grownBy.trans HG4.out ⟨rfl, rfl, rfl, Nat.le_refl _, fun _ _ _ => rfl⟩))
      refine ⟨x0, V.1, .slice sa sn sc, K0, by rw [← HAA.out, pinA_cells, hR], ?_, Sha.grown_setRow hG (Nat.le_of_eq HGG.out) _, fun q h => Nat.le_trans HG1.out.size (HNW.out q h), by have h := HAS.out; rw [← HAA.out, Array.size_map] at h; exact h.symm, fun _ => ⟨HN0.out.symm, by rw [HV0.out], by rw [HK0.out, HKK.out]⟩⟩
      exact part_row (HP2.out.stays hG2) hG2.size (by rw [← HV0.out]; unfold lineV; exact parse_marks _) (by rw [HZ.out]; exact HR4.out))
    cases N with
    | false =>
      have HB : Hid (lineB s = false) := Lib.hid (by rw [HB.out]; rfl)
      refine wp_region_noPanic ?_
      refine wp_region_held_drew (S := fun V => w4.grownBy V (some g)) (by kernel_rfl) ⟨rfl, rfl, rfl, Nat.le_refl _, fun _ _ _ => rfl⟩ (fun GX => ?_)
      refine @wpAnyH_take _ _ _ _ _ 0 _ (.slice (some ⟨g1, 0, none⟩) 3 3) _ _ _ _ rfl (by kernel_rfl) (by kernel_rfl) (by kernel_rfl) (fun _ _ _ h => h) (Or.inl ⟨by kernel_rfl, fun V' hV' => ?_⟩) GX ?_
      · rfl
      try simp only [Act.put, List.getElem_toArray, List.getElem_cons_zero, List.setIfInBounds_toArray, List.set_cons_zero, List.set_cons_succ]
      refine @wpAnyH_take _ _ _ _ _ 1 _ (.pointer (some ⟨g1, 0, none⟩)) _ _ _ _ rfl (by kernel_rfl) (by kernel_rfl) (by kernel_rfl) (fun _ _ _ h => h) (Or.inl ⟨by kernel_rfl, fun V' hV' => ?_⟩) GX ?_
      · go_simp
      try simp only [Act.put, List.getElem_toArray, List.getElem_cons_zero, List.getElem_cons_succ, List.setIfInBounds_toArray, List.set_cons_zero, List.set_cons_succ]
      refine @wpAnyH_take _ _ _ _ _ 2 _ (.string x0) _ _ _ _ rfl (by kernel_rfl) (by kernel_rfl) (by kernel_rfl) (fun _ _ _ h => h) (Or.inl ⟨by kernel_rfl, fun V' hV' => ?_⟩) GX ?_
      · have hc := hV'.cell HC0.out (by simpa using HNE.out.1)
        go_simp
      try simp only [Act.put, List.getElem_toArray, List.getElem_cons_zero, List.getElem_cons_succ, List.setIfInBounds_toArray, List.set_cons_zero, List.set_cons_succ]
      refine @wpAnyH_take _ _ _ _ _ 3 _ (.agg ([.int .i64 V.1.maj, .int .i64 V.1.min, .int .i64 V.1.pat, .slice sa sn sc] : List Value).toArray) _ _ _ _ rfl (by kernel_rfl) (by kernel_rfl) (by kernel_rfl) (fun _ _ _ h => h) (Or.inl ⟨by kernel_rfl, fun V' hV' => ?_⟩) GX ?_
      · have h := run_loadAt_mid (P := Tryz.prog) V' gv 0 28 ([.int .i64 V.1.maj, .int .i64 V.1.min, .int .i64 V.1.pat, .slice sa sn sc]) _ (range_stays HRV.out hV' (by simpa using HNG.out.2.1)) Tryz.underlying28 rfl (by kernel_rfl)
        simp [execOp, Act.eval, h, Result.andThen]
      try simp only [Act.put, List.getElem_toArray, List.getElem_cons_zero, List.getElem_cons_succ, List.setIfInBounds_toArray, List.set_cons_zero, List.set_cons_succ]
      refine @wpAnyH_take _ _ _ _ _ 4 _ (.agg A.toList.toArray) _ _ _ _ rfl (by kernel_rfl) (by kernel_rfl) (by kernel_rfl) (fun _ _ _ h => h) (Or.inl ⟨by kernel_rfl, fun V' hV' => ?_⟩) GX ?_
      · have h := run_loadAt_mid (P := Tryz.prog) V' gk 0 33 (A.toList) _ (range_stays HRK.out hV' (by simpa using HNG.out.2.2)) Tryz.underlying33 rfl (by rw [Array.length_toList, HAS.out]; kernel_rfl)
        simp [execOp, Act.eval, h, Result.andThen]
      try simp only [Act.put, List.getElem_toArray, List.getElem_cons_zero, List.getElem_cons_succ, List.setIfInBounds_toArray, List.set_cons_zero, List.set_cons_succ]
      rw [Array.toArray_toList]
      refine @wpAnyH_take _ _ _ _ _ 5 _ (.agg (pinA x0 V.1 (.slice sa sn sc) A)) _ _ _ _ rfl (by kernel_rfl) (by kernel_rfl) (by kernel_rfl) (fun _ _ _ h => h) (Or.inl ⟨by kernel_rfl, fun V' hV' => ?_⟩) GX ?_
      · have hb := built_pin x0 V.1 (.slice sa sn sc) A HAS.out
        simp [execOp, Act.eval, run_build _ _ _ _ hb, Result.andThen]
      try simp only [Act.put, List.getElem_toArray, List.getElem_cons_zero, List.getElem_cons_succ, List.setIfInBounds_toArray, List.set_cons_zero, List.set_cons_succ]
      refine @wpAnyH_take _ _ _ _ _ 6 _ (.slice (some ⟨g1, 0, none⟩) 3 3) _ _ _ _ rfl (by kernel_rfl) (by kernel_rfl) (by kernel_rfl) (fun _ _ _ h => h) (Or.inl ⟨by kernel_rfl, fun V' hV' => ?_⟩) GX ?_
      · rfl
      try simp only [Act.put, List.getElem_toArray, List.getElem_cons_zero, List.getElem_cons_succ, List.setIfInBounds_toArray, List.set_cons_zero, List.set_cons_succ]
      refine @wpAnyH_take _ _ _ _ _ 7 _ (.pointer (some ⟨g1, 0, none⟩)) _ _ _ _ rfl (by kernel_rfl) (by kernel_rfl) (by kernel_rfl) (fun _ _ _ h => h) (Or.inl ⟨by kernel_rfl, fun V' hV' => ?_⟩) GX ?_
      · go_simp
      try simp only [Act.put, List.getElem_toArray, List.getElem_cons_zero, List.getElem_cons_succ, List.setIfInBounds_toArray, List.set_cons_zero, List.set_cons_succ]
      refine @wpAnyH_take _ _ _ _ _ 8 _ (.string x0) _ _ _ _ rfl (by kernel_rfl) (by kernel_rfl) (by kernel_rfl) (fun _ _ _ h => h) (Or.inl ⟨by kernel_rfl, fun V' hV' => ?_⟩) GX ?_
      · have hc := hV'.cell HC0.out (by simpa using HNE.out.1)
        go_simp
      try simp only [Act.put, List.getElem_toArray, List.getElem_cons_zero, List.getElem_cons_succ, List.setIfInBounds_toArray, List.set_cons_zero, List.set_cons_succ]
      refine wpAnyH_ready (rs := [9]) (by kernel_rfl) (by simp) ?_
      refine AllReadyH.cons rfl (fun K hK => ?_) AllReadyH.nil
      rw [if_pos (by rfl)]
      go_simp
      refine (hname _).mono ?_
      rintro ee wx ⟨rfl, rfl⟩
      dsimp only
      refine hK.out _ _ GX (fun G1X => ?_)
      clear hK K G1X
      try simp only [Act.put, List.getElem_toArray, List.getElem_cons_zero, List.getElem_cons_succ, List.setIfInBounds_toArray, List.set_cons_zero, List.set_cons_succ]
      refine @wpAnyH_take _ _ _ _ _ 10 _ (.bool false) _ _ _ _ rfl (by kernel_rfl) (by kernel_rfl) (by kernel_rfl) (fun _ _ _ h => h) (Or.inl ⟨by kernel_rfl, fun V' hV' => ?_⟩) GX ?_
      · go_simp
      try simp only [Act.put, List.getElem_toArray, List.getElem_cons_zero, List.getElem_cons_succ, List.setIfInBounds_toArray, List.set_cons_zero, List.set_cons_succ]
      refine @wpAnyH_take _ _ _ _ _ 11 _ undef _ _ _ _ rfl (by kernel_rfl) (by kernel_rfl) (by kernel_rfl) (fun _ _ _ h => h) (Or.inr ⟨by kernel_rfl, rfl⟩) GX ?_
      try simp only [Act.put, List.getElem_toArray, List.getElem_cons_zero, List.getElem_cons_succ, List.setIfInBounds_toArray, List.set_cons_zero, List.set_cons_succ]
      refine @wpAnyH_take _ _ _ _ _ 12 _ undef _ _ _ _ rfl (by kernel_rfl) (by kernel_rfl) (by kernel_rfl) (fun _ _ _ h => h) (Or.inr ⟨by kernel_rfl, rfl⟩) GX ?_
      try simp only [Act.put, List.getElem_toArray, List.getElem_cons_zero, List.getElem_cons_succ, List.setIfInBounds_toArray, List.set_cons_zero, List.set_cons_succ]
      refine @wpAnyH_take _ _ _ _ _ 13 _ (.bool false) _ _ _ _ rfl (by kernel_rfl) (by kernel_rfl) (by kernel_rfl) (fun _ _ _ h => h) (Or.inl ⟨by kernel_rfl, fun V' hV' => ?_⟩) GX ?_
      · go_simp
      try simp only [Act.put, List.getElem_toArray, List.getElem_cons_zero, List.getElem_cons_succ, List.setIfInBounds_toArray, List.set_cons_zero, List.set_cons_succ]
      refine @wpAnyH_take _ _ _ _ _ 14 _ (.bool false) _ _ _ _ rfl (by kernel_rfl) (by kernel_rfl) (by kernel_rfl) (fun _ _ _ h => h) (Or.inl ⟨by kernel_rfl, fun V' hV' => ?_⟩) GX ?_
      · go_simp
      try simp only [Act.put, List.getElem_toArray, List.getElem_cons_zero, List.getElem_cons_succ, List.setIfInBounds_toArray, List.set_cons_zero, List.set_cons_succ]
      refine @wpAnyH_take _ _ _ _ _ 15 _ undef _ _ _ _ rfl (by kernel_rfl) (by kernel_rfl) (by kernel_rfl) (fun _ _ _ h => h) (Or.inr ⟨by kernel_rfl, rfl⟩) GX ?_
      try simp only [Act.put, List.getElem_toArray, List.getElem_cons_zero, List.getElem_cons_succ, List.setIfInBounds_toArray, List.set_cons_zero, List.set_cons_succ]
      refine @wpAnyH_take _ _ _ _ _ 16 _ (.bool false) _ _ _ _ rfl (by kernel_rfl) (by kernel_rfl) (by kernel_rfl) (fun _ _ _ h => h) (Or.inl ⟨by kernel_rfl, fun V' hV' => ?_⟩) GX ?_
      · go_simp
      try simp only [Act.put, List.getElem_toArray, List.getElem_cons_zero, List.getElem_cons_succ, List.setIfInBounds_toArray, List.set_cons_zero, List.set_cons_succ]
      refine wpAnyH_ready (rs := [17]) (by kernel_rfl) (by simp) ?_
      refine AllReadyH.cons rfl (fun K hK => ?_) AllReadyH.nil
      rw [if_pos (by rfl)]
      refine wp_store_row 35 _ _ rfl g (pinA x0 V.1 (.slice sa sn sc) A) rfl rfl 35 Z HR4.out (by rw [pinA_size _ _ _ _ HAS.out]; kernel_rfl) (by rw [HZS.out, pinA_size _ _ _ _ HAS.out]) (pinA_one _ _ _ _ _ _ HA1.out) ?_
      refine hK.out _ _ (grown_row _ g _) (fun G1X => ?_)
      clear hK K
      try simp only [Act.put, List.getElem_toArray, List.getElem_cons_zero, List.getElem_cons_succ]
      refine wpAnyH_ready (rs := [18]) (by kernel_rfl) (by simp) ?_
      refine AllReadyH.cons rfl (fun K hK => ?_) AllReadyH.nil
      rw [if_pos (by rfl)]
      go_simp
      refine hK.out _ _ G1X (fun G2X => ?_)
      clear hK K
      try simp only [Act.put, List.getElem_toArray, List.getElem_cons_zero, List.getElem_cons_succ, List.setIfInBounds_toArray, List.set_cons_zero, List.set_cons_succ]
      refine wpAnyH_done (by kernel_rfl) ?_ _
      refine NoPanic.normal ?_
      go_wp2
      refine bodyPost_ret (v := .tuple #[.agg (pinA x0 V.1 (.slice sa sn sc) A), .bool false]) ?_ rfl ?_
      · exact (Sha.results_row_tmp rfl _ _ g 35 (pinA x0 V.1 (.slice sa sn sc) A) (0, 0) _ rfl (setRow_heap _ _ _ _ 35 _ HR4.out) Tryz.underlying35 rfl (by rw [pinA_size _ _ _ _ HAS.out]; kernel_rfl)).trans rfl
      · exact HFIN.out false HB.out
    | true =>
      by_cases he2 : e2 = 0
      · subst he2
        have HB : Hid (lineB s = B) := Lib.hid (by rw [HB.out]; simp)
        refine wp_region_noPanic ?_
        refine wp_region_held_drew (S := fun V => w4.grownBy V (some g)) (by kernel_rfl) ⟨rfl, rfl, rfl, Nat.le_refl _, fun _ _ _ => rfl⟩ (fun GX => ?_)
        refine @wpAnyH_take _ _ _ _ _ 0 _ (.slice (some ⟨g1, 0, none⟩) 3 3) _ _ _ _ rfl (by kernel_rfl) (by kernel_rfl) (by kernel_rfl) (fun _ _ _ h => h) (Or.inl ⟨by kernel_rfl, fun V' hV' => ?_⟩) GX ?_
        · rfl
        try simp only [Act.put, List.getElem_toArray, List.getElem_cons_zero, List.setIfInBounds_toArray, List.set_cons_zero, List.set_cons_succ]
        refine @wpAnyH_take _ _ _ _ _ 1 _ (.pointer (some ⟨g1, 0, none⟩)) _ _ _ _ rfl (by kernel_rfl) (by kernel_rfl) (by kernel_rfl) (fun _ _ _ h => h) (Or.inl ⟨by kernel_rfl, fun V' hV' => ?_⟩) GX ?_
        · go_simp
        try simp only [Act.put, List.getElem_toArray, List.getElem_cons_zero, List.getElem_cons_succ, List.setIfInBounds_toArray, List.set_cons_zero, List.set_cons_succ]
        refine @wpAnyH_take _ _ _ _ _ 2 _ (.string x0) _ _ _ _ rfl (by kernel_rfl) (by kernel_rfl) (by kernel_rfl) (fun _ _ _ h => h) (Or.inl ⟨by kernel_rfl, fun V' hV' => ?_⟩) GX ?_
        · have hc := hV'.cell HC0.out (by simpa using HNE.out.1)
          go_simp
        try simp only [Act.put, List.getElem_toArray, List.getElem_cons_zero, List.getElem_cons_succ, List.setIfInBounds_toArray, List.set_cons_zero, List.set_cons_succ]
        refine @wpAnyH_take _ _ _ _ _ 3 _ (.agg ([.int .i64 V.1.maj, .int .i64 V.1.min, .int .i64 V.1.pat, .slice sa sn sc] : List Value).toArray) _ _ _ _ rfl (by kernel_rfl) (by kernel_rfl) (by kernel_rfl) (fun _ _ _ h => h) (Or.inl ⟨by kernel_rfl, fun V' hV' => ?_⟩) GX ?_
        · have h := run_loadAt_mid (P := Tryz.prog) V' gv 0 28 ([.int .i64 V.1.maj, .int .i64 V.1.min, .int .i64 V.1.pat, .slice sa sn sc]) _ (range_stays HRV.out hV' (by simpa using HNG.out.2.1)) Tryz.underlying28 rfl (by kernel_rfl)
          simp [execOp, Act.eval, h, Result.andThen]
        try simp only [Act.put, List.getElem_toArray, List.getElem_cons_zero, List.getElem_cons_succ, List.setIfInBounds_toArray, List.set_cons_zero, List.set_cons_succ]
        refine @wpAnyH_take _ _ _ _ _ 4 _ (.agg A.toList.toArray) _ _ _ _ rfl (by kernel_rfl) (by kernel_rfl) (by kernel_rfl) (fun _ _ _ h => h) (Or.inl ⟨by kernel_rfl, fun V' hV' => ?_⟩) GX ?_
        · have h := run_loadAt_mid (P := Tryz.prog) V' gk 0 33 (A.toList) _ (range_stays HRK.out hV' (by simpa using HNG.out.2.2)) Tryz.underlying33 rfl (by rw [Array.length_toList, HAS.out]; kernel_rfl)
          simp [execOp, Act.eval, h, Result.andThen]
        try simp only [Act.put, List.getElem_toArray, List.getElem_cons_zero, List.getElem_cons_succ, List.setIfInBounds_toArray, List.set_cons_zero, List.set_cons_succ]
        rw [Array.toArray_toList]
        refine @wpAnyH_take _ _ _ _ _ 5 _ (.agg (pinA x0 V.1 (.slice sa sn sc) A)) _ _ _ _ rfl (by kernel_rfl) (by kernel_rfl) (by kernel_rfl) (fun _ _ _ h => h) (Or.inl ⟨by kernel_rfl, fun V' hV' => ?_⟩) GX ?_
        · have hb := built_pin x0 V.1 (.slice sa sn sc) A HAS.out
          simp [execOp, Act.eval, run_build _ _ _ _ hb, Result.andThen]
        try simp only [Act.put, List.getElem_toArray, List.getElem_cons_zero, List.getElem_cons_succ, List.setIfInBounds_toArray, List.set_cons_zero, List.set_cons_succ]
        refine @wpAnyH_take _ _ _ _ _ 6 _ (.slice (some ⟨g1, 0, none⟩) 3 3) _ _ _ _ rfl (by kernel_rfl) (by kernel_rfl) (by kernel_rfl) (fun _ _ _ h => h) (Or.inl ⟨by kernel_rfl, fun V' hV' => ?_⟩) GX ?_
        · rfl
        try simp only [Act.put, List.getElem_toArray, List.getElem_cons_zero, List.getElem_cons_succ, List.setIfInBounds_toArray, List.set_cons_zero, List.set_cons_succ]
        refine @wpAnyH_take _ _ _ _ _ 7 _ (.pointer (some ⟨g1, 0, none⟩)) _ _ _ _ rfl (by kernel_rfl) (by kernel_rfl) (by kernel_rfl) (fun _ _ _ h => h) (Or.inl ⟨by kernel_rfl, fun V' hV' => ?_⟩) GX ?_
        · go_simp
        try simp only [Act.put, List.getElem_toArray, List.getElem_cons_zero, List.getElem_cons_succ, List.setIfInBounds_toArray, List.set_cons_zero, List.set_cons_succ]
        refine @wpAnyH_take _ _ _ _ _ 8 _ (.string x0) _ _ _ _ rfl (by kernel_rfl) (by kernel_rfl) (by kernel_rfl) (fun _ _ _ h => h) (Or.inl ⟨by kernel_rfl, fun V' hV' => ?_⟩) GX ?_
        · have hc := hV'.cell HC0.out (by simpa using HNE.out.1)
          go_simp
        try simp only [Act.put, List.getElem_toArray, List.getElem_cons_zero, List.getElem_cons_succ, List.setIfInBounds_toArray, List.set_cons_zero, List.set_cons_succ]
        refine wpAnyH_ready (rs := [9]) (by kernel_rfl) (by simp) ?_
        refine AllReadyH.cons rfl (fun K hK => ?_) AllReadyH.nil
        rw [if_pos (by rfl)]
        go_simp
        refine (hname _).mono ?_
        rintro ee wx ⟨rfl, rfl⟩
        dsimp only
        refine hK.out _ _ GX (fun G1X => ?_)
        clear hK K G1X
        try simp only [Act.put, List.getElem_toArray, List.getElem_cons_zero, List.getElem_cons_succ, List.setIfInBounds_toArray, List.set_cons_zero, List.set_cons_succ]
        refine @wpAnyH_take _ _ _ _ _ 10 _ (.bool true) _ _ _ _ rfl (by kernel_rfl) (by kernel_rfl) (by kernel_rfl) (fun _ _ _ h => h) (Or.inl ⟨by kernel_rfl, fun V' hV' => ?_⟩) GX ?_
        · go_simp
        try simp only [Act.put, List.getElem_toArray, List.getElem_cons_zero, List.getElem_cons_succ, List.setIfInBounds_toArray, List.set_cons_zero, List.set_cons_succ]
        refine @wpAnyH_take _ _ _ _ _ 11 _ (.int .i64 0) _ _ _ _ rfl (by kernel_rfl) (by kernel_rfl) (by kernel_rfl) (fun _ _ _ h => h) (Or.inl ⟨by kernel_rfl, fun V' hV' => ?_⟩) GX ?_
        · go_simp
        try simp only [Act.put, List.getElem_toArray, List.getElem_cons_zero, List.getElem_cons_succ, List.setIfInBounds_toArray, List.set_cons_zero, List.set_cons_succ]
        refine @wpAnyH_take _ _ _ _ _ 12 _ (.bool true) _ _ _ _ rfl (by kernel_rfl) (by kernel_rfl) (by kernel_rfl) (fun _ _ _ h => h) (Or.inl ⟨by kernel_rfl, fun V' hV' => ?_⟩) GX ?_
        · go_simp
        try simp only [Act.put, List.getElem_toArray, List.getElem_cons_zero, List.getElem_cons_succ, List.setIfInBounds_toArray, List.set_cons_zero, List.set_cons_succ]
        refine @wpAnyH_take _ _ _ _ _ 13 _ (.bool true) _ _ _ _ rfl (by kernel_rfl) (by kernel_rfl) (by kernel_rfl) (fun _ _ _ h => h) (Or.inl ⟨by kernel_rfl, fun V' hV' => ?_⟩) GX ?_
        · go_simp
        try simp only [Act.put, List.getElem_toArray, List.getElem_cons_zero, List.getElem_cons_succ, List.setIfInBounds_toArray, List.set_cons_zero, List.set_cons_succ]
        refine @wpAnyH_take _ _ _ _ _ 14 _ (.bool true) _ _ _ _ rfl (by kernel_rfl) (by kernel_rfl) (by kernel_rfl) (fun _ _ _ h => h) (Or.inl ⟨by kernel_rfl, fun V' hV' => ?_⟩) GX ?_
        · go_simp
        try simp only [Act.put, List.getElem_toArray, List.getElem_cons_zero, List.getElem_cons_succ, List.setIfInBounds_toArray, List.set_cons_zero, List.set_cons_succ]
        refine @wpAnyH_take _ _ _ _ _ 15 _ (.bool B) _ _ _ _ rfl (by kernel_rfl) (by kernel_rfl) (by kernel_rfl) (fun _ _ _ h => h) (Or.inl ⟨by kernel_rfl, fun V' hV' => ?_⟩) GX ?_
        · go_simp
        try simp only [Act.put, List.getElem_toArray, List.getElem_cons_zero, List.getElem_cons_succ, List.setIfInBounds_toArray, List.set_cons_zero, List.set_cons_succ]
        refine @wpAnyH_take _ _ _ _ _ 16 _ (.bool B) _ _ _ _ rfl (by kernel_rfl) (by kernel_rfl) (by kernel_rfl) (fun _ _ _ h => h) (Or.inl ⟨by kernel_rfl, fun V' hV' => ?_⟩) GX ?_
        · go_simp
        try simp only [Act.put, List.getElem_toArray, List.getElem_cons_zero, List.getElem_cons_succ, List.setIfInBounds_toArray, List.set_cons_zero, List.set_cons_succ]
        refine wpAnyH_ready (rs := [17]) (by kernel_rfl) (by simp) ?_
        refine AllReadyH.cons rfl (fun K hK => ?_) AllReadyH.nil
        rw [if_pos (by rfl)]
        refine wp_store_row 35 _ _ rfl g (pinA x0 V.1 (.slice sa sn sc) A) rfl rfl 35 Z HR4.out (by rw [pinA_size _ _ _ _ HAS.out]; kernel_rfl) (by rw [HZS.out, pinA_size _ _ _ _ HAS.out]) (pinA_one _ _ _ _ _ _ HA1.out) ?_
        refine hK.out _ _ (grown_row _ g _) (fun G1X => ?_)
        clear hK K
        try simp only [Act.put, List.getElem_toArray, List.getElem_cons_zero, List.getElem_cons_succ]
        refine wpAnyH_ready (rs := [18]) (by kernel_rfl) (by simp) ?_
        refine AllReadyH.cons rfl (fun K hK => ?_) AllReadyH.nil
        rw [if_pos (by rfl)]
        go_simp
        refine hK.out _ _ G1X (fun G2X => ?_)
        clear hK K
        try simp only [Act.put, List.getElem_toArray, List.getElem_cons_zero, List.getElem_cons_succ, List.setIfInBounds_toArray, List.set_cons_zero, List.set_cons_succ]
        refine wpAnyH_done (by kernel_rfl) ?_ _
        refine NoPanic.normal ?_
        go_wp2
        refine bodyPost_ret (v := .tuple #[.agg (pinA x0 V.1 (.slice sa sn sc) A), .bool B]) ?_ rfl ?_
        · exact (Sha.results_row_tmp rfl _ _ g 35 (pinA x0 V.1 (.slice sa sn sc) A) (0, 0) _ rfl (setRow_heap _ _ _ _ 35 _ HR4.out) Tryz.underlying35 rfl (by rw [pinA_size _ _ _ _ HAS.out]; kernel_rfl)).trans rfl
        · exact HFIN.out B HB.out
      · have HB : Hid (lineB s = false) := Lib.hid (by rw [HB.out, decide_eq_false he2]; simp)
        refine wp_region_noPanic ?_
        refine wp_region_held_drew (S := fun V => w4.grownBy V (some g)) (by kernel_rfl) ⟨rfl, rfl, rfl, Nat.le_refl _, fun _ _ _ => rfl⟩ (fun GX => ?_)
        refine @wpAnyH_take _ _ _ _ _ 0 _ (.slice (some ⟨g1, 0, none⟩) 3 3) _ _ _ _ rfl (by kernel_rfl) (by kernel_rfl) (by kernel_rfl) (fun _ _ _ h => h) (Or.inl ⟨by kernel_rfl, fun V' hV' => ?_⟩) GX ?_
        · rfl
        try simp only [Act.put, List.getElem_toArray, List.getElem_cons_zero, List.setIfInBounds_toArray, List.set_cons_zero, List.set_cons_succ]
        refine @wpAnyH_take _ _ _ _ _ 1 _ (.pointer (some ⟨g1, 0, none⟩)) _ _ _ _ rfl (by kernel_rfl) (by kernel_rfl) (by kernel_rfl) (fun _ _ _ h => h) (Or.inl ⟨by kernel_rfl, fun V' hV' => ?_⟩) GX ?_
        · go_simp
        try simp only [Act.put, List.getElem_toArray, List.getElem_cons_zero, List.getElem_cons_succ, List.setIfInBounds_toArray, List.set_cons_zero, List.set_cons_succ]
        refine @wpAnyH_take _ _ _ _ _ 2 _ (.string x0) _ _ _ _ rfl (by kernel_rfl) (by kernel_rfl) (by kernel_rfl) (fun _ _ _ h => h) (Or.inl ⟨by kernel_rfl, fun V' hV' => ?_⟩) GX ?_
        · have hc := hV'.cell HC0.out (by simpa using HNE.out.1)
          go_simp
        try simp only [Act.put, List.getElem_toArray, List.getElem_cons_zero, List.getElem_cons_succ, List.setIfInBounds_toArray, List.set_cons_zero, List.set_cons_succ]
        refine @wpAnyH_take _ _ _ _ _ 3 _ (.agg ([.int .i64 V.1.maj, .int .i64 V.1.min, .int .i64 V.1.pat, .slice sa sn sc] : List Value).toArray) _ _ _ _ rfl (by kernel_rfl) (by kernel_rfl) (by kernel_rfl) (fun _ _ _ h => h) (Or.inl ⟨by kernel_rfl, fun V' hV' => ?_⟩) GX ?_
        · have h := run_loadAt_mid (P := Tryz.prog) V' gv 0 28 ([.int .i64 V.1.maj, .int .i64 V.1.min, .int .i64 V.1.pat, .slice sa sn sc]) _ (range_stays HRV.out hV' (by simpa using HNG.out.2.1)) Tryz.underlying28 rfl (by kernel_rfl)
          simp [execOp, Act.eval, h, Result.andThen]
        try simp only [Act.put, List.getElem_toArray, List.getElem_cons_zero, List.getElem_cons_succ, List.setIfInBounds_toArray, List.set_cons_zero, List.set_cons_succ]
        refine @wpAnyH_take _ _ _ _ _ 4 _ (.agg A.toList.toArray) _ _ _ _ rfl (by kernel_rfl) (by kernel_rfl) (by kernel_rfl) (fun _ _ _ h => h) (Or.inl ⟨by kernel_rfl, fun V' hV' => ?_⟩) GX ?_
        · have h := run_loadAt_mid (P := Tryz.prog) V' gk 0 33 (A.toList) _ (range_stays HRK.out hV' (by simpa using HNG.out.2.2)) Tryz.underlying33 rfl (by rw [Array.length_toList, HAS.out]; kernel_rfl)
          simp [execOp, Act.eval, h, Result.andThen]
        try simp only [Act.put, List.getElem_toArray, List.getElem_cons_zero, List.getElem_cons_succ, List.setIfInBounds_toArray, List.set_cons_zero, List.set_cons_succ]
        rw [Array.toArray_toList]
        refine @wpAnyH_take _ _ _ _ _ 5 _ (.agg (pinA x0 V.1 (.slice sa sn sc) A)) _ _ _ _ rfl (by kernel_rfl) (by kernel_rfl) (by kernel_rfl) (fun _ _ _ h => h) (Or.inl ⟨by kernel_rfl, fun V' hV' => ?_⟩) GX ?_
        · have hb := built_pin x0 V.1 (.slice sa sn sc) A HAS.out
          simp [execOp, Act.eval, run_build _ _ _ _ hb, Result.andThen]
        try simp only [Act.put, List.getElem_toArray, List.getElem_cons_zero, List.getElem_cons_succ, List.setIfInBounds_toArray, List.set_cons_zero, List.set_cons_succ]
        refine @wpAnyH_take _ _ _ _ _ 6 _ (.slice (some ⟨g1, 0, none⟩) 3 3) _ _ _ _ rfl (by kernel_rfl) (by kernel_rfl) (by kernel_rfl) (fun _ _ _ h => h) (Or.inl ⟨by kernel_rfl, fun V' hV' => ?_⟩) GX ?_
        · rfl
        try simp only [Act.put, List.getElem_toArray, List.getElem_cons_zero, List.getElem_cons_succ, List.setIfInBounds_toArray, List.set_cons_zero, List.set_cons_succ]
        refine @wpAnyH_take _ _ _ _ _ 7 _ (.pointer (some ⟨g1, 0, none⟩)) _ _ _ _ rfl (by kernel_rfl) (by kernel_rfl) (by kernel_rfl) (fun _ _ _ h => h) (Or.inl ⟨by kernel_rfl, fun V' hV' => ?_⟩) GX ?_
        · go_simp
        try simp only [Act.put, List.getElem_toArray, List.getElem_cons_zero, List.getElem_cons_succ, List.setIfInBounds_toArray, List.set_cons_zero, List.set_cons_succ]
        refine @wpAnyH_take _ _ _ _ _ 8 _ (.string x0) _ _ _ _ rfl (by kernel_rfl) (by kernel_rfl) (by kernel_rfl) (fun _ _ _ h => h) (Or.inl ⟨by kernel_rfl, fun V' hV' => ?_⟩) GX ?_
        · have hc := hV'.cell HC0.out (by simpa using HNE.out.1)
          go_simp
        try simp only [Act.put, List.getElem_toArray, List.getElem_cons_zero, List.getElem_cons_succ, List.setIfInBounds_toArray, List.set_cons_zero, List.set_cons_succ]
        refine wpAnyH_ready (rs := [9]) (by kernel_rfl) (by simp) ?_
        refine AllReadyH.cons rfl (fun K hK => ?_) AllReadyH.nil
        rw [if_pos (by rfl)]
        go_simp
        refine (hname _).mono ?_
        rintro ee wx ⟨rfl, rfl⟩
        dsimp only
        refine hK.out _ _ GX (fun G1X => ?_)
        clear hK K G1X
        try simp only [Act.put, List.getElem_toArray, List.getElem_cons_zero, List.getElem_cons_succ, List.setIfInBounds_toArray, List.set_cons_zero, List.set_cons_succ]
        refine @wpAnyH_take _ _ _ _ _ 10 _ (.bool true) _ _ _ _ rfl (by kernel_rfl) (by kernel_rfl) (by kernel_rfl) (fun _ _ _ h => h) (Or.inl ⟨by kernel_rfl, fun V' hV' => ?_⟩) GX ?_
        · go_simp
        try simp only [Act.put, List.getElem_toArray, List.getElem_cons_zero, List.getElem_cons_succ, List.setIfInBounds_toArray, List.set_cons_zero, List.set_cons_succ]
        refine @wpAnyH_take _ _ _ _ _ 11 _ (.int .i64 e2) _ _ _ _ rfl (by kernel_rfl) (by kernel_rfl) (by kernel_rfl) (fun _ _ _ h => h) (Or.inl ⟨by kernel_rfl, fun V' hV' => ?_⟩) GX ?_
        · go_simp
        try simp only [Act.put, List.getElem_toArray, List.getElem_cons_zero, List.getElem_cons_succ, List.setIfInBounds_toArray, List.set_cons_zero, List.set_cons_succ]
        refine @wpAnyH_take _ _ _ _ _ 12 _ (.bool false) _ _ _ _ rfl (by kernel_rfl) (by kernel_rfl) (by kernel_rfl) (fun _ _ _ h => h) (Or.inl ⟨by kernel_rfl, fun V' hV' => ?_⟩) GX ?_
        · go_simp
        try simp only [Act.put, List.getElem_toArray, List.getElem_cons_zero, List.getElem_cons_succ, List.setIfInBounds_toArray, List.set_cons_zero, List.set_cons_succ]
        refine @wpAnyH_take _ _ _ _ _ 13 _ (.bool false) _ _ _ _ rfl (by kernel_rfl) (by kernel_rfl) (by kernel_rfl) (fun _ _ _ h => h) (Or.inl ⟨by kernel_rfl, fun V' hV' => ?_⟩) GX ?_
        · go_simp
        try simp only [Act.put, List.getElem_toArray, List.getElem_cons_zero, List.getElem_cons_succ, List.setIfInBounds_toArray, List.set_cons_zero, List.set_cons_succ]
        refine @wpAnyH_take _ _ _ _ _ 14 _ (.bool false) _ _ _ _ rfl (by kernel_rfl) (by kernel_rfl) (by kernel_rfl) (fun _ _ _ h => h) (Or.inl ⟨by kernel_rfl, fun V' hV' => ?_⟩) GX ?_
        · go_simp
        try simp only [Act.put, List.getElem_toArray, List.getElem_cons_zero, List.getElem_cons_succ, List.setIfInBounds_toArray, List.set_cons_zero, List.set_cons_succ]
        refine @wpAnyH_take _ _ _ _ _ 15 _ undef _ _ _ _ rfl (by kernel_rfl) (by kernel_rfl) (by kernel_rfl) (fun _ _ _ h => h) (Or.inr ⟨by kernel_rfl, rfl⟩) GX ?_
        try simp only [Act.put, List.getElem_toArray, List.getElem_cons_zero, List.getElem_cons_succ, List.setIfInBounds_toArray, List.set_cons_zero, List.set_cons_succ]
        refine @wpAnyH_take _ _ _ _ _ 16 _ (.bool false) _ _ _ _ rfl (by kernel_rfl) (by kernel_rfl) (by kernel_rfl) (fun _ _ _ h => h) (Or.inl ⟨by kernel_rfl, fun V' hV' => ?_⟩) GX ?_
        · go_simp
        try simp only [Act.put, List.getElem_toArray, List.getElem_cons_zero, List.getElem_cons_succ, List.setIfInBounds_toArray, List.set_cons_zero, List.set_cons_succ]
        refine wpAnyH_ready (rs := [17]) (by kernel_rfl) (by simp) ?_
        refine AllReadyH.cons rfl (fun K hK => ?_) AllReadyH.nil
        rw [if_pos (by rfl)]
        refine wp_store_row 35 _ _ rfl g (pinA x0 V.1 (.slice sa sn sc) A) rfl rfl 35 Z HR4.out (by rw [pinA_size _ _ _ _ HAS.out]; kernel_rfl) (by rw [HZS.out, pinA_size _ _ _ _ HAS.out]) (pinA_one _ _ _ _ _ _ HA1.out) ?_
        refine hK.out _ _ (grown_row _ g _) (fun G1X => ?_)
        clear hK K
        try simp only [Act.put, List.getElem_toArray, List.getElem_cons_zero, List.getElem_cons_succ]
        refine wpAnyH_ready (rs := [18]) (by kernel_rfl) (by simp) ?_
        refine AllReadyH.cons rfl (fun K hK => ?_) AllReadyH.nil
        rw [if_pos (by rfl)]
        go_simp
        refine hK.out _ _ G1X (fun G2X => ?_)
        clear hK K
        try simp only [Act.put, List.getElem_toArray, List.getElem_cons_zero, List.getElem_cons_succ, List.setIfInBounds_toArray, List.set_cons_zero, List.set_cons_succ]
        refine wpAnyH_done (by kernel_rfl) ?_ _
        refine NoPanic.normal ?_
        go_wp2
        refine bodyPost_ret (v := .tuple #[.agg (pinA x0 V.1 (.slice sa sn sc) A), .bool false]) ?_ rfl ?_
        · exact (Sha.results_row_tmp rfl _ _ g 35 (pinA x0 V.1 (.slice sa sn sc) A) (0, 0) _ rfl (setRow_heap _ _ _ _ 35 _ HR4.out) Tryz.underlying35 rfl (by rw [pinA_size _ _ _ _ HAS.out]; kernel_rfl)).trans rfl
        · exact HFIN.out false HB.out
  · have HB : Hid (lineB s = false) := Lib.hid (by unfold lineB; rw [hP, decide_eq_false h3]; rfl)
    have h3i : ¬ (P.length : Int) = 3 := by omega
    have hst := Sha.storeCells_row w1 g 35 35 Z Z hR1 (by rw [hzs]; kernel_rfl) rfl (by rw [← HZ.out]; kernel_rfl)
    clear h3
    go_wp2
    refine bodyPost_ret (v := .tuple #[.agg Z, .bool false]) ?_ rfl ⟨⟨#[]⟩, zeroV, .slice none 0 0, Array.replicate 32 0, ?_, (OwnsS.nil _ 0).part (Nat.lt_of_lt_of_le HP00.out (Sha.grown_setRow HG1.out (Nat.le_of_eq HGG.out) _).size), Sha.grown_setRow HG1.out (Nat.le_of_eq HGG.out) _, (fun q h => by cases h), by simp, fun e => by rw [HB.out] at e; cases e⟩
    · exact (Sha.results_row_tmp rfl _ _ g 35 Z (0, 0) _ rfl (setRow_heap _ _ _ _ 35 _ hR1) Tryz.underlying35 rfl (by rw [hzs]; kernel_rfl)).trans rfl
    · rw [HB.out, ← HZ.out]; rfl
end Go.Proofs.YthdopcdllggdaaaGreatDoor
namespace Go.Proofs.YthdopcdllggdaaaGreatDoor
open Go.RowKit

/-- A pin as it is read: its name, its version, its sum. -/
abbrev Mp := ByteArray × Vn × Array UInt8
def mpOf (l : ByteArray) : Mp := (lineN l, (lineV l).1, Sha.pk (lineK l))
/-- THE DOCUMENT's PINS OF LINES, or the number of the line that is wrong: i lines were read, the last one's name is 'ahead'. -/
def readS : List ByteArray → Nat → ByteArray → List Mp → Nat ⊕ List Mp
  | [], _, _, out => .inr out
  | l :: r, i, ahead, out => if lineB l = true ∧ lessB ahead (lineN l) = true ∧ ¬ out.length = 200 then readS r (i + 1) (lineN l) (out ++ [mpOf l]) else .inl (i + 2)
/-- Does a text open and end as a lockfile does? -/
def openB (s : ByteArray) : Bool := decide (s.size ≤ 65536) && Lib.hasPrefix s.data.toList headL && Lib.hasSuffix s.data.toList [10]
/-- THE DOCUMENT's PINS OF A TEXT, or the line that is wrong. -/
def lockS (s : ByteArray) : Nat ⊕ List Mp := if openB s = true then readS (linesS (s.extract 7 s.size)) 0 ⟨#[]⟩ [] else .inl 0
theorem readS_step (l : ByteArray) (r : List ByteArray) (i : Nat) (ahead : ByteArray) (out : List Mp) :
    readS (l :: r) i ahead out = if lineB l = true ∧ lessB ahead (lineN l) = true ∧ ¬ out.length = 200 then readS r (i + 1) (lineN l) (out ++ [mpOf l]) else .inl (i + 2) := rfl

set_option maxRecDepth 1000000
set_option maxHeartbeats 1000000 in
theorem place_any (n : Int) (w : World) : Calls Tryz.prog 46 #[.iface 89 (.agg #[.int .i64 n])] w fun e w' => e = .returned (.int .i64 n) ∧ w.grownBy w' none := by
  have h1 : ∀ (v : Value) (xT : TypeId) (w : World), (Instr.typeAssert (.iface 89 v) xT 89 true).run Tryz.prog w = .ok (.tuple #[v, .bool true]) w := fun v xT w => by kernel_rfl
  go_enter Tryz.func46, Tryz.ntmps46
  go_wp2
  go_ret
  exact ⟨rfl, World.grownBy_alloc _ _ _⟩
/-- Does s begin with p? -/
def beginB (s p : ByteArray) : Bool := decide (p.size ≤ s.size) && ((s.extract 0 p.size).toList == p.toList)
set_option maxHeartbeats 4000000 in
theorem begins_any (s p : ByteArray) (w : World) : Calls Tryz.prog 29 #[.string s, .string p] w fun e w' => e = .returned (.bool (beginB s p)) ∧ w' = w := by
  by_cases h : p.size ≤ s.size
  · have HB : Hid (beginB s p = ((s.extract 0 p.size).toList == p.toList)) := Lib.hid (by unfold beginB; rw [decide_eq_true h]; rfl)
    go_enter Tryz.func29, Tryz.ntmps29
    go_wp2
    go_ret
    exact ⟨by rw [HB.out]; rfl, rfl⟩
  · have HB : Hid (beginB s p = false) := Lib.hid (by unfold beginB; rw [decide_eq_false h]; rfl)
    go_enter Tryz.func29, Tryz.ntmps29
    go_wp2
    go_ret
    exact ⟨by rw [HB.out]; rfl, rfl⟩
/-- What read hands back: the pins; or it panics with the line that is wrong. -/
def RdRet (r : Nat ⊕ List Mp) (w : World) (e : Ending) (w' : World) : Prop :=
  w.grownBy w' none ∧ ((∃ k : Nat, r = .inl k ∧ e = .panicked [{ v := .iface 89 (.agg #[.int .i64 (k : Int)]), recovered := false }]) ∨ (∃ v L, r = .inr (L.map fun p : Pc => (p.name, p.v, p.key)) ∧ e = .returned v ∧ OwnsP w' w.heap.size v L ∧ AllAt w' w'.heap.size L))
end Go.Proofs.YthdopcdllggdaaaGreatDoor
namespace Go.Proofs.YthdopcdllggdaaaGreatDoor
open Go.RowKit

theorem bodyPost_panics {P : Program} {fn : Func} {R : Ending → World → Prop} {a : Act} {w : World} {chain : List PanicEntry} (hd : a.defers = []) (hR : R (.panicked chain) w) : bodyPost P fn R (.panic chain) a w := ⟨hd, hR⟩
set_option maxRecDepth 1000000
set_option maxHeartbeats 4000000 in
theorem read_no (s : ByteArray) (w : World) (hs : s.size ≤ 9223372036854775807) (ho : openB s = false) : Calls Tryz.prog 47 #[.string s] w (RdRet (lockS s) w) := by
  have HL : Hid (lockS s = .inl 0) := Lib.hid (by unfold lockS; rw [ho]; rfl)
  have HF : Hid (RdRet (lockS s) w (.panicked [{ v := .iface 89 (.agg #[.int .i64 0]), recovered := false }]) w) := Lib.hid ⟨World.grownBy.refl _ _, .inl ⟨0, HL.out, rfl⟩⟩
  have hpre := Tryz.strings_HasPrefix s ⟨#[108, 111, 99, 107, 32, 49, 10]⟩
  have hsuf := fun W => Tryz.strings_HasSuffix s ⟨#[10]⟩ W hs
  obtain ⟨b1, hb1⟩ : ∃ b1, Lib.hasPrefix s.data.toList headL = b1 := ⟨_, rfl⟩
  obtain ⟨b2, hb2⟩ : ∃ b2, Lib.hasSuffix s.data.toList [10] = b2 := ⟨_, rfl⟩
  have hpre2 : ∀ W, Calls Tryz.prog 54 #[.string s, .string ⟨#[108, 111, 99, 107, 32, 49, 10]⟩] W fun e w' => e = .returned (.bool b1) ∧ w' = W := fun W => by rw [← hb1]; exact hpre W
  have hsuf2 : ∀ W, Calls Tryz.prog 55 #[.string s, .string ⟨#[10]⟩] W fun e w' => e = .returned (.bool b2) ∧ w' = W := fun W => by rw [← hb2]; exact hsuf W
  have ho2 : (decide (s.size ≤ 65536) && b1 && b2) = false := by rw [← hb1, ← hb2]; exact ho
  clear hpre hsuf hb1 hb2 HL ho
  by_cases h1 : 65536 < s.size
  · clear ho2 hpre2 hsuf2
    go_enter Tryz.func47, Tryz.ntmps47
    go_wp2
    exact bodyPost_panics rfl HF.out
  · have h1i : ¬ (65536 : Int) < (s.size : Int) := by omega
    rw [decide_eq_true (by omega : s.size ≤ 65536)] at ho2
    cases b1 with
    | false =>
      clear ho2 hsuf2
      go_enter Tryz.func47, Tryz.ntmps47
      go_wp2_with fail
      (with_reducible refine (hpre2 _).mono ?_)
      rintro ee wx ⟨rfl, rfl⟩
      dsimp only
      go_wp2
      exact bodyPost_panics rfl HF.out
    | true =>
      obtain rfl : b2 = false := by simpa using ho2
      clear ho2
      go_enter Tryz.func47, Tryz.ntmps47
      go_wp2_with fail
      (with_reducible refine (hpre2 _).mono ?_)
      rintro ee wx ⟨rfl, rfl⟩
      dsimp only
      go_wp2_with fail
      (with_reducible refine (hsuf2 _).mono ?_)
      rintro ee wx ⟨rfl, rfl⟩
      dsimp only
      go_wp2
      exact bodyPost_panics rfl HF.out
end Go.Proofs.YthdopcdllggdaaaGreatDoor
namespace Go.Proofs.YthdopcdllggdaaaGreatDoor
open Go.RowKit

/-- The first k bytes. -/
def headB (x : ByteArray) (k : Nat) : List UInt8 := x.data.toList.take k
theorem headB_succ (x : ByteArray) (k : Nat) (h : k < x.size) : headB x (k + 1) = headB x k ++ [byteAt x k] := by
  unfold headB
  have hl := data_len x
  have h4 : x.data.toList[k]'(by omega) = byteAt x k := by
    unfold byteAt
    rw [List.getD_eq_getElem?_getD, List.getElem?_eq_getElem (by omega)]; rfl
  rw [List.take_succ_eq_append_getElem (by omega), h4]
theorem dec_of_num (x : ByteArray) (h0 : ¬ byteAt x 0 = 48) (k : Nat) (hk : k + 1 ≤ x.size) (hd : allTo isDig x (k + 1) = true) : Lib.decDigits (numTo x (k + 1)) = headB x (k + 1) := by
  induction k with
  | zero =>
    have h1 := allTo_at isDig x 1 hd 0 (by omega)
    simp only [isDig, decide_eq_true_eq] at h1
    rw [numTo, numTo, Lib.decDigits, dif_pos (by omega), headB_succ x 0 (by omega)]
    have e : headB x 0 = [] := rfl
    rw [e, List.nil_append]
    congr 1
    apply UInt8.toNat_inj.1
    rw [UInt8.toNat_ofNat']
    omega
  | succ k ih =>
    have hd' := hd
    rw [allTo, Bool.and_eq_true] at hd'
    have h1 := allTo_at isDig x (k + 1 + 1) hd (k + 1) (by omega)
    simp only [isDig, decide_eq_true_eq] at h1
    have hfst := allTo_at isDig x (k + 1 + 1) hd 0 (by omega)
    simp only [isDig, decide_eq_true_eq] at hfst
    have h49 : 49 ≤ (byteAt x 0).toNat := by
      rcases Nat.lt_or_ge 48 (byteAt x 0).toNat with h | h
      · exact h
      · exact absurd (UInt8.toNat_inj.1 (by show _ = 48; omega)) h0
    have hge := numTo_ge x k hd'.1 h49
    have hp : 1 ≤ 10 ^ k := Nat.one_le_pow _ _ (by omega)
    have ih' := ih (by omega) hd'.1
    rw [numTo, Lib.decDigits, dif_neg (by omega), headB_succ x (k + 1) (by omega)]
    have e1 : (10 * numTo x (k + 1) + ((byteAt x (k + 1)).toNat - 48)) / 10 = numTo x (k + 1) := by omega
    have e2 : (10 * numTo x (k + 1) + ((byteAt x (k + 1)).toNat - 48)) % 10 = (byteAt x (k + 1)).toNat - 48 := by omega
    rw [e1, e2, ih']
    congr 2
    apply UInt8.toNat_inj.1
    rw [UInt8.toNat_ofNat']
    omega
theorem decS_num (x : ByteArray) (h : okNum x = true) : decS (num x) = x := by
  unfold okNum at h
  rw [Bool.and_eq_true] at h
  have hn := h.1
  have hd : allDig x = true := by
    unfold isNum at hn
    rw [Bool.and_eq_true] at hn
    exact hn.1
  have hall : allTo isDig x x.size = true := by
    unfold allDig at hd
    rw [Bool.and_eq_true] at hd
    exact hd.1
  have hpos := size_pos x (allDig_pos x hd)
  unfold decS
  rw [Int.toNat_natCast]
  unfold num
  obtain ⟨k, hk⟩ : ∃ k, x.size = k + 1 := ⟨x.size - 1, by omega⟩
  by_cases h48 : byteAt x 0 = 48
  · have h1 : ¬ 1 < x.size := by
      have := isNum_iff x hd
      rw [hn, h48] at this
      simpa using this.symm
    rw [one_nought x (by omega) h48]
    decide +kernel
  · have hl := data_len x
    rw [hk]
    rw [hk] at hall
    rw [dec_of_num x h48 k (by omega) hall]
    refine bytes_ext ?_
    rw [data_toB]
    unfold headB
    exact List.take_of_length_le (by omega)
theorem dash_glue (s : ByteArray) : s = if (dashS s).2.2 = true then (dashS s).1 ++ dashB ++ (dashS s).2.1 else (dashS s).1 := by
  rcases first_d 45 s s.size (Nat.le_refl _) with h | ⟨i, h1, h2, h3⟩
  · rw [dash_none s h]; rfl
  · rw [dash_hit s i h1 h2 h3, if_pos rfl]
    refine bytes_ext ?_
    have e := byteAt_list s i h1
    rw [h2] at e
    simp only [ByteArray.data_append, Array.toList_append, extract_head, extract_tail]
    conv => lhs; rw [e]
    simp [dashB]
theorem three_join (P : List ByteArray) (h : P.length = 3) : joinB dotB P = strAt P 0 ++ dotB ++ strAt P 1 ++ dotB ++ strAt P 2 := by
  match P, h with
  | [x, y, z], _ =>
    have h1 := joinB_snoc dotB [x, y] z (by simp)
    have h2 := joinB_snoc dotB [x] y (by simp)
    rw [joinB_one] at h2
    have e : ([x, y] : List ByteArray) ++ [z] = [x, y, z] := rfl
    have e2 : ([x] : List ByteArray) ++ [y] = [x, y] := rfl
    rw [e] at h1
    rw [e2] at h2
    rw [h1, h2]; rfl
theorem strAt_all (P : List ByteArray) (p : ByteArray → Bool) (i : Nat) (hi : i < P.length) (h : P.all p = true) : p (strAt P i) = true := by
  rw [List.all_eq_true] at h
  exact h _ (List.mem_of_getElem? (strAt_eq P i hi))
/-- What is known of a version that was read. -/
structure Read (s : ByteArray) (v : Vn) : Prop where
  text : textS v = s
  a0 : 0 ≤ v.maj
  a1 : v.maj < 1000000000
  b0 : 0 ≤ v.min
  b1 : v.min < 1000000000
  c0 : 0 ≤ v.pat
  c1 : v.pat < 1000000000
  few : v.pre.length ≤ 5
  marks : ∀ p ∈ v.pre, okMark p = true
theorem okMark_size (p : ByteArray) (h : okMark p = true) : p.size ≤ 16 ∧ ¬ p = ⟨#[]⟩ := by
  unfold okMark at h
  simp only [Bool.and_eq_true, decide_eq_true_eq] at h
  exact ⟨h.1.1.2, by simpa using h.1.1.1⟩
theorem parse_read (s : ByteArray) (v : Vn) (h : parseS s = (v, 0)) : Read s v := by
  unfold parseS parseP at h
  by_cases hok : okVer (pieces 46 (dashS s).1) (dashS s).2.1 (dashS s).2.2 = true
  · rw [if_pos hok] at h
    have hv := (congrArg Prod.fst h).symm
    simp only at hv
    have hy := okVer_yes _ _ _ hok
    have o0 := strAt_all _ okNum 0 (by omega) hy.2
    have o1 := strAt_all _ okNum 1 (by omega) hy.2
    have o2 := strAt_all _ okNum 2 (by omega) hy.2
    have n0 := okNum_bound _ o0 _ (Nat.le_refl _)
    have n1 := okNum_bound _ o1 _ (Nat.le_refl _)
    have n2 := okNum_bound _ o2 _ (Nat.le_refl _)
    have hcore : coreT ⟨num (strAt (pieces 46 (dashS s).1) 0), num (strAt (pieces 46 (dashS s).1) 1), num (strAt (pieces 46 (dashS s).1) 2), preOf (dashS s).2.1 (dashS s).2.2⟩ = (dashS s).1 := by
      unfold coreT
      simp only
      rw [decS_num _ o0, decS_num _ o1, decS_num _ o2, ← three_join _ hy.1]
      exact joinB_pieces 46 _
    have hglue := dash_glue s
    have hmk : (dashS s).2.2 = true → okMarks (pieces 46 (dashS s).2.1) = true := by
      intro hm
      unfold okVer at hok
      rw [hm] at hok
      simp only [Bool.and_eq_true, Bool.not_true, Bool.false_or] at hok
      exact hok.2
    rw [hv]
    cases hm : (dashS s).2.2 with
    | false =>
      rw [hm] at hglue hcore
      rw [if_neg (by simp)] at hglue
      refine ⟨?_, Int.natCast_nonneg _, by show ((num _ : Nat) : Int) < _; unfold num; omega, Int.natCast_nonneg _, by show ((num _ : Nat) : Int) < _; unfold num; omega, Int.natCast_nonneg _, by show ((num _ : Nat) : Int) < _; unfold num; omega, by show ([] : List ByteArray).length ≤ 5; simp, by intro p hp; simp [preOf] at hp⟩
      unfold textS
      rw [if_pos (show preOf (dashS s).2.1 false = [] from rfl), hcore]; exact hglue.symm
    | true =>
      rw [hm] at hglue hcore
      rw [if_pos rfl] at hglue
      have hmk' := hmk hm
      unfold okMarks at hmk'
      rw [Bool.and_eq_true, decide_eq_true_eq, List.all_eq_true] at hmk'
      refine ⟨?_, Int.natCast_nonneg _, by show ((num _ : Nat) : Int) < _; unfold num; omega, Int.natCast_nonneg _, by show ((num _ : Nat) : Int) < _; unfold num; omega, Int.natCast_nonneg _, by show ((num _ : Nat) : Int) < _; unfold num; omega, hmk'.2, hmk'.1⟩
      unfold textS
      have hne : ¬ preOf (dashS s).2.1 true = [] := pieces_ne 46 _
      rw [if_neg hne, hcore]
      have e : preOf (dashS s).2.1 true = pieces 46 (dashS s).2.1 := rfl
      have e2 : joinB dotB (pieces 46 (dashS s).2.1) = (dashS s).2.1 := joinB_pieces 46 _
      simp only [e, e2]
      rw [← ByteArray.append_assoc]; exact hglue.symm
  · rw [if_neg hok] at h
    exact absurd (congrArg Prod.snd h) (by simp)
theorem Read.at {s : ByteArray} {v : Vn} (h : Read s v) {w : World} {B : Nat} {sl : Value} (hp : PartS w B sl v.pre) : VerAt w B v sl := by
  have h1 := h.a0; have h2 := h.a1; have h3 := h.b0; have h4 := h.b1; have h5 := h.c0; have h6 := h.c1; have h7 := h.few
  refine ⟨⟨by omega, by omega⟩, ⟨by omega, by omega⟩, ⟨by omega, by omega⟩, by omega, fun p hp => ?_, ?_, hp⟩
  · have := (okMark_size p (h.marks p hp)).1; omega
  · have h8 := sumS_le v.pre 16 fun p hp => (okMark_size p (h.marks p hp)).1
    have := Nat.mul_le_mul h7 (Nat.le_refl (16 + 1))
    omega
theorem parse_fail (s : ByteArray) (v : Vn) (q : Int) (h : parseS s = (v, q)) (hq : ¬ q = 0) : v = zeroV ∧ q = 60 := by
  unfold parseS parseP at h
  split at h
  · exact absurd (congrArg Prod.snd h).symm hq
  · exact ⟨(congrArg Prod.fst h).symm, (congrArg Prod.snd h).symm⟩
end Go.Proofs.YthdopcdllggdaaaGreatDoor
namespace Go.Proofs.YthdopcdllggdaaaGreatDoor
open Go.RowKit

/-- A pin that was read. -/
def rp (nm : ByteArray) (v : Vn) (ad : Option Addr) (cap : Nat) (K : Array UInt8) (hK : K.size = 32) : Pc := ⟨nm, v, ad, cap, K, hK⟩
theorem okName_ne (s : ByteArray) (h : okName s = true) : ¬ s = ⟨#[]⟩ := by
  intro e
  rw [e] at h
  revert h
  decide
theorem lineN_size (s : ByteArray) : (lineN s).size ≤ s.size := by
  unfold lineN strAt
  rw [List.getD_eq_getElem?_getD]
  cases h : (pieces 32 s)[0]? with
  | none => simp
  | some x => exact pieces_size 32 s x (List.mem_of_getElem? h)
/-- A line's pin: a pin, or none. -/
def PinGot (l : ByteArray) (w : World) (e : Ending) (w' : World) : Prop :=
  w.grownBy w' none ∧ ((lineB l = false ∧ ∃ (nm : ByteArray) (C : List Value), C.length = 36 ∧ (∀ u ∈ C, u.oneCell' = true) ∧ e = .returned (.tuple #[.agg (.string nm :: C).toArray, .bool false])) ∨ (lineB l = true ∧ ∃ p : Pc, (p.name, p.v, p.key) = mpOf l ∧ e = .returned (.tuple #[.agg p.enc.toArray, .bool true]) ∧ PcAt w' w'.heap.size p ∧ ∀ q, p.sl.ownBlock = some q → w.heap.size ≤ q))
theorem pin_got (m : Int) (l : ByteArray) (w : World) (hl : l.size ≤ 1000000) (hm : MaxAt m w) : Calls Tryz.prog 57 #[.string l] w (PinGot l w) := by
  refine (pin_any m l w (by omega) hm).mono fun e w' h => ?_
  obtain ⟨nm, v, sl, K, rfl, hp, hg, hnw, hks, hx⟩ := h
  obtain ⟨ad, cap, rfl, h1, h2⟩ := hp.form
  refine ⟨hg, ?_⟩
  cases hb : lineB l with
  | false =>
    refine .inl ⟨rfl, nm, verC v (.slice ad v.pre.length cap) ++ keyC K, ?_, ?_, rfl⟩
    · rw [List.length_append]; simp [verC, keyC, ← hks]
    · intro u hu
      rcases List.mem_append.1 hu with h | h
      · unfold verC at h
        simp only [List.mem_cons, List.not_mem_nil, or_false] at h
        rcases h with rfl | rfl | rfl | rfl <;> rfl
      · exact keyC_one _ u h
  | true =>
    obtain ⟨rfl, rfl, rfl⟩ := hx hb
    have hv : (lineV l).2 = 0 := by
      unfold lineB at hb
      simp only [Bool.and_eq_true, decide_eq_true_eq] at hb
      exact hb.1.2
    have hr : Read (strAt (pieces 32 l) 1) (lineV l).1 := parse_read _ _ (by rw [← hv]; rfl)
    refine .inr ⟨rfl, ⟨lineN l, (lineV l).1, ad, cap, Sha.pk (lineK l), pk_size _⟩, rfl, rfl, ⟨hr.at hp, ?_⟩, hnw⟩
    have := lineN_size l
    show (lineN l).size ≤ _
    omega
def mp (p : Pc) : Mp := (p.name, p.v, p.key)
/-- append of one pin: where the new slice lies. -/
theorem app_pin_at {w : World} {ops : Array Oper} {rest : List Oper} {o : Oper} {a : Act} {Q : Exit → Act → World → Prop} (hgd : o.guard = none) (s x : Operand)
    (ho : o.op = .call { callee := .builtin .append, args := #[s, x], argTypes := #[25, 25] }) (base : Nat) (v : Value) (L : List Pc) (m : Nat) (hm : L.length = m) (y : Pc) (b : Nat) (hs : a.eval s = v) (hown : OwnsP w base v L)
    (hx : a.eval x = .slice (some ⟨b, 0, none⟩) 1 1) (hp : w.rangeAt b 0 y.enc) (hb : m ≤ 1000000) (hbase : base ≤ w.heap.size)
    (h : ∀ ad5 cp5 w', m + 1 ≤ cp5 → cp5 ≤ 9223372036854775807 → Hid (OwnsP w' base (.slice ad5 (m + 1) cp5) (L ++ [y])) → Hid (w.grownBy w' v.ownBlock) → Hid ((Value.slice ad5 (m + 1) cp5).ownBlock = v.ownBlock ∨ (Value.slice ad5 (m + 1) cp5).ownBlock = some w.heap.size) → wpList Tryz.prog ops Q rest (a.put o.dst (.slice ad5 (m + 1) cp5)) w') : wpList Tryz.prog ops Q (o :: rest) a w := by
  obtain ⟨i0, hi, hz0, hz1, hz2⟩ := info_parts infoP
  refine wpList_append_own_at w hgd s x 25 ho base 35 i0 _ 37 96 Tryz.underlying25 hi hz0 hz1 hz2 rfl (by decide) v L.length (rowsC L) hs hown ⟨b, 0, none⟩ 1 1 y.enc hx (by rw [enc_len]) ?_ (enc_one y) (by unfold maxLen; omega) (by omega) hbase ?_
  · intro j u hu
    rw [Addr.add_mid]
    exact hp j u hu
  · intro v' w' h7 h8 _ h9
    have h10 : OwnsP w' base v' (L ++ [y]) := by
      show World.ownsRow _ _ _ _ _ _ _
      rw [List.length_append, rowsC_snoc]
      exact h7
    obtain ⟨ad5, cp5, e, h11, h12⟩ := h10.form
    rw [List.length_append, hm] at e h11
    subst e
    exact h ad5 cp5 w' h11 h12 h10 h8 h9
/-- How far the lines are read. -/
structure RSt (P : List ByteArray) (w w1 wr : World) (k : Nat) (v : Value) (m : Nat) (ah : ByteArray) (L : List Pc) (R : Nat ⊕ List Mp) : Prop where
  g1 : w1.grownBy wr none
  g : w.grownBy w1 none
  own : OwnsP wr w1.heap.size v L
  all : AllAt wr wr.heap.size L
  apart : ∀ p ∈ L, 0 < p.v.pre.length → ∀ q, p.sl.ownBlock = some q → v.ownBlock ≠ some q
  len : L.length = m
  eq : R = readS (P.drop k) k ah (L.map mp)
theorem RSt.start {P : List ByteArray} {w w1 : World} {R : Nat ⊕ List Mp} (h : R = readS P 0 ⟨#[]⟩ []) (hg : w.grownBy w1 none) : Hid (RSt P w w1 w1 0 (.slice none 0 0) 0 ⟨#[]⟩ [] R) :=
  Lib.hid ⟨World.grownBy.refl _ _, hg, World.ownsRow_nil _ _ _ _, fun p hp => by simp at hp, fun p hp => by simp at hp, rfl, h⟩
theorem RSt.gw {P : List ByteArray} {w w1 wr : World} {k m : Nat} {v : Value} {ah : ByteArray} {L : List Pc} {R : Nat ⊕ List Mp} (h : RSt P w w1 wr k v m ah L R) : w.grownBy wr none := World.grownBy.trans h.g h.g1
theorem RSt.done {P : List ByteArray} {w w1 wr : World} {k m : Nat} {v : Value} {ah : ByteArray} {L : List Pc} {R : Nat ⊕ List Mp} (h : RSt P w w1 wr k v m ah L R) (hk : P.length ≤ k) : RdRet R w (.returned v) wr :=
  ⟨h.gw, .inr ⟨v, L, by rw [h.eq, List.drop_eq_nil_of_le hk]; rfl, rfl, h.own.mono h.g.size, h.all⟩⟩
theorem part_block_lt {W : World} {B : Nat} {v : Value} {M : List ByteArray} (h : PartS W B v M) (h0 : 0 < M.length) (q : Nat) (hq : v.ownBlock = some q) : q < B := by
  obtain ⟨a, cap, b, o, h1, h2, h3, h4, h5, h6⟩ := h
  rw [h1, h5 h0] at hq
  have e : b = q := Option.some.inj (show some b = some q from hq)
  omega
theorem part_none {W W2 : World} {B B2 : Nat} {v : Value} {M : List ByteArray} (h : PartS W B v M) (h0 : ¬ 0 < M.length) (hB : B ≤ B2) : PartS W2 B2 v M := by
  obtain ⟨a, cap, b, o, h1, h2, h3, h4, h5, h6⟩ := h
  exact ⟨a, cap, b, o, h1, h2, h3, by omega, h5, fun j x hj => absurd (Nat.zero_lt_of_lt (List.getElem?_eq_some_iff.1 hj).1) h0⟩
theorem part_across {W W2 : World} {B : Nat} {v : Value} {M : List ByteArray} {r : Option Nat} (h : PartS W B v M) (hg : W.grownBy W2 r) (hr : 0 < M.length → ∀ q, v.ownBlock = some q → r ≠ some q) : PartS W2 B v M := by
  by_cases h0 : 0 < M.length
  · obtain ⟨a, cap, b, o, h1, h2, h3, h4, h5, h6⟩ := h
    refine ⟨a, cap, b, o, h1, h2, h3, h4, h5, fun j x hj => hg.cell (h6 j x hj) (fun e => hr h0 b (by rw [h1, h5 h0]; rfl) e.symm)⟩
  · exact part_none h h0 (Nat.le_refl _)
theorem grown_own {w w1 w2 : World} {r : Option Nat} (h1 : w.grownBy w1 none) (h2 : w1.grownBy w2 r) (hr : ∀ q, r = some q → w.heap.size ≤ q) : w.grownBy w2 none := by
  cases r with
  | none => exact World.grownBy.trans h1 h2
  | some q => exact grown_new h1 h2 (hr q rfl)
theorem RSt.next {P : List ByteArray} {w w1 wr w2 w4 w5 : World} {k m : Nat} {v v' : Value} {ah x : ByteArray} {L : List Pc} {R : Nat ⊕ List Mp} {p : Pc} (h : RSt P w w1 wr k v m ah L R)
    (hst : R = readS (x :: P.drop (k + 1)) k ah (L.map mp)) (hb : lineB x = true) (hp : mp p = mpOf x) (hl : lessB ah p.name = true) (hm : ¬ m = 200)
    (h2 : wr.grownBy w2 none) (h4 : w2.grownBy w4 none) (hat : PcAt w2 w2.heap.size p) (hnw : ∀ q, p.sl.ownBlock = some q → wr.heap.size ≤ q)
    (h5 : w4.grownBy w5 v.ownBlock) (hown : OwnsP w5 w1.heap.size v' (L ++ [p])) (hw : v'.ownBlock = v.ownBlock ∨ v'.ownBlock = some w4.heap.size) : RSt P w w1 w5 (k + 1) v' (m + 1) p.name (L ++ [p]) R := by
  have hlt := OwnsP.block_lt h.own
  have hb1 : ∀ q, v.ownBlock = some q → w1.heap.size ≤ q := fun q hq => (hlt q hq).1
  have hb2 : ∀ q, v.ownBlock = some q → q < wr.heap.size := fun q hq => (hlt q hq).2
  have s2 := h2.size
  have s4 := h4.size
  have s5 := h5.size
  have hname : p.name = lineN x := congrArg (·.1) hp
  refine ⟨grown_own (World.grownBy.trans (World.grownBy.trans h.g1 h2) h4) h5 hb1, h.g, hown, fun y hy => ?_, fun y hy h0 q hq => ?_, by rw [List.length_append, h.len]; rfl, ?_⟩
  · rcases List.mem_append.1 hy with hy | hy
    · have e := h.all y hy
      have e4 := (e.stays (World.grownBy.trans h2 h4)).mono (show wr.heap.size ≤ w5.heap.size by omega)
      exact ⟨{ e4.ver with part := part_across e4.ver.part h5 (fun h0 q hq => h.apart y hy h0 q hq) }, e4.name⟩
    · obtain rfl : y = p := by simpa using hy
      have e4 := (hat.stays h4).mono (show w2.heap.size ≤ w5.heap.size by omega)
      refine ⟨{ e4.ver with part := part_across e4.ver.part h5 (fun h0 q hq e => ?_) }, e4.name⟩
      have := hb2 q e
      have := hnw q hq
      omega
  · rcases List.mem_append.1 hy with hy | hy
    · rcases hw with hw | hw
      · rw [hw]; exact h.apart y hy h0 q hq
      · rw [hw]
        intro e
        have := part_block_lt (h.all y hy).ver.part h0 q hq
        have e2 : w4.heap.size = q := Option.some.inj e
        omega
    · obtain rfl : y = p := by simpa using hy
      rcases hw with hw | hw
      · rw [hw]
        intro e
        have := hb2 q e
        have := hnw q hq
        omega
      · rw [hw]
        intro e
        have := part_block_lt hat.ver.part h0 q hq
        have e2 : w4.heap.size = q := Option.some.inj e
        omega
  · rw [hst, readS_step, if_pos ⟨hb, by rw [← hname]; exact hl, by rw [List.length_map, h.len]; exact hm⟩, hname]
    rw [List.map_append, ← hp]
    rfl
set_option maxRecDepth 1000000
set_option maxHeartbeats 8000000 in
theorem read_yes (m : Int) (s : ByteArray) (w : World) (hs : s.size ≤ 9223372036854775807) (ho : openB s = true) (hm : MaxAt m w) : Calls Tryz.prog 47 #[.string s] w (RdRet (lockS s) w) := by
  obtain ⟨hbb, hb2⟩ := Bool.and_eq_true_iff.1 ho
  obtain ⟨hb0, hb1⟩ := Bool.and_eq_true_iff.1 hbb
  have hsz : s.size ≤ 65536 := of_decide_eq_true hb0
  have h7 : 7 ≤ s.size := by
    have h := List.isPrefixOf_iff_prefix.1 hb1
    have := h.length_le
    exact this
  have hpre2 : ∀ W, Calls Tryz.prog 54 #[.string s, .string ⟨#[108, 111, 99, 107, 32, 49, 10]⟩] W fun e w' => e = .returned (.bool true) ∧ w' = W := fun W => by rw [← hb1]; exact Tryz.strings_HasPrefix s ⟨#[108, 111, 99, 107, 32, 49, 10]⟩ W
  have hsuf2 : ∀ W, Calls Tryz.prog 55 #[.string s, .string ⟨#[10]⟩] W fun e w' => e = .returned (.bool true) ∧ w' = W := fun W => by rw [← hb2]; exact Tryz.strings_HasSuffix s ⟨#[10]⟩ W hs
  obtain ⟨t, ht⟩ : ∃ t, s.extract 7 s.size = t := ⟨_, rfl⟩
  have hts : t.size ≤ 65536 := by rw [← ht, ByteArray.size_extract]; omega
  have HL : Hid (lockS s = readS (linesS t) 0 ⟨#[]⟩ []) := Lib.hid (by unfold lockS; rw [ho, ht]; rfl)
  have HM := Lib.hid hm
  have HP0 := Lib.hid hm.pos
  have h1i : ¬ (65536 : Int) < (s.size : Int) := by omega
  clear hbb hb0 hb1 hb2 ho hm
  go_enter Tryz.func47, Tryz.ntmps47
  go_wp2_with fail
  (with_reducible refine (hpre2 _).mono ?_)
  rintro ee wx ⟨rfl, hwx⟩
  obtain rfl := hwx.symm
  clear hwx
  dsimp only
  go_wp2_with fail
  (with_reducible refine (hsuf2 _).mono ?_)
  rintro ee wx ⟨rfl, hwx⟩
  obtain rfl := hwx.symm
  clear hwx
  dsimp only
  go_wp2_with fail
  try rw [ht]
  (with_reducible refine (of_any m t (by omega) _ HM.out).mono ?_)
  rintro ee w1 ⟨ad, n, cp, rfl, hn, hP, hg⟩
  clear hpre2 hsuf2
  have hn1 : n ≤ 65537 := by have := linesS_len t; omega
  obtain ⟨P, hPP⟩ : ∃ P, linesS t = P := ⟨_, rfl⟩
  have HSZ : Hid (∀ x ∈ P, x.size ≤ 1000000) := Lib.hid (fun x hx => by have := linesS_mem t x (by rw [hPP]; exact hx); omega)
  rw [hPP] at HL hn hP
  have HN := Lib.hid hn
  have HPA := Lib.hid hP
  have HG1 := Lib.hid hg
  clear hPP hn hP hg hts h7 hsz h1i
  dsimp only
  go_wp2
  go_loopw [3, 4, 28] (fun v a i wr => ∃ (k m2 cp2 : Nat) (ad2 : Option Addr) (ah : ByteArray) (L : List Pc), k ≤ n ∧ i = .int .i64 k ∧ v = .slice ad2 m2 cp2 ∧ a = .string ah ∧ m2 ≤ 200 ∧ m2 ≤ cp2 ∧ cp2 ≤ 9223372036854775807 ∧ Hid (RSt P w w1 wr k (.slice ad2 m2 cp2) m2 ah L (lockS s))) (fun _ _ i _ => n - (intOf i).toNat)
  case atStart => exact ⟨0, 0, 0, none, ⟨#[]⟩, [], Nat.zero_le _, rfl, rfl, rfl, by omega, Nat.le_refl _, by omega, RSt.start HL.out HG1.out⟩
  case round =>
    obtain ⟨k, m2, cp2, ad2, ah, L, hk, rfl, rfl, rfl, hm2, hmc, hcm, HR⟩ := hrel
    by_cases hlt : k < n
    · obtain ⟨x, hx⟩ : ∃ x, P[k]? = some x := ⟨_, List.getElem?_eq_getElem (by rw [HN.out]; exact hlt)⟩
      obtain ⟨b, o, e, _, r1⟩ := (HPA.out.stays HR.out.g1).at k x hx
      subst e
      have HX := Lib.hid hx
      have hxs := HSZ.out x (List.mem_of_getElem? hx)
      have HM2 := Lib.hid (HM.out.stays HR.out.gw)
      have HST : Hid (lockS s = readS (x :: P.drop (k + 1)) k ah (L.map mp)) := Lib.hid (by rw [HR.out.eq, List.drop_eq_getElem_cons (by rw [HN.out]; exact hlt)]; rw [show P[k]'(by rw [HN.out]; exact hlt) = x from (List.getElem?_eq_some_iff.1 hx).2])
      clear hx
      go_wp2_with fail
      (with_reducible refine (pin_got m x wr hxs HM2.out).mono ?_)
      rintro ee w2 ⟨hg2, hgot⟩
      have HG2 := Lib.hid hg2
      have hz := zeroPin
      rcases hgot with ⟨hb, nm, C, hC, hC1, rfl⟩ | ⟨hb, p, hp, rfl, hat, hnw⟩
      · have HF : Hid (∀ W, wr.grownBy W none → RdRet (lockS s) w (.panicked [{ v := .iface 89 (.agg #[.int .i64 ((k : Int) + 2)]), recovered := false }]) W) := Lib.hid (fun W hW => ⟨World.grownBy.trans HR.out.gw hW, .inl ⟨k + 2, by rw [HST.out, readS_step, if_neg (by rw [hb]; simp)], by rw [show ((k + 2 : Nat) : Int) = (k : Int) + 2 from rfl]⟩⟩)
        clear hb hg2
        obtain ⟨A, hA⟩ : ∃ A, (.string nm :: C).toArray = A := ⟨_, rfl⟩
        have hAs : A.size = 37 := by rw [← hA]; simp [hC]
        have hA1 : A.all (·.oneCell') = true := by rw [← hA]; rw [List.all_toArray, List.all_eq_true]; intro u hu; rcases List.mem_cons.1 hu with rfl | hu; rfl; exact hC1 u hu
        have hA0 : A[0]? = some (.string nm) := by rw [← hA]; rfl
        have HAA := Lib.hid hA
        rw [hA]
        obtain ⟨Z, hZ⟩ : ∃ Z, zeroP = Z := ⟨_, rfl⟩
        have hzs := zeroP_size
        rw [hZ] at hz hzs
        clear hZ
        obtain ⟨g, hgg⟩ : ∃ g, w2.heap.size = g := ⟨_, rfl⟩
        have hk3 : (w2.alloc (.cells Z 35)).heap[g]? = some (.cells Z 35 (0, 0)) := by rw [← hgg, heap_alloc_new]
        have hst := Sha.storeCells_row (w2.alloc (.cells Z 35)) g 35 35 Z A hk3 (by rw [hAs]; kernel_rfl) (by rw [hzs, hAs]) hA1
        have hg3 : w2.grownBy ((w2.alloc (.cells Z 35)).setRow g A) none := Sha.grown_setRow (World.grownBy_alloc _ _ _) (Nat.le_of_eq hgg) _
        have hk4 := setRow_heap _ g _ A 35 _ hk3
        obtain ⟨w3, hw3⟩ : ∃ w3, (w2.alloc (.cells Z 35)).setRow g A = w3 := ⟨_, rfl⟩
        rw [hw3] at hg3 hk4
        have HG3 := Lib.hid hg3
        have HK4 := Lib.hid hk4
        have r0 : w3.cell? ⟨g, 0, none⟩ = some (.string nm) := by rw [cell_in hk4]; exact hA0
        clear hA0 hA1 hk3 hk4 hA hg3
        dsimp only
        clear r0 hC hC1 HAA
        go_wp2
        exact bodyPost_panics rfl (HF.out _ (World.grownBy.trans HG2.out (by first | exact HG3.out | exact World.grownBy.trans HG3.out (World.grownBy_alloc _ _ _))))
      · have HNL : Hid (p.name.size ≤ 9223372036854775807) := Lib.hid (by have := hat.name; omega)
        have HAT := Lib.hid hat
        have HNW := Lib.hid hnw
        have HPP := Lib.hid hp
        clear hp hat hg2 hnw
        have hlnm : p.name = lineN x := congrArg (·.1) HPP.out
        have HF : Hid (¬ (lineB x = true ∧ lessB ah (lineN x) = true ∧ ¬ (L.map mp).length = 200) → ∀ W, wr.grownBy W none → RdRet (lockS s) w (.panicked [{ v := .iface 89 (.agg #[.int .i64 ((k : Int) + 2)]), recovered := false }]) W) := Lib.hid (fun hno W hW => ⟨World.grownBy.trans HR.out.gw hW, .inl ⟨k + 2, by rw [HST.out, readS_step, if_neg hno], by rw [show ((k + 2 : Nat) : Int) = (k : Int) + 2 from rfl]⟩⟩)
        rcases less_ways ah p.name with ⟨hle, f1, f2, f3⟩ | ⟨hle, f1⟩ | ⟨hle, f1⟩
        · by_cases hm200 : m2 = 200
          · have hno : ¬ (lineB x = true ∧ lessB ah (lineN x) = true ∧ ¬ (L.map mp).length = 200) := fun h => h.2.2 (by rw [List.length_map, HR.out.len]; exact hm200)
            clear hb hlnm hle
            subst hm200
            obtain ⟨A, hA⟩ : ∃ A, p.enc.toArray = A := ⟨_, rfl⟩
            have hAs : A.size = 37 := by rw [← hA]; rw [List.size_toArray, enc_len]
            have hA1 : A.all (·.oneCell') = true := by rw [← hA]; rw [List.all_toArray, List.all_eq_true]; exact enc_one p
            have hA0 : A[0]? = some (.string p.name) := by rw [← hA]; rfl
            have HAA := Lib.hid hA
            rw [hA]
            obtain ⟨Z, hZ⟩ : ∃ Z, zeroP = Z := ⟨_, rfl⟩
            have hzs := zeroP_size
            rw [hZ] at hz hzs
            clear hZ
            obtain ⟨g, hgg⟩ : ∃ g, w2.heap.size = g := ⟨_, rfl⟩
            have hk3 : (w2.alloc (.cells Z 35)).heap[g]? = some (.cells Z 35 (0, 0)) := by rw [← hgg, heap_alloc_new]
            have hst := Sha.storeCells_row (w2.alloc (.cells Z 35)) g 35 35 Z A hk3 (by rw [hAs]; kernel_rfl) (by rw [hzs, hAs]) hA1
            have hg3 : w2.grownBy ((w2.alloc (.cells Z 35)).setRow g A) none := Sha.grown_setRow (World.grownBy_alloc _ _ _) (Nat.le_of_eq hgg) _
            have hk4 := setRow_heap _ g _ A 35 _ hk3
            obtain ⟨w3, hw3⟩ : ∃ w3, (w2.alloc (.cells Z 35)).setRow g A = w3 := ⟨_, rfl⟩
            rw [hw3] at hg3 hk4
            have HG3 := Lib.hid hg3
            have HK4 := Lib.hid hk4
            have r0 : w3.cell? ⟨g, 0, none⟩ = some (.string p.name) := by rw [cell_in hk4]; exact hA0
            have hnl : p.name.size ≤ 9223372036854775807 := HNL.out
            clear hA0 hA1 hk3 hk4 hA hg3
            dsimp only
            clear HAA
            go_wp2
            exact bodyPost_panics rfl (HF.out hno _ (World.grownBy.trans HG2.out (by first | exact HG3.out | exact World.grownBy.trans HG3.out (World.grownBy_alloc _ _ _))))
          · have HB := Lib.hid hb
            have HLE := Lib.hid hle
            have HM200 := Lib.hid hm200
            have hmi : ¬ (m2 : Int) = 200 := by omega
            clear hb hlnm hle hm200 HF
            obtain ⟨A, hA⟩ : ∃ A, p.enc.toArray = A := ⟨_, rfl⟩
            have hAs : A.size = 37 := by rw [← hA]; rw [List.size_toArray, enc_len]
            have hA1 : A.all (·.oneCell') = true := by rw [← hA]; rw [List.all_toArray, List.all_eq_true]; exact enc_one p
            have hA0 : A[0]? = some (.string p.name) := by rw [← hA]; rfl
            have HAA := Lib.hid hA
            rw [hA]
            obtain ⟨Z, hZ⟩ : ∃ Z, zeroP = Z := ⟨_, rfl⟩
            have hzs := zeroP_size
            rw [hZ] at hz hzs
            clear hZ
            obtain ⟨g, hgg⟩ : ∃ g, w2.heap.size = g := ⟨_, rfl⟩
            have hk3 : (w2.alloc (.cells Z 35)).heap[g]? = some (.cells Z 35 (0, 0)) := by rw [← hgg, heap_alloc_new]
            have hst := Sha.storeCells_row (w2.alloc (.cells Z 35)) g 35 35 Z A hk3 (by rw [hAs]; kernel_rfl) (by rw [hzs, hAs]) hA1
            have hg3 : w2.grownBy ((w2.alloc (.cells Z 35)).setRow g A) none := Sha.grown_setRow (World.grownBy_alloc _ _ _) (Nat.le_of_eq hgg) _
            have hk4 := setRow_heap _ g _ A 35 _ hk3
            obtain ⟨w3, hw3⟩ : ∃ w3, (w2.alloc (.cells Z 35)).setRow g A = w3 := ⟨_, rfl⟩
            rw [hw3] at hg3 hk4
            have HG3 := Lib.hid hg3
            have HK4 := Lib.hid hk4
            have r0 : w3.cell? ⟨g, 0, none⟩ = some (.string p.name) := by rw [cell_in hk4]; exact hA0
            have hnl : p.name.size ≤ 9223372036854775807 := HNL.out
            clear hA0 hA1 hk3 hk4 hA hg3
            dsimp only
            have HIA : Hid ((Tryz.prog.info? 35).map (·.size) = some A.size) := Lib.hid (by rw [hAs]; kernel_rfl)
            have HAS := Lib.hid hAs
            have HG4 : Hid (w3.grownBy (w3.alloc (.cells A 35)) none) := Lib.hid (World.grownBy_alloc _ _ _)
            have HG24 := Lib.hid (World.grownBy.trans HG3.out HG4.out)
            have HOW := Lib.hid (HR.out.own.stays (World.grownBy.trans HG2.out HG24.out))
            have HRG : Hid ((w3.alloc (.cells A 35)).rangeAt w3.heap.size 0 p.enc) := Lib.hid (fun j v hj => by rw [Nat.zero_add, cell_in (heap_alloc_new _ _), ← HAA.out]; simpa using hj)
            have HLN : Hid (L.length = m2) := Lib.hid HR.out.len
            have HBS : Hid (w1.heap.size ≤ (w3.alloc (.cells A 35)).heap.size) := Lib.hid (World.grownBy.trans HR.out.g1 (World.grownBy.trans HG2.out HG24.out)).size
            have hm3 : m2 ≤ 1000000 := by omega
            have R0W := Lib.hid (HG4.out.cell r0 (by simp))
            have HNG : Hid ((Value.slice ad2 m2 cp2).ownBlock ≠ some g) := Lib.hid (fun e => by
              have h1 := (OwnsP.block_lt HR.out.own g e).2
              have h2 := HG2.out.size
              have h3 := hgg
              omega)
            go_wp2_with (first
              | ((with_reducible refine wpList_load_row (o := ⟨some 56, _, _, _, _, _⟩) rfl 35 _ rfl g ?_ 35 A (0, 0) _ HK4.out Tryz.underlying35 ?_ HIA.out ?_); (rfl); (rfl))
              | ((with_reducible refine slice_pin (o := ⟨some 57, _, _, _, _, _⟩) rfl _ rfl A HAS.out ?_ ?_); (rfl))
              | ((with_reducible refine app_pin_at (o := ⟨some 58, _, _, _, _, _⟩) (w := w3.alloc (.cells A 35)) rfl _ _ rfl w1.heap.size (.slice ad2 m2 cp2) L m2 HLN.out p w3.heap.size ?_ HOW.out ?_ HRG.out hm3 HBS.out ?_); (rfl); (rfl); (intro ad5 cp5 w5 hc5 hm5 HOW5 HG5 HAT5); (have r5 := HG5.out.cell R0W.out (fun e => HNG.out e.symm))))
            go_roundw
            case rel => exact ⟨k + 1, m2 + 1, cp5, ad5, p.name, L ++ [p], by omega, by go_num, rfl, rfl, by omega, hc5, hm5, Lib.hid (HR.out.next HST.out HB.out HPP.out HLE.out HM200.out HG2.out HG24.out HAT.out HNW.out HG5.out HOW5.out HAT5.out)⟩
            case measure => simp [intOf]; omega
        · have hno : ¬ (lineB x = true ∧ lessB ah (lineN x) = true ∧ ¬ (L.map mp).length = 200) := fun h => by rw [← hlnm, hle] at h; exact absurd h.2.1 (by simp)
          clear hb hlnm hle
          obtain ⟨A, hA⟩ : ∃ A, p.enc.toArray = A := ⟨_, rfl⟩
          have hAs : A.size = 37 := by rw [← hA]; rw [List.size_toArray, enc_len]
          have hA1 : A.all (·.oneCell') = true := by rw [← hA]; rw [List.all_toArray, List.all_eq_true]; exact enc_one p
          have hA0 : A[0]? = some (.string p.name) := by rw [← hA]; rfl
          have HAA := Lib.hid hA
          rw [hA]
          obtain ⟨Z, hZ⟩ : ∃ Z, zeroP = Z := ⟨_, rfl⟩
          have hzs := zeroP_size
          rw [hZ] at hz hzs
          clear hZ
          obtain ⟨g, hgg⟩ : ∃ g, w2.heap.size = g := ⟨_, rfl⟩
          have hk3 : (w2.alloc (.cells Z 35)).heap[g]? = some (.cells Z 35 (0, 0)) := by rw [← hgg, heap_alloc_new]
          have hst := Sha.storeCells_row (w2.alloc (.cells Z 35)) g 35 35 Z A hk3 (by rw [hAs]; kernel_rfl) (by rw [hzs, hAs]) hA1
          have hg3 : w2.grownBy ((w2.alloc (.cells Z 35)).setRow g A) none := Sha.grown_setRow (World.grownBy_alloc _ _ _) (Nat.le_of_eq hgg) _
          have hk4 := setRow_heap _ g _ A 35 _ hk3
          obtain ⟨w3, hw3⟩ : ∃ w3, (w2.alloc (.cells Z 35)).setRow g A = w3 := ⟨_, rfl⟩
          rw [hw3] at hg3 hk4
          have HG3 := Lib.hid hg3
          have HK4 := Lib.hid hk4
          have r0 : w3.cell? ⟨g, 0, none⟩ = some (.string p.name) := by rw [cell_in hk4]; exact hA0
          have hnl : p.name.size ≤ 9223372036854775807 := HNL.out
          clear hA0 hA1 hk3 hk4 hA hg3
          dsimp only
          clear HAA
          go_wp2
          exact bodyPost_panics rfl (HF.out hno _ (World.grownBy.trans HG2.out (by first | exact HG3.out | exact World.grownBy.trans HG3.out (World.grownBy_alloc _ _ _))))
        · have hno : ¬ (lineB x = true ∧ lessB ah (lineN x) = true ∧ ¬ (L.map mp).length = 200) := fun h => by rw [← hlnm, hle] at h; exact absurd h.2.1 (by simp)
          clear hb hlnm hle
          subst f1
          obtain ⟨A, hA⟩ : ∃ A, p.enc.toArray = A := ⟨_, rfl⟩
          have hAs : A.size = 37 := by rw [← hA]; rw [List.size_toArray, enc_len]
          have hA1 : A.all (·.oneCell') = true := by rw [← hA]; rw [List.all_toArray, List.all_eq_true]; exact enc_one p
          have hA0 : A[0]? = some (.string p.name) := by rw [← hA]; rfl
          have HAA := Lib.hid hA
          rw [hA]
          obtain ⟨Z, hZ⟩ : ∃ Z, zeroP = Z := ⟨_, rfl⟩
          have hzs := zeroP_size
          rw [hZ] at hz hzs
          clear hZ
          obtain ⟨g, hgg⟩ : ∃ g, w2.heap.size = g := ⟨_, rfl⟩
          have hk3 : (w2.alloc (.cells Z 35)).heap[g]? = some (.cells Z 35 (0, 0)) := by rw [← hgg, heap_alloc_new]
          have hst := Sha.storeCells_row (w2.alloc (.cells Z 35)) g 35 35 Z A hk3 (by rw [hAs]; kernel_rfl) (by rw [hzs, hAs]) hA1
          have hg3 : w2.grownBy ((w2.alloc (.cells Z 35)).setRow g A) none := Sha.grown_setRow (World.grownBy_alloc _ _ _) (Nat.le_of_eq hgg) _
          have hk4 := setRow_heap _ g _ A 35 _ hk3
          obtain ⟨w3, hw3⟩ : ∃ w3, (w2.alloc (.cells Z 35)).setRow g A = w3 := ⟨_, rfl⟩
          rw [hw3] at hg3 hk4
          have HG3 := Lib.hid hg3
          have HK4 := Lib.hid hk4
          have r0 : w3.cell? ⟨g, 0, none⟩ = some (.string p.name) := by rw [cell_in hk4]; exact hA0
          have hnl : p.name.size ≤ 9223372036854775807 := HNL.out
          clear hA0 hA1 hk3 hk4 hA hg3
          dsimp only
          clear HAA
          go_wp2
          exact bodyPost_panics rfl (HF.out hno _ (World.grownBy.trans HG2.out (by first | exact HG3.out | exact World.grownBy.trans HG3.out (World.grownBy_alloc _ _ _))))
    · obtain rfl : k = n := by omega
      have HE : Hid (RdRet (lockS s) w (.returned (.slice ad2 m2 cp2)) wr) := Lib.hid (HR.out.done (Nat.le_of_eq HN.out))
      go_wp2
      go_ret
      exact HE.out
theorem read_any (m : Int) (s : ByteArray) (w : World) (hs : s.size ≤ 9223372036854775807) (hm : MaxAt m w) : Calls Tryz.prog 47 #[.string s] w (RdRet (lockS s) w) := by
  cases ho : openB s with
  | false => exact read_no s w hs ho
  | true => exact read_yes m s w hs ho hm
end Go.Proofs.YthdopcdllggdaaaGreatDoor
