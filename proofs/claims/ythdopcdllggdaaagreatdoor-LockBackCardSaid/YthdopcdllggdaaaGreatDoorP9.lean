/- Texts of one ground, in one file: Ka Kb. -/
import Derived.Test.YthdopcdllggdaaaGreatDoorP8
import Derived.Defers
import Derived.Recover
namespace Go.Proofs.YthdopcdllggdaaaGreatDoor
open Go.RowKit Go.Extern.Stop Go.Stop Go.Extern

/-- A lockfile's lines: the head, then the others. -/
theorem open_lines (s : ByteArray) (h : openB s = true) : linesS s = toB [108, 111, 99, 107, 32, 49] :: linesS (s.extract 7 s.size) := by
  obtain ⟨hbb, hb2⟩ := Bool.and_eq_true_iff.1 h
  obtain ⟨hb0, hb1⟩ := Bool.and_eq_true_iff.1 hbb
  obtain ⟨t, ht⟩ := List.isPrefixOf_iff_prefix.1 hb1
  have hl := data_len s
  have ht2 : s.data.toList = [108, 111, 99, 107, 32, 49, 10] ++ t := ht.symm
  have h7 : (s.extract 7 s.size).data.toList = t := by rw [extract_tail, ht2]; rfl
  have e : pieces 10 s = toB [108, 111, 99, 107, 32, 49] :: pieces 10 (s.extract 7 s.size) := by
    rw [pieces_of, pieces_of, h7, ht2]
    show (cutL 10 ([108, 111, 99, 107, 32, 49] ++ 10 :: t)).map toB = _
    rw [cutL_at 10 _ _ (by decide)]
    rfl
  have hne := pieces_ne 10 (s.extract 7 s.size)
  unfold linesS
  rw [e, List.getLast?_cons, List.dropLast_cons_of_ne_nil hne]
  obtain ⟨x, hx⟩ : ∃ x, (pieces 10 (s.extract 7 s.size)).getLast? = some x := by
    rw [List.getLast?_eq_some_getLast hne]; exact ⟨_, rfl⟩
  rw [hx]
  by_cases h0 : x = ⟨#[]⟩
  · rw [if_pos (by rw [h0]; rfl), if_pos (by rw [h0])]
  · rw [if_neg (by intro e2; exact h0 (Option.some.inj e2)), if_neg (by intro e2; exact h0 (Option.some.inj e2))]
set_option maxRecDepth 1000000
/-- The deferred closure of a parse that returns. -/
theorem catch_idle (p q r : Addr) (w : World) : CallsD Tryz.prog 45 #[.pointer (some p), .pointer (some q), .pointer (some r)] .returning w fun e u' w' => e = .returned (.tuple #[]) ∧ u' = .returning ∧ w' = w := by
  refine callsD_of_wpS Tryz.func45 rfl fun c₀ cs hu => ?_
  apply wpS_seq
  apply wpS_region
  simp [wpOpsS, go_sem, recoverD, hu, Tryz.ntmps45, Exit.thenS]
  apply wpS_seq
  apply wpS_region
  simp [wpOpsS, go_sem, Exit.thenS]
  refine wpS_cond (t := false) (by simp [Act.eval, Array.replicate]) ?_
  simp only [Bool.false_eq_true, if_false]
  refine wpS_of_wp (wp_skip ?_)
  cases c₀
  simp_all [bodyPostS, results, Tryz.results45]
/-- The deferred closure of a parse whose reading panicked. -/
theorem catch_wrong (n : Int) (p q r : Nat) (hpq : p < q) (hqr : q < r) (older : List PanicEntry) (w : World) (hp : w.cell? ⟨p, 0, none⟩ = some (.slice none 0 0)) (hq : w.cell? ⟨q, 0, none⟩ = some (.int .i64 0)) (hr : w.cell? ⟨r, 0, none⟩ = some (.int .i64 0))
    (fp : w.frozen? ⟨p, 0, none⟩ = false) (fq : w.frozen? ⟨q, 0, none⟩ = false) (fr : w.frozen? ⟨r, 0, none⟩ = false) :
    CallsD Tryz.prog 45 #[.pointer (some ⟨p, 0, none⟩), .pointer (some ⟨q, 0, none⟩), .pointer (some ⟨r, 0, none⟩)] (.panicking ({ v := .iface 89 (.agg #[.int .i64 n]), recovered := false } :: older)) w fun e u' w' =>
      e = .returned (.tuple #[]) ∧ u' = .panicking ({ v := .iface 89 (.agg #[.int .i64 n]), recovered := true } :: older) ∧ ∃ w1, w.grownBy w1 none ∧ w' = ((w1.setCell ⟨p, 0, none⟩ (.slice none 0 0)).setCell ⟨q, 0, none⟩ (.int .i64 n)).setCell ⟨r, 0, none⟩ (.int .i64 63) := by
  refine callsD_of_wpS Tryz.func45 rfl fun c₀ cs hu => ?_
  apply wpS_seq
  apply wpS_region
  simp [wpOpsS, go_sem, recoverD, hu, Tryz.ntmps45, Exit.thenS]
  apply wpS_seq
  apply wpS_region
  simp [wpOpsS, go_sem, Exit.thenS]
  refine wpS_cond (t := true) (by simp [Act.eval, Array.replicate]) ?_
  simp only [if_true]
  refine wpS_of_wp ?_
  simp only [Array.replicate, List.replicate, Array.setIfInBounds]
  go_wp2_with fail
  (with_reducible refine (place_any n w).mono ?_)
  rintro ee w1 ⟨rfl, g⟩
  have p1 := g.cell hp (by simp)
  have p2 := g.cell hq (by simp)
  have p3 := g.cell hr (by simp)
  have k1 := (frozen_kept g (World.block_lt_of_cell? _ _ hp) 0).trans fp
  have k2 := (frozen_kept g (World.block_lt_of_cell? _ _ hq) 0).trans fq
  have k3 := (frozen_kept g (World.block_lt_of_cell? _ _ hr) 0).trans fr
  clear hp hq hr fp fq fr
  go_wp2
  simp [bodyPostS, results, Tryz.results45]
  exact ⟨w1, g, rfl⟩
theorem bk_kept {w w' : World} {b : Nat} {c : Obj} (h : w.heap[b]? = some c) (hg : w.grownBy w' none) : w'.heap[b]? = some c :=
  (hg.block b (Array.getElem?_eq_some_iff.1 h).1 (by simp)).trans h
theorem bk_alloc (w : World) (o : Obj) : (w.alloc o).heap[w.heap.size]? = some o := by
  show (w.heap.push o)[w.heap.size]? = some o
  simp
theorem bk_cell {w : World} {b : Nat} {c : Array Value} {t : TypeId} (h : w.heap[b]? = some (.cells c t (0, 0))) (j : Nat) (v : Value) (hj : c[j]? = some v) : w.cell? ⟨b, j, none⟩ = some v ∧ w.frozen? ⟨b, j, none⟩ = false := by
  refine ⟨by rw [cell_in h, hj], ?_⟩
  simp [World.frozen?, h]
theorem bk_size {w : World} {b : Nat} {o : Obj} (h : w.heap[b]? = some o) : b < w.heap.size := (Array.getElem?_eq_some_iff.1 h).1
theorem bk_set {w : World} {b : Nat} {c : Array Value} {t : TypeId} {f : Nat × Nat} (h : w.heap[b]? = some (.cells c t f)) (i : Nat) (v : Value) : (w.setCell ⟨b, i, none⟩ v).heap[b]? = some (.cells (c.setIfInBounds i v) t f) := by
  simp [World.setCell, Array.getElem?_modify, h]
theorem bk_other {w : World} {b c : Nat} (i : Nat) (v : Value) (h : b ≠ c) : (w.setCell ⟨b, i, none⟩ v).heap[c]? = w.heap[c]? := by
  simp [World.setCell, Array.getElem?_modify, h]
theorem bk_set_grown (w : World) (b i : Nat) (v : Value) : w.grownBy (w.setCell ⟨b, i, none⟩ v) (some b) :=
  ⟨rfl, rfl, rfl, by simp [World.setCell], fun k hk hne => by
    have : ¬ b = k := fun e => hne (by rw [e])
    simp [World.setCell, Array.getElem?_modify, this]⟩
theorem bk_grown_set {w0 w : World} {b : Nat} (h : w0.grownBy w none) (hb : w0.heap.size ≤ b) (i : Nat) (v : Value) : w0.grownBy (w.setCell ⟨b, i, none⟩ v) none := grown_new h (bk_set_grown w b i v) hb
/-- A variable that holds no text is no place of marks. -/
theorem part_var {W : World} {B : Nat} {v : Value} {M : List ByteArray} (h : PartS W B v M) (h0 : 0 < M.length) {g : Nat} {x : Value} {t : TypeId} (hg : W.heap[g]? = some (.cells #[x] t (0, 0))) (hx : ∀ s, x ≠ .string s) : v.ownBlock ≠ some g := by
  obtain ⟨a, cap, b, o, h1, h2, h3, h4, h5, h6⟩ := h
  intro e
  rw [h1, h5 h0] at e
  have e2 : b = g := Option.some.inj (show some b = some g from e)
  subst e2
  have h7 := h6 0 _ (List.getElem?_eq_getElem h0)
  rw [cell_in hg] at h7
  by_cases h8 : o + 0 = 0
  · rw [h8] at h7
    exact hx _ (Option.some.inj h7)
  · rw [Array.getElem?_eq_none (by simp; omega)] at h7
    cases h7
theorem AllAt.set {W : World} {B g : Nat} {L : List Pc} (h : AllAt W B L) {x : Value} {t : TypeId} (hg : W.heap[g]? = some (.cells #[x] t (0, 0))) (hx : ∀ s, x ≠ .string s) (y : Value) : AllAt (W.setCell ⟨g, 0, none⟩ y) B L := fun p hp => by
  have e := h p hp
  exact ⟨{ e.ver with part := part_across e.ver.part (bk_set_grown W g 0 y) (fun h0 q hq e2 => part_var e.ver.part h0 hg hx (by rw [hq]; exact e2.symm)) }, e.name⟩
theorem OwnsP.set {w : World} {base b : Nat} {v : Value} {L : List Pc} (h : OwnsP w base v L) (hb : b < base) (y : Value) : OwnsP (w.setCell ⟨b, 0, none⟩ y) base v L :=
  World.ownsRow.kept h (bk_set_grown w b 0 y) (by cases e : v.ownBlock with
    | none => exact .inl rfl
    | some k => exact .inr (fun e2 => by have := (OwnsP.block_lt h k e).1; have e3 : k = b := Option.some.inj e2; omega))
/-- What parse hands back: the pins; or the line that is wrong. -/
def PkRet (r : Nat ⊕ List Mp) (w : World) (e : Ending) (w' : World) : Prop :=
  w.grownBy w' none ∧ ((∃ k : Nat, r = .inl k ∧ e = .returned (.tuple #[.slice none 0 0, .int .i64 (k : Int), .int .i64 63])) ∨ (∃ v L, r = .inr (L.map fun p : Pc => (p.name, p.v, p.key)) ∧ e = .returned (.tuple #[v, .int .i64 0, .int .i64 0]) ∧ OwnsP w' w.heap.size v L ∧ AllAt w' w'.heap.size L))
set_option maxHeartbeats 4000000 in
theorem lparse_any (m : Int) (s : ByteArray) (w : World) (hs : s.size ≤ 9223372036854775807) (hm : MaxAt m w) : Calls Tryz.prog 27 #[.string s] w (PkRet (lockS s) w) := by
  have hmf : ∀ (fn : Fn) (first cap : Array Value) (w : World), (Instr.makeFunc fn first cap).run Tryz.prog w = .ok (.func fn first cap) w := fun _ _ _ _ => rfl
  have HM := Lib.hid hm
  clear hm
  go_enter_defers Tryz.func27, Tryz.ntmps27
  go_wp2_with fail
  obtain ⟨W1, hW1⟩ : ∃ W1, ((w.alloc (.cells #[.slice none 0 0] 25)).alloc (.cells #[.int .i64 0] 3)).alloc (.cells #[.int .i64 0] 37) = W1 := ⟨_, rfl⟩
  have ga : w.grownBy (w.alloc (.cells #[.slice none 0 0] 25)) none := World.grownBy_alloc _ _ _
  have gb : (w.alloc (.cells #[.slice none 0 0] 25)).grownBy ((w.alloc (.cells #[.slice none 0 0] 25)).alloc (.cells #[.int .i64 0] 3)) none := World.grownBy_alloc _ _ _
  have gc : ((w.alloc (.cells #[.slice none 0 0] 25)).alloc (.cells #[.int .i64 0] 3)).grownBy W1 none := by rw [← hW1]; exact World.grownBy_alloc _ _ _
  have b0 : W1.heap[w.heap.size]? = some (.cells #[.slice none 0 0] 25 (0, 0)) := bk_kept (bk_kept (bk_alloc _ _) gb) gc
  have b1 : W1.heap[w.heap.size + 1]? = some (.cells #[.int .i64 0] 3 (0, 0)) := by
    refine bk_kept ?_ gc
    rw [← alloc_size w (.cells #[.slice none 0 0] 25)]
    exact bk_alloc _ _
  have b2 : W1.heap[w.heap.size + 1 + 1]? = some (.cells #[.int .i64 0] 37 (0, 0)) := by
    rw [← hW1, ← alloc_size w (.cells #[.slice none 0 0] 25), ← alloc_size (w.alloc (.cells #[.slice none 0 0] 25)) (.cells #[.int .i64 0] 3)]
    exact bk_alloc _ _
  have s3 : W1.heap.size = w.heap.size + 3 := by rw [← hW1, alloc_size, alloc_size, alloc_size]
  have G1 := Lib.hid (World.grownBy.trans (World.grownBy.trans ga gb) gc)
  rw [hW1]
  clear hW1 ga gb gc
  have S3 := Lib.hid s3
  have B0 := Lib.hid b0
  have B1 := Lib.hid b1
  have B2 := Lib.hid b2
  clear b0 b1 b2 s3
  (with_reducible refine (read_any m s W1 hs (HM.out.stays G1.out)).mono ?_)
  rintro ee w2 ⟨g2, hr⟩
  have G2 := Lib.hid (World.grownBy.trans G1.out g2)
  have C0 := Lib.hid (bk_kept B0.out g2)
  have C1 := Lib.hid (bk_kept B1.out g2)
  have C2 := Lib.hid (bk_kept B2.out g2)
  clear g2 B0 B1 B2
  rcases hr with ⟨k, hk, rfl⟩ | ⟨v, L, hL, rfl, hO, hA⟩
  · have HK := Lib.hid hk
    clear hk
    obtain ⟨c0, f0⟩ := bk_cell C0.out 0 _ rfl
    obtain ⟨c1, f1⟩ := bk_cell C1.out 0 _ rfl
    obtain ⟨c2, f2⟩ := bk_cell C2.out 0 _ rfl
    dsimp only
    refine leaves_cons (f := 45) (args := #[.pointer (some ⟨w.heap.size, 0, none⟩), .pointer (some ⟨w.heap.size + 1, 0, none⟩), .pointer (some ⟨w.heap.size + 1 + 1, 0, none⟩)]) (by simp) (by simp [go_sem]) ?_
    refine (catch_wrong (k : Int) w.heap.size (w.heap.size + 1) (w.heap.size + 1 + 1) (by omega) (by omega) [] w2 c0 c1 c2 f0 f1 f2).mono ?_
    rintro e u' w'' ⟨rfl, rfl, w3, g3, rfl⟩
    have D0 := bk_kept C0.out g3
    have D1 := bk_kept C1.out g3
    have D2 := bk_kept C2.out g3
    have G3 := World.grownBy.trans G2.out g3
    obtain ⟨W4, hW4⟩ : ∃ W4, ((w3.setCell ⟨w.heap.size, 0, none⟩ (.slice none 0 0)).setCell ⟨w.heap.size + 1, 0, none⟩ (.int .i64 (k : Int))).setCell ⟨w.heap.size + 1 + 1, 0, none⟩ (.int .i64 63) = W4 := ⟨_, rfl⟩
    have G4 : w.grownBy W4 none := by rw [← hW4]; exact bk_grown_set (bk_grown_set (bk_grown_set G3 (Nat.le_refl _) 0 _) (by omega) 0 _) (by omega) 0 _
    have q0 : W4.cell? ⟨w.heap.size, 0, none⟩ = some (.slice none 0 0) := by
      rw [← hW4]
      refine (bk_cell (c := #[.slice none 0 0]) (t := 25) ?_ 0 _ rfl).1
      rw [bk_other _ _ (by omega), bk_other _ _ (by omega)]
      exact bk_set D0 0 _
    have q1 : W4.cell? ⟨w.heap.size + 1, 0, none⟩ = some (.int .i64 (k : Int)) := by
      rw [← hW4]
      refine (bk_cell (c := #[.int .i64 (k : Int)]) (t := 3) ?_ 0 _ rfl).1
      rw [bk_other _ _ (by omega)]
      exact bk_set ((bk_other _ _ (by omega)).trans D1) 0 _
    have q2 : W4.cell? ⟨w.heap.size + 1 + 1, 0, none⟩ = some (.int .i64 63) := by
      rw [← hW4]
      refine (bk_cell (c := #[.int .i64 63]) (t := 37) ?_ 0 _ rfl).1
      exact bk_set ((bk_other _ _ (by omega)).trans ((bk_other _ _ (by omega)).trans D2)) 0 _
    rw [hW4]
    simp [Leaves, settle, results, Tryz.results27, go_sem, q0, q1, q2]
    exact ⟨G4, .inl ⟨k, HK.out, rfl⟩⟩
  · obtain ⟨ad, cp, e1, _, _⟩ := hO.form
    subst e1
    obtain ⟨n, hn⟩ : ∃ n, L.length = n := ⟨_, rfl⟩
    rw [hn] at hO ⊢
    have HO := Lib.hid hO
    have HA := Lib.hid hA
    have HL := Lib.hid hL
    clear hO hA hL hn
    obtain ⟨c0, f0⟩ := bk_cell C0.out 0 _ rfl
    obtain ⟨c1, f1⟩ := bk_cell C1.out 0 _ rfl
    obtain ⟨c2, f2⟩ := bk_cell C2.out 0 _ rfl
    dsimp only
    go_wp2_with fail
    refine leaves_cons (f := 45) (args := #[.pointer (some ⟨w.heap.size, 0, none⟩), .pointer (some ⟨w.heap.size + 1, 0, none⟩), .pointer (some ⟨w.heap.size + 1 + 1, 0, none⟩)]) (by simp) (by simp [go_sem]) ?_
    refine (catch_idle _ _ _ _).mono ?_
    rintro e u' w'' ⟨rfl, rfl, rfl⟩
    obtain ⟨W4, hW4⟩ : ∃ W4, ((w2.setCell ⟨w.heap.size, 0, none⟩ (.slice ad n cp)).setCell ⟨w.heap.size + 1, 0, none⟩ (.int .i64 0)).setCell ⟨w.heap.size + 1 + 1, 0, none⟩ (.int .i64 0) = W4 := ⟨_, rfl⟩
    have G4 : w.grownBy W4 none := by rw [← hW4]; exact bk_grown_set (bk_grown_set (bk_grown_set G2.out (Nat.le_refl _) 0 _) (by omega) 0 _) (by omega) 0 _
    have q0 : W4.cell? ⟨w.heap.size, 0, none⟩ = some (.slice ad n cp) := by
      rw [← hW4]
      refine (bk_cell (c := #[.slice ad n cp]) (t := 25) ?_ 0 _ rfl).1
      rw [bk_other _ _ (by omega), bk_other _ _ (by omega)]
      exact bk_set C0.out 0 _
    have q1 : W4.cell? ⟨w.heap.size + 1, 0, none⟩ = some (.int .i64 0) := by
      rw [← hW4]
      refine (bk_cell (c := #[.int .i64 0]) (t := 3) ?_ 0 _ rfl).1
      rw [bk_other _ _ (by omega)]
      exact bk_set ((bk_other _ _ (by omega)).trans C1.out) 0 _
    have q2 : W4.cell? ⟨w.heap.size + 1 + 1, 0, none⟩ = some (.int .i64 0) := by
      rw [← hW4]
      refine (bk_cell (c := #[.int .i64 0]) (t := 37) ?_ 0 _ rfl).1
      exact bk_set ((bk_other _ _ (by omega)).trans ((bk_other _ _ (by omega)).trans C2.out)) 0 _
    have HO4 : OwnsP W4 W1.heap.size (.slice ad n cp) L := by
      have h3 := S3.out
      rw [← hW4]
      exact ((HO.out.set (by omega) _).set (by omega) _).set (by omega) _
    have HA4 : AllAt W4 W4.heap.size L := by
      have e : W4.heap.size = w2.heap.size := by rw [← hW4]; simp [World.setCell]
      rw [e, ← hW4]
      refine AllAt.set (AllAt.set (AllAt.set HA.out C0.out (fun _ h => by cases h) _) ((bk_other _ _ (by omega)).trans C1.out) (fun _ h => by cases h) _) ((bk_other _ _ (by omega)).trans ((bk_other _ _ (by omega)).trans C2.out)) (fun _ h => by cases h) _
    rw [hW4]
    simp [Leaves, settle, results, Tryz.results27, go_sem, q0, q1, q2]
    exact ⟨G4, .inr ⟨.slice ad n cp, L, HL.out, rfl, HO4.mono (by have := S3.out; omega), HA4⟩⟩
theorem lParse_any (m : Int) (s : ByteArray) (w : World) (hs : s.size ≤ 9223372036854775807) (hm : MaxAt m w) : Calls Tryz.prog 9 #[.string s] w (PkRet (lockS s) w) := by
  have HP := Lib.hid (lparse_any m s w hs hm)
  clear hm
  go_enter Tryz.func9, Tryz.ntmps9
  go_wp2_with fail
  (with_reducible refine HP.out.mono ?_)
  rintro ee w1 h
  obtain ⟨hg, ⟨k, h1, rfl⟩ | ⟨v, L, h1, rfl, h2, h3⟩⟩ := h
  · have HF : Hid (PkRet (lockS s) w (.returned (.tuple #[.slice none 0 0, .int .i64 (k : Int), .int .i64 63])) w1) := Lib.hid ⟨hg, .inl ⟨k, h1, rfl⟩⟩
    clear h1 hg
    dsimp only
    go_wp2
    exact bodyPost_ret (by simp [results, Tryz.results9, go_sem]) rfl HF.out
  · have HF : Hid (PkRet (lockS s) w (.returned (.tuple #[v, .int .i64 0, .int .i64 0])) w1) := Lib.hid ⟨hg, .inr ⟨v, L, h1, rfl, h2, h3⟩⟩
    clear h1 hg h2 h3
    dsimp only
    go_wp2
    exact bodyPost_ret (by simp [results, Tryz.results9, go_sem]) rfl HF.out
end Go.Proofs.YthdopcdllggdaaaGreatDoor
namespace Go.Proofs.YthdopcdllggdaaaGreatDoor
open Go.RowKit

theorem u8_ne (c d : UInt8) (h : ¬ c = d) : ((c.toNat : Int) == (d.toNat : Int)) = false := by
  rw [beq_eq_false_iff_ne]
  intro e
  exact h (UInt8.toNat_inj.1 (by omega))
theorem begin_head (s : ByteArray) : Lib.hasPrefix s.data.toList headL = beginB s ⟨#[108, 111, 99, 107, 32, 49, 10]⟩ := by
  have hl := data_len s
  unfold beginB
  show headL.isPrefixOf s.data.toList = (decide (7 ≤ s.size) && ((s.extract 0 7).toList == (⟨#[108, 111, 99, 107, 32, 49, 10]⟩ : ByteArray).toList))
  rw [ByteArray.toList_eq, ByteArray.toList_eq, extract_head]
  show headL.isPrefixOf s.data.toList = (decide (7 ≤ s.size) && (s.data.toList.take 7 == headL))
  cases h : headL.isPrefixOf s.data.toList with
  | true =>
    obtain ⟨t, ht⟩ := List.isPrefixOf_iff_prefix.1 h
    rw [← ht, decide_eq_true (by rw [← hl, ← ht, List.length_append]; show 7 ≤ 7 + _; omega)]
    rfl
  | false =>
    by_cases h7 : 7 ≤ s.size
    · rw [decide_eq_true h7]
      symm
      rw [Bool.true_and, beq_eq_false_iff_ne]
      intro e
      have : headL.isPrefixOf s.data.toList = true := List.isPrefixOf_iff_prefix.2 ⟨s.data.toList.drop 7, by rw [← e, List.take_append_drop]⟩
      rw [this] at h
      cases h
    · rw [decide_eq_false h7]; rfl
theorem end_lf (s : ByteArray) (h : 0 < s.size) : Lib.hasSuffix s.data.toList [10] = decide (byteAt s (s.size - 1) = 10) := by
  have hl := data_len s
  have e := byteAt_list s (s.size - 1) (by omega)
  have e2 : s.data.toList.drop (s.size - 1 + 1) = [] := List.drop_eq_nil_of_le (by omega)
  rw [e2] at e
  unfold Lib.hasSuffix
  by_cases hc : byteAt s (s.size - 1) = 10
  · rw [hc] at e
    rw [decide_eq_true hc]
    exact List.isSuffixOf_iff_suffix.2 ⟨_, e.symm⟩
  · rw [decide_eq_false hc]
    cases h2 : List.isSuffixOf [10] s.data.toList with
    | false => rfl
    | true =>
      obtain ⟨t, ht⟩ := List.isSuffixOf_iff_suffix.1 h2
      rw [e] at ht
      exact absurd (List.append_inj' ht rfl).2 (by intro e3; exact hc (List.cons.inj e3).1.symm)
theorem open_ways (s : ByteArray) : (65536 < s.size ∧ openB s = false) ∨ (s.size ≤ 65536 ∧ beginB s ⟨#[108, 111, 99, 107, 32, 49, 10]⟩ = false ∧ openB s = false) ∨ (s.size ≤ 65536 ∧ beginB s ⟨#[108, 111, 99, 107, 32, 49, 10]⟩ = true ∧ 7 ≤ s.size ∧ ¬ byteAt s (s.size - 1) = 10 ∧ openB s = false) ∨ (s.size ≤ 65536 ∧ beginB s ⟨#[108, 111, 99, 107, 32, 49, 10]⟩ = true ∧ 7 ≤ s.size ∧ byteAt s (s.size - 1) = 10 ∧ openB s = true) := by
  by_cases h1 : 65536 < s.size
  · exact .inl ⟨h1, by unfold openB; rw [decide_eq_false (by omega)]; rfl⟩
  · have h2 : s.size ≤ 65536 := by omega
    have e : openB s = (beginB s ⟨#[108, 111, 99, 107, 32, 49, 10]⟩ && Lib.hasSuffix s.data.toList [10]) := by unfold openB; rw [decide_eq_true h2, begin_head]; rfl
    cases hb : beginB s ⟨#[108, 111, 99, 107, 32, 49, 10]⟩ with
    | false => exact .inr (.inl ⟨h2, rfl, by rw [e, hb]; rfl⟩)
    | true =>
      have h7 : 7 ≤ s.size := by
        unfold beginB at hb
        exact of_decide_eq_true (Bool.and_eq_true_iff.1 hb).1
      rw [hb, end_lf s (by omega), Bool.true_and] at e
      by_cases hc : byteAt s (s.size - 1) = 10
      · exact .inr (.inr (.inr ⟨h2, rfl, h7, hc, by rw [e, decide_eq_true hc]⟩))
      · exact .inr (.inr (.inl ⟨h2, rfl, h7, hc, by rw [e, decide_eq_false hc]⟩))
set_option maxRecDepth 1000000
set_option maxHeartbeats 4000000 in
theorem lockOf_no (s : ByteArray) (w : World) (hs : s.size ≤ 9223372036854775807) (ho : openB s = false) : Calls Tryz.prog 13 #[.string s] w (PkRet (lockS s) w) := by
  have HF : Hid (∀ W, w.grownBy W none → PkRet (lockS s) w (.returned (.tuple #[.slice none 0 0, .int .i64 0, .int .i64 63])) W) := Lib.hid (fun W hW => ⟨hW, .inl ⟨0, by unfold lockS; rw [ho]; rfl, rfl⟩⟩)
  have hbg := begins_any s ⟨#[108, 111, 99, 107, 32, 49, 10]⟩
  rcases open_ways s with ⟨h1, _⟩ | ⟨h1, h2, _⟩ | ⟨h1, h2, h3, h4, _⟩ | ⟨_, _, _, _, h5⟩
  · clear ho hbg
    have h1i : (65536 : Int) < (s.size : Int) := by omega
    go_enter Tryz.func13, Tryz.ntmps13
    go_wp2
    exact bodyPost_ret (by simp [results, Tryz.results13, go_sem]) rfl (HF.out _ (World.grownBy.refl _ _))
  · clear ho
    have h1i : ¬ (65536 : Int) < (s.size : Int) := by omega
    rw [h2] at hbg
    clear h2
    go_enter Tryz.func13, Tryz.ntmps13
    go_wp2_with fail
    (with_reducible refine (hbg _).mono ?_)
    rintro ee wx ⟨rfl, rfl⟩
    dsimp only
    go_wp2
    exact bodyPost_ret (by simp [results, Tryz.results13, go_sem]) rfl (HF.out _ (World.grownBy.refl _ _))
  · clear ho
    have h1i : ¬ (65536 : Int) < (s.size : Int) := by omega
    obtain ⟨c, hc⟩ : ∃ c, byteAt s (s.size - 1) = c := ⟨_, rfl⟩
    have hlt : s.size - 1 < s.size := by omega
    have hc2 : s[s.size - 1]'hlt = c := by rw [← byteAt_eq]; exact hc
    rw [hc] at h4
    have n10 : ((c.toNat : Int) == 10) = false := u8_ne c 10 h4
    rw [h2] at hbg
    clear h2 hc
    go_enter Tryz.func13, Tryz.ntmps13
    go_wp2_with fail
    (with_reducible refine (hbg _).mono ?_)
    rintro ee wx ⟨rfl, rfl⟩
    dsimp only
    go_wp2
    exact bodyPost_ret (by simp [results, Tryz.results13, go_sem]) rfl (HF.out _ (World.grownBy.refl _ _))
  · rw [ho] at h5; cases h5
theorem refSplit_sp (s : ByteArray) (hs : s.size ≤ 2000000) (w : World) (hp : 0 < w.heap.size) :
    Calls Tryz.prog 16 #[.string s, .int .u8 32] w fun e w' => ∃ ad n cp, e = .returned (.slice ad n cp) ∧ (pieces 32 s).length = n ∧ PartS w' w'.heap.size (.slice ad n cp) (pieces 32 s) ∧ w.grownBy w' none ∧ ∀ q, (Value.slice ad n cp).ownBlock = some q → w.heap.size ≤ q := by
  refine (refSplit_any s 32 hs w).mono fun e w' h => ?_
  obtain ⟨v', rfl, h2, h3⟩ := h
  have hg := h3.size
  have hP := h2.part (by omega)
  obtain ⟨a, cap, e, _, _⟩ := h2.form
  have hB := fun q => h2.block_lt q
  rw [e] at hP hB
  exact ⟨a, _, cap, by rw [e], rfl, hP, h3, fun q hq => (hB q hq).1⟩
/-- append of one pin, in a region that draws its order: where the new slice lies. -/
theorem op_pin_at {a : Act} {w : World} {o : Oper} {K : Act → World → Prop} {Q : Exit → Act → World → Prop} (s x : Operand) (ho : o.op = .call { callee := .builtin .append, args := #[s, x], argTypes := #[25, 25] })
    (base : Nat) (v : Value) (L : List Pc) (m : Nat) (hm : L.length = m) (y : Pc) (b : Nat) (hs : a.eval s = v) (hown : OwnsP w base v L) (hx : a.eval x = .slice (some ⟨b, 0, none⟩) 1 1) (hp : w.rangeAt b 0 y.enc) (hb : m ≤ 1000000) (hbase : base ≤ w.heap.size)
    (h : ∀ ad5 cp5 w', m + 1 ≤ cp5 → cp5 ≤ 9223372036854775807 → OwnsP w' base (.slice ad5 (m + 1) cp5) (L ++ [y]) → w.grownBy w' v.ownBlock → ((Value.slice ad5 (m + 1) cp5).ownBlock = v.ownBlock ∨ (Value.slice ad5 (m + 1) cp5).ownBlock = some w.heap.size) → K (a.put o.dst (.slice ad5 (m + 1) cp5)) w') : o.wp Tryz.prog a w K Q := by
  obtain ⟨i0, hi, hz0, hz1, hz2⟩ := info_parts infoP
  obtain ⟨v', w', hr, h7, h8, _, h9⟩ := run_append_own_at (P := Tryz.prog) w base 25 o.type 35 i0 _ 37 96 Tryz.underlying25 hi hz0 hz1 hz2 rfl (by decide) v L.length (rowsC L) hown ⟨b, 0, none⟩ 1 1 y.enc (by rw [enc_len]) (fun j u hu => by rw [Addr.add_mid]; exact hp j u hu) (enc_one y) (by unfold maxLen; omega) (by omega) hbase
  have h10 : OwnsP w' base v' (L ++ [y]) := by
    show World.ownsRow _ _ _ _ _ _ _
    rw [List.length_append, rowsC_snoc]
    exact h7
  obtain ⟨ad5, cp5, e, h11, h12⟩ := h10.form
  rw [List.length_append, hm] at e h11
  subst e
  unfold Oper.wp
  simp [execOp, ho, resolve, invoke, builtin, hs, hx, hr, Result.andThen]
  exact h ad5 cp5 w' h11 h12 h10 h8 h9
end Go.Proofs.YthdopcdllggdaaaGreatDoor
