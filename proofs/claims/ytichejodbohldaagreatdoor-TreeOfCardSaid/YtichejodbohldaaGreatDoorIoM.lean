/- The names that the laws write. -/
import Derived.Test.YtichejodbohldaaGreatDoorIjM
namespace Go.Proofs.YtichejodbohldaaGreatDoor
open Go.RowKit Go.Maps
set_option maxRecDepth 1000000
def dP : Nat → ByteArray
  | 0 => ⟨#[]⟩
  | 1 => ⟨#[97, 47]⟩
  | 2 => ⟨#[98, 47, 99, 47]⟩
  | _ => ⟨#[98, 47, 100, 47]⟩
def nmS (k : Nat) : ByteArray := dP (k / 64) ++ ⟨#[102]⟩ ++ ⟨#[UInt8.ofNat (97 + k % 26)]⟩
set_option maxHeartbeats 4000000 in
theorem name_any (k : Nat) (hk : k < 256) (w : World) : Calls Tryz.prog 41 #[.int .u8 (k : Int)] w fun e w' => e = .returned (.string (nmS k)) ∧ w.grownBy w' none := by
  have q1 : (k : Int).tdiv 64 = ((k / 64 : Nat) : Int) := by rw [Int.tdiv_eq_ediv_of_nonneg (by omega)]; omega
  have q2 : (k : Int).tmod 26 = ((k % 26 : Nat) : Int) := by rw [Int.tmod_eq_emod_of_nonneg (by omega)]; omega
  obtain ⟨d, hd⟩ : ∃ d, k / 64 = d := ⟨_, rfl⟩
  obtain ⟨r, hr⟩ : ∃ r, k % 26 = r := ⟨_, rfl⟩
  have hr2 : r < 26 := by omega
  have HE : Hid (nmS k = dP d ++ ⟨#[102]⟩ ++ ⟨#[UInt8.ofNat (97 + r)]⟩) := Lib.hid (by unfold nmS; rw [hd, hr])
  rw [hd] at q1
  rw [hr] at q2
  have hd4 : d = 0 ∨ d = 1 ∨ d = 2 ∨ d = 3 := by omega
  have w1 : IntKind.u8.wrap (97 + (r : Int)) = 97 + (r : Int) := by
    simp [IntKind.wrap, IntKind.bits, IntKind.signed]; omega
  have hc : 97 + (r : Int) = ((UInt8.ofNat (97 + r)).toNat : Int) := by rw [UInt8.toNat_ofNat', Nat.mod_eq_of_lt (by omega)]; omega
  have cv : ∀ (c : Array Value) (t : TypeId), (convert 31 9 (.slice (some ⟨w.heap.size + 1, 0, none⟩) 1 1)).run Tryz.prog ((w.alloc (.cells c t)).alloc (.cells #[.int .u8 (97 + (r : Int))] 5)) = .ok (.string ⟨#[UInt8.ofNat (97 + r)]⟩) ((w.alloc (.cells c t)).alloc (.cells #[.int .u8 (97 + (r : Int))] 5)) := fun c t => by
    have := conv_any (part_one (w.alloc (.cells c t)) (97 + (r : Int)) (UInt8.ofNat (97 + r)) 5 hc)
    rw [alloc_size] at this
    exact this
  have HG : Hid (∀ (c : Array Value) (t : TypeId), w.grownBy ((w.alloc (.cells c t)).alloc (.cells #[.int .u8 (97 + (r : Int))] 5)) none) := Lib.hid fun c t => grown_alloc _ (World.grownBy_alloc _ _ _)
  obtain ⟨c, hcc⟩ : ∃ c, UInt8.ofNat (97 + r) = c := ⟨_, rfl⟩
  rw [hcc] at HE
  simp only [hcc] at cv
  clear hd hr hc hcc
  rcases hd4 with rfl | rfl | rfl | rfl
  all_goals
    go_enter Tryz.func41, Tryz.ntmps41
    go_wp2
    go_ret
    exact ⟨by rw [HE.out]; rfl, HG.out _ _⟩
/-- Where an argument's bytes lie. -/
def BytesN (W : World) (a : Option Addr) (l : List Nat) : Prop := ∀ (j x : Nat), l[j]? = some x → ∃ b o, a = some ⟨b, o, none⟩ ∧ W.cell? ⟨b, o + j, none⟩ = some (.int .u8 (x : Int))
theorem BytesN.since {w w' : World} {a : Option Addr} {l : List Nat} (h : BytesN w a l) (hg : Since w.heap.size w w') : BytesN w' a l := fun j x hj => by
  obtain ⟨b, o, e, h1⟩ := h j x hj
  exact ⟨b, o, e, hg.cell h1 (World.block_lt_of_cell? _ _ h1)⟩
/-! ### Pure -/
def dirsL : List ByteArray := [⟨#[97]⟩, ⟨#[98]⟩, ⟨#[98, 47, 99]⟩, ⟨#[98, 47, 100]⟩]
def dsK (k : Nat) : List ByteArray := (List.range ((Pth.partsS (nmS k)).length - 1)).map fun i => upL (Pth.partsS (nmS k)) (i + 1)
theorem nm_facts : ∀ k : Fin 256, Pth.cleanS (nmS k.1) = (nmS k.1, 0) ∧ ((dsK k.1).all fun x => memB dirsL x) = true ∧ memB dirsL (nmS k.1) = false ∧ (nmS k.1).size ≤ 6 ∧ (Pth.partsS (nmS k.1)).length ≤ 3 := by decide +kernel
theorem ds_mem {k i : Nat} (h1 : 1 ≤ i) (h2 : i + 1 ≤ (Pth.partsS (nmS k)).length) : upL (Pth.partsS (nmS k)) i ∈ dsK k := by
  unfold dsK
  refine List.mem_map.2 ⟨i - 1, List.mem_range.2 (by omega), ?_⟩
  rw [show i - 1 + 1 = i by omega]
theorem ds_dir {k : Nat} (hk : k < 256) {x : ByteArray} (h : x ∈ dsK k) : memB dirsL x = true := List.all_eq_true.1 (nm_facts ⟨k, hk⟩).2.1 x h
theorem nm_not {k : Nat} (hk : k < 256) {x : ByteArray} (h : memB dirsL x = true) : ¬ nmS k = x := by
  intro e
  have := (nm_facts ⟨k, hk⟩).2.2.1
  rw [show (⟨k, hk⟩ : Fin 256).1 = k from rfl, e, h] at this
  cases this
theorem fileN_no {M : Tr} {L : List ByteArray} : ∀ n, (∀ i, i < n → fileT M (upL L i) = false) → fileN M L n = false
  | 0, _ => rfl
  | n + 1, h => by
    unfold fileN
    rw [h n (by omega), fileN_no n fun i hi => h i (by omega)]; rfl
/-- The files of names l, with what cont says, and their directories. -/
structure Has (cont : ByteArray → List UInt8) (M : Tr) (l : List Nat) : Prop where
  inv : Inv M
  at' : ∀ x, getA M x = if (l.any fun k => decide (nmS k = x)) = true then some ⟨false, cont x⟩ else if (l.any fun k => memB (dsK k) x) = true then some dirN else none
  len : M.length ≤ 3 * l.length
  size : sizeT M ≤ 100 * l.length
theorem Has.nil (cont : ByteArray → List UInt8) : Has cont [] [] := ⟨inv_nil, fun _ => rfl, Nat.le_refl _, Nat.zero_le _⟩
theorem any_no {l : List Nat} (hl : ∀ y ∈ l, y < 256) {x : ByteArray} (h : memB dirsL x = true) : (l.any fun k => decide (nmS k = x)) = false :=
  List.any_eq_false.2 fun y hy e => nm_not (hl y hy) h (of_decide_eq_true e)
theorem ds_no {l : List Nat} (hl : ∀ y ∈ l, y < 256) {k : Nat} (hk : k < 256) : (l.any fun j => memB (dsK j) (nmS k)) = false :=
  List.any_eq_false.2 fun y hy e => nm_not hk (ds_dir (hl y hy) ((memB_iff _ _).1 e)) rfl
theorem Has.file {cont : ByteArray → List UInt8} {M : Tr} {l : List Nat} (h : Has cont M l) (hl : ∀ y ∈ l, y < 256) {k : Nat} (hk : k < 256) : fileS M (nmS k) = (nmS k, 0) := by
  have hc := (nm_facts ⟨k, hk⟩).1
  dsimp only at hc
  rcases clean_ways (nmS k) with ⟨L, hL, hP⟩ | ⟨q, hq, hq0, _⟩
  · have e1 : Pth.joinB L = nmS k := by rw [hc] at hL; exact ((Prod.mk.inj hL).1).symm
    have e2 : Pth.partsS (nmS k) = L := by rw [← e1]; exact Pth.parts_join L hP.part
    rw [fileS_at M (nmS k) L hL hP, e1, if_neg ?_]
    have hn0 : ¬ nmS k = E0 := by
      intro e
      have := (nm_facts ⟨k, hk⟩).1
      dsimp only at this
      have h2 : (nmS k).size = 0 := by rw [e]; rfl
      unfold nmS at h2
      rw [ByteArray.size_append, ByteArray.size_append] at h2
      have h3 : (⟨#[102]⟩ : ByteArray).size = 1 := rfl
      omega
    have hd : dirT M (nmS k) = false := by
      unfold dirT
      rw [h.at' (nmS k), ds_no hl hk, decide_eq_false hn0]
      split <;> rfl
    have ha : aheadT M L = false := by
      unfold aheadT
      refine fileN_no _ fun i hi => ?_
      by_cases h0 : i = 0
      · subst h0; rw [upL_zero]; unfold fileT dirT; simp
      · have hm := ds_dir hk (ds_mem (k := k) (i := i) (by omega) (by rw [e2]; omega))
        rw [e2] at hm
        unfold fileT hasT dirT
        rw [h.at' (upL L i), any_no hl hm]
        have hne : ¬ upL L i = E0 := by rw [show i = (i - 1) + 1 by omega]; exact hP.ne (i - 1) (by omega)
        rw [decide_eq_false hne]
        by_cases hz : (l.any fun j => memB (dsK j) (upL L i)) = true
        · rw [hz]; rfl
        · rw [if_neg (by simp), if_neg hz]; rfl
    rw [hd, ha]; simp
  · rw [hc] at hq; exact absurd (Prod.mk.inj hq).2.symm hq0
set_option maxHeartbeats 1000000 in
theorem Has.put {cont : ByteArray → List UInt8} {M : Tr} {l : List Nat} (h : Has cont M l) (hl : ∀ y ∈ l, y < 256) (hlen : l.length ≤ 20) {k : Nat} (hk : k < 256) (hc : (cont (nmS k)).length ≤ 100) :
    ∃ M', putS M (nmS k) (fun _ => cont (nmS k)) = (0, M') ∧ Has cont M' (l ++ [k]) := by
  have hfs := h.file hl hk
  rcases file_ways M (nmS k) with ⟨L, j, hf, hL, hj, hd, hfn⟩ | ⟨q, hf, hq, _⟩
  · rw [putS_at hf hL hj]
    have e1 : upL L (j + 1) = nmS k := by rw [hfs] at hf; exact ((Prod.mk.inj hf).1).symm
    have e2 : Pth.partsS (nmS k) = L := by rw [← e1, ← hj, upL_all]; exact Pth.parts_join L hL.part
    have hj3 : j ≤ 2 := by have := (nm_facts ⟨k, hk⟩).2.2.2.2; dsimp only at this; rw [e2] at this; omega
    have h1 := h.len
    have h2 := h.size
    have hlk := lackN_le M L j
    have hfit : fitsT M L j (cont (nmS k)).length = true := by
      unfold fitsT moreT
      rw [decide_eq_true (by omega), decide_eq_true (by split <;> omega), decide_eq_true (by omega)]; rfl
    rw [if_pos hfit]
    refine ⟨_, rfl, inv_put h.inv hL j hj hd hfn _ hfit, fun x => ?_, ?_, ?_⟩
    · rw [getA_put, e1, List.any_append, List.any_append]
      have hone : ([k].any fun j => decide (nmS j = x)) = decide (nmS k = x) := by simp
      have hone2 : ([k].any fun j => memB (dsK j) x) = memB (dsK k) x := by simp
      rw [hone, hone2]
      by_cases hx : nmS k = x
      · rw [if_pos hx, decide_eq_true hx, Bool.or_true, if_pos rfl, hx]
      · rw [if_neg hx, decide_eq_false hx, Bool.or_false]
        cases hb : memB (dsK k) x with
        | true =>
          have hxd := ds_dir hk ((memB_iff _ _).1 hb)
          rw [any_no hl hxd, Bool.or_true, if_neg (by simp), if_pos rfl]
          obtain ⟨i0, hi0, e3⟩ := List.mem_map.1 ((memB_iff _ _).1 hb)
          have hi0 := List.mem_range.1 hi0
          rw [e2] at hi0 e3
          obtain ⟨n, hn, hdn⟩ := mk_dirs h.inv hL j (by omega) hfn (i0 + 1) (by omega) (by omega)
          rw [e3] at hn
          rw [hn]
          rcases mk_mem j M _ (mem_get hn) with hm | ⟨_, _, _, e4⟩
          · have := h.inv.asc.get hm
            rw [h.at' x, any_no hl hxd, if_neg (by simp)] at this
            split at this
            · exact this.symm
            · cases this
          · rw [(Prod.mk.inj e4).2]
        | false =>
          rw [Bool.or_false, mkN_get j M fun i hi1 hi2 e => ?_]
          · exact h.at' x
          · have := ds_mem (k := k) (i := i) hi1 (by rw [e2]; omega)
            rw [e2, e] at this
            rw [(memB_iff _ _).2 this] at hb; cases hb
    · have := put_len (mkN_asc L j M h.inv.asc) (upL L (j + 1)) (⟨false, cont (nmS k)⟩ : Nd)
      rw [mkN_len hL j M h.inv.asc (by omega)] at this
      rw [this, List.length_append]
      simp only [List.length_cons, List.length_nil]
      split <;> omega
    · have := size_put (mkN M L j) (mkN_asc L j M h.inv.asc) (upL L (j + 1)) ⟨false, cont (nmS k)⟩
      rw [mkN_size L j M h.inv.asc] at this
      dsimp only at this
      rw [List.length_append]
      simp only [List.length_cons, List.length_nil]
      omega
  · rw [hfs] at hf; exact absurd (Prod.mk.inj hf).2.symm hq
/-- The same names, the same tree. -/
theorem Has.same {cont : ByteArray → List UInt8} {M N : Tr} {l r : List Nat} (h : Has cont M l) (h' : Has cont N r) (hm : ∀ k, k ∈ l ↔ k ∈ r) : M = N := by
  refine ascA_ext h.inv.asc h'.inv.asc fun x => ?_
  have hany : ∀ f : Nat → Bool, l.any f = r.any f := fun f => by
    rw [Bool.eq_iff_iff, List.any_eq_true, List.any_eq_true]
    exact ⟨fun ⟨y, hy, e⟩ => ⟨y, (hm y).1 hy, e⟩, fun ⟨y, hy, e⟩ => ⟨y, (hm y).2 hy, e⟩⟩
  rw [h.at' x, h'.at' x, hany, hany]
end Go.Proofs.YtichejodbohldaaGreatDoor
