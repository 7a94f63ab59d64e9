/- Texts of one ground, in one file: Ii. -/
import Derived.Test.YtichejodbohldaaGreatDoorP15
import Derived.Lib.SlBytesConst
namespace Go.Proofs.YtichejodbohldaaGreatDoor
open Go.RowKit Go.Maps
set_option maxRecDepth 1000000
theorem TreeAt.lt {w : World} {tb : Nat} {M : Tr} {S : Nat → Prop} (h : TreeAt w tb M S) : ∀ k, S k → k < w.heap.size := h.2
/-- A tree that the call itself made, from block B on. -/
structure St (B : Nat) (w : World) (tb : Nat) (M : Tr) (S : Nat → Prop) : Prop where
  tree : TreeAt w tb M S
  from' : ∀ k, S k → B ≤ k
theorem St.stays {B : Nat} {w w' : World} {tb : Nat} {M : Tr} {S : Nat → Prop} (h : St B w tb M S) (hg : w.grownBy w' none) : St B w' tb M S := ⟨h.tree.keeps (Kept.ofNone hg fun _ => False) fun _ _ e => e, h.from'⟩
theorem St.puts {B : Nat} {w w' : World} {tb : Nat} {M : Tr} {S : Nat → Prop} {R : Int × Tr} {e : Ending} (h : St B w tb M S) (hB : B ≤ w.heap.size) (hp : PutsRet tb R w S e w') : St B w' tb R.2 (Grow w w' S) ∧ Kept w w' (fun k => B ≤ k) :=
  ⟨⟨hp.2.1, fun k hk => by
    rcases hk.1 with h1 | h1
    · exact h.from' k h1
    · exact Nat.le_trans hB h1⟩, hp.2.2.mono fun k _ hk => h.from' k hk⟩
theorem St.new {w w' : World} {tb : Nat} (h : TreeAt w' tb [] (Grow w w' fun _ => False)) : St w.heap.size w' tb [] (Grow w w' fun _ => False) :=
  ⟨h, fun k hk => by rcases hk.1 with h1 | h1; exact h1.elim; exact h1⟩
/-- Only what is from B on has turned. -/
abbrev Since (B : Nat) (w w' : World) : Prop := Kept w w' fun k => B ≤ k
theorem Since.of {B : Nat} {w w' : World} (h : w.grownBy w' none) : Since B w w' := Kept.ofNone h _
theorem Since.go {B : Nat} {a b c : World} (h : Since B a b) (k : Since B b c) : Since B a c := h.trans k fun _ e => .inl e
theorem Since.cell {B : Nat} {w w' : World} {b o : Nat} {v : Value} (h : Since B w w') (hc : w.cell? ⟨b, o, none⟩ = some v) (hb : b < B) : w'.cell? ⟨b, o, none⟩ = some v := by
  rw [← hc]
  exact World.cell?_of_block (h.block b (World.block_lt_of_cell? _ _ hc) fun e => by omega)
theorem Since.grown {w w' : World} (h : Since w.heap.size w w') : w.grownBy w' none := ⟨h.os, h.tape, h.output, h.size, fun k hk _ => h.block k hk fun e => by omega⟩
theorem lie_nil {w : World} {S : Nat → Prop} (hz : ∀ k, S k → k < w.heap.size) : Lie w S (.slice none 0 0) [] :=
  ⟨none, 0, w.heap.size, 0, rfl, Nat.le_refl _, fun _ => rfl, fun e => by have := hz _ e; omega, fun h => by simp at h, fun j hj => by simp at hj⟩
theorem lie_new {w : World} {S : Nat → Prop} (hz : ∀ k, S k → k < w.heap.size) (c : UInt8) (x : Int) (hx : x = (c.toNat : Int)) : Lie (w.alloc (.cells #[.int .u8 x] 5)) S (.slice (some ⟨w.heap.size, 0, none⟩) 1 1) [c] :=
  ⟨_, 1, w.heap.size, 0, rfl, Nat.le_refl _, fun h => by simp at h, fun e => by have := hz _ e; omega, fun _ => rfl, fun j hj => by
    have : j = 0 := by simpa using hj
    subst this
    rw [Nat.add_zero, alloc_cell, hx]; rfl⟩
theorem inv_kM1 : Inv kM1 := by have := inv_puts inv_nil pAB (fun _ => [120]); rw [kn1] at this; exact this
theorem inv_kM2 : Inv kM2 := by have := inv_rename inv_kM1 pA pC; rw [kn3] at this; exact this
theorem lie_mark {w : World} {S : Nat → Prop} (hz : ∀ k, S k → k < w.heap.size) (c : UInt8) (x : Int) (hx : x = (c.toNat : Int)) (f : Nat × Nat) : Lie (w.alloc (.cells #[.int .u8 x] 5 f)) S (.slice (some ⟨w.heap.size, 0, none⟩) 1 1) [c] :=
  ⟨_, 1, w.heap.size, 0, rfl, Nat.le_refl _, fun h => by simp at h, fun e => by have := hz _ e; omega, fun _ => rfl, fun j hj => by
    have : j = 0 := by simpa using hj
    subst this
    rw [Nat.add_zero, World.cell?_alloc_mark, hx]; rfl⟩
theorem filesAt_any (tb : Nat) (M : Tr) (S : Nat → Prop) (w : World) (h : TreeAt w tb M S) (hI : Inv M) : Calls Tryz.prog 34 #[.pointer (some ⟨tb, 0, none⟩)] w (FilesRet w M) := by
  obtain ⟨⟨mb, X, ht, rfl, h3⟩, h4⟩ := h
  have hx : X.length ≤ 500 := by have := hI.len; rw [mapA_len] at this; exact this
  exact files_any tb mb X w ht (by omega) fun e he => by
    have := (hI.key (e.1, e.2.nd) (List.mem_map.2 ⟨e, he, rfl⟩)).2.1
    dsimp only at this; omega
set_option maxHeartbeats 8000000 in
theorem known_any (m : Int) (w : World) (hm : w.cell? ⟨0, 0, none⟩ = some (.int .i64 m)) :
    Calls Tryz.prog 11 #[] w fun e w' => e = .returned (.bool true) ∧ w.grownBy w' none := by
  have h0 : 0 < w.heap.size := World.block_lt_of_cell? _ _ hm
  have HM : Hid (∀ V, Since w.heap.size w V → V.cell? ⟨0, 0, none⟩ = some (.int .i64 m)) := Lib.hid fun V hV => hV.cell hm h0
  have H0 := Lib.hid h0
  clear hm h0
  go_enter Tryz.func11, Tryz.ntmps11
  go_wp2_with fail
  (with_reducible refine (new_any _).mono ?_)
  rintro e w1 ⟨tb, rfl, _, ht, hg⟩
  dsimp only
  have HS1 := Lib.hid (St.new ht)
  have HK1 : Hid (Since w.heap.size w w1) := Lib.hid (Since.of hg)
  clear ht hg
  have cvb := fun (W : World) (C : Array Value) (n c : Nat) => Lib.run_convert_bytes_const (P := Tryz.prog) W 31 5 C n c Tryz.underlying31 Tryz.underlying5
  have G2 : Hid (w1.grownBy (w1.alloc (.cells #[.int .u8 120] 5 (1, 2))) none) := Lib.hid (World.grownBy_alloc _ _ _)
  have HS2 := Lib.hid (HS1.out.stays G2.out)
  have HK2 : Hid (Since w.heap.size w (w1.alloc (.cells #[.int .u8 120] 5 (1, 2)))) := Lib.hid (HK1.out.go (Since.of G2.out))
  go_wp2_with fail
  (with_reducible refine (write_any tb [] _ pAB m _ 1 1 [120] _ HS2.out.tree inv_nil (HM.out _ HK2.out) (lie_mark HS1.out.tree.lt 120 120 rfl _) rfl (by omega)).mono ?_)
  rw [kn1]
  intro e w3 hp
  have hs := HS2.out.puts HK2.out.size hp
  obtain rfl := hp.1
  have HS3 := Lib.hid hs.1
  have HK3 := Lib.hid (HK2.out.go hs.2)
  clear hs hp
  dsimp only
  go_wp2_with fail
  (with_reducible refine (write_any tb kM1 _ pA m _ 0 0 [] _ HS3.out.tree inv_kM1 (HM.out _ HK3.out) (lie_nil HS3.out.tree.lt) rfl (by omega)).mono ?_)
  rw [kn2]
  intro e w4 hp
  have hs := HS3.out.puts HK3.out.size hp
  obtain rfl := hp.1
  have HS4 := Lib.hid hs.1
  have HK4 := Lib.hid (HK3.out.go hs.2)
  clear hs hp
  dsimp only
  go_wp2_with fail
  (with_reducible refine (rename_any tb kM1 _ pA pC m _ HS4.out.tree inv_kM1 (HM.out _ HK4.out)).mono ?_)
  rw [kn3]
  intro e w5 hp
  have hs := HS4.out.puts HK4.out.size hp
  obtain rfl := hp.1
  have HS5 := Lib.hid hs.1
  have HK5 := Lib.hid (HK4.out.go hs.2)
  clear hs hp
  dsimp only
  go_wp2_with fail
  (with_reducible refine (read_any tb kM2 _ pCB m _ HS5.out.tree inv_kM2 (HM.out _ HK5.out)).mono ?_)
  rw [kn4]
  rintro e w6 ⟨v, rfl, ho, hg⟩
  obtain ⟨a, c, rfl, _⟩ := ho.open (m := 1) rfl
  have HS6 := Lib.hid (HS5.out.stays hg)
  have HK6 := Lib.hid (HK5.out.go (Since.of hg))
  have hz6 : 0 < w6.heap.size := by have h1 := HK5.out.size; have h2 := hg.size; have h3 := H0.out; omega
  have HO6 := Lib.hid (ho.part hz6)
  clear hz6
  clear ho hg
  dsimp only
  go_wp2_with fail
  (with_reducible refine (filesAt_any tb kM2 _ _ HS6.out.tree inv_kM2).mono ?_)
  intro e w7 hf
  have hsz : 0 < w7.heap.size := by
    obtain ⟨_, _, _, _, _, _, _, hg⟩ := hf
    have h1 := HK6.out.size; have h2 := hg.size; have h3 := H0.out; omega
  obtain ⟨vf, Y, rfl, hr, hY, hg, hl⟩ := hf.rf hsz
  obtain ⟨b, o, af, cf, rfl, haf, hcf⟩ := hr
  have hl2 : Y.length = 2 := hl
  rw [hl2] at haf ⊢
  obtain rfl := haf (by omega)
  obtain ⟨⟨p0, g0⟩, hx0⟩ : ∃ x, Y[0]? = some x := ⟨Y[0]'(by omega), List.getElem?_eq_getElem _⟩
  have he0 : (p0, g0.nd) = (pC, dirN) := by
    have e1 : (nds Y)[0]? = some (p0, g0.nd) := by show (Y.map fun e => (e.1, e.2.nd))[0]? = _; rw [List.getElem?_map, hx0]; rfl
    rw [hY] at e1
    exact (Option.some.inj e1).symm
  obtain ⟨q1, q2, _⟩ := hcf 0 _ hx0
  dsimp only at q1 q2
  rw [(Prod.mk.inj he0).1] at q1
  rw [(Prod.mk.inj he0).2] at q2
  rw [Nat.zero_mul, Nat.add_zero] at q1 q2
  have cv : (convert 31 9 (.slice a 1 c)).run Tryz.prog w7 = .ok (.string ⟨#[120]⟩) w7 := conv_any (HO6.out.stays hg)
  have HS7 := Lib.hid (HS6.out.stays hg)
  have HK7 := Lib.hid (HK6.out.go (Since.of hg))
  clear hY hg hl hcf hl2 haf hx0 he0 hsz hf
  dsimp only
  have HE1 : Hid (∀ V, Since w.heap.size w V → ∀ S, TreeAt V tb kM2 S → Calls Tryz.prog 29 #[.pointer (some ⟨tb, 0, none⟩), .string pC] V fun e w' => e = .returned (.bool true) ∧ V.grownBy w' none) := Lib.hid fun V hV S hS => by
    rw [← kn5.1]; exact exists_any tb kM2 S pC m V hS (HM.out V hV)
  have HE2 : Hid (∀ V, Since w.heap.size w V → ∀ S, TreeAt V tb kM2 S → Calls Tryz.prog 29 #[.pointer (some ⟨tb, 0, none⟩), .string pA] V fun e w' => e = .returned (.bool false) ∧ V.grownBy w' none) := Lib.hid fun V hV S hS => by
    rw [← kn5.2.1]; exact exists_any tb kM2 S pA m V hS (HM.out V hV)
  have HSZ : Hid (∀ V S, TreeAt V tb kM2 S → Calls Tryz.prog 31 #[.pointer (some ⟨tb, 0, none⟩)] V fun e w' => e = .returned (.int .i64 1) ∧ w' = V) := Lib.hid fun V S hS => by
    have := size_any tb kM2 S V hS
    rw [kn5.2.2] at this
    exact this
  go_wp2_with fail
  (with_reducible refine (HE1.out _ HK7.out _ HS7.out.tree).mono ?_)
  rintro e w8 ⟨rfl, hg⟩
  dsimp only
  have HS8 := Lib.hid (HS7.out.stays hg)
  have HK8 := Lib.hid (HK7.out.go (Since.of hg))
  clear hg q1 q2 cv
  go_wp2_with fail
  (with_reducible refine (HE2.out _ HK8.out _ HS8.out.tree).mono ?_)
  rintro e w9 ⟨rfl, hg⟩
  dsimp only
  have HS9 := Lib.hid (HS8.out.stays hg)
  have HK9 := Lib.hid (HK8.out.go (Since.of hg))
  clear hg
  go_wp2_with fail
  (with_reducible refine (HSZ.out _ _ HS9.out.tree).mono ?_)
  rintro e w10 ⟨rfl, rfl⟩
  dsimp only
  go_wp2
  go_ret
  exact ⟨rfl, HK9.out.grown⟩
end Go.Proofs.YtichejodbohldaaGreatDoor
