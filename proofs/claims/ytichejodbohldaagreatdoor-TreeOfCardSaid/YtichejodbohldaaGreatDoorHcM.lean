/- What a copy does with each node: Copy's closure. -/
import Derived.Test.YtichejodbohldaaGreatDoorP15
namespace Go.Proofs.YtichejodbohldaaGreatDoor
open Go.RowKit Go.Maps
set_option maxRecDepth 1000000
/-- Node k is at q, too. -/
def cpyA {α : Type} (M : As α) (k q : ByteArray) : As α := match getA M k with
  | none => M
  | some n => putA M q n
/-- Copy's step. -/
abbrev cpyN (p q : ByteArray) (M : Tr) (x : ByteArray) : Tr := cpyA M x (targS p q x)
set_option maxHeartbeats 8000000 in
theorem copy1_any (tb mb b3 : Nat) (X : As Gn) (k q : ByteArray) (g : Gn) (d : Bool) (a : Option Addr) (n c : Nat) (w : World) (h : TreeIn w tb mb X) (hg : getA X k = some g) (hd : g.nd.dir = d) (hv : g.v = .slice a n c) (hk : k.size ≤ 1000) (hq : q.size ≤ 1000) (hX : X.length ≤ 100000) (hs : sizeT (nds X) ≤ 10000000) (hn : g.nd.b.length ≤ 1000000)
    (hb3 : w.heap[b3]? = some (.cells #[.pointer (some ⟨tb, 0, none⟩)] 25 (0, 0))) :
    Calls Tryz.prog 64 #[.string k, .string q, .agg #[.bool d, .slice a n c], .pointer (some ⟨b3, 0, none⟩)] w fun e w' => e = .returned (.tuple #[]) ∧ ∃ v, (∀ j, v.ownBlock = some j → w.heap.size ≤ j) ∧ TreeIn w' tb mb (putA X q ⟨g.nd, v⟩) ∧ Kept w w' (fun k => k = tb ∨ k = mb) := by
  obtain ⟨W0, hW0⟩ : ∃ W0, w.alloc (.cells #[.bool d, .slice a n c] 81) = W0 := ⟨_, rfl⟩
  obtain ⟨bx, hbx⟩ : ∃ bx, w.heap.size = bx := ⟨_, rfl⟩
  have g0 : w.grownBy W0 none := by rw [← hW0]; exact World.grownBy_alloc _ _ _
  have HBX : Hid (W0.heap[bx]? = some (.cells #[.bool d, .slice a n c] 81 (0, 0))) := Lib.hid (by rw [← hW0, ← hbx]; exact bk_alloc _ _)
  have G0 := Lib.hid g0
  have HT0 := Lib.hid (h.stays g0)
  have HB0 := Lib.hid (bk_kept hb3 g0)
  have HR : Hid (Owns W0 0 g.v g.nd.b) := Lib.hid ((h.row _ (mem_get hg)).stays g0)
  obtain ⟨a0, c0, hgv⟩ := h.slice hg
  have hnl : g.nd.b.length = n := by rw [hv] at hgv; exact (Value.slice.inj hgv).2.1.symm
  have HV := Lib.hid (And.intro hd (And.intro hv hnl))
  have G1 : Hid (W0.grownBy W0.drew none) := Lib.hid ⟨rfl, rfl, rfl, Nat.le_refl _, fun _ _ _ => rfl⟩
  have HPT : Hid (Part W0.drew W0.heap.size (.slice a n c) g.nd.b) := Lib.hid (by
    have h1 := HR.out.stays G1.out
    rw [hv] at h1
    exact h1.part (by have := bk_size HBX.out; exact Nat.lt_of_le_of_lt (Nat.zero_le _) this))
  have HSB : Hid (∀ V : World, W0.grownBy V none → V.cell? ⟨b3, 0, none⟩ = some (.pointer (some ⟨tb, 0, none⟩)) ∧ V.cell? ⟨bx, 0, none⟩ = some (.bool d) ∧ V.cell? ⟨bx, 1, none⟩ = some (.slice a n c)) := Lib.hid fun V hV => ⟨(bk_cell (bk_kept HB0.out hV) 0 _ rfl).1, (bk_cell (bk_kept HBX.out hV) 0 _ rfl).1, (bk_cell (bk_kept HBX.out hV) 1 _ rfl).1⟩
  have hbxn : ¬ (bx = tb ∨ bx = mb) := by
    rintro (e | e)
    · have := h.own_lt (.inl rfl : Own tb mb X tb); omega
    · have := h.own_lt (.inr (.inl rfl) : Own tb mb X mb); omega
  have HSK : Hid (∀ V V' : World, W0.grownBy V none → Kept V V' (fun k => k = tb ∨ k = mb) → V'.cell? ⟨b3, 0, none⟩ = some (.pointer (some ⟨tb, 0, none⟩)) ∧ V'.cell? ⟨bx, 0, none⟩ = some (.bool d) ∧ V'.cell? ⟨bx, 1, none⟩ = some (.slice a n c)) := Lib.hid fun V V' hV hK => by
    have h1 := hK.bk (bk_kept HB0.out hV) (HT0.out.boxed HB0.out)
    have h2 := hK.bk (bk_kept HBX.out hV) hbxn
    exact ⟨(bk_cell h1 0 _ rfl).1, (bk_cell h2 0 _ rfl).1, (bk_cell h2 1 _ rfl).1⟩
  have HST : Hid (∀ (V : World) (v : Value), W0.grownBy V none → Owns V 0 v g.nd.b → (∀ j, v.ownBlock = some j → W0.heap.size ≤ j) → Calls Tryz.prog 62 #[.pointer (some ⟨tb, 0, none⟩), .string q, .agg #[.bool d, v]] V fun e w' => e = .returned (.tuple #[]) ∧ TreeIn w' tb mb (putA X q ⟨g.nd, v⟩) ∧ Kept V w' (fun k => k = tb ∨ k = mb)) := Lib.hid fun V v hV ho hnew => by
    have := set_any tb mb X q ⟨g.nd, v⟩ V (HT0.out.stays hV) (by omega) (by omega) (by omega) ho (by show g.nd.b.length ≤ _; omega) fun j hj e he _ e2 => by
      have h1 := ((HT0.out.row e he).block_lt j e2).2
      have h2 := hnew j hj
      omega
    unfold Gn.val at this
    rw [hd] at this
    exact this
  rw [hnl] at hn
  clear h hg hd hv hb3 g0 hgv hnl
  go_enter Tryz.func64, Tryz.ntmps64
  go_wp2_with fail
  try rw [hW0]
  try rw [hbx]
  clear hW0 hbx hbxn
  go_region_held3 (fun V => V.cell? ⟨b3, 0, none⟩ = some (.pointer (some ⟨tb, 0, none⟩)) ∧ V.cell? ⟨bx, 0, none⟩ = some (.bool d) ∧ V.cell? ⟨bx, 1, none⟩ = some (.slice a n c)) (first | (with_reducible exact HSB.out _ G1.out) | (with_reducible exact HSB.out _ (World.grownBy.trans G1.out G34.out)) | (with_reducible exact HSK.out _ _ (World.grownBy.trans G1.out G34.out) HK5.out)) (first | ((with_reducible refine (clone_any _ n c a g.nd.b _ HV.out.2.2 hn HPT.out).mono ?_); rintro e w4 ⟨v4, rfl, ho4, hg4⟩; obtain ⟨a4, c4, rfl, _⟩ := ho4.open HV.out.2.2; have HO4 := Lib.hid ho4; have G34 := Lib.hid hg4; clear ho4 hg4) | ((with_reducible refine (HST.out _ (.slice a4 n c4) (World.grownBy.trans G1.out G34.out) (HO4.out.mono (Nat.zero_le _)) (fun j hj => Nat.le_trans G1.out.size (HO4.out.block_lt j hj).1)).mono ?_); rintro e w5 ⟨rfl, ht5, hk5⟩; have HT5 := Lib.hid ht5; have HK5 := Lib.hid hk5; clear ht5 hk5))
  go_wp2
  exact bodyPost_end (results_none rfl _ _ _) rfl ⟨rfl, .slice a4 n c4, fun j hj => Nat.le_trans G0.out.size (HO4.out.block_lt j hj).1, HT5.out, (Kept.ofNone (World.grownBy.trans G0.out (World.grownBy.trans G1.out G34.out)) _).trans HK5.out fun i e => .inl e⟩
theorem nds_cpyA (X : As Gn) (k q : ByteArray) (g : Gn) (hg : getA X k = some g) (v : Value) : nds (putA X q ⟨g.nd, v⟩) = cpyA (nds X) k q := by
  unfold cpyA
  rw [nds_get, hg, nds_put]; rfl
theorem copy_each (b3 tb mb : Nat) (p q : ByteArray) : EachOk 64 b3 tb mb p q (cpyN p q) := by
  intro V X x g d a n c ht hb hg hd hv hx hq hX hs hn
  refine (copy1_any tb mb b3 X x (targS p q x) g d a n c V ht hg hd hv hx hq hX hs hn hb).mono ?_
  rintro e V' ⟨h1, v, h4, h2, h3⟩
  refine ⟨h1, _, h2, nds_cpyA _ _ _ _ hg _, h3.mono fun i _ e => two_own e, fun j hj => ?_⟩
  rcases hj with h | h | ⟨e, he, h⟩
  · exact .inl (.inl h)
  · exact .inl (.inr (.inl h))
  · rcases mem_put he with rfl | he
    · exact .inr (h4 j h)
    · exact .inl (.inr (.inr ⟨e, he, h⟩))
end Go.Proofs.YtichejodbohldaaGreatDoor
