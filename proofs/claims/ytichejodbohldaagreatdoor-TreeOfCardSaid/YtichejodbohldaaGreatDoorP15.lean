/- Texts of one ground, in one file: Ie If Ig Ih. -/
import Derived.Test.YtichejodbohldaaGreatDoorP14
import Derived.Deep.QuietTactic
import Derived.BigQuiet
namespace Go.Proofs.YtichejodbohldaaGreatDoor
open Go.RowKit Go.Maps
set_option maxRecDepth 1000000
/-- v is the files Y, wherever they lie. -/
def RF (w : World) (v : Value) (Y : As Gn) : Prop := ∃ b o a c, v = .slice a Y.length c ∧ (0 < Y.length → a = some ⟨b, o, none⟩) ∧ ∀ j e, Y[j]? = some e →
  (w.cell? ⟨b, o + j * 3, none⟩ = some (.string e.1) ∧ w.cell? ⟨b, o + j * 3 + 1, none⟩ = some (.bool e.2.nd.dir) ∧ w.cell? ⟨b, o + j * 3 + 2, none⟩ = some e.2.v ∧ (∃ a c, e.2.v = .slice a e.2.nd.b.length c) ∧ ∃ B, Part w B e.2.v e.2.nd.b)
theorem conv_any {w : World} {B : Nat} {v : Value} {L : List UInt8} (h : Part w B v L) : (convert 31 9 v).run Tryz.prog w = .ok (.string ⟨L.toArray⟩) w := by
  by_cases hl : 0 < L.length
  · exact conv_part h hl
  · obtain ⟨a, cap, b, o, rfl, _⟩ := h
    have e : L = [] := List.eq_nil_of_length_eq_zero (by omega)
    subst e
    show (convert 31 9 (.slice a 0 cap)).run Tryz.prog w = .ok (.string ⟨#[]⟩) w
    cases a <;> kernel_rfl
set_option maxHeartbeats 8000000 in
theorem sameFiles_any (v1 v2 : Value) (Y1 Y2 : As Gn) (w : World) (h1 : RF w v1 Y1) (h2 : RF w v2 Y2) (he : nds Y1 = nds Y2) (hn : Y1.length ≤ 1000000) :
    Calls Tryz.prog 33 #[v1, v2] w fun e w' => e = .returned (.bool true) ∧ w.grownBy w' none := by
  have hl : Y2.length = Y1.length := by
    have := congrArg List.length he
    rw [mapA_len, mapA_len] at this
    exact this.symm
  obtain ⟨b1, o1, a1, c1, rfl, ha1, hc1⟩ := h1
  obtain ⟨b2, o2, a2, c2, rfl, ha2, hc2⟩ := h2
  rw [hl] at ha2 ⊢
  obtain ⟨n, hn'⟩ : ∃ n, Y1.length = n := ⟨_, rfl⟩
  rw [hn'] at ha1 ha2 hl hn ⊢
  have H1 := Lib.hid hc1
  have H2 := Lib.hid hc2
  have HA := Lib.hid (And.intro ha1 ha2)
  have HL := Lib.hid (And.intro hn' hl)
  have HE := Lib.hid he
  clear hc1 hc2 ha1 ha2 hl hn' he
  go_enter Tryz.func33, Tryz.ntmps33
  go_wp2_with fail
  go_loopw [5] (fun i wr => ∃ j : Nat, j ≤ n ∧ i = .int .i64 (j : Int) ∧ Hid (w.grownBy wr none)) (fun i _ => n - (intOf i).toNat)
  case atStart => exact ⟨0, Nat.zero_le _, rfl, Lib.hid (World.grownBy.refl _ _)⟩
  case round =>
    obtain ⟨j, hj, rfl, HG⟩ := hrel
    by_cases hjn : j < n
    · obtain ⟨⟨p, g1⟩, hx1⟩ : ∃ x, Y1[j]? = some x := ⟨Y1[j]'(by rw [HL.out.1]; exact hjn), List.getElem?_eq_getElem _⟩
      obtain ⟨⟨p2, g2⟩, hx2⟩ : ∃ x, Y2[j]? = some x := ⟨Y2[j]'(by rw [HL.out.2]; exact hjn), List.getElem?_eq_getElem _⟩
      have hee : (p, g1.nd) = (p2, g2.nd) := by
        have e1 : (nds Y1)[j]? = some (p, g1.nd) := by show (Y1.map fun e => (e.1, e.2.nd))[j]? = _; rw [List.getElem?_map, hx1]; rfl
        have e2 : (nds Y2)[j]? = some (p2, g2.nd) := by show (Y2.map fun e => (e.1, e.2.nd))[j]? = _; rw [List.getElem?_map, hx2]; rfl
        rw [HE.out, e2] at e1
        exact (Option.some.inj e1).symm
      obtain ⟨rfl, hnd⟩ := Prod.mk.inj hee
      obtain ⟨q1, q2, q3, ⟨x1, y1, q4⟩, B1, q5⟩ := H1.out j _ hx1
      obtain ⟨r1, r2, r3, ⟨x2, y2, r4⟩, B2, r5⟩ := H2.out j _ hx2
      obtain rfl := HA.out.1 (by omega)
      obtain rfl := HA.out.2 (by omega)
      dsimp only at *
      rw [← hnd] at r2 r4 r5
      obtain ⟨d, hd⟩ : ∃ d, g1.nd.dir = d := ⟨_, rfl⟩
      obtain ⟨L, hLL⟩ : ∃ L, g1.nd.b = L := ⟨_, rfl⟩
      obtain ⟨m, hm⟩ : ∃ m, L.length = m := ⟨_, rfl⟩
      rw [hd] at q2 r2
      rw [hLL, hm] at q4 r4
      rw [hLL] at q5 r5
      rw [q4] at q3 q5
      rw [r4] at r3 r5
      clear q4 r4 hd hLL hm hnd hx1 hx2 hee
      have GD : Hid (w.grownBy wr.drew none) := Lib.hid (World.grownBy.trans HG.out ⟨rfl, rfl, rfl, Nat.le_refl _, fun _ _ _ => rfl⟩)
      have g1c := HG.out
      have cv1 := fun V (hV : w.grownBy V none) => conv_any (q5.stays hV)
      have cv2 := fun V (hV : w.grownBy V none) => conv_any (r5.stays hV)
      have C1 := Lib.hid cv1
      have C2 := Lib.hid cv2
      have s1 := g1c.cell q1 (by simp)
      have s2 := g1c.cell q2 (by simp)
      have s3 := g1c.cell q3 (by simp)
      have t1 := g1c.cell r1 (by simp)
      have t2 := g1c.cell r2 (by simp)
      have t3 := g1c.cell r3 (by simp)
      have j0 : (0 : Int) ≤ (j : Int) := by omega
      have u1 : ∀ k, (convert 31 9 (.slice x1 m y1)).run Tryz.prog (wr.drewN k) = .ok (.string ⟨L.toArray⟩) (wr.drewN k) := fun k => C1.out _ (grown_drew k HG.out)
      have u2 : ∀ k, (convert 31 9 (.slice x2 m y2)).run Tryz.prog (wr.drewN k) = .ok (.string ⟨L.toArray⟩) (wr.drewN k) := fun k => C2.out _ (grown_drew k HG.out)
      clear q1 q2 q3 q5 r1 r2 r3 r5 cv1 cv2 g1c
      go_wp2_with fail
      go_quiet (fail)
      clear s1 s2 s3 t1 t2 t3 u1 u2
      go_wp2_with fail
      go_roundw
      case rel => exact ⟨j + 1, by omega, by go_num, Lib.hid (grown_drew nq HG.out)⟩
      case measure => simp [intOf]; omega
    · have hjn' : j = n := by omega
      go_wp2
      go_ret
      exact ⟨rfl, HG.out⟩
theorem OwnsF.rf {w : World} {base n c : Nat} {a : Option Addr} {Y : As Gn} (h : OwnsF w base (.slice a n c) Y) (hn : Y.length = n) (he : ∀ e ∈ Y, (∃ a c, e.2.v = .slice a e.2.nd.b.length c) ∧ ∃ B, Part w B e.2.v e.2.nd.b) : RF w (.slice a n c) Y := by
  rcases h.2 with ⟨h1, h2⟩ | ⟨g, cap, cur, h1, h2, h3, h4, h5, h6, h7⟩
  · refine ⟨0, 0, a, c, by rw [hn], fun h => by omega, fun j e hj => ?_⟩
    have := (List.getElem?_eq_some_iff.1 hj).1; omega
  · refine ⟨g, 0, a, c, by rw [hn], fun _ => (Value.slice.inj h1).1, fun j e hj => ?_⟩
    obtain ⟨⟨a2, c2, hv⟩, hp⟩ := he e (List.mem_of_getElem? hj)
    have hj1 := (List.getElem?_eq_some_iff.1 hj).1
    have hc : ∀ i, i < 3 → w.cell? ⟨g, 0 + j * 3 + i, none⟩ = (fileC e)[i]? := by
      intro i hi
      rw [cell_in h3, Nat.zero_add, ← filesC_at Y j i e hj hi, ← h7, List.getElem?_take, if_pos (by omega), Array.getElem?_toList]
    refine ⟨hc 0 (by omega), hc 1 (by omega), ?_, ⟨a2, c2, hv⟩, hp⟩
    have := hc 2 (by omega)
    rw [this, hv]
    show some (fixV e.2.v) = _
    rw [hv]; rfl
theorem RF.stays {w w' : World} {v : Value} {Y : As Gn} (h : RF w v Y) (hg : w.grownBy w' none) : RF w' v Y := by
  obtain ⟨b, o, a, c, h1, h2, h3⟩ := h
  refine ⟨b, o, a, c, h1, h2, fun j e hj => ?_⟩
  obtain ⟨q1, q2, q3, q4, B, q5⟩ := h3 j e hj
  exact ⟨hg.cell q1 (by simp), hg.cell q2 (by simp), hg.cell q3 (by simp), q4, B, q5.stays hg⟩
/-- What Files tells may be read. -/
theorem FilesRet.rf {w w' : World} {M : Tr} {e : Ending} (h : FilesRet w M e w') (hw : 0 < w'.heap.size) : ∃ v Y, e = .returned v ∧ RF w' v Y ∧ nds Y = M ∧ w.grownBy w' none ∧ Y.length = M.length := by
  obtain ⟨a, c, Y, h1, h2, h3, h4, h5⟩ := h
  refine ⟨_, Y, h1, h2.rf rfl fun e he => ⟨(h4 e he).1, _, ((h4 e he).2).part hw⟩, h3, h5, by rw [← h3, mapA_len]⟩
end Go.Proofs.YtichejodbohldaaGreatDoor
namespace Go.Proofs.YtichejodbohldaaGreatDoor
open Go.RowKit
abbrev pA : ByteArray := ⟨#[97]⟩
abbrev pC : ByteArray := ⟨#[99]⟩
abbrev pAB : ByteArray := ⟨#[97, 47, 98]⟩
abbrev pCB : ByteArray := ⟨#[99, 47, 98]⟩
abbrev kM1 : Tr := [(pA, dirN), (pAB, ⟨false, [120]⟩)]
abbrev kM2 : Tr := [(pC, dirN), (pCB, ⟨false, [120]⟩)]
theorem kn1 : putS [] pAB (fun _ => [120]) = (0, kM1) := by decide +kernel
theorem kn2 : putS kM1 pA (fun _ => []) = (54, kM1) := by decide +kernel
theorem kn3 : renameS kM1 pA pC = (0, kM2) := by decide +kernel
theorem kn4 : readS kM2 pCB = ([120], 0) := by decide +kernel
theorem kn5 : existsS kM2 pC = true ∧ existsS kM2 pA = false ∧ sizeT kM2 = 1 := by decide +kernel
end Go.Proofs.YtichejodbohldaaGreatDoor
namespace Go.Proofs.YtichejodbohldaaGreatDoor
open Go.RowKit
/-- What is below a path, and what it is below another. -/
theorem below_ways {y p : ByteArray} (hp : ¬ p = E0) (h : Pth.withinS y p = true) : ∃ r, y = p ++ r ∧ ∀ q, targS p q y = q ++ r := by
  rw [within_iff] at h
  rcases h with h | rfl | ⟨z, rfl⟩
  · exact absurd h hp
  · refine ⟨E0, bytes_ext (by rw [cat_data]; simp), fun q => ?_⟩
    unfold targS
    apply bytes_ext
    rw [cat_data, cat_data]
    simp
  · refine ⟨sl ++ z, by rw [ByteArray.append_assoc], fun q => ?_⟩
    unfold targS
    have e : (p ++ sl ++ z).extract p.size (p ++ sl ++ z).size = sl ++ z := by
      rw [ByteArray.append_assoc]; exact Pth.extract_right _ _
    rw [e]
theorem cat_cancel {a b c : ByteArray} (h : a ++ b = a ++ c) : b = c := by
  have := congrArg (fun x : ByteArray => x.data.toList) h
  simp only [cat_data] at this
  exact bytes_ext (List.append_cancel_left this)
theorem targ_inj {p q y z : ByteArray} (hp : ¬ p = E0) (hy : Pth.withinS y p = true) (hz : Pth.withinS z p = true) (h : targS p q y = targS p q z) : y = z := by
  obtain ⟨r, e1, e2⟩ := below_ways hp hy
  obtain ⟨s, e3, e4⟩ := below_ways hp hz
  rw [e2, e4] at h
  rw [e1, e3, cat_cancel h]
def memB (ks : List ByteArray) (x : ByteArray) : Bool := ks.any fun y => decide (y = x)
theorem memB_iff (ks : List ByteArray) (x : ByteArray) : memB ks x = true ↔ x ∈ ks := by
  unfold memB
  rw [List.any_eq_true]
  constructor
  · rintro ⟨y, hy, h⟩; simp at h; exact h ▸ hy
  · intro h; exact ⟨x, h, by simp⟩
/-- What a move leaves at a path. -/
def renAt (p q : ByteArray) (M : Tr) (ks : List ByteArray) (x : ByteArray) : Option Nd := match ks.find? fun y => decide (targS p q y = x) with
  | some y => getA M y
  | none => if memB ks x = true then none else getA M x
theorem ren_at {p q x : ByteArray} : ∀ (ks : List ByteArray) (M : Tr), ks.Nodup → (∀ y ∈ ks, ∀ z ∈ ks, ¬ targS p q y = z) → (∀ y ∈ ks, ∀ z ∈ ks, targS p q y = targS p q z → y = z) → (∀ y ∈ ks, (getA M y).isSome = true) →
    getA (doneN (renN p q) M ks) x = renAt p q M ks x
  | [], M, _, _, _, _ => by unfold renAt; simp [doneN, memB]
  | k :: r, M, hn, h1, h2, h3 => by
    obtain ⟨n, hk⟩ := Option.isSome_iff_exists.1 (h3 k List.mem_cons_self)
    have hM1 : movA M k (targS p q k) = putA (delA M k) (targS p q k) n := by unfold movA; rw [hk]
    have hkr : k ∉ r := (List.nodup_cons.1 hn).1
    have hget : ∀ y, y ∈ r → getA (movA M k (targS p q k)) y = getA M y := fun y hy => movA_get _ _ _ (by rintro rfl; exact hkr hy) (h1 k List.mem_cons_self y (List.mem_cons_of_mem _ hy))
    have ih := ren_at (x := x) r (movA M k (targS p q k)) (List.nodup_cons.1 hn).2 (fun y hy z hz => h1 y (List.mem_cons_of_mem _ hy) z (List.mem_cons_of_mem _ hz)) (fun y hy z hz => h2 y (List.mem_cons_of_mem _ hy) z (List.mem_cons_of_mem _ hz)) (fun y hy => by rw [hget y hy]; exact h3 y (List.mem_cons_of_mem _ hy))
    show getA (doneN (renN p q) (movA M k (targS p q k)) r) x = _
    rw [ih]
    unfold renAt
    rw [List.find?_cons]
    cases hf : r.find? fun y => decide (targS p q y = x) with
    | some y =>
      have hy := List.mem_of_find?_eq_some hf
      have hyx : targS p q y = x := by simpa using List.find?_some hf
      have hkx : ¬ targS p q k = x := by
        intro e
        have := h2 k List.mem_cons_self y (List.mem_cons_of_mem _ hy) (by rw [e, hyx])
        subst this; exact hkr hy
      simp only [hkx, decide_false]
      exact hget y hy
    | none =>
      by_cases hkx : targS p q k = x
      · subst hkx
        simp only [decide_true]
        rw [if_neg (fun hm => h1 k List.mem_cons_self _ (List.mem_cons_of_mem _ ((memB_iff _ _).1 hm)) rfl), hM1, getA_put_same, hk]
      · simp only [hkx, decide_false]
        by_cases hx : x = k
        · subst hx
          rw [if_neg (fun hm => hkr ((memB_iff _ _).1 hm)), if_pos ((memB_iff _ _).2 List.mem_cons_self), hM1, getA_put_other _ _ _ _ hkx, getA_del, if_pos rfl]
        · have : memB (k :: r) x = memB r x := by unfold memB; rw [List.any_cons, decide_eq_false (fun e => hx e.symm), Bool.false_or]
          rw [this]
          split
          · rfl
          · rw [hM1, getA_put_other _ _ _ _ hkx, getA_del, if_neg (fun e => hx e.symm)]
theorem Mov.pne {M : Tr} {p q : ByteArray} {Lp L : List ByteArray} {k : Nat} (h : Mov M p q Lp L k) : ¬ p = E0 := by
  intro e
  have : Pth.withinS q p = true := (within_iff _ _).2 (.inl e)
  rw [h.nw] at this; cases this
theorem Mov.at {M : Tr} {p q : ByteArray} {Lp L : List ByteArray} {k : Nat} (h : Mov M p q Lp L k) (x : ByteArray) : getA (doneN (renN p q) (mkN M L k) (wkeys M p)) x = renAt p q (mkN M L k) (wkeys M p) x := by
  refine ren_at _ _ (wkeys_nodup h.inv.asc p) (fun y hy z hz e => ?_) (fun y hy z hz => targ_inj h.pne (wkeys_mem hy).1 (wkeys_mem hz).1) fun y hy => ?_
  · have := targ_out h.inv h.pp h.pq h.ep h.eq h.hp h.nw h.hq (wkeys_mem hy).1
    rw [e, (wkeys_mem hz).1] at this; cases this
  · rw [h.mkget (wkeys_mem hy).1]
    obtain ⟨n, hn⟩ := (wkeys_mem hy).2
    rw [h.inv.asc.get hn]; rfl
theorem mem_wkeys {M : Tr} {p x : ByteArray} {n : Nd} (h : getA M x = some n) (hw : Pth.withinS x p = true) : x ∈ wkeys M p := by
  unfold wkeys
  exact List.mem_map.2 ⟨(x, n), List.mem_filter.2 ⟨mem_get h, by simpa using hw⟩, rfl⟩
/-- What stands at a path behind a move: three ways. -/
theorem Mov.ways {M : Tr} {p q : ByteArray} {Lp L : List ByteArray} {k : Nat} (h : Mov M p q Lp L k) (x : ByteArray) (n : Nd) (hn : getA (doneN (renN p q) (mkN M L k) (wkeys M p)) x = some n) :
    (∃ y, y ∈ wkeys M p ∧ x = targS p q y ∧ getA M y = some n) ∨ ((∀ y ∈ wkeys M p, ¬ targS p q y = x) ∧ x ∉ wkeys M p ∧ getA (mkN M L k) x = some n) := by
  rw [h.at] at hn
  unfold renAt at hn
  split at hn
  · rename_i y hf
    have hy := List.mem_of_find?_eq_some hf
    left
    refine ⟨y, hy, ?_, ?_⟩
    · have := List.find?_some hf; simp at this; exact this.symm
    · rw [← h.mkget (wkeys_mem hy).1]; exact hn
  · rename_i hf
    right
    split at hn
    · cases hn
    · rename_i hx
      refine ⟨fun y hy => ?_, fun hm => hx ((memB_iff _ _).2 hm), hn⟩
      have := List.find?_eq_none.1 hf y hy
      simpa using this
theorem Mov.goes {M : Tr} {p q : ByteArray} {Lp L : List ByteArray} {k : Nat} (h : Mov M p q Lp L k) (y : ByteArray) (n : Nd) (hy : getA M y = some n) (hw : Pth.withinS y p = true) : getA (doneN (renN p q) (mkN M L k) (wkeys M p)) (targS p q y) = some n := by
  have hm := mem_wkeys hy hw
  rw [h.at]
  unfold renAt
  cases hf : (wkeys M p).find? fun z => decide (targS p q z = targS p q y) with
  | none => have := List.find?_eq_none.1 hf y hm; simp at this
  | some z =>
    have hz := List.mem_of_find?_eq_some hf
    have e : targS p q z = targS p q y := by simpa using List.find?_some hf
    have := targ_inj h.pne (wkeys_mem hz).1 hw e
    subst this
    simp only
    rw [h.mkget hw, hy]
theorem Mov.stays {M : Tr} {p q : ByteArray} {Lp L : List ByteArray} {k : Nat} (h : Mov M p q Lp L k) (x : ByteArray) (n : Nd) (hx : getA (mkN M L k) x = some n) (h1 : ∀ y ∈ wkeys M p, ¬ targS p q y = x) (h2 : x ∉ wkeys M p) : getA (doneN (renN p q) (mkN M L k) (wkeys M p)) x = some n := by
  rw [h.at]
  unfold renAt
  cases hf : (wkeys M p).find? fun z => decide (targS p q z = x) with
  | some z => exact absurd (by simpa using List.find?_some hf) (h1 z (List.mem_of_find?_eq_some hf))
  | none => simp only; rw [if_neg (fun hm => h2 ((memB_iff _ _).1 hm)), hx]
/-- The parts of a target. -/
theorem Mov.parts {M : Tr} {p q : ByteArray} {Lp L : List ByteArray} {k : Nat} (h : Mov M p q Lp L k) {y : ByteArray} (hy : y ∈ wkeys M p) : ∃ R, (∀ r ∈ R, Pth.Part r) ∧ Parts (Lp ++ R) ∧ y = Pth.joinB (Lp ++ R) ∧ targS p q y = Pth.joinB (L ++ R) := by
  obtain ⟨hw, n, hn⟩ := wkeys_mem hy
  obtain ⟨⟨Ly, j, ey, hLy, _⟩, _⟩ := h.inv.key _ hn
  dsimp only at ey
  have hLp : Lp ≠ [] := by rintro rfl; exact h.pne h.ep.symm
  have hL : L ≠ [] := by intro e; have := h.len; rw [e] at this; cases this
  have hw2 := hw
  rw [within_iff] at hw2
  rcases hw2 with h0 | rfl | ⟨z, hz⟩
  · exact absurd h0 h.pne
  · refine ⟨[], (fun r hr => by cases hr), ?_, ?_, ?_⟩
    · rw [List.append_nil]; exact h.pp
    · rw [List.append_nil]; exact h.ep.symm
    · rw [List.append_nil, h.eq]
      unfold targS
      apply bytes_ext
      simp
  · have h1 := Pth.pieces_join Ly (by rintro rfl; have := congrArg ByteArray.size (ey.symm.trans hz); rw [ByteArray.size_append, ByteArray.size_append] at this; have e : (Pth.joinB []).size = 0 := rfl; have e2 : sl.size = 1 := rfl; omega) fun p hm => (hLy.part p hm).ns
    have h2 := Pth.pieces_join Lp hLp fun p hm => (h.pp.part p hm).ns
    have h3 : Pth.pieces (p ++ sl ++ z) = Pth.pieces p ++ Pth.pieces z := pieces_app 47 _ _
    rw [← h.ep] at h3
    rw [h.ep, ← hz, ey, h1, ← h.ep, h2] at h3
    have hR : Pth.pieces z ≠ [] := fun e => by have := Pth.pieces_len z; rw [e] at this; simp at this
    have ez : Pth.joinB (Pth.pieces z) = z := Pth.joinB_pieces z
    refine ⟨Pth.pieces z, fun r hr => hLy.part r (by rw [h3]; exact List.mem_append_right _ hr), by rw [← h3]; exact hLy, by rw [← h3]; exact ey, ?_⟩
    rw [Pth.joinB_app L _ hL hR, h.eq, ez, hz]
    unfold targS
    have e : (p ++ sl ++ z).extract p.size (p ++ sl ++ z).size = sl ++ z := by
      rw [ByteArray.append_assoc]; exact Pth.extract_right _ _
    rw [e, ByteArray.append_assoc]
theorem clean_parts (N : List ByteArray) (h : ∀ p ∈ N, Pth.Part p) (h0 : N ≠ []) (hc : (Pth.cleanS (Pth.joinB N)).2 = 0) : Parts N := by
  cases N with
  | nil => exact absurd rfl h0
  | cons p r =>
    have hp := Pth.pieces_join (p :: r) (by simp) fun q hq => (h q hq).ns
    unfold Pth.cleanS Pth.walkS at hc
    rw [Pth.joinB_head p r (h p (by simp)), hp, show ([] : List ByteArray).length = 0 from rfl, Pth.walkL_parts 0 _ _ h] at hc
    simp only [List.nil_append] at hc
    split at hc
    · simp at hc
    · rename_i h1
      rw [if_neg (by simp), if_neg (by simp)] at hc
      split at hc
      · simp at hc
      · rename_i h2
        exact ⟨h, by omega, by omega⟩
end Go.Proofs.YtichejodbohldaaGreatDoor
namespace Go.Proofs.YtichejodbohldaaGreatDoor
open Go.RowKit
theorem upL_left (A B : List ByteArray) (i : Nat) (h : i ≤ A.length) : upL (A ++ B) i = upL A i := by
  unfold upL; rw [List.take_append_of_le_length h]
theorem upL_right (A B : List ByteArray) (i : Nat) : upL (A ++ B) (A.length + i) = Pth.joinB (A ++ B.take i) := by
  unfold upL
  rw [List.take_append, List.take_of_length_le (Nat.le_add_right _ _), Nat.add_sub_cancel_left]
theorem Mov.targ_size {M : Tr} {p q : ByteArray} {Lp L : List ByteArray} {k : Nat} (h : Mov M p q Lp L k) {y : ByteArray} (hy : Pth.withinS y p = true) : q.size ≤ (targS p q y).size := by
  obtain ⟨r, _, e⟩ := below_ways h.pne hy
  rw [e, ByteArray.size_append]; omega
theorem Mov.q_up {M : Tr} {p q : ByteArray} {Lp L : List ByteArray} {k : Nat} (h : Mov M p q Lp L k) : upL L (k + 1) = q := by rw [← h.len, upL_all, h.eq]
/-- Nothing stands at or below where it goes. -/
theorem Mov.none_below {M : Tr} {p q : ByteArray} {Lp L : List ByteArray} {k : Nat} (h : Mov M p q Lp L k) (L' : List ByteArray) (j t : Nat) (hL' : Parts L') (ht : 0 < t) (htj : t ≤ j) (hj : j ≤ L'.length) (hs : (getA (mkN M L k) (upL L' j)).isSome = true) (e : upL L' t = q) : False := by
  have hlen := h.len
  obtain ⟨n, hn⟩ := Option.isSome_iff_exists.1 hs
  rcases mk_mem k M _ (mem_get hn) with hm | ⟨i0, h1, h2, h3⟩
  · have hq : hasT M q = true := by
      by_cases htj2 : t = j
      · unfold hasT
        rw [← e, htj2, h.inv.asc.get hm]; rfl
      · obtain ⟨n2, hn2, _⟩ := h.inv.up L' t j hL' (by omega) hj ht (by rw [h.inv.asc.get hm]; rfl)
        unfold hasT
        rw [← e, hn2]; rfl
    rw [h.hq] at hq; cases hq
  · have e1 := (Prod.mk.inj h3).1
    have s1 := hL'.mono (j - t) t (by omega)
    rw [show t + (j - t) = j by omega, e, e1] at s1
    have s2 := h.pq.step i0 (by omega)
    have s3 := h.pq.mono (k + 1 - (i0 + 1)) (i0 + 1) (by omega)
    rw [show i0 + 1 + (k + 1 - (i0 + 1)) = k + 1 by omega, h.q_up] at s3
    omega
theorem inv_move {M : Tr} {p q : ByteArray} {Lp L : List ByteArray} {k : Nat} (h : Mov M p q Lp L k) (hf : fileN M L (k + 1) = false) (ht : targsOk (wkeys M p) p q = true) (hr : M.length + lackN M L k ≤ 500) : Inv (doneN (renN p q) (mkN M L k) (wkeys M p)) := by
  have hlen := h.len
  have hA := mkN_asc L k M h.inv.asc
  have hl := mkN_len h.pq k M h.inv.asc (by omega)
  have hsz := mkN_size L k M h.inv.asc
  have hL0 : L ≠ [] := by intro e; rw [e] at hlen; cases hlen
  have hasc := ren_asc (p := p) (q := q) (wkeys M p) _ hA
  have hpT : ∀ {y : ByteArray} {R : List ByteArray}, y ∈ wkeys M p → (∀ r ∈ R, Pth.Part r) → targS p q y = Pth.joinB (L ++ R) → Parts (L ++ R) := by
    intro y R hy hR e
    refine clean_parts (L ++ R) (fun r hr => ?_) (by simp [hL0]) ?_
    · rcases List.mem_append.1 hr with hr | hr
      · exact h.pq.part r hr
      · exact hR r hr
    · rw [← e]
      have := List.all_eq_true.1 ht y hy
      simpa using this
  refine ⟨hasc, by have := ren_len (p := p) (q := q) (wkeys M p) _ hA; omega, by have := ren_size (p := p) (q := q) (wkeys M p) _ hA; have := h.inv.size; omega, fun e he => ?_, fun L' i j hL' hij hj hi hs => ?_⟩
  · have hg := hasc.get (p := e.1) (x := e.2) he
    rcases h.ways e.1 e.2 hg with ⟨y, hy, hx, hn⟩ | ⟨_, _, hn⟩
    · obtain ⟨R, hR, _, _, eT⟩ := h.parts hy
      have hk := h.inv.key (y, e.2) (mem_get hn)
      refine ⟨⟨L ++ R, k + R.length, by rw [hx, eT], hpT hy hR eT, by rw [List.length_append, hlen]; omega⟩, hk.2⟩
    · rcases mk_mem k M _ (mem_get hn) with hm | ⟨i, h1, h2, h3⟩
      · exact h.inv.key e hm
      · obtain ⟨e1, e2⟩ := Prod.mk.inj h3
        rw [e1, e2]
        exact ⟨key_up h.pq i h1 (by omega), Nat.zero_le _, fun _ => rfl⟩
  · obtain ⟨n, hn⟩ := Option.isSome_iff_exists.1 hs
    have hdirs : ∀ t, 1 ≤ t → t ≤ k → ∃ n, getA (doneN (renN p q) (mkN M L k) (wkeys M p)) (upL L t) = some n ∧ n.dir = true := by
      intro t h1 h2
      obtain ⟨n, hn, hd⟩ := mk_dirs h.inv h.pq k (by omega) hf t h1 h2
      refine ⟨n, h.stays _ n hn (fun y hy e => ?_) (fun hm => h.up (wkeys_mem hm).1 t h1 h2 rfl), hd⟩
      have s1 := h.targ_size (wkeys_mem hy).1
      rw [e] at s1
      have s2 := h.pq.step t (by omega)
      have s3 := h.pq.mono (k + 1 - (t + 1)) (t + 1) (by omega)
      rw [show t + 1 + (k + 1 - (t + 1)) = k + 1 by omega, h.q_up] at s3
      omega
    rcases h.ways _ n hn with ⟨y, hy, hx, hny⟩ | ⟨hnt, hnk, hnm⟩
    · obtain ⟨R, hR, hPy, ey, eT⟩ := h.parts hy
      have hPT := hpT hy hR eT
      have hPl : (L ++ R).length = k + 1 + R.length := by rw [List.length_append, hlen]
      rw [eT, ← upL_all (L ++ R)] at hx
      obtain ⟨e1, e2⟩ := upL_inj hL' hPT (by omega) (by rw [hPl]; omega) hj (Nat.le_refl _) hx
      rw [e2 i (by omega)]
      by_cases hik : i ≤ k
      · rw [upL_left L R i (by omega)]
        exact hdirs i hi hik
      · -- a directory on the way, below where it went
        obtain ⟨t, rfl⟩ : ∃ t, i = L.length + t := ⟨i - L.length, by omega⟩
        have hRt : t < R.length := by omega
        rw [upL_right]
        have hLp : Lp ≠ [] := by rintro rfl; exact h.pne h.ep.symm
        have hyu : y = upL (Lp ++ R) (Lp.length + R.length) := by rw [← List.length_append, upL_all]; exact ey
        obtain ⟨n2, hn2, hd2⟩ := h.inv.up (Lp ++ R) (Lp.length + t) (Lp.length + R.length) hPy (by omega) (by rw [List.length_append]; exact Nat.le_refl _) (by have := List.length_pos_iff.2 hLp; omega) (by rw [← hyu, hny]; rfl)
        rw [upL_right] at hn2
        have hw2 : Pth.withinS (Pth.joinB (Lp ++ R.take t)) p = true := by
          rw [within_iff]
          by_cases h0 : R.take t = []
          · rw [h0, List.append_nil, h.ep]; exact .inr (.inl rfl)
          · rw [Pth.joinB_app Lp _ hLp h0, h.ep]; exact .inr (.inr ⟨_, rfl⟩)
        have hg := h.goes _ n2 hn2 hw2
        have eT2 : targS p q (Pth.joinB (Lp ++ R.take t)) = Pth.joinB (L ++ R.take t) := by
          obtain ⟨r, e3, e4⟩ := below_ways h.pne hw2
          rw [e4]
          by_cases h0 : R.take t = []
          · rw [h0, List.append_nil] at e3 ⊢
            rw [h.ep] at e3
            have : r = E0 := by
              have := congrArg ByteArray.size e3
              rw [ByteArray.size_append] at this
              exact empty_size (by omega)
            rw [this, h.eq]
            apply bytes_ext
            rw [cat_data]; simp
          · rw [Pth.joinB_app Lp _ hLp h0, h.ep, ByteArray.append_assoc] at e3
            rw [← cat_cancel e3, Pth.joinB_app L _ hL0 h0, h.eq, ByteArray.append_assoc]
        rw [eT2] at hg
        exact ⟨n2, hg, hd2⟩
    · obtain ⟨n2, hn2, hd2⟩ := mk_up h.inv h.pq k (by omega) hf L' i j hL' hij hj hi (by rw [hnm]; rfl)
      refine ⟨n2, h.stays _ n2 hn2 (fun y hy e => ?_) (fun hm => ?_), hd2⟩
      · -- it is no target: where it goes there was nothing
        obtain ⟨R, hR, _, _, eT⟩ := h.parts hy
        have hPT := hpT hy hR eT
        rw [eT, ← upL_all (L ++ R)] at e
        have hPl : (L ++ R).length = k + 1 + R.length := by rw [List.length_append, hlen]
        obtain ⟨e1, e2⟩ := upL_inj hPT hL' (by omega) hi (Nat.le_refl _) (by omega) e
        refine h.none_below L' j (k + 1) hL' (by omega) (by omega) hj (by rw [hnm]; rfl) ?_
        rw [← e2 (k + 1) (by omega), upL_left L R (k + 1) (by omega), h.q_up]
      · -- it is none of those that go: else what is below it went, too
        have hw := within_up (L := L') (p := p) i j hi (by omega) hj (wkeys_mem hm).1
        rw [h.mkget hw] at hnm
        exact hnk (mem_wkeys hnm hw)
theorem inv_rename {M : Tr} (hI : Inv M) (s t : ByteArray) : Inv (renameS M s t).2 := by
  unfold renameS
  split
  · exact hI
  · rename_i hp
    split
    · rename_i hr
      have hp : planE M s t = 0 := by simpa using hp
      unfold planE at hp
      split at hp
      · rename_i hc; exact absurd hp hc
      · rename_i hc1
        split at hp
        · rename_i hc; exact absurd hp hc
        · rename_i hc2
          rcases clean_ways s with ⟨Lp, e1, hLp⟩ | ⟨q1, e1, hq1, _, _⟩
          · rcases clean_ways t with ⟨L, e2, hL⟩ | ⟨q2, e2, hq2, _, _⟩
            · rw [e1, e2] at hp
              rw [e1, e2]
              rw [e2] at hr
              simp only at hp hr ⊢
              have hpt : Pth.partsS (Pth.joinB L) = L := Pth.parts_join L hL.part
              rw [hpt] at hp hr ⊢
              split at hp
              · cases hp
              · rename_i hf
                split at hp
                · cases hp
                · rename_i hw
                  split at hp
                  · cases hp
                  · rename_i hq
                    split at hp
                    · cases hp
                    · rename_i ha
                      split at hp
                      · rename_i htg
                        obtain ⟨k, hk⟩ : ∃ k, L.length = k + 1 := by
                          cases L with
                          | nil => exact absurd (by unfold hasT; rw [Pth.joinB_nil]; simp; exact .inr rfl) hq
                          | cons x r => exact ⟨r.length, rfl⟩
                        rw [show L.length - 1 = k by omega] at hr ⊢
                        unfold aheadT at ha
                        rw [hk] at ha
                        exact inv_move ⟨hI, hLp, hL, rfl, rfl, hk, by simpa using hf, by simpa using hw, by simpa using hq⟩ (by simpa using ha) htg (by simpa using hr)
                      · cases hp
            · rw [e2] at hc2; exact absurd hq2 hc2
          · rw [e1] at hc1; exact absurd hq1 hc1
    · exact hI
end Go.Proofs.YtichejodbohldaaGreatDoor
