/- The reference's tree: ahead, make, Size. -/
import Derived.Test.YtichejodbohldaaGreatDoorOdM
namespace Go.Proofs.YtichejodbohldaaGreatDoor
open Go.RowKit Go.Maps Go.Lib
set_option maxRecDepth 1000000
theorem size_app : ∀ (M N : Tr), sizeT (M ++ N) = sizeT M + sizeT N
  | [], N => by show sizeT N = 0 + sizeT N; omega
  | e :: r, N => by
    have := size_app r N
    unfold sizeT at this ⊢
    simp only [List.cons_append, sumA]
    omega
theorem size_take_snoc (Y : As Gn) (j : Nat) (p : ByteArray) (g : Gn) (h : Y[j]? = some (p, g)) : sizeT (nds (Y.take (j + 1))) = sizeT (nds (Y.take j)) + g.nd.b.length := by
  rw [take_snocL Y j (p, g) h]
  have : nds (Y.take j ++ [(p, g)]) = nds (Y.take j) ++ [(p, g.nd)] := by simp [nds, mapA]
  rw [this, size_app]
  rfl
theorem size_take_le (Y : As Gn) (j : Nat) : sizeT (nds (Y.take j)) ≤ sizeT (nds Y) := by
  have h : nds Y = nds (Y.take j) ++ nds (Y.drop j) := by
    show mapA Gn.nd Y = mapA Gn.nd (Y.take j) ++ mapA Gn.nd (Y.drop j)
    unfold mapA
    rw [← List.map_append, List.take_append_drop]
  rw [h, size_app]
  omega
/-- The directories that lack among the first k. -/
def lackL (M : Tr) (L : List ByteArray) : Nat → List ByteArray
  | 0 => []
  | k + 1 => lackL M L k ++ if (getA M (upL L (k + 1))).isSome = true then [] else [upL L (k + 1)]
/-- Whether one of the first k is a file. -/
def fileK (M : Tr) (L : List ByteArray) : Nat → Bool
  | 0 => false
  | k + 1 => fileK M L k || match getA M (upL L (k + 1)) with
    | some n => !n.dir
    | none => false
theorem lackL_len (M : Tr) (L : List ByteArray) : ∀ k, (lackL M L k).length ≤ k
  | 0 => Nat.le_refl _
  | k + 1 => by
    unfold lackL
    have := lackL_len M L k
    rw [List.length_append]
    split <;> simp <;> omega
theorem fileN_K {M : Tr} {L : List ByteArray} (hL : Parts L) : ∀ k, k < L.length → fileN M L (k + 1) = fileK M L k
  | 0, _ => by
    unfold fileN fileK
    rw [upL_zero]
    unfold fileT dirT fileN
    simp
  | k + 1, h => by
    rw [fileN, fileN_K hL k (by omega), fileK, Bool.or_comm]
    congr 1
    have hne : ¬ upL L (k + 1) = E0 := hL.ne k (by omega)
    unfold fileT hasT dirT
    rw [decide_eq_false hne]
    cases getA M (upL L (k + 1)) with
    | none => rfl
    | some n => simp
theorem fileK_mono {M : Tr} {L : List ByteArray} {i k : Nat} (h : fileK M L i = true) (hik : i ≤ k) : fileK M L k = true := by
  induction k with
  | zero => obtain rfl : i = 0 := by omega
            exact h
  | succ k ih =>
    by_cases e : i = k + 1
    · subst e; exact h
    · unfold fileK
      rw [ih (by omega), Bool.true_or]
set_option maxHeartbeats 8000000 in
theorem refSize_any (rb c : Nat) (Y : As Gn) (a : Option Addr) (w : World) (h : RefIn w rb Y a c) (hY : Y.length ≤ 1000000) (hs : sizeT (nds Y) ≤ 100000000) :
    Calls Tryz.prog 32 #[.pointer (some ⟨rb, 0, none⟩)] w fun e w' => e = .returned (.int .i64 (sizeT (nds Y) : Nat)) ∧ w.grownBy w' none := by
  have HR := Lib.hid h
  obtain ⟨n, hn⟩ : ∃ n, Y.length = n := ⟨_, rfl⟩
  have HN := Lib.hid hn
  have HS := Lib.hid hs
  rw [hn] at hY
  clear h hn hs
  go_enter Tryz.func32, Tryz.ntmps32
  go_wp2_with fail
  go_loopw [3, 4] (fun v i wr => ∃ j : Nat, j ≤ n ∧ i = .int .i64 (j : Int) ∧ v = .int .i64 (sizeT (nds (Y.take j)) : Nat) ∧ Hid (w.grownBy wr none)) (fun _ i _ => n - (intOf i).toNat)
  case atStart => exact ⟨0, Nat.zero_le _, rfl, rfl, Lib.hid (World.grownBy.refl _ _)⟩
  case round =>
    obtain ⟨j, hj, rfl, rfl, HG⟩ := hrel
    have hRw := HR.out.stays HG.out
    obtain ⟨c1, _⟩ := hRw.cell
    rw [HN.out] at c1
    by_cases hjn : j < n
    · obtain ⟨⟨q, g⟩, hx⟩ : ∃ x, Y[j]? = some x := ⟨Y[j]'(by rw [HN.out]; exact hjn), List.getElem?_eq_getElem _⟩
      obtain ⟨b, x, y, rfl, _, _, _, q3⟩ := hRw.at j q g hx
      obtain ⟨mg, hmg⟩ : ∃ mg, g.nd.b.length = mg := ⟨_, rfl⟩
      have hsum := size_take_snoc Y j q g hx
      have hle := size_take_le Y (j + 1)
      have hS := HS.out
      rw [hmg] at q3 hsum
      rw [hsum] at hle
      obtain ⟨z, hz⟩ : ∃ z, sizeT (nds (Y.take j)) = z := ⟨_, rfl⟩
      rw [hz] at hsum hle ⊢
      obtain ⟨z1, hz1⟩ : ∃ z1, sizeT (nds Y) = z1 := ⟨_, rfl⟩
      rw [hz1] at hle hS
      have HSUM := Lib.hid hsum
      clear hx hRw hmg hz hsum hz1
      go_wp2_with fail
      refine ⟨⟨j + 1, by omega, congrArg (Value.int IntKind.i64) (by omega), congrArg (Value.int IntKind.i64) (by rw [HSUM.out]; omega), HG⟩, ?_⟩
      simp only [intOf]
      omega
    · have hjn' : j = n := by omega
      have e1 : Y.take j = Y := List.take_of_length_le (by rw [HN.out]; omega)
      rw [e1]
      clear hRw e1
      go_wp2
      go_ret
      exact ⟨rfl, HG.out⟩
theorem Pth.PartS.take {w : World} {B n cap : Nat} {a : Option Addr} {L : List ByteArray} (h : Pth.PartS w B (.slice a n cap) L) (i : Nat) (hi : i ≤ n) : Pth.PartS w B (.slice a i cap) (L.take i) := by
  obtain ⟨a', cap', b, o, h1, h2, h6, h3, h4, h5⟩ := h
  obtain ⟨rfl, hl, rfl⟩ := Value.slice.inj h1
  have hlen : (L.take i).length = i := by rw [List.length_take]; omega
  refine ⟨a, cap, b, o, by rw [hlen], by rw [hlen]; omega, h6, h3, fun hp => h4 (by rw [hlen] at hp; omega), fun j x hj => h5 j x ?_⟩
  have := (List.getElem?_eq_some_iff.1 hj).1
  rw [hlen] at this
  rw [List.getElem?_take_of_lt this] at hj
  exact hj
theorem sum_take {L : List ByteArray} (hL : Parts L) (i : Nat) (hi : i ≤ L.length) : Pth.sumS (L.take i) ≤ 100000 := by
  by_cases h0 : L.take i = []
  · rw [h0]; exact Nat.zero_le _
  · have h1 := Pth.joinB_size _ h0
    have h2 := hL.small i hi
    unfold upL at h2
    omega
set_option maxHeartbeats 8000000 in
theorem refAhead_any (rb c : Nat) (Y : As Gn) (a : Option Addr) (L : List ByteArray) (p : ByteArray) (w : World) (h : RefIn w rb Y a c) (hY : Y.length ≤ 1000000) (hL : Parts L) (hp : Pth.joinB L = p) :
    Calls Tryz.prog 46 #[.pointer (some ⟨rb, 0, none⟩), .string p] w fun e w' => ∃ al nl cl, e = .returned (.tuple #[.bool (fileK (nds Y) L (L.length - 1)), .slice al nl cl]) ∧ w.grownBy w' none ∧
      (fileK (nds Y) L (L.length - 1) = false → OwnsS w' w.heap.size (.slice al nl cl) (lackL (nds Y) L (L.length - 1)) ∧ (lackL (nds Y) L (L.length - 1)).length = nl ∧ nl ≤ cl) := by
  have HR := Lib.hid h
  have HL := Lib.hid hL
  have hps := hL.size
  rw [hp] at hps
  have hpt : Pth.partsS p = L := by rw [← hp]; exact Pth.parts_join L hL.part
  obtain ⟨r, hr⟩ : ∃ r, L.length = r := ⟨_, rfl⟩
  have HRR := Lib.hid hr
  have hr12 : r ≤ 12 := by rw [← hr]; exact hL.len
  have HPA : Hid (∀ V : World, 0 < V.heap.size → Calls Tryz.prog 39 #[.string p] V fun e w' => ∃ a cap, e = .returned (.slice a r cap) ∧ r ≤ cap ∧ cap ≤ 9223372036854775807 ∧ Pth.PartS w' w'.heap.size (.slice a r cap) L ∧ V.grownBy w' none) := Lib.hid fun V hV => Pth.refparts_at p L r (by omega) V hV hpt hr
  obtain ⟨n, hn⟩ : ∃ n, Y.length = n := ⟨_, rfl⟩
  have HN := Lib.hid hn
  rw [hn] at hY
  rw [hr]
  clear h hn hL hp hpt hr
  go_enter Tryz.func46, Tryz.ntmps46
  go_wp2_with fail
  (with_reducible refine (HPA.out _ (by have := bk_size HR.out.head; omega)).mono ?_)
  rintro e w1 ⟨al, cl, rfl, hrc, hrc2, hpl, hg⟩
  have HP1 := Lib.hid hpl
  have HG1 := Lib.hid hg
  clear hpl hg
  dsimp only
  go_wp2_with fail
  go_loopw [6, 8] (fun v i wr => ∃ (k nl cc : Nat) (aa : Option Addr), (k + 1 ≤ r ∨ k = 0) ∧ i = .int .i64 ((k : Int) + 1) ∧ v = .slice aa nl cc ∧ nl ≤ k ∧ nl ≤ cc ∧ cc ≤ 9223372036854775807 ∧ Hid (w1.grownBy wr none ∧ OwnsS wr w1.heap.size (.slice aa nl cc) (lackL (nds Y) L k) ∧ (lackL (nds Y) L k).length = nl ∧ fileK (nds Y) L k = false)) (fun _ i _ => r - (intOf i).toNat)
  case atStart => exact ⟨0, 0, 0, none, .inr rfl, rfl, rfl, Nat.le_refl _, Nat.le_refl _, by omega, Lib.hid ⟨World.grownBy.refl _ _, OwnsS.nil _ _, rfl, rfl⟩⟩
  case round =>
    obtain ⟨k, nl, cc, aa, hk, rfl, rfl, hnl, hnc, hcc, HS⟩ := hrel
    by_cases hkr : k + 1 < r
    · have hd1 : decide ((k : Int) + 1 < (r : Int)) = true := by simp; omega
      have hRw := (HR.out.stays HG1.out).stays HS.out.1
      have HGL : Hid (∀ V, wr.grownBy V none → Calls Tryz.prog 71 #[.slice al (k + 1) cl] V fun e w' => e = .returned (.string (upL L (k + 1))) ∧ V = w') := Lib.hid fun V hV =>
        (Pth.glue_any w1.heap.size (k + 1) cl al (L.take (k + 1)) V (by rw [List.length_take, HRR.out]; omega) (by omega) (Nat.le_trans (sum_take HL.out (k + 1) (by rw [HRR.out]; omega)) (by omega)) (((HP1.out.grown HS.out.1 (fun k hk => by simp at hk)).grown hV (fun k hk => by simp at hk)).take (k + 1) (by omega))).mono fun e w' h => ⟨h.1, h.2.symm⟩
      have HRW := Lib.hid hRw
      obtain ⟨d, hd⟩ : ∃ d, upL L (k + 1) = d := ⟨_, rfl⟩
      rw [hd] at HGL
      have HD := Lib.hid hd
      clear hRw hd
      go_wp2_with fail
      (with_reducible refine (HGL.out _ (World.grownBy.refl _ _)).mono ?_)
      rintro e w2 ⟨rfl, rfl⟩
      dsimp only
      go_wp2_with fail
      (with_reducible refine (refAt_any rb c Y a d _ HRW.out (by rw [HN.out]; omega)).mono ?_)
      rintro e w3 ⟨z, rfl, hz, hg3⟩
      have HG3 := Lib.hid (World.grownBy.trans HS.out.1 hg3)
      have HO3 := Lib.hid (HS.out.2.1.stays hg3)
      have HRW3 := Lib.hid (HRW.out.stays hg3)
      clear hg3
      dsimp only
      rcases hz with ⟨rfl, hz⟩ | ⟨k0, g0, rfl, hz1, hz2⟩
      · have HQ : Hid (lackL (nds Y) L (k + 1) = lackL (nds Y) L k ++ [d] ∧ fileK (nds Y) L (k + 1) = false) := Lib.hid ⟨by rw [lackL, HD.out, nds_get, hz]; rfl, by rw [fileK, HD.out, nds_get, hz, HS.out.2.2.2]; rfl⟩
        clear hz
        have HB : Hid (w1.heap.size ≤ (w3.alloc (.cells #[.string d] 9)).heap.size) := Lib.hid (by rw [alloc_size]; have h2 := HG3.out.size; omega)
        go_wp2_with (at_builtin; go_must (with_reducible refine app_str (o := ⟨some 31, _, _, _, _, _⟩) rfl _ _ rfl w1.heap.size _ (.slice aa nl cc) (.slice (some ⟨w3.heap.size, 0, none⟩) 1 1) (lackL (nds Y) L k) [d] ?_ (HO3.out.alloc _) ?_ (part_str w3 d _) ?_ ?_ ?_); go_must (exact rfl); go_must (exact rfl); go_must ((rw [HS.out.2.2.1]; simp; omega)); go_must (exact HB.out); (intro v5 w5 ho5 hg5); have HO5 := Lib.hid ho5; have HG5 := Lib.hid (OwnsS.grown (w := w1) (v := .slice aa nl cc) (L := lackL (nds Y) L k) (HO3.out.alloc _) (World.grownBy.trans HG3.out (World.grownBy_alloc _ _ _)) hg5); obtain ⟨a5, c5, e5, hl5, hc5⟩ := ho5.form; rw [show (lackL (nds Y) L k ++ [d]).length = nl + 1 by rw [List.length_append, HS.out.2.2.1]; rfl] at e5 hl5; subst e5; clear ho5 hg5)
        refine ⟨⟨k + 1, nl + 1, c5, a5, .inl (by omega), congrArg (Value.int IntKind.i64) (by omega), rfl, by omega, by omega, by unfold maxLen at hc5; omega, Lib.hid ⟨HG5.out, by rw [HQ.out.1]; exact HO5.out, by rw [HQ.out.1, List.length_append, HS.out.2.2.1]; rfl, HQ.out.2⟩⟩, ?_⟩
        simp only [intOf]
        omega
      · obtain ⟨b4, x4, y4, rfl, _, _, q2, _⟩ := HRW3.out.at k0 d g0 hz1
        have c3 := HRW3.out.cell.1
        have hk0 : k0 < n := by have := (List.getElem?_eq_some_iff.1 hz1).1; rw [HN.out] at this; exact this
        rw [HN.out] at c3
        cases hdir : g0.nd.dir with
        | true =>
          rw [hdir] at q2
          have HQ : Hid (lackL (nds Y) L (k + 1) = lackL (nds Y) L k ∧ fileK (nds Y) L (k + 1) = false) := Lib.hid ⟨by rw [lackL, HD.out, nds_get, hz2]; simp, by rw [fileK, HD.out, nds_get, hz2, HS.out.2.2.2]; simp [hdir]⟩
          clear hz1 hz2 hdir
          go_wp2_with fail
          refine ⟨⟨k + 1, nl, cc, aa, .inl (by omega), congrArg (Value.int IntKind.i64) (by omega), rfl, by omega, hnc, hcc, Lib.hid ⟨HG3.out, by rw [HQ.out.1]; exact HO3.out, by rw [HQ.out.1]; exact HS.out.2.2.1, HQ.out.2⟩⟩, ?_⟩
          simp only [intOf]
          omega
        | false =>
          rw [hdir] at q2
          have HQ : Hid (fileK (nds Y) L (r - 1) = true) := Lib.hid (fileK_mono (i := k + 1) (by rw [fileK, HD.out, nds_get, hz2]; simp [hdir]) (by omega))
          clear hz1 hz2 hdir
          go_wp2
          go_ret2
          exact ⟨none, 0, 0, by rw [HQ.out]; rfl, World.grownBy.trans HG1.out HG3.out, fun e => by rw [HQ.out] at e; cases e⟩
    · have hd1 : decide ((k : Int) + 1 < (r : Int)) = false := by simp; omega
      have hkk : k = r - 1 := by omega
      subst hkk
      go_wp2
      go_ret2
      exact ⟨aa, nl, cc, by rw [HS.out.2.2.2]; rfl, World.grownBy.trans HG1.out HS.out.1, fun _ => ⟨HS.out.2.1.mono HG1.out.size, HS.out.2.2.1, hnc⟩⟩
end Go.Proofs.YtichejodbohldaaGreatDoor
