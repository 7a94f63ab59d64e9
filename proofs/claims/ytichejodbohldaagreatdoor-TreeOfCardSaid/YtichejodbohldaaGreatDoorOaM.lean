/- The reference's tree: as it lies; where a path stands. -/
import Derived.Test.YtichejodbohldaaGreatDoorHgM
import Derived.Test.YtichejodbohldaaGreatDoorHiM
namespace Go.Proofs.YtichejodbohldaaGreatDoor
open Go.RowKit Go.Maps Go.Lib
set_option maxRecDepth 1000000
/-- The list of the reference's tree, as it lies. -/
structure RefIn (w : World) (rb : Nat) (Y : As Gn) (a : Option Addr) (c : Nat) : Prop where
  head : w.heap[rb]? = some (.cells #[.slice a Y.length c] 30 (0, 0))
  own : OwnsF w 0 (.slice a Y.length c) Y
  row : ∀ e ∈ Y, Owns w 0 e.2.v e.2.nd.b
  asc : AscA Y
/-- Its blocks. -/
def RefOwn (rb : Nat) (v : Value) (Y : As Gn) (k : Nat) : Prop := k = rb ∨ v.ownBlock = some k ∨ ∃ e ∈ Y, e.2.v.ownBlock = some k
theorem RefIn.keeps {w w' : World} {rb c : Nat} {Y : As Gn} {a : Option Addr} {T : Nat → Prop} (h : RefIn w rb Y a c) (hk : Kept w w' T) (hT : ∀ k, RefOwn rb (.slice a Y.length c) Y k → ¬ T k) : RefIn w' rb Y a c :=
  ⟨hk.bk h.head (hT rb (.inl rfl)), h.own.keeps hk fun k e => hT k (.inr (.inl e)), fun e he => (h.row e he).keeps hk fun k e2 => hT k (.inr (.inr ⟨e, he, e2⟩)), h.asc⟩
theorem RefIn.stays {w w' : World} {rb c : Nat} {Y : As Gn} {a : Option Addr} (h : RefIn w rb Y a c) (hg : w.grownBy w' none) : RefIn w' rb Y a c := h.keeps (Kept.ofNone hg fun _ => False) fun _ _ e => e
theorem RefIn.own_lt {w : World} {rb c : Nat} {Y : As Gn} {a : Option Addr} (h : RefIn w rb Y a c) {k : Nat} (hk : RefOwn rb (.slice a Y.length c) Y k) : k < w.heap.size := by
  rcases hk with rfl | hk | ⟨e, he, hk⟩
  · exact bk_size h.head
  · exact (h.own.block_lt k hk).2
  · exact ((h.row e he).block_lt k hk).2
theorem RefIn.cell {w : World} {rb c : Nat} {Y : As Gn} {a : Option Addr} (h : RefIn w rb Y a c) : w.cell? ⟨rb, 0, none⟩ = some (.slice a Y.length c) ∧ w.frozen? ⟨rb, 0, none⟩ = false := bk_cell h.head 0 _ rfl
/-- The k-th file. -/
theorem RefIn.at {w : World} {rb c : Nat} {Y : As Gn} {a : Option Addr} (h : RefIn w rb Y a c) (k : Nat) (p : ByteArray) (g : Gn) (hk : Y[k]? = some (p, g)) :
    ∃ b x y, a = some ⟨b, 0, none⟩ ∧ g.v = .slice x g.nd.b.length y ∧ w.cell? ⟨b, k * 3, none⟩ = some (.string p) ∧ w.cell? ⟨b, k * 3 + 1, none⟩ = some (.bool g.nd.dir) ∧ w.cell? ⟨b, k * 3 + 2, none⟩ = some (.slice x g.nd.b.length y) := by
  have hkl := (List.getElem?_eq_some_iff.1 hk).1
  rcases h.own.2 with ⟨h1, h2⟩ | ⟨b, cap, cur, h1, h2, h3, h4, h5, h6, h7⟩
  · have := (Value.slice.inj h1).2.1; omega
  · obtain ⟨x, y, hv, _⟩ := (h.row _ (List.mem_of_getElem? hk)).form
    dsimp only at hv
    have hc : ∀ i, i < 3 → w.cell? ⟨b, k * 3 + i, none⟩ = (fileC (p, g))[i]? := by
      intro i hi
      rw [cell_in h3, ← filesC_at Y k i _ hk hi, ← h7, List.getElem?_take, if_pos (by omega), Array.getElem?_toList]
    refine ⟨b, x, y, (Value.slice.inj h1).1, hv, hc 0 (by omega), hc 1 (by omega), ?_⟩
    rw [hc 2 (by omega)]
    show some (fixV g.v) = _
    rw [hv]; rfl
/-- The reference's tree M, at rb, in blocks of R alone. -/
def RefAt (w : World) (rb : Nat) (M : Tr) (R : Nat → Prop) : Prop := (∃ a c Y, RefIn w rb Y a c ∧ nds Y = M ∧ ∀ k, RefOwn rb (.slice a Y.length c) Y k → R k) ∧ ∀ k, R k → k < w.heap.size
theorem RefAt.keeps {w w' : World} {rb : Nat} {M : Tr} {R T : Nat → Prop} (h : RefAt w rb M R) (hk : Kept w w' T) (hT : ∀ k, R k → ¬ T k) : RefAt w' rb M R := by
  obtain ⟨⟨a, c, Y, h1, h2, h3⟩, h4⟩ := h
  exact ⟨⟨a, c, Y, h1.keeps hk fun k hk => hT k (h3 k hk), h2, h3⟩, fun k hk2 => Nat.lt_of_lt_of_le (h4 k hk2) hk.size⟩
theorem RefAt.stays {w w' : World} {rb : Nat} {M : Tr} {R : Nat → Prop} (h : RefAt w rb M R) (hg : w.grownBy w' none) : RefAt w' rb M R := h.keeps (Kept.ofNone hg fun _ => False) fun _ _ e => e
theorem RefAt.start {w w' : World} {rb : Nat} {M : Tr} {R : Nat → Prop} (h : RefAt w rb M R) (hg : w.grownBy w' none) : RefAt w' rb M (Grow w w' R) := by
  obtain ⟨⟨a, c, Y, h1, h2, h3⟩, h4⟩ := h
  exact ⟨⟨a, c, Y, h1.stays hg, h2, fun k hk => ⟨.inl (h3 k hk), Nat.lt_of_lt_of_le (h4 k (h3 k hk)) hg.size⟩⟩, fun k hk => hk.2⟩
/-- What an operation of the reference's leaves. -/
def RefRet (rb : Nat) (Q : Int × Tr) (w : World) (R : Nat → Prop) (e : Ending) (w' : World) : Prop := e = .returned (.int .i64 Q.1) ∧ RefAt w' rb Q.2 (Grow w w' R) ∧ Kept w w' (· = rb)
/-! ### Pure: where a path stands in the list -/
theorem putA_at {α : Type} (p : ByteArray) (g : α) : ∀ (Y : As α) (i : Nat), AscA Y → i ≤ Y.length → (∀ j e, j < i → Y[j]? = some e → lessA e.1 p = true) → (∀ e, Y[i]? = some e → lessA e.1 p = false) →
    (∀ g0, Y[i]? = some (p, g0) → putA Y p g = Y.take i ++ (p, g) :: Y.drop (i + 1)) ∧ ((∀ e, Y[i]? = some e → ¬ e.1 = p) → putA Y p g = Y.take i ++ (p, g) :: Y.drop i)
  | [], i, _, hi, _, _ => by
    have : i = 0 := by simpa using hi
    subst this
    exact ⟨fun g0 h => by simp at h, fun _ => rfl⟩
  | (q, y) :: r, 0, hA, _, _, h2 => by
    have hq := h2 (q, y) rfl
    dsimp only at hq
    refine ⟨fun g0 h => ?_, fun h => ?_⟩
    · have : q = p := by simp at h; exact h.1
      subst this
      rw [putA_cons, if_pos rfl]; rfl
    · have hne := h (q, y) rfl
      dsimp only at hne
      rw [putA_cons, if_neg hne, if_pos (lessA_total hne hq)]; rfl
  | (q, y) :: r, i + 1, hA, hi, h1, h2 => by
    have hq := h1 0 (q, y) (by omega) rfl
    dsimp only at hq
    have ih := putA_at p g r i (by unfold AscA at hA; rw [List.pairwise_cons] at hA; exact hA.2) (by simpa using hi) (fun j e hj he => h1 (j + 1) e (by omega) he) (fun e he => h2 e he)
    have hne : ¬ q = p := lessA_ne hq
    have hnl : ¬ lessA p q = true := by rw [lessA_asymm hq]; simp
    have e1 : putA ((q, y) :: r) p g = (q, y) :: putA r p g := by rw [putA_cons, if_neg hne, if_neg hnl]
    refine ⟨fun g0 h => ?_, fun h => ?_⟩
    · rw [e1, ih.1 g0 h]; rfl
    · rw [e1, ih.2 h]; rfl
theorem asc_at {α : Type} {M : As α} (hM : AscA M) {k : Nat} {p : ByteArray} {n : α} (h : M[k]? = some (p, n)) : getA M p = some n := hM.get (List.mem_of_getElem? h)
set_option maxHeartbeats 4000000 in
theorem refAt_any (rb c : Nat) (Y : As Gn) (a : Option Addr) (p : ByteArray) (w : World) (h : RefIn w rb Y a c) (hY : Y.length ≤ 1000000) :
    Calls Tryz.prog 45 #[.pointer (some ⟨rb, 0, none⟩), .string p] w fun e w' => ∃ z : Int, e = .returned (.int .i64 z) ∧ ((z = -1 ∧ getA Y p = none) ∨ ∃ (k : Nat) (g : Gn), z = (k : Int) ∧ Y[k]? = some (p, g) ∧ getA Y p = some g) ∧ w.grownBy w' none := by
  have HR := Lib.hid h
  obtain ⟨c0, f0⟩ := h.cell
  obtain ⟨n, hn⟩ : ∃ n, Y.length = n := ⟨_, rfl⟩
  have HN := Lib.hid hn
  rw [hn] at c0 hY
  clear h f0 hn
  go_enter Tryz.func45, Tryz.ntmps45
  go_wp2_with fail
  go_loopw [5] (fun i wr => ∃ j : Nat, j ≤ n ∧ i = .int .i64 (j : Int) ∧ Hid (w.grownBy wr none ∧ ∀ k e, k < j → Y[k]? = some e → ¬ e.1 = p)) (fun i _ => n - (intOf i).toNat)
  case atStart => exact ⟨0, Nat.zero_le _, rfl, Lib.hid ⟨World.grownBy.refl _ _, fun k e hk => by omega⟩⟩
  case round =>
    obtain ⟨j, hj, rfl, HS⟩ := hrel
    have hRw := HR.out.stays HS.out.1
    obtain ⟨c1, _⟩ := hRw.cell
    rw [HN.out] at c1
    by_cases hjn : j < n
    · obtain ⟨⟨q, g⟩, hx⟩ : ∃ x, Y[j]? = some x := ⟨Y[j]'(by rw [HN.out]; exact hjn), List.getElem?_eq_getElem _⟩
      obtain ⟨b, x, y, rfl, _, q1, _, _⟩ := hRw.at j q g hx
      have HX := Lib.hid hx
      clear hx hRw
      by_cases hq : q = p
      · subst hq
        go_wp2
        go_ret
        exact ⟨(j : Int), rfl, .inr ⟨j, g, rfl, HX.out, asc_at HR.out.asc HX.out⟩, HS.out.1⟩
      · have e1 := ne_lists q p hq
        have e2 := nb_lists q p hq
        have HNX : Hid (∀ k e, k < j + 1 → Y[k]? = some e → ¬ e.1 = p) := Lib.hid fun k e hk he => by
          by_cases h2 : k < j
          · exact HS.out.2 k e h2 he
          · have : k = j := by omega
            subst this
            rw [HX.out] at he
            obtain rfl := Option.some.inj he
            exact hq
        go_wp2_with fail
        refine ⟨⟨j + 1, by omega, congrArg (Value.int IntKind.i64) (by omega), Lib.hid ⟨HS.out.1, HNX.out⟩⟩, ?_⟩
        simp only [intOf]
        omega
    · have hjn' : j = n := by omega
      have HE : Hid (getA Y p = none) := Lib.hid (get_of_none fun e he e2 => by
        obtain ⟨k, hk, e3⟩ := List.getElem_of_mem he
        exact HS.out.2 k e (by rw [hjn']; rw [HN.out] at hk; exact hk) (by rw [List.getElem?_eq_getElem hk, e3]) e2)
      clear hRw
      go_wp2
      go_ret
      exact ⟨-1, rfl, .inl ⟨rfl, HE.out⟩, HS.out.1⟩
end Go.Proofs.YtichejodbohldaaGreatDoor
