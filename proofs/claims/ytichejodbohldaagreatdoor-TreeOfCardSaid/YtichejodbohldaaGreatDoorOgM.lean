/- The reference's tree: make; what it comes to is what the program's makeDirs comes to: pure. -/
import Derived.Test.YtichejodbohldaaGreatDoorOeM
namespace Go.Proofs.YtichejodbohldaaGreatDoor
open Go.RowKit Go.Maps Go.Lib
set_option maxRecDepth 1000000
/-! ### Pure -/
theorem lackN_none {M : Tr} {L : List ByteArray} : ∀ (k i : Nat), k - lackN M L k < i → i ≤ k → hasT M (upL L i) = false
  | 0, i, h1, h2 => by omega
  | k + 1, i, h1, h2 => by
    unfold lackN at h1
    split at h1
    · omega
    · rename_i hn
      by_cases e : i = k + 1
      · rw [e]; simpa using hn
      · exact lackN_none k i (by have := lackN_le M L k; omega) (by omega)
theorem lack_iff {M : Tr} (hI : Inv M) {L : List ByteArray} (hL : Parts L) (k i : Nat) (hk : k ≤ L.length) (h1 : 1 ≤ i) (h2 : i ≤ k) : getA M (upL L i) = none ↔ k - lackN M L k < i := by
  constructor
  · intro hn
    by_cases hlt : k - lackN M L k < i
    · exact hlt
    · exfalso
      have hh := lack_has M L k
      have hle := lackN_le M L k
      obtain ⟨t, ht⟩ : ∃ t, k - lackN M L k = t := ⟨_, rfl⟩
      rw [ht] at hh hlt
      have hne : ¬ upL L t = E0 := by
        obtain ⟨s, rfl⟩ : ∃ s, t = s + 1 := ⟨t - 1, by omega⟩
        exact hL.ne s (by omega)
      have hs : (getA M (upL L t)).isSome = true := by
        unfold hasT at hh
        simpa [hne] using hh
      by_cases e : i = t
      · rw [e] at hn; rw [hn] at hs; cases hs
      · obtain ⟨n, hn2, _⟩ := hI.up L i t hL (by omega) (by omega) h1 hs
        rw [hn] at hn2; cases hn2
  · intro hlt
    exact hasT_none (lackN_none k i hlt h2)
theorem mem_lackL {M : Tr} {L : List ByteArray} (x : ByteArray) : ∀ k, x ∈ lackL M L k ↔ ∃ i, 1 ≤ i ∧ i ≤ k ∧ x = upL L i ∧ getA M x = none
  | 0 => by
    constructor
    · intro h; cases h
    · rintro ⟨i, h1, h2, _⟩; omega
  | k + 1 => by
    unfold lackL
    rw [List.mem_append, mem_lackL x k]
    constructor
    · rintro (⟨i, h1, h2, h3⟩ | h)
      · exact ⟨i, h1, by omega, h3⟩
      · split at h
        · cases h
        · rename_i hn
          simp only [List.mem_singleton] at h
          exact ⟨k + 1, by omega, Nat.le_refl _, h, by rw [h]; simpa using hn⟩
    · rintro ⟨i, h1, h2, h3, h4⟩
      by_cases e : i = k + 1
      · right
        rw [if_neg (by rw [← e, ← h3, h4]; simp), ← e, h3]
        simp
      · exact .inl ⟨i, h1, by omega, h3, h4⟩
theorem lackL_count {M : Tr} (hI : Inv M) {L : List ByteArray} (hL : Parts L) (k : Nat) (hk : k ≤ L.length) : ∀ j, j ≤ k → (lackL M L j).length = j - (k - lackN M L k)
  | 0, _ => by simp [lackL]
  | j + 1, h => by
    have ih := lackL_count hI hL k hk j (by omega)
    have hi := lack_iff hI hL k (j + 1) hk (by omega) h
    unfold lackL
    rw [List.length_append, ih]
    by_cases hlt : k - lackN M L k < j + 1
    · rw [if_neg (by rw [hi.2 hlt]; simp)]
      simp
      omega
    · have hs : (getA M (upL L (j + 1))).isSome = true := by
        cases h2 : getA M (upL L (j + 1)) with
        | none => exact absurd (hi.1 h2) hlt
        | some n => rfl
      rw [if_pos hs]
      simp
      omega
theorem lackL_lack {M : Tr} (hI : Inv M) {L : List ByteArray} (hL : Parts L) (k : Nat) (hk : k ≤ L.length) : (lackL M L k).length = lackN M L k := by
  rw [lackL_count hI hL k hk k (Nat.le_refl _)]
  have := lackN_le M L k
  omega
/-- Directories put, one by one. -/
def putAll {α : Type} (M : As α) (d : α) (l : List ByteArray) : As α := l.foldl (fun M x => putA M x d) M
theorem putAll_snoc {α : Type} (M : As α) (d : α) (l : List ByteArray) (x : ByteArray) : putAll M d (l ++ [x]) = putA (putAll M d l) x d := by unfold putAll; rw [List.foldl_append]; rfl
theorem putAll_asc {α : Type} (d : α) : ∀ (l : List ByteArray) (M : As α), AscA M → AscA (putAll M d l)
  | [], _, h => h
  | x :: r, M, h => putAll_asc d r _ (h.put x d)
theorem putAll_get {α : Type} (d : α) (x : ByteArray) : ∀ (l : List ByteArray) (M : As α), getA (putAll M d l) x = if memB l x = true then some d else getA M x
  | [], M => by simp [putAll, memB]
  | y :: r, M => by
    show getA (putAll (putA M y d) d r) x = _
    rw [putAll_get d x r, getA_put]
    have e : memB (y :: r) x = (decide (y = x) || memB r x) := rfl
    rw [e]
    by_cases h1 : memB r x = true
    · rw [if_pos h1, h1, Bool.or_true, if_pos rfl]
    · rw [if_neg h1]
      have h1' : memB r x = false := by simpa using h1
      rw [h1', Bool.or_false]
      by_cases h2 : y = x
      · rw [if_pos h2, decide_eq_true h2, if_pos rfl]
      · rw [if_neg h2, decide_eq_false h2, if_neg (by simp)]
theorem nds_putAll : ∀ (l : List ByteArray) (Y : As Gn), nds (putAll Y dirG l) = putAll (nds Y) dirN l
  | [], _ => rfl
  | x :: r, Y => by
    show nds (putAll (putA Y x dirG) dirG r) = putAll (putA (nds Y) x dirN) dirN r
    rw [nds_putAll r, nds_put]; rfl
theorem make_same {M : Tr} (hI : Inv M) {L : List ByteArray} (hL : Parts L) (k : Nat) (hk : k ≤ L.length) : putAll M dirN (lackL M L k) = mkN M L k := by
  refine ascA_ext (putAll_asc _ _ _ hI.asc) (mkN_asc L k M hI.asc) fun x => ?_
  rw [putAll_get]
  by_cases hx : x ∈ lackL M L k
  · rw [if_pos ((memB_iff _ _).2 hx)]
    obtain ⟨i, h1, h2, rfl, h4⟩ := (mem_lackL x k).1 hx
    exact (mk_new hL k M hk i ((lack_iff hI hL k i hk h1 h2).1 h4) h2).symm
  · rw [if_neg (fun h => hx ((memB_iff _ _).1 h))]
    refine (mk_old hL x k M hk fun i h1 h2 e => hx ((mem_lackL x k).2 ⟨i, by omega, h2, e.symm, ?_⟩)).symm
    rw [← e]
    exact (lack_iff hI hL k i hk (by omega) h2).2 h1
/-! ### make -/
/-- The reference's list Y, in blocks of R. -/
def RefX (w : World) (rb : Nat) (Y : As Gn) (R : Nat → Prop) : Prop := ∃ a c, RefIn w rb Y a c ∧ ∀ k, RefOwn rb (.slice a Y.length c) Y k → R k
theorem RefX.stays {w w' : World} {rb : Nat} {Y : As Gn} {R : Nat → Prop} (h : RefX w rb Y R) (hg : w.grownBy w' none) : RefX w' rb Y R := by
  obtain ⟨a, c, h1, h2⟩ := h
  exact ⟨a, c, h1.stays hg, h2⟩
theorem RefX.mono {w : World} {rb : Nat} {Y : As Gn} {R T : Nat → Prop} (h : RefX w rb Y R) (hT : ∀ k, R k → T k) : RefX w rb Y T := by
  obtain ⟨a, c, h1, h2⟩ := h
  exact ⟨a, c, h1, fun k hk => hT k (h2 k hk)⟩
theorem RefX.lt {w : World} {rb : Nat} {Y : As Gn} {R : Nat → Prop} (h : RefX w rb Y R) : rb < w.heap.size := by
  obtain ⟨a, c, h1, h2⟩ := h
  exact bk_size h1.head
/-- What a put leaves, by blocks. -/
theorem PutRef.x {w w' : World} {rb : Nat} {Y : As Gn} {p : ByteArray} {g : Gn} {R : Nat → Prop} {e : Ending} (h : PutRef rb (putA Y p g) w e w') (hX : RefX w rb Y R) (hg : ∀ k, g.v.ownBlock = some k → R k ∨ w.heap.size ≤ k) :
    e = .returned (.tuple #[]) ∧ RefX w' rb (putA Y p g) (fun k => R k ∨ w.heap.size ≤ k) ∧ Kept w w' (· = rb) := by
  obtain ⟨h1, a, c, h2, h3, h4⟩ := h
  obtain ⟨a0, c0, hr, ho⟩ := hX
  refine ⟨h1, ⟨a, c, h2, fun k hk => ?_⟩, h3⟩
  rcases hk with rfl | hk | ⟨e, he, hk⟩
  · exact .inl (ho _ (.inl rfl))
  · exact .inr (h4 k hk)
  · rcases mem_put he with rfl | he
    · exact hg k hk
    · exact .inl (ho k (.inr (.inr ⟨e, he, hk⟩)))
theorem OwnsS.notR {w : World} {base rb : Nat} {v : Value} {L : List ByteArray} {cs : Array Value} (h : OwnsS w base v L) (hb : w.heap[rb]? = some (.cells cs 30 (0, 0))) (k : Nat) (hk : v.ownBlock = some k) : ¬ k = rb := by
  intro e
  subst e
  rcases h.2 with ⟨e1, _⟩ | ⟨g, cap, cur, e1, e2, e3, _⟩
  · rw [e1] at hk; cases hk
  · have e4 : g = k := by rw [e1] at hk; simpa [Value.ownBlock] using hk
    subst e4
    rw [hb] at e3
    injection e3 with e3
    injection e3 with _ e5
    exact absurd e5 (by decide)
def MakeRet (rb : Nat) (Y : As Gn) (R : Nat → Prop) (w : World) (e : Ending) (w' : World) : Prop := e = .returned (.tuple #[]) ∧ RefX w' rb Y (fun k => R k ∨ w.heap.size ≤ k) ∧ Kept w w' (· = rb)
theorem putAll_len {α : Type} (d : α) : ∀ (l : List ByteArray) (Y : As α), AscA Y → (putAll Y d l).length ≤ Y.length + l.length
  | [], _, _ => Nat.le_refl _
  | x :: r, Y, h => by
    have h1 := putAll_len d r (putA Y x d) (h.put x d)
    have h2 := put_len h x d
    show (putAll (putA Y x d) d r).length ≤ _
    rw [List.length_cons]
    split at h2 <;> omega
set_option maxHeartbeats 8000000 in
theorem refMake_any (rb : Nat) (Y : As Gn) (R : Nat → Prop) (Ls : List ByteArray) (a : Option Addr) (n c B : Nat) (w : World) (h : RefX w rb Y R) (hA : AscA Y) (hY : Y.length ≤ 900000) (ho : OwnsS w B (.slice a n c) Ls) (hn : Ls.length = n) (hn2 : n ≤ 1000) :
    Calls Tryz.prog 47 #[.pointer (some ⟨rb, 0, none⟩), .slice a n c] w (MakeRet rb (putAll Y dirG Ls) R w) := by
  have HX := Lib.hid h
  have HO := Lib.hid ho
  have HN := Lib.hid hn
  have HA := Lib.hid hA
  clear h ho hn hA
  go_enter Tryz.func47, Tryz.ntmps47
  go_wp2_with fail
  go_loopw [4] (fun i wr => ∃ j : Nat, j ≤ n ∧ i = .int .i64 (j : Int) ∧ Hid (RefX wr rb (putAll Y dirG (Ls.take j)) (fun k => R k ∨ w.heap.size ≤ k) ∧ Kept w wr (· = rb) ∧ OwnsS wr B (.slice a n c) Ls)) (fun i _ => n - (intOf i).toNat)
  case atStart => exact ⟨0, Nat.zero_le _, rfl, Lib.hid ⟨HX.out.mono fun k h => .inl h, Kept.refl _ _, HO.out⟩⟩
  case round =>
    obtain ⟨j, hj, rfl, HS⟩ := hrel
    by_cases hjn : j < n
    · obtain ⟨x, hx⟩ : ∃ x, Ls[j]? = some x := ⟨Ls[j]'(by rw [HN.out]; exact hjn), List.getElem?_eq_getElem _⟩
      obtain ⟨g0, hag, hcell⟩ := HS.out.2.2.cellAt j x hx
      subst hag
      obtain ⟨ax, cx, hr, hown⟩ := HS.out.1
      have HTK : Hid (putAll Y dirG (Ls.take (j + 1)) = putA (putAll Y dirG (Ls.take j)) x dirG) := Lib.hid (by rw [take_snocL Ls j x hx, putAll_snoc])
      have hlen := putAll_len dirG (Ls.take j) Y HA.out
      rw [List.length_take] at hlen
      have HPU := Lib.hid (refPut_any rb cx (putAll Y dirG (Ls.take j)) ax x dirG true none 0 0 wr hr (by omega) rfl rfl (Owns.nil _ _))
      have HXX : Hid (RefX wr rb (putAll Y dirG (Ls.take j)) (fun k => R k ∨ w.heap.size ≤ k)) := Lib.hid ⟨ax, cx, hr, hown⟩
      have HHD := Lib.hid hr.head
      clear hx hr hown hlen
      go_wp2_with fail
      (with_reducible refine HPU.out.mono ?_)
      intro e w2 hp
      obtain ⟨rfl, hx2, hk2⟩ := hp.x HXX.out (fun k hk => by cases hk)
      have HF : Hid (RefX w2 rb (putAll Y dirG (Ls.take (j + 1))) (fun k => R k ∨ w.heap.size ≤ k) ∧ Kept w w2 (· = rb) ∧ OwnsS w2 B (.slice (some ⟨g0, 0, none⟩) n c) Ls) := Lib.hid
        ⟨by
          rw [HTK.out]
          exact hx2.mono fun k h => h.elim (fun h => h) fun h => .inr (Nat.le_trans HS.out.2.1.size h), HS.out.2.1.trans hk2 (fun i e => .inl e), HS.out.2.2.keeps hk2 fun k hk => HS.out.2.2.notR HHD.out k hk⟩
      clear hp hx2 hk2 hcell
      dsimp only
      go_wp2_with fail
      refine ⟨⟨j + 1, by omega, congrArg (Value.int IntKind.i64) (by omega), HF⟩, ?_⟩
      simp only [intOf]
      omega
    · have hjn' : j = n := by omega
      have e1 : Ls.take j = Ls := List.take_of_length_le (by rw [HN.out]; omega)
      rw [e1] at HS
      clear e1
      go_wp2
      exact bodyPost_end (results_none rfl _ _ _) rfl ⟨rfl, HS.out.1, HS.out.2.1⟩
end Go.Proofs.YtichejodbohldaaGreatDoor
