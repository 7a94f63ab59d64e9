/- The law's replies. -/
import Derived.Test.YtfpehdldgnfciaaGreatDoorFi
import Derived.Test.YtfpehdldgnfciaaGreatDoorFe
namespace Go.Proofs.YtfpehdldgnfciaaGreatDoor
open Go.RowKit

set_option maxRecDepth 1000000
theorem Part.sub {w : World} {B n c b o : Nat} {L : List UInt8} (h : Part w B (.slice (some ⟨b, o, none⟩) n c) L) (hL : L.length = n) (m q : Nat) (hm : m + q ≤ n) (h0 : 0 < n) : Part w B (.slice (some ⟨b, o + m, none⟩) q (c - m)) ((L.drop m).take q) := by
  obtain ⟨a', cap, b', o', h1, h2, h6, h3, h4, h5⟩ := h
  injection h1 with k1 k2 k3
  subst k3
  have h7 := h4 (by omega)
  rw [← k1] at h7
  injection h7 with h7
  injection h7 with h8 h9
  subst h8 h9
  have hl : ((L.drop m).take q).length = q := by rw [List.length_take, List.length_drop]; omega
  refine ⟨_, c - m, b, o + m, by rw [hl], by rw [hl]; omega, fun e => by simp at e, h3, fun _ => rfl, fun j hj => ?_⟩
  rw [hl] at hj
  have e := h5 (m + j) (by omega)
  rw [show o + m + j = o + (m + j) by omega, e]
  congr 2
  simp [List.getD_eq_getElem?_getD, List.getElem?_drop, hj]
theorem Part.addr {w : World} {B n c : Nat} {a : Option Addr} {L : List UInt8} (h : Part w B (.slice a n c) L) (hL : L.length = n) (h0 : 0 < n) : ∃ b o, a = some ⟨b, o, none⟩ ∧ n ≤ c := by
  obtain ⟨a', cap, b, o, h1, h2, h6, h3, h4, h5⟩ := h
  injection h1 with k1 k2 k3
  exact ⟨b, o, by rw [k1]; exact h4 (by omega), by rw [k3]; omega⟩
def GotRet (w : World) (kind : Int) (G : List UInt8) (e : Ending) (w' : World) : Prop := ∃ a c, e = .returned (.agg #[.int .i64 kind, .slice a G.length c]) ∧ Part w' w'.heap.size (.slice a G.length c) G ∧ w.grownBy w' none
theorem got_end {w w2 : World} {R : Nat} {x y v2 kv : Value} {G : List UInt8} (hR : w.heap.size ≤ R) (h2 : w2.heap[R]? = some (.cells #[x, y] 45 (0, 0))) (hg : w.grownBy w2 none) (ho : Owns w2 w.heap.size v2 G) :
    w.grownBy ((w2.setCell ⟨R, 0, none⟩ kv).setCell ⟨R, 1, none⟩ v2) none ∧ Owns ((w2.setCell ⟨R, 0, none⟩ kv).setCell ⟨R, 1, none⟩ v2) w.heap.size v2 G := by
  have hap := ho.apart h2 (by decide)
  exact ⟨bk_grown_set (bk_grown_set hg hR _ _) hR _ _, (ho.other (bk_set_grown _ _ _ _) hap).other (bk_set_grown _ _ _ _) hap⟩
theorem got_cut {w w2 : World} {R : Nat} {x y kv u : Value} {c q k : Nat} {G : List UInt8} {ad : Option Addr} (hR : w.heap.size ≤ R) (h2 : w2.heap[R]? = some (.cells #[x, y] 45 (0, 0))) (hg : w.grownBy w2 none) (ho : Owns w2 w.heap.size (.slice ad q c) G) (hq : G.length = q) (hk : k ≤ q) :
    w.grownBy ((w2.setCell ⟨R, 0, none⟩ kv).setCell ⟨R, 1, none⟩ u) none ∧ Part ((w2.setCell ⟨R, 0, none⟩ kv).setCell ⟨R, 1, none⟩ u) ((w2.setCell ⟨R, 0, none⟩ kv).setCell ⟨R, 1, none⟩ u).heap.size (.slice ad k c) (G.take k) := by
  have hap := ho.apart h2 (by decide)
  have h3 := (ho.other (bk_set_grown w2 R 0 kv) hap).other (bk_set_grown _ R 1 u) hap
  exact ⟨bk_grown_set (bk_grown_set hg hR _ _) hR _ _, Part.cut (h3.part (by have := bk_size h2; simp [World.setCell]; omega)) hq hk⟩
end Go.Proofs.YtfpehdldgnfciaaGreatDoor
