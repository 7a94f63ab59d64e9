/- The law's replies. -/
import Derived.Test.YtfpehdldgnfciaaDoorFi
import Derived.Test.YtfpehdldgnfciaaDoorFe
namespace Go.Proofs.YtfpehdldgnfciaaDoor
open Go.RowKit

set_option maxRecDepth 1000000
theorem Part.sub {w : World} {B n c b o : Nat} {L : List UInt8} (h : Part w B (.slice (some ⟨b, o, none⟩) n c) L) (hL : L.length = n) (m q : Nat) (hm : m + q ≤ n) (h0 : 0 < n) : Part w B (.slice (some ⟨b, o + m, none⟩) q (c - m)) ((L.drop m).take q) := by
  obtain ⟨a', cap, b', o', h1, h2, h6, h3, h4, h5⟩ := h
  injection h1 with k1 k2 k3
  subst k3
  have h7 := h4 (by omega)
  rw [← k1] at h7
  injection h7 with h7
  injection h7 with h8 h9
  subst h8 h9
  have hl : ((L.drop m).take q).length = q := by rw [List.length_take, List.length_drop]; omega
  refine ⟨_, c - m, b, o + m, by rw [hl], by rw [hl]; omega, fun e => by simp at e, h3, fun _ => rfl, fun j hj => ?_⟩
  rw [hl] at hj
  have e := h5 (m + j) (by omega)
  rw [show o + m + j = o + (m + j) by omega, e]
  congr 2
  simp [List.getD_eq_getElem?_getD, List.getElem?_drop, hj]
theorem Part.addr {w : World} {B n c : Nat} {a : Option Addr} {L : List UInt8} (h : Part w B (.slice a n c) L) (hL : L.length = n) (h0 : 0 < n) : ∃ b o, a = some ⟨b, o, none⟩ ∧ n ≤ c := by
  obtain ⟨a', cap, b, o, h1, h2, h6, h3, h4, h5⟩ := h
  injection h1 with k1 k2 k3
  exact ⟨b, o, by rw [k1]; exact h4 (by omega), by rw [k3]; omega⟩
def GotRet (w : World) (kind : Int) (G : List UInt8) (e : Ending) (w' : World) : Prop := ∃ a c, e = .returned (.agg #[.int .i64 kind, .slice a G.length c]) ∧ Part w' w'.heap.size (.slice a G.length c) G ∧ w.grownBy w' none
theorem got_end {w w2 : World} {R : Nat} {x y v2 kv : Value} {G : List UInt8} (hR : w.heap.size ≤ R) (h2 : w2.heap[R]? = some (.cells #[x, y] 42 (0, 0))) (hg : w.grownBy w2 none) (ho : Owns w2 w.heap.size v2 G) :
    w.grownBy ((w2.setCell ⟨R, 0, none⟩ kv).setCell ⟨R, 1, none⟩ v2) none ∧ Owns ((w2.setCell ⟨R, 0, none⟩ kv).setCell ⟨R, 1, none⟩ v2) w.heap.size v2 G := by
  have hap := ho.apart h2 (by decide)
  exact ⟨bk_grown_set (bk_grown_set hg hR _ _) hR _ _, (ho.other (bk_set_grown _ _ _ _) hap).other (bk_set_grown _ _ _ _) hap⟩
theorem got_cut {w w2 : World} {R : Nat} {x y kv u : Value} {c q k : Nat} {G : List UInt8} {ad : Option Addr} (hR : w.heap.size ≤ R) (h2 : w2.heap[R]? = some (.cells #[x, y] 42 (0, 0))) (hg : w.grownBy w2 none) (ho : Owns w2 w.heap.size (.slice ad q c) G) (hq : G.length = q) (hk : k ≤ q) :
    w.grownBy ((w2.setCell ⟨R, 0, none⟩ kv).setCell ⟨R, 1, none⟩ u) none ∧ Part ((w2.setCell ⟨R, 0, none⟩ kv).setCell ⟨R, 1, none⟩ u) ((w2.setCell ⟨R, 0, none⟩ kv).setCell ⟨R, 1, none⟩ u).heap.size (.slice ad k c) (G.take k) := by
  have hap := ho.apart h2 (by decide)
  have h3 := (ho.other (bk_set_grown w2 R 0 kv) hap).other (bk_set_grown _ R 1 u) hap
  exact ⟨bk_grown_set (bk_grown_set hg hR _ _) hR _ _, Part.cut (h3.part (by have := bk_size h2; simp [World.setCell]; omega)) hq hk⟩
set_option maxHeartbeats 8000000 in
theorem got_good (n c m q B : Nat) (a : Option Addr) (L : List UInt8) (w : World) (hL : L.length = n) (hn : n ≤ 10000) (hP : Part w B (.slice a n c) L) (hB : B ≤ w.heap.size) (hm : m < n) (hq : min 64 (n - m) = q) :
    Calls Tryd.prog 9 #[.slice a n c, .agg #[.string ⟨#[97]⟩, .int .i64 1, .int .i64 0, .int .i64 0, .slice none 0 0, .int .i64 m, .int .i64 q], .agg #[.int .u8 0, .int .u8 0, .int .i64 0, .slice none 0 0]] w (GotRet w 0 ((L.drop m).take q)) := by
  obtain ⟨b, o, rfl, hc⟩ := hP.addr hL (by omega)
  have HP := Lib.hid hP
  have HL := Lib.hid hL
  have HS := Lib.hid (hP.sub hL m q (by omega) (by omega))
  have hqn : m + q ≤ n := by omega
  have hq0 : 0 < q := by omega
  have hq64 : q ≤ 64 := by omega
  have hlen : Hid (((L.drop m).take q).length = q) := by show _ = _; rw [List.length_take, List.length_drop]; omega
  obtain ⟨G0, hG0⟩ : ∃ G0, (L.drop m).take q = G0 := ⟨_, rfl⟩
  rw [hG0] at HS hlen ⊢
  have H3 : Hid (w.grownBy (((w.alloc (.cells #[.string ⟨#[97]⟩, .int .i64 1, .int .i64 0, .int .i64 0, .slice none 0 0, .int .i64 m, .int .i64 q] 38)).alloc (.cells #[.int .u8 0, .int .u8 0, .int .i64 0, .slice none 0 0] 44)).alloc (.cells #[.int .i64 0, .slice none 0 0] 42)) none) := grown_alloc _ (grown_alloc _ (World.grownBy_alloc _ _ _))
  have hR1 : (w.alloc (.cells #[.string ⟨#[97]⟩, .int .i64 1, .int .i64 0, .int .i64 0, .slice none 0 0, .int .i64 m, .int .i64 q] 38)).heap.size = w.heap.size + 1 := alloc_size _ _
  have hR2 : ((w.alloc (.cells #[.string ⟨#[97]⟩, .int .i64 1, .int .i64 0, .int .i64 0, .slice none 0 0, .int .i64 m, .int .i64 q] 38)).alloc (.cells #[.int .u8 0, .int .u8 0, .int .i64 0, .slice none 0 0] 44)).heap.size = w.heap.size + 1 + 1 := by rw [alloc_size, hR1]
  have B1 : Hid ((((w.alloc (.cells #[.string ⟨#[97]⟩, .int .i64 1, .int .i64 0, .int .i64 0, .slice none 0 0, .int .i64 m, .int .i64 q] 38)).alloc (.cells #[.int .u8 0, .int .u8 0, .int .i64 0, .slice none 0 0] 44)).alloc (.cells #[.int .i64 0, .slice none 0 0] 42)).heap[w.heap.size + 1]? = some (.cells #[.int .u8 0, .int .u8 0, .int .i64 0, .slice none 0 0] 44 (0, 0))) := by
    show _ = _
    refine bk_kept ?_ (World.grownBy_alloc _ _ _)
    rw [← hR1]; exact bk_alloc _ _
  have B2 : Hid ((((w.alloc (.cells #[.string ⟨#[97]⟩, .int .i64 1, .int .i64 0, .int .i64 0, .slice none 0 0, .int .i64 m, .int .i64 q] 38)).alloc (.cells #[.int .u8 0, .int .u8 0, .int .i64 0, .slice none 0 0] 44)).alloc (.cells #[.int .i64 0, .slice none 0 0] 42)).heap[w.heap.size + 1 + 1]? = some (.cells #[.int .i64 0, .slice none 0 0] 42 (0, 0))) := by
    show _ = _
    rw [← hR2]; exact bk_alloc _ _
  clear hP hL hq hG0 hR1 hR2
  go_enter Tryd.func9, Tryd.ntmps9
  go_wp2_with (at_builtin; go_must (with_reducible refine app_part (o := ⟨some 25, _, _, _, _, _⟩) rfl _ _ rfl w.heap.size B (.slice none 0 0) (.slice (some ⟨b, o + m, none⟩) q (c - m)) [] G0 ?_ (Owns.nil _ _) ?_ (HS.out.stays H3.out) ?_ ?_ ?_); go_must (exact rfl); go_must (exact congrArg (fun z => Value.slice (some ⟨b, o + m, none⟩) z (c - m)) (Nat.add_sub_cancel_left m q)); go_must ((have := hlen.out; simp; omega)); go_must (exact H3.out.size); go_must ((intro v2 w2 ho2 hg2; have hg3 := World.grownBy.trans hg2 (World.grownBy.refl w2 none); have b1 := bk_kept B1.out hg3; have b2 := bk_kept B2.out hg3; have HB2 := Lib.hid b2; have HO2 := Lib.hid ho2; have HG2 := Lib.hid (World.grownBy.trans H3.out hg3); obtain ⟨a3, c3, e3, hq3, _⟩ := ho2.form; have e4 : v2 = .slice a3 q c3 := (by rw [e3]; simp [hlen.out]); clear e3; subst e4; have hqc : q ≤ c3 := (by have := hlen.out; simp at hq3; omega); have r0 := (bk_cell b1 0 _ rfl).1; have r1 := (bk_cell b1 1 _ rfl).1; obtain ⟨p0, f0⟩ := bk_cell b2 0 _ rfl; obtain ⟨p1, f1⟩ := bk_cell b2 1 _ rfl; clear b1 b2 ho2 hg2 hg3 hq3)))
  obtain ⟨G1, O1⟩ := got_end (by omega) HB2.out HG2.out HO2.out (kv := .int .i64 0)
  refine bodyPost_ret (v := .agg #[.int .i64 0, .slice a3 G0.length c3]) (by simp [results, Tryd.results9, go_sem, p0, p1, f0, f1, hlen.out]) rfl ⟨a3, c3, rfl, ?_, G1⟩
  have := O1.part (by have := bk_size HB2.out; simp [World.setCell]; omega)
  rw [hlen.out]
  exact this
set_option maxHeartbeats 8000000 in
theorem got_lost (n c m q B : Nat) (Nx : Int) (a : Option Addr) (L : List UInt8) (w : World) (hL : L.length = n) (hn : n ≤ 10000) (hP : Part w B (.slice a n c) L) (hB : B ≤ w.heap.size) (hm : m < n) (hq : min 64 (n - m) = q) :
    Calls Tryd.prog 9 #[.slice a n c, .agg #[.string ⟨#[97]⟩, .int .i64 1, .int .i64 0, .int .i64 0, .slice none 0 0, .int .i64 m, .int .i64 q], .agg #[.int .u8 6, .int .u8 Nx, .int .i64 0, .slice none 0 0]] w (GotRet w 1 ((L.drop m).take q)) := by
  obtain ⟨b, o, rfl, hc⟩ := hP.addr hL (by omega)
  have HP := Lib.hid hP
  have HL := Lib.hid hL
  have HS := Lib.hid (hP.sub hL m q (by omega) (by omega))
  have hqn : m + q ≤ n := by omega
  have hq0 : 0 < q := by omega
  have hq64 : q ≤ 64 := by omega
  have hlen : Hid (((L.drop m).take q).length = q) := by show _ = _; rw [List.length_take, List.length_drop]; omega
  obtain ⟨G0, hG0⟩ : ∃ G0, (L.drop m).take q = G0 := ⟨_, rfl⟩
  rw [hG0] at HS hlen ⊢
  have H3 : Hid (w.grownBy (((w.alloc (.cells #[.string ⟨#[97]⟩, .int .i64 1, .int .i64 0, .int .i64 0, .slice none 0 0, .int .i64 m, .int .i64 q] 38)).alloc (.cells #[.int .u8 6, .int .u8 Nx, .int .i64 0, .slice none 0 0] 44)).alloc (.cells #[.int .i64 0, .slice none 0 0] 42)) none) := grown_alloc _ (grown_alloc _ (World.grownBy_alloc _ _ _))
  have hR1 : (w.alloc (.cells #[.string ⟨#[97]⟩, .int .i64 1, .int .i64 0, .int .i64 0, .slice none 0 0, .int .i64 m, .int .i64 q] 38)).heap.size = w.heap.size + 1 := alloc_size _ _
  have hR2 : ((w.alloc (.cells #[.string ⟨#[97]⟩, .int .i64 1, .int .i64 0, .int .i64 0, .slice none 0 0, .int .i64 m, .int .i64 q] 38)).alloc (.cells #[.int .u8 6, .int .u8 Nx, .int .i64 0, .slice none 0 0] 44)).heap.size = w.heap.size + 1 + 1 := by rw [alloc_size, hR1]
  have B1 : Hid ((((w.alloc (.cells #[.string ⟨#[97]⟩, .int .i64 1, .int .i64 0, .int .i64 0, .slice none 0 0, .int .i64 m, .int .i64 q] 38)).alloc (.cells #[.int .u8 6, .int .u8 Nx, .int .i64 0, .slice none 0 0] 44)).alloc (.cells #[.int .i64 0, .slice none 0 0] 42)).heap[w.heap.size + 1]? = some (.cells #[.int .u8 6, .int .u8 Nx, .int .i64 0, .slice none 0 0] 44 (0, 0))) := by
    show _ = _
    refine bk_kept ?_ (World.grownBy_alloc _ _ _)
    rw [← hR1]; exact bk_alloc _ _
  have B2 : Hid ((((w.alloc (.cells #[.string ⟨#[97]⟩, .int .i64 1, .int .i64 0, .int .i64 0, .slice none 0 0, .int .i64 m, .int .i64 q] 38)).alloc (.cells #[.int .u8 6, .int .u8 Nx, .int .i64 0, .slice none 0 0] 44)).alloc (.cells #[.int .i64 0, .slice none 0 0] 42)).heap[w.heap.size + 1 + 1]? = some (.cells #[.int .i64 0, .slice none 0 0] 42 (0, 0))) := by
    show _ = _
    rw [← hR2]; exact bk_alloc _ _
  clear hP hL hq hG0 hR1 hR2
  go_enter Tryd.func9, Tryd.ntmps9
  go_wp2_with (at_builtin; go_must (with_reducible refine app_part (o := ⟨some 25, _, _, _, _, _⟩) rfl _ _ rfl w.heap.size B (.slice none 0 0) (.slice (some ⟨b, o + m, none⟩) q (c - m)) [] G0 ?_ (Owns.nil _ _) ?_ (HS.out.stays H3.out) ?_ ?_ ?_); go_must (exact rfl); go_must (exact congrArg (fun z => Value.slice (some ⟨b, o + m, none⟩) z (c - m)) (Nat.add_sub_cancel_left m q)); go_must ((have := hlen.out; simp; omega)); go_must (exact H3.out.size); go_must ((intro v2 w2 ho2 hg2; have hg3 := World.grownBy.trans hg2 (World.grownBy.refl w2 none); have b1 := bk_kept B1.out hg3; have b2 := bk_kept B2.out hg3; have HB2 := Lib.hid b2; have HO2 := Lib.hid ho2; have HG2 := Lib.hid (World.grownBy.trans H3.out hg3); obtain ⟨a3, c3, e3, hq3, _⟩ := ho2.form; have e4 : v2 = .slice a3 q c3 := (by rw [e3]; simp [hlen.out]); clear e3; subst e4; have hqc : q ≤ c3 := (by have := hlen.out; simp at hq3; omega); have r0 := (bk_cell b1 0 _ rfl).1; have r1 := (bk_cell b1 1 _ rfl).1; obtain ⟨p0, f0⟩ := bk_cell b2 0 _ rfl; obtain ⟨p1, f1⟩ := bk_cell b2 1 _ rfl; clear b1 b2 ho2 hg2 hg3 hq3)))
  obtain ⟨G1, O1⟩ := got_end (by omega) HB2.out HG2.out HO2.out (kv := .int .i64 1)
  refine bodyPost_ret (v := .agg #[.int .i64 1, .slice a3 G0.length c3]) (by simp [results, Tryd.results9, go_sem, p0, p1, f0, f1, hlen.out]) rfl ⟨a3, c3, rfl, ?_, G1⟩
  have := O1.part (by have := bk_size HB2.out; simp [World.setCell]; omega)
  rw [hlen.out]
  exact this
set_option maxHeartbeats 8000000 in
theorem got_short1 (n c m q B : Nat) (N : Nat) (a : Option Addr) (L : List UInt8) (w : World) (hL : L.length = n) (hn : n ≤ 10000) (hP : Part w B (.slice a n c) L) (hB : B ≤ w.heap.size) (hm : m < n) (hq : min 64 (n - m) = q) (hN : N ≤ 255) (hNq : N < q) :
    Calls Tryd.prog 9 #[.slice a n c, .agg #[.string ⟨#[97]⟩, .int .i64 1, .int .i64 0, .int .i64 0, .slice none 0 0, .int .i64 m, .int .i64 q], .agg #[.int .u8 5, .int .u8 (N : Int), .int .i64 0, .slice none 0 0]] w (GotRet w 0 (((L.drop m).take q).take N)) := by
  obtain ⟨b, o, rfl, hc⟩ := hP.addr hL (by omega)
  have HP := Lib.hid hP
  have HL := Lib.hid hL
  have HS := Lib.hid (hP.sub hL m q (by omega) (by omega))
  have hqn : m + q ≤ n := by omega
  have hq0 : 0 < q := by omega
  have hq64 : q ≤ 64 := by omega
  have hNi : (N : Int) ≤ 255 := by omega
  have hN0 : (0 : Int) ≤ N := by omega
  have hNq1 : (N : Int) < q := by omega
  have hlen : Hid (((L.drop m).take q).length = q) := by show _ = _; rw [List.length_take, List.length_drop]; omega
  obtain ⟨G0, hG0⟩ : ∃ G0, (L.drop m).take q = G0 := ⟨_, rfl⟩
  rw [hG0] at HS hlen ⊢
  have H3 : Hid (w.grownBy (((w.alloc (.cells #[.string ⟨#[97]⟩, .int .i64 1, .int .i64 0, .int .i64 0, .slice none 0 0, .int .i64 m, .int .i64 q] 38)).alloc (.cells #[.int .u8 5, .int .u8 (N : Int), .int .i64 0, .slice none 0 0] 44)).alloc (.cells #[.int .i64 0, .slice none 0 0] 42)) none) := grown_alloc _ (grown_alloc _ (World.grownBy_alloc _ _ _))
  have hR1 : (w.alloc (.cells #[.string ⟨#[97]⟩, .int .i64 1, .int .i64 0, .int .i64 0, .slice none 0 0, .int .i64 m, .int .i64 q] 38)).heap.size = w.heap.size + 1 := alloc_size _ _
  have hR2 : ((w.alloc (.cells #[.string ⟨#[97]⟩, .int .i64 1, .int .i64 0, .int .i64 0, .slice none 0 0, .int .i64 m, .int .i64 q] 38)).alloc (.cells #[.int .u8 5, .int .u8 (N : Int), .int .i64 0, .slice none 0 0] 44)).heap.size = w.heap.size + 1 + 1 := by rw [alloc_size, hR1]
  have B1 : Hid ((((w.alloc (.cells #[.string ⟨#[97]⟩, .int .i64 1, .int .i64 0, .int .i64 0, .slice none 0 0, .int .i64 m, .int .i64 q] 38)).alloc (.cells #[.int .u8 5, .int .u8 (N : Int), .int .i64 0, .slice none 0 0] 44)).alloc (.cells #[.int .i64 0, .slice none 0 0] 42)).heap[w.heap.size + 1]? = some (.cells #[.int .u8 5, .int .u8 (N : Int), .int .i64 0, .slice none 0 0] 44 (0, 0))) := by
    show _ = _
    refine bk_kept ?_ (World.grownBy_alloc _ _ _)
    rw [← hR1]; exact bk_alloc _ _
  have B2 : Hid ((((w.alloc (.cells #[.string ⟨#[97]⟩, .int .i64 1, .int .i64 0, .int .i64 0, .slice none 0 0, .int .i64 m, .int .i64 q] 38)).alloc (.cells #[.int .u8 5, .int .u8 (N : Int), .int .i64 0, .slice none 0 0] 44)).alloc (.cells #[.int .i64 0, .slice none 0 0] 42)).heap[w.heap.size + 1 + 1]? = some (.cells #[.int .i64 0, .slice none 0 0] 42 (0, 0))) := by
    show _ = _
    rw [← hR2]; exact bk_alloc _ _
  clear hP hL hq hG0 hR1 hR2
  go_enter Tryd.func9, Tryd.ntmps9
  go_wp2_with (at_builtin; go_must (with_reducible refine app_part (o := ⟨some 25, _, _, _, _, _⟩) rfl _ _ rfl w.heap.size B (.slice none 0 0) (.slice (some ⟨b, o + m, none⟩) q (c - m)) [] G0 ?_ (Owns.nil _ _) ?_ (HS.out.stays H3.out) ?_ ?_ ?_); go_must (exact rfl); go_must (exact congrArg (fun z => Value.slice (some ⟨b, o + m, none⟩) z (c - m)) (Nat.add_sub_cancel_left m q)); go_must ((have := hlen.out; simp; omega)); go_must (exact H3.out.size); go_must ((intro v2 w2 ho2 hg2; have hg3 := World.grownBy.trans hg2 (World.grownBy.refl w2 none); have b1 := bk_kept B1.out hg3; have b2 := bk_kept B2.out hg3; have HB2 := Lib.hid b2; have HO2 := Lib.hid ho2; have HG2 := Lib.hid (World.grownBy.trans H3.out hg3); obtain ⟨a3, c3, e3, hq3, _⟩ := ho2.form; have e4 : v2 = .slice a3 q c3 := (by rw [e3]; simp [hlen.out]); clear e3; subst e4; have hqc : q ≤ c3 := (by have := hlen.out; simp at hq3; omega); have r0 := (bk_cell b1 0 _ rfl).1; have r1 := (bk_cell b1 1 _ rfl).1; obtain ⟨p0, f0⟩ := bk_cell b2 0 _ rfl; obtain ⟨p1, f1⟩ := bk_cell b2 1 _ rfl; clear b1 b2 ho2 hg2 hg3 hq3; have hkc : N ≤ c3 := (by omega))))
  obtain ⟨G1, P1⟩ := got_cut (k := N) (u := .slice a3 N c3) (by omega) HB2.out HG2.out HO2.out (by simpa using hlen.out) (by omega) (kv := .int .i64 0)
  have hlk : ((G0).take N).length = N := by rw [List.length_take, hlen.out]; have := (by omega); omega
  refine bodyPost_ret (v := .agg #[.int .i64 0, .slice a3 ((G0).take N).length c3]) (by simp [results, Tryd.results9, go_sem, p0, p1, f0, f1, hlk]) rfl ⟨a3, c3, rfl, ?_, G1⟩
  rw [hlk]
  exact P1
set_option maxHeartbeats 8000000 in
theorem got_short2 (n c m q B : Nat) (N : Nat) (a : Option Addr) (L : List UInt8) (w : World) (hL : L.length = n) (hn : n ≤ 10000) (hP : Part w B (.slice a n c) L) (hB : B ≤ w.heap.size) (hm : m < n) (hq : min 64 (n - m) = q) (hN : N ≤ 255) (hNq : q < N) :
    Calls Tryd.prog 9 #[.slice a n c, .agg #[.string ⟨#[97]⟩, .int .i64 1, .int .i64 0, .int .i64 0, .slice none 0 0, .int .i64 m, .int .i64 q], .agg #[.int .u8 5, .int .u8 (N : Int), .int .i64 0, .slice none 0 0]] w (GotRet w 0 (((L.drop m).take q).take q)) := by
  obtain ⟨b, o, rfl, hc⟩ := hP.addr hL (by omega)
  have HP := Lib.hid hP
  have HL := Lib.hid hL
  have HS := Lib.hid (hP.sub hL m q (by omega) (by omega))
  have hqn : m + q ≤ n := by omega
  have hq0 : 0 < q := by omega
  have hq64 : q ≤ 64 := by omega
  have hNi : (N : Int) ≤ 255 := by omega
  have hN0 : (0 : Int) ≤ N := by omega
  have hNq1 : (q : Int) < N := by omega
  have hlen : Hid (((L.drop m).take q).length = q) := by show _ = _; rw [List.length_take, List.length_drop]; omega
  obtain ⟨G0, hG0⟩ : ∃ G0, (L.drop m).take q = G0 := ⟨_, rfl⟩
  rw [hG0] at HS hlen ⊢
  have H3 : Hid (w.grownBy (((w.alloc (.cells #[.string ⟨#[97]⟩, .int .i64 1, .int .i64 0, .int .i64 0, .slice none 0 0, .int .i64 m, .int .i64 q] 38)).alloc (.cells #[.int .u8 5, .int .u8 (N : Int), .int .i64 0, .slice none 0 0] 44)).alloc (.cells #[.int .i64 0, .slice none 0 0] 42)) none) := grown_alloc _ (grown_alloc _ (World.grownBy_alloc _ _ _))
  have hR1 : (w.alloc (.cells #[.string ⟨#[97]⟩, .int .i64 1, .int .i64 0, .int .i64 0, .slice none 0 0, .int .i64 m, .int .i64 q] 38)).heap.size = w.heap.size + 1 := alloc_size _ _
  have hR2 : ((w.alloc (.cells #[.string ⟨#[97]⟩, .int .i64 1, .int .i64 0, .int .i64 0, .slice none 0 0, .int .i64 m, .int .i64 q] 38)).alloc (.cells #[.int .u8 5, .int .u8 (N : Int), .int .i64 0, .slice none 0 0] 44)).heap.size = w.heap.size + 1 + 1 := by rw [alloc_size, hR1]
  have B1 : Hid ((((w.alloc (.cells #[.string ⟨#[97]⟩, .int .i64 1, .int .i64 0, .int .i64 0, .slice none 0 0, .int .i64 m, .int .i64 q] 38)).alloc (.cells #[.int .u8 5, .int .u8 (N : Int), .int .i64 0, .slice none 0 0] 44)).alloc (.cells #[.int .i64 0, .slice none 0 0] 42)).heap[w.heap.size + 1]? = some (.cells #[.int .u8 5, .int .u8 (N : Int), .int .i64 0, .slice none 0 0] 44 (0, 0))) := by
    show _ = _
    refine bk_kept ?_ (World.grownBy_alloc _ _ _)
    rw [← hR1]; exact bk_alloc _ _
  have B2 : Hid ((((w.alloc (.cells #[.string ⟨#[97]⟩, .int .i64 1, .int .i64 0, .int .i64 0, .slice none 0 0, .int .i64 m, .int .i64 q] 38)).alloc (.cells #[.int .u8 5, .int .u8 (N : Int), .int .i64 0, .slice none 0 0] 44)).alloc (.cells #[.int .i64 0, .slice none 0 0] 42)).heap[w.heap.size + 1 + 1]? = some (.cells #[.int .i64 0, .slice none 0 0] 42 (0, 0))) := by
    show _ = _
    rw [← hR2]; exact bk_alloc _ _
  clear hP hL hq hG0 hR1 hR2
  go_enter Tryd.func9, Tryd.ntmps9
  go_wp2_with (at_builtin; go_must (with_reducible refine app_part (o := ⟨some 25, _, _, _, _, _⟩) rfl _ _ rfl w.heap.size B (.slice none 0 0) (.slice (some ⟨b, o + m, none⟩) q (c - m)) [] G0 ?_ (Owns.nil _ _) ?_ (HS.out.stays H3.out) ?_ ?_ ?_); go_must (exact rfl); go_must (exact congrArg (fun z => Value.slice (some ⟨b, o + m, none⟩) z (c - m)) (Nat.add_sub_cancel_left m q)); go_must ((have := hlen.out; simp; omega)); go_must (exact H3.out.size); go_must ((intro v2 w2 ho2 hg2; have hg3 := World.grownBy.trans hg2 (World.grownBy.refl w2 none); have b1 := bk_kept B1.out hg3; have b2 := bk_kept B2.out hg3; have HB2 := Lib.hid b2; have HO2 := Lib.hid ho2; have HG2 := Lib.hid (World.grownBy.trans H3.out hg3); obtain ⟨a3, c3, e3, hq3, _⟩ := ho2.form; have e4 : v2 = .slice a3 q c3 := (by rw [e3]; simp [hlen.out]); clear e3; subst e4; have hqc : q ≤ c3 := (by have := hlen.out; simp at hq3; omega); have r0 := (bk_cell b1 0 _ rfl).1; have r1 := (bk_cell b1 1 _ rfl).1; obtain ⟨p0, f0⟩ := bk_cell b2 0 _ rfl; obtain ⟨p1, f1⟩ := bk_cell b2 1 _ rfl; clear b1 b2 ho2 hg2 hg3 hq3; have hkc : q ≤ c3 := (by omega))))
  obtain ⟨G1, P1⟩ := got_cut (k := q) (u := .slice a3 q c3) (by omega) HB2.out HG2.out HO2.out (by simpa using hlen.out) (by omega) (kv := .int .i64 0)
  have hlk : ((G0).take q).length = q := by rw [List.length_take, hlen.out]; have := (by omega); omega
  refine bodyPost_ret (v := .agg #[.int .i64 0, .slice a3 ((G0).take q).length c3]) (by simp [results, Tryd.results9, go_sem, p0, p1, f0, f1, hlk]) rfl ⟨a3, c3, rfl, ?_, G1⟩
  rw [hlk]
  exact P1
set_option maxHeartbeats 8000000 in
theorem got_short3 (n c m q B : Nat) (a : Option Addr) (L : List UInt8) (w : World) (hL : L.length = n) (hn : n ≤ 10000) (hP : Part w B (.slice a n c) L) (hB : B ≤ w.heap.size) (hm : m < n) (hq : min 64 (n - m) = q)  :
    Calls Tryd.prog 9 #[.slice a n c, .agg #[.string ⟨#[97]⟩, .int .i64 1, .int .i64 0, .int .i64 0, .slice none 0 0, .int .i64 m, .int .i64 q], .agg #[.int .u8 5, .int .u8 (q : Int), .int .i64 0, .slice none 0 0]] w (GotRet w 0 (((L.drop m).take q).take q)) := by
  obtain ⟨b, o, rfl, hc⟩ := hP.addr hL (by omega)
  have HP := Lib.hid hP
  have HL := Lib.hid hL
  have HS := Lib.hid (hP.sub hL m q (by omega) (by omega))
  have hqn : m + q ≤ n := by omega
  have hq0 : 0 < q := by omega
  have hq64 : q ≤ 64 := by omega
  have hNi : (q : Int) ≤ 255 := by omega
  have hNq1 : (q : Int) ≤ 255 := by omega
  have hlen : Hid (((L.drop m).take q).length = q) := by show _ = _; rw [List.length_take, List.length_drop]; omega
  obtain ⟨G0, hG0⟩ : ∃ G0, (L.drop m).take q = G0 := ⟨_, rfl⟩
  rw [hG0] at HS hlen ⊢
  have H3 : Hid (w.grownBy (((w.alloc (.cells #[.string ⟨#[97]⟩, .int .i64 1, .int .i64 0, .int .i64 0, .slice none 0 0, .int .i64 m, .int .i64 q] 38)).alloc (.cells #[.int .u8 5, .int .u8 (q : Int), .int .i64 0, .slice none 0 0] 44)).alloc (.cells #[.int .i64 0, .slice none 0 0] 42)) none) := grown_alloc _ (grown_alloc _ (World.grownBy_alloc _ _ _))
  have hR1 : (w.alloc (.cells #[.string ⟨#[97]⟩, .int .i64 1, .int .i64 0, .int .i64 0, .slice none 0 0, .int .i64 m, .int .i64 q] 38)).heap.size = w.heap.size + 1 := alloc_size _ _
  have hR2 : ((w.alloc (.cells #[.string ⟨#[97]⟩, .int .i64 1, .int .i64 0, .int .i64 0, .slice none 0 0, .int .i64 m, .int .i64 q] 38)).alloc (.cells #[.int .u8 5, .int .u8 (q : Int), .int .i64 0, .slice none 0 0] 44)).heap.size = w.heap.size + 1 + 1 := by rw [alloc_size, hR1]
  have B1 : Hid ((((w.alloc (.cells #[.string ⟨#[97]⟩, .int .i64 1, .int .i64 0, .int .i64 0, .slice none 0 0, .int .i64 m, .int .i64 q] 38)).alloc (.cells #[.int .u8 5, .int .u8 (q : Int), .int .i64 0, .slice none 0 0] 44)).alloc (.cells #[.int .i64 0, .slice none 0 0] 42)).heap[w.heap.size + 1]? = some (.cells #[.int .u8 5, .int .u8 (q : Int), .int .i64 0, .slice none 0 0] 44 (0, 0))) := by
    show _ = _
    refine bk_kept ?_ (World.grownBy_alloc _ _ _)
    rw [← hR1]; exact bk_alloc _ _
  have B2 : Hid ((((w.alloc (.cells #[.string ⟨#[97]⟩, .int .i64 1, .int .i64 0, .int .i64 0, .slice none 0 0, .int .i64 m, .int .i64 q] 38)).alloc (.cells #[.int .u8 5, .int .u8 (q : Int), .int .i64 0, .slice none 0 0] 44)).alloc (.cells #[.int .i64 0, .slice none 0 0] 42)).heap[w.heap.size + 1 + 1]? = some (.cells #[.int .i64 0, .slice none 0 0] 42 (0, 0))) := by
    show _ = _
    rw [← hR2]; exact bk_alloc _ _
  clear hP hL hq hG0 hR1 hR2
  go_enter Tryd.func9, Tryd.ntmps9
  go_wp2_with (at_builtin; go_must (with_reducible refine app_part (o := ⟨some 25, _, _, _, _, _⟩) rfl _ _ rfl w.heap.size B (.slice none 0 0) (.slice (some ⟨b, o + m, none⟩) q (c - m)) [] G0 ?_ (Owns.nil _ _) ?_ (HS.out.stays H3.out) ?_ ?_ ?_); go_must (exact rfl); go_must (exact congrArg (fun z => Value.slice (some ⟨b, o + m, none⟩) z (c - m)) (Nat.add_sub_cancel_left m q)); go_must ((have := hlen.out; simp; omega)); go_must (exact H3.out.size); go_must ((intro v2 w2 ho2 hg2; have hg3 := World.grownBy.trans hg2 (World.grownBy.refl w2 none); have b1 := bk_kept B1.out hg3; have b2 := bk_kept B2.out hg3; have HB2 := Lib.hid b2; have HO2 := Lib.hid ho2; have HG2 := Lib.hid (World.grownBy.trans H3.out hg3); obtain ⟨a3, c3, e3, hq3, _⟩ := ho2.form; have e4 : v2 = .slice a3 q c3 := (by rw [e3]; simp [hlen.out]); clear e3; subst e4; have hqc : q ≤ c3 := (by have := hlen.out; simp at hq3; omega); have r0 := (bk_cell b1 0 _ rfl).1; have r1 := (bk_cell b1 1 _ rfl).1; obtain ⟨p0, f0⟩ := bk_cell b2 0 _ rfl; obtain ⟨p1, f1⟩ := bk_cell b2 1 _ rfl; clear b1 b2 ho2 hg2 hg3 hq3; have hkc : q ≤ c3 := (by omega))))
  obtain ⟨G1, P1⟩ := got_cut (k := q) (u := .slice a3 q c3) (by omega) HB2.out HG2.out HO2.out (by simpa using hlen.out) (by omega) (kv := .int .i64 0)
  have hlk : ((G0).take q).length = q := by rw [List.length_take, hlen.out]; have := (by omega); omega
  refine bodyPost_ret (v := .agg #[.int .i64 0, .slice a3 ((G0).take q).length c3]) (by simp [results, Tryd.results9, go_sem, p0, p1, f0, f1, hlk]) rfl ⟨a3, c3, rfl, ?_, G1⟩
  rw [hlk]
  exact P1
theorem got_short (n c m q B N : Nat) (a : Option Addr) (L : List UInt8) (w : World) (hL : L.length = n) (hn : n ≤ 10000) (hP : Part w B (.slice a n c) L) (hB : B ≤ w.heap.size) (hm : m < n) (hq : min 64 (n - m) = q) (hN : N ≤ 255) :
    Calls Tryd.prog 9 #[.slice a n c, .agg #[.string ⟨#[97]⟩, .int .i64 1, .int .i64 0, .int .i64 0, .slice none 0 0, .int .i64 m, .int .i64 q], .agg #[.int .u8 5, .int .u8 (N : Int), .int .i64 0, .slice none 0 0]] w (GotRet w 0 (((L.drop m).take q).take (min N q))) := by
  by_cases h : N < q
  · rw [Nat.min_eq_left (by omega)]; exact got_short1 n c m q B N a L w hL hn hP hB hm hq hN h
  · rw [Nat.min_eq_right (by omega)]; by_cases h2 : q = N
    · subst h2; exact got_short3 n c m q B a L w hL hn hP hB hm hq
    · exact got_short2 n c m q B N a L w hL hn hP hB hm hq hN (by omega)
end Go.Proofs.YtfpehdldgnfciaaDoor
