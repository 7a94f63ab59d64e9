/- The library's stable sort over pins that stand in order, however many. -/
import Derived.Test.YthdopcdllggdaaaGreatDoorKkM
namespace Go.Proofs.YthdopcdllggdaaaGreatDoor
open Go.RowKit Go.Sort

set_option maxRecDepth 1000000
theorem ins_ord (w : World) (base g n cap : Nat) (L : List Pc) (hO : OwnsP w base (.slice (some ⟨g, 0, none⟩) n cap) L) (hn : L.length = n) (hn2 : n ≤ 1000000) (ho : OrdP L) (a b : Nat) (hab : a ≤ b) (hb : b ≤ n) :
    Calls Tryz.prog 58 #[.slice (some ⟨g, 0, none⟩) n cap, .int .i64 (a : Int), .int .i64 (b : Int), cmpN] w fun e w' => e = .returned (.tuple #[]) ∧ OwnsP w' base (.slice (some ⟨g, 0, none⟩) n cap) L ∧ w.grownBy w' (some g) := by
  have hs : L.toArray.size = n := by simp [hn]
  have hg : g < w.heap.size := (hO.block_lt g rfl).2
  have h := Tryz.slices_insertionSort 37 Tryz.isAgg35 Tryz.sizeOf35 Pc.enc enc_len enc_one (fun x y => cmpB x.name y.name) 20 #[] g 0 cap a b L.toArray w (enters_of Tryz.func20 (by kernel_rfl) rfl) (cmpLays_name _ _ _ _) (holds_of hO) hg hab (by rw [hs]; exact hb) (by rw [hs]; omega)
  rw [lt_eq, sort_ord L.toArray (by simpa using ho) a b (by rw [hs]; exact hb), hs] at h
  refine h.mono fun e w' ⟨h1, q, os, h2⟩ => ⟨h1, ?_⟩
  rw [h2]
  exact owns_sorted hO hn hn
theorem grown_any {w w' : World} (g : Nat) (h : w.grownBy w' none) : w.grownBy w' (some g) := ⟨h.os, h.tape, h.output, h.size, fun k hk _ => h.block k hk (by simp)⟩
/-- How the sort stands: nothing has moved. -/
structure Still (w : World) (base g n cap : Nat) (L : List Pc) (w' : World) : Prop where
  own : OwnsP w' base (.slice (some ⟨g, 0, none⟩) n cap) L
  grown : w.grownBy w' (some g)
theorem Still.next {w w1 w2 : World} {base g n cap : Nat} {L : List Pc} (h : Still w base g n cap L w1) (h1 : OwnsP w2 base (.slice (some ⟨g, 0, none⟩) n cap) L) (h2 : w1.grownBy w2 (some g)) : Still w base g n cap L w2 := ⟨h1, World.grownBy.trans h.grown h2⟩
theorem Still.merge {w w1 w2 : World} {base g n cap : Nat} {L : List Pc} (h : Still w base g n cap L w1) (h2 : w1.grownBy w2 none) : Still w base g n cap L w2 := h.next (h.own.stays h2) (grown_any g h2)
set_option maxHeartbeats 4000000 in
theorem stable_ord (n : Nat) (L : List Pc) (ho : OrdP L) (hn2 : n ≤ 100000) (w : World) (base g cap : Nat) (hO : OwnsP w base (.slice (some ⟨g, 0, none⟩) n cap) L) (hn : L.length = n) :
    Calls Tryz.prog 51 #[.slice (some ⟨g, 0, none⟩) n cap, .int .i64 n, cmpN] w fun e w' => e = .returned (.tuple #[]) ∧ OwnsP w' base (.slice (some ⟨g, 0, none⟩) n cap) L ∧ w.grownBy w' (some g) := by
  have HORD := Lib.hid ho
  have HN := Lib.hid hn
  have HO := Lib.hid hO
  clear ho hn hO
  go_enter Tryz.func51, Tryz.ntmps51
  go_wp2
  go_loopw [7, 8] (fun a b wr => ∃ aa : Nat, aa ≤ n ∧ a = .int .i64 aa ∧ b = .int .i64 ((aa : Int) + 20) ∧ Hid (Still w base g n cap L wr)) (fun a _ _ => n - (intOf a).toNat)
  case atStart => exact ⟨0, by omega, rfl, rfl, Lib.hid ⟨HO.out, World.grownBy.refl _ _⟩⟩
  case round =>
    obtain ⟨aa, ha, rfl, rfl, HS⟩ := hrel
    by_cases hle : aa + 20 ≤ n
    · have f1 : (aa : Int) + 20 ≤ (n : Int) := by omega
      have HI := Lib.hid (ins_ord wr base g n cap L HS.out.own HN.out (by omega) HORD.out aa (aa + 20) (by omega) hle)
      rw [show ((aa + 20 : Nat) : Int) = (aa : Int) + 20 from rfl] at HI
      go_wp2_with fail
      refine HI.out.mono ?_
      rintro ee w1 ⟨rfl, h1, h2⟩
      have HS1 := Lib.hid (HS.out.next h1 h2)
      clear h1 h2
      dsimp only
      go_wp2_with fail
      go_roundw
      case rel => exact ⟨aa + 20, hle, by go_num, by go_num, HS1⟩
      case measure => simp [intOf]; omega
    · have f1 : ¬ (aa : Int) + 20 ≤ (n : Int) := by omega
      have HI := Lib.hid (ins_ord wr base g n cap L HS.out.own HN.out (by omega) HORD.out aa n (by omega) (Nat.le_refl _))
      go_wp2_with fail
      refine HI.out.mono ?_
      rintro ee w1 ⟨rfl, h1, h2⟩
      have HS1 := Lib.hid (HS.out.next h1 h2)
      clear h1 h2 HS
      dsimp only
      go_wp2_with fail
      go_loopw [6] (fun s wq => ∃ bs : Nat, 20 ≤ bs ∧ bs ≤ 200000 ∧ s = .int .i64 bs ∧ Hid (Still w base g n cap L wq)) (fun s _ => n - (intOf s).toNat)
      case atStart => exact ⟨20, by omega, by omega, rfl, HS1⟩
      case round =>
        obtain ⟨bs, hb1, hb2, rfl, HQ⟩ := hrel
        by_cases hbn : bs < n
        · have f2 : (bs : Int) < (n : Int) := by omega
          go_wp2_with fail
          go_loopw [7, 8] (fun a b wi => ∃ x : Nat, x ≤ n ∧ a = .int .i64 x ∧ b = .int .i64 ((x : Int) + 2 * (bs : Int)) ∧ Hid (Still w base g n cap L wi)) (fun a _ _ => n - (intOf a).toNat)
          case atStart => exact ⟨0, by omega, rfl, by simp, HQ⟩
          case round =>
            obtain ⟨x, hx, rfl, rfl, HX⟩ := hrel
            by_cases hle2 : x + 2 * bs ≤ n
            · have f3 : (x : Int) + 2 * (bs : Int) ≤ (n : Int) := by omega
              have HI := Lib.hid (sym_noop wr base g n cap L HX.out.own HN.out (by omega) HORD.out (2 * bs) x (x + bs) (x + 2 * bs) (by omega) (by omega) (by omega) hle2 wr (World.grownBy.refl _ _))
              rw [show ((x + 2 * bs : Nat) : Int) = (x : Int) + 2 * (bs : Int) by omega, show ((x + bs : Nat) : Int) = (x : Int) + (bs : Int) by omega] at HI
              go_wp2_with fail
              refine HI.out.mono ?_
              rintro ee w3 ⟨rfl, h1⟩
              have HX1 := Lib.hid (HX.out.merge h1)
              clear h1
              dsimp only
              go_wp2_with fail
              go_roundw
              case rel => exact ⟨x + 2 * bs, hle2, by go_num, by go_num, HX1⟩
              case measure => simp [intOf]; omega
            · have f3 : ¬ (x : Int) + 2 * (bs : Int) ≤ (n : Int) := by omega
              by_cases hm : x + bs < n
              · have f4 : (x : Int) + (bs : Int) < (n : Int) := by omega
                have HI := Lib.hid (sym_noop wr base g n cap L HX.out.own HN.out (by omega) HORD.out n x (x + bs) n (by omega) (by omega) hm (Nat.le_refl _) wr (World.grownBy.refl _ _))
                rw [show ((x + bs : Nat) : Int) = (x : Int) + (bs : Int) by omega] at HI
                go_wp2_with fail
                refine HI.out.mono ?_
                rintro ee w3 ⟨rfl, h1⟩
                have HX1 := Lib.hid (HX.out.merge h1)
                clear h1
                dsimp only
                go_wp2_with fail
                go_roundw
                case rel => exact ⟨bs * 2, by omega, by omega, by go_num, HX1⟩
                case measure => simp [intOf]; omega
              · have f4 : ¬ (x : Int) + (bs : Int) < (n : Int) := by omega
                go_wp2_with fail
                go_roundw
                case rel => exact ⟨bs * 2, by omega, by omega, by go_num, HX⟩
                case measure => simp [intOf]; omega
        · have f2 : ¬ (bs : Int) < (n : Int) := by omega
          go_wp2
          go_end0
          exact ⟨rfl, HQ.out.own, HQ.out.grown⟩
set_option maxHeartbeats 2000000 in
theorem stable_of (n : Nat) (L : List Pc) (ho : OrdP L) (hn2 : n ≤ 100000) : StableOk n L := by
  intro w base g cap hO hn
  have HI := Lib.hid (stable_ord n L ho hn2 w base g cap hO hn)
  have HS := Lib.hid (sortP_ord L ho)
  clear hO hn hn2 ho
  go_enter Tryz.func41, Tryz.ntmps41
  go_wp2_with fail
  (refine HI.out.mono ?_)
  rintro ee w1 ⟨rfl, hO, hg⟩
  have HO := Lib.hid hO
  have HG := Lib.hid hg
  clear hO hg
  dsimp only
  go_wp2
  go_end0
  exact ⟨rfl, by rw [HS.out]; exact HO.out, HG.out⟩
end Go.Proofs.YthdopcdllggdaaaGreatDoor
