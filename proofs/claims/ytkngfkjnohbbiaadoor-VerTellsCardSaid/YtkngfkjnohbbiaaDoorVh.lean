/- A version's text: as package ver tells it, as the reference does. -/
import Derived.Test.YtkngfkjnohbbiaaDoorVg
namespace Go.Proofs.YtkngfkjnohbbiaaDoor
open Go.RowKit

def dotB : ByteArray := ⟨#[46]⟩
def dashB : ByteArray := ⟨#[45]⟩
/-- The three numbers' text. -/
def coreT (v : Vn) : ByteArray := decS v.maj ++ dotB ++ decS v.min ++ dotB ++ decS v.pat
/-- THE DOCUMENT's TEXT OF A VERSION. -/
def textS (v : Vn) : ByteArray := if v.pre = [] then coreT v else coreT v ++ (dashB ++ joinB dotB v.pre)
/-- A version whose numbers are ints, and whose marks lie below B. -/
structure VerAt (w : World) (B : Nat) (v : Vn) (sl : Value) : Prop where
  maj : -9223372036854775808 ≤ v.maj ∧ v.maj ≤ 9223372036854775807
  min : -9223372036854775808 ≤ v.min ∧ v.min ≤ 9223372036854775807
  pat : -9223372036854775808 ≤ v.pat ∧ v.pat ≤ 9223372036854775807
  few : v.pre.length ≤ 2000000
  short : ∀ p ∈ v.pre, p.size ≤ 2000000
  sum : sumS v.pre ≤ 8000000
  part : PartS w B sl v.pre
theorem VerAt.stays {w w' : World} {B : Nat} {v : Vn} {sl : Value} (h : VerAt w B v sl) (hg : w.grownBy w' none) : VerAt w' B v sl := { h with part := h.part.stays hg }

theorem join_any (B n cap : Nat) (a : Option Addr) (L : List ByteArray) (w : World) (hn : L.length = n) (hL : n ≤ 8000000) (hS : sumS L ≤ 140737488355328) (hB : B ≤ w.heap.size) (hP : PartS w B (.slice a n cap) L) :
    Calls Tryd.prog 33 #[.slice a n cap, .string ⟨#[46]⟩] w fun e w' => e = .returned (.string (joinB dotB L)) ∧ w.grownBy w' none := by
  subst hn
  obtain ⟨a', cap', b, o, h1, h2, h3, h4, h5, h6⟩ := hP
  have he := Value.slice.inj h1
  by_cases h0 : L.length = 0
  · obtain rfl : L = [] := List.eq_nil_of_length_eq_zero h0
    exact (Tryd.strings_Join_none a cap dotB w).mono fun e w' h => ⟨h.1, by rw [h.2]; exact World.grownBy.refl _ _⟩
  · have ha := h5 (by omega)
    rw [he.1, ha]
    exact (Tryd.strings_Join b o cap L dotB w (fun j x hj => h6 j x hj) (by omega) (by omega) (by rw [he.2.2]; exact h2) (Nat.le_trans (joinB_le 46 L) hS)).mono fun e w' h => ⟨h.1, grown_of_below h.2⟩

set_option maxRecDepth 1000000
set_option maxHeartbeats 2000000 in
theorem text_any (m : Int) (B : Nat) (v : Vn) (sl : Value) (w : World) (hw : Wok m w) (hB : B ≤ w.heap.size) (hv : VerAt w B v sl) :
    Calls Tryd.prog 13 #[verV v sl] w fun e w' => e = .returned (.string (textS v)) ∧ w.grownBy w' none := by
  obtain ⟨a, b, c, pre⟩ := v
  obtain ⟨ad, cap, hsl, hcap, hno⟩ := hv.part.form
  subst hsl
  have ha := hv.maj.2
  have hb := hv.min.2
  have hc := hv.pat.2
  simp only at ha hb hc
  have HV := Lib.hid hv
  have HW := Lib.hid hw
  clear hv hw
  obtain ⟨n, hn⟩ : ∃ n, pre.length = n := ⟨_, rfl⟩
  have HN := Lib.hid hn
  unfold verV
  simp only
  rw [hn]
  clear hn
  obtain ⟨W0, hW0⟩ : ∃ W0, w.alloc (.cells #[.int .i64 a, .int .i64 b, .int .i64 c, .slice ad n cap] 25) = W0 := ⟨_, rfl⟩
  have hblk : W0.heap[w.heap.size]? = some (.cells #[.int .i64 a, .int .i64 b, .int .i64 c, .slice ad n cap] 25 (0, 0)) := by rw [← hW0]; exact alloc_block w _
  have hg0 : w.grownBy W0 none := by rw [← hW0]; exact World.grownBy_alloc w _ none
  obtain ⟨R, hR⟩ : ∃ R, w.heap.size = R := ⟨_, rfl⟩
  rw [hR] at hblk
  have HBL := Lib.hid hblk
  have HG0 := Lib.hid hg0
  have HWA := Lib.hid hW0
  have HR := Lib.hid hR
  clear hblk hg0 hW0
  go_enter Tryd.func13, Tryd.ntmps13
  go_wp2
  rw [HWA.out]
  have hC0 : W0.grownBy { W0 with drawn := W0.drawn + 1 } none := ⟨rfl, rfl, rfl, Nat.le_refl _, fun _ _ _ => rfl⟩
  refine wp_region_quiet (C := fun w' => W0.grownBy w' none) (by kernel_rfl) (by kernel_rfl) hC0 ?_
  obtain ⟨c0, _⟩ := block_cell HBL.out 0 _ rfl
  obtain ⟨c1, _⟩ := block_cell HBL.out 1 _ rfl
  obtain ⟨c2, _⟩ := block_cell HBL.out 2 _ rfl
  have hdg : ∀ x : Int, x ≤ 9223372036854775807 → ∀ W, W0.grownBy W none → Calls Tryd.prog 32 #[.int .i64 x] W fun e w' => e = .returned (.string (decS x)) ∧ W0.grownBy w' none := by
    intro x hx W hW
    exact (digits_any m x hx W (HW.out.stays (World.grownBy.trans HG0.out hW))).mono fun e w' h => ⟨h.1, World.grownBy.trans hW h.2⟩
  have hda := hdg a ha
  have hdb := hdg b hb
  have hdc := hdg c hc
  have s1 := decS_size a ha
  have s2 := decS_size b hb
  have s3 := decS_size c hc
  have HT := Lib.hid (show textS ⟨a, b, c, pre⟩ = if pre = [] then decS a ++ dotB ++ decS b ++ dotB ++ decS c else decS a ++ dotB ++ decS b ++ dotB ++ decS c ++ (dashB ++ joinB dotB pre) from rfl)
  obtain ⟨sa, hsa⟩ : ∃ x, decS a = x := ⟨_, rfl⟩
  obtain ⟨sb, hsb⟩ : ∃ x, decS b = x := ⟨_, rfl⟩
  obtain ⟨sc, hsc⟩ : ∃ x, decS c = x := ⟨_, rfl⟩
  rw [hsa] at hda s1 HT
  rw [hsb] at hdb s2 HT
  rw [hsc] at hdc s3 HT
  have z1 : sa.size + 1 ≤ 9223372036854775807 := by omega
  have z2 : sa.size + 1 + sb.size ≤ 9223372036854775807 := by omega
  have z3 : sa.size + 1 + sb.size + 1 ≤ 9223372036854775807 := by omega
  have z4 : sa.size + 1 + sb.size + 1 + sc.size ≤ 9223372036854775807 := by omega
  clear hsa hsb hsc hdg
  refine wpQuiet_step (fun K hK => ?_)
  go_simp
  refine ⟨_, fun W hW => rfl, hK _ ?_⟩
  clear hK K
  refine wpQuiet_step (fun K hK => ?_)
  go_simp
  refine ⟨.int .i64 a, fun W hW => ?_, hK _ ?_⟩
  · rw [hW.cell c0 (by simp)]; exact ⟨rfl, rfl⟩
  clear hK K
  refine wpQuiet_step (fun K hK => ?_)
  go_simp
  refine ⟨.string sa, fun W hW => hda W hW, hK _ ?_⟩
  clear hK K
  refine wpQuiet_step (fun K hK => ?_)
  go_simp
  refine ⟨.string (sa ++ ⟨#[46]⟩), fun W hW => ?_, hK _ ?_⟩
  · rw [if_neg (by omega)]; exact ⟨rfl, rfl⟩
  clear hK K
  refine wpQuiet_step (fun K hK => ?_)
  go_simp
  refine ⟨_, fun W hW => rfl, hK _ ?_⟩
  clear hK K
  refine wpQuiet_step (fun K hK => ?_)
  go_simp
  refine ⟨.int .i64 b, fun W hW => ?_, hK _ ?_⟩
  · rw [hW.cell c1 (by simp)]; exact ⟨rfl, rfl⟩
  clear hK K
  refine wpQuiet_step (fun K hK => ?_)
  go_simp
  refine ⟨.string sb, fun W hW => hdb W hW, hK _ ?_⟩
  clear hK K
  refine wpQuiet_step (fun K hK => ?_)
  go_simp
  refine ⟨.string (sa ++ ⟨#[46]⟩ ++ sb), fun W hW => ?_, hK _ ?_⟩
  · rw [if_neg (by omega)]; exact ⟨rfl, rfl⟩
  clear hK K
  refine wpQuiet_step (fun K hK => ?_)
  go_simp
  refine ⟨.string (sa ++ ⟨#[46]⟩ ++ sb ++ ⟨#[46]⟩), fun W hW => ?_, hK _ ?_⟩
  · rw [if_neg (by omega)]; exact ⟨rfl, rfl⟩
  clear hK K
  refine wpQuiet_step (fun K hK => ?_)
  go_simp
  refine ⟨_, fun W hW => rfl, hK _ ?_⟩
  clear hK K
  refine wpQuiet_step (fun K hK => ?_)
  go_simp
  refine ⟨.int .i64 c, fun W hW => ?_, hK _ ?_⟩
  · rw [hW.cell c2 (by simp)]; exact ⟨rfl, rfl⟩
  clear hK K
  refine wpQuiet_step (fun K hK => ?_)
  go_simp
  refine ⟨.string sc, fun W hW => hdc W hW, hK _ ?_⟩
  clear hK K
  refine wpQuiet_step (fun K hK => ?_)
  go_simp
  refine ⟨.string (sa ++ ⟨#[46]⟩ ++ sb ++ ⟨#[46]⟩ ++ sc), fun W hW => ?_, hK _ ?_⟩
  · rw [if_neg (by omega)]; exact ⟨rfl, rfl⟩
  clear hK K
  refine wpQuiet_step (fun K hK => ?_)
  go_simp
  refine ⟨_, fun W hW => rfl, hK _ ?_⟩
  clear hK K
  refine wpQuiet_nil ?_
  intro W hW
  have HWW := Lib.hid hW
  have hDT : (⟨#[46]⟩ : ByteArray) = dotB := rfl
  rw [hDT]
  obtain ⟨T, hT⟩ : ∃ T, sa ++ dotB ++ sb ++ dotB ++ sc = T := ⟨_, rfl⟩
  have hTs : T.size ≤ 100 := by
    have hd1 : dotB.size = 1 := rfl
    rw [← hT]
    simp only [ByteArray.size_append]
    omega
  rw [hT] at HT ⊢
  have hJ := joinB_le 46 pre
  have hJs := HV.out.sum
  simp only at hJs
  obtain ⟨J, hJJ⟩ : ∃ J, joinB dotB pre = J := ⟨_, rfl⟩
  have hJ2 : J.size ≤ 8000000 := by
    rw [← hJJ]
    exact Nat.le_trans hJ hJs
  have HJ := Lib.hid hJJ
  rw [hJJ] at HT
  obtain ⟨c3, _⟩ := block_cell (block_kept HBL.out hW) 3 _ rfl
  have hn5 : n ≤ 8000000 := by
    have := HV.out.few
    simp only at this
    have := HN.out
    omega
  clear hW hda hdb hdc s1 s2 s3 z1 z2 z3 z4 c0 c1 c2 hT hJ hJJ hC0 hDT
  by_cases h0 : n = 0
  · have hp : pre = [] := List.eq_nil_of_length_eq_zero (by rw [HN.out, h0])
    have e : Hid (textS ⟨a, b, c, pre⟩ = T) := by show _ = _; rw [HT.out, if_pos hp]
    clear hp
    subst h0
    go_wp2
    go_ret
    exact ⟨by rw [e.out]; rfl, World.grownBy.trans HG0.out HWW.out⟩
  · have hp : ¬ pre = [] := by
      intro e
      have := HN.out
      rw [e] at this
      exact h0 this.symm
    have e : Hid (textS ⟨a, b, c, pre⟩ = T ++ (dashB ++ J)) := by show _ = _; rw [HT.out, if_neg hp]
    have hpos : 0 < (n : Int) := by omega
    have z5 : 1 + J.size ≤ 9223372036854775807 := by omega
    have z6 : T.size + (1 + J.size) ≤ 9223372036854775807 := by omega
    clear hp h0
    go_wp2_with fail
    (with_reducible refine (join_any B n cap ad pre _ HN.out hn5 (by omega) (Nat.le_trans hB (Nat.le_trans HG0.out.size HWW.out.size)) (by
      have h := (HV.out.part.stays HG0.out).stays HWW.out
      rw [← HN.out]
      exact h)).mono ?_)
    rintro ee w2 ⟨rfl, hg2⟩
    dsimp only
    rw [HJ.out]
    have HG2 := Lib.hid hg2
    clear hg2
    go_wp2
    go_ret
    exact ⟨by rw [e.out]; rfl, World.grownBy.trans (World.grownBy.trans HG0.out HWW.out) HG2.out⟩
end Go.Proofs.YtkngfkjnohbbiaaDoor
