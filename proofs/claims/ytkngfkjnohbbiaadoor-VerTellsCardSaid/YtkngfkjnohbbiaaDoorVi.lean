/- A version's text, as the reference tells it; whether two versions are alike. -/
import Derived.Test.YtkngfkjnohbbiaaDoorVh
import Derived.BigRegion
namespace Go.Proofs.YtkngfkjnohbbiaaDoor
open Go.RowKit

/-- The text behind k marks. -/
def txT (T : ByteArray) (L : List ByteArray) (k : Nat) : ByteArray := if k = 0 then T else T ++ (dashB ++ joinB dotB (L.take k))
theorem txT_first (T x : ByteArray) (L : List ByteArray) (h : L[0]? = some x) : txT T L 1 = T ++ dashB ++ x := by
  unfold txT
  rw [if_neg (by omega), take_snocL L 0 x h, List.take_zero, List.nil_append, joinB_one, ByteArray.append_assoc]
theorem txT_next (T x : ByteArray) (L : List ByteArray) (k : Nat) (hk : 0 < k) (h : L[k]? = some x) : txT T L (k + 1) = txT T L k ++ dotB ++ x := by
  have hl := (List.getElem?_eq_some_iff.1 h).1
  unfold txT
  rw [if_neg (by omega), if_neg (by omega), take_snocL L k x h, joinB_snoc _ _ _ (by
    intro e
    have h1 := congrArg List.length e
    rw [List.length_take, List.length_nil] at h1
    omega)]
  simp only [ByteArray.append_assoc]
theorem txT_size (T : ByteArray) (L : List ByteArray) (k : Nat) : (txT T L k).size ≤ T.size + 1 + sumS L := by
  unfold txT
  split
  · omega
  · have h1 := joinB_le 46 (L.take k)
    have h2 := sumS_take L k
    have h3 : dashB.size = 1 := rfl
    have h4 : (joinB dotB (L.take k)).size ≤ sumS (L.take k) := h1
    rw [ByteArray.size_append, ByteArray.size_append]
    omega

set_option maxRecDepth 1000000
set_option maxHeartbeats 2000000 in
theorem refText_any (B : Nat) (v : Vn) (sl : Value) (w : World) (_hB : B ≤ w.heap.size) (hv : VerAt w B v sl) :
    Calls Tryd.prog 15 #[verV v sl] w fun e w' => e = .returned (.string (textS v)) ∧ w.grownBy w' none := by
  obtain ⟨a, b, c, pre⟩ := v
  obtain ⟨ad, cap, hsl, hcap, hno⟩ := hv.part.form
  subst hsl
  have ha := hv.maj.2
  have hb := hv.min.2
  have hc := hv.pat.2
  simp only at ha hb hc
  have HV := Lib.hid hv
  clear hv
  obtain ⟨n, hn⟩ : ∃ n, pre.length = n := ⟨_, rfl⟩
  have HN := Lib.hid hn
  unfold verV
  simp only
  rw [hn]
  clear hn
  obtain ⟨W0, hW0⟩ : ∃ W0, w.alloc (.cells #[.int .i64 a, .int .i64 b, .int .i64 c, .slice ad n cap] 25) = W0 := ⟨_, rfl⟩
  have hblk : W0.heap[w.heap.size]? = some (.cells #[.int .i64 a, .int .i64 b, .int .i64 c, .slice ad n cap] 25 (0, 0)) := by rw [← hW0]; exact alloc_block w _
  have hg0 : w.grownBy W0 none := by rw [← hW0]; exact World.grownBy_alloc w _ none
  obtain ⟨R, hR⟩ : ∃ R, w.heap.size = R := ⟨_, rfl⟩
  rw [hR] at hblk
  have HBL := Lib.hid hblk
  have HG0 := Lib.hid hg0
  have HWA := Lib.hid hW0
  clear hblk hg0 hW0
  have s1 := decS_size a ha
  have s2 := decS_size b hb
  have s3 := decS_size c hc
  have hdg : ∀ x : Int, x ≤ 9223372036854775807 → ∀ W, W0.grownBy W none → Calls Tryd.prog 23 #[.int .i64 x] W fun e w' => e = .returned (.string (decS x)) ∧ W0.grownBy w' none := by
    intro x hx W hW
    exact (dec_any x hx W).mono fun e w' h => ⟨h.1, by obtain ⟨k, hk⟩ := h.2; rw [hk]; exact grown_drew k hW⟩
  have hda := hdg a ha
  have hdb := hdg b hb
  have hdc := hdg c hc
  have HT := Lib.hid (show textS ⟨a, b, c, pre⟩ = if pre = [] then decS a ++ dotB ++ decS b ++ dotB ++ decS c else decS a ++ dotB ++ decS b ++ dotB ++ decS c ++ (dashB ++ joinB dotB pre) from rfl)
  obtain ⟨sa, hsa⟩ : ∃ x, decS a = x := ⟨_, rfl⟩
  obtain ⟨sb, hsb⟩ : ∃ x, decS b = x := ⟨_, rfl⟩
  obtain ⟨sc, hsc⟩ : ∃ x, decS c = x := ⟨_, rfl⟩
  rw [hsa] at hda s1 HT
  rw [hsb] at hdb s2 HT
  rw [hsc] at hdc s3 HT
  have z1 : sa.size + 1 ≤ 9223372036854775807 := by omega
  have z2 : sa.size + 1 + sb.size ≤ 9223372036854775807 := by omega
  have z3 : sa.size + 1 + sb.size + 1 ≤ 9223372036854775807 := by omega
  have z4 : sa.size + 1 + sb.size + 1 + sc.size ≤ 9223372036854775807 := by omega
  obtain ⟨c0, _⟩ := block_cell HBL.out 0 _ rfl
  obtain ⟨c1, _⟩ := block_cell HBL.out 1 _ rfl
  obtain ⟨c2, _⟩ := block_cell HBL.out 2 _ rfl
  clear hsa hsb hsc hdg
  go_enter Tryd.func15, Tryd.ntmps15
  go_wp2
  rw [HWA.out]
  have hC0 : W0.grownBy { W0 with drawn := W0.drawn + 1 } none := ⟨rfl, rfl, rfl, Nat.le_refl _, fun _ _ _ => rfl⟩
  refine wp_region_quiet (C := fun w' => W0.grownBy w' none) (by kernel_rfl) (by kernel_rfl) hC0 ?_
  refine wpQuiet_step (fun K hK => ?_)
  go_simp
  refine ⟨_, fun W hW => rfl, hK _ ?_⟩
  clear hK K
  refine wpQuiet_step (fun K hK => ?_)
  go_simp
  refine ⟨.int .i64 a, fun W hW => ?_, hK _ ?_⟩
  · rw [hW.cell c0 (by simp)]; exact ⟨rfl, rfl⟩
  clear hK K
  refine wpQuiet_step (fun K hK => ?_)
  go_simp
  refine ⟨.string sa, fun W hW => hda W hW, hK _ ?_⟩
  clear hK K
  refine wpQuiet_step (fun K hK => ?_)
  go_simp
  refine ⟨.string (sa ++ ⟨#[46]⟩), fun W hW => ?_, hK _ ?_⟩
  · rw [if_neg (by omega)]; exact ⟨rfl, rfl⟩
  clear hK K
  refine wpQuiet_step (fun K hK => ?_)
  go_simp
  refine ⟨_, fun W hW => rfl, hK _ ?_⟩
  clear hK K
  refine wpQuiet_step (fun K hK => ?_)
  go_simp
  refine ⟨.int .i64 b, fun W hW => ?_, hK _ ?_⟩
  · rw [hW.cell c1 (by simp)]; exact ⟨rfl, rfl⟩
  clear hK K
  refine wpQuiet_step (fun K hK => ?_)
  go_simp
  refine ⟨.string sb, fun W hW => hdb W hW, hK _ ?_⟩
  clear hK K
  refine wpQuiet_step (fun K hK => ?_)
  go_simp
  refine ⟨.string (sa ++ ⟨#[46]⟩ ++ sb), fun W hW => ?_, hK _ ?_⟩
  · rw [if_neg (by omega)]; exact ⟨rfl, rfl⟩
  clear hK K
  refine wpQuiet_step (fun K hK => ?_)
  go_simp
  refine ⟨.string (sa ++ ⟨#[46]⟩ ++ sb ++ ⟨#[46]⟩), fun W hW => ?_, hK _ ?_⟩
  · rw [if_neg (by omega)]; exact ⟨rfl, rfl⟩
  clear hK K
  refine wpQuiet_step (fun K hK => ?_)
  go_simp
  refine ⟨_, fun W hW => rfl, hK _ ?_⟩
  clear hK K
  refine wpQuiet_step (fun K hK => ?_)
  go_simp
  refine ⟨.int .i64 c, fun W hW => ?_, hK _ ?_⟩
  · rw [hW.cell c2 (by simp)]; exact ⟨rfl, rfl⟩
  clear hK K
  refine wpQuiet_step (fun K hK => ?_)
  go_simp
  refine ⟨.string sc, fun W hW => hdc W hW, hK _ ?_⟩
  clear hK K
  refine wpQuiet_step (fun K hK => ?_)
  go_simp
  refine ⟨.string (sa ++ ⟨#[46]⟩ ++ sb ++ ⟨#[46]⟩ ++ sc), fun W hW => ?_, hK _ ?_⟩
  · rw [if_neg (by omega)]; exact ⟨rfl, rfl⟩
  clear hK K
  refine wpQuiet_step (fun K hK => ?_)
  go_simp
  refine ⟨_, fun W hW => rfl, hK _ ?_⟩
  clear hK K
  refine wpQuiet_nil ?_
  intro W hW
  have hDT : (⟨#[46]⟩ : ByteArray) = dotB := rfl
  rw [hDT]
  obtain ⟨T, hT⟩ : ∃ T, sa ++ dotB ++ sb ++ dotB ++ sc = T := ⟨_, rfl⟩
  have hTs : T.size ≤ 100 := by
    have hd1 : dotB.size = 1 := rfl
    rw [← hT]
    simp only [ByteArray.size_append]
    omega
  rw [hT] at HT ⊢
  have HGW := Lib.hid (World.grownBy.trans HG0.out hW)
  obtain ⟨c3, _⟩ := block_cell (block_kept HBL.out hW) 3 _ rfl
  have HPW := Lib.hid (show PartS W B (.slice ad n cap) pre from by rw [← HN.out]; exact HV.out.part.stays HGW.out)
  have hsum := HV.out.sum
  simp only at hsum
  have hn5 : n ≤ 8000000 := by
    have := HV.out.few
    simp only at this
    have := HN.out
    omega
  clear hW hC0 hda hdb hdc c0 c1 c2 z1 z2 z3 z4 s1 s2 s3 hT hDT
  go_wp2
  go_loopw [3, 4] (fun s i wr => ∃ k : Nat, k ≤ n ∧ i = .int .i64 k ∧ s = .string (txT T pre k) ∧ W = wr) (fun _ i _ => n - (intOf i).toNat)
  case atStart => exact ⟨0, Nat.zero_le _, rfl, rfl, rfl⟩
  case round =>
    obtain ⟨k, hk, rfl, rfl, rfl⟩ := hrel
    have hz := txT_size T pre k
    by_cases hlt : k < n
    · obtain ⟨x, hx⟩ : ∃ x, pre[k]? = some x := ⟨_, List.getElem?_eq_getElem (by rw [HN.out]; exact hlt)⟩
      obtain ⟨bk, o, e1, _, g1⟩ := HPW.out.at k x hx
      subst e1
      have hxs := HV.out.short x (List.mem_of_getElem? hx)
      by_cases h0 : k = 0
      · subst h0
        have HX := Lib.hid (txT_first T x pre hx)
        have e0 : txT T pre 0 = T := rfl
        rw [e0] at hz ⊢
        rw [Nat.add_zero] at g1
        have z5 : T.size + 1 ≤ 9223372036854775807 := by omega
        have z6 : T.size + 1 + x.size ≤ 9223372036854775807 := by omega
        clear hx e0 hz
        go_wp2
        go_roundw
        case rel => exact ⟨1, by omega, rfl, by rw [HX.out]; rfl, trivial⟩
        case measure => simp [intOf]; omega
      · have HX := Lib.hid (txT_next T x pre k (by omega) hx)
        have hne : ((k : Int) == 0) = false := by simp; omega
        have hne2 : ¬ (k : Int) = 0 := by omega
        obtain ⟨t, ht⟩ : ∃ t, txT T pre k = t := ⟨_, rfl⟩
        rw [ht] at hz HX ⊢
        have z5 : t.size + 1 ≤ 9223372036854775807 := by omega
        have z6 : t.size + 1 + x.size ≤ 9223372036854775807 := by omega
        clear hx ht h0
        go_wp2
        go_roundw
        case rel => exact ⟨k + 1, by omega, by go_num, by rw [HX.out]; rfl, trivial⟩
        case measure => simp [intOf]; omega
    · have hkn : k = n := by omega
      subst hkn
      have e : Hid (textS ⟨a, b, c, pre⟩ = txT T pre k) := by
        show _ = _
        rw [HT.out]
        unfold txT
        by_cases h0 : k = 0
        · rw [if_pos h0, if_pos (List.eq_nil_of_length_eq_zero (by rw [HN.out, h0]))]
        · rw [if_neg h0, if_neg (by intro e; have := HN.out; rw [e] at this; exact h0 this.symm), List.take_of_length_le (by rw [HN.out]; exact Nat.le_refl _)]
      clear hlt hk hz
      go_wp2
      go_ret
      exact ⟨by rw [e.out]; rfl, HGW.out⟩
end Go.Proofs.YtkngfkjnohbbiaaDoor
