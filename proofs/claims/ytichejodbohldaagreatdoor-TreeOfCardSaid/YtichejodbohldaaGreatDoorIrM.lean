/- A tree's Remove. -/
import Derived.Test.YtichejodbohldaaGreatDoorIoM
namespace Go.Proofs.YtichejodbohldaaGreatDoor
open Go.RowKit Go.Maps
set_option maxRecDepth 1000000
/-- What is left of a tree, and what is told. -/
def remS (M : Tr) (s : ByteArray) : Int × Tr :=
  if ¬ (Pth.cleanS s).2 = 0 then ((Pth.cleanS s).2, M) else if (Pth.cleanS s).1 = E0 then (54, M) else
  if hasT M (Pth.cleanS s).1 = false then (52, M) else (0, M.filter fun e => !Pth.withinS e.1 (Pth.cleanS s).1)
def lessK {α : Type} (X : As α) (ks : List ByteArray) : As α := X.filter fun e => !memB ks e.1
theorem lessK_nil {α : Type} (X : As α) : lessK X [] = X := List.filter_eq_self.2 fun e _ => rfl
theorem lessK_snoc {α : Type} (X : As α) (ks : List ByteArray) (x : ByteArray) : delA (lessK X ks) x = lessK X (ks ++ [x]) := by
  unfold delA lessK
  rw [List.filter_filter]
  refine List.filter_congr fun e _ => ?_
  unfold memB
  rw [List.any_append]
  by_cases h : e.1 = x
  · subst h; simp
  · have h2 : ¬ x = e.1 := fun e => h e.symm
    simp [h, h2]
theorem less_wkeys (M : Tr) (p : ByteArray) : lessK M (wkeys M p) = M.filter fun e => !Pth.withinS e.1 p := by
  unfold lessK
  refine List.filter_congr fun e he => ?_
  have : memB (wkeys M p) e.1 = Pth.withinS e.1 p := by
    rw [Bool.eq_iff_iff, memB_iff]
    unfold wkeys
    constructor
    · intro h
      obtain ⟨f, hf, e1⟩ := List.mem_map.1 h
      have := (List.mem_filter.1 hf).2
      rw [e1] at this; exact this
    · intro h
      exact List.mem_map.2 ⟨e, List.mem_filter.2 ⟨he, h⟩, rfl⟩
  rw [this]
theorem nds_less (X : As Gn) (ks : List ByteArray) : nds (lessK X ks) = lessK (nds X) ks := (filterA_map Gn.nd X fun p => !memB ks p).symm
set_option maxHeartbeats 8000000 in
theorem remove_any (tb : Nat) (M : Tr) (S : Nat → Prop) (s : ByteArray) (m : Int) (w : World) (h : TreeAt w tb M S) (hI : Inv M) (hm : w.cell? ⟨0, 0, none⟩ = some (.int .i64 m)) :
    Calls Tryz.prog 20 #[.pointer (some ⟨tb, 0, none⟩), .string s] w (PutsRet tb (remS M s) w S) := by
  obtain ⟨⟨mb, X, ht, rfl, h3⟩, h4⟩ := h
  have HT := Lib.hid ht
  have HM := Lib.hid hm
  have H3 := Lib.hid h3
  have H4 := Lib.hid h4
  have hx : X.length ≤ 500 := by have := hI.len; rw [mapA_len] at this; exact this
  have hsz := hI.size
  rcases clean_ways s with ⟨L, hc, hL⟩ | ⟨q, hc, hq, hq1, hq2⟩
  · have HC := Lib.hid hc
    have hps := hL.size
    have HR : Hid (remS (nds X) s = if Pth.joinB L = E0 then (54, nds X) else if hasT (nds X) (Pth.joinB L) = false then (52, nds X) else (0, (nds X).filter fun e => !Pth.withinS e.1 (Pth.joinB L))) := Lib.hid (by unfold remS; rw [hc]; simp)
    obtain ⟨p, hp⟩ : ∃ p, Pth.joinB L = p := ⟨_, rfl⟩
    rw [hp] at HC HR hps
    rcases empty_ways p with h0 | ⟨h0, h01, h02, h03⟩
    · subst h0
      clear ht hm h3 h4 hI hc hL hsz hx hp
      go_enter Tryz.func20, Tryz.ntmps20
      go_wp2_with fail
      (with_reducible refine (clean_at m s _ 0 _ HM.out HC.out).mono ?_)
      rintro e w1 ⟨rfl, hg⟩
      dsimp only
      have HG := Lib.hid hg
      clear hg
      go_wp2
      go_ret
      rw [HR.out]
      simp only [if_true]
      exact puts_same HT.out H3.out H4.out HG.out
    · cases hf : hasT (nds X) p with
      | false =>
        have HF := Lib.hid hf
        clear ht hm h3 h4 hI hc hL hsz hx hp
        go_enter Tryz.func20, Tryz.ntmps20
        go_wp2_with fail
        (with_reducible refine (clean_at m s _ 0 _ HM.out HC.out).mono ?_)
        rintro e w1 ⟨rfl, hg⟩
        dsimp only
        have HG := Lib.hid hg
        clear hg
        go_wp2_with fail
        (with_reducible refine (has_at tb mb X p _ false (HT.out.stays HG.out) (by omega) HF.out).mono ?_)
        rintro e w2 ⟨rfl, hg⟩
        dsimp only
        have HG2 := Lib.hid (World.grownBy.trans HG.out hg)
        clear hg
        go_wp2
        go_ret
        rw [HR.out, if_neg h0, if_pos HF.out]
        exact puts_same HT.out H3.out H4.out HG2.out
      | true =>
        have HF := Lib.hid hf
        obtain ⟨ks, hks⟩ : ∃ ks, wkeys (nds X) p = ks := ⟨_, rfl⟩
        obtain ⟨n, hn⟩ : ∃ n, ks.length = n := ⟨_, rfl⟩
        have hn2 : n ≤ 500 := by
          rw [← hn, ← hks]; unfold wkeys
          rw [List.length_map]
          have h1 := List.length_filter_le (fun e : ByteArray × Nd => Pth.withinS e.1 p) (nds X)
          rw [mapA_len] at h1
          omega
        have HKL : Hid (∀ x ∈ ks, x.size ≤ 1000) := Lib.hid fun x hxk => by
          rw [← hks] at hxk
          obtain ⟨e, he, rfl⟩ := List.mem_map.1 hxk
          obtain ⟨⟨L', _, e1, hL', _⟩, _⟩ := hI.key e (List.mem_filter.1 he).1
          rw [e1]
          have := hL'.size
          omega
        have HKS := Lib.hid hks
        have HN := Lib.hid hn
        have HSZ := Lib.hid hsz
        clear ht hm h3 h4 hI hc hL hsz hp hks hn
        go_enter Tryz.func20, Tryz.ntmps20
        go_wp2_with fail
        (with_reducible refine (clean_at m s _ 0 _ HM.out HC.out).mono ?_)
        rintro e w1 ⟨rfl, hg⟩
        dsimp only
        have HG := Lib.hid hg
        clear hg
        go_wp2_with fail
        (with_reducible refine (has_at tb mb X p _ true (HT.out.stays HG.out) (by omega) HF.out).mono ?_)
        rintro e w2 ⟨rfl, hg⟩
        dsimp only
        have HG2 := Lib.hid (World.grownBy.trans HG.out hg)
        clear hg
        go_wp2_with fail
        (with_reducible refine (within_any tb mb X p _ (HT.out.stays HG2.out) (by omega) (by omega)).mono ?_)
        rw [HKS.out]
        rintro e w3 ⟨a, c, rfl, ho, hg⟩
        rw [HN.out] at ho ⊢
        have HG3 := Lib.hid (World.grownBy.trans HG2.out hg)
        have HO := Lib.hid (ho.mono (Nat.zero_le _))
        clear ho hg
        dsimp only
        go_wp2_with fail
        go_loopw [26] (fun i wr => ∃ j : Nat, j ≤ n ∧ i = .int .i64 (j : Int) ∧ Hid (TreeIn wr tb mb (lessK X (ks.take j)) ∧ OwnsS wr 0 (.slice a n c) ks ∧ Kept w wr (Own tb mb X) ∧ sizeT (nds (lessK X (ks.take j))) ≤ 1048576)) (fun i _ => n - (intOf i).toNat)
        case atStart => exact ⟨0, Nat.zero_le _, rfl, Lib.hid ⟨by rw [List.take_zero, lessK_nil]; exact HT.out.stays HG3.out, HO.out, Kept.ofNone HG3.out _, by rw [List.take_zero, lessK_nil]; exact HSZ.out⟩⟩
        case round =>
          obtain ⟨j, hj, rfl, HS⟩ := hrel
          by_cases hjn : j < n
          · obtain ⟨x, hx'⟩ : ∃ x, ks[j]? = some x := ⟨ks[j]'(by rw [HN.out]; exact hjn), List.getElem?_eq_getElem _⟩
            obtain ⟨g0, hag, hcell⟩ := HS.out.2.1.cellAt j x hx'
            subst hag
            have hxs := HKL.out x (List.mem_of_getElem? hx')
            have HX := Lib.hid hx'
            clear hx'
            go_wp2_with fail
            (with_reducible refine (drop_any tb mb _ x _ HS.out.1 (by omega) (by have := HS.out.2.2.2; omega)).mono ?_)
            rintro e w5 ⟨rfl, ht5, hk5⟩
            have HQ : Hid (TreeIn w5 tb mb (lessK X (ks.take (j + 1))) ∧ OwnsS w5 0 (.slice (some ⟨g0, 0, none⟩) n c) ks ∧ Kept w w5 (Own tb mb X) ∧ sizeT (nds (lessK X (ks.take (j + 1)))) ≤ 1048576) := Lib.hid (by
              rw [take_snocL ks j x HX.out, ← lessK_snoc]
              refine ⟨ht5, HS.out.2.1.keeps hk5 (fun i hi e => OwnsS.notOwn HS.out.1 HS.out.2.1 i hi (two_own e)), HS.out.2.2.1.trans hk5 (fun i e => .inl (two_own e)), ?_⟩
              have h1 := size_del (nds (lessK X (ks.take j))) (HS.out.1.asc.map _) x
              rw [← nds_del] at h1
              have h2 := HS.out.2.2.2
              omega)
            clear ht5 hk5 hcell
            dsimp only
            go_wp2_with fail
            refine ⟨⟨j + 1, by omega, congrArg (Value.int IntKind.i64) (by omega), HQ⟩, ?_⟩
            simp only [intOf]
            omega
          · have e : j = n := by omega
            subst e
            have e1 : ks.take j = ks := List.take_of_length_le (by rw [HN.out]; exact Nat.le_refl _)
            rw [e1] at HS
            clear e1
            go_wp2
            go_ret
            rw [HR.out, if_neg h0, if_neg (by rw [HF.out]; simp)]
            refine ⟨rfl, ⟨⟨mb, lessK X ks, HS.out.1, ?_, fun i hi => ⟨.inl (H3.out i ?_), HS.out.1.own_lt hi⟩⟩, fun i hi => hi.2⟩, HS.out.2.2.1.mono fun i _ e => H3.out i e⟩
            · rw [nds_less, ← HKS.out, less_wkeys]
            · rcases hi with h | h | ⟨f, hf, h⟩
              · exact .inl h
              · exact .inr (.inl h)
              · exact .inr (.inr ⟨f, (List.mem_filter.1 hf).1, h⟩)
  · have HC := Lib.hid hc
    have HR : Hid (remS (nds X) s = (q, nds X)) := Lib.hid (by unfold remS; rw [hc, if_pos hq])
    have q5 : (q == 0) = false := by simp [hq]
    have q4 : (q != 0) = true := by simp [hq]
    clear ht hm h3 h4 hI hc hsz hx
    go_enter Tryz.func20, Tryz.ntmps20
    go_wp2_with fail
    (with_reducible refine (clean_at m s _ q _ HM.out HC.out).mono ?_)
    rintro e w1 ⟨rfl, hg⟩
    dsimp only
    have HG := Lib.hid hg
    clear hg
    go_wp2
    go_ret
    rw [HR.out]
    exact puts_same HT.out H3.out H4.out HG.out
end Go.Proofs.YtichejodbohldaaGreatDoor
