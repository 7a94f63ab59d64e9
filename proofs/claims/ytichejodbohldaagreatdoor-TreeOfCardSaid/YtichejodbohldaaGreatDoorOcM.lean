/- A region that draws its order, and whose last operation writes what others have read: whoever waits for all the others need not leave S behind. -/
import Derived.Test.YtichejodbohldaaGreatDoorRows
import Derived.Deep.RegionHeld3
namespace Go.Proofs.YtichejodbohldaaGreatDoor
open Go
section
variable {P : Program} {ops : Array Oper} {Q : Exit → Act → World → Prop} {md : Region.Mode} {S : World → Prop} {L : Nat}
/-- Whatever order is picked, and S holds behind each operation but number L. -/
def OrdX (P : Program) (md : Region.Mode) (ops : Array Oper) (Q : Exit → Act → World → Prop) (S : World → Prop) (L : Nat) : Nat → Array Bool → Act → World → Prop
  | 0, seen, a, w => Region.ready md ops seen = [] ∧ Q .normal a w
  | n + 1, seen, a, w => (Region.ready md ops seen = [] → Q .normal a w) ∧
      ∀ j, j ∈ Region.ready md ops seen → wpOp P ops Q j (fun b v => (j = L ∨ S v) ∧ OrdX P md ops Q S L n (seen.setIfInBounds j true) b v) a w
theorem OrdX.any : ∀ (n : Nat) (seen : Array Bool) (a : Act) (w : World), OrdX P md ops Q S L n seen a w → wpAny P md ops Q n seen a w
  | 0, _, _, _, h => h
  | n + 1, _, _, _, h => ⟨h.1, fun j hj => wpOp_mono (fun b v hb => OrdX.any n _ b v hb.2) (h.2 j hj)⟩
/-- Number L waits for number i. -/
def waitsB (md : Region.Mode) (ops : Array Oper) (L i : Nat) : Bool := match ops[L]? with
  | some o => o.after.any fun e => Region.binds md e && e.on == i
  | none => true
theorem waits_of {i : Nat} (h : waitsB md ops L i = true) {o : Oper} (ho : ops[L]? = some o) : ∃ e ∈ o.after, Region.binds md e = true ∧ e.on = i := by
  unfold waitsB at h
  rw [ho] at h
  obtain ⟨e, he, h2⟩ := Array.any_eq_true'.1 h
  simp only [Bool.and_eq_true, beq_iff_eq] at h2
  exact ⟨e, he, h2.1, h2.2⟩
theorem not_waiting {i j : Nat} {oj : Oper} {seen : Array Bool} (hr : i ∈ Region.ready md ops seen) (hj : j ∈ Region.ready md ops seen) (ho : ops[j]? = some oj) : ∀ e ∈ oj.after, Region.binds md e = true → e.on ≠ i := by
  obtain ⟨_, o2, ho2, hall⟩ := mem_ready.1 hj
  obtain rfl : oj = o2 := Option.some.inj (ho.symm.trans ho2)
  intro e he hb heq
  have h1 := hall e he hb
  have h0 := (mem_ready.1 hr).1
  rw [heq] at h1
  by_cases hs : i < seen.size
  · simp [hs] at h0 h1
    rw [h0] at h1; cases h1
  · simp [Array.getElem?_eq_none (Nat.le_of_not_lt hs)] at h1
theorem OrdX.first {i : Nat} {oi : Oper} {u : Value} (hi : ops[i]? = some oi) (hsel : ∀ (j : Nat) (o : Oper) cs b, ops[j]? = some o → o.op ≠ .select cs b)
    (hQ : ∀ c a w, Q (.panic c) (a.put oi.dst u) w → Q (.panic c) a w) (hL : waitsB md ops L i = true) :
    ∀ (n : Nat) (seen : Array Bool) (a : Act) (w : World),
      (∀ j oj, ops[j]? = some oj → j ≠ i → seen.getD j true = false → (∀ e ∈ oj.after, Region.binds md e = true → e.on ≠ i) → oi.apart ops oj = true) →
      i ∈ Region.ready md ops seen → YieldsIf P ops S oi u a → S w →
      OrdX P md ops Q S L n (seen.setIfInBounds i true) (a.put oi.dst u) w → OrdX P md ops Q S L (n + 1) seen a w := by
  intro n
  induction n with
  | zero =>
    intro seen a w _ hr hy hS H
    refine ⟨fun e => (by rw [e] at hr; cases hr), fun j hj => ?_⟩
    by_cases e : j = i
    · rw [e]; exact hy.wpOp hi hS ⟨.inr hS, H⟩
    · have h1 := ready_mono hj e
      rw [H.1] at h1; cases h1
  | succ n ih =>
    intro seen a w hfree hr hy hS H
    refine ⟨fun e => (by rw [e] at hr; cases hr), fun j hj => ?_⟩
    by_cases e : j = i
    · rw [e]; exact hy.wpOp hi hS ⟨.inr hS, H⟩
    · obtain ⟨hun, oj, hoj, _⟩ := mem_ready.1 hj
      have hno := not_waiting hr hj hoj
      have hjL : ¬ j = L := by
        intro e2
        subst e2
        obtain ⟨d, hd, hb, ho⟩ := waits_of hL hoj
        exact hno d hd hb ho
      have key := wpOp_putIf hoj (hfree j oj hoj e hun hno) (fun cs b => hsel i oi cs b hi) (fun cs b => hsel j oj cs b hoj) hQ hy (H.2 j (ready_mono hj e))
      refine wpOp_mono (fun b v hb => ?_) key
      obtain ⟨hy2, hs2, hb2⟩ := hb
      have hS2 : S v := hs2.resolve_left hjL
      refine ⟨.inr hS2, ih (seen.setIfInBounds j true) b v (fun k ok hk hki hkun hkno => ?_) (ready_mono hr (Ne.symm e)) hy2 hS2 (by rw [Array.setIfInBounds_comm _ _ e]; exact hb2)⟩
      refine hfree k ok hk hki ?_ hkno
      by_cases e3 : j = k
      · rw [← e3]; exact hun
      · rw [getD_set_ne true e3] at hkun; exact hkun
/-- Take number i first. -/
theorem ordX_take {i : Nat} {oi : Oper} {u : Value} {n : Nat} {seen : Array Bool} {a : Act} {w : World} (hi : ops[i]? = some oi) (hs : Region.noSelect ops = true) (hf : Region.free md ops seen i = true) (hr : (Region.ready md ops seen).contains i = true) (hL : waitsB md ops L i = true)
    (hQ : ∀ c a w, Q (.panic c) (a.put oi.dst u) w → Q (.panic c) a w) (hy : YieldsIf P ops S oi u a) (hS : S w)
    (h : OrdX P md ops Q S L n (seen.setIfInBounds i true) (a.put oi.dst u) w) : OrdX P md ops Q S L (n + 1) seen a w :=
  OrdX.first hi (Region.noSelect_spec hs) hQ hL n seen a w (Region.free_spec hi hf) (by simpa using hr) hy hS h
/-- The one operation that may come up. -/
theorem ordX_one {i : Nat} {o : Oper} {n : Nat} {seen : Array Bool} {a : Act} {w : World} (hr : Region.ready md ops seen = [i]) (ho : ops[i]? = some o)
    (h : ∀ K : Act → World → Prop, Shut (∀ b v, (i = L ∨ S v) → ((i = L ∨ S v) → OrdX P md ops Q S L n (seen.setIfInBounds i true) b v) → K b v) → if Region.wanted o (yielded ops a.tmps) = true then Oper.wp P o a w K Q else K (a.put o.dst undef) w) : OrdX P md ops Q S L (n + 1) seen a w :=
  ⟨fun e => (by rw [hr] at e; cases e), fun j hj => by
    rw [hr] at hj
    obtain rfl : j = i := by simpa using hj
    exact wpOp_step ho fun K hK => h K fun b v hs hb => hK b v ⟨hs, hb hs⟩⟩
theorem ordX_done {seen : Array Bool} {a : Act} {w : World} (hr : Region.ready md ops seen = []) (h : Q .normal a w) : ∀ n, OrdX P md ops Q S L n seen a w
  | 0 => ⟨hr, h⟩
  | _ + 1 => ⟨fun _ => h, by rw [hr]; simp⟩
theorem region_ordX {id : Nat} {a : Act} {w : World} (hm : P.follows .mixedOrders = true) (h : OrdX P .any ops Q S L ops.size (Array.replicate ops.size false) a w.drew) : (Code.region id ops true).wp P Q a w :=
  wp_region_any hm (OrdX.any _ _ _ _ h)
end
end Go.Proofs.YtichejodbohldaaGreatDoor
