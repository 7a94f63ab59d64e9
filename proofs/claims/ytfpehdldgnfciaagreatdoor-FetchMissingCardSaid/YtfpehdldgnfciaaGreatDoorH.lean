/- A sum under way that has taken a list of bytes: what add makes of it, said of lists. -/
import Derived.Test.YtfpehdldgnfciaaGreatDoorG
namespace Go.Proofs.YtfpehdldgnfciaaGreatDoor.Sha
open Go.RowKit Go.Sort

theorem word_congr (P Q : Nat → UInt8) (k : Nat) (hk : k < 16) (h : ∀ j, j < 64 → P j = Q j) : word P k = word Q k := by
  unfold word
  rw [h (4 * k) (by omega), h (4 * k + 1) (by omega), h (4 * k + 2) (by omega), h (4 * k + 3) (by omega)]
theorem sch_congr (P Q : Nat → UInt8) (h : ∀ j, j < 64 → P j = Q j) (k : Nat) : sch P k = sch Q k := by
  induction k with
  | zero => rfl
  | succ k ih =>
    by_cases hk : k < 16
    · rw [sch_word P k hk, sch_word Q k hk, ih, word_congr P Q k hk h]
    · rw [sch_later P k (by omega), sch_later Q k (by omega), ih]
theorem mixed_congr (s : St) (P Q : Nat → UInt8) (h : ∀ j, j < 64 → P j = Q j) : mixed s P = mixed s Q := by
  unfold mixed
  rw [sch_congr P Q h]
theorem blocks_congr (P Q : Nat → UInt8) (s : St) (k : Nat) (h : ∀ j, j < 64 * k → P j = Q j) : blocks P s k = blocks Q s k := by
  induction k with
  | zero => rfl
  | succ k ih =>
    unfold blocks
    rw [ih fun j hj => h j (by omega)]
    exact mixed_congr _ _ _ fun j hj => h (64 * k + j) (by omega)
theorem blocks_add (P : Nat → UInt8) (s : St) (q k : Nat) : blocks P s (q + k) = blocks (fun j => P (64 * q + j)) (blocks P s q) k := by
  induction k with
  | zero => rfl
  | succ k ih =>
    show mixed (blocks P s (q + k)) _ = mixed _ _
    rw [ih]
    exact mixed_congr _ _ _ fun j _ => by show P (64 * (q + k) + j) = P (64 * q + (64 * k + j)); rw [show 64 * (q + k) + j = 64 * q + (64 * k + j) by omega]

def init : St := ⟨1779033703, 3144134277, 1013904242, 2773480762, 1359893119, 2600822924, 528734635, 1541459225⟩
/-- Where a list's whole blocks lead. -/
def sumSt (L : List UInt8) : St := blocks (fun j => L.getD j 0) init (L.length / 64)
/-- The sum in block b has taken L. -/
def Has (w : World) (b : Nat) (L : List UInt8) : Prop :=
  ∃ R : Array UInt8, R.size = 64 ∧ Lies w b (sumSt L) R (L.length % 64) L.length ∧ ∀ j, j < L.length % 64 → R[j]! = L.getD (64 * (L.length / 64) + j) 0

theorem getD_left (L M : List UInt8) (j : Nat) (h : j < L.length) : (L ++ M).getD j 0 = L.getD j 0 := by
  simp [List.getD_eq_getElem?_getD, List.getElem?_append_left h]
theorem getD_right (L M : List UInt8) (j : Nat) : (L ++ M).getD (L.length + j) 0 = M.getD j 0 := by
  simp [List.getD_eq_getElem?_getD, List.getElem?_append_right]

theorem lay_at (R : Array UInt8) (g j : Nat) (l : List UInt8) (hR : R.size = 64) (h : g + l.length ≤ 64) (hj : j < g + l.length) :
    (lay R g l)[j]! = if j < g then R[j]! else l.getD (j - g) 0 := by
  have hRl : R.toList.length = 64 := by simpa using hR
  have hs := lay_size R g l hR h
  rw [getElem!_pos _ j (by rw [hs]; omega)]
  have e : (lay R g l)[j]? = if j < g then R[j]? else l[j - g]? := by
    unfold lay
    simp only [List.getElem?_toArray]
    by_cases h1 : j < g
    · rw [if_pos h1, List.getElem?_append_left (by simp; omega), List.getElem?_take, if_pos h1]; simp
    · rw [if_neg h1, List.getElem?_append_right (by simp; omega), List.getElem?_append_left (by simp; omega)]
      congr 1
      simp; omega
  rw [Array.getElem?_eq_getElem (by rw [hs]; omega)] at e
  by_cases h1 : j < g
  · rw [if_pos h1] at e ⊢
    rw [getElem!_pos R j (by omega)]
    rw [Array.getElem?_eq_getElem (by omega)] at e
    exact Option.some.inj e
  · rw [if_neg h1] at e ⊢
    rw [List.getD_eq_getElem?_getD, ← e]; rfl

theorem bytesOf_at (P : Nat → UInt8) (a n j : Nat) (h : j < n) : (bytesOf P a n).getD j 0 = P (a + j) := by
  simp [bytesOf, List.getD_eq_getElem?_getD, List.getElem?_range h]
theorem bytesOf_len (P : Nat → UInt8) (a n : Nat) : (bytesOf P a n).length = n := by simp [bytesOf]

/-- add: what has taken L takes M behind it. -/
theorem add_has (bx bp op cap : Nat) (a : Option Addr) (L M : List UInt8) (w : World) (hbx : bx ≠ 1) (hbp : bp ≠ bx)
    (hlc : M.length ≤ cap) (hn : L.length + M.length ≤ 100000) (ha : 0 < M.length → a = some ⟨bp, op, none⟩)
    (hp : ∀ j, j < M.length → w.cell? ⟨bp, op + j, none⟩ = some (.int .u8 ((M.getD j 0).toNat : Int)))
    (hT : ∀ j, j < 64 → w.cell? ⟨1, j, none⟩ = some (encW table[j]!))
    (hL : Has w bx L) :
    Calls Tryz.prog 47 #[.pointer (some ⟨bx, 0, none⟩), .slice a M.length cap] w fun e w' => e = .returned (.tuple #[]) ∧ w.grownBy w' (some bx) ∧ Has w' bx (L ++ M) := by
  obtain ⟨R, hR, hl, hr⟩ := hL
  have hlen : (L ++ M).length = L.length + M.length := List.length_append
  by_cases h0 : L.length % 64 = 0
  · rw [h0] at hl
    refine (add_zero bx bp op cap M.length L.length a (fun j => M.getD j 0) (sumSt L) R w hR hbx hbp hlc hn ha hp hT hl).mono fun e w' h => ⟨h.1, h.2.1, lay R 0 (bytesOf (fun j => M.getD j 0) (64 * (M.length / 64)) (M.length % 64)), ?_, ?_, ?_⟩
    · exact lay_size _ _ _ hR (by rw [bytesOf_len]; omega)
    · have e1 : (L ++ M).length % 64 = M.length % 64 := by omega
      have e2 : (L ++ M).length / 64 = L.length / 64 + M.length / 64 := by omega
      have e3 : sumSt (L ++ M) = blocks (fun j => M.getD j 0) (sumSt L) (M.length / 64) := by
        unfold sumSt
        rw [e2, blocks_add]
        have hq : 64 * (L.length / 64) = L.length := by omega
        rw [hq, blocks_congr (fun j => (L ++ M).getD j 0) (fun j => L.getD j 0) init (L.length / 64) fun j hj => getD_left L M j (by omega)]
        exact blocks_congr _ _ _ _ fun j _ => getD_right L M j
      rw [e1, e3, hlen]
      exact h.2.2
    · intro j hj
      have e1 : (L ++ M).length % 64 = M.length % 64 := by omega
      rw [e1] at hj
      rw [lay_at _ _ _ _ hR (by rw [bytesOf_len]; omega) (by rw [bytesOf_len]; omega), if_neg (by omega), Nat.sub_zero, bytesOf_at _ _ _ _ hj,
        show 64 * ((L ++ M).length / 64) + j = L.length + (64 * (M.length / 64) + j) by omega, getD_right]
  · by_cases h1 : L.length % 64 + M.length < 64
    · refine (add_part bx bp op cap M.length L.length (L.length % 64) a (fun j => M.getD j 0) (sumSt L) R w hR hbp hlc hn (by omega) h1 ha hp hl).mono fun e w' h => ⟨h.1, h.2.1, lay R (L.length % 64) (bytesOf (fun j => M.getD j 0) 0 M.length), ?_, ?_, ?_⟩
      · exact lay_size _ _ _ hR (by rw [bytesOf_len]; omega)
      · have e1 : (L ++ M).length % 64 = L.length % 64 + M.length := by omega
        have e2 : (L ++ M).length / 64 = L.length / 64 := by omega
        have e3 : sumSt (L ++ M) = sumSt L := by
          unfold sumSt
          rw [e2]
          exact blocks_congr _ _ _ _ fun j hj => getD_left L M j (by omega)
        rw [e1, e3, hlen]
        exact h.2.2
      · intro j hj
        have e1 : (L ++ M).length % 64 = L.length % 64 + M.length := by omega
        have e2 : (L ++ M).length / 64 = L.length / 64 := by omega
        rw [e1] at hj
        rw [e2, lay_at _ _ _ _ hR (by rw [bytesOf_len]; omega) (by rw [bytesOf_len]; omega)]
        by_cases h2 : j < L.length % 64
        · rw [if_pos h2, hr j h2, getD_left L M _ (by omega)]
        · rw [if_neg h2, bytesOf_at _ _ _ _ (by omega), Nat.zero_add, show 64 * (L.length / 64) + j = L.length + (j - L.length % 64) by omega, getD_right]
    · have hd : L.length % 64 + (64 - L.length % 64) = 64 := by omega
      generalize hdd : 64 - L.length % 64 = d at hd
      have hdM : d ≤ M.length := by omega
      have hlay : ∀ j, j < 64 → (lay R (L.length % 64) (bytesOf (fun j => M.getD j 0) 0 d))[j]! = (L ++ M).getD (64 * (L.length / 64) + j) 0 := by
        intro j hj
        rw [lay_at _ _ _ _ hR (by rw [bytesOf_len]; omega) (by rw [bytesOf_len]; omega)]
        by_cases h2 : j < L.length % 64
        · rw [if_pos h2, hr j h2, getD_left L M _ (by omega)]
        · rw [if_neg h2, bytesOf_at _ _ _ _ (by omega), Nat.zero_add, show 64 * (L.length / 64) + j = L.length + (j - L.length % 64) by omega, getD_right]
      refine (add_full bx bp op (op + d) cap M.length (M.length - d) L.length (L.length + M.length) (L.length % 64) d a (fun j => M.getD j 0) (fun j => M.getD (d + j) 0) (sumSt L) _ R _ w hR hbx hbp hlc hn rfl (by omega) (by omega) hd (by omega) rfl (ha (by omega)) rfl rfl
        (fun j hj => hp j (by omega)) (fun j hj => by rw [Nat.add_assoc]; exact hp (d + j) (by omega)) hT hl).mono fun e w' h => ⟨h.1, h.2.1, lay (lay R (L.length % 64) (bytesOf (fun j => M.getD j 0) 0 d)) 0 (bytesOf (fun j => M.getD (d + j) 0) (64 * ((M.length - d) / 64)) ((M.length - d) % 64)), ?_, ?_, ?_⟩
      · exact lay_size _ _ _ (lay_size _ _ _ hR (by rw [bytesOf_len]; omega)) (by rw [bytesOf_len]; omega)
      · have e1 : (L ++ M).length % 64 = (M.length - d) % 64 := by omega
        have e2 : (L ++ M).length / 64 = L.length / 64 + 1 + (M.length - d) / 64 := by omega
        have e3 : sumSt (L ++ M) = blocks (fun j => M.getD (d + j) 0) (mixed (sumSt L) fun j => (lay R (L.length % 64) (bytesOf (fun j => M.getD j 0) 0 d))[j]!) ((M.length - d) / 64) := by
          unfold sumSt
          rw [e2, blocks_add]
          have e4 : blocks (fun j => (L ++ M).getD j 0) init (L.length / 64 + 1) = mixed (blocks (fun j => L.getD j 0) init (L.length / 64)) fun j => (lay R (L.length % 64) (bytesOf (fun j => M.getD j 0) 0 d))[j]! := by
            show mixed (blocks _ _ _) _ = _
            rw [blocks_congr (fun j => (L ++ M).getD j 0) (fun j => L.getD j 0) init (L.length / 64) fun j hj => getD_left L M j (by omega)]
            exact mixed_congr _ _ _ fun j hj => (hlay j hj).symm
          rw [e4]
          exact blocks_congr _ _ _ _ fun j _ => by rw [show 64 * (L.length / 64 + 1) + j = L.length + (d + j) by omega, getD_right]
        rw [e1, e3, hlen]
        exact h.2.2
      · intro j hj
        have e1 : (L ++ M).length % 64 = (M.length - d) % 64 := by omega
        rw [e1] at hj
        rw [lay_at _ _ _ _ (lay_size _ _ _ hR (by rw [bytesOf_len]; omega)) (by rw [bytesOf_len]; omega) (by rw [bytesOf_len]; omega), if_neg (by omega), Nat.sub_zero, bytesOf_at _ _ _ _ hj,
          show 64 * ((L ++ M).length / 64) + j = L.length + (d + (64 * ((M.length - d) / 64) + j)) by omega, getD_right]
end Go.Proofs.YtfpehdldgnfciaaGreatDoor.Sha
