/- The reference's glue: parts with a slash between. -/
import Derived.Test.YtghfnmnjomdacaaDoorE
import Derived.Lib.Join
namespace Go.Proofs.YtghfnmnjomdacaaDoor
open Go.RowKit

/-- Parts, put together with slashes between. -/
def joinB (L : List ByteArray) : ByteArray := ⟨(Lib.join (L.map (·.data.toList)) slash.data.toList).toArray⟩

theorem joinB_nil : joinB [] = ByteArray.empty := rfl
theorem joinB_one (x : ByteArray) : joinB [x] = x := by
  unfold joinB
  simp [Lib.join_one]
theorem joinB_snoc (L : List ByteArray) (x : ByteArray) (h : L ≠ []) : joinB (L ++ [x]) = joinB L ++ slash ++ x := by
  obtain ⟨y, r, rfl⟩ : ∃ y r, L = y :: r := List.exists_cons_of_ne_nil h
  unfold joinB
  rw [List.cons_append, List.map_cons, List.map_cons, Lib.join_cons, Lib.join_cons]
  apply ByteArray.ext
  apply Array.ext'
  simp [Lib.joinTail, slash]

def strAt (L : List ByteArray) (i : Nat) : ByteArray := L.getD i ByteArray.empty
theorem strAt_eq (L : List ByteArray) (i : Nat) (h : i < L.length) : L[i]? = some (strAt L i) := by
  unfold strAt
  rw [List.getD_eq_getElem?_getD, List.getElem?_eq_getElem h]; rfl
theorem take_snocS (L : List ByteArray) (k : Nat) (h : k < L.length) : L.take (k + 1) = L.take k ++ [strAt L k] := by
  rw [List.take_add_one, strAt_eq L k h]; rfl

/-- All the bytes of the parts, and one for each. -/
def sumS : List ByteArray → Nat
  | [] => 0
  | x :: r => x.size + 1 + sumS r
theorem sumS_snoc (L : List ByteArray) (x : ByteArray) : sumS (L ++ [x]) = sumS L + x.size + 1 := by
  induction L with
  | nil => simp [sumS]
  | cons y r ih => simp only [List.cons_append, sumS, ih]; omega
theorem sumS_take (L : List ByteArray) (k : Nat) : sumS (L.take k) ≤ sumS L := by
  induction L generalizing k with
  | nil => simp [sumS]
  | cons y r ih => cases k with
    | zero => simp [sumS]
    | succ k => simp only [List.take_succ_cons, sumS]; have := ih k; omega
theorem joinB_le (L : List ByteArray) : (joinB L).size ≤ sumS L := by
  cases L with
  | nil => exact Nat.le_refl _
  | cons y r =>
    have h : ∀ (r : List ByteArray), (Lib.joinTail slash.data.toList (r.map (·.data.toList))).length = sumS r := by
      intro r
      induction r with
      | nil => rfl
      | cons z r ih =>
        simp only [Lib.joinTail, List.map_cons, List.flatten_cons, List.length_append, sumS] at ih ⊢
        rw [ih]; simp [slash]; omega
    show (Lib.join _ _).toArray.size ≤ _
    rw [List.map_cons, Lib.join_cons, List.size_toArray, List.length_append, h]
    simp [sumS]

set_option maxRecDepth 1000000
set_option maxHeartbeats 1000000 in
theorem glue_any (B n cap : Nat) (a : Option Addr) (L : List ByteArray) (w : World) (hn : L.length = n) (hL : n ≤ 1000000) (hS : sumS L ≤ 100000000) (hP : PartS w B (.slice a n cap) L) :
    Calls Tryd.prog 28 #[.slice a n cap] w fun e w' => e = .returned (.string (joinB L)) ∧ w' = w := by
  have HN := Lib.hid hn
  have HP := Lib.hid hP
  clear hn hP
  go_enter Tryd.func28, Tryd.ntmps28
  go_wp2
  go_loopw [3, 4] (fun s i wr => ∃ (k : Nat), k ≤ n ∧ i = .int .i64 k ∧ s = .string (joinB (L.take k)) ∧ wr = w) (fun _ i _ => n - (intOf i).toNat)
  case atStart => exact ⟨0, by omega, rfl, rfl, rfl⟩
  case round =>
    obtain ⟨k, hk, rfl, rfl, rfl⟩ := hrel
    by_cases hlt : k < n
    · obtain ⟨x, hx⟩ : ∃ x, strAt L k = x := ⟨_, rfl⟩
      obtain ⟨b, o, hab, hcell⟩ : ∃ b o, a = some ⟨b, o, none⟩ ∧ wr.cell? ⟨b, o + k, none⟩ = some (.string x) := by
        obtain ⟨a', cap', b, o, h1, h2, h3, h4, h5, h6⟩ := HP.out
        have e := Value.slice.inj h1
        refine ⟨b, o, by rw [e.1]; exact h5 (by have := HN.out; omega), h6 k x (by rw [strAt_eq L k (by have := HN.out; omega), hx])⟩
      subst hab
      have ht := take_snocS L k (by have := HN.out; omega)
      rw [hx] at ht
      have hz : sumS (L.take k) + x.size + 1 ≤ 100000000 := by
        have h1 := sumS_take L (k + 1)
        rw [ht, sumS_snoc] at h1
        omega
      have hj := joinB_le (L.take k)
      have HT := Lib.hid ht
      clear hx ht
      by_cases h0 : k = 0
      · subst h0
        rw [Nat.add_zero] at hcell
        have c1 : (joinB []).size + x.size ≤ 9223372036854775807 := by
          have e : (joinB []).size = 0 := rfl
          omega
        clear hj hz
        go_wp2
        go_roundw
        case rel => exact ⟨1, by omega, rfl, by rw [HT.out, List.take_zero, List.nil_append, joinB_one, joinB_nil, ByteArray.empty_append], trivial⟩
        case measure => simp [intOf]; omega
      · have hpos : 0 < (k : Int) := by omega
        have c1 : (joinB (L.take k)).size + 1 ≤ 9223372036854775807 := by omega
        have c2 : (joinB (L.take k)).size + 1 + x.size ≤ 9223372036854775807 := by omega
        have HJ := Lib.hid (show joinB (L.take (k + 1)) = joinB (L.take k) ++ slash ++ x by
          rw [HT.out]
          refine joinB_snoc _ _ fun e => ?_
          have h1 := congrArg List.length e
          rw [List.length_take, HN.out] at h1
          simp at h1; omega)
        clear hj hz
        go_wp2
        go_roundw
        case rel => exact ⟨k + 1, by omega, by go_num, by rw [HJ.out]; rfl, trivial⟩
        case measure => simp [intOf]; omega
    · have hkn : k = n := by omega
      subst hkn
      clear hlt hk
      have e : Hid (joinB (L.take k) = joinB L) := by
        show _ = _
        rw [List.take_of_length_le (by rw [HN.out]; exact Nat.le_refl _)]
      go_wp2
      go_ret
      exact ⟨by rw [← e.out]; rfl, rfl⟩
end Go.Proofs.YtghfnmnjomdacaaDoor
