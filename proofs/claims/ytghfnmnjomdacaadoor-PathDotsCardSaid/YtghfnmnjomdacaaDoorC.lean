/- What stands between the slashes of a text: laws on lists, no program. -/
import Derived.Test.YtghfnmnjomdacaaDoorB
import Derived.Lib.SplitLaws
namespace Go.Proofs.YtghfnmnjomdacaaDoor
open Go.RowKit

def slash : ByteArray := ⟨#[47]⟩
/-- What stands between the slashes. -/
def pieces (s : ByteArray) : List ByteArray := Lib.splitB slash 0 (Lib.countB s slash) s

theorem occ_slash (s : ByteArray) (i : Nat) (h : i < s.size) : Lib.occAt s.data.toList [47] i = (byteAt s i == 47) := by
  unfold Lib.occAt byteAt
  have hl : i < s.data.toList.length := by simpa using h
  rw [List.drop_eq_getElem_cons hl, List.getD_eq_getElem?_getD, List.getElem?_eq_getElem hl]
  simp only [List.isPrefixOf, Bool.and_true, Option.getD_some]
  exact Bool.beq_comm
theorem index_slash (s : ByteArray) (i : Nat) (h : i < s.size) (h1 : byteAt s i = 47) (h2 : ∀ j, j < i → byteAt s j ≠ 47) : Lib.indexB s slash = i := by
  refine Lib.index_first (s := s.data.toList) (sub := [47]) (by simpa using Nat.le_of_lt h) ?_ ?_
  · rw [occ_slash s i h, h1]; rfl
  · intro j hj
    rw [occ_slash s j (by omega)]
    simpa using h2 j hj
theorem noindex_slash (s : ByteArray) (h2 : ∀ j, j < s.size → byteAt s j ≠ 47) : Lib.indexB s slash = -1 := by
  refine Lib.index_none (s := s.data.toList) (sub := [47]) ?_
  intro j hj
  by_cases h : j < s.size
  · rw [occ_slash s j h]
    simpa using h2 j h
  · have e : s.data.toList.drop j = [] := List.drop_eq_nil_of_le (by simp; omega)
    unfold Lib.occAt
    rw [e]; rfl
theorem pieces_none (s : ByteArray) (h2 : ∀ j, j < s.size → byteAt s j ≠ 47) : pieces s = [s] :=
  Lib.splitB_miss _ _ _ _ (noindex_slash s h2)
theorem pieces_hit (s : ByteArray) (i : Nat) (h : i < s.size) (h1 : byteAt s i = 47) (h2 : ∀ j, j < i → byteAt s j ≠ 47) :
    pieces s = s.extract 0 i :: pieces (s.extract (i + 1) s.size) := by
  have e := index_slash s i h h1 h2
  have c := Lib.countB_hit s slash i (by decide) e
  unfold pieces
  rw [c, Nat.add_comm, Lib.splitB_hit _ _ _ _ i e]
  rfl
theorem byteAt_extract (s : ByteArray) (a j : Nat) (h : a + j < s.size) : byteAt (s.extract a s.size) j = byteAt s (a + j) := by
  have h1 : j < (s.extract a s.size).size := by rw [ByteArray.size_extract]; omega
  rw [byteAt_eq _ _ h1, byteAt_eq _ _ h, ByteArray.getElem_extract]
theorem pieces_from (s : ByteArray) (f i : Nat) (hf : f ≤ i) (h : i < s.size) (h1 : byteAt s i = 47) (h2 : ∀ j, f ≤ j → j < i → byteAt s j ≠ 47) :
    pieces (s.extract f s.size) = s.extract f i :: pieces (s.extract (i + 1) s.size) := by
  have hz : (s.extract f s.size).size = s.size - f := by rw [ByteArray.size_extract]; omega
  rw [pieces_hit _ (i - f) (by omega) (by rw [byteAt_extract _ _ _ (by omega), show f + (i - f) = i by omega]; exact h1) (fun j hj => by rw [byteAt_extract _ _ _ (by omega)]; exact h2 _ (by omega) (by omega))]
  rw [hz, ByteArray.extract_extract, ByteArray.extract_extract]
  congr 2
  · omega
  · congr 1 <;> omega
theorem pieces_last (s : ByteArray) (f : Nat) (h2 : ∀ j, f ≤ j → j < s.size → byteAt s j ≠ 47) :
    pieces (s.extract f s.size) = [s.extract f s.size] :=
  pieces_none _ fun j hj => by
    rw [ByteArray.size_extract] at hj
    rw [byteAt_extract _ _ _ (by omega)]
    exact h2 _ (by omega) (by omega)
theorem pieces_len (s : ByteArray) : (pieces s).length = Lib.countB s slash + 1 := Lib.splitB_all slash (by decide) 0 _ s rfl
theorem count_le (s : ByteArray) : Lib.countB s slash ≤ s.size := Lib.countB_le slash (by decide) s.size s (Nat.le_refl _)
theorem pieces_le (s : ByteArray) : (pieces s).length ≤ s.size + 1 := by rw [pieces_len]; have := count_le s; omega
theorem pieces_size (s : ByteArray) : ∀ p ∈ pieces s, p.size ≤ s.size := by
  have H : ∀ (k : Nat) (t : ByteArray), ∀ p ∈ Lib.splitB slash 0 k t, p.size ≤ t.size := by
    intro k
    induction k with
    | zero => intro t p hp; simp [Lib.splitB] at hp; rw [hp]; exact Nat.le_refl _
    | succ k ih =>
      intro t p hp
      rcases Lib.indexB_cases t slash with e | ⟨i, e, hi⟩
      · rw [Lib.splitB_miss _ _ _ _ e] at hp; simp at hp; rw [hp]; exact Nat.le_refl _
      · rw [Lib.splitB_hit _ _ _ _ i e] at hp
        rcases List.mem_cons.1 hp with rfl | hp
        · rw [ByteArray.size_extract]; omega
        · have := ih _ p hp
          rw [ByteArray.size_extract] at this; omega
  exact H _ s
end Go.Proofs.YtghfnmnjomdacaaDoor
