/- script.parseLine, whole. -/
import Derived.Test.YtmjdkgbblccpgaaDoorTa
import Derived.Test.YtmjdkgbblccpgaaDoorTb
import Derived.Test.YtmjdkgbblccpgaaDoorTc
import Derived.Test.YtmjdkgbblccpgaaDoorTd
import Derived.Test.YtmjdkgbblccpgaaDoorTe
import Derived.Test.YtmjdkgbblccpgaaDoorTf
import Derived.Test.YtmjdkgbblccpgaaDoorTg
namespace Go.Proofs.YtmjdkgbblccpgaaDoor
open Go.RowKit

theorem line_any (m : Int) (W : List ByteArray) (n cp B : Nat) (a : Option Addr) (w : World) (hm : Wok m w) (hn : W.length = n) (hn8 : n ≤ 8000000) (hB : B ≤ w.heap.size) (hP : PartS w B (.slice a n cp) W) (hsz : ∀ x ∈ W, x.size ≤ 1000000) :
    Calls Tryd.prog 23 #[.slice a n cp] w (LineTo W w) := by
  cases W with
  | nil =>
    obtain rfl : n = 0 := hn.symm
    exact line_none a cp w
  | cons x W =>
    obtain ⟨k, rfl⟩ : ∃ k, n = k + 1 := ⟨W.length, by rw [← hn]; rfl⟩
    have hn' : W.length = k := by simpa using hn
    have hs : (headS W).size ≤ 1000000 := by
      cases W with
      | nil => show (0 : Nat) ≤ _; omega
      | cons y t => exact hsz y (by simp)
    rcases kindS_cases x with h | ⟨h1, h2⟩
    · exact line_km1 m x W k cp B a w hm hn' hn8 hB hP h hs
    · have : kindS x = 0 ∨ kindS x = 1 ∨ kindS x = 2 ∨ kindS x = 3 ∨ kindS x = 4 ∨ kindS x = 5 ∨ kindS x = 6 ∨ kindS x = 7 ∨ kindS x = 8 ∨ kindS x = 9 ∨ kindS x = 10 ∨ kindS x = 11 := by omega
      rcases this with h | h | h | h | h | h | h | h | h | h | h | h
      · exact line_k0 m x W k cp B a w hm hn' hn8 hB hP h hs
      · exact line_k1 m x W k cp B a w hm hn' hn8 hB hP h hs
      · exact line_k2 m x W k cp B a w hm hn' hn8 hB hP h hs
      · exact line_k3 m x W k cp B a w hm hn' hn8 hB hP h hs
      · exact line_k4 m x W k cp B a w hm hn' hn8 hB hP h hs
      · exact line_k5 m x W k cp B a w hm hn' hn8 hB hP h hs
      · exact line_k6 m x W k cp B a w hm hn' hn8 hB hP h hs
      · exact line_k7 m x W k cp B a w hm hn' hn8 hB hP h hs
      · exact line_k8 m x W k cp B a w hm hn' hn8 hB hP h hs
      · exact line_k9 m x W k cp B a w hm hn' hn8 hB hP h hs
      · exact line_k10 m x W k cp B a w hm hn' hn8 hB hP h hs
      · exact line_k11 m x W k cp B a w hm hn' hn8 hB hP h hs
end Go.Proofs.YtmjdkgbblccpgaaDoor
