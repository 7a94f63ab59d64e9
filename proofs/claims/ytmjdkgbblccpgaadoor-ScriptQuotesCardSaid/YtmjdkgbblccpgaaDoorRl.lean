/- haversacklaw17.ScriptQuotes. -/
import Derived.Test.YtmjdkgbblccpgaaDoorUw
import Derived.Test.YtmjdkgbblccpgaaDoorUx
namespace Go.Proofs.YtmjdkgbblccpgaaDoor
open Go.RowKit

/-- The first k texts, written. -/
def wqsB (L : List ByteArray) (k : Nat) : ByteArray := toB (writ ((L.take k).map fun t => wqL t.data.toList))
def escB8 (t : ByteArray) (k : Nat) : ByteArray := toB (escL (t.data.toList.take k))
theorem escB8_size (t : ByteArray) (k : Nat) : (escB8 t k).size ≤ 2 * k := by
  unfold escB8
  have := escL_len (t.data.toList.take k)
  have := List.length_take_le k t.data.toList
  rw [← data_len, data_toB]
  omega
theorem escB8_succ (t : ByteArray) (k : Nat) (h : k < t.size) : escB8 t (k + 1) = escB8 t k ++ toB (escC t[k]) := by
  unfold escB8
  rw [take_snocB t k h, escL_snoc, toB_app, byteAt_eq t k h]
theorem extract_one (t : ByteArray) (k : Nat) (h : k < t.size) : t.extract k (k + 1) = toB [t[k]] := by
  apply bytes_ext
  rw [data_toB, ByteArray.data_extract, Array.toList_extract, List.extract_eq_take_drop, show k + 1 - k = 1 by omega, drop_at t k h]
  rfl
theorem wqsB_size (L : List ByteArray) (k : Nat) (hk : k ≤ 10) (h : ∀ (j : Nat) (t : ByteArray), j < k → L[j]? = some t → t.size ≤ 200) : (wqsB L k).size ≤ 4110 := by
  unfold wqsB
  have h1 := writ_len ((L.take k).map fun t => wqL t.data.toList) 410 (fun x hx => by
    obtain ⟨t, ht, rfl⟩ := List.mem_map.1 hx
    obtain ⟨j, hj⟩ := List.getElem?_of_mem ht
    have hjk : j < k := by
      have := (List.getElem?_eq_some_iff.1 hj).1
      rw [List.length_take] at this; omega
    rw [List.getElem?_take_of_lt hjk] at hj
    have := h j t hjk hj
    exact wq_len _ (by rw [data_len]; exact this))
  rw [List.length_map] at h1
  have h2 := List.length_take_le k L
  rw [← data_len, data_toB]
  omega
theorem wqsB_succ (L : List ByteArray) (k : Nat) (t : ByteArray) (h : L[k]? = some t) : wqsB L (k + 1) = wqsB L k ++ ⟨#[119, 114, 105, 116, 101, 32, 102, 32, 34]⟩ ++ escB8 t t.size ++ ⟨#[34, 10]⟩ := by
  unfold wqsB escB8
  rw [take_snocL L k t h, List.map_append, List.map_cons, List.map_nil, writ_snoc]
  have e : t.data.toList.take t.size = t.data.toList := List.take_of_length_le (by rw [data_len]; exact Nat.le_refl _)
  rw [e]
  apply bytes_ext
  simp [toB, wqL, wHead]
def wqLn8 (t : ByteArray) : Ln := wqLn t.data.toList
theorem wqs_list (L : List ByteArray) (n : Nat) (hn : L.length = n) : wqsB L n = toB (writ ((L.map fun t => t.data.toList).map wqL)) := by
  unfold wqsB
  rw [List.take_of_length_le (by omega), List.map_map]; rfl
theorem quotes_ret (m : Int) (L : List ByteArray) (n : Nat) (hn : L.length = n) (h10 : n ≤ 10) (h : ∀ (j : Nat) (t : ByteArray), j < n → L[j]? = some t → t.size ≤ 200) (w : World) (hm : Wok m w) :
    Calls Tryd.prog 12 #[.string (wqsB L n)] w fun e w' => ∃ a cap, e = .returned (.tuple #[.slice a n cap, .int .i64 0, .int .i64 0]) ∧ OwnsL w' w.heap.size (.slice a n cap) (L.map wqLn8) ∧ w.grownBy w' none := by
  have hz := wqsB_size L n h10 h
  have hp := parse_any m (wqsB L n) w hm (by omega)
  refine hp.mono ?_
  intro e w' ⟨g, h5⟩
  have hl : ∀ t ∈ L.map fun t => t.data.toList, t.length ≤ 200 := by
    intro t ht
    obtain ⟨x, hx, rfl⟩ := List.mem_map.1 ht
    obtain ⟨j, hj⟩ := List.getElem?_of_mem hx
    have := h j x (by have := (List.getElem?_eq_some_iff.1 hj).1; omega) hj
    rw [data_len]; exact this
  rw [show scriptS (wqsB L n) = .inr ((L.map fun t => t.data.toList).map wqLn) by rw [wqs_list L n hn]; exact wq_parse _ (by rw [List.length_map]; omega) hl] at h5
  rcases h5 with ⟨M, v, h1, h3, ho⟩ | ⟨k, h1, _⟩
  · obtain rfl := Sum.inr.inj h1
    rw [List.map_map] at ho
    obtain ⟨a, n2, cap, rfl, hn2⟩ := ho.slice
    rw [List.length_map, hn] at hn2
    subst hn2
    exact ⟨a, cap, h3, ho, g⟩
  · cases h1
theorem quotes_text (m : Int) (L : List ByteArray) (n base cap : Nat) (a : Option Addr) (hn : L.length = n) (h10 : n ≤ 10) (h : ∀ (j : Nat) (t : ByteArray), j < n → L[j]? = some t → t.size ≤ 200) (w : World) (hm : Wok m w) (ho : OwnsL w base (.slice a n cap) (L.map wqLn8)) :
    Calls Tryd.prog 16 #[.slice a n cap] w fun e w' => e = .returned (.string (wqsB L n)) ∧ w.grownBy w' none := by
  have ht := textAll_any m base n cap a (L.map wqLn8) w hm ho (by rw [List.length_map, hn]) (by omega) (fun l hl => by
    obtain ⟨x, hx, rfl⟩ := List.mem_map.1 hl
    obtain ⟨j, hj⟩ := List.getElem?_of_mem hx
    have := h j x (by have := (List.getElem?_eq_some_iff.1 hj).1; omega) hj
    exact wq_ok _ (by rw [data_len]; exact this))
  unfold TextRet at ht
  have e : textS (L.map wqLn8) 0 = writ ((L.map fun t => t.data.toList).map wqL) := by
    rw [← wq_texts, List.map_map]; rfl
  rw [e, ← wqs_list L n hn] at ht
  exact ht
set_option maxRecDepth 1000000
set_option maxHeartbeats 16000000 in
theorem quotes_law (m : Int) (F n cp : Nat) (a : Option Addr) (L : List ByteArray) (w : World) (hm : Wok m w) (hn : L.length = n) (hP : PartS w F (.slice a n cp) L) : Calls Tryd.prog 6 #[.slice a n cp] w fun e w' => e = .returned (.bool true) ∧ w.grownBy w' none := by
  have HM := Lib.hid hm
  have HN := Lib.hid hn
  have HP := Lib.hid hP
  clear hm hn hP
  by_cases h10 : 10 < n
  · have d10 : decide (10 < (n : Int)) = true := by simp; omega
    clear h10
    go_enter Tryd.func6, Tryd.ntmps6
    go_wp2_with fail
    (with_reducible refine (known_any m w HM.out).mono ?_)
    rintro ee w1 ⟨rfl, g1⟩
    have HG1 := Lib.hid g1
    clear g1
    dsimp only
    go_wp2
    go_ret
    exact ⟨rfl, HG1.out⟩
  have d10 : decide (10 < (n : Int)) = false := by simp; omega
  have hn10 : n ≤ 10 := by omega
  clear h10
  go_enter Tryd.func6, Tryd.ntmps6
  go_wp2_with fail
  (with_reducible refine (known_any m w HM.out).mono ?_)
  rintro ee w1 ⟨rfl, g1⟩
  have HG1 := Lib.hid g1
  have HP1 := Lib.hid (HP.out.stays g1)
  clear g1 HP
  dsimp only
  go_wp2
  go_loop [3, 4] (fun s i => ∃ k : Nat, k ≤ n ∧ i = .int .i64 k ∧ s = .string (wqsB L k) ∧ Hid (∀ (j : Nat) (t : ByteArray), j < k → L[j]? = some t → t.size ≤ 200)) (fun _ i => n - (intOf i).toNat)
  case atStart => exact ⟨0, by omega, rfl, rfl, fun j t h => by omega⟩
  case round =>
    obtain ⟨k, hk, rfl, rfl, hS⟩ := hrel
    have hz := wqsB_size L k (by omega) hS.out
    by_cases hlt : k < n
    · obtain ⟨t, ht⟩ : ∃ t, L[k]? = some t := ⟨_, List.getElem?_eq_getElem (by rw [HN.out]; exact hlt)⟩
      obtain ⟨b1, o1, e1, _, g1⟩ := HP1.out.at k t ht
      subst e1
      have HT := Lib.hid ht
      clear ht
      by_cases h2 : 200 < t.size
      · have d2 : decide (200 < (t.size : Int)) = true := by simp; omega
        clear h2
        go_wp2
        go_ret
        exact ⟨rfl, HG1.out⟩
      have d2 : decide (200 < (t.size : Int)) = false := by simp; omega
      have ht2 : t.size ≤ 200 := by omega
      clear h2
      have HX := Lib.hid (wqsB_succ L k t HT.out)
      obtain ⟨S, hS0⟩ : ∃ S, wqsB L k = S := ⟨_, rfl⟩
      rw [hS0] at HX hz
      rw [hS0]
      clear hS0
      go_wp2
      go_loop [5, 6] (fun q i => ∃ j : Nat, j ≤ t.size ∧ i = .int .i64 j ∧ q = .string (escB8 t j)) (fun _ i => t.size - (intOf i).toNat)
      case atStart => exact ⟨0, by omega, rfl, rfl⟩
      case round =>
        obtain ⟨j, hj, rfl, rfl⟩ := hrel
        have hy := escB8_size t j
        have y1 : (escB8 t j).size + 1 ≤ 9223372036854775807 := by omega
        have y2 : (escB8 t j).size + 2 ≤ 9223372036854775807 := by omega
        by_cases hlt2 : j < t.size
        · obtain ⟨c, hc⟩ : ∃ c, t[j] = c := ⟨_, rfl⟩
          have hsu := escB8_succ t j hlt2
          have hex := extract_one t j hlt2
          rw [hc] at hsu hex
          have HSU := Lib.hid hsu
          have HEX := Lib.hid hex
          clear hsu hex hy
          by_cases h34 : c = 34 ∨ c = 92
          · have HE : Hid (escB8 t (j + 1) = escB8 t j ++ ⟨#[92]⟩ ++ t.extract j (j + 1)) := by
              show _ = _
              rw [HSU.out, HEX.out]
              unfold escC
              rw [if_pos h34, ByteArray.append_assoc]
              rfl
            rcases h34 with rfl | rfl
            all_goals
              go_wp2
              go_round
              case rel => exact ⟨j + 1, by omega, by go_num, by rw [HE.out]⟩
              case measure => simp [intOf]; omega
          · have n34 : ((c.toNat : Int) == 34) = false := u8_ne c 34 (fun e => h34 (.inl e))
            have n92 : ((c.toNat : Int) == 92) = false := u8_ne c 92 (fun e => h34 (.inr e))
            by_cases h10 : c = 10
            · have HE : Hid (escB8 t (j + 1) = escB8 t j ++ ⟨#[92, 110]⟩) := by
                show _ = _
                rw [HSU.out]
                unfold escC
                rw [if_neg h34, if_pos h10]
                rfl
              subst h10
              clear h34 n34 n92
              go_wp2
              go_round
              case rel => exact ⟨j + 1, by omega, by go_num, by rw [HE.out]⟩
              case measure => simp [intOf]; omega
            · have n10 : ((c.toNat : Int) == 10) = false := u8_ne c 10 h10
              have HE : Hid (escB8 t (j + 1) = escB8 t j ++ t.extract j (j + 1)) := by
                show _ = _
                rw [HSU.out, HEX.out]
                unfold escC
                rw [if_neg h34, if_neg h10]
              clear h34 h10
              go_wp2
              go_round
              case rel => exact ⟨j + 1, by omega, by go_num, by rw [HE.out]⟩
              case measure => simp [intOf]; omega
        · obtain rfl : j = t.size := by omega
          clear hlt2 hj
          have hx := escB8_size t t.size
          obtain ⟨E, hE⟩ : ∃ E, escB8 t t.size = E := ⟨_, rfl⟩
          rw [hE] at HX hx
          rw [hE]
          have x1 : S.size + 9 ≤ 9223372036854775807 := by omega
          have x2 : S.size + 9 + E.size ≤ 9223372036854775807 := by omega
          have x3 : S.size + 9 + E.size + 2 ≤ 9223372036854775807 := by omega
          clear hE hx y1 y2 hy hz
          go_wp2
          go_round
          case rel => exact ⟨k + 1, by omega, by go_num, by rw [HX.out], fun j x hj hx => by
            by_cases hjk : j < k
            · exact hS.out j x hjk hx
            · obtain rfl : j = k := by omega
              rw [HT.out] at hx
              obtain rfl := Option.some.inj hx
              exact ht2⟩
          case measure => simp [intOf]; omega
    · obtain rfl : k = n := by omega
      clear hlt hk hz
      go_wp2_with fail
      (with_reducible refine (quotes_ret m L k HN.out hn10 hS.out w1 (HM.out.stays HG1.out)).mono ?_)
      rintro ee w2 ⟨a2, c2, rfl, ho, g2⟩
      have HG2 := Lib.hid (World.grownBy.trans HG1.out g2)
      have HP2 := Lib.hid (HP1.out.stays g2)
      have HO := Lib.hid ho
      clear g2 ho
      dsimp only
      go_wp2_with fail
      (with_reducible refine (quotes_text m L k _ c2 a2 HN.out hn10 hS.out w2 (HM.out.stays HG2.out) HO.out).mono ?_)
      rintro ee w3 ⟨rfl, g3⟩
      have HG3 := Lib.hid (World.grownBy.trans HG2.out g3)
      have HP3 := Lib.hid (HP2.out.stays g3)
      have HO3 := Lib.hid (HO.out.stays g3)
      clear g3 HO HP2
      dsimp only
      go_wp2
      go_loopw [11] (fun i wr => ∃ j : Nat, j ≤ k ∧ i = .int .i64 j ∧ Hid (w3.grownBy wr none)) (fun i _ => k - (intOf i).toNat)
      case atStart => exact ⟨0, by omega, rfl, World.grownBy.refl _ _⟩
      case round =>
        obtain ⟨j, hj, rfl, hG⟩ := hrel
        by_cases hlt : j < k
        · obtain ⟨t, ht⟩ : ∃ t, L[j]? = some t := ⟨_, List.getElem?_eq_getElem (by rw [HN.out]; exact hlt)⟩
          obtain ⟨b1, o1, e1, _, g1⟩ := (HP3.out.stays hG.out).at j t ht
          obtain ⟨g, cap, e2, _, _, hcell⟩ := (HO3.out.stays hG.out).cell j (wqLn8 t) (by rw [List.getElem?_map, ht]; rfl)
          have q3 := hcell 3 (.string t) (by show some (Value.string (toB t.data.toList)) = _; rfl)
          have q1 := hcell 1 (.string ⟨#[102]⟩) rfl
          rw [Nat.mul_comm 6 j] at q3 q1
          have e3 := (Value.slice.inj e2).1
          subst e1 e3
          clear ht hcell e2
          go_wp2
          go_region
          all_goals
            go_wp2
            go_roundw
            case rel => exact ⟨j + 1, by omega, by go_num, grown_drew 1 hG.out⟩
            case measure => simp [intOf]; omega
        · obtain rfl : j = k := by omega
          go_wp2
          go_ret
          exact ⟨rfl, World.grownBy.trans HG3.out hG.out⟩
end Go.Proofs.YtmjdkgbblccpgaaDoor
