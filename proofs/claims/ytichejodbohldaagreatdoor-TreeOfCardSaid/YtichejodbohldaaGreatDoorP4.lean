/- Texts of one ground, in one file: QE QF QG QH. -/
import Derived.Test.YtichejodbohldaaGreatDoorP3
import Derived.Lib.Join
import Derived.ArgAppend
import Derived.Lib.BufferOwn
namespace Go.Proofs.YtichejodbohldaaGreatDoor.Pth
open Go.RowKit

def SplitRet (w : World) (L : List ByteArray) (e : Ending) (w' : World) : Prop := ∃ v', e = .returned v' ∧ OwnsS w' w.heap.size v' L ∧ w.grownBy w' none

/-- How far the reference's loop has come: out holds what is done. -/
def SplitAt (s : ByteArray) (i f : Nat) (out : List ByteArray) : Prop :=
  (i ≤ s.size ∧ f ≤ i ∧ (∀ j, f ≤ j → j < i → byteAt s j ≠ 47) ∧ pieces s = out ++ pieces (s.extract f s.size)) ∨ (i = s.size + 1 ∧ pieces s = out)
theorem SplitAt.len {s : ByteArray} {i f : Nat} {out : List ByteArray} (h : SplitAt s i f out) : out.length ≤ s.size + 1 := by
  have hl := pieces_le s
  rcases h with ⟨_, _, _, h⟩ | ⟨_, h⟩
  · rw [h, List.length_append] at hl; omega
  · rw [← h]; exact hl
theorem SplitAt.start (s : ByteArray) : SplitAt s 0 0 [] :=
  .inl ⟨Nat.zero_le _, Nat.le_refl _, fun j _ h => by omega, by rw [List.nil_append, ByteArray.extract_zero_size]⟩
theorem SplitAt.skip {s : ByteArray} {i f : Nat} {out : List ByteArray} (h : SplitAt s i f out) (hi : i < s.size) (hb : byteAt s i ≠ 47) : SplitAt s (i + 1) f out := by
  rcases h with ⟨h1, h2, h3, h4⟩ | ⟨h1, _⟩
  · refine .inl ⟨by omega, by omega, fun j hj hj2 => ?_, h4⟩
    by_cases e : j = i
    · rw [e]; exact hb
    · exact h3 j hj (by omega)
  · omega
theorem SplitAt.cut {s : ByteArray} {i f : Nat} {out : List ByteArray} (h : SplitAt s i f out) (hi : i < s.size) (hb : byteAt s i = 47) : f ≤ i ∧ SplitAt s (i + 1) (i + 1) (out ++ [s.extract f i]) := by
  rcases h with ⟨h1, h2, h3, h4⟩ | ⟨h1, _⟩
  · refine ⟨h2, .inl ⟨by omega, Nat.le_refl _, fun j hj hj2 => by omega, ?_⟩⟩
    rw [h4, pieces_from s f i h2 hi hb h3, List.append_assoc]; rfl
  · omega
theorem SplitAt.last {s : ByteArray} {f : Nat} {out : List ByteArray} (h : SplitAt s s.size f out) : f ≤ s.size ∧ pieces s = out ++ [s.extract f s.size] := by
  rcases h with ⟨h1, h2, h3, h4⟩ | ⟨h1, _⟩
  · exact ⟨h2, by rw [h4, pieces_last s f h3]⟩
  · omega

set_option maxRecDepth 1000000
set_option maxHeartbeats 1000000 in
theorem refsplit_any (s : ByteArray) (hs : s.size ≤ 100000) (w : World) :
    Calls Tryz.prog 70 #[.string s] w (SplitRet w (pieces s)) := by
  go_enter Tryz.func70, Tryz.ntmps70
  go_wp2
  go_loopw [3, 4, 5] (fun v f i wr => ∃ (k g m cp : Nat) (ad : Option Addr) (out : List ByteArray), k ≤ s.size + 1 ∧ g ≤ s.size + 1 ∧ i = .int .i64 k ∧ f = .int .i64 g ∧ v = .slice ad m cp ∧ m = out.length ∧ cp ≤ 9223372036854775807 ∧ SplitAt s k g out ∧ OwnsS wr w.heap.size v out ∧ w.grownBy wr none) (fun _ _ i _ => s.size + 1 - (intOf i).toNat)
  case atStart => exact ⟨0, 0, 0, 0, none, [], by omega, by omega, rfl, rfl, rfl, rfl, by omega, SplitAt.start s, OwnsS.nil _ _, World.grownBy.refl _ _⟩
  case round =>
    obtain ⟨k, g, m, cp, ad, out, hk, hg, rfl, rfl, rfl, hm, hcp, hat, hown, hgw⟩ := hrel
    have hml : m ≤ s.size + 1 := by rw [hm]; exact hat.len
    have HM := Lib.hid hm
    have HAT := Lib.hid hat
    have HO := Lib.hid hown
    have HG := Lib.hid hgw
    clear hm hat hown hgw
    by_cases h1 : k < s.size
    · obtain ⟨c, hc⟩ : ∃ c, byteAt s k = c := ⟨_, rfl⟩
      have hc2 : s[k]'h1 = c := by rw [← byteAt_eq]; exact hc
      have HC := Lib.hid hc
      have hne : ¬ (k : Int) = (s.size : Int) := by omega
      clear hc
      by_cases hb : c = 47
      · subst hb
        have hcut := HAT.out.cut h1 HC.out
        have hgk := hcut.1
        have HCUT := Lib.hid hcut.2
        clear hcut
        go_wp2_with (at_builtin; go_must (with_reducible refine app_str (o := ⟨some 28, _, _, _, _, _⟩) rfl _ _ rfl w.heap.size (wr.heap.size + 1) (.slice ad m cp) _ out [s.extract g k] ?_ (HO.out.alloc _) ?_ (part_str wr _ 9) ?_ ?_ ?_); go_must (exact rfl); go_must (exact rfl); go_must ((have := HM.out; simp; omega)); go_must ((have := HG.out.size; rw [alloc_size]; omega)); (intro v2 w2 ho2 hg2); have HO2 := Lib.hid ho2; have HG2 := Lib.hid (HO.out.alloc (.cells #[.string (s.extract g k)] 9) |>.grown (World.grownBy.trans HG.out (World.grownBy_alloc _ _ _)) hg2); clear ho2 hg2)
        go_roundw
        case rel =>
          obtain ⟨ad2, cp2, e1, e2, e3⟩ := HO2.out.form
          refine ⟨k + 1, k + 1, _, cp2, ad2, out ++ [s.extract g k], by omega, by omega, by go_num, by go_num, e1, rfl, e3, HCUT.out, HO2.out, HG2.out⟩
        case measure => simp [intOf]; omega
      · have hb' : ¬ (c.toNat : Int) = 47 := by
          intro e; apply hb; apply UInt8.toNat_inj.1; show c.toNat = 47; omega
        have b1 := beq_no c.toNat 47 hb'
        have b2 : ((k : Int) == (s.size : Int)) = false := by simp; omega
        have HS := Lib.hid (HAT.out.skip h1 (by rw [HC.out]; exact hb))
        go_wp2
        go_roundw
        case rel => exact ⟨k + 1, g, m, cp, ad, out, by omega, by omega, by go_num, rfl, rfl, HM.out, hcp, HS.out, HO.out, HG.out⟩
        case measure => simp [intOf]; omega
    · by_cases h2 : k = s.size
      · subst h2
        have hlast := HAT.out.last
        have hgk := hlast.1
        have HL := Lib.hid hlast.2
        have hend := Lib.hid (show SplitAt s (s.size + 1) (s.size + 1) (out ++ [s.extract g s.size]) from .inr ⟨rfl, hlast.2⟩)
        clear hlast h1
        go_wp2_with (at_builtin; go_must (with_reducible refine app_str (o := ⟨some 28, _, _, _, _, _⟩) rfl _ _ rfl w.heap.size (wr.heap.size + 1) (.slice ad m cp) _ out [s.extract g s.size] ?_ (HO.out.alloc _) ?_ (part_str wr _ 9) ?_ ?_ ?_); go_must (exact rfl); go_must (exact rfl); go_must ((have := HM.out; simp; omega)); go_must ((have := HG.out.size; rw [alloc_size]; omega)); (intro v2 w2 ho2 hg2); have HO2 := Lib.hid ho2; have HG2 := Lib.hid (HO.out.alloc (.cells #[.string (s.extract g s.size)] 9) |>.grown (World.grownBy.trans HG.out (World.grownBy_alloc _ _ _)) hg2); clear ho2 hg2)
        go_roundw
        case rel =>
          obtain ⟨ad2, cp2, e1, e2, e3⟩ := HO2.out.form
          refine ⟨s.size + 1, s.size + 1, _, cp2, ad2, out ++ [s.extract g s.size], by omega, by omega, by go_num, by go_num, e1, rfl, e3, hend.out, HO2.out, HG2.out⟩
        case measure => simp [intOf]
      · have hk1 : k = s.size + 1 := by omega
        have hp : Hid (pieces s = out) := by
          show _ = _
          rcases HAT.out with ⟨h3, _⟩ | ⟨_, h3⟩
          · exact absurd h3 (by omega)
          · exact h3
        subst hk1
        clear h1 h2 hk
        go_wp2
        go_ret
        exact ⟨_, rfl, by rw [hp.out]; exact HO.out, HG.out⟩
end Go.Proofs.YtichejodbohldaaGreatDoor.Pth
namespace Go.Proofs.YtichejodbohldaaGreatDoor.Pth
open Go.RowKit

/-- Parts, put together with slashes between. -/
def joinB (L : List ByteArray) : ByteArray := ⟨(Lib.join (L.map (·.data.toList)) slash.data.toList).toArray⟩

theorem joinB_nil : joinB [] = ByteArray.empty := rfl
theorem joinB_one (x : ByteArray) : joinB [x] = x := by
  unfold joinB
  simp [Lib.join_one]
theorem joinB_snoc (L : List ByteArray) (x : ByteArray) (h : L ≠ []) : joinB (L ++ [x]) = joinB L ++ slash ++ x := by
  obtain ⟨y, r, rfl⟩ : ∃ y r, L = y :: r := List.exists_cons_of_ne_nil h
  unfold joinB
  rw [List.cons_append, List.map_cons, List.map_cons, Lib.join_cons, Lib.join_cons]
  apply ByteArray.ext
  apply Array.ext'
  simp [Lib.joinTail, slash]

def strAt (L : List ByteArray) (i : Nat) : ByteArray := L.getD i ByteArray.empty
theorem strAt_eq (L : List ByteArray) (i : Nat) (h : i < L.length) : L[i]? = some (strAt L i) := by
  unfold strAt
  rw [List.getD_eq_getElem?_getD, List.getElem?_eq_getElem h]; rfl
theorem take_snocS (L : List ByteArray) (k : Nat) (h : k < L.length) : L.take (k + 1) = L.take k ++ [strAt L k] := by
  rw [List.take_add_one, strAt_eq L k h]; rfl

/-- All the bytes of the parts, and one for each. -/
def sumS : List ByteArray → Nat
  | [] => 0
  | x :: r => x.size + 1 + sumS r
theorem sumS_snoc (L : List ByteArray) (x : ByteArray) : sumS (L ++ [x]) = sumS L + x.size + 1 := by
  induction L with
  | nil => simp [sumS]
  | cons y r ih => simp only [List.cons_append, sumS, ih]; omega
theorem sumS_take (L : List ByteArray) (k : Nat) : sumS (L.take k) ≤ sumS L := by
  induction L generalizing k with
  | nil => simp [sumS]
  | cons y r ih => cases k with
    | zero => simp [sumS]
    | succ k => simp only [List.take_succ_cons, sumS]; have := ih k; omega
theorem joinB_le (L : List ByteArray) : (joinB L).size ≤ sumS L := by
  cases L with
  | nil => exact Nat.le_refl _
  | cons y r =>
    have h : ∀ (r : List ByteArray), (Lib.joinTail slash.data.toList (r.map (·.data.toList))).length = sumS r := by
      intro r
      induction r with
      | nil => rfl
      | cons z r ih =>
        simp only [Lib.joinTail, List.map_cons, List.flatten_cons, List.length_append, sumS] at ih ⊢
        rw [ih]; simp [slash]; omega
    show (Lib.join _ _).toArray.size ≤ _
    rw [List.map_cons, Lib.join_cons, List.size_toArray, List.length_append, h]
    simp [sumS]

set_option maxRecDepth 1000000
set_option maxHeartbeats 1000000 in
theorem glue_any (B n cap : Nat) (a : Option Addr) (L : List ByteArray) (w : World) (hn : L.length = n) (hL : n ≤ 1000000) (hS : sumS L ≤ 100000000) (hP : PartS w B (.slice a n cap) L) :
    Calls Tryz.prog 71 #[.slice a n cap] w fun e w' => e = .returned (.string (joinB L)) ∧ w' = w := by
  have HN := Lib.hid hn
  have HP := Lib.hid hP
  clear hn hP
  go_enter Tryz.func71, Tryz.ntmps71
  go_wp2
  go_loopw [3, 4] (fun s i wr => ∃ (k : Nat), k ≤ n ∧ i = .int .i64 k ∧ s = .string (joinB (L.take k)) ∧ wr = w) (fun _ i _ => n - (intOf i).toNat)
  case atStart => exact ⟨0, by omega, rfl, rfl, rfl⟩
  case round =>
    obtain ⟨k, hk, rfl, rfl, rfl⟩ := hrel
    by_cases hlt : k < n
    · obtain ⟨x, hx⟩ : ∃ x, strAt L k = x := ⟨_, rfl⟩
      obtain ⟨b, o, hab, hcell⟩ : ∃ b o, a = some ⟨b, o, none⟩ ∧ wr.cell? ⟨b, o + k, none⟩ = some (.string x) := by
        obtain ⟨a', cap', b, o, h1, h2, h3, h4, h5, h6⟩ := HP.out
        have e := Value.slice.inj h1
        refine ⟨b, o, by rw [e.1]; exact h5 (by have := HN.out; omega), h6 k x (by rw [strAt_eq L k (by have := HN.out; omega), hx])⟩
      subst hab
      have ht := take_snocS L k (by have := HN.out; omega)
      rw [hx] at ht
      have hz : sumS (L.take k) + x.size + 1 ≤ 100000000 := by
        have h1 := sumS_take L (k + 1)
        rw [ht, sumS_snoc] at h1
        omega
      have hj := joinB_le (L.take k)
      have HT := Lib.hid ht
      clear hx ht
      by_cases h0 : k = 0
      · subst h0
        rw [Nat.add_zero] at hcell
        have c1 : (joinB []).size + x.size ≤ 9223372036854775807 := by
          have e : (joinB []).size = 0 := rfl
          omega
        clear hj hz
        go_wp2
        go_roundw
        case rel => exact ⟨1, by omega, rfl, by rw [HT.out, List.take_zero, List.nil_append, joinB_one, joinB_nil, ByteArray.empty_append], trivial⟩
        case measure => simp [intOf]; omega
      · have hpos : 0 < (k : Int) := by omega
        have c1 : (joinB (L.take k)).size + 1 ≤ 9223372036854775807 := by omega
        have c2 : (joinB (L.take k)).size + 1 + x.size ≤ 9223372036854775807 := by omega
        have HJ := Lib.hid (show joinB (L.take (k + 1)) = joinB (L.take k) ++ slash ++ x by
          rw [HT.out]
          refine joinB_snoc _ _ fun e => ?_
          have h1 := congrArg List.length e
          rw [List.length_take, HN.out] at h1
          simp at h1; omega)
        clear hj hz
        go_wp2
        go_roundw
        case rel => exact ⟨k + 1, by omega, by go_num, by rw [HJ.out]; rfl, trivial⟩
        case measure => simp [intOf]; omega
    · have hkn : k = n := by omega
      subst hkn
      clear hlt hk
      have e : Hid (joinB (L.take k) = joinB L) := by
        show _ = _
        rw [List.take_of_length_le (by rw [HN.out]; exact Nat.le_refl _)]
      go_wp2
      go_ret
      exact ⟨by rw [← e.out]; rfl, rfl⟩
end Go.Proofs.YtichejodbohldaaGreatDoor.Pth
namespace Go.Proofs.YtichejodbohldaaGreatDoor.Pth
open Go.RowKit

def dot : ByteArray := ⟨#[46]⟩
def dots : ByteArray := ⟨#[46, 46]⟩

/-- The way through parts: 0 and the parts that stay, or an error's number. nb parts may not be taken away. -/
def walkL (nb : Nat) : List ByteArray → List ByteArray → Int × List ByteArray
  | out, [] => (0, out)
  | out, p :: ps =>
    if p = ⟨#[]⟩ ∨ p = dot then walkL nb out ps
    else if p = dots then (if out.length = nb then (51, []) else walkL nb out.dropLast ps)
    else if okPart p = true then walkL nb (out ++ [p]) ps
    else (50, [])
/-- The path that s leads to from root on. -/
def walkS (root : List ByteArray) (s : ByteArray) : ByteArray × Int :=
  if Lib.hasPrefix s.data.toList slash.data.toList = true then (⟨#[]⟩, 51)
  else if (walkL root.length root (pieces s)).1 ≠ 0 then (⟨#[]⟩, (walkL root.length root (pieces s)).1)
  else if 12 < (walkL root.length root (pieces s)).2.length then (⟨#[]⟩, 50)
  else (joinB (walkL root.length root (pieces s)).2, 0)

/-- A slice without room, whose texts lie anywhere. -/
def FullS (w : World) (v : Value) (L : List ByteArray) : Prop := (∃ a, v = .slice a L.length L.length ∧ (a = none → L.length = 0)) ∧ ∃ B, B ≤ w.heap.size ∧ PartS w B v L
theorem PartS.le {w : World} {B B' : Nat} {v : Value} {M : List ByteArray} (h : PartS w B v M) (hB : B ≤ B') : PartS w B' v M := by
  obtain ⟨a, cap, b, o, h1, h2, h3, h4, h5, h6⟩ := h
  exact ⟨a, cap, b, o, h1, h2, h3, by omega, h5, h6⟩
theorem OwnsS.mono {w : World} {b c : Nat} {v : Value} {L : List ByteArray} (h : OwnsS w b v L) (hc : c ≤ b) : OwnsS w c v L := by
  refine ⟨h.1, ?_⟩
  rcases h.2 with h1 | ⟨g, cap, cur, h1, h2, h3⟩
  · exact .inl h1
  · exact .inr ⟨g, cap, cur, h1, Nat.le_trans hc h2, h3⟩
theorem OwnsS.shorter {w : World} {b n cap : Nat} {a : Option Addr} {L : List ByteArray} (h : OwnsS w b (.slice a n cap) L) (hn : L.length = n) (h0 : 0 < n) : OwnsS w b (.slice a (n - 1) cap) L.dropLast := by
  have hl : L.dropLast.length = n - 1 := by rw [List.length_dropLast, hn]
  refine ⟨by simp, ?_⟩
  rcases h.2 with ⟨h1, h2⟩ | ⟨g, cp, cur, h1, h2, h3, h4, h5, h6, h7⟩
  · omega
  · have e := Value.slice.inj h1
    refine .inr ⟨g, cap, cur, by rw [e.1, hl], h2, h3, ?_, ?_, ?_, ?_⟩
    · have := e.2.1; rw [hl]; have := e.2.2; omega
    · rw [e.2.2]; exact h5
    · rw [e.2.2]; exact h6
    · rw [hl, List.map_dropLast, ← h7, List.dropLast_eq_take, List.length_take, List.take_take]
      congr 1
      have : cur.toList.length = cp := by simpa using h6
      omega

theorem app_out {w1 w : World} {ops : Array Oper} {rest : List Oper} {o : Oper} {a : Act} {Q : Exit → Act → World → Prop} (hgd : o.guard = none) (s x : Operand)
    (ho : o.op = .call { callee := .builtin .append, args := #[s, x], argTypes := #[56, 56] }) (B : Nat) (v xv : Value) (L : List ByteArray) (y : ByteArray) (hs : a.eval s = v) (hown : FullS w v L ∨ OwnsS w w1.heap.size v L)
    (hx : a.eval x = xv) (hp : PartS w B xv [y]) (hb : L.length + 1 ≤ 1000000) (hgw : w1.grownBy w none)
    (h : ∀ v' w', OwnsS w' w1.heap.size v' (L ++ [y]) → w1.grownBy w' none → wpList Tryz.prog ops Q rest (a.put o.dst v') w') : wpList Tryz.prog ops Q (o :: rest) a w := by
  rcases hown with ⟨⟨ao, hv, hno⟩, ⟨B', _, hP⟩⟩ | hown
  · obtain ⟨i0, hi, hz0, hz1, hz2⟩ := info_parts info9
    obtain ⟨ap, cap, b, of, h1, h2, h6, h3, h4, h5⟩ := hp
    have hap := h4 (by simp)
    subst hap
    obtain ⟨a2, cap2, b2, of2, g1, g2, g6, g3, g4, g5⟩ := hP
    have he := Value.slice.inj (hv.symm.trans g1)
    have hal : (a.eval s) = .slice ao L.length L.length := hs.trans hv
    refine wpList_append_grows w hgd s x 56 ho 9 i0 (.string ByteArray.empty) 1 16 Tryz.underlying56 hi hz0 hz1 hz2 rfl (by decide) ao L.length L.length (L.map Value.string) hal (fun e => ⟨hno e, hno e⟩) (by simp) ?_
      ⟨b, of, none⟩ 1 cap [.string y] (by rw [hx, h1]; rfl) rfl ?_ ?_ (by omega) (by unfold maxLen; omega) (by omega) ?_
    · intro b3 hb3 j u hu
      have hj : j < L.length := by have := (List.getElem?_eq_some_iff.1 hu).1; simpa using this
      have e := g4 (by omega)
      rw [← he.1, hb3] at e
      rw [List.getElem?_map, List.getElem?_eq_getElem hj] at hu
      have hu' : Value.string L[j] = u := by simpa using hu
      rw [Option.some.inj e, Addr.add_mid, g5 j L[j] (List.getElem?_eq_getElem hj), hu']
    · intro j u hu
      have hj : j = 0 := by have := (List.getElem?_eq_some_iff.1 hu).1; simpa using this
      subst hj
      have hu' : Value.string y = u := by simpa using hu
      rw [Addr.add_mid, h5 0 y rfl, hu']
    · intro u hu
      rw [List.mem_singleton.1 hu]; rfl
    · intro v' w' h7 h8
      refine h v' w' ?_ (World.grownBy.trans hgw h8)
      refine OwnsS.mono (b := w.heap.size) ?_ hgw.size
      show World.ownsRow _ _ _ _ _ _ _
      rw [List.length_append, List.map_append]
      exact h7
  · refine app_str hgd s x ho w1.heap.size B v xv L [y] hs hown hx hp (by simpa using hb) hgw.size fun v' w' h1 h2 => h v' w' h1 ?_
    exact OwnsS.grown hown hgw h2
end Go.Proofs.YtichejodbohldaaGreatDoor.Pth
namespace Go.Proofs.YtichejodbohldaaGreatDoor.Pth
open Go.RowKit

def WalkRet (w : World) (R : ByteArray × Int) (e : Ending) (w' : World) : Prop := e = .returned (.tuple #[.string R.1, .int .i64 R.2]) ∧ w.grownBy w' none

theorem walkL_none (nb : Nat) (out : List ByteArray) (p : ByteArray) (ps : List ByteArray) (h : p = ⟨#[]⟩ ∨ p = dot) : walkL nb out (p :: ps) = walkL nb out ps := by rw [walkL, if_pos h]
theorem walkL_out (nb : Nat) (out ps : List ByteArray) (h : out.length = nb) : walkL nb out (dots :: ps) = (51, []) := by
  rw [walkL, if_neg (by decide), if_pos rfl, if_pos h]
theorem walkL_up (nb : Nat) (out ps : List ByteArray) (h : ¬ out.length = nb) : walkL nb out (dots :: ps) = walkL nb out.dropLast ps := by
  rw [walkL, if_neg (by decide), if_pos rfl, if_neg h]
theorem walkL_bad (nb : Nat) (out : List ByteArray) (p : ByteArray) (ps : List ByteArray) (h1 : ¬ p = ⟨#[]⟩) (h2 : ¬ p = dot) (h3 : ¬ p = dots) (h : okPart p = false) : walkL nb out (p :: ps) = (50, []) := by
  rw [walkL, if_neg (by simp [h1, h2]), if_neg h3, if_neg (by simp [h])]
theorem walkL_good (nb : Nat) (out : List ByteArray) (p : ByteArray) (ps : List ByteArray) (h1 : ¬ p = ⟨#[]⟩) (h2 : ¬ p = dot) (h3 : ¬ p = dots) (h : okPart p = true) : walkL nb out (p :: ps) = walkL nb (out ++ [p]) ps := by
  rw [walkL, if_neg (by simp [h1, h2]), if_neg h3, if_pos h]
theorem sumS_drop (L : List ByteArray) : sumS L.dropLast ≤ sumS L := by
  rw [List.dropLast_eq_take]; exact sumS_take _ _

theorem has_any (s : ByteArray) (b : Bool) (w : World) (hp : Lib.hasPrefix s.data.toList slash.data.toList = b) :
    Calls Tryz.prog 83 #[.string s, .string ⟨#[47]⟩] w fun e w' => e = .returned (.bool b) ∧ w' = w := by
  rw [← hp]; exact Tryz.strings_HasPrefix s slash w
theorem split_any (s : ByteArray) (m : Int) (N : Nat) (P : List ByteArray) (w : World) (hs : s.size ≤ 100000) (hm : w.cell? ⟨0, 0, none⟩ = some (.int .i64 m)) (hP : pieces s = P) (hN : P.length = N) :
    Calls Tryz.prog 84 #[.string s, .string ⟨#[47]⟩] w fun e w' => e = .returned (.slice (some ⟨w.heap.size, 0, none⟩) N N) ∧ w' = w.alloc (.cells (P.map Value.string).toArray 9) := by
  have e : Lib.countB s slash + 1 = N := by rw [← hN, ← hP, pieces_len]
  rw [← e, ← hP]
  exact Tryz.strings_Split s slash m w (by omega) hm (by decide)
theorem join_any (B n cap : Nat) (a : Option Addr) (L : List ByteArray) (w : World) (hn : L.length = n) (hL : n ≤ 1000000) (hS : sumS L ≤ 140737488355328) (hB : B ≤ w.heap.size) (hP : PartS w B (.slice a n cap) L) :
    Calls Tryz.prog 86 #[.slice a n cap, .string ⟨#[47]⟩] w fun e w' => e = .returned (.string (joinB L)) ∧ Below w.heap.size w w' := by
  subst hn
  obtain ⟨a', cap', b, o, h1, h2, h3, h4, h5, h6⟩ := hP
  have he := Value.slice.inj h1
  by_cases h0 : L.length = 0
  · obtain rfl : L = [] := List.eq_nil_of_length_eq_zero h0
    exact (Tryz.strings_Join_none a cap slash w).mono fun e w' h => ⟨h.1, by rw [h.2]; exact Below.refl _ _⟩
  · have ha := h5 (by omega)
    rw [he.1, ha]
    exact Tryz.strings_Join b o cap L slash w (fun j x hj => h6 j x hj) (by omega) (by omega) (by rw [he.2.2]; exact h2) (Nat.le_trans (joinB_le L) hS)

theorem ne_list (x : ByteArray) (l : List UInt8) (h : ¬ x = ⟨l.toArray⟩) : ¬ x.toList = l := by
  intro e
  apply h
  rw [ByteArray.toList_eq] at e
  apply ByteArray.ext
  apply Array.ext'
  rw [e]
theorem nb_list (x : ByteArray) (l : List UInt8) (h : ¬ x = ⟨l.toArray⟩) : (x.toList == l) = false := by
  rw [beq_eq_false_iff_ne]; exact ne_list x l h

/-- How far the program's loop has come. -/
structure WalkAt (r : Nat) (root P out : List ByteArray) (k : Nat) : Prop where
  same : walkL r root P = walkL r out (P.drop k)
  least : r ≤ out.length
  most : out.length ≤ r + k
  sum : sumS out ≤ 100000 + k * 100001

set_option maxRecDepth 1000000
set_option maxHeartbeats 1000000 in
theorem walk_yes (r : Nat) (ra : Option Addr) (root : List ByteArray) (s : ByteArray) (w : World) (hp : Lib.hasPrefix s.data.toList slash.data.toList = true) :
    Calls Tryz.prog 73 #[.slice ra r r, .string s] w (WalkRet w (walkS root s)) := by
  have e : Hid (walkS root s = (⟨#[]⟩, 51)) := by show _ = _; unfold walkS; rw [if_pos hp]
  have HP := Lib.hid hp
  clear hp
  go_enter Tryz.func73, Tryz.ntmps73
  go_wp2_with fail
  (with_reducible refine (has_any s true _ HP.out).mono ?_)
  rintro ee w1 ⟨rfl, rfl⟩
  dsimp only
  go_wp2
  go_ret2
  exact ⟨by rw [e.out]; rfl, World.grownBy.refl _ _⟩

set_option maxRecDepth 1000000
set_option maxHeartbeats 1000000 in
theorem walk_no (m : Int) (r : Nat) (ra : Option Addr) (root : List ByteArray) (s : ByteArray) (w : World) (hr : root.length = r) (hr2 : r ≤ 1000) (hroot : FullS w (.slice ra r r) root) (hs : s.size ≤ 100000)
    (hsum : sumS root ≤ 100000) (hm : w.cell? ⟨0, 0, none⟩ = some (.int .i64 m)) (hp : Lib.hasPrefix s.data.toList slash.data.toList = false) :
    Calls Tryz.prog 73 #[.slice ra r r, .string s] w (WalkRet w (walkS root s)) := by
  obtain ⟨P, hP⟩ : ∃ P, pieces s = P := ⟨_, rfl⟩
  obtain ⟨N, hPN⟩ : ∃ N, P.length = N := ⟨_, rfl⟩
  have hNs : N ≤ 100001 := by rw [← hPN, ← hP]; have := pieces_le s; omega
  have hsz : ∀ p ∈ P, p.size ≤ 100000 := fun p hp => by rw [← hP] at hp; exact Nat.le_trans (pieces_size s p hp) hs
  have e : Hid (walkS root s = if (walkL r root P).1 ≠ 0 then (⟨#[]⟩, (walkL r root P).1) else if 12 < (walkL r root P).2.length then (⟨#[]⟩, 50) else (joinB (walkL r root P).2, 0)) := by
    show _ = _; unfold walkS; rw [if_neg (by simp [hp]), hP, hr]
  have HP := Lib.hid hp
  have HPP := Lib.hid hP
  have HPN := Lib.hid hPN
  have HSZ := Lib.hid hsz
  have HR := Lib.hid hr
  have HRO := Lib.hid hroot
  have HM := Lib.hid hm
  have hwpos : 0 < w.heap.size := World.block_lt_of_cell? _ _ hm
  have hga : w.grownBy (w.alloc (.cells (P.map Value.string).toArray 9)) none := World.grownBy_alloc _ _ _
  have hcell : Hid (∀ j x, P[j]? = some x → (w.alloc (.cells (P.map Value.string).toArray 9)).cell? ⟨w.heap.size, j, none⟩ = some (.string x)) := by
    intro j x hj
    rw [alloc_cell]; simp [hj]
  have hsz1 : (w.alloc (.cells (P.map Value.string).toArray 9)).heap.size = w.heap.size + 1 := alloc_size _ _
  obtain ⟨w1, hw1⟩ : ∃ w1, w.alloc (.cells (P.map Value.string).toArray 9) = w1 := ⟨_, rfl⟩
  rw [hw1] at hga hcell hsz1
  have HGA := Lib.hid hga
  have HS1 := Lib.hid hsz1
  have HW1 := Lib.hid hw1
  clear hp hP hPN hsz hr hroot hm hga hsz1 hw1
  go_enter Tryz.func73, Tryz.ntmps73
  go_wp2_with fail
  (with_reducible refine (has_any s false _ HP.out).mono ?_)
  rintro ee w' ⟨rfl, hw'⟩
  rw [hw']
  clear hw' w'
  dsimp only
  go_wp2_with fail
  (with_reducible refine (split_any s m N P _ hs HM.out HPP.out HPN.out).mono ?_)
  rintro ee w' ⟨rfl, hw'⟩
  rw [hw', HW1.out]
  clear hw' w'
  dsimp only
  go_wp2
  go_loopw [6, 15] (fun v i wr => ∃ (k n cp : Nat) (ad : Option Addr) (out : List ByteArray), k ≤ N ∧ i = .int .i64 k ∧ v = .slice ad n cp ∧ n = out.length ∧ cp ≤ 9223372036854775807 ∧ WalkAt r root P out k ∧ ((v = .slice ra r r ∧ out = root) ∨ OwnsS wr w1.heap.size v out) ∧ w1.grownBy wr none) (fun _ i _ => N - (intOf i).toNat)
  case atStart => exact ⟨0, r, r, ra, root, by omega, rfl, rfl, HR.out.symm, by omega, ⟨rfl, by rw [HR.out]; exact Nat.le_refl _, by rw [HR.out]; exact Nat.le_refl _, by omega⟩, .inl ⟨rfl, rfl⟩, World.grownBy.refl _ _⟩
  case round =>
    obtain ⟨k, n, cp, ad, out, hk, rfl, rfl, hn, hcp, hat, hown, hgw⟩ := hrel
    have hnr : r ≤ n := by rw [hn]; exact hat.least
    have hnk : n ≤ r + k := by rw [hn]; exact hat.most
    have hncp : n ≤ cp := by
      rcases hown with ⟨h1, h2⟩ | h1
      · have := Value.slice.inj h1; omega
      · obtain ⟨a', cap', h2, h3, h4⟩ := h1.form
        have := Value.slice.inj h2; omega
    have HN := Lib.hid hn
    have HAT := Lib.hid hat
    have HO := Lib.hid hown
    have HG := Lib.hid hgw
    clear hn hat hown hgw
    by_cases hlt : k < N
    · obtain ⟨x, hx⟩ : ∃ x, strAt P k = x := ⟨_, rfl⟩
      have hPk : P[k]? = some x := by rw [← hx]; exact strAt_eq P k (by rw [HPN.out]; exact hlt)
      have hcx : wr.cell? ⟨w.heap.size, k, none⟩ = some (.string x) := HG.out.cell (hcell.out k x hPk) (by simp)
      have hx1 : x.size ≤ 100000 := HSZ.out x (List.mem_of_getElem? hPk)
      have hdrop := Lib.hid (show P.drop k = x :: P.drop (k + 1) by
        have hl := (List.getElem?_eq_some_iff.1 hPk)
        obtain ⟨hl1, hl2⟩ := hl
        rw [List.drop_eq_getElem_cons hl1, hl2])
      clear hx hPk
      by_cases h1 : x = ⟨#[]⟩ ∨ x = dot
      · have hnext := Lib.hid (show WalkAt r root P out (k + 1) from ⟨by rw [HAT.out.same, hdrop.out, walkL_none _ _ _ _ h1], HAT.out.least, by have := HAT.out.most; omega, by have := HAT.out.sum; omega⟩)
        rcases h1 with rfl | rfl
        · go_wp2
          go_roundw
          case rel => exact ⟨k + 1, n, cp, ad, out, by omega, by go_num, rfl, HN.out, hcp, hnext.out, HO.out, HG.out⟩
          case measure => simp [intOf]; omega
        · unfold dot at hcx
          go_wp2
          go_roundw
          case rel => exact ⟨k + 1, n, cp, ad, out, by omega, by go_num, rfl, HN.out, hcp, hnext.out, HO.out, HG.out⟩
          case measure => simp [intOf]; omega
      · by_cases h2 : x = dots
        · subst h2
          clear h1
          by_cases h3 : n = r
          · have he : Hid (walkS root s = (⟨#[]⟩, 51)) := by
              show _ = _
              rw [e.out, HAT.out.same, hdrop.out, walkL_out r out _ (by rw [← HN.out]; exact h3)]
              rfl
            unfold dots at hcx
            subst h3
            go_wp2
            go_ret2
            exact ⟨by rw [he.out]; rfl, World.grownBy.trans HGA.out HG.out⟩
          · have hown2 : OwnsS wr w1.heap.size (.slice ad n cp) out := by
              rcases HO.out with ⟨q1, q2⟩ | q
              · exact absurd (Value.slice.inj q1).2.1 h3
              · exact q
            have hsh := Lib.hid (hown2.shorter HN.out.symm (by omega))
            have hnext := Lib.hid (show WalkAt r root P out.dropLast (k + 1) from ⟨by rw [HAT.out.same, hdrop.out, walkL_up r out _ (by rw [← HN.out]; exact h3)], by rw [List.length_dropLast, ← HN.out]; omega, by rw [List.length_dropLast, ← HN.out]; omega, by have := HAT.out.sum; have := sumS_drop out; omega⟩)
            clear hown2
            unfold dots at hcx
            have hne : ¬ (n : Int) = (r : Int) := by omega
            go_wp2
            go_roundw
            case rel =>
              refine ⟨k + 1, n - 1, cp, ad, out.dropLast, by omega, by go_num, rfl, by rw [List.length_dropLast, HN.out], hcp, hnext.out, .inr hsh.out, HG.out⟩
            case measure => simp [intOf]; omega
        · have b1 : ¬ x = ⟨#[]⟩ := fun e => h1 (.inl e)
          have b2 : ¬ x = ⟨#[46]⟩ := fun e => h1 (.inr e)
          have b3 : ¬ x = ⟨#[46, 46]⟩ := h2
          have d1 := ne_list x [] b1
          have d2 := ne_list x [46] b2
          have d3 := ne_list x [46, 46] b3
          have c1 : x.toList.isEmpty = false := by
            cases hl : x.toList with
            | nil => exact absurd hl d1
            | cons _ _ => rfl
          have c2 := nb_list x [46] b2
          have c3 := nb_list x [46, 46] b3
          have H1 := Lib.hid b1
          have H2 := Lib.hid b2
          have H3 := Lib.hid b3
          clear h1 h2 b1 b2 b3
          go_wp2_with fail
          (with_reducible refine (good_any x (by omega) _).mono ?_)
          rintro ee w' ⟨rfl, hw'⟩
          rw [hw']
          clear hw' w'
          dsimp only
          by_cases hg : okPart x = true
          · rw [hg]
            have hsum2 := sumS_snoc out x
            have hnext := Lib.hid (show WalkAt r root P (out ++ [x]) (k + 1) from ⟨by rw [HAT.out.same, hdrop.out, walkL_good r out x _ H1.out H2.out H3.out hg], by rw [List.length_append, ← HN.out]; simp; omega, by rw [List.length_append, ← HN.out]; simp; omega, by rw [hsum2]; have := HAT.out.sum; omega⟩)
            have hga2 := Lib.hid (World.grownBy.trans HG.out (World.grownBy_alloc wr (.cells #[.string x] 9) none))
            have hfo : Hid (FullS (wr.alloc (.cells #[.string x] 9)) (.slice ad n cp) out ∨ OwnsS (wr.alloc (.cells #[.string x] 9)) w1.heap.size (.slice ad n cp) out) := by
              rcases HO.out with ⟨q1, q2⟩ | q
              · refine .inl ?_
                obtain ⟨⟨a2, f1, f2⟩, B2, f4, f3⟩ := HRO.out
                rw [q1, q2]
                refine ⟨⟨a2, f1, f2⟩, B2, Nat.le_trans f4 (Nat.le_trans HGA.out.size hga2.out.size), ?_⟩
                refine PartS.grown f3 ((World.grownBy.trans (World.grownBy.trans HGA.out HG.out) (World.grownBy_alloc wr _ none))) (fun k hk => by simp at hk)
              · exact .inr (q.alloc _)
            clear hsum2 hg
            go_wp2_with (at_builtin; go_must (with_reducible refine app_out (o := ⟨some 22, _, _, _, _, _⟩) (w1 := w1) rfl _ _ rfl (wr.heap.size + 1) (.slice ad n cp) _ out x ?_ hfo.out ?_ (part_str wr _ 9) ?_ hga2.out ?_); go_must (exact rfl); go_must (exact rfl); go_must ((have := HN.out; omega)); (intro v2 w2 ho2 hg2); have HO2 := Lib.hid ho2; have HG2 := Lib.hid hg2; clear ho2 hg2)
            go_roundw
            case rel =>
              obtain ⟨ad2, cp2, e1, e2, e3⟩ := HO2.out.form
              exact ⟨k + 1, _, cp2, ad2, out ++ [x], by omega, by go_num, e1, rfl, e3, hnext.out, .inr HO2.out, HG2.out⟩
            case measure => simp [intOf]; omega
          · have hg' : okPart x = false := by simpa using hg
            rw [hg']
            have he : Hid (walkS root s = (⟨#[]⟩, 50)) := by
              show _ = _
              rw [e.out, HAT.out.same, hdrop.out, walkL_bad r out x _ H1.out H2.out H3.out hg']
              rfl
            clear hg hg'
            go_wp2
            go_ret2
            exact ⟨by rw [he.out]; rfl, World.grownBy.trans HGA.out HG.out⟩
    · have hkN : k = N := by omega
      subst hkN
      clear hlt hk
      have hw : Hid (walkL r root P = (0, out)) := by
        show _ = _
        rw [HAT.out.same, List.drop_of_length_le (by rw [HPN.out]; exact Nat.le_refl _)]
        rfl
      have hpart : Hid (PartS wr wr.heap.size (.slice ad n cp) out) := by
        rcases HO.out with ⟨q1, q2⟩ | q
        · obtain ⟨_, B2, f5, f3⟩ := HRO.out
          have f4 := PartS.grown f3 (World.grownBy.trans HGA.out HG.out) (fun k hk => by simp at hk)
          rw [q1, q2]
          exact f4.le (Nat.le_trans f5 (Nat.le_trans HGA.out.size HG.out.size))
        · exact q.part (by have := HG.out.size; have := HS1.out; omega)
      by_cases h12 : 12 < n
      · have he : Hid (walkS root s = (⟨#[]⟩, 50)) := by
          show _ = _
          rw [e.out, hw.out, if_neg (by simp), if_pos (by rw [← HN.out]; exact h12)]
        have h13 : 12 < (n : Int) := by omega
        clear h12
        go_wp2
        go_ret2
        exact ⟨by rw [he.out]; rfl, World.grownBy.trans HGA.out HG.out⟩
      · have he : Hid (walkS root s = (joinB out, 0)) := by
          show _ = _
          rw [e.out, hw.out, if_neg (by simp), if_neg (by rw [← HN.out]; exact h12)]
        have h13 : decide (12 < (n : Int)) = false := by simp; omega
        have hsm := Lib.hid HAT.out.sum
        go_wp2_with fail
        (with_reducible refine (join_any wr.heap.size n cp ad out _ HN.out.symm (by omega) (by have := hsm.out; omega) (Nat.le_refl _) hpart.out).mono ?_)
        rintro ee w' ⟨rfl, hb⟩
        dsimp only
        have hg3 := Lib.hid (Lib.grownBy_below (World.grownBy.trans HGA.out HG.out) hb)
        clear hb
        go_wp2
        go_ret2
        exact ⟨by rw [he.out]; rfl, hg3.out⟩

/-- THE PROGRAM's WALK. -/
theorem walk_any (m : Int) (r : Nat) (ra : Option Addr) (root : List ByteArray) (s : ByteArray) (w : World) (hr : root.length = r) (hr2 : r ≤ 1000) (hroot : FullS w (.slice ra r r) root) (hs : s.size ≤ 100000)
    (hsum : sumS root ≤ 100000) (hm : w.cell? ⟨0, 0, none⟩ = some (.int .i64 m)) :
    Calls Tryz.prog 73 #[.slice ra r r, .string s] w (WalkRet w (walkS root s)) := by
  cases hp : Lib.hasPrefix s.data.toList slash.data.toList with
  | true => exact walk_yes r ra root s w hp
  | false => exact walk_no m r ra root s w hr hr2 hroot hs hsum hm hp
end Go.Proofs.YtichejodbohldaaGreatDoor.Pth
