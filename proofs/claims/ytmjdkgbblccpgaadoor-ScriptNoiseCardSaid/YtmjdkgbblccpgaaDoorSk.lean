/- The lines of a text: as package lines tells them, as the reference does. -/
import Derived.Test.YtmjdkgbblccpgaaDoorHs
import Derived.Lib.LaidTab
namespace Go.Proofs.YtmjdkgbblccpgaaDoor
open Go.RowKit

def keyW : List ByteArray := [⟨#[99, 111, 112, 121]⟩, ⟨#[119, 114, 105, 116, 101]⟩, ⟨#[97, 112, 112, 101, 110, 100]⟩, ⟨#[109, 107, 100, 105, 114]⟩, ⟨#[114, 101, 109, 111, 118, 101]⟩, ⟨#[114, 101, 110, 97, 109, 101]⟩, ⟨#[115, 101, 116]⟩, ⟨#[105, 102]⟩, ⟨#[114, 101, 112, 101, 97, 116]⟩, ⟨#[101, 108, 115, 101]⟩, ⟨#[101, 110, 100]⟩, ⟨#[102, 97, 105, 108]⟩]
/-- What of a world the program reads: MaxLen, the powers of ten, the words that lines begin with. -/
structure Wok (m : Int) (w : World) : Prop where
  len : w.cell? ⟨1, 0, none⟩ = some (.int .i64 m)
  tab : Lib.TabIs Tryd.prog w "internal/strconv.uint64pow10" .u64 Lib.pow10Tab
  keys : ∀ k x, keyW[k]? = some x → w.cell? ⟨0, k, none⟩ = some (.string x)
theorem tab_grown {w w' : World} {name : String} {k : IntKind} {zs : List Int} (h : Lib.TabIs Tryd.prog w name k zs) (hg : w.grownBy w' none) : Lib.TabIs Tryd.prog w' name k zs := by
  unfold Lib.TabIs World.var? at h ⊢
  cases hn : Tryd.prog.globalNamed name with
  | none => rw [hn] at h; cases h
  | some g =>
    rw [hn] at h
    simp only [Option.bind_some] at h ⊢
    cases hb : w.heap[g]? with
    | none => rw [hb] at h; cases h
    | some o =>
      rw [obj_kept hb hg]
      rw [hb] at h
      exact h
theorem Wok.stays {m : Int} {w w' : World} (h : Wok m w) (hg : w.grownBy w' none) : Wok m w' := ⟨hg.cell h.len (by simp), tab_grown h.tab hg, fun k x hx => hg.cell (h.keys k x hx) (by simp)⟩
theorem Wok.pos {m : Int} {w : World} (h : Wok m w) : 0 < w.heap.size := Nat.zero_lt_of_lt (World.block_lt_of_cell? _ _ h.len)
theorem PartS.shorter {w : World} {B n cap : Nat} {a : Option Addr} {M : List ByteArray} (h : PartS w B (.slice a (n + 1) cap) M) (hM : M.length = n + 1) : PartS w B (.slice a n cap) M.dropLast := by
  obtain ⟨a', cap', b, o, h1, h2, h3, h4, h5, h6⟩ := h
  have e := Value.slice.inj h1
  refine ⟨a', cap', b, o, by rw [e.1, e.2.2, List.length_dropLast, hM]; rfl, by rw [List.length_dropLast]; omega, h3, h4, fun _ => h5 (by omega), fun j x hj => h6 j x ?_⟩
  have hjl := (List.getElem?_eq_some_iff.1 hj).1
  rw [List.length_dropLast] at hjl
  rw [List.getElem?_dropLast, if_pos (by omega)] at hj
  exact hj
def linesS (s : ByteArray) : List ByteArray := if (pieces 10 s).getLast? = some ⟨#[]⟩ then (pieces 10 s).dropLast else pieces 10 s
theorem linesS_len (s : ByteArray) : (linesS s).length ≤ s.size + 1 := by
  have := pieces_le 10 s
  unfold linesS
  split
  · rw [List.length_dropLast]; omega
  · exact this
theorem linesS_mem (s : ByteArray) (x : ByteArray) (h : x ∈ linesS s) : x.size ≤ s.size := by
  unfold linesS at h
  split at h
  · exact pieces_size 10 s x ((List.dropLast_sublist _).subset h)
  · exact pieces_size 10 s x h
def LinesRet (w : World) (L : List ByteArray) (e : Ending) (w' : World) : Prop := ∃ ad n cp, e = .returned (.slice ad n cp) ∧ L.length = n ∧ PartS w' w'.heap.size (.slice ad n cp) L ∧ w.grownBy w' none
theorem split_part (m : Int) (s : ByteArray) (hs : s.size ≤ 2000000) (w : World) (hm : Wok m w) :
    Calls Tryd.prog 43 #[.string s, .string ⟨#[10]⟩] w (LinesRet w (pieces 10 s)) := by
  refine (Tryd.strings_Split s ⟨#[10]⟩ m w (by omega) hm.len (by decide)).mono fun e w' h => ?_
  obtain ⟨h1, h2⟩ := h
  refine ⟨_, _, _, h1, pieces_len 10 s, ?_, by rw [h2]; exact World.grownBy_alloc _ _ _⟩
  rw [h2, alloc_size]
  exact part_block w (pieces 10 s) 9 _ (pieces_len 10 s)
theorem refSplit_part (s : ByteArray) (hs : s.size ≤ 2000000) (w : World) (hp : 0 < w.heap.size) :
    Calls Tryd.prog 49 #[.string s, .int .u8 10] w (LinesRet w (pieces 10 s)) := by
  refine (refSplit_any s 10 hs w).mono fun e w' h => ?_
  obtain ⟨v', rfl, h2, h3⟩ := h
  have hg := h3.size
  have hP := h2.part (by omega)
  obtain ⟨a, cap, e, _, _⟩ := h2.form
  rw [e] at hP
  exact ⟨a, _, cap, by rw [e], rfl, hP, h3⟩
set_option maxRecDepth 1000000
set_option maxHeartbeats 1000000 in
theorem of_any (m : Int) (s : ByteArray) (hs : s.size ≤ 2000000) (w : World) (hm : Wok m w) : Calls Tryd.prog 22 #[.string s] w (LinesRet w (linesS s)) := by
  have HM := Lib.hid hm
  have HP0 := Lib.hid hm.pos
  clear hm
  go_enter Tryd.func22, Tryd.ntmps22
  go_wp2_with fail
  (with_reducible refine (split_part m s hs _ HM.out).mono ?_)
  rintro ee w1 h
  obtain ⟨ad, n, cp, rfl, hn, hP, hg⟩ := h
  dsimp only
  have hpp := pieces_le 10 s
  have hne := pieces_ne 10 s
  obtain ⟨P, hPP⟩ : ∃ P, pieces 10 s = P := ⟨_, rfl⟩
  have HE : Hid (linesS s = if P.getLast? = some ⟨#[]⟩ then P.dropLast else P) := by show _ = _; unfold linesS; rw [hPP]
  rw [hPP] at hn hP hpp hne
  clear hPP
  obtain ⟨k, rfl⟩ : ∃ k, n = k + 1 := by
    cases P with
    | nil => exact absurd rfl hne
    | cons a b => exact ⟨b.length, by rw [← hn]; rfl⟩
  obtain ⟨x, hx⟩ : ∃ x, P[k]? = some x := ⟨_, List.getElem?_eq_getElem (by omega)⟩
  have hlast : P.getLast? = some x := by rw [List.getLast?_eq_getElem?, hn]; exact hx
  obtain ⟨b, o, rfl, _, q1⟩ := hP.at k x hx
  obtain ⟨_, _, e3, hcap, _⟩ := hP.form
  have ec := (Value.slice.inj e3).2.2
  have hk1 : k + 1 ≤ cp := by omega
  have hk2 : k ≤ 8000000 := by omega
  have HN := Lib.hid hn
  have HPA := Lib.hid hP
  have HG := Lib.hid hg
  have HL := Lib.hid hlast
  clear hn hP hg hlast hx hpp hne hcap ec e3
  by_cases h0 : x = ⟨#[]⟩
  · have HE2 : Hid (linesS s = P.dropLast) := by show _ = _; rw [HE.out, HL.out, if_pos (by rw [h0])]
    subst h0
    go_wp2
    go_ret
    refine ⟨_, _, _, rfl, ?_, ?_, HG.out⟩
    · rw [HE2.out, List.length_dropLast, HN.out]; rfl
    · rw [HE2.out]; exact HPA.out.shorter HN.out
  · have HE2 : Hid (linesS s = P) := by show _ = _; rw [HE.out, HL.out, if_neg (by simpa using h0)]
    have f1 := empty_no x h0
    have f2 := ne_list x [] h0
    clear h0
    go_wp2
    go_ret
    refine ⟨_, _, _, rfl, ?_, ?_, HG.out⟩
    · rw [HE2.out, HN.out]
    · rw [HE2.out]; exact HPA.out
set_option maxRecDepth 1000000
set_option maxHeartbeats 1000000 in
theorem refLines_any (m : Int) (s : ByteArray) (hs : s.size ≤ 2000000) (w : World) (hm : Wok m w) : Calls Tryd.prog 25 #[.string s] w (LinesRet w (linesS s)) := by
  have HM := Lib.hid hm
  have HP0 := Lib.hid hm.pos
  clear hm
  go_enter Tryd.func25, Tryd.ntmps25
  go_wp2_with fail
  (with_reducible refine (refSplit_part s hs _ HP0.out).mono ?_)
  rintro ee w1 h
  obtain ⟨ad, n, cp, rfl, hn, hP, hg⟩ := h
  dsimp only
  have hpp := pieces_le 10 s
  have hne := pieces_ne 10 s
  obtain ⟨P, hPP⟩ : ∃ P, pieces 10 s = P := ⟨_, rfl⟩
  have HE : Hid (linesS s = if P.getLast? = some ⟨#[]⟩ then P.dropLast else P) := by show _ = _; unfold linesS; rw [hPP]
  rw [hPP] at hn hP hpp hne
  clear hPP
  obtain ⟨k, rfl⟩ : ∃ k, n = k + 1 := by
    cases P with
    | nil => exact absurd rfl hne
    | cons a b => exact ⟨b.length, by rw [← hn]; rfl⟩
  obtain ⟨x, hx⟩ : ∃ x, P[k]? = some x := ⟨_, List.getElem?_eq_getElem (by omega)⟩
  have hlast : P.getLast? = some x := by rw [List.getLast?_eq_getElem?, hn]; exact hx
  obtain ⟨b, o, rfl, _, q1⟩ := hP.at k x hx
  obtain ⟨_, _, e3, hcap, _⟩ := hP.form
  have ec := (Value.slice.inj e3).2.2
  have hk1 : k + 1 ≤ cp := by omega
  have hk2 : k ≤ 8000000 := by omega
  have HN := Lib.hid hn
  have HPA := Lib.hid hP
  have HG := Lib.hid hg
  have HL := Lib.hid hlast
  clear hn hP hg hlast hx hpp hne hcap ec e3
  by_cases h0 : x = ⟨#[]⟩
  · have HE2 : Hid (linesS s = P.dropLast) := by show _ = _; rw [HE.out, HL.out, if_pos (by rw [h0])]
    subst h0
    go_wp2
    go_ret
    refine ⟨_, _, _, rfl, ?_, ?_, HG.out⟩
    · rw [HE2.out, List.length_dropLast, HN.out]; rfl
    · rw [HE2.out]; exact HPA.out.shorter HN.out
  · have HE2 : Hid (linesS s = P) := by show _ = _; rw [HE.out, HL.out, if_neg (by simpa using h0)]
    have f1 := empty_no x h0
    have f2 := ne_list x [] h0
    clear h0
    go_wp2
    go_ret
    refine ⟨_, _, _, rfl, ?_, ?_, HG.out⟩
    · rw [HE2.out, HN.out]
    · rw [HE2.out]; exact HPA.out
end Go.Proofs.YtmjdkgbblccpgaaDoor
