/- script.Parse. -/
import Derived.Test.YtmjdkgbblccpgaaDoorTk
import Derived.Deep.LoopGhost
namespace Go.Proofs.YtmjdkgbblccpgaaDoor
open Go.RowKit

theorem wordsF_bound (f : Nat) : ∀ (l : List UInt8) (L : List (List UInt8)), wordsF f l = some L → L.length ≤ l.length ∧ ∀ x ∈ L, x.length ≤ l.length := by
  induction f with
  | zero =>
    intro l L h
    simp [wordsF] at h
    subst h
    exact ⟨Nat.zero_le _, fun x hx => by simp at hx⟩
  | succ f ih =>
    intro l L h
    unfold wordsF at h
    have htl := trimB_len l
    split at h
    · simp at h
      subst h
      exact ⟨Nat.zero_le _, fun x hx => by simp at hx⟩
    · rename_i c r hc
      rw [hc] at htl
      simp only [List.length_cons] at htl
      split at h
      · split at h
        · cases h
        · rename_i p hp
          have hq := quoteL_len r.length r p.1 p.2 (Nat.le_refl _) hp
          split at h
          · obtain ⟨M, hM, rfl⟩ := Option.map_eq_some_iff.1 h
            have := ih _ _ hM
            refine ⟨by simp only [List.length_cons]; omega, fun x hx => ?_⟩
            rcases List.mem_cons.1 hx with rfl | hx
            · simp only [List.length_cons]; omega
            · have := this.2 x hx; omega
          · cases h
      · obtain ⟨M, hM, rfl⟩ := Option.map_eq_some_iff.1 h
        have := ih _ _ hM
        have hb := trimB_head _ c r hc
        have h1 : (plainR (c :: r)).length ≤ r.length := by
          unfold plainR
          rw [List.dropWhile_cons, hb]
          exact (List.dropWhile_sublist _).length_le
        have h2 : (plainW (c :: r)).length ≤ r.length + 1 := (List.takeWhile_sublist _).length_le
        refine ⟨by simp only [List.length_cons]; omega, fun x hx => ?_⟩
        rcases List.mem_cons.1 hx with rfl | hx
        · omega
        · have := this.2 x hx; omega
theorem words_bound (s : ByteArray) (L : List (List UInt8)) (h : wordsL s.data.toList = some L) : (L.map toB).length ≤ s.size ∧ ∀ x ∈ L.map toB, x.size ≤ s.size := by
  have hb := wordsF_bound _ _ _ h
  rw [data_len] at hb
  refine ⟨by rw [List.length_map]; exact hb.1, fun x hx => ?_⟩
  obtain ⟨y, hy, rfl⟩ := List.mem_map.1 hx
  rw [← data_len, data_toB]
  exact hb.2 y hy
def ParseRet (r : Nat ⊕ List Ln) (w : World) (e : Ending) (w' : World) : Prop :=
  w.grownBy w' none ∧ ((∃ L v, r = .inr L ∧ e = .returned (.tuple #[v, .int .i64 0, .int .i64 0]) ∧ OwnsL w' w.heap.size v L) ∨ (∃ k : Nat, r = .inl k ∧ e = .returned (.tuple #[.slice none 0 0, .int .i64 (k : Int), .int .i64 66])))
theorem parse_step (x : ByteArray) (r : List ByteArray) (i : Nat) (out : List Ln) (op : List Int) : parseS (x :: r) i out op = match readS x with
    | none => .inl (i + 1)
    | some none => parseS r (i + 1) out op
    | some (some l) => if out.length = 200 ∨ (stepB op l.kind).2 = false then .inl (i + 1) else parseS r (i + 1) (out ++ [l]) (stepB op l.kind).1 := rfl
structure PSt (P : List ByteArray) (r : Nat ⊕ List Ln) (w wr : World) (p base B k m n cp no cpo ci : Nat) (ad ao ai : Option Addr) (out : List Ln) (op : List Int) : Prop where
  g : w.grownBy wr none
  ol : OwnsL wr base (.slice ao m cpo) out
  oi : OwnsI wr base (.slice ai no ci) op
  pb : wr.heap[p]? = some (.cells #[.slice ai no ci] 51 (0, 0))
  pt : PartS wr B (.slice ad n cp) P
  eq : r = parseS (P.drop k) k out op
  lm : out.length = m
  ln : op.length = no
  lk : no ≤ k
  wp : w.heap.size ≤ p
  pB : p < base
  Bb : B ≤ base
  br : base ≤ wr.heap.size
theorem stepB_len (L : List Int) (k : Int) : (stepB L k).1.length ≤ L.length + 1 := by
  unfold stepB
  split
  · simp
  · split
    · split <;> simp <;> omega
    · split
      · split <;> simp <;> omega
      · simp
theorem PSt.stays {P : List ByteArray} {r : Nat ⊕ List Ln} {w wr w' : World} {p base B k m n cp no cpo ci : Nat} {ad ao ai : Option Addr} {out : List Ln} {op : List Int} (h : PSt P r w wr p base B k m n cp no cpo ci ad ao ai out op) (hg : wr.grownBy w' none) : PSt P r w w' p base B k m n cp no cpo ci ad ao ai out op :=
  ⟨World.grownBy.trans h.g hg, h.ol.stays hg, h.oi.stays hg, block_kept h.pb hg, h.pt.stays hg, h.eq, h.lm, h.ln, h.lk, h.wp, h.pB, h.Bb, Nat.le_trans h.br hg.size⟩
theorem PSt.next {P : List ByteArray} {r : Nat ⊕ List Ln} {w wr : World} {p base B k m n cp no cpo ci : Nat} {ad ao ai : Option Addr} {out : List Ln} {op : List Int} (h : PSt P r w wr p base B k m n cp no cpo ci ad ao ai out op) (e : parseS (P.drop k) k out op = parseS (P.drop (k + 1)) (k + 1) out op) : PSt P r w wr p base B (k + 1) m n cp no cpo ci ad ao ai out op :=
  ⟨h.g, h.ol, h.oi, h.pb, h.pt, h.eq.trans e, h.lm, h.ln, Nat.le_succ_of_le h.lk, h.wp, h.pB, h.Bb, h.br⟩
theorem PSt.lines {P : List ByteArray} {r : Nat ⊕ List Ln} {w w6 w7 : World} {p base B k m n cp no cpo ci : Nat} {ad ao ai : Option Addr} {out : List Ln} {op : List Int} (h : PSt P r w w6 p base B k m n cp no cpo ci ad ao ai out op) (hk : Kept w6 w7 p (.slice ai no ci)) : OwnsL w7 base (.slice ao m cpo) out := hk.lines h.oi h.ol h.pB
theorem PSt.push {P : List ByteArray} {r : Nat ⊕ List Ln} {w w6 w7 w8 : World} {p base B k m n cp no cpo ci : Nat} {ad ao ai : Option Addr} {out : List Ln} {op M : List Int} {v7 v8 : Value} {l : Ln} {o : Obj} (h : PSt P r w w6 p base B k m n cp no cpo ci ad ao ai out op) (hk : Kept w6 w7 p (.slice ai no ci))
    (hp7 : w7.heap[p]? = some (.cells #[v7] 51 (0, 0))) (ho7 : OwnsI w7 base v7 M) (hol8 : OwnsL w8 base v8 (out ++ [l])) (hg8 : (w7.alloc o).grownBy w8 (Value.slice ao m cpo).ownBlock) (hM : M.length ≤ no + 1) (eq : r = parseS (P.drop (k + 1)) (k + 1) (out ++ [l]) M) :
    ∃ a8 c8 a9 n9 c9, v8 = .slice a8 (m + 1) c8 ∧ c8 ≤ maxLen ∧ n9 ≤ k + 1 ∧ PSt P r w w8 p base B (k + 1) (m + 1) n cp n9 c8 c9 ad a8 a9 (out ++ [l]) M := by
  have hwb : w.heap.size ≤ base := by have := h.wp; have := h.pB; omega
  have g7 := hk.to_grown h.g h.wp h.oi hwb
  have ol7 := h.lines hk
  have pt7 := hk.part h.pb h.oi h.pt h.Bb (Nat.le_trans h.Bb h.br)
  have g7a := World.grownBy.trans g7 (World.grownBy_alloc w7 o none)
  obtain ⟨a8, c8, e8, _, hc8⟩ := hol8.form
  have el : (out ++ [l]).length = m + 1 := by rw [List.length_append, h.lm]; rfl
  rw [el] at e8
  obtain ⟨a9, c9, e9, _, _⟩ := ho7.form
  subst e9
  have hlk := h.lk
  have hrow : ∀ q, (Value.slice ao m cpo).ownBlock = some q → base ≤ q := fun q e => (ol7.block_lt q e).1
  refine ⟨a8, c8, a9, M.length, c9, e8, hc8, by omega, ⟨(ol7.alloc o).grown hwb g7a hg8, by rw [← e8]; exact hol8, ?_, ?_, ?_, eq, el, rfl, by omega, h.wp, h.pB, h.Bb, ?_⟩⟩
  · exact World.ownsRow.kept (World.ownsRow.alloc ho7 o) hg8 (by
      cases e : (Value.slice ao m cpo).ownBlock with
      | none =>
        cases e2 : (Value.slice a9 M.length c9).ownBlock with
        | none => exact .inl rfl
        | some q => exact .inr (by simp)
      | some q => exact .inr (ol7.apart ho7 q e))
  · rw [hg8.block p (block_size (block_kept hp7 (World.grownBy_alloc w7 o none))) (fun e => by have := hrow p e.symm; have := h.pB; omega)]
    exact block_kept hp7 (World.grownBy_alloc w7 o none)
  · exact (pt7.stays (World.grownBy_alloc w7 o none)).grown hg8 (fun q e => Nat.le_trans h.Bb (hrow q e))
  · have := hg8.size
    have := hk.size
    have := h.br
    rw [alloc_size] at *
    omega
theorem PSt.start {P : List ByteArray} {w w1 : World} {n cp : Nat} {ad : Option Addr} (hP : PartS w1 w1.heap.size (.slice ad n cp) P) (hg : (w.alloc (.cells #[.slice none 0 0] 51)).grownBy w1 none) : PSt P (parseS P 0 [] []) w w1 w.heap.size w1.heap.size w1.heap.size 0 0 n cp 0 0 0 ad none none [] [] :=
  ⟨World.grownBy.trans (World.grownBy_alloc _ _ none) hg, OwnsL.nil _ _, OwnsI.nil _ _, block_kept (alloc_block _ _) hg, hP, rfl, rfl, rfl, Nat.le_refl _, Nat.le_refl _, by have := hg.size; rw [alloc_size] at this; omega, Nat.le_refl _, Nat.le_refl _⟩

set_option maxRecDepth 1000000
set_option maxHeartbeats 4000000 in
theorem parse_any (m0 : Int) (s : ByteArray) (w : World) (hm : Wok m0 w) (hs : s.size ≤ 1000000) :
    Calls Tryd.prog 12 #[.string s] w (ParseRet (scriptS s) w) := by
  by_cases hbig : 65536 < s.size
  · have HS : Hid (scriptS s = .inl 0) := Lib.hid (by unfold scriptS; rw [if_pos hbig])
    go_enter Tryd.func12, Tryd.ntmps12
    go_wp2
    refine bodyPost_ret (v := .tuple #[.slice none 0 0, .int .i64 0, .int .i64 66]) (by simp [results, Tryd.results12, go_sem]) rfl ?_
    exact ⟨World.grownBy.refl _ _, .inr ⟨0, HS.out, rfl⟩⟩
  obtain ⟨P, hPP⟩ : ∃ P, linesS s = P := ⟨_, rfl⟩
  have HS : Hid (scriptS s = parseS P 0 [] []) := Lib.hid (by unfold scriptS; rw [if_neg hbig, hPP])
  have hlen := linesS_len s
  have HMEM : Hid (∀ x ∈ P, x.size ≤ 65536) := Lib.hid (fun x hx => by have := linesS_mem s x (by rw [hPP]; exact hx); omega)
  have HM := Lib.hid hm
  clear hm
  go_enter Tryd.func12, Tryd.ntmps12
  go_wp2_with fail
  (with_reducible refine (of_any m0 s (by omega) _ (HM.out.stays (World.grownBy_alloc _ _ _))).mono ?_)
  rintro ee w1 h
  rw [hPP] at h hlen
  obtain ⟨ad, n, cp, rfl, hn, hP, hg⟩ := h
  have HST := Lib.hid (PSt.start hP hg)
  have hn2 : n ≤ 65537 := by omega
  have HN := Lib.hid hn
  have hcp : n ≤ cp := by
    obtain ⟨a', c', e, h1, _⟩ := hP.form
    have := Value.slice.inj e
    omega
  clear hP hg hn hlen hPP
  obtain ⟨p, hp⟩ : ∃ p, w.heap.size = p := ⟨_, rfl⟩
  obtain ⟨base, hb⟩ : ∃ base, w1.heap.size = base := ⟨_, rfl⟩
  rw [hp, hb] at HST
  have HW := Lib.hid hp
  rw [hp]
  clear hp hb
  dsimp only
  go_wp2_with fail
  go_loopw [5, 19] (fun a i wr => ∃ (k m no cpo ci : Nat) (ao ai : Option Addr) (out : List Ln) (op : List Int), k ≤ n ∧ m ≤ 200 ∧ no ≤ 100000 ∧ cpo ≤ 9223372036854775807 ∧ i = .int .i64 k ∧ a = .slice ao m cpo ∧ Hid (PSt P (parseS P 0 [] []) w wr p base base k m n cp no cpo ci ad ao ai out op)) (fun _ i _ => n - (intOf i).toNat)
  case atStart => exact ⟨0, 0, 0, 0, 0, none, none, [], [], by omega, by omega, by omega, by omega, rfl, rfl, HST⟩
  case round =>
    obtain ⟨k, m, no, cpo, ci, ao, ai, out, op, hk, hm2, hno, hcpo, rfl, rfl, HR⟩ := hrel
    by_cases h1 : k < n
    · obtain ⟨x, hx⟩ : ∃ x, P[k]? = some x := ⟨_, List.getElem?_eq_getElem (by have := HN.out; omega)⟩
      obtain ⟨bb, oo, rfl, _, q1⟩ := HR.out.pt.at k x hx
      have hxs : x.size ≤ 65536 := HMEM.out x (List.mem_of_getElem? hx)
      have HE : Hid (P.drop k = x :: P.drop (k + 1)) := Lib.hid (by
        rw [List.drop_eq_getElem_cons (by have := HN.out; omega)]
        rw [List.getElem?_eq_getElem (by have := HN.out; omega)] at hx
        rw [Option.some.inj hx])
      clear hx
      go_wp2_with fail
      (with_reducible refine (trim_blank x _).mono ?_)
      rintro ee w2 ⟨rfl, g2⟩
      have hc : Lib.hasPrefix (toB (trimB x.data.toList)).data.toList (⟨#[35]⟩ : ByteArray).data.toList = cmtL x.data.toList := by rw [data_toB]; exact cmt_has _
      have HR2 := Lib.hid (HR.out.stays g2)
      clear g2
      dsimp only
      go_wp2_with fail
      (with_reducible refine (Tryd.strings_HasPrefix (toB (trimB x.data.toList)) ⟨#[35]⟩ _).mono ?_)
      rintro ee w3 ⟨rfl, hw3⟩
      rw [hw3, hc]
      clear hw3 w3 hc
      dsimp only
      by_cases hcm : cmtL x.data.toList = true
      · rw [hcm]
        have HE2 : Hid (parseS (P.drop k) k out op = parseS (P.drop (k + 1)) (k + 1) out op) := Lib.hid (by
          rw [HE.out, parse_step]
          unfold readS
          rw [if_pos hcm])
        go_wp2
        go_roundw
        case rel => exact ⟨k + 1, m, no, cpo, ci, ao, ai, out, op, by omega, hm2, hno, hcpo, by go_num, rfl, Lib.hid (HR2.out.next HE2.out)⟩
        case measure => simp [intOf]; omega
      · have HRD : Hid (readS x = readW (wordsL x.data.toList)) := Lib.hid (by unfold readS; rw [if_neg hcm])
        rw [show cmtL x.data.toList = false by simpa using hcm]
        clear hcm
        go_wp2_with fail
        (with_reducible refine (words_any x _ (by omega)).mono ?_)
        rintro ee w4 ⟨g4, hcase⟩
        have HR4 := Lib.hid (HR2.out.stays g4)
        rcases hcase with ⟨L, v, hL, rfl, hO⟩ | ⟨hL, rfl⟩
        · have hbd := words_bound x L hL
          obtain ⟨aw, cpw, e, hcw, hcm⟩ := hO.form
          subst e
          rw [List.length_map] at hbd
          rw [List.length_map] at hcw
          rw [List.length_map] at hO ⊢
          cases L with
          | nil =>
            have HE2 : Hid (parseS (P.drop k) k out op = parseS (P.drop (k + 1)) (k + 1) out op) := Lib.hid (by
              rw [HE.out, parse_step, HRD.out, hL]; rfl)
            clear hL g4 hbd hcw hO
            dsimp only
            go_wp2
            go_roundw
            case rel => exact ⟨k + 1, m, no, cpo, ci, ao, ai, out, op, by omega, hm2, hno, hcpo, by go_num, rfl, Lib.hid (HR4.out.next HE2.out)⟩
            case measure => simp [intOf]; omega
          | cons y U =>
            obtain ⟨W, hWW⟩ : ∃ W, (y :: U).map toB = W := ⟨_, rfl⟩
            have HEQ : Hid (scriptS s = match (lineOf W).map some with
                | none => .inl (k + 1)
                | some none => parseS (P.drop (k + 1)) (k + 1) out op
                | some (some l) => if out.length = 200 ∨ (stepB op l.kind).2 = false then .inl (k + 1) else parseS (P.drop (k + 1)) (k + 1) (out ++ [l]) (stepB op l.kind).1) := Lib.hid (by
              rw [HS.out, HR.out.eq, HE.out, parse_step, HRD.out, hL]
              rw [← hWW]
              rfl)
            obtain ⟨j, hj⟩ : ∃ j, (y :: U).length = j + 1 := ⟨U.length, rfl⟩
            have HJ : Hid (W.length = j + 1) := Lib.hid (by rw [← hWW, List.length_map]; exact hj)
            rw [hWW] at hO hbd
            rw [hj] at hO hbd hcw ⊢
            have HM4 : Hid (Wok m0 w4) := Lib.hid (HM.out.stays HR4.out.g)
            have hpt := hO.part HM4.out.pos
            have hln := line_any m0 W (j + 1) cpw w4.heap.size aw w4 HM4.out HJ.out (by omega) (Nat.le_refl _) hpt (fun x hx => by have := hbd.2 x hx; omega)
            have HLN := Lib.hid hln
            clear hln hpt hO hbd hcw hL g4 hWW hj
            dsimp only
            go_wp2_with fail
            (with_reducible refine HLN.out.mono ?_)
            clear HLN
            rintro ee w5 ⟨⟨q0, qa, qb, qt, qn, qo⟩, g, rfl, h1, h2, g5⟩
            have HR5 := Lib.hid (HR4.out.stays g5)
            clear g5
            dsimp only [lnV]
            cases g with
            | false =>
              have HRN : Hid (scriptS s = .inl (k + 1)) := Lib.hid (by rw [HEQ.out, h2 rfl]; rfl)
              clear h1 h2
              go_wp2_with fail
              refine bodyPost_ret (v := .tuple #[.slice none 0 0, .int .i64 ((k : Int) + 1), .int .i64 66]) (by simp [results, Tryd.results12, go_sem]) rfl ?_
              exact ⟨World.grownBy.trans HR5.out.g (World.grownBy_alloc _ _ _), .inr ⟨k + 1, HRN.out, by go_num⟩⟩
            | true =>
              have HL := Lib.hid (h1 rfl)
              clear h1 h2
              by_cases hm3 : m = 200
              · subst hm3
                have HRN : Hid (scriptS s = .inl (k + 1)) := Lib.hid (by rw [HEQ.out, HL.out]; simp [HR.out.lm])
                go_wp2_with fail
                refine bodyPost_ret (v := .tuple #[.slice none 0 0, .int .i64 ((k : Int) + 1), .int .i64 66]) (by simp [results, Tryd.results12, go_sem]) rfl ?_
                exact ⟨World.grownBy.trans HR5.out.g (World.grownBy_alloc _ _ _), .inr ⟨k + 1, HRN.out, by go_num⟩⟩
              · have hb3 : ((m : Int) == 200) = false := by simp; omega
                go_wp2_with fail
                have HR6 := Lib.hid (HR5.out.stays (World.grownBy_alloc w5 (.cells #[.int .i64 q0, .string qa, .string qb, .string qt, .int .i64 qn, .bool qo] 41) none))
                have HB6 : Hid (p < w5.heap.size ∧ (Value.slice ai no ci).ownBlock ≠ some w5.heap.size) := Lib.hid ⟨by have := HR5.out.pB; have := HR5.out.br; omega, fun e => by have := (HR5.out.oi.block_lt _ e).2; omega⟩
                have HC6 := Lib.hid (alloc_block w5 (.cells #[.int .i64 q0, .string qa, .string qb, .string qt, .int .i64 qn, .bool qo] 41))
                obtain ⟨b5, hb5⟩ : ∃ b5, w5.heap.size = b5 := ⟨_, rfl⟩
                obtain ⟨w6, hw6⟩ : ∃ w6, w5.alloc (.cells #[.int .i64 q0, .string qa, .string qb, .string qt, .int .i64 qn, .bool qo] 41) = w6 := ⟨_, rfl⟩
                rw [hw6] at HR6 HC6 ⊢
                rw [hb5] at HB6 HC6 ⊢
                clear hw6 hb5
                (with_reducible refine (step_any p base no ci ai op q0 w6 HR6.out.ln (by omega) HR6.out.pb HR6.out.oi HR6.out.pB HR6.out.br).mono ?_)
                rintro ee w7 ⟨v7, rfl, hp7, ho7, hk7⟩
                have HP7 := Lib.hid hp7
                have HO7 := Lib.hid ho7
                have HK7 := Lib.hid hk7
                have HC7 : Hid (w7.heap[b5]? = some (.cells #[.int .i64 q0, .string qa, .string qb, .string qt, .int .i64 qn, .bool qo] 41 (0, 0))) := Lib.hid (by
                  rw [hk7.block b5 (block_size HC6.out) (by have := HB6.out.1; omega) HB6.out.2]; exact HC6.out)
                clear hp7 ho7 hk7
                obtain ⟨sb, hsb⟩ : ∃ sb, (stepB op q0).2 = sb := ⟨_, rfl⟩
                rw [hsb]
                have HSB := Lib.hid hsb
                clear hsb
                dsimp only
                have HG7 := Lib.hid (HK7.out.to_grown HR6.out.g HR6.out.wp HR6.out.oi (by have := HR6.out.wp; have := HR6.out.pB; omega))
                cases sb with
                | false =>
                  have HRN : Hid (scriptS s = .inl (k + 1)) := Lib.hid (by rw [HEQ.out, HL.out]; simp [HSB.out])
                  go_wp2_with fail
                  refine bodyPost_ret (v := .tuple #[.slice none 0 0, .int .i64 ((k : Int) + 1), .int .i64 66]) (by simp [results, Tryd.results12, go_sem]) rfl ?_
                  exact ⟨HG7.out, .inr ⟨k + 1, HRN.out, by go_num⟩⟩
                | true =>
                  have HRY : Hid (scriptS s = parseS (P.drop (k + 1)) (k + 1) (out ++ [⟨q0, qa, qb, qt, qn, qo⟩]) (stepB op q0).1) := Lib.hid (by
                    rw [HEQ.out, HL.out]
                    show (if _ then _ else _) = _
                    rw [if_neg (by rw [HSB.out, HR.out.lm]; simp; omega)])
                  have x0 := (lnC_block (l := ⟨q0, qa, qb, qt, qn, qo⟩) HC7.out).1
                  obtain ⟨x0, x1, x2, x3, x4, x5⟩ := x0
                  have HOL7 := Lib.hid (HR6.out.lines HK7.out)
                  go_wp2_with (at_builtin; go_must (with_reducible refine app_line (o := ⟨some 65, _, _, _, _, _⟩) rfl _ _ rfl base (.slice ao m cpo) out ⟨q0, qa, qb, qt, qn, qo⟩ w7.heap.size ?_ (HOL7.out.alloc _) ?_ ?_ ?_ ?_ ?_); go_must (exact rfl); go_must (exact rfl); go_must ((intro j x hj; rw [alloc_cell]; exact hj)); go_must ((have := HR6.out.lm; omega)); go_must ((have := HR6.out.br; have := HK7.out.size; rw [alloc_size]; omega)); (intro v8 w8 ho8 hg8); have HO8 := Lib.hid ho8; have HG8 := Lib.hid hg8; clear ho8 hg8)
                  go_roundw
                  case rel =>
                    obtain ⟨a8, c8, a9, n9, c9, e8, hc8, hn9, hst⟩ := HR6.out.push HK7.out HP7.out HO7.out HO8.out HG8.out (by have := stepB_len op q0; have := HR6.out.ln; omega) (HS.out.symm.trans HRY.out)
                    exact ⟨k + 1, m + 1, n9, c8, c9, a8, a9, _, _, by omega, by omega, by omega, hc8, by go_num, e8, Lib.hid hst⟩
                  case measure => simp [intOf]; omega
        · have HRN : Hid (scriptS s = .inl (k + 1)) := Lib.hid (by
            rw [HS.out, HR.out.eq, HE.out, parse_step, HRD.out, hL]; rfl)
          clear hL g4
          dsimp only
          go_wp2_with fail
          (with_reducible refine (line_none none 0 _).mono ?_)
          rintro ee w5 ⟨⟨q0, q1, q2, q3, q4, q5⟩, g, rfl, h1, _, g5⟩
          cases g with
          | true => cases h1 rfl
          | false =>
            have HR5 := Lib.hid (HR4.out.stays g5)
            clear g5 h1
            dsimp only [lnV]
            go_wp2_with fail
            refine bodyPost_ret (v := .tuple #[.slice none 0 0, .int .i64 ((k : Int) + 1), .int .i64 66]) (by simp [results, Tryd.results12, go_sem]) rfl ?_
            exact ⟨World.grownBy.trans HR5.out.g (World.grownBy_alloc _ _ _), .inr ⟨k + 1, HRN.out, by go_num⟩⟩
    · obtain rfl : k = n := by omega
      have HEND : Hid (scriptS s = if op = [] then .inr out else .inl 0) := Lib.hid (by
        rw [HS.out, HR.out.eq, List.drop_eq_nil_of_le (by have := HN.out; omega)]; rfl)
      have c0 : wr.cell? ⟨p, 0, none⟩ = some (.slice ai no ci) := (block_cell HR.out.pb 0 _ rfl).1
      have c1 := (block_cell HR.out.pb 0 _ rfl).2
      by_cases h0 : no = 0
      · subst h0
        have HE0 : Hid (scriptS s = .inr out) := Lib.hid (by rw [HEND.out, if_pos (List.eq_nil_of_length_eq_zero HR.out.ln)])
        go_wp2
        refine bodyPost_ret (v := .tuple #[.slice ao m cpo, .int .i64 0, .int .i64 0]) (by simp [results, Tryd.results12, go_sem]) rfl ?_
        exact ⟨HR.out.g, .inl ⟨out, _, HE0.out, rfl, HR.out.ol.mono (by have := HR.out.wp; have := HR.out.pB; omega)⟩⟩
      · have HE0 : Hid (scriptS s = .inl 0) := Lib.hid (by rw [HEND.out, if_neg (fun e => h0 (by rw [← HR.out.ln, e]; rfl))])
        have h1 : decide ((no : Int) > 0) = true := by simp; omega
        have h2 : decide (0 < (no : Int)) = true := by simp; omega
        go_wp2
        refine bodyPost_ret (v := .tuple #[.slice none 0 0, .int .i64 0, .int .i64 66]) (by simp [results, Tryd.results12, go_sem]) rfl ?_
        exact ⟨HR.out.g, .inr ⟨0, HE0.out, rfl⟩⟩
end Go.Proofs.YtmjdkgbblccpgaaDoor
