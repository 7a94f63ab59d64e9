/- The reference's Parse. -/
import Derived.Test.YtmjdkgbblccpgaaDoorRh
namespace Go.Proofs.YtmjdkgbblccpgaaDoor
open Go.RowKit

/-- append of one int to a list of ints, that lies in a block of its own. -/
theorem app_intR {w : World} {ops : Array Oper} {rest : List Oper} {o : Oper} {a : Act} {Q : Exit → Act → World → Prop} (hgd : o.guard = none) (s x : Operand)
    (ho : o.op = .call { callee := .builtin .append, args := #[s, x], argTypes := #[50, 50] }) (base : Nat) (v : Value) (L : List Int) (y : Int) (b : Nat) (hs : a.eval s = v) (hown : OwnsI w base v L)
    (hx : a.eval x = .slice (some ⟨b, 0, none⟩) 1 1) (hp : w.cell? ⟨b, 0, none⟩ = some (.int .i64 y)) (hb : L.length ≤ 1000000) (hbase : base ≤ w.heap.size)
    (h : ∀ v' w', OwnsI w' base v' (L ++ [y]) → w.grownBy w' v.ownBlock → wpList Tryd.prog ops Q rest (a.put o.dst v') w') : wpList Tryd.prog ops Q (o :: rest) a w := by
  obtain ⟨i0, hi, hz0, hz1, hz2⟩ := info_parts infoI
  refine wpList_append_own w hgd s x 50 ho base 3 i0 (.int .i64 0) 1 8 Tryd.underlying50 hi hz0 hz1 hz2 rfl (by decide) v L.length (L.map (Value.int .i64)) hs hown ⟨b, 0, none⟩ 1 1 [.int .i64 y] hx rfl ?_ ?_ (by unfold maxLen; omega) (by omega) hbase ?_
  · intro j u hu
    match j with
    | 0 => rw [← Option.some.inj hu]; exact hp
    | j + 1 => cases hu
  · intro u hu
    simp at hu
    subst hu
    rfl
  · intro v' w' h7 h8 _
    refine h v' w' ?_ h8
    show World.ownsRow _ _ _ _ _ _ _
    rw [List.length_append, List.map_append]
    exact h7
theorem kept_over {w w' : World} {b : Nat} {o : Obj} {row : Option Nat} (h : w.heap[b]? = some o) (hg : w.grownBy w' row) (hne : row ≠ some b) : w'.heap[b]? = some o := by
  rw [hg.block b (block_size h) (fun e => hne (by first | exact e.symm | exact e))]
  exact h
theorem stepB_push (op : List Int) (k : Int) (h : k = 7 ∨ k = 8) : stepB op k = (op ++ [k], decide (op.length < 8)) := by unfold stepB; rw [if_pos h]
theorem stepB_else (M : List Int) : stepB (M ++ [7]) 9 = (M ++ [9], true) := by
  unfold stepB
  rw [if_neg (by omega), if_pos rfl, if_pos (by simp)]
  simp
theorem stepB_elno (op : List Int) (h : op.getLast? ≠ some 7) : stepB op 9 = (op, false) := by
  unfold stepB
  rw [if_neg (by omega), if_pos rfl, if_neg h]
theorem stepB_end (op : List Int) (h : op ≠ []) : stepB op 10 = (op.dropLast, true) := by
  unfold stepB
  rw [if_neg (by omega), if_neg (by omega), if_pos rfl, if_neg h]
theorem stepB_same (op : List Int) (k : Int) (h7 : ¬ k = 7) (h8 : ¬ k = 8) (h9 : ¬ k = 9) (h10 : ¬ k = 10) : stepB op k = (op, true) := by
  unfold stepB
  rw [if_neg (by omega), if_neg h9, if_neg h10]
theorem cvI_push (op : List Int) (k : Int) : (op ++ [k]).map cvI = op.map cvI ++ [cvI k] := by simp
theorem kd_push {op : List Int} (h : ∀ x ∈ op, x = 7 ∨ x = 8 ∨ x = 9) (k : Int) (hk : k = 7 ∨ k = 8 ∨ k = 9) : ∀ x ∈ op ++ [k], x = 7 ∨ x = 8 ∨ x = 9 := by
  intro x hx
  rcases List.mem_append.1 hx with hx | hx
  · exact h x hx
  · rw [List.mem_singleton.1 hx]; exact hk
theorem kd_sub {op M : List Int} (h : ∀ x ∈ op, x = 7 ∨ x = 8 ∨ x = 9) (hs : ∀ x ∈ M, x ∈ op) : ∀ x ∈ M, x = 7 ∨ x = 8 ∨ x = 9 := fun x hx => h x (hs x hx)

set_option maxRecDepth 1000000
set_option maxHeartbeats 16000000 in
theorem refParse_any (m0 : Int) (s : ByteArray) (w : World) (hm : Wok m0 w) (hs : s.size ≤ 1000000) :
    Calls Tryd.prog 14 #[.string s] w (ParseRet (scriptS s) w) := by
  by_cases hbig : 65536 < s.size
  · have HS : Hid (scriptS s = .inl 0) := Lib.hid (by unfold scriptS; rw [if_pos hbig])
    go_enter Tryd.func14, Tryd.ntmps14
    go_wp2
    refine bodyPost_ret (v := .tuple #[.slice none 0 0, .int .i64 0, .int .i64 66]) (by simp [results, Tryd.results14, go_sem]) rfl ?_
    exact ⟨World.grownBy.refl _ _, .inr ⟨0, HS.out, rfl⟩⟩
  obtain ⟨P, hPP⟩ : ∃ P, linesS s = P := ⟨_, rfl⟩
  have HS : Hid (scriptS s = parseS P 0 [] []) := Lib.hid (by unfold scriptS; rw [if_neg hbig, hPP])
  have hlen := linesS_len s
  have HMEM : Hid (∀ x ∈ P, x.size ≤ 65536) := Lib.hid (fun x hx => by have := linesS_mem s x (by rw [hPP]; exact hx); omega)
  have HM := Lib.hid hm
  clear hm
  go_enter Tryd.func14, Tryd.ntmps14
  go_wp2_with fail
  (with_reducible refine (refLines_any m0 s (by omega) _ HM.out).mono ?_)
  rintro ee w1 h
  rw [hPP] at h hlen
  obtain ⟨ad, n, cp, rfl, hn, hP, hg⟩ := h
  have HST := Lib.hid (PR.start hP hg)
  have hn2 : n ≤ 65537 := by omega
  have HN := Lib.hid hn
  have hcp : n ≤ cp := by
    obtain ⟨a', c', e, h1, _⟩ := hP.form
    have := Value.slice.inj e
    omega
  clear hP hg hn hlen hPP
  obtain ⟨base, hb⟩ : ∃ base, w1.heap.size = base := ⟨_, rfl⟩
  rw [hb] at HST
  clear hb
  dsimp only
  go_wp2_with fail
  go_loopw [5, 6, 8] (fun a u i wr => ∃ (k m no cpo ci : Nat) (ao ai : Option Addr) (out : List Ln) (op : List Int), k ≤ n ∧ m ≤ 200 ∧ no ≤ 100000 ∧ cpo ≤ 9223372036854775807 ∧ i = .int .i64 k ∧ a = .slice ao m cpo ∧ u = .slice ai no ci ∧ Hid (PR P (parseS P 0 [] []) w wr base base k m n cp no cpo ci ad ao ai out op)) (fun _ _ i _ => n - (intOf i).toNat)
  case atStart => exact ⟨0, 0, 0, 0, 0, none, none, [], [], by omega, by omega, by omega, by omega, rfl, rfl, rfl, HST⟩
  case round =>
    obtain ⟨k, m, no, cpo, ci, ao, ai, out, op, hk, hm2, hno, hcpo, rfl, rfl, rfl, HR⟩ := hrel
    by_cases h1 : k < n
    · obtain ⟨x, hx⟩ : ∃ x, P[k]? = some x := ⟨_, List.getElem?_eq_getElem (by have := HN.out; omega)⟩
      obtain ⟨bb, oo, rfl, _, qx⟩ := HR.out.pt.at k x hx
      have hxs : x.size ≤ 65536 := HMEM.out x (List.mem_of_getElem? hx)
      have HE : Hid (P.drop k = x :: P.drop (k + 1)) := Lib.hid (by
        rw [List.drop_eq_getElem_cons (by have := HN.out; omega)]
        rw [List.getElem?_eq_getElem (by have := HN.out; omega)] at hx
        rw [Option.some.inj hx])
      have HX := Lib.hid hx
      clear hx
      go_wp2_with fail
      (with_reducible refine (refWords_any x _ (by omega)).mono ?_)
      rintro ee w4 ⟨g4, hcase⟩
      have HR4 := Lib.hid (HR.out.stays g4)
      have qx4 := HR4.out.pt.cellP k x HX.out
      rcases hcase with ⟨L, v, hL, rfl, hO⟩ | ⟨hL, rfl⟩
      · have hbd := words_bound x L hL
        obtain ⟨aw, cpw, e, hcw, _⟩ := hO.form
        subst e
        rw [List.length_map] at hbd
        rw [List.length_map] at hcw
        rw [List.length_map] at hO ⊢
        cases L with
        | nil =>
          have HE2 : Hid (parseS (P.drop k) k out op = parseS (P.drop (k + 1)) (k + 1) out op) := Lib.hid (by
            have e : readS x = some none := by
              unfold readS
              rw [hL]
              split <;> rfl
            rw [HE.out, parse_step, e])
          clear hL g4 hbd hcw hO qx
          dsimp only
          go_wp2
          go_roundw
          case rel => exact ⟨k + 1, m, no, cpo, ci, ao, ai, out, op, by omega, hm2, hno, hcpo, by go_num, rfl, rfl, Lib.hid (HR4.out.next HE2.out)⟩
          case measure => simp [intOf]; omega
        | cons y U =>
          have hy0 := words_head _ _ _ hL y (by simp)
          obtain ⟨c, yr, rfl⟩ : ∃ c yr, y = c :: yr := by
            cases y with
            | nil => exact absurd rfl hy0
            | cons c yr => exact ⟨c, yr, rfl⟩
          have hcm := words_first _ c yr U hL
          have hne : ∀ z ∈ U.map toB, 0 < z.size := by
            intro z hz
            obtain ⟨t, ht, rfl⟩ := List.mem_map.1 hz
            have := words_head _ _ _ hL t (by simp [ht])
            rw [← data_len, data_toB]
            cases t with
            | nil => exact absurd rfl this
            | cons a b => simp
          obtain ⟨X, hX⟩ : ∃ X, toB (c :: yr) = X := ⟨_, rfl⟩
          have hX0 : 0 < X.size := by rw [← hX, ← data_len, data_toB]; simp
          have hXc : X[0]'hX0 = c := by
            rw [← byteAt_eq]
            unfold byteAt
            rw [← hX, data_toB]; rfl
          obtain ⟨V, hV⟩ : ∃ V, U.map toB = V := ⟨_, rfl⟩
          obtain ⟨j, hj⟩ : ∃ j, U.length = j := ⟨_, rfl⟩
          have HJ : Hid (V.length = j) := Lib.hid (by rw [← hV, List.length_map]; exact hj)
          rw [List.map_cons, hX, hV] at hO
          rw [List.map_cons, hX, hV] at hbd
          rw [hV] at hne
          rw [List.length_cons, hj] at hO hbd hcw ⊢
          have HNE := Lib.hid hne
          have hpt := hO.part (HM.out.stays HR4.out.g).pos
          obtain ⟨bw, ow, rfl, _, qw⟩ := hpt.at 0 X rfl
          rw [Nat.add_zero] at qw
          have HPT := Lib.hid hpt
          have HBD := Lib.hid hbd
          have hj8 : j + 1 ≤ 65536 := by omega
          have HEQ : Hid (scriptS s = match (if cmtL x.data.toList = true then some none else (lineOf (X :: V)).map some) with
              | none => .inl (k + 1)
              | some none => parseS (P.drop (k + 1)) (k + 1) out op
              | some (some l) => if out.length = 200 ∨ (stepB op l.kind).2 = false then .inl (k + 1) else parseS (P.drop (k + 1)) (k + 1) (out ++ [l]) (stepB op l.kind).1) := Lib.hid (by
            rw [HS.out, HR.out.eq, HE.out, parse_step]
            unfold readS
            rw [hL, ← hX, ← hV]
            rfl)
          have HCM := Lib.hid hcm
          clear hL g4 hcm hne hpt hO hbd hX hV hj hy0 qx
          dsimp only
          by_cases h35 : c = 35
          · subst h35
            have HE2 : Hid (parseS P 0 [] [] = parseS (P.drop (k + 1)) (k + 1) out op) := Lib.hid (by
              rw [← HS.out, HEQ.out, HCM.out]; rfl)
            go_wp2
            go_roundw
            case rel => exact ⟨k + 1, m, no, cpo, ci, ao, ai, out, op, by omega, hm2, hno, hcpo, by go_num, rfl, rfl, Lib.hid (HR4.out.next (HR4.out.eq.symm.trans HE2.out))⟩
            case measure => simp [intOf]; omega
          · have n35 : ((c.toNat : Int) == 35) = false := u8_ne c 35 h35
            have hcf : cmtL x.data.toList = false := by rw [HCM.out]; simp [h35]
            have hcc := commentR_any x w4 (by omega)
            rw [hcf] at hcc
            have HCC := Lib.hid hcc
            have HEQ2 : Hid (scriptS s = match (lineOf (X :: V)).map some with
              | none => .inl (k + 1)
              | some none => parseS (P.drop (k + 1)) (k + 1) out op
              | some (some l) => if out.length = 200 ∨ (stepB op l.kind).2 = false then .inl (k + 1) else parseS (P.drop (k + 1)) (k + 1) (out ++ [l]) (stepB op l.kind).1) := Lib.hid (by
              rw [HEQ.out, hcf]; rfl)
            clear hcc hcf h35 HEQ
            go_wp2_with fail
            (with_reducible refine HCC.out.mono ?_)
            rintro ee w0 ⟨rfl, rfl⟩
            have hln := refLine_any X V j cpw w4.heap.size _ w4 HJ.out (by omega) (Nat.le_refl _) HPT.out (fun z hz => by have := HBD.out.2 z (by simp [hz]); omega) HNE.out
            have HLN := Lib.hid hln
            clear hln HCC
            dsimp only
            go_wp2_with fail
            (with_reducible refine HLN.out.mono ?_)
            clear HLN
            rintro ee w5 ⟨⟨q0, qa, qb, qt, qn, qo⟩, g, rfl, h1, h2, g5⟩
            have HR5 := Lib.hid (HR4.out.stays g5)
            clear g5 qw qx4
            dsimp only [lnV]
            cases g with
            | false =>
              have HRN : Hid (scriptS s = .inl (k + 1)) := Lib.hid (by rw [HEQ2.out, h2 rfl]; rfl)
              clear h1 h2
              go_wp2_with fail
              refine bodyPost_ret (v := .tuple #[.slice none 0 0, .int .i64 ((k : Int) + 1), .int .i64 66]) (by simp [results, Tryd.results14, go_sem]) rfl ?_
              exact ⟨World.grownBy.trans HR5.out.g (World.grownBy_alloc _ _ _), .inr ⟨k + 1, HRN.out, by go_num⟩⟩
            | true =>
              have HL := Lib.hid (h1 rfl)
              clear h1 h2
              by_cases hm3 : m = 200
              · subst hm3
                have HRN : Hid (scriptS s = .inl (k + 1)) := Lib.hid (by rw [HEQ2.out, HL.out]; simp [HR.out.lm])
                go_wp2_with fail
                refine bodyPost_ret (v := .tuple #[.slice none 0 0, .int .i64 ((k : Int) + 1), .int .i64 66]) (by simp [results, Tryd.results14, go_sem]) rfl ?_
                exact ⟨World.grownBy.trans HR5.out.g (World.grownBy_alloc _ _ _), .inr ⟨k + 1, HRN.out, by go_num⟩⟩
              · have hb3 : decide (200 ≤ (m : Int)) = false := by simp; omega
                have HR6 := Lib.hid (HR5.out.stays (World.grownBy_alloc w5 (.cells #[.int .i64 q0, .string qa, .string qb, .string qt, .int .i64 qn, .bool qo] 41) none))
                have HC6 := Lib.hid (alloc_block w5 (.cells #[.int .i64 q0, .string qa, .string qb, .string qt, .int .i64 qn, .bool qo] 41))
                have HB6 : Hid ((Value.slice ai no ci).ownBlock ≠ some w5.heap.size) := Lib.hid (fun e => by have := (HR5.out.oi.block_lt _ e).2; omega)
                have HRY : Hid ((stepB op q0).2 = true → scriptS s = parseS (P.drop (k + 1)) (k + 1) (out ++ [⟨q0, qa, qb, qt, qn, qo⟩]) (stepB op q0).1) := Lib.hid (fun hsb => by
                  rw [HEQ2.out, HL.out]
                  show (if _ then _ else _) = _
                  rw [if_neg (by rw [hsb, HR.out.lm]; simp; omega)])
                have HRX : Hid ((stepB op q0).2 = false → scriptS s = .inl (k + 1)) := Lib.hid (fun hsb => by
                  rw [HEQ2.out, HL.out]
                  show (if _ then _ else _) = _
                  rw [if_pos (.inr hsb)])
                obtain ⟨x0, x1, x2, x3, x4, x5⟩ := (lnC_block (l := ⟨q0, qa, qb, qt, qn, qo⟩) HC6.out).1
                obtain ⟨b5, hb5⟩ : ∃ b5, w5.heap.size = b5 := ⟨_, rfl⟩
                rw [hb5] at HB6 HC6 x0 x1 x2 x3 x4 x5
                have HB5 := Lib.hid hb5
                clear HL HEQ2
                by_cases h7 : q0 = 7
                · have eq : (q0 == 7) = true := by rw [h7]; rfl
                  have HQ0 := Lib.hid h7
                  have HPU : Hid (stepB op q0 = (op ++ [q0], decide (op.length < 8))) := Lib.hid (stepB_push _ _ (by rw [h7]; decide))
                  have HCV : Hid (cvI q0 = 0) := Lib.hid (by rw [h7]; rfl)
                  clear h7
                  by_cases h8 : 8 ≤ no
                  · have d8 : decide (8 ≤ (no : Int)) = true := by simp; omega
                    have HRN : Hid (scriptS s = .inl (k + 1)) := Lib.hid (HRX.out (by rw [HPU.out]; simp [HR.out.ln]; omega))
                    go_wp2_with fail
                    refine bodyPost_ret (v := .tuple #[.slice none 0 0, .int .i64 ((k : Int) + 1), .int .i64 66]) (by simp [results, Tryd.results14, go_sem]) rfl ?_
                    exact ⟨HR6.out.g, .inr ⟨k + 1, HRN.out, by go_num⟩⟩
                  · have d8 : decide (8 ≤ (no : Int)) = false := by simp; omega
                    have HEE : Hid (scriptS s = parseS (P.drop (k + 1)) (k + 1) (out ++ [⟨q0, qa, qb, qt, qn, qo⟩]) (op ++ [q0])) := Lib.hid (by
                      have := HRY.out (by rw [HPU.out]; simp [HR.out.ln]; omega)
                      rwa [HPU.out] at this)
                    have HML : Hid ((op ++ [q0]).length ≤ no + 1) := Lib.hid (by have := HR.out.ln; simp; omega)
                    have HKD := Lib.hid (kd_push HR.out.kd q0 (by rw [HQ0.out]; decide))
                    go_wp2_with (first | (at_builtin; (with_reducible refine app_intR (o := ⟨some 91, _, _, _, _, _⟩) rfl _ _ rfl base (.slice ai no ci) (op.map cvI) 0 (b5 + 1) ?_ (HR6.out.oi.alloc _) ?_ ?_ ?_ ?_ ?_); go_must (exact rfl); go_must (exact rfl); go_must ((have e6 : b5 + 1 = (w5.alloc (.cells #[.int .i64 q0, .string qa, .string qb, .string qt, .int .i64 qn, .bool qo] 41)).heap.size := by rw [alloc_size, HB5.out]); rw [e6, alloc_cell]; rfl); go_must ((have := HR6.out.ln; simp; omega)); go_must ((have := HR6.out.br; rw [alloc_size]; omega)); (intro v7 w7 ho7 hg7); have HO7 : Hid (OwnsI w7 base v7 ((op ++ [q0]).map cvI)) := Lib.hid (by rw [cvI_push, HCV.out]; exact ho7); have HG7 := Lib.hid (World.grownBy.trans (World.grownBy_alloc _ _ (Value.slice ai no ci).ownBlock) hg7); have HC7 := Lib.hid (kept_over HC6.out HG7.out HB6.out); have HOL7 := Lib.hid (HR6.out.ol.beside HR6.out.oi HG7.out); obtain ⟨y0, y1, y2, y3, y4, y5⟩ := (lnC_block (l := ⟨q0, qa, qb, qt, qn, qo⟩) HC7.out).1; clear ho7 hg7) | (at_builtin; go_must (with_reducible refine app_line (o := ⟨some 126, _, _, _, _, _⟩) rfl _ _ rfl base (.slice ao m cpo) out ⟨q0, qa, qb, qt, qn, qo⟩ (w7).heap.size ?_ (HOL7.out.alloc _) ?_ ?_ ?_ ?_ ?_); go_must (exact rfl); go_must (exact rfl); go_must ((intro j x hj; rw [alloc_cell]; exact hj)); go_must ((have := HR6.out.lm; omega)); go_must ((have := HR6.out.br; have := HG7.out.size; rw [alloc_size]; omega)); (intro v8 w8 ho8 hg8); have HO8 := Lib.hid ho8; have HG8 := Lib.hid hg8; clear ho8 hg8))
                    go_roundw
                    case rel =>
                      obtain ⟨a8, c8, a9, n9, c9, e8, hc8, e9, hn9, hst⟩ := HR6.out.push HG7.out HO7.out HO8.out HG8.out HML.out HKD.out (HS.out.symm.trans HEE.out)
                      exact ⟨k + 1, m + 1, n9, c8, c9, a8, a9, _, _, by omega, by omega, by omega, hc8, by go_num, e8, e9, Lib.hid hst⟩
                    case measure => simp [intOf]; omega
                by_cases h8 : q0 = 8
                · have eq : (q0 == 8) = true := by rw [h8]; rfl
                  have n7 : (q0 == 7) = false := by rw [h8]; rfl
                  have HQ0 := Lib.hid h8
                  have HPU : Hid (stepB op q0 = (op ++ [q0], decide (op.length < 8))) := Lib.hid (stepB_push _ _ (by rw [h8]; decide))
                  have HCV : Hid (cvI q0 = 2) := Lib.hid (by rw [h8]; rfl)
                  clear h8
                  by_cases h8 : 8 ≤ no
                  · have d8 : decide (8 ≤ (no : Int)) = true := by simp; omega
                    have HRN : Hid (scriptS s = .inl (k + 1)) := Lib.hid (HRX.out (by rw [HPU.out]; simp [HR.out.ln]; omega))
                    go_wp2_with fail
                    refine bodyPost_ret (v := .tuple #[.slice none 0 0, .int .i64 ((k : Int) + 1), .int .i64 66]) (by simp [results, Tryd.results14, go_sem]) rfl ?_
                    exact ⟨HR6.out.g, .inr ⟨k + 1, HRN.out, by go_num⟩⟩
                  · have d8 : decide (8 ≤ (no : Int)) = false := by simp; omega
                    have HEE : Hid (scriptS s = parseS (P.drop (k + 1)) (k + 1) (out ++ [⟨q0, qa, qb, qt, qn, qo⟩]) (op ++ [q0])) := Lib.hid (by
                      have := HRY.out (by rw [HPU.out]; simp [HR.out.ln]; omega)
                      rwa [HPU.out] at this)
                    have HML : Hid ((op ++ [q0]).length ≤ no + 1) := Lib.hid (by have := HR.out.ln; simp; omega)
                    have HKD := Lib.hid (kd_push HR.out.kd q0 (by rw [HQ0.out]; decide))
                    go_wp2_with (first | (at_builtin; (with_reducible refine app_intR (o := ⟨some 94, _, _, _, _, _⟩) rfl _ _ rfl base (.slice ai no ci) (op.map cvI) 2 (b5 + 1) ?_ (HR6.out.oi.alloc _) ?_ ?_ ?_ ?_ ?_); go_must (exact rfl); go_must (exact rfl); go_must ((have e6 : b5 + 1 = (w5.alloc (.cells #[.int .i64 q0, .string qa, .string qb, .string qt, .int .i64 qn, .bool qo] 41)).heap.size := by rw [alloc_size, HB5.out]); rw [e6, alloc_cell]; rfl); go_must ((have := HR6.out.ln; simp; omega)); go_must ((have := HR6.out.br; rw [alloc_size]; omega)); (intro v7 w7 ho7 hg7); have HO7 : Hid (OwnsI w7 base v7 ((op ++ [q0]).map cvI)) := Lib.hid (by rw [cvI_push, HCV.out]; exact ho7); have HG7 := Lib.hid (World.grownBy.trans (World.grownBy_alloc _ _ (Value.slice ai no ci).ownBlock) hg7); have HC7 := Lib.hid (kept_over HC6.out HG7.out HB6.out); have HOL7 := Lib.hid (HR6.out.ol.beside HR6.out.oi HG7.out); obtain ⟨y0, y1, y2, y3, y4, y5⟩ := (lnC_block (l := ⟨q0, qa, qb, qt, qn, qo⟩) HC7.out).1; clear ho7 hg7) | (at_builtin; go_must (with_reducible refine app_line (o := ⟨some 126, _, _, _, _, _⟩) rfl _ _ rfl base (.slice ao m cpo) out ⟨q0, qa, qb, qt, qn, qo⟩ (w7).heap.size ?_ (HOL7.out.alloc _) ?_ ?_ ?_ ?_ ?_); go_must (exact rfl); go_must (exact rfl); go_must ((intro j x hj; rw [alloc_cell]; exact hj)); go_must ((have := HR6.out.lm; omega)); go_must ((have := HR6.out.br; have := HG7.out.size; rw [alloc_size]; omega)); (intro v8 w8 ho8 hg8); have HO8 := Lib.hid ho8; have HG8 := Lib.hid hg8; clear ho8 hg8))
                    go_roundw
                    case rel =>
                      obtain ⟨a8, c8, a9, n9, c9, e8, hc8, e9, hn9, hst⟩ := HR6.out.push HG7.out HO7.out HO8.out HG8.out HML.out HKD.out (HS.out.symm.trans HEE.out)
                      exact ⟨k + 1, m + 1, n9, c8, c9, a8, a9, _, _, by omega, by omega, by omega, hc8, by go_num, e8, e9, Lib.hid hst⟩
                    case measure => simp [intOf]; omega
                by_cases h9 : q0 = 9
                · subst h9
                  by_cases h0 : no = 0
                  · subst h0
                    have HRN : Hid (scriptS s = .inl (k + 1)) := Lib.hid (HRX.out (by rw [stepB_elno op (by rw [List.eq_nil_of_length_eq_zero HR.out.ln]; simp)]))
                    go_wp2_with fail
                    refine bodyPost_ret (v := .tuple #[.slice none 0 0, .int .i64 ((k : Int) + 1), .int .i64 66]) (by simp [results, Tryd.results14, go_sem]) rfl ?_
                    exact ⟨HR6.out.g, .inr ⟨k + 1, HRN.out, by go_num⟩⟩
                  · obtain ⟨no, rfl⟩ : ∃ q, no = q + 1 := ⟨no - 1, by omega⟩
                    obtain ⟨M, y, rfl⟩ := list_last op (fun e => by have := HR.out.ln; rw [e] at this; simp at this)
                    have hlast := HR6.out.oi
                    rw [cvI_push] at hlast
                    obtain ⟨gi, ei, hgi, hc2, c2, c3, h4⟩ := hlast.last (by have := HR.out.ln; simpa using this)
                    subst ei
                    rw [Nat.add_sub_cancel] at c2 c3 h4
                    have H4 := Lib.hid h4
                    have n0 : ((no : Int) + 1 == 0) = false := by simp; omega
                    have n0b : ¬ ((no : Int) + 1 = 0) := by omega
                    clear hlast h4
                    by_cases hy : y = 7
                    · subst hy
                      have e0 : cvI 7 = 0 := rfl
                      rw [e0] at c2
                      clear e0
                      have HEE : Hid (scriptS s = parseS (P.drop (k + 1)) (k + 1) (out ++ [⟨9, qa, qb, qt, qn, qo⟩]) (M ++ [9])) := Lib.hid (by
                        have := HRY.out (by rw [stepB_else])
                        rwa [stepB_else] at this)
                      have HML : Hid ((M ++ [(9 : Int)]).length ≤ no + 1 + 1) := Lib.hid (by have := HR.out.ln; simp at this ⊢; omega)
                      have HKD := Lib.hid (kd_push (kd_sub HR.out.kd (M := M) (fun x hx => by simp [hx])) 9 (by decide))
                      have HG7 : Hid (World.grownBy (w5.alloc (.cells #[.int .i64 9, .string qa, .string qb, .string qt, .int .i64 qn, .bool qo] 41)) ((w5.alloc (.cells #[.int .i64 9, .string qa, .string qb, .string qt, .int .i64 qn, .bool qo] 41)).setCell ⟨gi, no, none⟩ (.int .i64 1)) (Value.slice (some ⟨gi, 0, none⟩) (no + 1) ci).ownBlock) := Lib.hid (set_grown _ _ _ _)
                      have HO7 : Hid (OwnsI ((w5.alloc (.cells #[.int .i64 9, .string qa, .string qb, .string qt, .int .i64 qn, .bool qo] 41)).setCell ⟨gi, no, none⟩ (.int .i64 1)) base (.slice (some ⟨gi, 0, none⟩) (no + 1) ci) ((M ++ [(9 : Int)]).map cvI)) := Lib.hid (by rw [cvI_push]; exact H4.out 1)
                      have HC7 := Lib.hid (kept_over HC6.out HG7.out HB6.out)
                      have HNB : ¬ gi = b5 := fun e => HB6.out (by rw [← e]; rfl)
                      have HNB2 : ¬ b5 = gi := fun e => HNB e.symm
                      have E7 : Hid (b5 + 1 = ((w5.alloc (.cells #[.int .i64 9, .string qa, .string qb, .string qt, .int .i64 qn, .bool qo] 41)).setCell ⟨gi, no, none⟩ (.int .i64 1)).heap.size) := Lib.hid (by simp [World.setCell, HB5.out])
                      obtain ⟨y0, y1, y2, y3, y4, y5⟩ := (lnC_block (l := ⟨9, qa, qb, qt, qn, qo⟩) HC7.out).1
                      have HOL7 := Lib.hid (HR6.out.ol.beside HR6.out.oi HG7.out)
                      go_wp2_with (at_builtin; go_must (with_reducible refine app_line (o := ⟨some 126, _, _, _, _, _⟩) rfl _ _ rfl base (.slice ao m cpo) out ⟨9, qa, qb, qt, qn, qo⟩ (b5 + 1) ?_ (HOL7.out.alloc _) ?_ ?_ ?_ ?_ ?_); go_must (exact rfl); go_must (exact rfl); go_must ((intro j x hj; rw [E7.out, alloc_cell]; exact hj)); go_must ((have := HR6.out.lm; omega)); go_must ((have := HR6.out.br; have := HG7.out.size; rw [alloc_size]; omega)); (intro v8 w8 ho8 hg8); have HO8 := Lib.hid ho8; have HG8 := Lib.hid hg8; clear ho8 hg8)
                      go_roundw
                      case rel =>
                        obtain ⟨a8, c8, a9, n9, c9, e8, hc8, e9, hn9, hst⟩ := HR6.out.push HG7.out HO7.out HO8.out HG8.out HML.out HKD.out (HS.out.symm.trans HEE.out)
                        exact ⟨k + 1, m + 1, n9, c8, c9, a8, a9, _, _, by omega, by omega, by omega, hc8, by go_num, e8, e9, Lib.hid hst⟩
                      case measure => simp [intOf]; omega
                    · have hcy : ¬ cvI y = 0 := by unfold cvI; rw [if_neg hy]; split <;> decide
                      have b1 : (cvI y == 0) = false := by simp [hcy]
                      have b2 : (cvI y != 0) = true := by simp [hcy]
                      have HY := Lib.hid hy
                      clear hy
                      have HRN : Hid (scriptS s = .inl (k + 1)) := Lib.hid (HRX.out (by rw [stepB_elno _ (by simp [HY.out])]))
                      go_wp2_with fail
                      refine bodyPost_ret (v := .tuple #[.slice none 0 0, .int .i64 ((k : Int) + 1), .int .i64 66]) (by simp [results, Tryd.results14, go_sem]) rfl ?_
                      exact ⟨HR6.out.g, .inr ⟨k + 1, HRN.out, by go_num⟩⟩
                by_cases h10 : q0 = 10
                · subst h10
                  by_cases h0 : no = 0
                  · subst h0
                    have HRN : Hid (scriptS s = .inl (k + 1)) := Lib.hid (HRX.out (by rw [List.eq_nil_of_length_eq_zero HR.out.ln]; rfl))
                    go_wp2_with fail
                    refine bodyPost_ret (v := .tuple #[.slice none 0 0, .int .i64 ((k : Int) + 1), .int .i64 66]) (by simp [results, Tryd.results14, go_sem]) rfl ?_
                    exact ⟨HR6.out.g, .inr ⟨k + 1, HRN.out, by go_num⟩⟩
                  · obtain ⟨no, rfl⟩ : ∃ q, no = q + 1 := ⟨no - 1, by omega⟩
                    have hne : op ≠ [] := fun e => by have := HR.out.ln; rw [e] at this; simp at this
                    obtain ⟨_, _, e3, hci, _⟩ := HR6.out.oi.form
                    have e4 := (Value.slice.inj e3).2.2
                    rw [List.length_map, HR.out.ln, ← e4] at hci
                    have n0 : ((no : Int) + 1 == 0) = false := by simp; omega
                    have n0b : ¬ ((no : Int) + 1 = 0) := by omega
                    have HEE : Hid (scriptS s = parseS (P.drop (k + 1)) (k + 1) (out ++ [⟨10, qa, qb, qt, qn, qo⟩]) op.dropLast) := Lib.hid (by
                      have := HRY.out (by rw [stepB_end op hne])
                      rwa [stepB_end op hne] at this)
                    have HML : Hid (op.dropLast.length ≤ no + 1 + 1) := Lib.hid (by have := HR.out.ln; rw [List.length_dropLast]; omega)
                    have HKD := Lib.hid (kd_sub HR.out.kd (M := op.dropLast) (fun x hx => (List.dropLast_sublist _).subset hx))
                    have HG7 : Hid (World.grownBy (w5.alloc (.cells #[.int .i64 10, .string qa, .string qb, .string qt, .int .i64 qn, .bool qo] 41)) (w5.alloc (.cells #[.int .i64 10, .string qa, .string qb, .string qt, .int .i64 qn, .bool qo] 41)) (Value.slice ai (no + 1) ci).ownBlock) := Lib.hid (World.grownBy.refl _ _)
                    have HO7 : Hid (OwnsI (w5.alloc (.cells #[.int .i64 10, .string qa, .string qb, .string qt, .int .i64 qn, .bool qo] 41)) base (.slice ai no ci) (op.dropLast.map cvI)) := Lib.hid (by
                      have := HR6.out.oi.shorter (by rw [List.length_map]; exact HR.out.ln) (by omega)
                      rw [← List.map_dropLast] at this
                      exact this)
                    clear e3 e4 hne
                    have E7 : Hid (b5 + 1 = ((w5.alloc (.cells #[.int .i64 10, .string qa, .string qb, .string qt, .int .i64 qn, .bool qo] 41))).heap.size) := Lib.hid (by simp [World.setCell, HB5.out])
                    have HOL7 := Lib.hid (HR6.out.ol.beside HR6.out.oi HG7.out)
                    go_wp2_with (at_builtin; go_must (with_reducible refine app_line (o := ⟨some 126, _, _, _, _, _⟩) rfl _ _ rfl base (.slice ao m cpo) out ⟨10, qa, qb, qt, qn, qo⟩ (b5 + 1) ?_ (HOL7.out.alloc _) ?_ ?_ ?_ ?_ ?_); go_must (exact rfl); go_must (exact rfl); go_must ((intro j x hj; rw [E7.out, alloc_cell]; exact hj)); go_must ((have := HR6.out.lm; omega)); go_must ((have := HR6.out.br; have := HG7.out.size; rw [alloc_size]; omega)); (intro v8 w8 ho8 hg8); have HO8 := Lib.hid ho8; have HG8 := Lib.hid hg8; clear ho8 hg8)
                    go_roundw
                    case rel =>
                      obtain ⟨a8, c8, a9, n9, c9, e8, hc8, e9, hn9, hst⟩ := HR6.out.push HG7.out HO7.out HO8.out HG8.out HML.out HKD.out (HS.out.symm.trans HEE.out)
                      exact ⟨k + 1, m + 1, n9, c8, c9, a8, a9, _, _, by omega, by omega, by omega, hc8, by go_num, e8, e9, Lib.hid hst⟩
                    case measure => simp [intOf]; omega
                have HSB := Lib.hid (stepB_same op q0 h7 h8 h9 h10)
                have n7 : (q0 == 7) = false := by simp [h7]
                have n8 : (q0 == 8) = false := by simp [h8]
                have n9 : (q0 == 9) = false := by simp [h9]
                have n10 : (q0 == 10) = false := by simp [h10]
                clear h7 h8 h9 h10
                have HEE : Hid (scriptS s = parseS (P.drop (k + 1)) (k + 1) (out ++ [⟨q0, qa, qb, qt, qn, qo⟩]) op) := Lib.hid (by
                  have := HRY.out (by rw [HSB.out])
                  rwa [HSB.out] at this)
                have HML : Hid (op.length ≤ no + 1) := Lib.hid (by have := HR.out.ln; omega)
                have HKD := Lib.hid HR.out.kd
                have HG7 : Hid (World.grownBy (w5.alloc (.cells #[.int .i64 q0, .string qa, .string qb, .string qt, .int .i64 qn, .bool qo] 41)) (w5.alloc (.cells #[.int .i64 q0, .string qa, .string qb, .string qt, .int .i64 qn, .bool qo] 41)) (Value.slice ai no ci).ownBlock) := Lib.hid (World.grownBy.refl _ _)
                have HO7 := Lib.hid HR6.out.oi
                have E7 : Hid (b5 + 1 = ((w5.alloc (.cells #[.int .i64 q0, .string qa, .string qb, .string qt, .int .i64 qn, .bool qo] 41))).heap.size) := Lib.hid (by simp [World.setCell, HB5.out])
                have HOL7 := Lib.hid (HR6.out.ol.beside HR6.out.oi HG7.out)
                go_wp2_with (at_builtin; go_must (with_reducible refine app_line (o := ⟨some 126, _, _, _, _, _⟩) rfl _ _ rfl base (.slice ao m cpo) out ⟨q0, qa, qb, qt, qn, qo⟩ (b5 + 1) ?_ (HOL7.out.alloc _) ?_ ?_ ?_ ?_ ?_); go_must (exact rfl); go_must (exact rfl); go_must ((intro j x hj; rw [E7.out, alloc_cell]; exact hj)); go_must ((have := HR6.out.lm; omega)); go_must ((have := HR6.out.br; have := HG7.out.size; rw [alloc_size]; omega)); (intro v8 w8 ho8 hg8); have HO8 := Lib.hid ho8; have HG8 := Lib.hid hg8; clear ho8 hg8)
                go_roundw
                case rel =>
                  obtain ⟨a8, c8, a9, n9, c9, e8, hc8, e9, hn9, hst⟩ := HR6.out.push HG7.out HO7.out HO8.out HG8.out HML.out HKD.out (HS.out.symm.trans HEE.out)
                  exact ⟨k + 1, m + 1, n9, c8, c9, a8, a9, _, _, by omega, by omega, by omega, hc8, by go_num, e8, e9, Lib.hid hst⟩
                case measure => simp [intOf]; omega
      · have HEQ : Hid (scriptS s = if cmtL x.data.toList = true then parseS (P.drop (k + 1)) (k + 1) out op else .inl (k + 1)) := Lib.hid (by
          rw [HS.out, HR.out.eq, HE.out, parse_step]
          by_cases hq : cmtL x.data.toList = true
          · rw [if_pos hq, show readS x = some none by unfold readS; rw [if_pos hq]]
          · rw [if_neg hq, show readS x = none by unfold readS; rw [if_neg hq, hL]; rfl])
        obtain ⟨q, hq⟩ : ∃ q, cmtL x.data.toList = q := ⟨_, rfl⟩
        have hcc := commentR_any x w4 (by omega)
        rw [hq] at hcc
        have HCC := Lib.hid hcc
        have HQ := Lib.hid hq
        clear hcc hq hL g4 qx
        dsimp only
        go_wp2_with fail
        (with_reducible refine HCC.out.mono ?_)
        rintro ee w0 ⟨rfl, rfl⟩
        clear HCC
        dsimp only
        cases q with
        | true =>
          have HE2 : Hid (parseS P 0 [] [] = parseS (P.drop (k + 1)) (k + 1) out op) := Lib.hid (by
            rw [← HS.out, HEQ.out, HQ.out]; rfl)
          go_wp2
          go_roundw
          case rel => exact ⟨k + 1, m, no, cpo, ci, ao, ai, out, op, by omega, hm2, hno, hcpo, by go_num, rfl, rfl, Lib.hid (HR4.out.next (HR4.out.eq.symm.trans HE2.out))⟩
          case measure => simp [intOf]; omega
        | false =>
          have HRN : Hid (scriptS s = .inl (k + 1)) := Lib.hid (by rw [HEQ.out, HQ.out]; rfl)
          go_wp2_with fail
          refine bodyPost_ret (v := .tuple #[.slice none 0 0, .int .i64 ((k : Int) + 1), .int .i64 66]) (by simp [results, Tryd.results14, go_sem]) rfl ?_
          exact ⟨HR4.out.g, .inr ⟨k + 1, HRN.out, by go_num⟩⟩
    · obtain rfl : k = n := by omega
      have HEND : Hid (scriptS s = if op = [] then .inr out else .inl 0) := Lib.hid (by
        rw [HS.out, HR.out.eq, List.drop_eq_nil_of_le (by have := HN.out; omega)]; rfl)
      by_cases h0 : no = 0
      · subst h0
        have HRN : Hid (scriptS s = .inr out) := Lib.hid (by rw [HEND.out, if_pos (List.eq_nil_of_length_eq_zero HR.out.ln)])
        go_wp2_with fail
        refine bodyPost_ret (v := .tuple #[.slice ao m cpo, .int .i64 0, .int .i64 0]) (by simp [results, Tryd.results14, go_sem]) rfl ?_
        exact ⟨HR.out.g, .inl ⟨out, _, HRN.out, rfl, HR.out.ol.mono HR.out.wb⟩⟩
      · have HRN : Hid (scriptS s = .inl 0) := Lib.hid (by rw [HEND.out, if_neg (fun e => h0 (by rw [← HR.out.ln, e]; rfl))])
        have d0 : decide (0 < (no : Int)) = true := by simp; omega
        go_wp2_with fail
        refine bodyPost_ret (v := .tuple #[.slice none 0 0, .int .i64 0, .int .i64 66]) (by simp [results, Tryd.results14, go_sem]) rfl ?_
        exact ⟨HR.out.g, .inr ⟨0, HRN.out, by go_num⟩⟩
end Go.Proofs.YtmjdkgbblccpgaaDoor
