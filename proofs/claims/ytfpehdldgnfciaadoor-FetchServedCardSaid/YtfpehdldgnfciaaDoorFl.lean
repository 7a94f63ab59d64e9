/- FetchServed's law. -/
import Derived.Test.YtfpehdldgnfciaaDoorFk
import Derived.Test.YtfpehdldgnfciaaDoorBn
namespace Go.Proofs.YtfpehdldgnfciaaDoor
open Go.RowKit

set_option maxRecDepth 1000000
/-- What the law's loop keeps: kk rounds are over, D of them were faulty, I in a row; m bytes are there. -/
structure LR (w : World) (L : List UInt8) (N nf F base : Nat) (ab : Option Addr) (cb kk D I m cm fa : Nat) (am : Option Addr) (dn : Bool) (wr : World) : Prop where
  g : w.grownBy wr none
  f : Fet wr F (keyV L) (N : Int) (.slice am m cm) (fa : Int) 0 dn false
  o : Owns wr base (.slice am m cm) (L.take m)
  p : Part wr base (.slice ab N cb) L
  wb : w.heap.size ≤ base
  bF : base ≤ F
  lm : m ≤ N
  fi : fa ≤ I
  i3 : I ≤ 3
  dk : D ≤ kk
  kn : kk ≤ nf + m
  go : dn = false → m < N ∧ 64 * (kk - D) ≤ m
  st : dn = true → m = N ∧ 64 * (kk - D) ≤ N + 63
/-- How many bytes a fetch still wants. -/
def mz (N F : Nat) (w : World) : Nat := match w.cell? ⟨F, 39, none⟩ with
  | some (.slice _ m _) => N - m
  | _ => 0
theorem LR.mzq {w wr : World} {L : List UInt8} {N nf F base cb kk D I m cm fa : Nat} {ab am : Option Addr} {dn : Bool} (h : LR w L N nf F base ab cb kk D I m cm fa am dn wr) : mz N F wr = N - m := by
  unfold mz
  rw [h.f.cells.2.1]
theorem conv_any {w : World} {B n c : Nat} {a : Option Addr} {L : List UInt8} (h : Part w B (.slice a n c) L) (hL : L.length = n) : (convert 23 9 (.slice a n c)).run Tryd.prog w = .ok (.string ⟨L.toArray⟩) w := by
  by_cases h0 : 0 < n
  · exact conv_part h (by omega)
  · obtain rfl : n = 0 := by omega
    have hl : L = [] := List.eq_nil_of_length_eq_zero hL
    subst hl
    cases a with
    | none => rfl
    | some ad => rfl
theorem cell_lt {w : World} {b o : Nat} {v : Value} (h : w.cell? ⟨b, o, none⟩ = some v) : b < w.heap.size := by
  rcases Nat.lt_or_ge b w.heap.size with h1 | h1
  · exact h1
  · have e : w.cell? ⟨b, o, none⟩ = none := by simp [World.cell?, Array.getElem?_eq_none h1]
    rw [e] at h; cases h
theorem take_plus (L : List UInt8) (m j : Nat) : L.take m ++ (L.drop m).take j = L.take (m + j) := (List.take_add).symm
theorem take_of_N (L : List UInt8) (N : Nat) (hL : L.length = N) : L.take N = L := List.take_of_length_le (by omega)
theorem LR.good {w wr W7 w8 : World} {L : List UInt8} {N nf F base cb kk D I m cm fa q : Nat} {ab am : Option Addr} (dn : Bool) (h : LR w L N nf F base ab cb kk D I m cm fa am false wr) (hL : L.length = N) (hq : min 64 (N - m) = q) (g7 : wr.grownBy W7 none)
    (t : FetTo W7 F base (.slice am m cm) (keyV L) (N : Int) (L.take m ++ (L.drop m).take q) 0 0 dn false w8) (hd : dn = decide (m + q = N)) (I2 : Nat) (hI : I2 ≤ 3) : ∃ c8 a8, LR w L N nf F base ab cb (kk + 1) D I2 (m + q) c8 0 a8 dn w8 := by
  obtain ⟨⟨a8, c8, f8, o8⟩, b8, u8⟩ := t
  obtain ⟨hmn, hgo⟩ := h.go rfl
  have hlen : (L.take m ++ (L.drop m).take q).length = m + q := by rw [take_plus, List.length_take]; omega
  rw [hlen] at f8 o8
  rw [take_plus] at o8
  have hdk := h.dk
  have hkn := h.kn
  refine ⟨c8, a8, u8.grown (World.grownBy.trans h.g g7) (below_le b8 h.wb), f8, o8, (h.p.stays g7).below b8 (Nat.le_refl _), h.wb, h.bF, by omega, Nat.zero_le _, hI, by omega, by omega, fun e => ?_, fun e => ?_⟩
  · have : ¬ m + q = N := by rw [e] at hd; simpa using hd.symm
    exact ⟨by omega, by omega⟩
  · have : m + q = N := by rw [e] at hd; simpa using hd.symm
    exact ⟨this, by omega⟩
theorem LR.bad {w wr W7 w8 : World} {L : List UInt8} {N nf F base cb kk D I m cm fa q j : Nat} {ab am : Option Addr} (h : LR w L N nf F base ab cb kk D I m cm fa am false wr) (hL : L.length = N) (hq : min 64 (N - m) = q) (hj : j < q) (g7 : wr.grownBy W7 none)
    (t : FetTo W7 F base (.slice am m cm) (keyV L) (N : Int) (L.take m ++ (L.drop m).take j) ((fa : Int) + 1) 0 false false w8) (hI : I < 3) (hk : kk < nf) : ∃ c8 a8, LR w L N nf F base ab cb (kk + 1) (D + 1) (I + 1) (m + j) c8 (fa + 1) a8 false w8 := by
  obtain ⟨⟨a8, c8, f8, o8⟩, b8, u8⟩ := t
  obtain ⟨hmn, hgo⟩ := h.go rfl
  have hlen : (L.take m ++ (L.drop m).take j).length = m + j := by rw [take_plus, List.length_take]; omega
  rw [hlen] at f8 o8
  rw [take_plus] at o8
  have hdk := h.dk
  have hkn := h.kn
  have hfi := h.fi
  exact ⟨c8, a8, u8.grown (World.grownBy.trans h.g g7) (below_le b8 h.wb), f8, o8, (h.p.stays g7).below b8 (Nat.le_refl _), h.wb, h.bF, by omega, by omega, by omega, by omega, by omega, fun _ => ⟨by omega, by omega⟩, fun e => by cases e⟩
def TookR (w : World) (L : List UInt8) (N nf F base : Nat) (ab : Option Addr) (cb kk D I m fa : Nat) (e : Ending) (w' : World) : Prop := e = .returned .nilIface ∧ ∃ c a dn, LR w L N nf F base ab cb kk D I m c fa a dn w'
theorem took_good {w wr W7 : World} {L M : List UInt8} {N nf F base cb kk D I m cm fa q m2 cg B : Nat} {ab am ag : Option Addr} (h : LR w L N nf F base ab cb kk D I m cm fa am false wr) (hL : L.length = N) (hN : N ≤ 9000) (hT : Tab w) (h0 : 0 < w.heap.size) (hq : min 64 (N - m) = q) (g7 : wr.grownBy W7 none)
    (hM : M.length = m2) (hm2 : q ≤ m2) (hMq : M.take q = (L.drop m).take q) (hP : Part W7 B (.slice ag m2 cg) M) (I2 : Nat) (hI : I2 ≤ 3) :
    Calls Tryd.prog 10 #[.pointer (some ⟨F, 0, none⟩), .agg #[.int .i64 0, .slice ag m2 cg]] W7 (TookR w L N nf F base ab cb (kk + 1) D I2 (m + q) 0) := by
  obtain ⟨hmn, hgo⟩ := h.go rfl
  have hl : (L.take m).length = m := by rw [List.length_take]; omega
  by_cases hlast : m + q = N
  · have hK : L.take m ++ M.take q = L := by rw [hMq, take_plus, hlast, List.take_of_length_le (by omega)]
    have hf := h.f.stays g7
    rw [← hK] at hf
    refine (take_last F base B N m cm m2 cg q am ag fa 0 (L.take m) M W7 hf (h.o.stays g7) hl hP hM hmn hN hq hm2 h.bF hlast (hT.stays (World.grownBy.trans h.g g7)) (Nat.lt_of_lt_of_le h0 h.wb)).mono fun e w' ⟨he, t⟩ => ⟨he, ?_⟩
    rw [hK] at t
    obtain ⟨c8, a8, r⟩ := h.good true hL hq g7 (by rw [take_plus, hlast, take_of_N L N hL]; exact t) (by simp [hlast]) I2 hI
    exact ⟨c8, a8, true, r⟩
  · refine (take_more F base B N m cm m2 cg q am ag (keyV L) fa 0 (L.take m) M W7 (h.f.stays g7) (h.o.stays g7) hl hP hM hmn hN hq hm2 h.bF (by omega)).mono fun e w' ⟨he, t⟩ => ⟨he, ?_⟩
    rw [hMq] at t
    obtain ⟨c8, a8, r⟩ := h.good false hL hq g7 t (by simp [hlast]) I2 hI
    exact ⟨c8, a8, false, r⟩
theorem took_few {w wr W7 : World} {L : List UInt8} {N nf F base cb kk D I m cm fa q j cg B : Nat} {ab am ag : Option Addr} (h : LR w L N nf F base ab cb kk D I m cm fa am false wr) (hL : L.length = N) (hN : N ≤ 9000) (hq : min 64 (N - m) = q) (hj : j < q) (g7 : wr.grownBy W7 none)
    (hP : Part W7 B (.slice ag j cg) ((L.drop m).take j)) (hI : I < 3) (hk : kk < nf) :
    Calls Tryd.prog 10 #[.pointer (some ⟨F, 0, none⟩), .agg #[.int .i64 0, .slice ag j cg]] W7 (TookR w L N nf F base ab cb (kk + 1) (D + 1) (I + 1) (m + j) (fa + 1)) := by
  obtain ⟨hmn, hgo⟩ := h.go rfl
  have hl : (L.take m).length = m := by rw [List.length_take]; omega
  have hfi := h.fi
  refine (take_few F base B N m cm j cg q am ag (keyV L) fa 0 (L.take m) ((L.drop m).take j) W7 (h.f.stays g7) (h.o.stays g7) hl hP (by rw [List.length_take, List.length_drop]; omega) (by omega) (by omega) hq hj h.bF (by omega) (by omega)).mono fun e w' ⟨he, t⟩ => ⟨he, ?_⟩
  obtain ⟨c8, a8, r⟩ := h.bad hL hq hj g7 t hI hk
  exact ⟨c8, a8, false, r⟩
theorem took_lost {w wr W7 : World} {L : List UInt8} {N nf F base cb kk D I m cm fa q : Nat} {ab am : Option Addr} (gv : Value) (h : LR w L N nf F base ab cb kk D I m cm fa am false wr) (hL : L.length = N) (hN : N ≤ 9000) (hq : min 64 (N - m) = q) (g7 : wr.grownBy W7 none) (hI : I < 3) (hk : kk < nf) :
    Calls Tryd.prog 10 #[.pointer (some ⟨F, 0, none⟩), .agg #[.int .i64 1, gv]] W7 (TookR w L N nf F base ab cb (kk + 1) (D + 1) (I + 1) (m + 0) (fa + 1)) := by
  obtain ⟨hmn, hgo⟩ := h.go rfl
  have hl : (L.take m).length = m := by rw [List.length_take]; omega
  have hfi := h.fi
  refine (take_lost F base N m cm am gv (keyV L) fa 0 (L.take m) W7 (h.f.stays g7) (h.o.stays g7) hl (by omega) (by omega) h.bF (by omega) (by omega)).mono fun e w' ⟨he, t⟩ => ⟨he, ?_⟩
  obtain ⟨c8, a8, r⟩ := h.bad (j := 0) hL hq (by omega) g7 (by rw [List.take_zero, List.append_nil]; exact t) hI hk
  exact ⟨c8, a8, false, r⟩
set_option maxHeartbeats 16000000 in
theorem served_in (x N nf cf : Nat) (af : Option Addr) (l : List Nat) (w : World) (hx : x % 700 = N) (hx2 : x < 65536) (hn : l.length = nf) (h60 : nf ≤ 60) (hl : ∀ y ∈ l, y < 256) (hw : BytesN w af l) (hT : Tab w) :
    Calls Tryd.prog 3 #[.int .u16 x, .slice af nf cf] w fun e w' => e = .returned (.bool true) ∧ w.grownBy w' none := by
  have h0 := Lib.hid hT.pos
  have hN : N < 700 := by omega
  have HT := Lib.hid hT
  have HX := Lib.hid hx
  have HN := Lib.hid hn
  have HLb := Lib.hid hl
  have HW := Lib.hid hw
  have xm : (x : Int) % 700 = (N : Int) := by omega
  have xl : (x : Int) < 65536 := by omega
  have f60 : decide (60 < (nf : Int)) = false := by simp; omega
  have f61 : decide (60 < nf) = false := by simp; omega
  obtain ⟨L, hLL⟩ : ∃ L, madeL N = L := ⟨_, rfl⟩
  have HL : Hid (L.length = N) := by show _ = _; rw [← hLL, madeL_len]
  have HLL := Lib.hid hLL
  have hz := zero_row
  have hzs := zeroRow_size
  obtain ⟨Z, hZ⟩ : ∃ Z, zeroRow = Z := ⟨_, rfl⟩
  rw [hZ] at hz hzs
  have HZS := Lib.hid hzs
  have hk := keyV_size L
  obtain ⟨RC, hRC⟩ : ∃ RC, rowC (keyV L) N = RC := ⟨_, rfl⟩
  have HSZ : Hid (RC.size = 39) := by show _ = _; rw [← hRC]; exact rowC_size hk
  have H1 : Hid (RC.all (·.oneCell') = true) := by show _ = _; rw [← hRC]; exact row_all (keyV_one L)
  have HI : Hid ((Tryd.prog.info? 33).map (·.size) = some RC.size) := by show _ = _; rw [HSZ.out]; exact info_row
  have HRO : Hid (∀ (a : Option Addr) (c : Nat) (W : World), Part W W.heap.size (.slice a N c) L → Calls Tryd.prog 6 #[.slice a N c, .int .u8 0] W fun e w' => e = .returned (.agg RC) ∧ W.grownBy w' none) := fun a c W hP => by
    rw [← hRC]; exact row_any N c W.heap.size a L W HL.out (by omega) hP (Nat.le_refl _)
  have HNE : Hid (∀ W, w.grownBy W none → Calls Tryd.prog 7 #[.agg RC] W (NewRet W (keyV L) N)) := fun W hW => by rw [← hRC]; exact new_at L N HL.out (by omega) W (HT.out.stays hW)
  clear hT hx hn hl hw hLL hZ hzs hk hRC
  go_enter Tryd.func3, Tryd.ntmps3
  go_wp2_with fail
  (with_reducible refine (known_any w HT.out).mono ?_)
  rintro ee w1 ⟨rfl, g1⟩
  dsimp only
  have G1 := Lib.hid g1
  clear g1
  go_wp2_with fail
  (with_reducible refine (made_any N (by omega) w1).mono ?_)
  rintro ee w2 ⟨ab, cb, rfl, g2, p2⟩
  dsimp only
  rw [HLL.out] at p2
  have G2 := Lib.hid (World.grownBy.trans G1.out g2)
  have P2 := Lib.hid p2
  clear g2 p2
  go_wp2_with fail
  (with_reducible refine (HRO.out ab cb w2 P2.out).mono ?_)
  rintro ee w3 ⟨rfl, g3⟩
  dsimp only
  have G3 := Lib.hid (World.grownBy.trans G2.out g3)
  have P3 := Lib.hid (P2.out.stays g3)
  have S3 := Lib.hid g3.size
  clear g3
  have BZ : Hid ((w3.alloc (.cells Z 33)).heap[w3.heap.size]? = some (.cells Z 33 (0, 0))) := bk_alloc _ _
  have BC : Hid (((w3.alloc (.cells Z 33)).setRow w3.heap.size RC).heap[w3.heap.size]? = some (.cells RC 33 (0, 0))) := setRow_heap _ _ _ RC 33 _ BZ.out
  have GC : Hid (w3.grownBy ((w3.alloc (.cells Z 33)).setRow w3.heap.size RC) none) := Sha.grown_setRow (World.grownBy_alloc _ _ _) (Nat.le_refl _) _
  go_wp2_with (first
    | ((with_reducible refine wpList_store_row (o := ⟨none, _, _, _, _, _⟩) rfl 33 _ _ rfl w3.heap.size RC ?_ ?_ 33 Z BZ.out HI.out ?_ H1.out ?_); (rfl); (rfl); (rw [HSZ.out, HZS.out]))
    | ((with_reducible refine wpList_load_row (o := ⟨some 29, _, _, _, _, _⟩) rfl 33 _ rfl w3.heap.size ?_ 33 RC (0, 0) _ BC.out Tryd.underlying33 ?_ HI.out ?_); (rfl); (rfl)))
  (with_reducible refine (HNE.out _ (World.grownBy.trans G3.out GC.out)).mono ?_)
  rintro ee w4 ⟨F, rfl, hF, g4, hf⟩
  dsimp only
  have G4 := Lib.hid (World.grownBy.trans (World.grownBy.trans G3.out GC.out) g4)
  have P4 := Lib.hid ((P3.out.stays GC.out).stays g4)
  have HLR0 : Hid (LR w L N nf F w2.heap.size ab cb 0 0 0 0 0 0 none (decide (N = 0)) w4) := by
    refine ⟨G4.out, hf, Owns.nil _ _, P4.out, G2.out.size, Nat.le_trans S3.out (Nat.le_trans GC.out.size hF), Nat.zero_le _, Nat.le_refl _, by omega, Nat.le_refl _, by omega, fun h => ?_, fun h => ?_⟩
    · have : ¬ N = 0 := by simpa using h
      exact ⟨by omega, by omega⟩
    · have : N = 0 := by simpa using h
      exact ⟨by omega, by omega⟩
  clear hF g4 hf hz
  go_wp2_with fail
  go_loopw [8, 9, 10, 11] (fun bad asks k inn wr => ∃ (kk D I m cm fa : Nat) (am : Option Addr) (dn : Bool), bad = .int .i64 D ∧ asks = .int .i64 kk ∧ k = .int .i64 kk ∧ inn = .int .i64 I ∧ LR w L N nf F w2.heap.size ab cb kk D I m cm fa am dn wr) (fun _ _ k _ wr => mz N F wr + (nf - (intOf k).toNat))
  case atStart => exact ⟨0, 0, 0, 0, 0, 0, none, _, rfl, rfl, rfl, rfl, HLR0.out⟩
  case round =>
    obtain ⟨kk, D, I, m, cm, fa, am, dn, rfl, rfl, rfl, rfl, hlr⟩ := hrel
    have HR := Lib.hid hlr
    clear hlr HLR0
    have hkk : kk ≤ 800 := by have := HR.out.kn; have := HR.out.lm; omega
    have hD800 : (D : Int) ≤ 800 := by have := HR.out.dk; omega
    have hI3a : (I : Int) ≤ 3 := by have := HR.out.i3; omega
    cases dn with
    | true =>
      obtain ⟨hmN, hst⟩ := HR.out.st rfl
      subst hmN
      have hLt : L.take m = L := List.take_of_length_le (by have := HL.out; omega)
      have HAO := Lib.hid (ask_over F (keyV L) (m : Int) (.slice am m cm) fa 0 false wr HR.out.f)
      have hO := HR.out.o
      rw [hLt] at hO
      have HOW := Lib.hid hO
      have hA : (kk : Int) ≤ ((m : Int) + 64 - 1) / 64 + 2 * (D : Int) := by have := HR.out.dk; omega
      have hDk : (D : Int) ≤ 800 := by have := HR.out.dk; omega
      clear hLt hO hst
      go_wp2_with fail
      (with_reducible refine HAO.out.mono ?_)
      rintro ee w5 ⟨rfl, g5⟩
      dsimp only
      go_wp2_with fail
      obtain ⟨W5, hW5⟩ : ∃ W5, w5.alloc (.cells #[.string ⟨#[]⟩, .int .i64 0, .int .i64 0, .int .i64 0, .slice none 0 0, .int .i64 0, .int .i64 0] 38) = W5 := ⟨_, rfl⟩
      have q5 : wr.grownBy W5 none := by rw [← hW5]; exact grown_alloc _ g5
      have HDY := Lib.hid (done_yes F m cm am w2.heap.size L (keyV L) (m : Int) fa 0 false W5 (HR.out.f.stays q5) (HOW.out.stays q5) HL.out (by omega))
      have P5 := Lib.hid (HR.out.p.stays q5)
      have G5 := Lib.hid (World.grownBy.trans HR.out.g q5)
      rw [hW5]
      clear hW5 q5 g5
      (with_reducible refine HDY.out.mono ?_)
      rintro ee w6 ⟨v6, rfl, o6, g6⟩
      dsimp only
      obtain ⟨a6, c6, e6, _⟩ := o6.open HL.out
      subst e6
      have c1 := conv_any (o6.part (by have := G5.out.size; have := g6.size; have := h0.out; omega)) HL.out
      have c2 := conv_any (P5.out.stays g6) HL.out
      have G6 := Lib.hid (World.grownBy.trans G5.out g6)
      clear o6 g6
      go_wp2
      go_ret
      exact ⟨rfl, G6.out⟩
    | false =>
      obtain ⟨hmn, hgo⟩ := HR.out.go rfl
      obtain ⟨q, hq⟩ : ∃ q, min 64 (N - m) = q := ⟨_, rfl⟩
      have HQ := Lib.hid hq
      have HAK := Lib.hid (ask_any F N m cm q (keyV L) am fa 0 wr HR.out.f (by omega) (by omega) hq)
      clear hq
      by_cases hfault : kk < nf ∧ (∃ y, l[kk]? = some y ∧ 0 < y % 3) ∧ I < 3
      · by_cases h1 : l.getD kk 0 % 3 = 1
        · obtain ⟨hkn, ⟨y, hy, hy3⟩, hI3⟩ := hfault
          have hyd : l.getD kk 0 = y := by rw [List.getD_eq_getElem?_getD, hy]; rfl
          obtain ⟨b1, o1, rfl, y1⟩ := HW.out kk y hy
          have hy256 := HLb.out y (List.mem_of_getElem? hy)
          have t1 : decide ((kk : Int) < (nf : Int)) = true := by simp; omega
          have t2 : decide (kk < nf) = true := by simp; omega
          have kkI : (kk : Int) < (nf : Int) := by omega
          have hy0 : (0 : Int) ≤ (y : Int) := by omega
          have hyI : (y : Int) < 256 := by omega
          have ym : (y : Int) % 3 = 1 := by rw [hyd] at h1; omega
          obtain ⟨Nn, hNn⟩ : ∃ Nn, y % 40 = Nn := ⟨_, rfl⟩
          have yn : (y : Int) % 40 = (Nn : Int) := by omega
          have hNn40 : Nn < 40 := by omega
          have i3 : decide ((I : Int) < 3) = true := by simp; omega
          have i4 : decide (I < 3) = true := by simp; omega
          clear hy hyd h1 hNn hy3
          go_wp2_with fail
          (with_reducible refine HAK.out.mono ?_)
          rintro ee w5 ⟨rfl, g5⟩
          dsimp only
          have z1 : w5.cell? ⟨b1, o1 + kk, none⟩ = some (.int .u8 (y : Int)) := (World.grownBy.trans HR.out.g g5).cell y1 (by simp)
          have lb1 : b1 < w5.heap.size := cell_lt z1
          have nb1 : ¬ b1 = w5.heap.size := by omega
          have nb2 : ¬ b1 = w5.heap.size + 1 := by omega
          go_wp2
          go_region
          all_goals
            by_cases hNq : Nn < q
            · have u1 : decide ((q : Int) ≤ (Nn : Int)) = false := by simp; omega
              have u2 : decide (q ≤ Nn) = false := by simp; omega
              go_wp2_with fail
              obtain ⟨X, hX⟩ : ∃ X, (w5.alloc (.cells #[.string ⟨#[97]⟩, .int .i64 1, .int .i64 0, .int .i64 0, .slice none 0 0, .int .i64 m, .int .i64 q] 38)).heap.size = X := ⟨_, rfl⟩
              have hXe : w5.heap.size + 1 = X := by rw [← hX, alloc_size]
              obtain ⟨W6, hW6⟩ : ∃ W6, ((w5.alloc (.cells #[.string ⟨#[97]⟩, .int .i64 1, .int .i64 0, .int .i64 0, .slice none 0 0, .int .i64 m, .int .i64 q] 38)).alloc (.cells #[.int .u8 5, .int .u8 (Nn : Int), .int .i64 0, .slice none 0 0] 44)).drew = W6 := ⟨_, rfl⟩
              have q6 : wr.grownBy W6 none := by rw [← hW6]; exact grown_drew 1 (grown_alloc _ (grown_alloc _ g5))
              have bx : W6.heap[X]? = some (.cells #[.int .u8 5, .int .u8 (Nn : Int), .int .i64 0, .slice none 0 0] 44 (0, 0)) := by rw [← hW6, ← hX]; exact bk_alloc _ _
              have ba : W6.heap[w5.heap.size]? = some (.cells #[.string ⟨#[97]⟩, .int .i64 1, .int .i64 0, .int .i64 0, .slice none 0 0, .int .i64 m, .int .i64 q] 38 (0, 0)) := by rw [← hW6]; exact bk_kept (bk_alloc _ _) (grown_drew 1 (World.grownBy_alloc _ _ _))
              have Q6 := Lib.hid q6
              have BX := Lib.hid bx
              have BA := Lib.hid ba
              have HGO := Lib.hid (got_short1 N cb m q w2.heap.size Nn ab L W6 HL.out (by omega) (HR.out.p.stays q6) (Nat.le_trans (Nat.le_trans HR.out.bF (Nat.le_of_lt HR.out.f.size)) q6.size) hmn HQ.out (by omega) hNq)
              rw [hXe, hW6]
              clear q6 bx ba hX hXe hW6 g5
              (with_reducible refine HGO.out.mono ?_)
              rintro ee w7 ⟨ag, cg, rfl, pg, g7⟩
              dsimp only
              have hgl : Hid ((((L.drop m).take q).take Nn).length = Nn) := by show _ = _; rw [List.length_take, List.length_take, List.length_drop]; have := HL.out; have := HQ.out; omega
              rw [hgl.out] at pg ⊢
              have bx7 := bk_kept BX.out g7
              have ba7 := bk_kept BA.out g7
              have x0 := (bk_cell bx7 0 _ rfl).1
              have a3 := (bk_cell ba7 6 _ rfl).1
              have lX : X < w7.heap.size := bk_size bx7
              have lA : w5.heap.size < w7.heap.size := bk_size ba7
              have nX : ¬ X = w7.heap.size := by omega
              have nA : ¬ w5.heap.size = w7.heap.size := by omega
              obtain ⟨W7, hW7⟩ : ∃ W7, w7.alloc (.cells #[.int .i64 0, .slice ag Nn cg] 42) = W7 := ⟨_, rfl⟩
              have q7 : wr.grownBy W7 none := by rw [← hW7]; exact grown_alloc _ (World.grownBy.trans Q6.out g7)
              have PG : Hid (Part W7 w7.heap.size (.slice ag Nn cg) (((L.drop m).take q).take Nn)) := by show Part _ _ _ _; rw [← hW7]; exact pg.stays (World.grownBy_alloc _ _ _)
              have Q7 := Lib.hid q7
              have HW7 := Lib.hid hW7
              clear pg g7 q7 hW7 bx7 ba7
              have PG2 : Hid (Part W7 w7.heap.size (.slice ag Nn cg) ((L.drop m).take Nn)) := by show Part _ _ _ _; have := PG.out; rw [List.take_take, Nat.min_eq_left (by omega)] at this; exact this
              go_wp2_with fail
              rw [HW7.out]
              have HTK := Lib.hid (took_few HR.out HL.out (by omega) HQ.out hNq Q7.out PG2.out hI3 hkn)
              (with_reducible refine HTK.out.mono ?_)
              rintro ee w8 ⟨rfl, c8, a8, dn8, r8⟩
              dsimp only
              have R8 := Lib.hid r8
              clear r8 HTK
              go_wp2
              go_roundw
              case rel => exact ⟨kk + 1, D + 1, I + 1, m + Nn, c8, fa + 1, a8, dn8, by first | rfl | go_num, by go_num, by go_num, by first | rfl | go_num, R8.out⟩
              case measure =>
                have h1 := R8.out.mzq
                have h2 := HR.out.mzq
                rw [h1, h2]
                have := HQ.out
                have := R8.out.lm
                simp [intOf]; omega
            · have u1 : decide ((q : Int) ≤ (q : Int)) = true := by simp
              have hGO : Hid (∀ W6 : World, wr.grownBy W6 none → Calls Tryd.prog 9 #[.slice ab N cb, .agg #[.string ⟨#[97]⟩, .int .i64 1, .int .i64 0, .int .i64 0, .slice none 0 0, .int .i64 m, .int .i64 q], .agg #[.int .u8 5, .int .u8 (Nn : Int), .int .i64 0, .slice none 0 0]] W6 (GotRet W6 0 ((L.drop m).take q))) := fun W6 q6 => by
                have := got_short N cb m q w2.heap.size Nn ab L W6 HL.out (by omega) (HR.out.p.stays q6) (Nat.le_trans (Nat.le_trans HR.out.bF (Nat.le_of_lt HR.out.f.size)) q6.size) hmn HQ.out (by omega)
                rw [Nat.min_eq_right (by omega), List.take_take, Nat.min_self] at this
                exact this
              go_wp2_with fail
              obtain ⟨X, hX⟩ : ∃ X, (w5.alloc (.cells #[.string ⟨#[97]⟩, .int .i64 1, .int .i64 0, .int .i64 0, .slice none 0 0, .int .i64 m, .int .i64 q] 38)).heap.size = X := ⟨_, rfl⟩
              have hXe : w5.heap.size + 1 = X := by rw [← hX, alloc_size]
              obtain ⟨W6, hW6⟩ : ∃ W6, ((w5.alloc (.cells #[.string ⟨#[97]⟩, .int .i64 1, .int .i64 0, .int .i64 0, .slice none 0 0, .int .i64 m, .int .i64 q] 38)).alloc (.cells #[.int .u8 5, .int .u8 (Nn : Int), .int .i64 0, .slice none 0 0] 44)).drew = W6 := ⟨_, rfl⟩
              have q6 : wr.grownBy W6 none := by rw [← hW6]; exact grown_drew 1 (grown_alloc _ (grown_alloc _ g5))
              have bx : W6.heap[X]? = some (.cells #[.int .u8 5, .int .u8 (Nn : Int), .int .i64 0, .slice none 0 0] 44 (0, 0)) := by rw [← hW6, ← hX]; exact bk_alloc _ _
              have ba : W6.heap[w5.heap.size]? = some (.cells #[.string ⟨#[97]⟩, .int .i64 1, .int .i64 0, .int .i64 0, .slice none 0 0, .int .i64 m, .int .i64 q] 38 (0, 0)) := by rw [← hW6]; exact bk_kept (bk_alloc _ _) (grown_drew 1 (World.grownBy_alloc _ _ _))
              have Q6 := Lib.hid q6
              have BX := Lib.hid bx
              have BA := Lib.hid ba
              have HGO := Lib.hid (hGO.out W6 q6)
              rw [hXe, hW6]
              clear q6 bx ba hX hXe hW6 g5
              (with_reducible refine HGO.out.mono ?_)
              rintro ee w7 ⟨ag, cg, rfl, pg, g7⟩
              dsimp only
              have hgl : Hid (((L.drop m).take q).length = q) := by show _ = _; rw [List.length_take, List.length_drop]; have := HL.out; have := HQ.out; omega
              rw [hgl.out] at pg ⊢
              have bx7 := bk_kept BX.out g7
              have ba7 := bk_kept BA.out g7
              have x0 := (bk_cell bx7 0 _ rfl).1
              have a3 := (bk_cell ba7 6 _ rfl).1
              have lX : X < w7.heap.size := bk_size bx7
              have lA : w5.heap.size < w7.heap.size := bk_size ba7
              have nX : ¬ X = w7.heap.size := by omega
              have nA : ¬ w5.heap.size = w7.heap.size := by omega
              obtain ⟨W7, hW7⟩ : ∃ W7, w7.alloc (.cells #[.int .i64 0, .slice ag q cg] 42) = W7 := ⟨_, rfl⟩
              have q7 : wr.grownBy W7 none := by rw [← hW7]; exact grown_alloc _ (World.grownBy.trans Q6.out g7)
              have PG : Hid (Part W7 w7.heap.size (.slice ag q cg) ((L.drop m).take q)) := by show Part _ _ _ _; rw [← hW7]; exact pg.stays (World.grownBy_alloc _ _ _)
              have Q7 := Lib.hid q7
              have HW7 := Lib.hid hW7
              clear pg g7 q7 hW7 bx7 ba7
              go_wp2_with fail
              rw [HW7.out]
              have HTK := Lib.hid (took_good HR.out HL.out (by omega) HT.out h0.out HQ.out Q7.out hgl.out (Nat.le_refl _) (by rw [List.take_take, Nat.min_self]) PG.out I (by have := HR.out.i3; omega))
              (with_reducible refine HTK.out.mono ?_)
              rintro ee w8 ⟨rfl, c8, a8, dn8, r8⟩
              dsimp only
              have R8 := Lib.hid r8
              clear r8 HTK
              go_wp2
              go_roundw
              case rel => exact ⟨kk + 1, D, I, m + q, c8, 0, a8, dn8, by first | rfl | go_num, by go_num, by go_num, by first | rfl | go_num, R8.out⟩
              case measure =>
                have h1 := R8.out.mzq
                have h2 := HR.out.mzq
                rw [h1, h2]
                have := HQ.out
                have := R8.out.lm
                simp [intOf]; omega
        · obtain ⟨hkn, ⟨y, hy, hy3⟩, hI3⟩ := hfault
          have hyd : l.getD kk 0 = y := by rw [List.getD_eq_getElem?_getD, hy]; rfl
          obtain ⟨b1, o1, rfl, y1⟩ := HW.out kk y hy
          have hy256 := HLb.out y (List.mem_of_getElem? hy)
          have t1 : decide ((kk : Int) < (nf : Int)) = true := by simp; omega
          have t2 : decide (kk < nf) = true := by simp; omega
          have kkI : (kk : Int) < (nf : Int) := by omega
          have hy0 : (0 : Int) ≤ (y : Int) := by omega
          have hyI : (y : Int) < 256 := by omega
          have ym : (y : Int) % 3 = 2 := by rw [hyd] at h1; omega
          obtain ⟨Nn, hNn⟩ : ∃ Nn, y % 40 = Nn := ⟨_, rfl⟩
          have yn : (y : Int) % 40 = (Nn : Int) := by omega
          have hNn40 : Nn < 40 := by omega
          have i3 : decide ((I : Int) < 3) = true := by simp; omega
          have i4 : decide (I < 3) = true := by simp; omega
          clear hy hyd h1 hNn hy3
          go_wp2_with fail
          (with_reducible refine HAK.out.mono ?_)
          rintro ee w5 ⟨rfl, g5⟩
          dsimp only
          have z1 : w5.cell? ⟨b1, o1 + kk, none⟩ = some (.int .u8 (y : Int)) := (World.grownBy.trans HR.out.g g5).cell y1 (by simp)
          have lb1 : b1 < w5.heap.size := cell_lt z1
          have nb1 : ¬ b1 = w5.heap.size := by omega
          have nb2 : ¬ b1 = w5.heap.size + 1 := by omega
          go_wp2
          go_region
          all_goals
            go_wp2_with fail
            obtain ⟨X, hX⟩ : ∃ X, (w5.alloc (.cells #[.string ⟨#[97]⟩, .int .i64 1, .int .i64 0, .int .i64 0, .slice none 0 0, .int .i64 m, .int .i64 q] 38)).heap.size = X := ⟨_, rfl⟩
            have hXe : w5.heap.size + 1 = X := by rw [← hX, alloc_size]
            obtain ⟨W6, hW6⟩ : ∃ W6, ((w5.alloc (.cells #[.string ⟨#[97]⟩, .int .i64 1, .int .i64 0, .int .i64 0, .slice none 0 0, .int .i64 m, .int .i64 q] 38)).alloc (.cells #[.int .u8 6, .int .u8 (Nn : Int), .int .i64 0, .slice none 0 0] 44)).drew = W6 := ⟨_, rfl⟩
            have q6 : wr.grownBy W6 none := by rw [← hW6]; exact grown_drew 1 (grown_alloc _ (grown_alloc _ g5))
            have bx : W6.heap[X]? = some (.cells #[.int .u8 6, .int .u8 (Nn : Int), .int .i64 0, .slice none 0 0] 44 (0, 0)) := by rw [← hW6, ← hX]; exact bk_alloc _ _
            have ba : W6.heap[w5.heap.size]? = some (.cells #[.string ⟨#[97]⟩, .int .i64 1, .int .i64 0, .int .i64 0, .slice none 0 0, .int .i64 m, .int .i64 q] 38 (0, 0)) := by rw [← hW6]; exact bk_kept (bk_alloc _ _) (grown_drew 1 (World.grownBy_alloc _ _ _))
            have Q6 := Lib.hid q6
            have BX := Lib.hid bx
            have BA := Lib.hid ba
            have HGO := Lib.hid (got_lost N cb m q w2.heap.size (Nn : Int) ab L W6 HL.out (by omega) (HR.out.p.stays q6) (Nat.le_trans (Nat.le_trans HR.out.bF (Nat.le_of_lt HR.out.f.size)) q6.size) hmn HQ.out)
            rw [hXe, hW6]
            clear q6 bx ba hX hXe hW6 g5
            (with_reducible refine HGO.out.mono ?_)
            rintro ee w7 ⟨ag, cg, rfl, pg, g7⟩
            dsimp only
            have hgl : Hid (((L.drop m).take q).length = q) := by show _ = _; rw [List.length_take, List.length_drop]; have := HL.out; have := HQ.out; omega
            rw [hgl.out] at pg ⊢
            have bx7 := bk_kept BX.out g7
            have ba7 := bk_kept BA.out g7
            have x0 := (bk_cell bx7 0 _ rfl).1
            have a3 := (bk_cell ba7 6 _ rfl).1
            have lX : X < w7.heap.size := bk_size bx7
            have lA : w5.heap.size < w7.heap.size := bk_size ba7
            have nX : ¬ X = w7.heap.size := by omega
            have nA : ¬ w5.heap.size = w7.heap.size := by omega
            obtain ⟨W7, hW7⟩ : ∃ W7, w7.alloc (.cells #[.int .i64 1, .slice ag q cg] 42) = W7 := ⟨_, rfl⟩
            have q7 : wr.grownBy W7 none := by rw [← hW7]; exact grown_alloc _ (World.grownBy.trans Q6.out g7)
            have PG : Hid (Part W7 w7.heap.size (.slice ag q cg) ((L.drop m).take q)) := by show Part _ _ _ _; rw [← hW7]; exact pg.stays (World.grownBy_alloc _ _ _)
            have Q7 := Lib.hid q7
            have HW7 := Lib.hid hW7
            clear pg g7 q7 hW7 bx7 ba7
            go_wp2_with fail
            rw [HW7.out]
            have HTK := Lib.hid (took_lost (.slice ag q cg) HR.out HL.out (by omega) HQ.out Q7.out hI3 hkn)
            (with_reducible refine HTK.out.mono ?_)
            rintro ee w8 ⟨rfl, c8, a8, dn8, r8⟩
            dsimp only
            have R8 := Lib.hid r8
            clear r8 HTK
            go_wp2
            go_roundw
            case rel => exact ⟨kk + 1, D + 1, I + 1, m + 0, c8, fa + 1, a8, dn8, by first | rfl | go_num, by go_num, by go_num, by first | rfl | go_num, R8.out⟩
            case measure =>
              have h1 := R8.out.mzq
              have h2 := HR.out.mzq
              rw [h1, h2]
              have := HQ.out
              have := R8.out.lm
              simp [intOf]; omega
      · by_cases hkn : kk < nf
        · by_cases hb3 : l.getD kk 0 % 3 = 0
          · obtain ⟨y, hy⟩ : ∃ y, l[kk]? = some y := ⟨_, List.getElem?_eq_getElem (by rw [HN.out]; exact hkn)⟩
            have hyd : l.getD kk 0 = y := by rw [List.getD_eq_getElem?_getD, hy]; rfl
            obtain ⟨b1, o1, rfl, y1⟩ := HW.out kk y hy
            have hy256 := HLb.out y (List.mem_of_getElem? hy)
            have t1 : decide ((kk : Int) < (nf : Int)) = true := by simp; omega
            have t2 : decide (kk < nf) = true := by simp; omega
            have kkI : (kk : Int) < (nf : Int) := by omega
            have hy0 : (0 : Int) ≤ (y : Int) := by omega
            have hyI : (y : Int) < 256 := by omega
            rw [hyd] at hb3
            have y3 : (y : Int) % 3 = 0 := by omega
            clear hfault hy hyd hb3
            go_wp2_with fail
            (with_reducible refine HAK.out.mono ?_)
            rintro ee w5 ⟨rfl, g5⟩
            dsimp only
            have z1 : w5.cell? ⟨b1, o1 + kk, none⟩ = some (.int .u8 (y : Int)) := (World.grownBy.trans HR.out.g g5).cell y1 (by simp)
            have lb1 : b1 < w5.heap.size := cell_lt z1
            have nb1 : ¬ b1 = w5.heap.size := by omega
            have nb2 : ¬ b1 = w5.heap.size + 1 := by omega
            go_wp2_with fail
            obtain ⟨X, hX⟩ : ∃ X, (w5.alloc (.cells #[.string ⟨#[97]⟩, .int .i64 1, .int .i64 0, .int .i64 0, .slice none 0 0, .int .i64 m, .int .i64 q] 38)).heap.size = X := ⟨_, rfl⟩
            have hXe : w5.heap.size + 1 = X := by rw [← hX, alloc_size]
            obtain ⟨W6, hW6⟩ : ∃ W6, (w5.alloc (.cells #[.string ⟨#[97]⟩, .int .i64 1, .int .i64 0, .int .i64 0, .slice none 0 0, .int .i64 m, .int .i64 q] 38)).alloc (.cells #[.int .u8 0, .int .u8 0, .int .i64 0, .slice none 0 0] 44) = W6 := ⟨_, rfl⟩
            have q6 : wr.grownBy W6 none := by rw [← hW6]; exact grown_alloc _ (grown_alloc _ g5)
            have bx : W6.heap[X]? = some (.cells #[.int .u8 0, .int .u8 0, .int .i64 0, .slice none 0 0] 44 (0, 0)) := by rw [← hW6, ← hX]; exact bk_alloc _ _
            have ba : W6.heap[w5.heap.size]? = some (.cells #[.string ⟨#[97]⟩, .int .i64 1, .int .i64 0, .int .i64 0, .slice none 0 0, .int .i64 m, .int .i64 q] 38 (0, 0)) := by rw [← hW6]; exact bk_kept (bk_alloc _ _) (World.grownBy_alloc _ _ _)
            have Q6 := Lib.hid q6
            have BX := Lib.hid bx
            have BA := Lib.hid ba
            have HGO := Lib.hid (got_good N cb m q w2.heap.size ab L W6 HL.out (by omega) (HR.out.p.stays q6) (Nat.le_trans (Nat.le_trans HR.out.bF (Nat.le_of_lt HR.out.f.size)) q6.size) hmn HQ.out)
            rw [hXe, hW6]
            clear q6 bx ba hX hXe hW6 g5
            (with_reducible refine HGO.out.mono ?_)
            rintro ee w7 ⟨ag, cg, rfl, pg, g7⟩
            dsimp only
            have hgl : Hid (((L.drop m).take q).length = q) := by show _ = _; rw [List.length_take, List.length_drop]; have := HL.out; have := HQ.out; omega
            rw [hgl.out] at pg ⊢
            have bx7 := bk_kept BX.out g7
            have ba7 := bk_kept BA.out g7
            have x0 := (bk_cell bx7 0 _ rfl).1
            have a3 := (bk_cell ba7 6 _ rfl).1
            have lX : X < w7.heap.size := bk_size bx7
            have lA : w5.heap.size < w7.heap.size := bk_size ba7
            have nX : ¬ X = w7.heap.size := by omega
            have nA : ¬ w5.heap.size = w7.heap.size := by omega
            obtain ⟨W7, hW7⟩ : ∃ W7, w7.alloc (.cells #[.int .i64 0, .slice ag q cg] 42) = W7 := ⟨_, rfl⟩
            have q7 : wr.grownBy W7 none := by rw [← hW7]; exact grown_alloc _ (World.grownBy.trans Q6.out g7)
            have PG : Hid (Part W7 w7.heap.size (.slice ag q cg) ((L.drop m).take q)) := by show Part _ _ _ _; rw [← hW7]; exact pg.stays (World.grownBy_alloc _ _ _)
            have Q7 := Lib.hid q7
            have HW7 := Lib.hid hW7
            clear pg g7 q7 hW7 bx7 ba7
            go_wp2_with fail
            rw [HW7.out]
            have HTK := Lib.hid (took_good HR.out HL.out (by omega) HT.out h0.out HQ.out Q7.out hgl.out (Nat.le_refl _) (by rw [List.take_take, Nat.min_self]) PG.out 0 (by omega))
            (with_reducible refine HTK.out.mono ?_)
            rintro ee w8 ⟨rfl, c8, a8, dn8, r8⟩
            dsimp only
            have R8 := Lib.hid r8
            clear r8 HTK
            go_wp2
            go_roundw
            case rel => exact ⟨kk + 1, D, 0, m + q, c8, 0, a8, dn8, by first | rfl | go_num, by go_num, by go_num, by first | rfl | go_num, R8.out⟩
            case measure =>
              have h1 := R8.out.mzq
              have h2 := HR.out.mzq
              rw [h1, h2]
              have := HQ.out
              have := R8.out.lm
              simp [intOf]; omega
          · obtain ⟨y, hy⟩ : ∃ y, l[kk]? = some y := ⟨_, List.getElem?_eq_getElem (by rw [HN.out]; exact hkn)⟩
            have hyd : l.getD kk 0 = y := by rw [List.getD_eq_getElem?_getD, hy]; rfl
            obtain ⟨b1, o1, rfl, y1⟩ := HW.out kk y hy
            have hy256 := HLb.out y (List.mem_of_getElem? hy)
            have t1 : decide ((kk : Int) < (nf : Int)) = true := by simp; omega
            have t2 : decide (kk < nf) = true := by simp; omega
            have kkI : (kk : Int) < (nf : Int) := by omega
            have hy0 : (0 : Int) ≤ (y : Int) := by omega
            have hyI : (y : Int) < 256 := by omega
            rw [hyd] at hb3
            have hI3 : ¬ I < 3 := fun hi => hfault ⟨hkn, ⟨y, hy, by omega⟩, hi⟩
            have y3 : decide ((0 : Int) < (y : Int) % 3) = true := by simp; omega
            have y4 : decide (0 < y % 3) = true := by simp; omega
            have i3 : decide ((I : Int) < 3) = false := by simp; omega
            have i4 : decide (I < 3) = false := by simp; omega
            clear hfault hy hyd hb3 hI3
            go_wp2_with fail
            (with_reducible refine HAK.out.mono ?_)
            rintro ee w5 ⟨rfl, g5⟩
            dsimp only
            have z1 : w5.cell? ⟨b1, o1 + kk, none⟩ = some (.int .u8 (y : Int)) := (World.grownBy.trans HR.out.g g5).cell y1 (by simp)
            have lb1 : b1 < w5.heap.size := cell_lt z1
            have nb1 : ¬ b1 = w5.heap.size := by omega
            have nb2 : ¬ b1 = w5.heap.size + 1 := by omega
            go_wp2_with fail
            obtain ⟨X, hX⟩ : ∃ X, (w5.alloc (.cells #[.string ⟨#[97]⟩, .int .i64 1, .int .i64 0, .int .i64 0, .slice none 0 0, .int .i64 m, .int .i64 q] 38)).heap.size = X := ⟨_, rfl⟩
            have hXe : w5.heap.size + 1 = X := by rw [← hX, alloc_size]
            obtain ⟨W6, hW6⟩ : ∃ W6, (w5.alloc (.cells #[.string ⟨#[97]⟩, .int .i64 1, .int .i64 0, .int .i64 0, .slice none 0 0, .int .i64 m, .int .i64 q] 38)).alloc (.cells #[.int .u8 0, .int .u8 0, .int .i64 0, .slice none 0 0] 44) = W6 := ⟨_, rfl⟩
            have q6 : wr.grownBy W6 none := by rw [← hW6]; exact grown_alloc _ (grown_alloc _ g5)
            have bx : W6.heap[X]? = some (.cells #[.int .u8 0, .int .u8 0, .int .i64 0, .slice none 0 0] 44 (0, 0)) := by rw [← hW6, ← hX]; exact bk_alloc _ _
            have ba : W6.heap[w5.heap.size]? = some (.cells #[.string ⟨#[97]⟩, .int .i64 1, .int .i64 0, .int .i64 0, .slice none 0 0, .int .i64 m, .int .i64 q] 38 (0, 0)) := by rw [← hW6]; exact bk_kept (bk_alloc _ _) (World.grownBy_alloc _ _ _)
            have Q6 := Lib.hid q6
            have BX := Lib.hid bx
            have BA := Lib.hid ba
            have HGO := Lib.hid (got_good N cb m q w2.heap.size ab L W6 HL.out (by omega) (HR.out.p.stays q6) (Nat.le_trans (Nat.le_trans HR.out.bF (Nat.le_of_lt HR.out.f.size)) q6.size) hmn HQ.out)
            rw [hXe, hW6]
            clear q6 bx ba hX hXe hW6 g5
            (with_reducible refine HGO.out.mono ?_)
            rintro ee w7 ⟨ag, cg, rfl, pg, g7⟩
            dsimp only
            have hgl : Hid (((L.drop m).take q).length = q) := by show _ = _; rw [List.length_take, List.length_drop]; have := HL.out; have := HQ.out; omega
            rw [hgl.out] at pg ⊢
            have bx7 := bk_kept BX.out g7
            have ba7 := bk_kept BA.out g7
            have x0 := (bk_cell bx7 0 _ rfl).1
            have a3 := (bk_cell ba7 6 _ rfl).1
            have lX : X < w7.heap.size := bk_size bx7
            have lA : w5.heap.size < w7.heap.size := bk_size ba7
            have nX : ¬ X = w7.heap.size := by omega
            have nA : ¬ w5.heap.size = w7.heap.size := by omega
            obtain ⟨W7, hW7⟩ : ∃ W7, w7.alloc (.cells #[.int .i64 0, .slice ag q cg] 42) = W7 := ⟨_, rfl⟩
            have q7 : wr.grownBy W7 none := by rw [← hW7]; exact grown_alloc _ (World.grownBy.trans Q6.out g7)
            have PG : Hid (Part W7 w7.heap.size (.slice ag q cg) ((L.drop m).take q)) := by show Part _ _ _ _; rw [← hW7]; exact pg.stays (World.grownBy_alloc _ _ _)
            have Q7 := Lib.hid q7
            have HW7 := Lib.hid hW7
            clear pg g7 q7 hW7 bx7 ba7
            go_wp2_with fail
            rw [HW7.out]
            have HTK := Lib.hid (took_good HR.out HL.out (by omega) HT.out h0.out HQ.out Q7.out hgl.out (Nat.le_refl _) (by rw [List.take_take, Nat.min_self]) PG.out 0 (by omega))
            (with_reducible refine HTK.out.mono ?_)
            rintro ee w8 ⟨rfl, c8, a8, dn8, r8⟩
            dsimp only
            have R8 := Lib.hid r8
            clear r8 HTK
            go_wp2
            go_roundw
            case rel => exact ⟨kk + 1, D, 0, m + q, c8, 0, a8, dn8, by first | rfl | go_num, by go_num, by go_num, by first | rfl | go_num, R8.out⟩
            case measure =>
              have h1 := R8.out.mzq
              have h2 := HR.out.mzq
              rw [h1, h2]
              have := HQ.out
              have := R8.out.lm
              simp [intOf]; omega
        · have t1 : decide ((kk : Int) < (nf : Int)) = false := by simp; omega
          have t2 : decide (kk < nf) = false := by simp; omega
          clear hfault
          go_wp2_with fail
          (with_reducible refine HAK.out.mono ?_)
          rintro ee w5 ⟨rfl, g5⟩
          dsimp only
          go_wp2_with fail
          obtain ⟨X, hX⟩ : ∃ X, (w5.alloc (.cells #[.string ⟨#[97]⟩, .int .i64 1, .int .i64 0, .int .i64 0, .slice none 0 0, .int .i64 m, .int .i64 q] 38)).heap.size = X := ⟨_, rfl⟩
          have hXe : w5.heap.size + 1 = X := by rw [← hX, alloc_size]
          obtain ⟨W6, hW6⟩ : ∃ W6, (w5.alloc (.cells #[.string ⟨#[97]⟩, .int .i64 1, .int .i64 0, .int .i64 0, .slice none 0 0, .int .i64 m, .int .i64 q] 38)).alloc (.cells #[.int .u8 0, .int .u8 0, .int .i64 0, .slice none 0 0] 44) = W6 := ⟨_, rfl⟩
          have q6 : wr.grownBy W6 none := by rw [← hW6]; exact grown_alloc _ (grown_alloc _ g5)
          have bx : W6.heap[X]? = some (.cells #[.int .u8 0, .int .u8 0, .int .i64 0, .slice none 0 0] 44 (0, 0)) := by rw [← hW6, ← hX]; exact bk_alloc _ _
          have ba : W6.heap[w5.heap.size]? = some (.cells #[.string ⟨#[97]⟩, .int .i64 1, .int .i64 0, .int .i64 0, .slice none 0 0, .int .i64 m, .int .i64 q] 38 (0, 0)) := by rw [← hW6]; exact bk_kept (bk_alloc _ _) (World.grownBy_alloc _ _ _)
          have Q6 := Lib.hid q6
          have BX := Lib.hid bx
          have BA := Lib.hid ba
          have HGO := Lib.hid (got_good N cb m q w2.heap.size ab L W6 HL.out (by omega) (HR.out.p.stays q6) (Nat.le_trans (Nat.le_trans HR.out.bF (Nat.le_of_lt HR.out.f.size)) q6.size) hmn HQ.out)
          rw [hXe, hW6]
          clear q6 bx ba hX hXe hW6 g5
          (with_reducible refine HGO.out.mono ?_)
          rintro ee w7 ⟨ag, cg, rfl, pg, g7⟩
          dsimp only
          have hgl : Hid (((L.drop m).take q).length = q) := by show _ = _; rw [List.length_take, List.length_drop]; have := HL.out; have := HQ.out; omega
          rw [hgl.out] at pg ⊢
          have bx7 := bk_kept BX.out g7
          have ba7 := bk_kept BA.out g7
          have x0 := (bk_cell bx7 0 _ rfl).1
          have a3 := (bk_cell ba7 6 _ rfl).1
          have lX : X < w7.heap.size := bk_size bx7
          have lA : w5.heap.size < w7.heap.size := bk_size ba7
          have nX : ¬ X = w7.heap.size := by omega
          have nA : ¬ w5.heap.size = w7.heap.size := by omega
          obtain ⟨W7, hW7⟩ : ∃ W7, w7.alloc (.cells #[.int .i64 0, .slice ag q cg] 42) = W7 := ⟨_, rfl⟩
          have q7 : wr.grownBy W7 none := by rw [← hW7]; exact grown_alloc _ (World.grownBy.trans Q6.out g7)
          have PG : Hid (Part W7 w7.heap.size (.slice ag q cg) ((L.drop m).take q)) := by show Part _ _ _ _; rw [← hW7]; exact pg.stays (World.grownBy_alloc _ _ _)
          have Q7 := Lib.hid q7
          have HW7 := Lib.hid hW7
          clear pg g7 q7 hW7 bx7 ba7
          go_wp2_with fail
          rw [HW7.out]
          have HTK := Lib.hid (took_good HR.out HL.out (by omega) HT.out h0.out HQ.out Q7.out hgl.out (Nat.le_refl _) (by rw [List.take_take, Nat.min_self]) PG.out 0 (by omega))
          (with_reducible refine HTK.out.mono ?_)
          rintro ee w8 ⟨rfl, c8, a8, dn8, r8⟩
          dsimp only
          have R8 := Lib.hid r8
          clear r8 HTK
          go_wp2
          go_roundw
          case rel => exact ⟨kk + 1, D, 0, m + q, c8, 0, a8, dn8, by first | rfl | go_num, by go_num, by go_num, by first | rfl | go_num, R8.out⟩
          case measure =>
            have h1 := R8.out.mzq
            have h2 := HR.out.mzq
            rw [h1, h2]
            have := HQ.out
            have := R8.out.lm
            simp [intOf]; omega
end Go.Proofs.YtfpehdldgnfciaaDoor
