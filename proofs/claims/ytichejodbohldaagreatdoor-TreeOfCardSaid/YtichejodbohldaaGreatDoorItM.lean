/- The law TreeRemoves returns true. -/
import Derived.Test.YtichejodbohldaaGreatDoorIrM
namespace Go.Proofs.YtichejodbohldaaGreatDoor
open Go.RowKit Go.Maps
set_option maxRecDepth 1000000
/-- append of a file, in a region of one order. -/
theorem app_file {w : World} {ops : Array Oper} {rest : List Oper} {o : Oper} {a : Act} {Q : Exit → Act → World → Prop} (hgd : o.guard = none) (s x : Operand)
    (ho : o.op = .call { callee := .builtin .append, args := #[s, x], argTypes := #[28, 28] }) (base : Nat) (v : Value) (Y : As Gn) (y : ByteArray × Gn) (b : Nat) (hs : a.eval s = v) (hown : OwnsF w base v Y)
    (hx : a.eval x = .slice (some ⟨b, 0, none⟩) 1 1) (hp : ∀ j u, (fileC y)[j]? = some u → w.cell? ⟨b, j, none⟩ = some u) (hb : Y.length ≤ 1000000) (hbase : base ≤ w.heap.size)
    (h : ∀ v' w', OwnsF w' base v' (Y ++ [y]) → w.grownBy w' v.ownBlock → wpList Tryz.prog ops Q rest (a.put o.dst v') w') : wpList Tryz.prog ops Q (o :: rest) a w := by
  obtain ⟨i0, hi, hz0, hz1, hz2⟩ := info_parts infoF
  refine wpList_append_own w hgd s x 28 ho base 68 i0 _ 3 48 Tryz.underlying28 hi hz0 hz1 hz2 rfl (by decide) v Y.length (filesC Y) hs hown ⟨b, 0, none⟩ 1 1 (fileC y) hx rfl ?_ ?_ (by unfold maxLen; omega) (by omega) hbase ?_
  · intro j u hu
    rw [Addr.add_mid, Nat.zero_add]
    exact hp j u hu
  · exact fileC_one y
  · intro v' w' h7 h8 _
    refine h v' w' ?_ h8
    show World.ownsRow _ _ _ _ _ _ _
    rw [List.length_append, filesC, List.flatMap_append]
    simpa using h7
/-- Files in memory of the call's own, below top. -/
structure FR (w : World) (base top : Nat) (v : Value) (Y : As Gn) : Prop where
  own : OwnsF w base v Y
  form : ∀ e ∈ Y, ∃ a c, e.2.v = .slice a e.2.nd.b.length c
  bytes : ∀ e ∈ Y, Owns w base e.2.v e.2.nd.b
  low : (∀ k, v.ownBlock = some k → k < top) ∧ ∀ e ∈ Y, ∀ k, e.2.v.ownBlock = some k → k < top
theorem FR.of {w w' : World} {M : Tr} {e : Ending} (h : FilesRet w M e w') : ∃ v Y, e = .returned v ∧ FR w' w.heap.size w'.heap.size v Y ∧ nds Y = M ∧ w.grownBy w' none ∧ Y.length = M.length := by
  obtain ⟨a, c, Y, h1, h2, h3, h4, h5⟩ := h
  exact ⟨_, Y, h1, ⟨h2, fun e he => (h4 e he).1, fun e he => (h4 e he).2, fun k hk => (h2.block_lt k hk).2, fun e he k hk => ((h4 e he).2.block_lt k hk).2⟩, h3, h5, by rw [← h3, mapA_len]⟩
theorem FR.keeps {w w' : World} {base top : Nat} {v : Value} {Y : As Gn} {T : Nat → Prop} (h : FR w base top v Y) (hk : Kept w w' T) (hT : ∀ k, T k → k < base ∨ top ≤ k) : FR w' base top v Y :=
  ⟨h.own.keeps hk fun k e e2 => by have h1 := (h.own.block_lt k e).1; have h2 := h.low.1 k e; rcases hT k e2 with h | h <;> omega, h.form, fun f hf => (h.bytes f hf).keeps hk fun k e e2 => by
    have h1 := ((h.bytes f hf).block_lt k e).1; have h2 := h.low.2 f hf k e; rcases hT k e2 with h | h <;> omega, h.low⟩
theorem FR.stays {w w' : World} {base top : Nat} {v : Value} {Y : As Gn} (h : FR w base top v Y) (hg : w.grownBy w' none) : FR w' base top v Y := h.keeps (Kept.ofNone hg fun _ => False) fun _ e => e.elim
theorem FR.rf {w : World} {base top n c : Nat} {a : Option Addr} {Y : As Gn} (h : FR w base top (.slice a n c) Y) (hn : Y.length = n) (hw : 0 < w.heap.size) : RF w (.slice a n c) Y :=
  h.own.rf hn fun e he => ⟨h.form e he, _, (h.bytes e he).part hw⟩
theorem FR.open {w : World} {base top n : Nat} {v : Value} {Y : As Gn} (h : FR w base top v Y) (hn : Y.length = n) : ∃ a c, v = .slice a n c := by
  obtain ⟨a, c, e, _⟩ := h.own.form
  exact ⟨a, c, by rw [e, hn]⟩
/-- Where the k-th file lies. -/
theorem FR.at {w : World} {base top n c : Nat} {a : Option Addr} {Y : As Gn} (h : FR w base top (.slice a n c) Y) (hn : Y.length = n) (hw : 0 < w.heap.size) (k : Nat) (p : ByteArray) (g : Gn) (hk : Y[k]? = some (p, g)) :
    ∃ b x y, a = some ⟨b, 0, none⟩ ∧ g.v = .slice x g.nd.b.length y ∧ w.cell? ⟨b, k * 3, none⟩ = some (.string p) ∧ w.cell? ⟨b, k * 3 + 1, none⟩ = some (.bool g.nd.dir) ∧ w.cell? ⟨b, k * 3 + 2, none⟩ = some (.slice x g.nd.b.length y) := by
  have hkl := (List.getElem?_eq_some_iff.1 hk).1
  obtain ⟨b, cur, ha, _, _⟩ := h.own.at (by omega)
  subst ha
  obtain ⟨b2, o2, a2, c2, e1, e2, e3⟩ := h.rf hn hw
  have e4 := e2 (by omega)
  obtain ⟨rfl, _, _⟩ := Value.slice.inj e1
  obtain ⟨rfl, rfl⟩ : b = b2 ∧ 0 = o2 := by
    have := Option.some.inj e4
    injection this with e5 e6
    exact ⟨e5, e6⟩
  obtain ⟨q1, q2, q3, ⟨x, y, q4⟩, _⟩ := e3 k _ hk
  dsimp only at q1 q2 q3 q4
  rw [Nat.zero_add] at q1 q2 q3
  rw [q4] at q3
  exact ⟨b, x, y, rfl, q4, q1, q2, q3⟩
theorem OwnsF.grown {w w1 w2 : World} {v : Value} {L : As Gn} (h : OwnsF w1 w.heap.size v L) (h1 : w.grownBy w1 none) (h2 : w1.grownBy w2 v.ownBlock) : w.grownBy w2 none := by
  cases e : v.ownBlock with
  | none => rw [e] at h2; exact World.grownBy.trans h1 h2
  | some k => rw [e] at h2; exact grown_new h1 h2 (h.block_lt k e).1
theorem rem_ways (M : Tr) (p : ByteArray) : (¬ (remS M p).1 = 0 ∧ (remS M p).2 = M ∧ ((Pth.cleanS p).2 = 0 ∨ (¬ (Pth.cleanS p).2 = 0 ∧ (remS M p).1 = (Pth.cleanS p).2))) ∨
    ((remS M p).1 = 0 ∧ (Pth.cleanS p).2 = 0 ∧ (remS M p).2 = (M.filter fun e => !Pth.withinS e.1 (Pth.cleanS p).1) ∧ existsS (remS M p).2 p = false ∧ (Pth.cleanS p).1.size ≤ 200) := by
  unfold remS
  by_cases h1 : (Pth.cleanS p).2 = 0
  · rw [if_neg (by simp [h1])]
    by_cases h2 : (Pth.cleanS p).1 = E0
    · rw [if_pos h2]; exact .inl ⟨by simp, rfl, .inl h1⟩
    · rw [if_neg h2]
      by_cases h3 : hasT M (Pth.cleanS p).1 = false
      · rw [if_pos h3]; exact .inl ⟨by simp, rfl, .inl h1⟩
      · rw [if_neg h3]
        refine .inr ⟨rfl, h1, rfl, ?_, ?_⟩
        · unfold existsS hasT
          have hw : Pth.withinS (Pth.cleanS p).1 (Pth.cleanS p).1 = true := by simp [Pth.withinS]
          rw [getA_filter M (fun x => !Pth.withinS x (Pth.cleanS p).1), hw, decide_eq_false h2]
          simp
        · rcases clean_ways p with ⟨L, hc, hL⟩ | ⟨q, hc, hq, _⟩
          · rw [hc]; exact hL.size
          · rw [hc] at h1; exact absurd h1 hq
  · rw [if_pos h1]
    exact .inl ⟨h1, rfl, .inr ⟨h1, rfl⟩⟩
theorem size_filter (f : ByteArray × Nd → Bool) : ∀ M : Tr, sizeT (M.filter f) ≤ sizeT M
  | [] => Nat.le_refl _
  | e :: r => by
    have ih := size_filter f r
    unfold sizeT at ih ⊢
    rw [List.filter_cons]
    split
    · simp only [sumA] at ih ⊢; omega
    · simp only [sumA] at ih ⊢; omega
theorem inv_rem {M : Tr} (hI : Inv M) (p : ByteArray) : Inv (remS M p).2 := by
  rcases rem_ways M p with ⟨_, h, _⟩ | ⟨_, _, h, _⟩
  · rw [h]; exact hI
  · rw [h]
    obtain ⟨P, hP⟩ : ∃ P, (Pth.cleanS p).1 = P := ⟨_, rfl⟩
    rw [hP]
    have hget : ∀ x, getA (M.filter fun e => !Pth.withinS e.1 P) x = if (!Pth.withinS x P) = true then getA M x else none := getA_filter M fun x => !Pth.withinS x P
    refine ⟨hI.asc.filter _, Nat.le_trans (List.length_filter_le _ _) hI.len, Nat.le_trans (size_filter _ M) hI.size, fun e he => hI.key e (List.mem_filter.1 he).1, fun L i j hL hij hj hi hs => ?_⟩
    rw [hget] at hs
    split at hs
    · rename_i hw
      obtain ⟨n, hn, hd⟩ := hI.up L i j hL hij hj hi hs
      refine ⟨n, ?_, hd⟩
      rw [hget, if_pos ?_]
      · exact hn
      · cases hw2 : Pth.withinS (upL L i) P with
        | false => rfl
        | true => rw [within_up i j hi (by omega) hj hw2] at hw; cases hw
    · cases hs
def keepB (f : Bool) (q : ByteArray) (e : ByteArray × Gn) : Bool := f || !Pth.withinS e.1 q
theorem keep_nds (f : Bool) (q : ByteArray) (Y : As Gn) : nds (Y.filter (keepB f q)) = (nds Y).filter fun e => f || !Pth.withinS e.1 q := (filterA_map Gn.nd Y fun x => f || !Pth.withinS x q).symm
/-- What the law's second loop keeps. -/
abbrev LeftAt (w w' : World) (v : Value) (Z : As Gn) (n : Nat) : Prop := OwnsF w' w.heap.size v Z ∧ Z.length = n ∧ w.grownBy w' none
/-- What the law's first loop keeps. -/
def RemAt (cont : ByteArray → List UInt8) (B : Nat) (w : World) (t : Nat) (l : List Nat) : Prop := ∃ M S, St B w t M S ∧ Has cont M l
set_option maxHeartbeats 16000000 in
theorem removes_law (m : Int) (n cap : Nat) (a : Option Addr) (l : List Nat) (p : ByteArray) (w : World) (hm : w.cell? ⟨0, 0, none⟩ = some (.int .i64 m)) (hn : l.length = n) (hl : ∀ x ∈ l, x < 256) (hb : BytesN w a l) :
    Calls Tryz.prog 9 #[.slice a n cap, .string p] w fun e w' => e = .returned (.bool true) ∧ w.grownBy w' none := by
  have h0 : 0 < w.heap.size := World.block_lt_of_cell? _ _ hm
  have HM : Hid (∀ V, Since w.heap.size w V → V.cell? ⟨0, 0, none⟩ = some (.int .i64 m)) := Lib.hid fun V hV => hV.cell hm h0
  have HKN := Lib.hid (known_any m w hm)
  have H0 := Lib.hid h0
  have HN := Lib.hid hn
  have HL := Lib.hid hl
  have HB := Lib.hid hb
  clear hm h0 hn hl hb
  have hways : (15 < n ∨ (¬ 15 < n ∧ 100 < p.size)) ∨ (¬ 15 < n ∧ ¬ 100 < p.size) := by omega
  rcases hways with hbig | ⟨h15, h100⟩
  · have d1 : (decide (15 < (n : Int)) = true) ∨ (decide (15 < (n : Int)) = false ∧ decide (100 < (p.size : Int)) = true) := by
      rcases hbig with h | ⟨h, h'⟩
      · exact .inl (by simp; omega)
      · exact .inr ⟨by simp; omega, by simp; omega⟩
    rcases d1 with d1 | ⟨d1, d2⟩
    all_goals
      go_enter Tryz.func9, Tryz.ntmps9
      go_wp2_with fail
      (with_reducible refine HKN.out.mono ?_)
      rintro e w1 ⟨rfl, hg⟩
      have G1 := Lib.hid hg
      clear hg
      dsimp only
      go_wp2
      go_ret
      exact ⟨rfl, G1.out⟩
  · have d1 : decide (15 < (n : Int)) = false := by simp; omega
    have d2 : decide (100 < (p.size : Int)) = false := by simp; omega
    go_enter Tryz.func9, Tryz.ntmps9
    go_wp2_with fail
    (with_reducible refine HKN.out.mono ?_)
    rintro e w1 ⟨rfl, hg⟩
    have G1 := Lib.hid hg
    clear hg
    dsimp only
    go_wp2_with fail
    (with_reducible refine (new_any _).mono ?_)
    rintro e w2 ⟨t, rfl, _, ht2, hg2⟩
    have HS2 : Hid (Since w.heap.size w w2 ∧ RemAt (fun _ => [1]) w.heap.size w2 t []) := Lib.hid ⟨Since.of (World.grownBy.trans G1.out hg2), _, _, ⟨ht2, fun k hk => Nat.le_trans G1.out.size ((St.new ht2).from' k hk)⟩, Has.nil _⟩
    clear ht2 hg2 G1
    dsimp only
    go_wp2_with fail
    go_loopw [6] (fun i wr => ∃ k : Nat, k ≤ n ∧ i = .int .i64 (k : Int) ∧ Hid (Since w.heap.size w wr ∧ RemAt (fun _ => [1]) w.heap.size wr t (l.take k))) (fun i _ => n - (intOf i).toNat)
    case atStart => exact ⟨0, Nat.zero_le _, rfl, HS2⟩
    case round =>
      obtain ⟨k, hk, rfl, HS⟩ := hrel
      obtain ⟨M, S, hd, hha⟩ := HS.out.2
      by_cases hlt : k < n
      · obtain ⟨x, hx⟩ : ∃ x, l[k]? = some x := ⟨_, List.getElem?_eq_getElem (by rw [HN.out]; exact hlt)⟩
        obtain ⟨b, o, rfl, hcx⟩ := HB.out k x hx
        have hcx2 := HS.out.1.cell hcx (World.block_lt_of_cell? _ _ hcx)
        have hx2 : x < 256 := HL.out x (List.mem_of_getElem? hx)
        have HTX : Hid (l.take (k + 1) = l.take k ++ [x]) := Lib.hid (take_snocL _ _ _ hx)
        obtain ⟨M', hpa, hha'⟩ := hha.put (fun z hz => HL.out z (List.mem_of_mem_take hz)) (by rw [List.length_take]; omega) hx2 (by show 1 ≤ 100; omega)
        have HPA : Hid (putS M (nmS x) (fun _ => [1]) = (0, M')) := Lib.hid hpa
        have HIA := Lib.hid hha.inv
        have HA2 := Lib.hid hha'
        have HD := Lib.hid hd
        have HK := Lib.hid HS.out.1
        have HNX : Hid (∀ V, Calls Tryz.prog 41 #[.int .u8 (x : Int)] V fun e w' => e = .returned (.string (nmS x)) ∧ V.grownBy w' none) := Lib.hid (name_any x hx2)
        clear hd hha hha' hpa hx hcx
        go_wp2_with fail
        (with_reducible refine (HNX.out _).mono ?_)
        rintro e V ⟨rfl, hg⟩
        have HD4 := Lib.hid (HD.out.stays hg)
        have HK4 := Lib.hid (HK.out.go (Since.of hg))
        clear hg hcx2
        dsimp only
        go_wp2_with fail
        (with_reducible refine (write_any t M S (nmS x) m _ 1 1 [1] _ (HD4.out.stays (World.grownBy_alloc _ _ _)).tree HIA.out (HM.out _ (HK4.out.go (Since.of (World.grownBy_alloc _ _ _)))) (lie_new HD4.out.tree.lt 1 1 rfl) rfl (by omega)).mono ?_)
        rw [HPA.out]
        intro e w5 hp
        have HS5 := Lib.hid ((HD4.out.stays (World.grownBy_alloc _ _ _)).puts (HK4.out.go (Since.of (World.grownBy_alloc _ _ _))).size hp)
        have HK5 := Lib.hid ((HK4.out.go (Since.of (World.grownBy_alloc _ _ _))).go HS5.out.2)
        obtain rfl := hp.1
        clear hp
        dsimp only
        go_wp2_with fail
        refine ⟨⟨k + 1, by omega, congrArg (Value.int IntKind.i64) (by omega), Lib.hid ⟨HK5.out, _, _, HS5.out.1, by rw [HTX.out]; exact HA2.out⟩⟩, ?_⟩
        simp only [intOf]
        omega
      · have e : k = n := by omega
        subst e
        have e1 : l.take k = l := List.take_of_length_le (by rw [HN.out]; exact Nat.le_refl _)
        rw [e1] at hha
        have HD := Lib.hid hd
        have HK := Lib.hid HS.out.1
        have HI := Lib.hid hha.inv
        clear hd hha e1 HS HS2
        have hpos : Hid (0 < wr.heap.size) := Lib.hid (by have h1 := HK.out.size; have h3 := H0.out; omega)
        go_wp2_with fail
        (with_reducible refine (filesAt_any t _ _ _ HD.out.tree HI.out).mono ?_)
        intro e w5 hf
        obtain ⟨v5, Y, rfl, hr5, hy5, hg5, hl5⟩ := FR.of hf
        obtain ⟨ny, hny⟩ : ∃ ny, Y.length = ny := ⟨_, rfl⟩
        obtain ⟨ay, cy, rfl⟩ := hr5.open hny
        have HR5 := Lib.hid hr5
        have HY := Lib.hid hy5
        have HG5 := Lib.hid hg5
        have HNY := Lib.hid hny
        have hny2 : ny ≤ 500 := by have := HI.out.len; omega
        clear hf hr5 hy5 hg5 hl5 hny
        dsimp only
        go_wp2_with fail
        (with_reducible refine (Pth.refClean_any p _ (by have h1 := hpos.out; have h2 := HG5.out.size; omega)).mono ?_)
        rintro e w6 ⟨rfl, hg6⟩
        have HG6 := Lib.hid (World.grownBy.trans HG5.out hg6)
        have HR6 := Lib.hid (HR5.out.stays hg6)
        clear hg6
        dsimp only
        have HK6 := Lib.hid (HK.out.go (Since.of HG6.out))
        go_wp2_with fail
        (with_reducible refine (remove_any t M S p m _ (HD.out.stays HG6.out).tree HI.out (HM.out _ HK6.out)).mono ?_)
        intro e w7 hp
        have hk7 := (HD.out.stays HG6.out).puts HK6.out.size hp
        have HR7 := Lib.hid (HR6.out.keeps hp.2.2 fun k e => .inl (HD.out.tree.lt k e))
        have HI2' : Inv (remS M p).2 := inv_rem HI.out p
        have HKEY : Hid (∀ q g, (q, g) ∈ Y → q.size ≤ 200) := Lib.hid fun q g hq => by
          obtain ⟨⟨L', _, e1, hL', _⟩, _⟩ := HI.out.key (q, g.nd) (by rw [← HY.out]; exact List.mem_map.2 ⟨_, hq, rfl⟩)
          dsimp only at e1
          rw [e1]; exact hL'.size
        obtain rfl := hp.1
        have hrw := rem_ways M p
        have HD7 := Lib.hid hk7.1
        have HK7 := Lib.hid (HK6.out.go hk7.2)
        clear hp hk7
        obtain ⟨fz, hfz⟩ : ∃ fz, (remS M p).1 = fz := ⟨_, rfl⟩
        obtain ⟨M2, hM2⟩ : ∃ M2, (remS M p).2 = M2 := ⟨_, rfl⟩
        obtain ⟨P, hP⟩ : ∃ P, (Pth.cleanS p).1 = P := ⟨_, rfl⟩
        obtain ⟨q, hq⟩ : ∃ q, (Pth.cleanS p).2 = q := ⟨_, rfl⟩
        rw [hfz, hM2, hP, hq] at hrw
        rw [hM2] at HD7 HI2'
        have HI2 := Lib.hid HI2'
        have hpos7 : Hid (0 < w7.heap.size) := Lib.hid (by have h1 := HK7.out.size; have h3 := H0.out; omega)
        dsimp only
        try rw [hfz]
        try rw [hP]
        try rw [hq]
        clear HI2' hfz hM2 hP hq
        rcases hrw with ⟨hz, hm2, hq2⟩ | ⟨hz, hq2, hm2, hex, hps⟩
        · have z1 : (fz != 0) = true := by simp [hz]
          have z2 : (fz == 0) = false := by simp [hz]
          have HMM : Hid ((M.filter fun e => true || !Pth.withinS e.1 P) = M2) := Lib.hid (by rw [hm2]; exact List.filter_eq_self.2 fun e _ => rfl)
          have hqq : (q == 0) = true ∨ ((q == 0) = false ∧ (fz == q) = true) := by
            rcases hq2 with h | ⟨h, h'⟩
            · exact .inl (by simp [h])
            · exact .inr ⟨by simp [h], by simp [h']⟩
          clear hm2 hq2 hz
          rcases hqq with hqq | ⟨hqq, hfq⟩
          all_goals
            go_wp2_with fail
            go_loopw [11, 12] (fun v i wr => ∃ (k nl cl : Nat) (al : Option Addr), k ≤ ny ∧ i = .int .i64 (k : Int) ∧ v = .slice al nl cl ∧ nl ≤ k ∧ nl ≤ cl ∧ cl ≤ 9223372036854775807 ∧ Hid (LeftAt w7 wr (.slice al nl cl) ((Y.take k).filter (keepB true P)) nl)) (fun _ i _ => ny - (intOf i).toNat)
            case atStart => exact ⟨0, 0, 0, none, Nat.zero_le _, rfl, rfl, Nat.le_refl _, Nat.le_refl _, by omega, Lib.hid ⟨OwnsF.nil _ _, rfl, World.grownBy.refl _ _⟩⟩
            case round =>
              obtain ⟨k2, nl, cl, al, hk2, rfl, rfl, hnl, hnc, hcm, HS⟩ := hrel
              by_cases hlt2 : k2 < ny
              · obtain ⟨⟨pth, g⟩, hy⟩ : ∃ x, Y[k2]? = some x := ⟨Y[k2]'(by rw [HNY.out]; exact hlt2), List.getElem?_eq_getElem _⟩
                have hposx : 0 < wr.heap.size := by have h1 := hpos7.out; have h2 := HS.out.2.2.size; omega
                obtain ⟨b2, gx, gy, rfl, hgv, c1, c2, c3⟩ := (HR7.out.stays HS.out.2.2).at HNY.out hposx k2 pth g hy
                have hpl : pth.size ≤ 200 := HKEY.out pth g (List.mem_of_getElem? hy)
                obtain ⟨dg, hdg⟩ : ∃ dg, g.nd.dir = dg := ⟨_, rfl⟩
                obtain ⟨mg, hmg⟩ : ∃ mg, g.nd.b.length = mg := ⟨_, rfl⟩
                rw [hmg] at hgv c3
                rw [hdg] at c2
                have HFC : Hid (fileC (pth, g) = [.string pth, .bool dg, .slice gx mg gy]) := Lib.hid (by unfold fileC; rw [hdg, hgv]; rfl)
                have HTK : Hid (Y.take (k2 + 1) = Y.take k2 ++ [(pth, g)]) := Lib.hid (take_snocL _ _ _ hy)
                clear hy hgv hdg hmg hposx
                go_wp2_with (at_builtin; go_must (with_reducible refine app_file (o := ⟨some 72, _, _, _, _, _⟩) rfl _ _ rfl w7.heap.size (.slice al nl cl) ((Y.take k2).filter (keepB true P)) (pth, g) wr.heap.size ?_ (HS.out.1.stays (World.grownBy_alloc _ _ _)) ?_ ?_ ?_ ?_ ?_); go_must (exact rfl); go_must (exact rfl); go_must ((intro j u hj; rw [HFC.out] at hj; rw [alloc_cell, ← hj]; simp)); go_must ((have := HS.out.2.1; omega)); go_must ((have := HS.out.2.2.size; rw [alloc_size]; omega)); (intro v2 w9 ho9 hg9; obtain ⟨a9, c9, e9, hc9, hm9⟩ := ho9.form; rw [List.length_append, HS.out.2.1] at e9 hc9; subst e9; have HO9 := Lib.hid ho9; have HG9 := Lib.hid ((HS.out.1.stays (World.grownBy_alloc _ _ _)).grown (World.grownBy.trans HS.out.2.2 (World.grownBy_alloc _ _ _)) hg9); clear ho9 hg9))
                refine ⟨⟨k2 + 1, nl + 1, c9, a9, by omega, congrArg (Value.int IntKind.i64) (by omega), rfl, by omega, hc9, by unfold maxLen at hm9; omega, Lib.hid ⟨by
                  rw [HTK.out, List.filter_append, show [(pth, g)].filter (keepB true P) = [(pth, g)] by simp [keepB]]; exact HO9.out, by
                  rw [HTK.out, List.filter_append, show [(pth, g)].filter (keepB true P) = [(pth, g)] by simp [keepB], List.length_append, HS.out.2.1]; rfl, HG9.out⟩⟩, ?_⟩
                simp only [intOf]
                omega
              · have ek : k2 = ny := by omega
                subst ek
                have e1 : Y.take k2 = Y := List.take_of_length_le (by rw [HNY.out]; exact Nat.le_refl _)
                rw [e1] at HS
                clear e1
                have HM2 : Hid (nds (Y.filter (keepB true P)) = M2) := Lib.hid (by rw [keep_nds, HY.out]; exact HMM.out)
                have HI2 := HI2
                go_wp2_with fail
                (with_reducible refine (filesAt_any t _ _ _ (HD7.out.stays HS.out.2.2).tree HI2.out).mono ?_)
                intro e w9 hf
                obtain ⟨v9, Y9, rfl, hr9, hy9, hg9, hl9⟩ := FR.of hf
                obtain ⟨n9, hn9⟩ : ∃ n9, Y9.length = n9 := ⟨_, rfl⟩
                obtain ⟨a9, c9, rfl⟩ := hr9.open hn9
                have hpos9 : 0 < w9.heap.size := by have h1 := hpos7.out; have h2 := HS.out.2.2.size; have h3 := hg9.size; omega
                have G79 := World.grownBy.trans HS.out.2.2 hg9
                have HSF := Lib.hid (sameFiles_any _ _ Y9 (Y.filter (keepB true P)) w9 (hr9.rf hn9 hpos9) ((HS.out.1.stays hg9).rf HS.out.2.1 fun e he => ⟨HR7.out.form e (List.mem_filter.1 he).1, _, ((HR7.out.stays G79).bytes e (List.mem_filter.1 he).1).part hpos9⟩) (hy9.trans HM2.out.symm) (by have := HI2.out.len; omega))
                have HG9 := Lib.hid G79
                clear hf hr9 hy9 hg9 hl9 hn9 hpos9 G79
                dsimp only
                go_wp2_with fail
                (with_reducible refine HSF.out.mono ?_)
                rintro e w10 ⟨rfl, hg⟩
                have HG10 := Lib.hid (World.grownBy.trans HG9.out hg)
                clear hg
                dsimp only
                go_wp2
                go_ret
                exact ⟨rfl, World.grownBy.trans HK7.out.grown HG10.out⟩
        · subst hz
          subst hq2
          have HMM : Hid ((M.filter fun e => false || !Pth.withinS e.1 P) = M2) := Lib.hid (by rw [hm2]; rfl)
          have HEX := Lib.hid hex
          clear hm2 hex
          go_wp2_with fail
          go_loopw [11, 12] (fun v i wr => ∃ (k nl cl : Nat) (al : Option Addr), k ≤ ny ∧ i = .int .i64 (k : Int) ∧ v = .slice al nl cl ∧ nl ≤ k ∧ nl ≤ cl ∧ cl ≤ 9223372036854775807 ∧ Hid (LeftAt w7 wr (.slice al nl cl) ((Y.take k).filter (keepB false P)) nl)) (fun _ i _ => ny - (intOf i).toNat)
          case atStart => exact ⟨0, 0, 0, none, Nat.zero_le _, rfl, rfl, Nat.le_refl _, Nat.le_refl _, by omega, Lib.hid ⟨OwnsF.nil _ _, rfl, World.grownBy.refl _ _⟩⟩
          case round =>
            obtain ⟨k2, nl, cl, al, hk2, rfl, rfl, hnl, hnc, hcm, HS⟩ := hrel
            by_cases hlt2 : k2 < ny
            · obtain ⟨⟨pth, g⟩, hy⟩ : ∃ x, Y[k2]? = some x := ⟨Y[k2]'(by rw [HNY.out]; exact hlt2), List.getElem?_eq_getElem _⟩
              have hposx : 0 < wr.heap.size := by have h1 := hpos7.out; have h2 := HS.out.2.2.size; omega
              obtain ⟨b2, gx, gy, rfl, hgv, c1, c2, c3⟩ := (HR7.out.stays HS.out.2.2).at HNY.out hposx k2 pth g hy
              have hpl : pth.size ≤ 200 := HKEY.out pth g (List.mem_of_getElem? hy)
              obtain ⟨dg, hdg⟩ : ∃ dg, g.nd.dir = dg := ⟨_, rfl⟩
              obtain ⟨mg, hmg⟩ : ∃ mg, g.nd.b.length = mg := ⟨_, rfl⟩
              rw [hmg] at hgv c3
              rw [hdg] at c2
              have HFC : Hid (fileC (pth, g) = [.string pth, .bool dg, .slice gx mg gy]) := Lib.hid (by unfold fileC; rw [hdg, hgv]; rfl)
              have HTK : Hid (Y.take (k2 + 1) = Y.take k2 ++ [(pth, g)]) := Lib.hid (take_snocL _ _ _ hy)
              clear hy hgv hdg hmg hposx
              have HWI := Lib.hid (Pth.refwithin_any pth P (by omega) (by omega) wr)
              cases hwi : Pth.withinS pth P with
              | true =>
                rw [hwi] at HWI
                have HWT := Lib.hid hwi
                clear hwi
                go_wp2_with fail
                (with_reducible refine HWI.out.mono ?_)
                rintro e w8 ⟨rfl, rfl⟩
                dsimp only
                go_wp2_with fail
                refine ⟨⟨k2 + 1, nl, cl, al, by omega, congrArg (Value.int IntKind.i64) (by omega), rfl, by omega, hnc, hcm, Lib.hid (by
                  rw [HTK.out, List.filter_append, show [(pth, g)].filter (keepB false P) = [] by simp [keepB, HWT.out], List.append_nil]; exact HS.out)⟩, ?_⟩
                simp only [intOf]
                omega
              | false =>
                rw [hwi] at HWI
                have HWT := Lib.hid hwi
                clear hwi
                go_wp2_with fail
                (with_reducible refine HWI.out.mono ?_)
                rintro e w8 ⟨rfl, rfl⟩
                dsimp only
                go_wp2_with (at_builtin; go_must (with_reducible refine app_file (o := ⟨some 72, _, _, _, _, _⟩) rfl _ _ rfl w7.heap.size (.slice al nl cl) ((Y.take k2).filter (keepB false P)) (pth, g) w8.heap.size ?_ (HS.out.1.stays (World.grownBy_alloc _ _ _)) ?_ ?_ ?_ ?_ ?_); go_must (exact rfl); go_must (exact rfl); go_must ((intro j u hj; rw [HFC.out] at hj; rw [alloc_cell, ← hj]; simp)); go_must ((have := HS.out.2.1; omega)); go_must ((have := HS.out.2.2.size; rw [alloc_size]; omega)); (intro v2 w9 ho9 hg9; obtain ⟨a9, c9, e9, hc9, hm9⟩ := ho9.form; rw [List.length_append, HS.out.2.1] at e9 hc9; subst e9; have HO9 := Lib.hid ho9; have HG9 := Lib.hid ((HS.out.1.stays (World.grownBy_alloc _ _ _)).grown (World.grownBy.trans HS.out.2.2 (World.grownBy_alloc _ _ _)) hg9); clear ho9 hg9))
                refine ⟨⟨k2 + 1, nl + 1, c9, a9, by omega, congrArg (Value.int IntKind.i64) (by omega), rfl, by omega, hc9, by unfold maxLen at hm9; omega, Lib.hid ⟨by
                  rw [HTK.out, List.filter_append, show [(pth, g)].filter (keepB false P) = [(pth, g)] by simp [keepB, HWT.out]]; exact HO9.out, by
                  rw [HTK.out, List.filter_append, show [(pth, g)].filter (keepB false P) = [(pth, g)] by simp [keepB, HWT.out], List.length_append, HS.out.2.1]; rfl, HG9.out⟩⟩, ?_⟩
                simp only [intOf]
                omega
            · have ek : k2 = ny := by omega
              subst ek
              have e1 : Y.take k2 = Y := List.take_of_length_le (by rw [HNY.out]; exact Nat.le_refl _)
              rw [e1] at HS
              clear e1
              have HM2 : Hid (nds (Y.filter (keepB false P)) = M2) := Lib.hid (by rw [keep_nds, HY.out]; exact HMM.out)
              have HI2 := HI2
              go_wp2_with fail
              (with_reducible refine (filesAt_any t _ _ _ (HD7.out.stays HS.out.2.2).tree HI2.out).mono ?_)
              intro e w9 hf
              obtain ⟨v9, Y9, rfl, hr9, hy9, hg9, hl9⟩ := FR.of hf
              obtain ⟨n9, hn9⟩ : ∃ n9, Y9.length = n9 := ⟨_, rfl⟩
              obtain ⟨a9, c9, rfl⟩ := hr9.open hn9
              have hpos9 : 0 < w9.heap.size := by have h1 := hpos7.out; have h2 := HS.out.2.2.size; have h3 := hg9.size; omega
              have G79 := World.grownBy.trans HS.out.2.2 hg9
              have HSF := Lib.hid (sameFiles_any _ _ Y9 (Y.filter (keepB false P)) w9 (hr9.rf hn9 hpos9) ((HS.out.1.stays hg9).rf HS.out.2.1 fun e he => ⟨HR7.out.form e (List.mem_filter.1 he).1, _, ((HR7.out.stays G79).bytes e (List.mem_filter.1 he).1).part hpos9⟩) (hy9.trans HM2.out.symm) (by have := HI2.out.len; omega))
              have HG9 := Lib.hid G79
              clear hf hr9 hy9 hg9 hl9 hn9 hpos9 G79
              dsimp only
              go_wp2_with fail
              (with_reducible refine HSF.out.mono ?_)
              rintro e w10 ⟨rfl, hg⟩
              have HG10 := Lib.hid (World.grownBy.trans HG9.out hg)
              clear hg
              dsimp only
              go_wp2_with fail
              (with_reducible refine (exists_any t M2 _ p m _ (HD7.out.stays HG10.out).tree (HM.out _ (HK7.out.go (Since.of HG10.out)))).mono ?_)
              rw [HEX.out]
              rintro e w11 ⟨rfl, hg⟩
              dsimp only
              have HG11 := Lib.hid (World.grownBy.trans HG10.out hg)
              clear hg
              go_wp2
              go_ret
              exact ⟨rfl, World.grownBy.trans HK7.out.grown HG11.out⟩
end Go.Proofs.YtichejodbohldaaGreatDoor
