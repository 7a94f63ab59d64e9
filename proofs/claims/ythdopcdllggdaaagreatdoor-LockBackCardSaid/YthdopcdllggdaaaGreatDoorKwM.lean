/-
  LockBack, proved: for all lists of numbers and of sums, every place and every byte the law returns true: a lockfile's text is read back as the pins it was told of, and what a turned byte makes of it is read as the document says.
  CONDITIONS: the library's tables (math/bits.deBruijn32tab, deBruijn64tab, internal/strconv.uint64pow10, unicode/utf8.acceptRanges, first) start as the library's text lays them (the card ties them).
-/
import Derived.Test.YthdopcdllggdaaaGreatDoorKhM
import Derived.Test.YthdopcdllggdaaaGreatDoorKvM
namespace Go.Proofs.YthdopcdllggdaaaGreatDoor
open Go.ChangeShapes Go.WideShapes Go.ChangeAt Go.RowKit Go.Deep
theorem wf_u8 {n : Int} (h : (Lit.int .u8 n).wf = true) : 0 ≤ n ∧ n < 256 := by
  simp [Lit.wf, IntKind.min, IntKind.max, IntKind.bits, IntKind.signed] at h
  omega
theorem cells_arr : Tryz.prog.cellsOf 32 = 32 := by kernel_rfl
/-- The cells of a sum. -/
theorem open_sum {H : Type} {enc : TypeId × Value → H} {W : World} {fuel : Nat} {cs : List Value} {x : DataW H × List MemPlace} (h : DataW.trod enc Tryz.prog W 0 (fun _ => true) true fuel 32 cs = some x) : ∃ K : Array UInt8, K.size = 32 ∧ cs = keyC K := by
  obtain ⟨xs, m, _, _, hlen, hxl, hf⟩ := DataW.trod_array Tryz.underlying32 h
  rw [cells_arr] at hlen
  have key : ∀ i, ∃ c : UInt8, i < 32 → cs[i]? = some (Sha.encB c) := fun i => by
    by_cases hi : i < 32
    · have h1 := hf i hi
      rw [cells_u8, Nat.mul_one, List.getElem?_eq_getElem (by omega)] at h1
      obtain ⟨z, hz, _, hw⟩ := DataW.trod_int Tryz.underlying5 h1
      have h2 : cs[i]? = some (.int .u8 z) := by
        have := congrArg (·[0]?) hz
        simpa [List.getElem?_take, List.getElem?_drop] using this
      have hb : 0 ≤ z ∧ z ≤ 255 := by simpa [Lit.wf, IntKind.min, IntKind.max, IntKind.signed, IntKind.bits] using hw
      refine ⟨UInt8.ofNat z.toNat, fun _ => ?_⟩
      rw [h2]
      have e : ((UInt8.ofNat z.toNat).toNat : Int) = z := by
        rw [UInt8.toNat_ofNat']
        omega
      unfold Sha.encB
      rw [e]
    · exact ⟨0, fun h => absurd h hi⟩
  refine ⟨Array.ofFn fun i : Fin 32 => (key i.1).choose, by simp, ?_⟩
  apply List.ext_getElem?
  intro i
  unfold keyC
  by_cases hi : i < 32
  · rw [(key i).choose_spec hi]
    simp only [List.getElem?_map, Array.getElem?_toList, Array.getElem?_ofFn, hi, dif_pos]
    rfl
  · rw [List.getElem?_eq_none (by omega), List.getElem?_eq_none (by simp; omega)]
set_option maxRecDepth 100000 in
/-- An argument that is a slice of sums. -/
theorem open_sums {H : Type} {enc : TypeId × Value → H} {W : World} {v : Value} {d : DataW H} {p : List MemPlace} {bb : Nat} (hv : Value.okWide Tryz.prog W .any bb 23 v)
    (h : DataW.Trod enc Tryz.prog W 0 (fun _ => true) true 23 v d p) : ∃ (a : Option Addr) (n cap : Nat) (L : List (Array UInt8)), v = .slice a n cap ∧ L.length = n ∧ KeysAt W a L := by
  obtain ⟨a0, n0, c0, rfl⟩ := okWide_slice Tryz.underlying23 hv
  obtain ⟨fuel, hf⟩ := h
  rcases open_slice Tryz.underlying23 hf with ⟨hcs0, hx⟩ | ⟨a, len, cap, m, n, D, Pl, hcs0, _, hl, hm, hmm, hx, hall⟩
  · simp [Value.cells] at hcs0
    obtain ⟨rfl, rfl, rfl⟩ := hcs0
    exact ⟨none, 0, 0, [], rfl, rfl, fun j x hj => by simp at hj⟩
  · simp [Value.cells] at hcs0
    obtain ⟨rfl, rfl, rfl⟩ := hcs0
    have hmc : m = c0 := by simpa using hmm
    subst hmc
    have key : ∀ i, ∃ K : Array UInt8, i < n0 → K.size = 32 ∧ ∀ j u, (keyC K)[j]? = some u → W.cell? ((a.add (i * 32)).add j) = some u := fun i => by
      by_cases hi : i < n0
      · obtain ⟨cs', h1, h2⟩ := hall i (by omega)
        obtain ⟨K, hK, hq⟩ := open_sum h2
        rw [cells_arr] at h1
        obtain ⟨_, hlen, hcell⟩ := World.cells?_some h1
        refine ⟨K, fun _ => ⟨hK, fun j u hj => ?_⟩⟩
        rw [← hq] at hj
        have hjl := (List.getElem?_eq_some_iff.1 hj).1
        exact (hcell j (by omega)).trans hj
      · exact ⟨#[], fun h => absurd h hi⟩
    refine ⟨some a, n0, m, (List.range n0).map fun i => (key i).choose, rfl, by simp, fun k K hk => ?_⟩
    have hkn : k < n0 := by
      have := (List.getElem?_eq_some_iff.1 hk).1
      simpa using this
    have hp : (key k).choose = K := by simpa [hkn] using hk
    obtain ⟨hs32, hcell⟩ := (key k).choose_spec hkn
    rw [hp] at hcell hs32
    obtain ⟨K0, hK0⟩ := key 0
    obtain ⟨hs0, hc0⟩ := hK0 (by omega)
    have hl0 : (keyC K0).length = 32 := by unfold keyC; rw [List.length_map, Array.length_toList, hs0]
    have h00 := hc0 0 _ (List.getElem?_eq_getElem (by omega))
    obtain ⟨b, o, s⟩ := a
    have hs : s = none := by
      have e : ((Addr.add ⟨b, o, s⟩ (0 * 32)).add 0) = (Addr.add ⟨b, o, s⟩ 0) := by simp [Addr.add]
      rw [e] at h00
      exact spot_none h00
    subst hs
    refine ⟨hs32, b, o, rfl, fun j u hj => ?_⟩
    have := hcell j u hj
    rw [Addr.add_mid, Addr.add_mid] at this
    exact this
section
variable {H : Type} {enc : TypeId × Value → H} {P : Program} {w : World} {base : Nat} {spare : Nat → Bool} {held : Bool}
theorem trodAll_five {t t' t'' t3 t4 : TypeId} {args : Array Value} {ds : List (DataW H)} {ps : List MemPlace} (h : DataW.TrodAll enc P w base spare held [t, t', t'', t3, t4] args.toList ds ps) :
    ∃ v v' v'' v3 v4 d d' d'' d3 d4 p p' p'' p3 p4, args = #[v, v', v'', v3, v4] ∧ ds = [d, d', d'', d3, d4] ∧ ps = p ++ p' ++ p'' ++ p3 ++ p4 ∧ DataW.Trod enc P w base spare held t v d p ∧ DataW.Trod enc P w base spare held t' v' d' p' ∧ DataW.Trod enc P w base spare held t'' v'' d'' p'' ∧ DataW.Trod enc P w base spare held t3 v3 d3 p3 ∧ DataW.Trod enc P w base spare held t4 v4 d4 p4 := by
  obtain ⟨v, vs, d, ds', p, q, hargs, rfl, rfl, hd, hrest⟩ := trodAll_cons h
  obtain ⟨v', vs', d', ds'', p', q', rfl, rfl, rfl, hd', hrest'⟩ := trodAll_cons hrest
  obtain ⟨v'', vs'', d'', ds''', p'', q'', rfl, rfl, rfl, hd'', hrest''⟩ := trodAll_cons hrest'
  obtain ⟨v3, vs3, d3, ds3, p3, q3, rfl, rfl, rfl, hd3, hrest3⟩ := trodAll_cons hrest''
  obtain ⟨v4, vs4, d4, ds4, p4, q4, rfl, rfl, rfl, hd4, hrest4⟩ := trodAll_cons hrest3
  obtain ⟨rfl, rfl, rfl⟩ := trodAll_nil hrest4
  exact ⟨v, v', v'', v3, v4, d, d', d'', d3, d4, p, p', p'', p3, p4, by cases args; simp_all, rfl, by simp, hd, hd', hd'', hd3, hd4⟩
theorem trodAll_mk5 {t t' t'' t3 t4 : TypeId} {v v' v'' v3 v4 : Value} {d d' d'' d3 d4 : DataW H} {p p' p'' p3 p4 : List MemPlace} (h : DataW.Trod enc P w base spare held t v d p) (h' : DataW.Trod enc P w base spare held t' v' d' p')
    (h'' : DataW.Trod enc P w base spare held t'' v'' d'' p'') (h3 : DataW.Trod enc P w base spare held t3 v3 d3 p3) (h4 : DataW.Trod enc P w base spare held t4 v4 d4 p4) : DataW.TrodAll enc P w base spare held [t, t', t'', t3, t4] [v, v', v'', v3, v4] [d, d', d'', d3, d4] (p ++ (p' ++ (p'' ++ (p3 ++ p4)))) := ⟨p, p' ++ (p'' ++ (p3 ++ p4)), h, trodAll_mk4 h' h'' h3 h4, rfl⟩
end
set_option maxRecDepth 100000 in
/-- An argument that is a slice of bytes. -/
theorem open_bytesN {H : Type} {enc : TypeId × Value → H} {W : World} {v : Value} {d : DataW H} {p : List MemPlace} {bb : Nat} (hv : Value.okWide Tryz.prog W .any bb 22 v)
    (h : DataW.Trod enc Tryz.prog W 0 (fun _ => true) true 22 v d p) : ∃ (a : Option Addr) (n cap : Nat) (L : List Nat), v = .slice a n cap ∧ L.length = n ∧ (∀ x ∈ L, x < 256) ∧ BytesAt W a L := by
  obtain ⟨a0, n0, c0, rfl⟩ := okWide_slice Tryz.underlying22 hv
  obtain ⟨fuel, hf⟩ := h
  rcases open_ints Tryz.underlying22 Tryz.underlying5 cells_u8 hf with ⟨hcs0, hx⟩ | ⟨a, len, cap, zs, hcs0, _, hl, hm, hz, hx, hrows, hwf⟩
  · simp [Value.cells] at hcs0
    obtain ⟨rfl, rfl, rfl⟩ := hcs0
    exact ⟨none, 0, 0, [], rfl, rfl, (fun x hx => by simp at hx), fun j x hj => by simp at hj⟩
  · simp [Value.cells] at hcs0
    obtain ⟨rfl, rfl, rfl⟩ := hcs0
    have hzl : zs.length = c0 := by simpa using hz
    refine ⟨some a, n0, c0, (zs.take n0).map Int.toNat, rfl, by rw [List.length_map, List.length_take]; omega, fun x hx => ?_, fun j x hj => ?_⟩
    · obtain ⟨y, hy, rfl⟩ := List.mem_map.1 hx
      have := wf_u8 (hwf y (List.mem_of_mem_take hy))
      omega
    rw [List.getElem?_map] at hj
    obtain ⟨y, hy, rfl⟩ := Option.map_eq_some_iff.1 hj
    have hj2 : j < n0 := by have := (List.getElem?_eq_some_iff.1 hy).1; rw [List.length_take] at this; omega
    have h1 := hrows j (by omega)
    have h3 : zs.getD j 0 = y := by
      rw [List.getElem?_take_of_lt hj2] at hy
      rw [List.getD_eq_getElem?_getD, hy]; rfl
    rw [h3] at h1
    have h5 : ((y.toNat : Nat) : Int) = y := by
      have := wf_u8 (hwf y (List.mem_of_getElem? (by rw [List.getElem?_take_of_lt hj2] at hy; exact hy)))
      omega
    obtain ⟨b, o, s⟩ := a
    have hs : s = none := spot_none (hrows 0 (by omega))
    subst hs
    rw [Addr.add_mid] at h1
    rw [h5]
    exact ⟨b, o, rfl, h1⟩

set_option maxRecDepth 100000 in
theorem back_lifted (os : Os) (started : os.Started) (H : Type) (enc : TypeId × Value → H) :
    ReturnsInHanded {} Tryz.checked os 3 .any (fun w args => (Rows.lockBackSpec.pre enc Tryz.prog Tryz.f3 [] false w args ∧ laidMetH Tryz.prog laidList w) ∧ sizedMet enc Tryz.prog Tryz.f3 (OpenSpec.ofChange Rows.lockBackSpec) false w args)
      (Rows.lockBackSpec.post enc Tryz.prog Tryz.f3 false true false false) := by
  refine returns_all (C := Tryz.checked) (L := laidList) own started (by kernel_rfl) Tryz.func3
    (ChangeSpec.witness_shaped (enc := enc) (C := Tryz.checked) (os := os) (X := fun w _ => laidMetH Tryz.prog laidList w) false (World.laidAll Tryz.prog os laidList) #[.slice none 0 0, .slice none 0 0, .slice none 0 0, .int .i64 0, .int .u8 0] 8 (World.laidAll_os _ _ _)
      (World.shaped_of_ZipB (by kernel_rfl) (by kernel_rfl)) (by kernel_rfl) (by kernel_rfl) (by kernel_rfl)
      (by rw [MakeChecks.laidMetH_plain _ _ _ (by kernel_rfl)]; exact laidMet_laidAll _ (by kernel_rfl) (by kernel_rfl))) ?_
  intro W base args ds gs before hval0 hW hsh hL
  have hval : ∀ (j : Nat) t v, Tryz.f3.params[j]? = some t → args[j]? = some v → Value.okWide Tryz.prog W .any base t v := hval0
  have hW' := hW
  obtain ⟨p, q, hA0, hV, rfl, _, _⟩ := hW
  have hA : DataW.TrodAll enc Tryz.prog W 0 (fun _ => true) true Tryz.f3.params.toList args.toList ds p := hA0
  rw [Tryz.params3] at hA hval
  obtain ⟨v0, v1, v2, v3, v4, d0, d1, d2, d3, d4, p0, p1, p2, p3, p4, rfl, rfl, rfl, h0, h1, h2, h3, h4⟩ := trodAll_five hA
  obtain ⟨rfl, rfl⟩ := trodVars_none hV
  obtain ⟨m, hm⟩ := wok_of hsh hL
  have h0k := h0
  have h1k := h1
  have h2k := h2
  obtain ⟨a, n, cap, l, rfl, hn, hl, hP⟩ := open_bytesN (hval 0 22 v0 rfl rfl) h0
  obtain ⟨a2, n2, cap2, l2, rfl, hn2, hl2, hP2⟩ := open_bytesN (hval 1 22 v1 rfl rfl) h1
  obtain ⟨a3, n3, cap3, l3, rfl, hn3, hP3⟩ := open_sums (hval 2 23 v2 rfl rfl) h2
  obtain ⟨s3, rfl, rfl, rfl, ws3⟩ := Go.ChangeShapes.open_int Tryz.underlying3 (hval 3 3 v3 rfl rfl) h3
  obtain ⟨s4, rfl, rfl, rfl, ws4⟩ := Go.ChangeShapes.open_int Tryz.underlying5 (hval 4 5 v4 rfl rfl) h4
  have hlt0 : ∀ y ∈ p0, y.block < W.heap.size := fun y hy => hW'.lt y (by simp [hy])
  have hlt1 : ∀ y ∈ p1, y.block < W.heap.size := fun y hy => hW'.lt y (by simp [hy])
  have hlt2 : ∀ y ∈ p2, y.block < W.heap.size := fun y hy => hW'.lt y (by simp [hy])
  simp only [List.append_nil] at hW'
  obtain ⟨t, rfl⟩ := Int.eq_ofNat_of_zero_le (wf_u8 ws4).1
  have c1 := (wf_u8 ws4).2
  have c3 := wf_i64t ws3
  refine (back_law m n n2 n3 cap cap2 cap3 a a2 a3 l l2 l3 s3 t W hm hn hn2 hn3 (fun x hx => by have := hl x hx; omega) (fun x hx => by have := hl2 x hx; omega) c3 (by omega) hP hP2 hP3).mono fun e W' ⟨he, hg⟩ => ?_
  subst he
  have hb := below_of_grown hg
  exact ⟨_, rfl, _, _, _, [], _, [], hW', trodAll_mk1 (shut_bool Tryz.underlying4 _), trodAll_mk5 (Below.trod laidOut (by kernel_rfl) (of_decide_eq_true (by kernel_rfl)) h0k hb hlt0) (Below.trod laidOut (by kernel_rfl) (of_decide_eq_true (by kernel_rfl)) h1k hb hlt1) (Below.trod laidOut (by kernel_rfl) (of_decide_eq_true (by kernel_rfl)) h2k hb hlt2) (Go.ChangeShapes.shut_int Tryz.underlying3 ws3) (Go.ChangeShapes.shut_int Tryz.underlying5 ws4), rfl, hb.frame _, fun h => by cases h⟩
theorem back_holds : Rows.LockBackSaid :=
  OpenClaim.holds_of_wide 3 Tryz.f3 rfl rfl rfl rfl rfl rfl rfl ⟨rfl, rfl, rfl, rfl, rfl⟩ rfl rfl rfl rfl rfl (by kernel_rfl) Tryz.func3 (by kernel_rfl)
    (of_decide_eq_true (by kernel_rfl)) (by unfold Func.isWrapper; first | (rw [if_pos (by decide +kernel)]; kernel_rfl) | (rw [if_neg (by decide +kernel)]; exact ⟨rfl, rfl⟩))
    (fun os started H enc _ => back_lifted os started H enc)
theorem back_card : Rows.LockBackCardSaid :=
  Claim7.holds_tied_plain_at .later [] [.data, .data, .data, .data, .pinned] true (true, "62412960d399ae0f3657fc0a6222cfcf628cfdde417d245578b7d9cfaa61c785") true back_holds (fun _ h => by cases h) (by kernel_rfl) (fun _ h => by cases h) lockBack_row_tie rfl ⟨rfl, rfl⟩ (by kernel_rfl) rfl
    (fun f fn hf hfn => by
      obtain rfl : f = 3 := Option.some.inj ((show Tryz.prog.funcNamed "haversack/haversacklaw12.LockBack" = some 3 by kernel_rfl).symm.trans hf) |>.symm
      obtain rfl : fn = Tryz.f3 := (Option.some.inj (Tryz.func3.symm.trans hfn)).symm
      exact ⟨by kernel_rfl, fun j t ht => by
        rw [Tryz.params3] at ht
        have hm : t ∈ [22, 22, 23, 3, 5] := by simpa using Array.mem_of_getElem? ht
        have hall : ([22, 22, 23, 3, 5].all fun u => !Tryz.prog.wantsStandIn u) = true := by kernel_rfl
        exact (show Tryz.prog.wantsStandIn t = false by simpa using List.all_eq_true.1 hall t hm)⟩)
    (by kernel_rfl)
#print axioms back_card
end Go.Proofs.YthdopcdllggdaaaGreatDoor
