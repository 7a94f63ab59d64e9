/- Texts of one ground, in one file: Gn Gp Gq Na. -/
import Derived.Test.YtichejodbohldaaGreatDoorP10
import Derived.Deep.RegionHeld3
import Derived.Maps.RangeWalk
import Derived.Sort.KeysCollected
import Derived.Test.YtichejodbohldaaGreatDoorP2
import Derived.RegionTactic
import Derived.Deep.QuietTactic
import Derived.BigQuiet
import Derived.Lib.MinMax
import Derived.Laws.Cover1
namespace Go.Proofs.YtichejodbohldaaGreatDoor
open Go.RowKit Go.Maps
set_option maxRecDepth 1000000
/-- A slice, whatever. -/
def fixV : Value → Value
  | .slice a m c => .slice a m c
  | _ => .slice none 0 0
theorem fixV_one (v : Value) : (fixV v).oneCell' = true := by cases v <;> rfl
/-- A file, as it lies. -/
def fileC (e : ByteArray × Gn) : List Value := [.string e.1, .bool e.2.nd.dir, fixV e.2.v]
theorem fileC_one (e : ByteArray × Gn) : ∀ v ∈ fileC e, v.oneCell' = true := by
  intro u hu
  simp only [fileC, List.mem_cons, List.not_mem_nil, or_false] at hu
  rcases hu with rfl | rfl | rfl
  · rfl
  · rfl
  · exact fixV_one _
abbrev filesC (Y : As Gn) : List Value := Y.flatMap fileC
/-- v is a row of files that the call owns. -/
def OwnsF (w : World) (base : Nat) (v : Value) (Y : As Gn) : Prop := w.ownsRow base 68 3 v Y.length (filesC Y)
theorem OwnsF.nil (w : World) (base : Nat) : OwnsF w base (.slice none 0 0) [] := World.ownsRow_nil w base 68 3
theorem OwnsF.form {w : World} {base : Nat} {v : Value} {L : As Gn} (h : OwnsF w base v L) : ∃ a cap, v = .slice a L.length cap ∧ L.length ≤ cap ∧ cap ≤ maxLen := by
  rcases h.2 with ⟨h1, h2⟩ | ⟨g, cap, cur, h1, h2, h3, h4, h5, _⟩
  · exact ⟨none, 0, by rw [h1, h2], by omega, by unfold maxLen; omega⟩
  · exact ⟨_, cap, h1, h4, h5⟩
theorem OwnsF.block_lt {w : World} {base : Nat} {v : Value} {L : As Gn} (h : OwnsF w base v L) (k : Nat) (e : v.ownBlock = some k) : base ≤ k ∧ k < w.heap.size := World.ownsRow.lt h k e
theorem OwnsF.keeps {w w' : World} {S : Nat → Prop} {base : Nat} {v : Value} {L : As Gn} (h : OwnsF w base v L) (hk : Kept w w' S) (hn : ∀ k, v.ownBlock = some k → ¬ S k) : OwnsF w' base v L := by
  obtain ⟨h0, h1⟩ := h
  refine ⟨h0, ?_⟩
  rcases h1 with h1 | ⟨g, cap, cur, h1, h2, h3, h4⟩
  · exact .inl h1
  · exact .inr ⟨g, cap, cur, h1, h2, hk.bk h3 (hn g (by rw [h1]; rfl)), h4⟩
theorem OwnsF.stays {w w1 : World} {base : Nat} {v : Value} {L : As Gn} (h : OwnsF w base v L) (hg : w.grownBy w1 none) : OwnsF w1 base v L := h.keeps (Kept.ofNone hg fun _ => False) fun _ _ e => e
theorem infoF : (Tryz.prog.info? 68).map (fun i => (i.zero, i.size, i.bytes)) = some (some (.agg #[.string ByteArray.empty, .bool false, .slice none 0 0]), 3, 48) := by kernel_rfl
theorem fileC_len (e : ByteArray × Gn) : (fileC e).length = 3 := rfl
theorem filesC_len (Y : As Gn) : (filesC Y).length = Y.length * 3 := by
  induction Y with
  | nil => rfl
  | cons e r ih => rw [filesC, List.flatMap_cons, List.length_append, ih]; simp [fileC]; omega
/-- append of one file, as one step of a region that draws its order. -/
theorem step_file {w : World} {ops : Array Oper} {o : Oper} {a : Act} {K : Act → World → Prop} {Q : Exit → Act → World → Prop} {E : Prop} (hgd : o.guard = none) (s x : Operand)
    (ho : o.op = .call { callee := .builtin .append, args := #[s, x], argTypes := #[28, 28] }) (base : Nat) (v : Value) (Y : As Gn) (y : ByteArray × Gn) (b : Nat) (hs : a.eval s = v) (hown : OwnsF w base v Y)
    (hx : a.eval x = .slice (some ⟨b, 0, none⟩) 1 1) (hp : ∀ j u, (fileC y)[j]? = some u → w.cell? ⟨b, j, none⟩ = some u) (hb : Y.length ≤ 1000000) (hbase : base ≤ w.heap.size)
    (h : ∀ v' w', OwnsF w' base v' (Y ++ [y]) → w.grownBy w' v.ownBlock → K (a.put o.dst v') w') : if Region.wanted o (yielded ops a.tmps) = true then Oper.wp Tryz.prog o a w K Q else E := by
  rw [if_pos (by simp [Region.wanted, hgd])]
  obtain ⟨i0, hi, hz0, hz1, hz2⟩ := info_parts infoF
  refine wp_append_own w s x 28 ho base 68 i0 _ 3 48 Tryz.underlying28 hi hz0 hz1 hz2 rfl (by decide) v Y.length (filesC Y) hs hown ⟨b, 0, none⟩ 1 1 (fileC y) hx rfl ?_ ?_ (by unfold maxLen; omega) (by omega) hbase ?_
  · intro j u hu
    rw [Addr.add_mid, Nat.zero_add]
    exact hp j u hu
  · exact fileC_one y
  · intro v' w' h7 h8 _
    refine h v' w' ?_ h8
    show World.ownsRow _ _ _ _ _ _ _
    rw [List.length_append, filesC, List.flatMap_append]
    simpa using h7
end Go.Proofs.YtichejodbohldaaGreatDoor
namespace Go.Proofs.YtichejodbohldaaGreatDoor
open Go.RowKit Go.Maps Go.Sort Go.Lib
instance : Inhabited Gn := ⟨⟨⟨false, []⟩, .slice none 0 0⟩⟩
set_option maxRecDepth 1000000
def lessB (x y : ByteArray) : Bool := Op.bytesLess x.toList y.toList
/-- Texts in order of their bytes. -/
def cmpB (x y : ByteArray) : Int := if lessB x y = true then -1 else if x = y then 0 else 1
theorem less_self (l : List UInt8) : Op.bytesLess l l = false := by
  induction l with
  | nil => rfl
  | cons a l ih => simp [Op.bytesLess, ih]
/-- The three ways. -/
theorem cmpB_ways (x y : ByteArray) : (Op.bytesLess x.toList y.toList = true ∧ cmpB x y = -1) ∨ (x = y ∧ cmpB x y = 0) ∨ (Op.bytesLess x.toList y.toList = false ∧ (x.toList == y.toList) = false ∧ ¬ x.toList = y.toList ∧ cmpB x y = 1) := by
  unfold cmpB lessB
  cases h : Op.bytesLess x.toList y.toList with
  | true => exact .inl ⟨rfl, rfl⟩
  | false =>
    by_cases he : x = y
    · exact .inr (.inl ⟨he, by rw [if_neg (by simp), if_pos he]⟩)
    · exact .inr (.inr ⟨rfl, nb_lists x y he, ne_lists x y he, by rw [if_neg (by simp), if_neg he]⟩)
set_option maxRecDepth 1000000
theorem isNaN_any (s : ByteArray) (w : World) : Calls Tryz.prog 80 #[.string s] w fun e w' => e = .returned (.bool false) ∧ w' = w := by
  go_enter Tryz.func80, Tryz.ntmps80
  go_wp2
  go_ret
  exact ⟨rfl, rfl⟩
set_option maxHeartbeats 1000000 in
theorem cmpS_any (x y : ByteArray) (w : World) : Calls Tryz.prog 68 #[.string x, .string y] w fun e w' => e = .returned (.int .i64 (cmpB x y)) ∧ w' = w := by
  rcases cmpB_ways x y with ⟨h1, h2⟩ | ⟨rfl, h2⟩ | ⟨h1, h3, h4, h2⟩
  · rw [h2]
    clear h2
    go_enter Tryz.func68, Tryz.ntmps68
    go_wp2_with ((with_reducible refine (isNaN_any _ _).mono ?_); rintro ee w1 ⟨rfl, rfl⟩; dsimp only)
    go_ret
    exact ⟨rfl, rfl⟩
  · rw [h2]
    clear h2
    have h1 := less_self x.toList
    go_enter Tryz.func68, Tryz.ntmps68
    go_wp2_with ((with_reducible refine (isNaN_any _ _).mono ?_); rintro ee w1 ⟨rfl, rfl⟩; dsimp only)
    go_ret
    exact ⟨rfl, rfl⟩
  · rw [h2]
    clear h2
    go_enter Tryz.func68, Tryz.ntmps68
    go_wp2_with ((with_reducible refine (isNaN_any _ _).mono ?_); rintro ee w1 ⟨rfl, rfl⟩; dsimp only)
    go_ret
    exact ⟨rfl, rfl⟩
set_option maxHeartbeats 2000000 in
/-- Two files held against one another by path: two blocks are laid. -/
theorem byPath_any (p q : ByteArray × Gn) (W : World) : Calls Tryz.prog 67 #[.agg (fileC p).toArray, .agg (fileC q).toArray] W fun e w' => e = .returned (.int .i64 (cmpB p.1 q.1)) ∧ ∃ n os, w' = Sort.grow (W.drewN n) os := by
  have hp : (fileC p).toArray[0]? = some (.string p.1) := rfl
  have hq : (fileC q).toArray[0]? = some (.string q.1) := rfl
  obtain ⟨x, hx⟩ : ∃ x, p.1 = x := ⟨_, rfl⟩
  obtain ⟨y, hy⟩ : ∃ y, q.1 = y := ⟨_, rfl⟩
  obtain ⟨C, hC⟩ : ∃ C, (fileC p).toArray = C := ⟨_, rfl⟩
  obtain ⟨D, hD⟩ : ∃ D, (fileC q).toArray = D := ⟨_, rfl⟩
  rw [hx, hC] at hp
  rw [hy, hD] at hq
  rw [hx, hy, hC, hD]
  clear hx hy hC hD
  have c1 : ((W.alloc (.cells C 68)).alloc (.cells D 68)).cell? ⟨W.heap.size, 0, none⟩ = some (.string x) := by
    rw [← hp]
    exact (World.cell?_of_block ((World.grownBy_alloc _ _ none).block _ (by rw [alloc_size]; exact Nat.lt_succ_self _) (by simp))).trans (alloc_cell _ _ _ _)
  have c2 : ((W.alloc (.cells C 68)).alloc (.cells D 68)).cell? ⟨W.heap.size + 1, 0, none⟩ = some (.string y) := by
    rw [← hq, ← alloc_size W (.cells C 68)]; exact alloc_cell _ _ _ _
  have HC := Lib.hid (cmpS_any x y)
  clear hp hq
  go_enter Tryz.func67, Tryz.ntmps67
  go_wp2_with ((with_reducible refine (HC.out _).mono ?_); rintro ee w1 ⟨rfl, rfl⟩; dsimp only)
  go_ret
  exact ⟨rfl, 0, _, by rw [Sort.alloc_eq_grow, Sort.alloc_eq_grow, Sort.grow_grow]; rfl⟩
theorem cmpLays_path (blk off size : Nat) (w : World) : Go.Proofs.CmpLays Tryz.prog 67 #[] fileC 3 (fun x y => cmpB x.1 y.1) blk off size w :=
  fun _ _ _ _ x y => byPath_any x y _
theorem arr_get {α : Type} [Inhabited α] (d : Array α) (k : Nat) (h : k < d.size) : d.toList[k]? = some d[k]! := by
  rw [Array.getElem?_toList, Array.getElem?_eq_getElem h, getElem!_pos d k h]
theorem filesC_at (L : List (ByteArray × Gn)) (k j : Nat) (x : ByteArray × Gn) (hk : L[k]? = some x) (hj : j < 3) : (filesC L)[k * 3 + j]? = (fileC x)[j]? := by
  induction L generalizing k with
  | nil => simp at hk
  | cons e r ih =>
    rw [filesC, List.flatMap_cons]
    cases k with
    | zero =>
      simp at hk
      subst hk
      rw [List.getElem?_append_left (by rw [fileC_len]; omega)]
      simp
    | succ k =>
      rw [List.getElem?_append_right (by rw [fileC_len]; omega), fileC_len, show (k + 1) * 3 + j - 3 = k * 3 + j by omega]
      exact ih k (by simpa using hk)
/-- What a row holds, as the library's sort asks it. -/
theorem flat_rows (d : Array (ByteArray × Gn)) : (flatK fileC 3 d).toList = filesC d.toList := by
  apply List.ext_getElem?
  intro t
  by_cases h : t < d.size * 3
  · have hk : t / 3 < d.size := by omega
    have h1 := get_flatK fileC 3 d t h
    have h2 := filesC_at d.toList (t / 3) (t % 3) d[t / 3]! (arr_get d _ hk) (Nat.mod_lt _ (by omega))
    rw [show t / 3 * 3 + t % 3 = t by omega] at h2
    rw [h2]
    have hs : t < (flatK fileC 3 d).size := by rw [size_flatK]; exact h
    rw [getElem!_pos (flatK fileC 3 d) t hs] at h1
    rw [Array.getElem?_toList, Array.getElem?_eq_getElem hs, h1]
    have h3 : t % 3 < (fileC d[t / 3]!).length := by rw [fileC_len]; exact Nat.mod_lt _ (by omega)
    rw [getElem!_pos (fileC d[t / 3]!) (t % 3) h3, List.getElem?_eq_getElem h3]
  · rw [List.getElem?_eq_none (l := (flatK fileC 3 d).toList) (by rw [Array.length_toList, size_flatK]; omega), List.getElem?_eq_none (l := filesC d.toList) (by rw [filesC_len, Array.length_toList]; omega)]
theorem holds_of {w : World} {base g n cap : Nat} {L : List (ByteArray × Gn)} (h : OwnsF w base (.slice (some ⟨g, 0, none⟩) n cap) L) : HoldsK fileC 3 w g 0 L.toArray := by
  intro t ht
  rw [size_flatK] at ht
  have ht2 : t < (filesC L).length := by rw [filesC_len]; simpa using ht
  have hs : t < (flatK fileC 3 L.toArray).size := by rw [size_flatK]; exact ht
  have e : (flatK fileC 3 L.toArray)[t]! = (filesC L)[t] := by
    have h1 := flat_rows L.toArray
    rw [getElem!_pos _ t hs, ← Array.getElem_toList]
    simp only [h1]
  rw [Nat.zero_add]
  show w.cell? _ = some ((flatK fileC 3 L.toArray)[t]!) ∧ _
  rw [e]
  rcases h.2 with ⟨h1, h2⟩ | ⟨g', cap', cur, h1, h2, h3, h4, h5, h6, h7⟩
  · cases h1
  · obtain rfl : g = g' := by have := (Value.slice.inj h1).1; simpa using this
    refine ⟨?_, by simp [World.frozen?, h3]⟩
    rw [cell_in h3]
    have e2 : (filesC L)[t]? = some (filesC L)[t] := List.getElem?_eq_getElem ht2
    rw [← e2, ← h7, List.getElem?_take, if_pos (by rw [filesC_len] at ht2; exact ht2)]
    simp
/-- .. and what is left behind the sort. -/
theorem owns_sorted {w : World} {base g n cap q : Nat} {L M : List (ByteArray × Gn)} {os : Array Obj} (h : OwnsF w base (.slice (some ⟨g, 0, none⟩) n cap) L) (hn : L.length = n) (hM : M.length = n) : OwnsF (sortWorldK fileC 3 w g 0 q M.toArray os) base (.slice (some ⟨g, 0, none⟩) n cap) M ∧ w.grownBy (sortWorldK fileC 3 w g 0 q M.toArray os) (some g) := by
  rcases h.2 with ⟨h1, h2⟩ | ⟨g', cap', cur, h1, h2, h3, h4, h5, h6, h7⟩
  · cases h1
  · obtain rfl : g = g' := by have := (Value.slice.inj h1).1; simpa using this
    have hlt := (Array.getElem?_eq_some_iff.1 h3).1
    have hb : (sortWorldK fileC 3 w g 0 q M.toArray os).heap[g]? = some (.cells (putCells id 0 (flatK fileC 3 M.toArray) cur) 68 (0, 0)) := by
      show ((w.heap.modify g (onCells (putCells id 0 (flatK fileC 3 M.toArray)))) ++ os)[g]? = _
      rw [Array.getElem?_append_left (by rw [Array.size_modify]; exact hlt), Array.getElem?_modify, if_pos rfl, h3]
      rfl
    have ef : (flatK fileC 3 M.toArray).toList = filesC M := flat_rows M.toArray
    have hfs : (flatK fileC 3 M.toArray).size = n * 3 := by rw [size_flatK]; simp [hM]
    have hcap : n ≤ cap' := by rw [hn] at h4; exact h4
    have hcur : n * 3 ≤ cur.size := by rw [h6]; exact Nat.mul_le_mul_right 3 hcap
    refine ⟨⟨by rw [filesC_len, hM], .inr ⟨g, cap', _, by rw [hM, h1, hn], h2, hb, by rw [hM]; exact hcap, h5, by simp [putCells, h6], ?_⟩⟩, ⟨rfl, rfl, rfl, ?_, ?_⟩⟩
    · rw [← ef, hM]
      apply List.ext_getElem?
      intro t
      rw [List.getElem?_take]
      by_cases ht : t < n * 3
      · rw [if_pos ht]
        have hc : t < cur.size := by omega
        simp only [putCells, Array.getElem?_toList, Array.getElem?_mapIdx, Array.getElem?_eq_getElem hc, Option.map_some]
        rw [if_pos ⟨by omega, by omega⟩, Nat.sub_zero, Array.getElem?_eq_getElem (by omega), id, getElem!_pos _ t (by omega)]
      · rw [if_neg ht, List.getElem?_eq_none (by simp [hM]; omega)]
    · show _ ≤ ((w.heap.modify g _) ++ os).size
      simp
    · intro k hk hne
      show ((w.heap.modify g _) ++ os)[k]? = _
      rw [Array.getElem?_append_left (by rw [Array.size_modify]; exact hk), Array.getElem?_modify, if_neg (fun e => hne (by rw [e]))]
end Go.Proofs.YtichejodbohldaaGreatDoor
namespace Go.Proofs.YtichejodbohldaaGreatDoor
open Go.RowKit Go.Maps Go.Sort Go.Lib
set_option maxRecDepth 1000000
abbrev pathLt : ByteArray × Gn → ByteArray × Gn → Bool := ltOf fun x y => cmpB x.1 y.1
theorem pathLt_eq (x y : ByteArray × Gn) : pathLt x y = lessA x.1 y.1 := by
  show decide (cmpB x.1 y.1 < 0) = lessA x.1 y.1
  have hl : lessB x.1 y.1 = lessA x.1 y.1 := by unfold lessB lessA; rw [ByteArray.toList_eq, ByteArray.toList_eq]
  unfold cmpB
  rw [hl]
  cases h : lessA x.1 y.1 with
  | true => simp
  | false =>
    rw [if_neg (by simp)]
    split <;> decide
theorem swo_path : SWO pathLt where
  irrefl x := by rw [pathLt_eq]; exact lessA_self _
  trans x y z h1 h2 := by rw [pathLt_eq] at *; exact lessA_trans h1 h2
  ntrans x y z h1 h2 := by
    rw [pathLt_eq] at *
    by_cases e1 : x.1 = y.1
    · rw [e1]; exact h2
    · by_cases e2 : y.1 = z.1
      · rw [← e2]; exact h1
      · exact lessA_asymm (lessA_trans (lessA_total e2 h2) (lessA_total e1 h1))
theorem sort_none (a : Option Addr) (cap : Nat) (w : World) : Calls Tryz.prog 66 #[.slice a 0 cap, .func (.func 67) #[] #[]] w fun e w' => e = .returned (.tuple #[]) ∧ w' = w := Tryz.slices_SortFunc_none a cap _ w
theorem asc_of_sorted {d : Array (ByteArray × Gn)} (h : SortedIn pathLt 0 d.size d) (hd : (d.toList.map (·.1)).Nodup) : AscA d.toList := by
  refine List.pairwise_iff_getElem.2 fun i j hi hj hij => ?_
  rw [Array.length_toList] at hi hj
  have h1 := h i j (Nat.zero_le _) hij hj
  rw [pathLt_eq, getElem!_pos d i hi, getElem!_pos d j hj] at h1
  rw [Array.getElem_toList, Array.getElem_toList]
  refine lessA_total (fun e => ?_) h1
  have h2 := List.pairwise_iff_getElem.1 hd i j (by simpa using hi) (by simpa using hj) hij
  apply h2
  simp only [List.getElem_map, Array.getElem_toList]
  exact e.symm
theorem sort_files (base g n cap : Nat) (Y : As Gn) (w : World) (h : OwnsF w base (.slice (some ⟨g, 0, none⟩) n cap) Y) (hn : Y.length = n) (hn2 : n ≤ 1000000) (hd : (Y.map (·.1)).Nodup) :
    Calls Tryz.prog 66 #[.slice (some ⟨g, 0, none⟩) n cap, .func (.func 67) #[] #[]] w fun e w' => e = .returned (.tuple #[]) ∧ (∃ Y', Y'.Perm Y ∧ AscA Y' ∧ OwnsF w' base (.slice (some ⟨g, 0, none⟩) n cap) Y') ∧ w.grownBy w' (some g) := by
  have hlt := (h.block_lt g rfl).2
  have hH := holds_of h
  have hs : Y.toArray.size = n := by simp [hn]
  have hc := Tryz.slices_SortFunc (α := ByteArray × Gn) 3 (fun _ => by kernel_rfl) (fun _ => by kernel_rfl) fileC (fun e => fileC_len e) fileC_one (fun x y => cmpB x.1 y.1) swo_path 67 #[] g 0 cap Y.toArray w (fun args w => by kernel_rfl) (cmpLays_path _ _ _ _) hH hlt (by rw [hs]; omega)
  rw [hs] at hc
  refine hc.mono ?_
  rintro e w' ⟨he, d', q, os, hp, hso, rfl⟩
  obtain ⟨p1, _, p3⟩ := hp
  rw [hs] at p1
  have e1 : d'.extract 0 n = d' := by rw [← p1]; exact Array.extract_size
  have e2 : Y.toArray.extract 0 n = Y.toArray := by rw [← hs]; exact Array.extract_size
  rw [e1, e2] at p3
  have p4 : d'.toList.Perm Y := by simpa using p3
  rw [← p1] at hso
  have ho := owns_sorted (q := q) (os := os) (M := d'.toList) h hn (by rw [Array.length_toList, p1])
  have e3 : d'.toList.toArray = d' := by simp
  rw [e3] at ho
  exact ⟨he, ⟨d'.toList, p4, asc_of_sorted hso ((p4.map _).nodup_iff.2 hd), ho.1⟩, ho.2⟩

/-! ### A map, gone through -/
def MapRange (w : World) (b r : Nat) (E : As Value) (left : Lit → Bool) (cnt : Nat) : Prop := w.ranges Tryz.prog 9 RV b r E.length (encA E) left cnt ∧ AscA E
/-- The keys that have come. -/
def Came (E : As Value) (left : Lit → Bool) (ks : List ByteArray) : Prop := ks.Nodup ∧ ∀ p, p ∈ ks ↔ ((getA E p).isSome = true ∧ left (keyL p) = false)
theorem Came.start (E : As Value) : Came E (Maps.has (encA E)) [] := ⟨List.nodup_nil, fun p => by rw [encA_has]; cases getA E p <;> simp⟩
theorem Came.step {E : As Value} {left : Lit → Bool} {ks : List ByteArray} (h : Came E left ks) {p : ByteArray} {v : Value} (hl : left (keyL p) = true) (hv : getA E p = some v) : Came E (fun z => left z && !z.sameKey (keyL p)) (ks ++ [p]) := by
  obtain ⟨h1, h2⟩ := h
  have hn : p ∉ ks := fun hp => by have := ((h2 p).1 hp).2; rw [hl] at this; cases this
  refine ⟨List.nodup_append.2 ⟨h1, by simp, fun a ha b hb => by simp at hb; subst hb; exact fun e => hn (e ▸ ha)⟩, fun q => ?_⟩
  rw [List.mem_append, List.mem_singleton, h2 q]
  show _ ↔ _ ∧ (left (keyL q) && !(keyL q).sameKey (keyL p)) = false
  rw [key_same]
  by_cases hq : q = p
  · subst hq; simp [hv]
  · simp [hq]
theorem AscA.nodup {α : Type} {M : As α} (h : AscA M) : (M.map (·.1)).Nodup := by
  refine List.pairwise_map.2 (List.Pairwise.imp (fun {a b} h e => ?_) h)
  exact lessA_ne h e
theorem Came.done {E : As Value} {left : Lit → Bool} {ks : List ByteArray} (h : Came E left ks) (hE : AscA E) (hl : ∀ kl, left kl = false) : ks.Perm (E.map (·.1)) := by
  refine (List.perm_ext_iff_of_nodup h.1 hE.nodup).2 fun p => ?_
  rw [h.2 p, hl]
  simp only [and_true, List.mem_map]
  constructor
  · intro hs
    obtain ⟨v, hv⟩ := Option.isSome_iff_exists.1 hs
    exact ⟨_, mem_get hv, rfl⟩
  · rintro ⟨e, he, rfl⟩
    rw [hE.get he]; rfl
theorem MapRange.keeps {w w' : World} {S : Nat → Prop} {b r : Nat} {E : As Value} {left : Lit → Bool} {cnt : Nat} (h : MapRange w b r E left cnt) (hk : Kept w w' S) (hb : ¬ S b) (hr : ¬ S r) : MapRange w' b r E left cnt := by
  obtain ⟨⟨es, clock, since, seen, c0, h1, h2, h3, h4, h5, h6⟩, hE⟩ := h
  exact ⟨⟨es, clock, since, seen, c0, hk.bk h1 hb, h2, h3, h4, hk.bk h5 hr, h6⟩, hE⟩
theorem MapRange.stays {w w' : World} {b r : Nat} {E : As Value} {left : Lit → Bool} {cnt : Nat} (h : MapRange w b r E left cnt) (hg : w.grownBy w' none) : MapRange w' b r E left cnt := h.keeps (Kept.ofNone hg fun _ => False) (fun e => e) (fun e => e)
section
variable (w : World) {ops : Array Oper} {rest : List Oper} {o : Oper} {a : Act} {Q : Exit → Act → World → Prop}
theorem range_map (hg : o.guard = none) (m : Operand) (hop : o.op = Op.range 70 m) (b : Nat) (E : As Value) (hm : a.eval m = .map (some b)) (h : MapAt w b E)
    (hK : ∀ w', MapRange w' b w.heap.size E (Maps.has (encA E)) E.length → w.grownBy w' none → w'.heap.size = w.heap.size + 1 → wpList Tryz.prog ops Q rest (a.put o.dst (.pointer (some ⟨w.heap.size, 0, none⟩))) w') :
    wpList Tryz.prog ops Q (o :: rest) a w := by
  refine wpList_range_own w hg m 70 hop 9 81 lawS Tryz.underlying70 RV b E.length (encA E) hm h.1 fun w' h1 h2 h3 => ?_
  rw [encA_size] at h1
  exact hK w' ⟨h1, h.2⟩ h2 h3
theorem next_map (hg : o.guard = none) (it : Operand) (hop : o.op = Op.next it false) (b r : Nat) (E : As Value) (left : Lit → Bool) (cnt : Nat) (hit : a.eval it = .pointer (some ⟨r, 0, none⟩)) (h : MapRange w b r E left cnt)
    (hDone : (∀ kl, left kl = false) → wpList Tryz.prog ops Q rest (a.put o.dst (.tuple #[.bool false])) w)
    (hMore : ∀ (p : ByteArray) (v : Value) (w' : World) (cnt' : Nat), left (keyL p) = true → getA E p = some v → MapRange w' b r E (fun z => left z && !z.sameKey (keyL p)) cnt' → cnt' < cnt → w.grownBy w' (some r) → w'.heap.size = w.heap.size →
      (Instr.entry (.pointer (some ⟨r, 0, none⟩))).run Tryz.prog w' = .ok (.tuple #[.string p, v]) w' → wpList Tryz.prog ops Q rest (a.put o.dst (.tuple #[.bool true, .string p, v])) w') :
    wpList Tryz.prog ops Q (o :: rest) a w := by
  refine wpList_next_ranges w hg it hop 9 lawS RV (fun p : ByteArray => Value.string p) (fun v : Value => v) (fun key kl hk => ?_) (fun v y hv => ⟨v, rfl⟩) b r E.length (encA E) left cnt hit h.1 (fun _ hl => hDone hl) ?_
  · obtain ⟨x, hx, _⟩ := Maps.keyOf_str Tryz.underlying9 hk
    exact ⟨⟨x.toArray⟩, hx⟩
  · intro p v kl y w' cnt' hkey hlk hv hat hrg hlt hgr hsz hen
    obtain ⟨x, ex, rfl, hx⟩ := Maps.keyOf_str Tryz.underlying9 hkey
    have e1 : (p : ByteArray) = ⟨x.toArray⟩ := Value.string.inj ex
    have e2 : Lit.string x = keyL p := by rw [e1]; rfl
    rw [e2] at hlk hrg hat
    have h1 := hat (.held zeroNode)
    unfold RV at hv
    have hy : y.1 = .held v := by rw [← Option.some.inj hv]
    rw [encA_at, hy] at h1
    have hs : (getA E p).isSome = true := by rw [← encA_has]; exact has_true_of_atKey hat
    obtain ⟨u, hu⟩ := Option.isSome_iff_exists.1 hs
    rw [hu] at h1
    have h2 := DataW.held.inj h1
    refine hMore p v w' cnt' hlk (by rw [hu]; exact congrArg some h2) ⟨hrg, h.2⟩ hlt hgr hsz hen
end
end Go.Proofs.YtichejodbohldaaGreatDoor
namespace Go.Proofs.YtichejodbohldaaGreatDoor
open Go.RowKit

set_option maxRecDepth 1000000
theorem clone_none (w : World) : Calls Tryz.prog 65 #[.slice none 0 0] w fun e w' => e = .returned (.slice none 0 0) ∧ w' = w := by
  have he : ∀ W : World, (binOp .eql 31 (.slice none 0 0) (.slice none 0 0)).run Tryz.prog W = .ok (.bool true) W := fun _ => by kernel_rfl
  go_enter Tryz.func65, Tryz.ntmps65
  go_wp2
  go_ret
  exact ⟨rfl, rfl⟩
theorem owns_none (w : World) : Owns (w.alloc (.cells #[] 5)) w.heap.size (.slice (some ⟨w.heap.size, 0, none⟩) 0 0) [] :=
  ⟨by simp, .inr ⟨w.heap.size, 0, #[], rfl, Nat.le_refl _, bk_alloc _ _, Nat.le_refl _, by unfold maxLen; omega, rfl, rfl⟩⟩
/-- A slice of bytes in new memory. -/
def CloneRet (w : World) (L : List UInt8) (e : Ending) (w' : World) : Prop := ∃ v, e = .returned v ∧ Owns w' w.heap.size v L ∧ w.grownBy w' none
set_option maxHeartbeats 1000000 in
theorem clone_any (B m c : Nat) (a : Option Addr) (L : List UInt8) (w : World) (hL : L.length = m) (hm : m ≤ 1000000) (hP : Part w B (.slice a m c) L) :
    Calls Tryz.prog 65 #[.slice a m c] w (CloneRet w L) := by
  have HL := Lib.hid hL
  have HP := Lib.hid hP
  cases a with
  | none =>
    have h0 : m = 0 := by
      obtain ⟨a, cap, b, o, h1, h2, h6, h3, h4, h5⟩ := hP
      by_cases h : 0 < L.length
      · have := h4 h; subst this; simp at h1
      · omega
    subst h0
    have hc : c = 0 := by
      obtain ⟨a, cap, b, o, h1, h2, h6, h3, h4, h5⟩ := hP
      injection h1 with k1 k2 k3
      rw [k3]; exact h6 k1.symm
    subst hc
    have hl : L = [] := List.eq_nil_of_length_eq_zero hL
    subst hl
    exact (clone_none w).mono fun e w' h => ⟨_, h.1, by rw [h.2]; exact Owns.nil _ _, by rw [h.2]; exact World.grownBy.refl _ _⟩
  | some ad =>
    clear hL hP
    have he : ∀ W : World, (binOp .eql 31 (.slice (some ad) m c) (.slice none 0 0)).run Tryz.prog W = .ok (.bool false) W := fun _ => by kernel_rfl
    have hown0 : Hid (Owns (w.alloc (.cells #[] 5)) w.heap.size (.slice (some ⟨w.heap.size, 0, none⟩) 0 0) []) := owns_none w
    have hp1 : Hid (Part (w.alloc (.cells #[] 5)) B (.slice (some ad) m c) L) := HP.out.stays (World.grownBy_alloc _ _ _)
    go_enter Tryz.func65, Tryz.ntmps65
    go_wp2_with ((with_reducible refine app_part (o := ⟨some 7, _, _, _, _, _⟩) rfl _ _ rfl w.heap.size B (.slice (some ⟨w.heap.size, 0, none⟩) 0 0) (.slice (some ad) m c) [] L ?_ hown0.out ?_ hp1.out ?_ ?_ ?_); (exact rfl); (exact rfl); (have := HL.out; simp; omega); (rw [alloc_size]; omega); (intro v2 w2 ho2 hg2); have HO2 := Lib.hid ho2; have HG2 := Lib.hid (hown0.out.grown (World.grownBy_alloc _ _ _) hg2); clear ho2 hg2)
    go_ret
    exact ⟨_, rfl, HO2.out, HG2.out⟩
/-- What of an archive is told: n bytes at most, and 64, from off on. -/
def partS (b : List UInt8) (off n : Int) : List UInt8 := (b.drop off.toNat).take (min n.toNat 64)
theorem Part.sub {w : World} {B m c o k : Nat} {a : Option Addr} {L : List UInt8} (h : Part w B (.slice a m c) L) (hL : L.length = m) (ho : o + k ≤ m) (hk : 0 < k) : ∃ b f, a = some ⟨b, f, none⟩ ∧ m ≤ c ∧ Part w B (.slice (some ⟨b, f + o, none⟩) k (c - o)) ((L.drop o).take k) := by
  obtain ⟨a', c', b, f, h1, h2, h6, h3, h4, h5⟩ := h
  injection h1 with k1 k2 k3
  subst k1 k3
  have ha := h4 (by omega)
  have hl : ((L.drop o).take k).length = k := by rw [List.length_take, List.length_drop]; omega
  refine ⟨b, f, ha, by omega, _, _, b, f + o, by rw [hl], by omega, (fun h => by cases h), h3, (fun _ => rfl), fun j hj => ?_⟩
  rw [hl] at hj
  have := h5 (o + j) (by omega)
  rw [show f + o + j = f + (o + j) by omega, this]
  rw [List.getD_eq_getElem?_getD, List.getD_eq_getElem?_getD, List.getElem?_take_of_lt hj, List.getElem?_drop]
end Go.Proofs.YtichejodbohldaaGreatDoor
