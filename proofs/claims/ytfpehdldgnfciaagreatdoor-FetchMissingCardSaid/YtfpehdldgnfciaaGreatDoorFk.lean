/- The law's own example. -/
import Derived.Test.YtfpehdldgnfciaaGreatDoorFj
namespace Go.Proofs.YtfpehdldgnfciaaGreatDoor
open Go.RowKit

set_option maxRecDepth 1000000
theorem Tab.pos {w : World} (h : Tab w) : 1 < w.heap.size := by
  have := h 0 (by omega)
  rcases Nat.lt_or_ge 1 w.heap.size with h0 | h0
  · exact h0
  · have e : w.cell? ⟨1, 0, none⟩ = none := by simp [World.cell?, Array.getElem?_eq_none h0]
    rw [e] at this; cases this
theorem Turned.keep {w w' : World} {F k base : Nat} {v : Value} {L : List UInt8} {C : Array Value} {t : TypeId} {f : Nat × Nat} (h : Turned w F v w') (ho : Owns w base v L) (hb : w.heap[k]? = some (.cells C t f)) (ht : t ≠ 5) (hF : k ≠ F) : w'.heap[k]? = some (.cells C t f) :=
  (h.block k (bk_size hb) hF (ho.apart hb ht)).trans hb
theorem Turned.grown {w0 w w' : World} {F : Nat} {v : Value} (h : Turned w F v w') (hg : w0.grownBy w none) (hbl : Below w0.heap.size w w') : w0.grownBy w' none :=
  ⟨hbl.os.trans hg.os, hbl.tape.trans hg.tape, hbl.output.trans hg.output, Nat.le_trans hg.size h.size, fun k hk _ => (hbl.block k hk).trans (hg.block k hk (by simp))⟩
theorem new_at (L : List UInt8) (n : Nat) (hL : L.length = n) (hn : n ≤ 10000) (w : World) (hT : Tab w) : Calls Tryz.prog 6 #[.agg (rowC (keyV L) n)] w (NewRet w (keyV L) n) := by
  subst hL; exact new_any L hn w hT
theorem cut_all (L : List UInt8) (m n : Nat) (hL : L.length = n) (q : Nat) (hq : m + q = n) : L.take m ++ (L.drop m).take q = L := by
  rw [List.take_of_length_le (l := L.drop m) (by rw [List.length_drop]; omega), List.take_append_drop]
set_option maxHeartbeats 8000000 in
theorem known_any (w : World) (hT : Tab w) : Calls Tryz.prog 4 #[] w fun e w' => e = .returned (.bool true) ∧ w.grownBy w' none := by
  have h0 := hT.pos
  have HT := Lib.hid hT
  clear hT
  obtain ⟨L, hLL⟩ : ∃ L, madeL 100 = L := ⟨_, rfl⟩
  have HL : Hid (L.length = 100) := by show _ = _; rw [← hLL, madeL_len]
  have HLL := Lib.hid hLL
  clear hLL
  have HMA : Hid (Calls Tryz.prog 5 #[.int .i64 100] w (MadeRet w 100)) := made_any 100 (by omega) w
  go_enter Tryz.func4, Tryz.ntmps4
  go_wp2_with fail
  (with_reducible refine HMA.out.mono ?_)
  rintro ee w1 ⟨a, c, rfl, g1, p1⟩
  dsimp only
  rw [HLL.out] at p1
  obtain ⟨b, o, rfl, hc⟩ := p1.addr HL.out (by omega)
  have P1 := Lib.hid p1
  have G1 := Lib.hid g1
  obtain ⟨RC, hRC⟩ : ∃ RC, rowC (keyV L) 100 = RC := ⟨_, rfl⟩
  have HRO : Hid (Calls Tryz.prog 7 #[.slice (some ⟨b, o, none⟩) 100 c, .int .u8 0] w1 fun e w' => e = .returned (.agg RC) ∧ w1.grownBy w' none) := by
    show Calls _ _ _ _ _; rw [← hRC]; exact row_any 100 c w1.heap.size _ L w1 HL.out (by omega) P1.out (Nat.le_refl _)
  have HNE : Hid (∀ W, w.grownBy W none → Calls Tryz.prog 6 #[.agg RC] W (NewRet W (keyV L) 100)) := fun W hW => by rw [← hRC]; exact new_at L 100 HL.out (by omega) W (HT.out.stays hW)
  clear p1 g1 hRC HMA
  go_wp2_with fail
  (with_reducible refine HRO.out.mono ?_)
  rintro ee w2 ⟨rfl, g2⟩
  dsimp only
  have G2 := Lib.hid (World.grownBy.trans G1.out g2)
  have P2 := Lib.hid (P1.out.stays g2)
  have S2 := Lib.hid g2.size
  clear g2
  go_wp2_with fail
  (with_reducible refine (HNE.out w2 G2.out).mono ?_)
  rintro ee w3 ⟨F, rfl, hF2, g3, hf3⟩
  dsimp only
  have G3 := Lib.hid (World.grownBy.trans G2.out g3)
  have P3 := Lib.hid (P2.out.stays g3)
  have HF3 : Hid (Fet w3 F (keyV L) ((100 : Nat) : Int) (.slice none 0 0) 0 0 false false) := hf3
  have HFw : Hid (w1.heap.size ≤ F) := Nat.le_trans S2.out hF2
  have HA3 : Hid (Calls Tryz.prog 8 #[.pointer (some ⟨F, 0, none⟩)] w3 fun e w' => e = .returned (.tuple #[.agg #[.string ⟨#[97]⟩, .int .i64 1, .int .i64 0, .int .i64 0, .slice none 0 0, .int .i64 0, .int .i64 64], .bool true]) ∧ w3.grownBy w' none) :=
    ask_any F 100 0 0 64 (keyV L) none 0 0 w3 HF3.out (by omega) (by omega) rfl
  clear g3 hf3 hF2
  go_wp2_with fail
  (with_reducible refine HA3.out.mono ?_)
  rintro ee w4 ⟨rfl, g4⟩
  dsimp only
  obtain ⟨W4, hW4⟩ : ∃ W4, w4.alloc (.cells #[.string ⟨#[97]⟩, .int .i64 1, .int .i64 0, .int .i64 0, .slice none 0 0, .int .i64 0, .int .i64 64] 38) = W4 := ⟨_, rfl⟩
  have q4 : w3.grownBy W4 none := by rw [← hW4]; exact grown_alloc _ g4
  have k4 : W4.heap[w4.heap.size]? = some (.cells #[.string ⟨#[97]⟩, .int .i64 1, .int .i64 0, .int .i64 0, .slice none 0 0, .int .i64 0, .int .i64 64] 38 (0, 0)) := by rw [← hW4]; exact bk_alloc _ _
  have P4 := Lib.hid (P3.out.stays q4)
  have HF4 := Lib.hid (HF3.out.stays q4)
  have G4 := Lib.hid (World.grownBy.trans G3.out q4)
  have hl64 : (L.take 64).length = 64 := by rw [List.length_take, HL.out]; rfl
  have HT4 : Hid (Calls Tryz.prog 9 #[.pointer (some ⟨F, 0, none⟩), .agg #[.int .i64 0, .slice (some ⟨b, o, none⟩) 64 c]] W4 fun e w' => e = .returned .nilIface ∧ FetTo W4 F w1.heap.size (.slice none 0 0) (keyV L) ((100 : Nat) : Int) ([] ++ (L.take 64).take 64) 0 0 false false w') :=
    take_more F w1.heap.size w1.heap.size 100 0 0 64 c 64 none (some ⟨b, o, none⟩) (keyV L) 0 0 [] (L.take 64) W4 HF4.out (Owns.nil _ _) rfl (P4.out.cut HL.out (by omega)) hl64 (by omega) (by omega) rfl (Nat.le_refl _) HFw.out (by omega)
  have K4 := Lib.hid k4
  have HC4 := Lib.hid hW4
  have S14 : Hid (w1.heap.size ≤ w4.heap.size) := by show _ ≤ _; have := HFw.out; have := HF3.out.size; have := g4.size; omega
  have n4F : Hid (w4.heap.size ≠ F) := by show _ ≠ _; have := HF3.out.size; have := g4.size; omega
  have hl64 := Lib.hid hl64
  clear g4 q4 k4 hW4
  have hc64 : (64 : Int) ≤ (c : Int) := by omega
  have hcn : 64 ≤ c := by omega
  go_wp2_with fail
  rw [HC4.out]
  (with_reducible refine HT4.out.mono ?_)
  rintro ee w5 ⟨rfl, t5⟩
  dsimp only
  obtain ⟨⟨a5, c5, f5, o5⟩, b5, u5⟩ := t5
  have e5 : [] ++ (L.take 64).take 64 = L.take 64 := by rw [List.nil_append, List.take_take]; rfl
  rw [e5, hl64.out] at f5
  rw [e5, hl64.out] at o5
  have F5 := Lib.hid f5
  have O5 := Lib.hid o5
  have P5 := Lib.hid (P4.out.below b5 (Nat.le_refl _))
  have X5 := Lib.hid (u5.keep (Owns.nil W4 0) K4.out (by decide) n4F.out)
  have G5 : Hid (w.grownBy w5 none) := u5.grown G4.out (below_le b5 G1.out.size)
  have HA5 : Hid (Calls Tryz.prog 8 #[.pointer (some ⟨F, 0, none⟩)] w5 fun e w' => e = .returned (.tuple #[.agg #[.string ⟨#[97]⟩, .int .i64 1, .int .i64 0, .int .i64 0, .slice none 0 0, .int .i64 64, .int .i64 36], .bool true]) ∧ w5.grownBy w' none) :=
    ask_any F 100 64 c5 36 (keyV L) a5 0 0 w5 f5 (by omega) (by omega) rfl
  clear f5 o5 b5 e5 u5 K4 P4 HF4
  go_wp2_with fail
  (with_reducible refine HA5.out.mono ?_)
  rintro ee w6 ⟨rfl, g6⟩
  dsimp only
  obtain ⟨W6, hW6⟩ : ∃ W6, w6.alloc (.cells #[.string ⟨#[97]⟩, .int .i64 1, .int .i64 0, .int .i64 0, .slice none 0 0, .int .i64 64, .int .i64 36] 38) = W6 := ⟨_, rfl⟩
  have q6 : w5.grownBy W6 none := by rw [← hW6]; exact grown_alloc _ g6
  have k6 : W6.heap[w6.heap.size]? = some (.cells #[.string ⟨#[97]⟩, .int .i64 1, .int .i64 0, .int .i64 0, .slice none 0 0, .int .i64 64, .int .i64 36] 38 (0, 0)) := by rw [← hW6]; exact bk_alloc _ _
  have P6 := Lib.hid (P5.out.stays q6)
  have F6 : Hid (Fet W6 F (keyV (L.take 64 ++ ((L.drop 64).take 36).take 36)) ((100 : Nat) : Int) (.slice a5 64 c5) 0 0 false false) := by
    show Fet _ _ _ _ _ _ _ _ _
    rw [List.take_take, show min 36 36 = 36 from rfl, cut_all L 64 100 HL.out 36 rfl]
    exact F5.out.stays q6
  have O6 := Lib.hid (O5.out.stays q6)
  have X6 := Lib.hid (bk_kept X5.out q6)
  have G6 := Lib.hid (World.grownBy.trans G5.out q6)
  have K6 := Lib.hid k6
  have n6F : Hid (w6.heap.size ≠ F) := by show _ ≠ _; have := F5.out.size; have := g6.size; omega
  have hl36 : ((L.drop 64).take 36).length = 36 := by rw [List.length_take, List.length_drop, HL.out]; rfl
  have HT6 : Hid (Calls Tryz.prog 9 #[.pointer (some ⟨F, 0, none⟩), .agg #[.int .i64 0, .slice (some ⟨b, o + 64, none⟩) 36 (c - 64)]] W6 fun e w' => e = .returned .nilIface ∧ FetTo W6 F w1.heap.size (.slice a5 64 c5) (keyV (L.take 64 ++ ((L.drop 64).take 36).take 36)) ((100 : Nat) : Int) (L.take 64 ++ ((L.drop 64).take 36).take 36) 0 0 true false w') :=
    take_last F w1.heap.size w1.heap.size 100 64 c5 36 (c - 64) 36 a5 (some ⟨b, o + 64, none⟩) 0 0 (L.take 64) ((L.drop 64).take 36) W6 F6.out O6.out hl64.out (P6.out.sub HL.out 64 36 (by omega) (by omega)) hl36 (by omega) (by omega) rfl (Nat.le_refl _) HFw.out rfl (HT.out.stays G6.out) (Nat.lt_of_lt_of_le h0 G1.out.size)
  have HC6 := Lib.hid hW6
  clear q6 g6 k6 hW6 F5 O5 P5 X5 hl36
  go_wp2_with fail
  rw [HC6.out]
  (with_reducible refine HT6.out.mono ?_)
  rintro ee w7 ⟨rfl, t7⟩
  dsimp only
  obtain ⟨⟨a7, c7, f7, o7⟩, b7, u7⟩ := t7
  have e7 : L.take 64 ++ ((L.drop 64).take 36).take 36 = L := by rw [List.take_take]; exact cut_all L 64 100 HL.out 36 rfl
  rw [e7, HL.out] at f7
  rw [e7, HL.out] at o7
  have P7 := Lib.hid (P6.out.below b7 (Nat.le_refl _))
  have X7 := Lib.hid (u7.keep O6.out X6.out (by decide) n4F.out)
  have Y7 := Lib.hid (u7.keep O6.out K6.out (by decide) n6F.out)
  have G7 : Hid (w.grownBy w7 none) := u7.grown G6.out (below_le b7 G1.out.size)
  have HD7 := Lib.hid (done_yes F 100 c7 a7 w1.heap.size L (keyV L) ((100 : Nat) : Int) 0 0 false w7 f7 o7 HL.out (by omega))
  clear f7 o7 b7 e7 u7 K6 P6 F6 O6 X6
  go_wp2_with fail
  (with_reducible refine HD7.out.mono ?_)
  rintro ee w8 ⟨v8, rfl, o8, g8⟩
  dsimp only
  obtain ⟨a8, c8, e8, _⟩ := o8.open HL.out
  subst e8
  have X8 := bk_kept X7.out g8
  have Y8 := bk_kept Y7.out g8
  have P8 := P7.out.stays g8
  have G8 := Lib.hid (World.grownBy.trans G7.out g8)
  have s8 : 0 < w8.heap.size := Nat.lt_of_lt_of_le (bk_size X8 |> Nat.lt_of_le_of_lt (Nat.zero_le _)) (Nat.le_refl _)
  have v1 := conv_part (o8.part s8) (by have := HL.out; omega)
  have v2 := conv_part P8 (by have := HL.out; omega)
  have x3 := (bk_cell X8 6 _ rfl).1
  have y2 := (bk_cell Y8 5 _ rfl).1
  have y3 := (bk_cell Y8 6 _ rfl).1
  clear X8 Y8 P8 o8 g8
  go_wp2
  go_ret
  exact ⟨rfl, G8.out⟩
end Go.Proofs.YtfpehdldgnfciaaGreatDoor
