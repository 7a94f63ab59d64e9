/- A quoted text, as package script reads it: unquoted, whole. -/
import Derived.Test.YtmjdkgbblccpgaaDoorSx
namespace Go.Proofs.YtmjdkgbblccpgaaDoor
open Go.RowKit

theorem drop_at (s : ByteArray) (k : Nat) (h : k < s.size) : s.data.toList.drop k = s[k] :: s.data.toList.drop (k + 1) := by
  rw [List.drop_eq_getElem_cons (by rw [data_len]; exact h)]
  rfl
theorem drop_end (s : ByteArray) : s.data.toList.drop s.size = [] := by
  rw [List.drop_eq_nil_iff, data_len]; exact Nat.le_refl _
theorem drop_len (s : ByteArray) (k : Nat) : (s.data.toList.drop k).length = s.size - k := by rw [List.length_drop, data_len]
theorem quoteL_close (r : List UInt8) : quoteL (34 :: r) = some ([], r) := by rw [quoteL.eq_def]; rfl
theorem quoteL_cut : quoteL [92] = none := by rw [quoteL.eq_def]; rfl
theorem quoteL_esc (e d : UInt8) (r : List UInt8) (h : escB e = some d) : quoteL (92 :: e :: r) = (quoteL r).map fun p => (d :: p.1, p.2) := by
  rw [quoteL.eq_def]; simp [h]
theorem quoteL_bad (e : UInt8) (r : List UInt8) (h : escB e = none) : quoteL (92 :: e :: r) = none := by
  rw [quoteL.eq_def]; simp [h]
theorem quoteL_byte (c : UInt8) (r : List UInt8) (h1 : ¬ c = 34) (h2 : ¬ c = 92) : quoteL (c :: r) = (quoteL r).map fun p => (c :: p.1, p.2) := by
  rw [quoteL.eq_def]; simp [h1, h2]
/-- So far acc has been read: what is still to be read tells the rest. -/
def QuoteTo (s : ByteArray) (k : Nat) (acc : List UInt8) : Prop := quoteL (s.data.toList.drop 1) = (quoteL (s.data.toList.drop k)).map fun p => (acc ++ p.1, p.2)
theorem QuoteTo.start (s : ByteArray) : QuoteTo s 1 [] := by
  unfold QuoteTo
  cases quoteL (s.data.toList.drop 1) <;> rfl
theorem QuoteTo.step {s : ByteArray} {k j : Nat} {acc : List UInt8} {d : UInt8} (h : QuoteTo s k acc) (e : quoteL (s.data.toList.drop k) = (quoteL (s.data.toList.drop j)).map fun p => (d :: p.1, p.2)) : QuoteTo s j (acc ++ [d]) := by
  unfold QuoteTo at h ⊢
  rw [h, e]
  cases quoteL (s.data.toList.drop j) <;> simp
theorem QuoteTo.none {s : ByteArray} {k : Nat} {acc : List UInt8} (h : QuoteTo s k acc) (e : quoteL (s.data.toList.drop k) = none) : quoteL (s.data.toList.drop 1) = none := by
  unfold QuoteTo at h
  rw [h, e]; rfl
theorem QuoteTo.close {s : ByteArray} {k : Nat} {acc : List UInt8} (h : QuoteTo s k acc) (hk : k < s.size) (e : s[k] = 34) : quoteL (s.data.toList.drop 1) = some (acc, s.data.toList.drop (k + 1)) := by
  unfold QuoteTo at h
  rw [h, drop_at s k hk, e, quoteL_close]
  simp
theorem idx_blank (y : UInt8) : ∃ n : Int, (∀ w, Calls Tryd.prog 40 #[.string ⟨#[32, 9]⟩, .int .u8 (y.toNat : Int)] w fun e w' => e = .returned (.int .i64 n) ∧ w' = w) ∧ decide (0 ≤ n) = blk y := by
  refine ⟨_, fun w => Tryd.strings_IndexByte ⟨#[32, 9]⟩ y.toNat w, ?_⟩
  have e : ((y.toNat : Int)).toNat.toUInt8 = y := by simp
  rw [e]
  by_cases h1 : y = 32
  · subst h1; decide +kernel
  · by_cases h2 : y = 9
    · subst h2; decide +kernel
    · have hb : blk y = false := by simp [blk, h1, h2]
      rw [hb]
      have : Lib.indexByte [32, 9] y = -1 := by
        simp [Lib.indexByte, Ne.symm h1, Ne.symm h2]
      rw [show (⟨#[32, 9]⟩ : ByteArray).data.toList = [32, 9] from rfl, this]
      decide
def UnqRet (s : ByteArray) (w : World) (e : Ending) (w' : World) : Prop :=
  w.grownBy w' none ∧ ((∃ t r, quoteL (s.data.toList.drop 1) = some (t, r) ∧ endOk r = true ∧ e = .returned (.tuple #[.string (toB t), .int .i64 ((s.size - r.length : Nat) : Int), .bool true])) ∨
    ((∀ t r, quoteL (s.data.toList.drop 1) = some (t, r) → endOk r = false) ∧ ∃ (x : ByteArray) (n : Int), e = .returned (.tuple #[.string x, .int .i64 n, .bool false])))
theorem UnqRet.no {s : ByteArray} {w w' : World} (x : ByteArray) (n : Int) (hg : w.grownBy w' none) (h : quoteL (s.data.toList.drop 1) = none) : UnqRet s w (.returned (.tuple #[.string x, .int .i64 n, .bool false])) w' :=
  ⟨hg, .inr ⟨fun t r e => by (rw [h] at e; cases e), x, n, rfl⟩⟩
theorem u8_eq {c : UInt8} {n : Nat} (h : c.toNat = n) (hn : n < 256) : c = UInt8.ofNat n := by
  apply UInt8.toNat_inj.1
  rw [h, UInt8.toNat_ofNat']
  omega

set_option maxRecDepth 1000000
set_option maxHeartbeats 4000000 in
theorem unquoted_any (s : ByteArray) (w : World) (hs : s.size ≤ 1000000000) :
    Calls Tryd.prog 21 #[.string s] w (UnqRet s w) := by
  by_cases h0 : s.size = 0
  · have hq : Hid (quoteL (s.data.toList.drop 1) = none) := by
      show _ = _
      have : s.data.toList = [] := List.eq_nil_of_length_eq_zero (by rw [data_len]; exact h0)
      rw [this]; rfl
    have d0 : decide ((1 : Int) < (s.size : Int)) = false := by simp; omega
    go_enter Tryd.func21, Tryd.ntmps21
    go_wp2
    go_loopw [6] (fun i wr => i = .int .i64 1 ∧ wr = w.alloc (.cells #[.pointer none, .slice none 0 0] 58)) (fun _ _ => 0)
    case atStart => exact ⟨rfl, rfl⟩
    case round =>
      obtain ⟨rfl, rfl⟩ := hrel
      go_wp2
      go_ret3
      exact UnqRet.no _ _ (World.grownBy_alloc _ _ _) hq.out
  · have hp : 1 ≤ s.size := by omega
    clear h0
    go_enter Tryd.func21, Tryd.ntmps21
    go_wp2
    go_loopw [6] (fun i wr => ∃ (k : Nat) (acc : List UInt8), 1 ≤ k ∧ k ≤ s.size ∧ i = .int .i64 k ∧ Hid (Lib.IsBuilder 58 5 w.heap.size w.heap.size (Lib.byteCells acc) wr) ∧ Hid (Below w.heap.size w wr) ∧ Hid (acc.length ≤ k) ∧ Hid (QuoteTo s k acc)) (fun i _ => s.size - (intOf i).toNat)
    case atStart => exact ⟨1, [], by omega, hp, rfl, Lib.fresh_isBuilder _ _ w, (Below.refl _ w).alloc (Nat.le_refl _) _, by show [].length ≤ 1; simp, QuoteTo.start s⟩
    case round =>
      obtain ⟨k, acc, hk1, hk, rfl, hI, hB, hA, hQ⟩ := hrel
      have hwr : Hid (w.heap.size ≤ wr.heap.size) := hB.out.size
      by_cases hlt : k < s.size
      · obtain ⟨c, hc⟩ : ∃ c, s[k] = c := ⟨_, rfl⟩
        have hc9 := c.toNat_lt
        by_cases h34 : c = 34
        · subst h34
          obtain ⟨r, hr⟩ : ∃ r, s.data.toList.drop (k + 1) = r := ⟨_, rfl⟩
          have hrl : r.length = s.size - (k + 1) := by rw [← hr, drop_len]
          have HQ : Hid (quoteL (s.data.toList.drop 1) = some (acc, r)) := by rw [← hr]; exact hQ.out.close hlt hc
          obtain ⟨x, hx⟩ : ∃ x, s.extract (k + 1) s.size = x := ⟨_, rfl⟩
          have hxr : x.data.toList = r := by rw [← hx, ← hr]; exact Lib.extract_to_end _ _
          have HR : Hid (((s.size - r.length : Nat) : Int) = (k : Int) + 1) := by show _ = _; omega
          cases r with
          | nil =>
            have hx0 : x = ⟨#[]⟩ := bytes_ext (by rw [hxr])
            clear hxr hrl hr
            subst hx0
            go_wp2_with fail
            (with_reducible refine (Tryd.Builder_String_any w.heap.size w.heap.size acc _ hI.out hwr.out).mono ?_)
            rintro ee w1 ⟨rfl, hb⟩
            have HB := Lib.hid (hB.out.trans hb)
            clear hb
            dsimp only
            go_wp2
            go_ret3
            exact ⟨grown_of_below HB.out, .inl ⟨acc, [], HQ.out, rfl, by (rw [HR.out]; rfl)⟩⟩
          | cons y t =>
            have hxs : x.size = s.size - (k + 1) := by rw [← data_len, hxr, hrl]
            have hx1 : 0 < x.size := by rw [← data_len, hxr]; simp
            have hxy : x[0] = y := by
              have h := drop_at x 0 hx1
              rw [List.drop_zero, hxr] at h
              exact (List.cons.inj h).1.symm
            have hne : ¬ x = ⟨#[]⟩ := by intro h; rw [h] at hx1; exact absurd hx1 (by decide)
            have f1 := empty_no x hne
            have f2 := ne_list x [] hne
            obtain ⟨n, hcall, hd⟩ := idx_blank y
            have HCALL := Lib.hid hcall
            clear hcall hne hrl hr
            have hd1 : ∃ bb, blk y = bb := ⟨_, rfl⟩
            obtain ⟨bb, hbb⟩ := hd1
            rw [hbb] at hd
            have HBB := Lib.hid hbb
            have HXR := Lib.hid hxr
            have HXS := Lib.hid hxs
            clear hbb hxr hxs
            go_wp2_with fail
            (with_reducible refine (Tryd.Builder_String_any w.heap.size w.heap.size acc _ hI.out hwr.out).mono ?_)
            rintro ee w1 ⟨rfl, hb⟩
            have HB := Lib.hid (hB.out.trans hb)
            clear hb
            dsimp only
            go_wp2_with fail
            (with_reducible refine (HCALL.out _).mono ?_)
            rintro ee w2 ⟨rfl, hw2⟩
            rw [hw2]
            clear hw2 w2
            dsimp only
            cases bb with
            | true =>
              go_wp2
              go_ret3
              exact ⟨grown_of_below HB.out, .inl ⟨acc, y :: t, HQ.out, HBB.out, by (rw [HR.out]; rfl)⟩⟩
            | false =>
              go_wp2
              go_ret3
              exact ⟨grown_of_below HB.out, .inr ⟨fun t' r' e => by (rw [HQ.out] at e; simp only [Option.some.injEq, Prod.mk.injEq] at e; rw [← e.2]; exact HBB.out), _, _, rfl⟩⟩
        · have n1 : ((c.toNat : Int) == 34) = false := u8_ne c 34 h34
          by_cases h92 : c = 92
          · subst h92
            by_cases hl2 : k + 1 < s.size
            · obtain ⟨d, hd⟩ : ∃ d, s[k + 1] = d := ⟨_, rfl⟩
              cases he : escB d with
              | some q =>
                have HQ : Hid (QuoteTo s (k + 2) (acc ++ [q])) := hQ.out.step (by rw [drop_at s k hlt, drop_at s (k + 1) hl2, hc, hd]; exact quoteL_esc d q _ he)
                have HE := Lib.hid he
                clear he n1
                have b1 : ((k : Int) + 1 == (s.size : Int)) = false := by simp; omega
                go_wp2_with fail
                (with_reducible refine (escaped_some d q _ HE.out).mono ?_)
                rintro ee w1 ⟨rfl, hw1⟩
                rw [hw1]
                clear hw1 w1
                dsimp only
                go_wp2_with fail
                (with_reducible refine (Tryd.Builder_WriteByte w.heap.size w.heap.size (Lib.byteCells acc) q.toNat _ hI.out (by rw [Lib.byteCells_length]; have := hA.out; omega) hwr.out).mono ?_)
                rintro ee w1 ⟨rfl, hb, hg⟩
                have HI : Hid (Lib.IsBuilder 58 5 w.heap.size w.heap.size (Lib.byteCells (acc ++ [q])) w1) := by
                  show Lib.IsBuilder _ _ _ _ _ _
                  rw [Lib.byteCells_append]; exact Or.inr hb
                have HB := Lib.hid (hB.out.trans hg)
                clear hb hg
                dsimp only
                go_wp2
                go_roundw
                case rel => exact ⟨k + 2, acc ++ [q], by omega, by omega, by go_num, HI.out, HB.out, by (show (acc ++ [q]).length ≤ k + 2; have := hA.out; simp; omega), HQ.out⟩
                case measure => simp [intOf]; omega
              | none =>
                have HQ : Hid (quoteL (s.data.toList.drop 1) = none) := hQ.out.none (by rw [drop_at s k hlt, drop_at s (k + 1) hl2, hc, hd]; exact quoteL_bad d _ he)
                have HE := Lib.hid he
                clear he n1
                have b1 : ((k : Int) + 1 == (s.size : Int)) = false := by simp; omega
                go_wp2_with fail
                (with_reducible refine (escaped_none d _ HE.out).mono ?_)
                rintro ee w1 ⟨rfl, hw1⟩
                rw [hw1]
                clear hw1 w1
                dsimp only
                go_wp2
                go_ret3
                exact UnqRet.no _ _ (grown_of_below hB.out) HQ.out
            · have HQ : Hid (quoteL (s.data.toList.drop 1) = none) := hQ.out.none (by
                rw [drop_at s k hlt, hc, show k + 1 = s.size by omega, drop_end]; exact quoteL_cut)
              have b1 : ((k : Int) + 1 == (s.size : Int)) = true := by simp; omega
              have b2 : (k : Int) + 1 = (s.size : Int) := by omega
              clear n1
              go_wp2
              go_ret3
              exact UnqRet.no _ _ (grown_of_below hB.out) HQ.out
          · have n2 : ((c.toNat : Int) == 92) = false := u8_ne c 92 h92
            have HQ : Hid (QuoteTo s (k + 1) (acc ++ [c])) := hQ.out.step (by rw [drop_at s k hlt, hc]; exact quoteL_byte c _ h34 h92)
            clear h34 h92
            go_wp2_with fail
            (with_reducible refine (Tryd.Builder_WriteByte w.heap.size w.heap.size (Lib.byteCells acc) c.toNat _ hI.out (by rw [Lib.byteCells_length]; have := hA.out; omega) hwr.out).mono ?_)
            rintro ee w1 ⟨rfl, hb, hg⟩
            have HI : Hid (Lib.IsBuilder 58 5 w.heap.size w.heap.size (Lib.byteCells (acc ++ [c])) w1) := by
              show Lib.IsBuilder _ _ _ _ _ _
              rw [Lib.byteCells_append]; exact Or.inr hb
            have HB := Lib.hid (hB.out.trans hg)
            clear hb hg
            dsimp only
            go_wp2
            go_roundw
            case rel => exact ⟨k + 1, acc ++ [c], by omega, by omega, by go_num, HI.out, HB.out, by (show (acc ++ [c]).length ≤ k + 1; have := hA.out; simp; omega), HQ.out⟩
            case measure => simp [intOf]; omega
      · have hks : k = s.size := by omega
        have HQ : Hid (quoteL (s.data.toList.drop 1) = none) := hQ.out.none (by rw [hks, drop_end]; rfl)
        subst hks
        clear hlt hk
        go_wp2
        go_ret3
        exact UnqRet.no _ _ (grown_of_below hB.out) HQ.out
end Go.Proofs.YtmjdkgbblccpgaaDoor
