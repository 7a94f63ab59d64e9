/- fault.tell: a chain of faults is written as it is told. -/
import Derived.Test.YtmjfeiddllagcaaDoorEb
import Derived.Test.YtmjfeiddllagcaaDoorQt
import Derived.Test.YtmjfeiddllagcaaDoorEw
import Derived.Test.YtmjfeiddllagcaaDoorEh
namespace Go.Proofs.YtmjfeiddllagcaaDoor
open Go.RowKit

set_option maxRecDepth 1000000
/-- What a chain tells, over the number's own text. -/
def toldL : List (ByteArray × ByteArray) → List UInt8 → List UInt8
  | [], T => T
  | (o, n) :: l, T => o.data.toList ++ 32 :: (n.data.toList ++ 58 :: 32 :: toldL l T)
/-- A number's text. -/
def errT (k : Nat) : List UInt8 := [101, 114, 114, 32] ++ Lib.decDigits k
theorem errno_text (k : Nat) (hk : k < 100) (w : World) : Calls Tryd.prog 63 #[.int .i64 k] w fun e w' => e = .returned (.string (toB (errT k))) ∧ w' = w := by
  have HI := Lib.hid (Tryd.strconv_Itoa_small k hk w)
  have hd : (Lib.decDigits k).length ≤ 100 := by
    have : ∀ j : Fin 100, (Lib.decDigits j.1).length ≤ 100 := by decide +kernel
    exact this ⟨k, hk⟩
  obtain ⟨D, hD⟩ : ∃ D, Lib.decDigits k = D := ⟨_, rfl⟩
  unfold errT
  rw [hD] at HI hd ⊢
  clear hD
  go_enter Tryd.func63, Tryd.ntmps63
  go_wp2_with ((with_reducible refine HI.out.mono ?_); rintro ee w1 ⟨rfl, rfl⟩; dsimp only)
  go_ret
  refine ⟨congrArg (fun z => Ending.returned (.string z)) ?_, rfl⟩
  apply ByteArray.ext
  simp [toB]
theorem er_write (B b : Nat) (acc : List UInt8) (x : List UInt8) (s : ByteArray) (hx : s = toB x) (w : World) (h : Hid (Lib.IsBuilder 61 5 B b (Lib.byteCells acc) w)) (hlen : acc.length + x.length ≤ 140737488355328) (hB : Hid (B ≤ w.heap.size)) :
    Calls Tryd.prog 40 #[.pointer (some ⟨b, 0, none⟩), .string s] w fun e w' => e = .returned (.tuple #[.int .i64 s.size, .nilIface]) ∧ Hid (Lib.IsBuilder 61 5 B b (Lib.byteCells (acc ++ x)) w') ∧ Hid (Below B w w') := by
  subst hx
  refine (Tryd.Builder_WriteString B b (Lib.byteCells acc) (toB x) w h.out (by rw [Lib.byteCells_length, ← data_len, data_toB]; exact hlen) hB.out).mono fun e w' ⟨h1, h2, h3⟩ => ⟨h1, ?_, h3⟩
  show Lib.IsBuilder _ _ _ _ _ _
  rw [Lib.byteCells_append]
  exact Or.inr h2
theorem errT_len (k : Nat) (hk : k < 100) : (errT k).length ≤ 100 := by
  have : ∀ j : Fin 100, (errT j.1).length ≤ 100 := by decide +kernel
  exact this ⟨k, hk⟩
theorem toldL_len (l : List (ByteArray × ByteArray)) (T : List UInt8) (hs : ∀ p ∈ l, p.1.size ≤ 100 ∧ p.2.size ≤ 100) : (toldL l T).length ≤ 203 * l.length + T.length := by
  induction l with
  | nil => simp [toldL]
  | cons p l ih =>
    obtain ⟨o, n⟩ := p
    have h1 := hs (o, n) (by simp)
    have h2 := ih (fun q hq => hs q (by simp [hq]))
    simp only [toldL, List.length_append, List.length_cons, data_len]
    dsimp only at h1
    omega
theorem er_kept {B b : Nat} {l : List Value} {w w' : World} (h : Lib.IsBuilder 61 5 B b l w) (hg : w.grownBy w' none) : Lib.IsBuilder 61 5 B b l w' := by
  have H : ∀ p, Lib.BuilderAt 61 5 B b p l w → Lib.BuilderAt 61 5 B b p l w' := by
    intro p h
    obtain ⟨hB, v, hb, hown, hne⟩ := h
    exact ⟨hB, v, bk_kept hb hg, World.ownsRow.kept hown hg (by cases v.ownBlock with
      | none => exact .inl rfl
      | some k => exact .inr (by simp)), hne⟩
  exact h.elim (fun x => .inl (H _ x)) (fun x => .inr (H _ x))
/-- What is written on: the chain lies below B, where the builder's own memory begins. -/
def Writ (w : World) (B b : Nat) (T : List UInt8) (e : Ending) (w' : World) : Prop := e = .returned (.tuple #[]) ∧ Hid (Lib.IsBuilder 61 5 B b (Lib.byteCells T) w') ∧ Hid (Below B w w')
set_option maxHeartbeats 4000000 in
theorem tell_num (B b k : Nat) (acc : List UInt8) (w : World) (hk : k < 100) (h : Hid (Lib.IsBuilder 61 5 B b (Lib.byteCells acc) w)) (hlen : acc.length ≤ 1000000) (hB : Hid (B ≤ w.heap.size)) :
    Calls Tryd.prog 29 #[.pointer (some ⟨b, 0, none⟩), .iface 25 (.int .i64 k)] w (Writ w B b (acc ++ errT k)) := by
  have h1 : ∀ (v : Value) (xT : TypeId) (w : World), (Instr.typeAssert (.iface 25 v) xT 39 true).run Tryd.prog w = .ok (.tuple #[.pointer none, .bool false]) w := fun v xT w => by kernel_rfl
  have h2 : ∀ (v : Value) (xT : TypeId) (w : World), (Instr.typeAssert (.iface 25 v) xT 67 true).run Tryd.prog w = .ok (.tuple #[.pointer none, .bool false]) w := fun v xT w => by kernel_rfl
  have hm : ∀ (v : Value) (w : World), (Go.method 251 25 v "Error").run Tryd.prog w = .ok (63, v) w := fun v w => by kernel_rfl
  have he : ∀ (v : Value) (W : World), (binOp .eql 27 (.iface 25 v) .nilIface).run Tryd.prog W = .ok (.bool false) W := fun v W => by kernel_rfl
  have HT := Lib.hid (errno_text k hk w)
  go_enter Tryd.func29, Tryd.ntmps29
  go_wp2_with ((with_reducible refine HT.out.mono ?_); rintro ee w1 ⟨rfl, rfl⟩; dsimp only)
  go_wp2_with ((with_reducible refine (er_write B b acc (errT k) _ rfl _ h (by have := errT_len k hk; omega) hB).mono ?_); rintro ee w2 ⟨rfl, hI, hb⟩; dsimp only)
  go_end0
  exact ⟨rfl, hI, hb⟩
set_option maxHeartbeats 8000000 in
theorem tell_any (B b k : Nat) (w0 : World) (h0 : w0.heap.size ≤ B) (hk : k < 100) (l : List (ByteArray × ByteArray)) : ∀ (e : Value) (acc : List UInt8) (w : World), Fchain w0 l k e → (∀ p ∈ l, p.1.size ≤ 100 ∧ p.2.size ≤ 100) → l.length ≤ 1000 → acc.length ≤ 500000 - 210 * l.length → Hid (Below B w0 w) →
    Hid (Lib.IsBuilder 61 5 B b (Lib.byteCells acc) w) → Hid (B ≤ w.heap.size) → Calls Tryd.prog 29 #[.pointer (some ⟨b, 0, none⟩), e] w (Writ w B b (acc ++ toldL l (errT k))) := by
  induction l with
  | nil =>
    intro e acc w hc hs hl ha hw hI hB
    cases hc
    exact tell_num B b k acc w hk hI (by simp at ha; omega) hB
  | cons p l ih =>
    obtain ⟨op, name⟩ := p
    intro e acc w hc hs hl ha hw hI hB
    cases hc with
    | fault bb _ _ _ _ e' hb r =>
    have hbb := (hw.out.block bb (Nat.lt_of_lt_of_le (bk_size hb) h0)).trans hb
    obtain ⟨t', v', rfl⟩ := r.shape
    have h1 : ∀ (v : Value) (xT : TypeId) (w : World), (Instr.typeAssert (.iface 39 v) xT 39 true).run Tryd.prog w = .ok (.tuple #[v, .bool true]) w := fun v xT w => by kernel_rfl
    have he : ∀ (t : TypeId) (v : Value) (W : World), (binOp .eql 27 (.iface t v) .nilIface).run Tryd.prog W = .ok (.bool false) W := fun t v W => by kernel_rfl
    obtain ⟨c0, _⟩ := bk_cell hbb 0 _ rfl
    obtain ⟨c1, _⟩ := bk_cell hbb 1 _ rfl
    obtain ⟨s1, s2⟩ := hs (op, name) (by simp)
    dsimp only at s1 s2
    have HR := Lib.hid r
    have HBB := Lib.hid hbb
    have HS := Lib.hid hs
    have hbB := Nat.lt_of_lt_of_le (bk_size hb) h0
    clear hs hb hbb r
    go_enter Tryd.func29, Tryd.ntmps29
    go_wp2_with fail
    refine region_quiet_tail 12 (C := fun w' => w' = w.drew) (by kernel_rfl) (by kernel_rfl) rfl ?_
    simp only [List.take_succ_cons, List.take_zero, List.drop_succ_cons, List.drop_zero]
    refine wpQuiet_step (fun K hK => ?_)
    go_simp
    first | refine hK _ ?_ | refine ⟨_, fun W hW => rfl, hK _ ?_⟩ | refine ⟨_, fun W hW => ⟨rfl, rfl⟩, hK _ ?_⟩
    clear hK K
    refine wpQuiet_step (fun K hK => ?_)
    go_simp
    first | refine hK _ ?_ | refine ⟨_, fun W hW => rfl, hK _ ?_⟩ | refine ⟨_, fun W hW => ⟨rfl, rfl⟩, hK _ ?_⟩
    clear hK K
    refine wpQuiet_step (fun K hK => ?_)
    go_simp
    first | refine hK _ ?_ | refine ⟨_, fun W hW => rfl, hK _ ?_⟩ | refine ⟨_, fun W hW => ⟨rfl, rfl⟩, hK _ ?_⟩
    clear hK K
    refine wpQuiet_step (fun K hK => ?_)
    go_simp
    first | refine hK _ ?_ | refine ⟨_, fun W hW => rfl, hK _ ?_⟩ | refine ⟨_, fun W hW => ⟨rfl, rfl⟩, hK _ ?_⟩
    clear hK K
    refine wpQuiet_step (fun K hK => ?_)
    go_simp
    refine hK _ ?_
    clear hK K
    refine wpQuiet_step (fun K hK => ?_)
    go_simp
    refine ⟨.string (op ++ ⟨#[32]⟩), (by rw [if_neg (by omega)]; exact ⟨rfl, rfl⟩), hK _ ?_⟩
    clear hK K
    refine wpQuiet_step (fun K hK => ?_)
    go_simp
    first | refine hK _ ?_ | refine ⟨_, fun W hW => rfl, hK _ ?_⟩ | refine ⟨_, fun W hW => ⟨rfl, rfl⟩, hK _ ?_⟩
    clear hK K
    refine wpQuiet_step (fun K hK => ?_)
    go_simp
    first | refine hK _ ?_ | refine ⟨_, fun W hW => rfl, hK _ ?_⟩ | refine ⟨_, fun W hW => ⟨rfl, rfl⟩, hK _ ?_⟩
    clear hK K
    refine wpQuiet_step (fun K hK => ?_)
    go_simp
    first | refine hK _ ?_ | refine ⟨_, fun W hW => rfl, hK _ ?_⟩ | refine ⟨_, fun W hW => ⟨rfl, rfl⟩, hK _ ?_⟩
    clear hK K
    refine wpQuiet_step (fun K hK => ?_)
    go_simp
    refine hK _ ?_
    clear hK K
    refine wpQuiet_step (fun K hK => ?_)
    go_simp
    refine ⟨.string (op ++ ⟨#[32]⟩ ++ name), (by rw [if_neg (by omega)]; exact ⟨rfl, rfl⟩), hK _ ?_⟩
    clear hK K
    refine wpQuiet_step (fun K hK => ?_)
    go_simp
    refine ⟨.string (op ++ ⟨#[32]⟩ ++ name ++ ⟨#[58, 32]⟩), (by rw [if_neg (by omega)]; exact ⟨rfl, rfl⟩), hK _ ?_⟩
    clear hK K
    refine wpQuiet_nil ?_
    rintro w1 rfl
    have hx : op ++ ⟨#[32]⟩ ++ name ++ ⟨#[58, 32]⟩ = toB (op.data.toList ++ 32 :: (name.data.toList ++ [58, 32])) := by
      apply ByteArray.ext
      apply Array.ext'
      simp [toB]
    obtain ⟨S, hS⟩ : ∃ S, op ++ ⟨#[32]⟩ ++ name ++ ⟨#[58, 32]⟩ = S := ⟨_, rfl⟩
    rw [hS] at hx
    have HX := Lib.hid hx
    have hxl : (op.data.toList ++ 32 :: (name.data.toList ++ [58, 32])).length ≤ 203 := by simp; omega
    have HI1 : Hid (Lib.IsBuilder 61 5 B b (Lib.byteCells acc) w.drew) := er_kept hI.out ⟨rfl, rfl, rfl, Nat.le_refl _, fun _ _ _ => rfl⟩
    rw [hS]
    clear hS hx c0 c1
    have hla : acc.length ≤ 500000 := by omega
    have hB1 : Hid (B ≤ w.drew.heap.size) := hB
    go_wp2_with fail
    (with_reducible refine (er_write B b acc (op.data.toList ++ 32 :: (name.data.toList ++ [58, 32])) S HX.out w.drew HI1 (by omega) hB1).mono ?_)
    rintro ee w2 ⟨rfl, hI2, hb2⟩
    dsimp only
    have hB2 : Hid (B ≤ w2.heap.size) := Nat.le_trans hB.out hb2.out.size
    have hw2 : Hid (Below B w w2) := below_trans (below_drew 1) hb2.out
    have HB2 := Lib.hid ((hw2.out.block bb hbB).trans HBB.out)
    obtain ⟨c2, _⟩ := bk_cell HB2.out 2 _ rfl
    have HIH := Lib.hid (ih (.iface t' v') (acc ++ (op.data.toList ++ 32 :: (name.data.toList ++ [58, 32]))) w2 HR.out (fun q hq => HS.out q (by simp [hq])) (by simp at hl; omega) (by simp at ha hl ⊢; omega) (below_trans hw.out hw2.out) hI2 hB2)
    clear hI hI2 HI1
    go_wp2_with fail
    (with_reducible refine HIH.out.mono ?_)
    rintro ee w3 ⟨rfl, hI3, hb3⟩
    dsimp only
    go_wp2
    go_end0
    refine ⟨rfl, ?_, below_trans hw2.out hb3.out⟩
    have hT : acc ++ (op.data.toList ++ 32 :: (name.data.toList ++ [58, 32])) ++ toldL l (errT k) = acc ++ toldL ((op, name) :: l) (errT k) := by simp [toldL]
    rw [hT] at hI3
    exact hI3
end Go.Proofs.YtmjfeiddllagcaaDoor
