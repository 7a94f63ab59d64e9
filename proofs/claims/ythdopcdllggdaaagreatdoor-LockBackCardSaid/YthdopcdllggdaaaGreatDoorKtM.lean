/- Pins with names, versions, sums: what a lockfile of them is read as (pure). -/
import Derived.Test.YthdopcdllggdaaaGreatDoorKjM
import Derived.Test.YthdopcdllggdaaaGreatDoorKeM
namespace Go.Proofs.YthdopcdllggdaaaGreatDoor
open Go.RowKit

/-- The three texts of versions. -/
def vText (q : Nat) : ByteArray := if q = 0 then ⟨#[49, 46, 48, 46, 48]⟩ else if q = 1 then ⟨#[48, 46, 49, 46, 48, 45, 97, 46, 49]⟩ else ⟨#[49, 50, 46, 51, 46, 57, 57, 57, 57, 57, 57, 57, 57, 57]⟩
/-- The three versions. -/
def verQ (q : Nat) : Vn := if q = 0 then verOne else if q = 1 then ⟨0, 1, 0, [⟨#[97]⟩, ⟨#[49]⟩]⟩ else ⟨12, 3, 999999999, []⟩
theorem ver_marks : parseS ⟨#[48, 46, 49, 46, 48, 45, 97, 46, 49]⟩ = (⟨0, 1, 0, [⟨#[97]⟩, ⟨#[49]⟩]⟩, 0) := by
  unfold parseS
  have e : dashS ⟨#[48, 46, 49, 46, 48, 45, 97, 46, 49]⟩ = (⟨#[48, 46, 49, 46, 48]⟩, ⟨#[97, 46, 49]⟩, true) := by decide +kernel
  rw [e]
  simp only
  rw [pieces_of]
  unfold parseP preOf okVer
  rw [pieces_of]
  decide +kernel
theorem ver_long : parseS ⟨#[49, 50, 46, 51, 46, 57, 57, 57, 57, 57, 57, 57, 57, 57]⟩ = (⟨12, 3, 999999999, []⟩, 0) := by
  have h := nums_parse 12 3 999999999 (by omega) (by omega) (by omega)
  have e : numsS 12 3 999999999 = ⟨#[49, 50, 46, 51, 46, 57, 57, 57, 57, 57, 57, 57, 57, 57]⟩ := by decide +kernel
  rw [e] at h
  exact h
theorem verQ_read (q : Nat) : parseS (vText q) = (verQ q, 0) := by
  unfold vText verQ
  split
  · exact one_parse
  · split
    · exact ver_marks
    · exact ver_long
theorem verQ_text (q : Nat) : textS (verQ q) = vText q := (parse_read _ _ (verQ_read q)).text
theorem vText_no (q : Nat) : NoB 10 (vText q) ∧ NoB 32 (vText q) ∧ (vText q).size ≤ 100 := by
  unfold vText
  split
  · exact ⟨show ∀ c ∈ [(49 : UInt8), 46, 48, 46, 48], c ≠ 10 by decide, show ∀ c ∈ [(49 : UInt8), 46, 48, 46, 48], c ≠ 32 by decide, by decide⟩
  · split
    · exact ⟨show ∀ c ∈ [(48 : UInt8), 46, 49, 46, 48, 45, 97, 46, 49], c ≠ 10 by decide, show ∀ c ∈ [(48 : UInt8), 46, 49, 46, 48, 45, 97, 46, 49], c ≠ 32 by decide, by decide⟩
    · exact ⟨show ∀ c ∈ [(49 : UInt8), 50, 46, 51, 46, 57, 57, 57, 57, 57, 57, 57, 57, 57], c ≠ 10 by decide, show ∀ c ∈ [(49 : UInt8), 50, 46, 51, 46, 57, 57, 57, 57, 57, 57, 57, 57, 57], c ≠ 32 by decide, by decide⟩
/-- A pin that LockBack makes: a name of a number, one of three versions, any sum. -/
def BackP (p : Pc) : Prop := ∃ n q, n ≤ 255 ∧ p.name = nameN 112 n ∧ p.v = verQ q
theorem BackP.good {p : Pc} (h : BackP p) : Good p := by
  obtain ⟨n, q, hn, h1, h2⟩ := h
  have h3 := vText_no q
  exact ⟨by rw [h1]; exact nameN_ok 112 (by decide) n hn, by rw [h2, verQ_text]; exact verQ_read q, by rw [h2, verQ_text]; exact h3.1, by rw [h2, verQ_text]; exact h3.2.1⟩
theorem BackP.line {p : Pc} (h : BackP p) : (pinL p).length ≤ 200 := by
  obtain ⟨n, q, hn, h1, h2⟩ := h
  refine line_len p ?_ (by rw [h2, verQ_text]; exact (vText_no q).2.2)
  have hs : (nameN 112 n).size = (decS (n : Int)).size + 1 := by unfold nameN; rw [size_toB, List.length_cons, data_len]
  have h3 := dec_short n hn
  rw [h1]
  omega
theorem back_lock (L : List Pc) (h : ∀ p ∈ L, BackP p) (hd : (L.map (·.name)).Nodup) (hl : L.length ≤ 10) : lockS (toB (lockT L)) = .inr ((sortP L).map mp) := by
  unfold lockT
  refine lock_back _ (fun p hp => (h p ((sortP_mem _ p).1 hp)).good) (asc_sort _ hd (fun p hp => (h p hp).good.name)) (by rw [sortP_len]; omega) ?_
  have := row_len (sortP L) (fun p hp => (h p ((sortP_mem _ p).1 hp)).line)
  rw [sortP_len] at this
  omega
theorem back_size (L : List Pc) (h : ∀ p ∈ L, BackP p) (hl : L.length ≤ 10) : (⟨(lockT L).toArray⟩ : ByteArray).size ≤ 2007 ∧ 7 ≤ (⟨(lockT L).toArray⟩ : ByteArray).size := by
  have := row_len (sortP L) (fun p hp => (h p ((sortP_mem _ p).1 hp)).line)
  rw [sortP_len] at this
  have e := size_toB (lockT L)
  unfold toB at e
  rw [e]
  unfold lockT
  refine ⟨by omega, ?_⟩
  unfold rowT
  rw [List.length_append]
  show 7 ≤ 7 + _
  omega
theorem BackP.at {p : Pc} (h : BackP p) {w : World} {B : Nat} (hp : PartS w B p.sl p.v.pre) : PcAt w B p := by
  obtain ⟨n, q, hn, h1, h2⟩ := h
  have hr : Read (vText q) p.v := by rw [h2]; exact parse_read _ _ (verQ_read q)
  refine ⟨hr.at hp, ?_⟩
  have hs : (nameN 112 n).size = (decS (n : Int)).size + 1 := by unfold nameN; rw [size_toB, List.length_cons, data_len]
  have h3 := dec_short n hn
  rw [h1]
  omega
end Go.Proofs.YthdopcdllggdaaaGreatDoor
