/-
  The document's Kept, At, Tail, Ends; the law's keeps, awake: walked.
-/
import Derived.Test.YtbdpdfdcenidkaaRgE
set_option linter.unusedSimpArgs false
set_option linter.unusedVariables false
namespace Go.Proofs.Ytbdpdfdcenidkaa
open Go.RowKit

theorem list_fullR {l : List UInt8} (h : l ≠ []) : l.isEmpty = false := by cases l with
  | nil => exact absurd rfl h
  | cons _ _ => rfl

theorem lastL_cut (l : List UInt8) (k : Nat) : (⟨l.toArray⟩ : ByteArray).extract k l.length = ⟨(l.drop k).toArray⟩ := by
  rw [Lib.extract_eq]; simp [← List.drop_take]

set_option maxHeartbeats 1000000 in
theorem rkept_any (l : List UInt8) (n : Nat) (w : World) (hl : l.length ≤ 1000000000) :
    Calls Try.prog 17 #[.string ⟨l.toArray⟩, .int .i64 n] w fun e w' => e = .returned (.string ⟨(lastL l n).toArray⟩) ∧ w = w' := by
  have HS := Lib.hid (bsize l)
  by_cases h : n < l.length
  · have hx := lastL_cut l (l.length - n)
    have h1 : (n : Int) < (l.length : Int) := by omega
    have h2 : ((l.length : Int) - (n : Int)).toNat = l.length - n := by omega
    go_enter Try.func17, Try.ntmps17
    go_wp2
    go_ret
    exact ⟨rfl, rfl⟩
  · have HX := Lib.hid (lastL_all l n (by omega))
    have h1 : ¬ (n : Int) < (l.length : Int) := by omega
    go_enter Try.func17, Try.ntmps17
    go_wp2
    go_ret
    exact ⟨by rw [HX.out]; rfl, rfl⟩

/-- The byte so far ahead of the last one. -/
def atO (k : List UInt8) (d : Int) : Option UInt8 := if 0 ≤ d ∧ d < k.length then k[k.length - 1 - d.toNat]? else none

theorem atO_none {k : List UInt8} {d : Int} (h : atO k d = none) : d < 0 ∨ (k.length : Int) ≤ d := by
  unfold atO at h
  split at h
  · rename_i h1
    rw [List.getElem?_eq_none_iff] at h
    omega
  · omega

theorem atO_some {k : List UInt8} {d : Int} {x : UInt8} (h : atO k d = some x) : 0 ≤ d ∧ d < k.length ∧ k[k.length - 1 - d.toNat]? = some x := by
  unfold atO at h
  split at h
  · rename_i h1
    exact ⟨h1.1, h1.2, h⟩
  · cases h

/-- What At answers. -/
def AtR (o : Option UInt8) : Ending := match o with | none => .returned (.tuple #[.int .u8 0, .bool false]) | some x => .returned (.tuple #[.int .u8 (x.toNat : Int), .bool true])
def AtK (o : Option UInt8) : Int := match o with | none => -1 | some x => (x.toNat : Int)

theorem rgat_any {w : World} {base b size : Nat} {s : List UInt8} (h : IsRing w base b size s) (d : Int) (hs : s.length ≤ 1000000000) :
    Calls Try.prog 12 #[.pointer (some ⟨b, 0, none⟩), .int .i64 d] w fun e w' => e = AtR (atO (lastL s size) d) ∧ w = w' := by
  cases ho : atO (lastL s size) d with
  | none => exact at_out h d (atO_none ho)
  | some x =>
    obtain ⟨h0, h1, h2⟩ := atO_some ho
    obtain ⟨m, rfl⟩ : ∃ m : Nat, d = m := ⟨d.toNat, by omega⟩
    exact at_in h m hs x (by omega) (by simpa using h2)

set_option maxHeartbeats 1000000 in
theorem rat_any (l : List UInt8) (d : Int) (w : World) (hl : l.length ≤ 1000000000) :
    Calls Try.prog 18 #[.string ⟨l.toArray⟩, .int .i64 d] w fun e w' => e = .returned (.int .i64 (AtK (atO l d))) ∧ w = w' := by
  have HS := Lib.hid (bsize l)
  cases ho : atO l d with
  | none =>
    by_cases h0 : d < 0
    · go_enter Try.func18, Try.ntmps18
      go_wp2
      go_ret
      exact ⟨rfl, rfl⟩
    · have h1 : (l.length : Int) ≤ d := by have := atO_none ho; omega
      clear ho
      go_enter Try.func18, Try.ntmps18
      go_wp2
      go_ret
      exact ⟨rfl, rfl⟩
  | some x =>
    obtain ⟨h0, h1, h2⟩ := atO_some ho
    obtain ⟨m, rfl⟩ : ∃ m : Nat, d = m := ⟨d.toNat, by omega⟩
    obtain ⟨hj, h3⟩ := List.getElem?_eq_some_iff.1 h2
    rw [Int.toNat_natCast] at hj
    have k1 : (0 : Int) ≤ (l.length : Int) - 1 - (m : Int) := by omega
    have k2 : (l.length : Int) - 1 - (m : Int) < (l.length : Int) := by omega
    have hz : l.length - 1 - m < (⟨l.toArray⟩ : ByteArray).size := by rw [bsize]; omega
    have HB : Hid ((⟨l.toArray⟩ : ByteArray)[l.length - 1 - m]'hz = x) := Lib.hid ((byteAt l _ hj hz).trans h3)
    have HW : Hid (wrap64 (x.toNat : Int) = (x.toNat : Int)) := Lib.hid (by have := x.toNat_lt; unfold wrap64; omega)
    clear ho h2 h3
    go_enter Try.func18, Try.ntmps18
    go_wp2
    go_ret
    refine ⟨?_, rfl⟩
    show Ending.returned (Value.int .i64 (wrap64 ((⟨l.toArray⟩ : ByteArray)[l.length - 1 - m]'hz).toNat)) = _
    rw [HB.out, HW.out]
    rfl

set_option maxHeartbeats 1000000 in
theorem rtail_any (l : List UInt8) (n : Int) (w : World) (hl : l.length ≤ 1000000000) :
    Calls Try.prog 19 #[.string ⟨l.toArray⟩, .int .i64 n] w fun e w' => e = .returned (.string ⟨(tailL l n).toArray⟩) ∧ w = w' := by
  by_cases h : n < 0
  · have HX : Hid (tailL l n = []) := Lib.hid (by rw [tailL, show n.toNat = 0 by omega, lastL_zero])
    go_enter Try.func19, Try.ntmps19
    go_wp2
    go_ret
    exact ⟨by rw [HX.out]; rfl, rfl⟩
  · obtain ⟨m, rfl⟩ : ∃ m : Nat, n = m := ⟨n.toNat, by omega⟩
    have HX : Hid (tailL l m = lastL l m) := Lib.hid (by rw [tailL, Int.toNat_natCast])
    have HK := Lib.hid (rkept_any l m w hl)
    go_enter Try.func19, Try.ntmps19
    go_wp2_with fail
    refine HK.out.mono ?_
    rintro e w' ⟨rfl, rfl⟩
    go_wp2
    go_ret
    exact ⟨by rw [HX.out]; rfl, rfl⟩

set_option maxHeartbeats 1000000 in
theorem rends_any (l t : List UInt8) (w : World) (hl : l.length ≤ 1000000000) (ht : t.length ≤ 1000000000) :
    Calls Try.prog 20 #[.string ⟨l.toArray⟩, .string ⟨t.toArray⟩] w fun e w' => e = .returned (.bool (endsB l t)) ∧ w = w' := by
  have HS := Lib.hid (bsize l)
  have HT := Lib.hid (bsize t)
  by_cases h : t.length ≤ l.length
  · have hx := lastL_cut l (l.length - t.length)
    have h1 : (t.length : Int) ≤ (l.length : Int) := by omega
    have h2 : ((l.length : Int) - (t.length : Int)).toNat = l.length - t.length := by omega
    have HE : Hid (endsB l t = (l.drop (l.length - t.length) == t)) := Lib.hid (by rw [endsB, decide_eq_true h]; rfl)
    generalize l.drop (l.length - t.length) = x at hx HE
    go_enter Try.func20, Try.ntmps20
    go_wp2
    go_ret
    exact ⟨by rw [HE.out]; rfl, rfl⟩
  · have h1 : ¬ (t.length : Int) ≤ (l.length : Int) := by omega
    have HE : Hid (endsB l t = false) := Lib.hid (by rw [endsB, decide_eq_false h]; rfl)
    go_enter Try.func20, Try.ntmps20
    go_wp2
    go_ret
    exact ⟨by rw [HE.out]; rfl, rfl⟩
end Go.Proofs.Ytbdpdfdcenidkaa
