/-
  frame.Take, walked.
-/
import Derived.Test.YtgkpeehondmalaaFrW
import Derived.Test.YtgkpeehondmalaaVarT
set_option linter.unusedSimpArgs false
set_option linter.unusedVariables false
namespace Go.Proofs.Ytgkpeehondmalaa
open Go.RowKit

/-- Take's answer: a frame, a size, an error; nothing that was there is written. -/
def RetF (l : List UInt8) (w : World) (e : Ending) (w' : World) : Prop := e = .returned (.tuple #[.agg #[.int .i64 (tkK l), .string (tkB l)], .int .i64 (tkS l), .int .i64 (tkE l)]) ∧ Below w.heap.size w w'

theorem RetF.bad {l : List UInt8} {x : Int} {w w' : World} {e : Ending} (ht : tkE l = x ∧ tkS l = 0 ∧ tkK l = 0 ∧ tkB l = ByteArray.empty) (he : e = .returned (.tuple #[.agg #[.int .i64 0, .string ByteArray.empty], .int .i64 0, .int .i64 x])) (hb : Below w.heap.size w w') : RetF l w e w' := by
  obtain ⟨h1, h2, h3, h4⟩ := ht
  exact ⟨by rw [he, h1, h2, h3, h4], hb⟩

/-- varint.Take of what stands behind the first byte. -/
theorem take_tail (c : UInt8) (r : List UInt8) (w : World) (h : r.length ≤ 1000000) :
    Calls Try.prog 27 #[.string ((⟨(c :: r).toArray⟩ : ByteArray).extract 1 (r.length + 1))] w (RetT (tN r) (tS r) (tE r) w) := by
  have e : (⟨(c :: r).toArray⟩ : ByteArray).extract 1 (r.length + 1) = ⟨r.toArray⟩ := by
    rw [Lib.extract_eq]; simp
  rw [e]
  exact take_any r w (by omega)

theorem head_byte (c : UInt8) (r : List UInt8) (h : 0 < (⟨(c :: r).toArray⟩ : ByteArray).size) : (⟨(c :: r).toArray⟩ : ByteArray)[0]'h = c := rfl

set_option maxHeartbeats 1000000 in
theorem ftake_nil (w : World) : Calls Try.prog 16 #[.string ⟨#[]⟩] w (RetF [] w) := by
  have HT := Lib.hid (tk_bad [] 4 tk_nil (by decide))
  go_enter Try.func16, Try.ntmps16
  go_wp2_with fail
  exact bodyPost_ret (v := .tuple #[.agg #[.int .i64 0, .string ByteArray.empty], .int .i64 0, .int .i64 4]) (by simp [results, Try.results16, go_sem]; rfl) rfl (RetF.bad HT.out rfl ((Below.refl _ _).alloc (Nat.le_refl _) _))

set_option maxHeartbeats 1000000 in
theorem ftake_form (c : UInt8) (r : List UInt8) (w : World) (h : r.length ≤ 1000000) (hc : (c.toNat : Int) < 1 ∨ 127 < (c.toNat : Int)) : Calls Try.prog 16 #[.string ⟨(c :: r).toArray⟩] w (RetF (c :: r) w) := by
  have HT := Lib.hid (tk_bad (c :: r) 3 (by by_cases h1 : c.toNat < 1; exact tk_low c r h1; exact tk_high c r h1 (by omega)) (by decide))
  have HK := Lib.hid (fun w => kind_no (c.toNat : Int) w hc)
  have hcl := c.toNat_lt
  have hz := head_byte c r
  clear hc
  go_enter Try.func16, Try.ntmps16
  go_wp2_with fail
  refine (HK.out _).mono ?_
  rintro e w' ⟨rfl, rfl⟩
  go_wp2
  exact bodyPost_ret (v := .tuple #[.agg #[.int .i64 0, .string ByteArray.empty], .int .i64 0, .int .i64 3]) (by simp [results, Try.results16, go_sem]; rfl) rfl (RetF.bad HT.out rfl ((Below.refl _ _).alloc (Nat.le_refl _) _))

set_option maxHeartbeats 1000000 in
theorem ftake_num (c : UInt8) (r : List UInt8) (w : World) (h : r.length ≤ 1000000) (h0 : 1 ≤ (c.toNat : Int)) (h1 : (c.toNat : Int) ≤ 127) (hE : tE r ≠ 0) : Calls Try.prog 16 #[.string ⟨(c :: r).toArray⟩] w (RetF (c :: r) w) := by
  have HT := Lib.hid (tk_bad (c :: r) (tE r) (tk_num c r (by omega) (by omega) hE) hE)
  have HK := Lib.hid (fun w => kind_yes (c.toNat : Int) w h0 h1)
  have HV := Lib.hid (fun w => take_tail c r w h)
  have hs : tS r = 0 := by unfold tS; rw [if_neg hE]
  have hn : tN r = 0 := by unfold tN; rw [if_neg hE]
  rw [hs, hn] at HV
  have hcl := c.toNat_lt
  have hz := head_byte c r
  have hE' : (tE r == 0) = false := by simpa using hE
  generalize tE r = x at *
  clear hE hs hn
  go_enter Try.func16, Try.ntmps16
  go_wp2_with fail
  refine (HK.out _).mono ?_
  rintro e w' ⟨rfl, rfl⟩
  go_wp2_with fail
  refine (HV.out _).mono ?_
  rintro e w' ⟨rfl, rfl⟩
  go_wp2
  exact bodyPost_ret (v := .tuple #[.agg #[.int .i64 0, .string ByteArray.empty], .int .i64 0, .int .i64 x]) (by simp [results, Try.results16, go_sem]; rfl) rfl (RetF.bad HT.out rfl ((Below.refl _ _).alloc (Nat.le_refl _) _))

set_option maxHeartbeats 1000000 in
theorem ftake_long (c : UInt8) (r : List UInt8) (w : World) (h : r.length ≤ 1000000) (h0 : 1 ≤ (c.toNat : Int)) (h1 : (c.toNat : Int) ≤ 127) (hE : tE r = 0) (hL : 67108864 < tN r) : Calls Try.prog 16 #[.string ⟨(c :: r).toArray⟩] w (RetF (c :: r) w) := by
  have HT := Lib.hid (tk_bad (c :: r) 5 (tk_long c r (by omega) (by omega) hE hL) (by decide))
  have HK := Lib.hid (fun w => kind_yes (c.toNat : Int) w h0 h1)
  have HV := Lib.hid (fun w => take_tail c r w h)
  obtain ⟨s1, s2, _⟩ := put_take r hE
  obtain ⟨n1, n2⟩ := tN_bounds r
  rw [hE] at HV
  have hcl := c.toNat_lt
  have hz := head_byte c r
  generalize tS r = s at *
  generalize tN r = n at *
  clear hE
  go_enter Try.func16, Try.ntmps16
  go_wp2_with fail
  refine (HK.out _).mono ?_
  rintro e w' ⟨rfl, rfl⟩
  go_wp2_with fail
  refine (HV.out _).mono ?_
  rintro e w' ⟨rfl, rfl⟩
  go_wp2
  exact bodyPost_ret (v := .tuple #[.agg #[.int .i64 0, .string ByteArray.empty], .int .i64 0, .int .i64 5]) (by simp [results, Try.results16, go_sem]; rfl) rfl (RetF.bad HT.out rfl ((Below.refl _ _).alloc (Nat.le_refl _) _))

set_option maxHeartbeats 1000000 in
theorem ftake_short (c : UInt8) (r : List UInt8) (w : World) (h : r.length ≤ 1000000) (h0 : 1 ≤ (c.toNat : Int)) (h1 : (c.toNat : Int) ≤ 127) (hE : tE r = 0) (hL : ¬ 67108864 < tN r) (hS : (r.length : Int) - tS r < tN r) : Calls Try.prog 16 #[.string ⟨(c :: r).toArray⟩] w (RetF (c :: r) w) := by
  have HT := Lib.hid (tk_bad (c :: r) 4 (tk_short c r (by omega) (by omega) hE hL hS) (by decide))
  have HK := Lib.hid (fun w => kind_yes (c.toNat : Int) w h0 h1)
  have HV := Lib.hid (fun w => take_tail c r w h)
  obtain ⟨s1, s2, _⟩ := put_take r hE
  obtain ⟨n1, n2⟩ := tN_bounds r
  rw [hE] at HV
  have hcl := c.toNat_lt
  have hz := head_byte c r
  generalize tS r = s at *
  generalize tN r = n at *
  clear hE
  have hd : decide ((r.length : Int) + 1 - (1 + s) < n) = true := by simp; omega
  go_enter Try.func16, Try.ntmps16
  go_wp2_with fail
  refine (HK.out _).mono ?_
  rintro e w' ⟨rfl, rfl⟩
  go_wp2_with fail
  refine (HV.out _).mono ?_
  rintro e w' ⟨rfl, rfl⟩
  go_wp2
  exact bodyPost_ret (v := .tuple #[.agg #[.int .i64 0, .string ByteArray.empty], .int .i64 0, .int .i64 4]) (by simp [results, Try.results16, go_sem]; rfl) rfl (RetF.bad HT.out rfl ((Below.refl _ _).alloc (Nat.le_refl _) _))

set_option maxHeartbeats 1000000 in
theorem ftake_good (c : UInt8) (r : List UInt8) (w : World) (h : r.length ≤ 1000000) (h0 : 1 ≤ (c.toNat : Int)) (h1 : (c.toNat : Int) ≤ 127) (hE : tE r = 0) (hL : ¬ 67108864 < tN r) (hS : ¬ (r.length : Int) - tS r < tN r) : Calls Try.prog 16 #[.string ⟨(c :: r).toArray⟩] w (RetF (c :: r) w) := by
  have HT := Lib.hid (tk_good c r (by omega) (by omega) hE hL hS)
  have HK := Lib.hid (fun w => kind_yes (c.toNat : Int) w h0 h1)
  have HV := Lib.hid (fun w => take_tail c r w h)
  obtain ⟨s1, s2, _⟩ := put_take r hE
  obtain ⟨n1, n2⟩ := tN_bounds r
  rw [hE] at HV
  have hcl := c.toNat_lt
  have hz := head_byte c r
  generalize tS r = s at *
  generalize tN r = n at *
  clear hE
  have hd : decide ((r.length : Int) + 1 - (1 + s) < n) = false := by simp; omega
  go_enter Try.func16, Try.ntmps16
  go_wp2_with fail
  refine (HK.out _).mono ?_
  rintro e w' ⟨rfl, rfl⟩
  go_wp2_with fail
  refine (HV.out _).mono ?_
  rintro e w' ⟨rfl, rfl⟩
  go_wp2
  go_region
  all_goals go_wp2
  refine bodyPost_ret (v := .tuple #[.agg #[.int .i64 (c.toNat : Int), .string ((⟨(c :: r).toArray⟩ : ByteArray).extract (1 + s).toNat (1 + s + n).toNat)], .int .i64 (1 + s + n), .int .i64 0]) (by simp [results, Try.results16, go_sem]) rfl ⟨?_, ?_⟩
  · obtain ⟨t1, t2, t3, t4⟩ := HT.out
    rw [t1, t2, t3, t4]
  · exact ((Below.refl _ _).alloc (Nat.le_refl _) _).drew

/-- Take of any bytes. -/
theorem ftake_any (l : List UInt8) (w : World) (h : l.length ≤ 1000000) : Calls Try.prog 16 #[.string ⟨l.toArray⟩] w (RetF l w) := by
  match l, h with
  | [], _ => exact ftake_nil w
  | c :: r, h =>
    have h' : r.length ≤ 1000000 := by rw [List.length_cons] at h; omega
    by_cases hc : (c.toNat : Int) < 1 ∨ 127 < (c.toNat : Int)
    · exact ftake_form c r w h' hc
    by_cases hE : tE r = 0
    · by_cases hL : 67108864 < tN r
      · exact ftake_long c r w h' (by omega) (by omega) hE hL
      by_cases hS : (r.length : Int) - tS r < tN r
      · exact ftake_short c r w h' (by omega) (by omega) hE hL hS
      · exact ftake_good c r w h' (by omega) (by omega) hE hL hS
    · exact ftake_num c r w h' (by omega) (by omega) hE

/-- .. of what stands from the a-th byte on. -/
theorem ftake_from (l : List UInt8) (a : Nat) (w : World) (h : l.length ≤ 1000000) : Calls Try.prog 16 #[.string ((⟨l.toArray⟩ : ByteArray).extract a l.length)] w (RetF (l.drop a) w) := by
  have e : (⟨l.toArray⟩ : ByteArray).extract a l.length = ⟨(l.drop a).toArray⟩ := by
    rw [Lib.extract_eq]
    simp only [ByteArray.mk.injEq]
    rw [List.take_of_length_le (by rw [List.length_drop]; exact Nat.le_refl _)]
  rw [e]
  exact ftake_any _ w (by rw [List.length_drop]; omega)
end Go.Proofs.Ytgkpeehondmalaa
