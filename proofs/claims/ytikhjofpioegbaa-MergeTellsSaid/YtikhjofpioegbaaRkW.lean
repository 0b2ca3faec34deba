/-
  reckon's functions, walked.
-/
import Derived.Test.YtikhjofpioegbaaRkM
import Derived.Test.YtikhjofpioegbaaRows
import Derived.WalkKit
import Derived.WalkSpells
import Derived.WalkLawsBesides
import Derived.Lib.Hide
import Derived.Outline
import Derived.IntWalk
set_option linter.unusedSimpArgs false
set_option linter.unusedVariables false
namespace Go.Proofs.Ytikhjofpioegbaa
open Go.RowKit

theorem all_take_succ (zs : List Int) (k : Nat) (h : k < zs.length) : (zs.take (k + 1)).all ofs = ((zs.take k).all ofs && ofs (zs.getD k 0)) := by
  rw [take_snoc zs k h, List.all_append]; simp

theorem all_take_bad (zs : List Int) (k len : Nat) (h : k < zs.length) (hk : k < len) (hb : ofs (zs.getD k 0) = false) : (zs.take len).all ofs = false := by
  rw [List.all_eq_false]
  refine ⟨zs.getD k 0, ?_, by rw [hb]; simp⟩
  rw [getD_at zs k h]
  rw [List.mem_take_iff_getElem]
  exact ⟨k, by omega, rfl⟩

set_option maxHeartbeats 400000 in
theorem off_any (a : Option Addr) (len cap : Nat) (zs : List Int) (w : World) (r : Bool) (h1 : len ≤ 100)
    (hr : IsRow .i64 w a len cap zs) (hall : (zs.take len).all ofs = r) :
    Calls Try.prog 34 #[.slice a len cap] w fun e w' => e = .returned (.bool r) ∧ w = w' := by
  go_enter Try.func34, Try.ntmps34
  go_wp2
  go_loop [7] (fun i => ∃ k : Nat, k ≤ len ∧ i = .int .i64 k ∧ Hid ((zs.take k).all ofs = true)) (fun i => len - (RowKit.intOf i).toNat)
  case atStart => exact ⟨0, Nat.zero_le _, rfl, Lib.hid rfl⟩
  case round =>
    obtain ⟨k, hk, rfl, HK⟩ := hrel
    by_cases hlt : k < len
    · obtain h0 | ⟨b, off, rfl, hcap, hm, hz, hc⟩ := hr
      · omega
      have hcell := hc k (by omega)
      have HS := Lib.hid (all_take_succ zs k (by omega))
      have HB := Lib.hid (all_take_bad zs k len (by omega) hlt)
      clear hc hz
      generalize zs.getD k 0 = x at hcell HS HB
      by_cases hx0 : x < 0
      · have hf := HB.out (ofs_low hx0)
        rw [hall] at hf
        subst hf
        go_wp2
        go_ret
        exact ⟨rfl, rfl⟩
      · by_cases hx1 : 4611686018427387903 < x
        · have hf := HB.out (ofs_high hx1)
          rw [hall] at hf
          subst hf
          go_wp2
          go_ret
          exact ⟨rfl, rfl⟩
        · have hx := ofs_mk (n := x) (by omega) (by omega)
          go_wp2
          exact ⟨⟨k + 1, by omega, by go_num, Lib.hid (by rw [HS.out, HK.out, hx]; rfl)⟩, by simp [RowKit.intOf]; omega⟩
    · obtain rfl : k = len := by omega
      have hf := HK.out
      rw [hall] at hf
      subst hf
      go_wp2
      go_ret
      exact ⟨rfl, rfl⟩

theorem row1 (w : World) (a : Int) (T : TypeId) : IsRow .i64 (w.alloc (.cells #[.int .i64 a] T)) (some ⟨w.heap.size, 0, none⟩) 1 1 [a] := by
  refine .inr ⟨w.heap.size, 0, rfl, by omega, by unfold maxLen; omega, rfl, fun i hi => ?_⟩
  obtain rfl : i = 0 := by omega
  rw [Nat.zero_add, World.cell?_alloc_new]
  rfl
theorem row2 (w : World) (a b : Int) (T : TypeId) : IsRow .i64 (w.alloc (.cells #[.int .i64 a, .int .i64 b] T)) (some ⟨w.heap.size, 0, none⟩) 2 2 [a, b] := by
  refine .inr ⟨w.heap.size, 0, rfl, by omega, by unfold maxLen; omega, rfl, fun i hi => ?_⟩
  rw [Nat.zero_add, World.cell?_alloc_new]
  obtain rfl | rfl : i = 0 ∨ i = 1 := by omega
  all_goals rfl
theorem row3 (w : World) (a b c : Int) (T : TypeId) : IsRow .i64 (w.alloc (.cells #[.int .i64 a, .int .i64 b, .int .i64 c] T)) (some ⟨w.heap.size, 0, none⟩) 3 3 [a, b, c] := by
  refine .inr ⟨w.heap.size, 0, rfl, by omega, by unfold maxLen; omega, rfl, fun i hi => ?_⟩
  rw [Nat.zero_add, World.cell?_alloc_new]
  obtain rfl | rfl | rfl : i = 0 ∨ i = 1 ∨ i = 2 := by omega
  all_goals rfl

/-- A number and an error; what was there is as it was. -/
def Ret2 (v x : Int) (w : World) (e : Ending) (w' : World) : Prop := e = .returned (.tuple #[.int .i64 v, .int .i64 x]) ∧ Below w.heap.size w w'

theorem below_new (w : World) (o : Obj) : Below w.heap.size w (w.alloc o) := (Below.refl _ _).alloc (Nat.le_refl _) _

theorem Ret2.mk {v x : Int} {w w' : World} {e : Ending} (h : e = .returned (.tuple #[.int .i64 v, .int .i64 x])) (hb : Below w.heap.size w w') : Ret2 v x w e w' := ⟨h, hb⟩

set_option maxHeartbeats 400000 in
theorem is_any (n : Int) (w : World) (r : Bool) (hr : ofs n = r) :
    Calls Try.prog 30 #[.int .i64 n] w fun e w' => e = .returned (.bool r) ∧ Below w.heap.size w w' := by
  go_enter Try.func30, Try.ntmps30
  go_wp2_with fail
  refine (off_any _ 1 1 [n] _ r (by omega) (row1 _ _ _) (by simpa using hr)).mono ?_
  rintro e w' ⟨rfl, rfl⟩
  go_wp2
  go_ret
  exact ⟨rfl, below_new _ _⟩

set_option maxHeartbeats 400000 in
theorem add_any (a b : Int) (w : World) :
    Calls Try.prog 24 #[.int .i64 a, .int .i64 b] w (Ret2 (addV a b) (addE a b) w) := by
  cases h : (ofs a && ofs b) with
  | false =>
    obtain ⟨e1, e2⟩ := add_arg h
    rw [e1, e2]
    have H := Lib.hid h
    clear h e1 e2
    go_enter Try.func24, Try.ntmps24
    go_wp2_with fail
    refine (off_any _ 2 2 [a, b] _ false (by omega) (row2 _ _ _ _) (by simpa using H.out)).mono ?_
    rintro e w' ⟨rfl, rfl⟩
    go_wp2
    go_ret2
    exact Ret2.mk rfl (below_new _ _)
  | true =>
    obtain ⟨ha, hb⟩ := both h
    obtain ⟨a0, a1⟩ := ofs_true ha
    obtain ⟨b0, b1⟩ := ofs_true hb
    by_cases ho : a + b ≤ 4611686018427387903
    · obtain ⟨e1, e2⟩ := add_good h ho
      rw [e1, e2]
      have H := Lib.hid h
      clear h e1 e2 ha hb
      have ht : ¬ 4611686018427387903 - b < a := by omega
      go_enter Try.func24, Try.ntmps24
      go_wp2_with fail
      refine (off_any _ 2 2 [a, b] _ true (by omega) (row2 _ _ _ _) (by simpa using H.out)).mono ?_
      rintro e w' ⟨rfl, rfl⟩
      go_wp2
      go_ret2
      exact Ret2.mk rfl (below_new _ _)
    · obtain ⟨e1, e2⟩ := add_over h (by omega)
      rw [e1, e2]
      have H := Lib.hid h
      clear h e1 e2 ha hb
      have ht : 4611686018427387903 - b < a := by omega
      go_enter Try.func24, Try.ntmps24
      go_wp2_with fail
      refine (off_any _ 2 2 [a, b] _ true (by omega) (row2 _ _ _ _) (by simpa using H.out)).mono ?_
      rintro e w' ⟨rfl, rfl⟩
      go_wp2
      go_ret2
      exact Ret2.mk rfl (below_new _ _)

set_option maxHeartbeats 400000 in
theorem mul_any (a n : Int) (w : World) :
    Calls Try.prog 27 #[.int .i64 a, .int .i64 n] w (Ret2 (mulV a n) (mulE a n) w) := by
  cases h : (ofs a && ofs n) with
  | false =>
    obtain ⟨e1, e2⟩ := mul_arg h
    rw [e1, e2]
    have H := Lib.hid h
    clear h e1 e2
    go_enter Try.func27, Try.ntmps27
    go_wp2_with fail
    refine (off_any _ 2 2 [a, n] _ false (by omega) (row2 _ _ _ _) (by simpa using H.out)).mono ?_
    rintro e w' ⟨rfl, rfl⟩
    go_wp2
    go_ret2
    exact Ret2.mk rfl (below_new _ _)
  | true =>
    obtain ⟨ha, hb⟩ := both h
    obtain ⟨a0, a1⟩ := ofs_true ha
    obtain ⟨n0, n1⟩ := ofs_true hb
    by_cases hz : a = 0
    · subst hz
      obtain ⟨e1, e2⟩ := mul_good h (by omega)
      rw [e1, e2, Int.zero_mul]
      have H := Lib.hid h
      clear h e1 e2 ha hb
      go_enter Try.func27, Try.ntmps27
      go_wp2_with fail
      refine (off_any _ 2 2 [0, n] _ true (by omega) (row2 _ _ _ _) (by simpa using H.out)).mono ?_
      rintro e w' ⟨rfl, rfl⟩
      go_wp2
      go_ret2
      exact Ret2.mk rfl (below_new _ _)
    · have hpos : 0 < a := by omega
      have hfit := mul_fits hpos n0
      obtain ⟨q1, q2, q3⟩ := quo_top hpos
      have hp : 0 ≤ a * n := Int.mul_nonneg a0 n0
      by_cases ho : a * n ≤ 4611686018427387903
      · obtain ⟨e1, e2⟩ := mul_good h ho
        rw [e1, e2]
        have H := Lib.hid h
        have ht : ¬ 4611686018427387903 / a < n := by have := hfit.2 ho; omega
        have hw : IntKind.i64.wrap (a * n) = a * n := IntWalk.i64_in _ (by omega)
        clear h e1 e2 ha hb hfit
        generalize 4611686018427387903 / a = q at *
        go_enter Try.func27, Try.ntmps27
        go_wp2_with fail
        refine (off_any _ 2 2 [a, n] _ true (by omega) (row2 _ _ _ _) (by simpa using H.out)).mono ?_
        rintro e w' ⟨rfl, rfl⟩
        go_wp2
        go_ret2
        exact Ret2.mk rfl (below_new _ _)
      · obtain ⟨e1, e2⟩ := mul_over h (by omega)
        rw [e1, e2]
        have H := Lib.hid h
        have ht : 4611686018427387903 / a < n := by
          rcases Int.lt_or_le (4611686018427387903 / a) n with h | h
          · exact h
          · exact absurd (hfit.1 h) ho
        clear h e1 e2 ha hb hfit
        generalize 4611686018427387903 / a = q at *
        go_enter Try.func27, Try.ntmps27
        go_wp2_with fail
        refine (off_any _ 2 2 [a, n] _ true (by omega) (row2 _ _ _ _) (by simpa using H.out)).mono ?_
        rintro e w' ⟨rfl, rfl⟩
        go_wp2
        go_ret2
        exact Ret2.mk rfl (below_new _ _)

end Go.Proofs.Ytikhjofpioegbaa
