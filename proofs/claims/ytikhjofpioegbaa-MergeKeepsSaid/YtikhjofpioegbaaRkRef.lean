/-
  The document's own answers for layer 3, walked.
-/
import Derived.Test.YtikhjofpioegbaaRkM
import Derived.Test.YtikhjofpioegbaaRows
import Derived.WalkKit
import Derived.WalkSpells
import Derived.WalkLawsBesides
import Derived.Lib.Hide
import Derived.Outline
import Derived.IntWalk
set_option linter.unusedSimpArgs false
set_option linter.unusedVariables false
namespace Go.Proofs.Ytikhjofpioegbaa
open Go.RowKit

/-- A number and an error; the world as it was. -/
def RetW (v x : Int) (w : World) (e : Ending) (w' : World) : Prop := e = .returned (.tuple #[.int .i64 v, .int .i64 x]) ∧ w = w'

theorem RetW.mk {v x : Int} {w : World} {e : Ending} (h : e = .returned (.tuple #[.int .i64 v, .int .i64 x])) : RetW v x w e w := ⟨h, rfl⟩

set_option maxHeartbeats 400000 in
theorem ris_any (n : Int) (w : World) (r : Bool) (hr : ofs n = r) :
    Calls Try.prog 31 #[.int .i64 n] w fun e w' => e = .returned (.bool r) ∧ w = w' := by
  subst hr
  by_cases h0 : n < 0
  · rw [ofs_low h0]
    have h1 : ¬ 0 ≤ n := by omega
    go_enter Try.func31, Try.ntmps31
    go_wp2
    go_ret
    exact ⟨rfl, rfl⟩
  · have h1 : 0 ≤ n := by omega
    by_cases h2 : n ≤ 4611686018427387903
    · rw [ofs_mk h1 h2]
      go_enter Try.func31, Try.ntmps31
      go_wp2
      go_ret
      exact ⟨rfl, rfl⟩
    · rw [ofs_high (by omega)]
      go_enter Try.func31, Try.ntmps31
      go_wp2
      go_ret
      exact ⟨rfl, rfl⟩

set_option maxHeartbeats 1000000 in
theorem radd_any (a b : Int) (w : World) :
    Calls Try.prog 32 #[.int .i64 a, .int .i64 b] w (RetW (addV a b) (addE a b) w) := by
  cases ha : ofs a with
  | false =>
    obtain ⟨e1, e2⟩ := add_arg (a := a) (b := b) (by rw [ha]; rfl)
    rw [e1, e2]
    clear e1 e2
    have HA := Lib.hid ha
    clear ha
    go_enter Try.func32, Try.ntmps32
    go_wp2_with fail
    refine (ris_any a _ false HA.out).mono ?_
    rintro e w' ⟨rfl, rfl⟩
    go_wp2
    go_ret2
    exact RetW.mk rfl
  | true =>
    cases hb : ofs b with
    | false =>
      obtain ⟨e1, e2⟩ := add_arg (a := a) (b := b) (by rw [hb]; simp)
      rw [e1, e2]
      clear e1 e2
      have HA := Lib.hid ha
      have HB := Lib.hid hb
      clear ha hb
      go_enter Try.func32, Try.ntmps32
      go_wp2_with fail
      refine (ris_any a _ true HA.out).mono ?_
      rintro e w' ⟨rfl, rfl⟩
      go_wp2_with fail
      refine (ris_any b _ false HB.out).mono ?_
      rintro e w' ⟨rfl, rfl⟩
      go_wp2
      go_ret2
      exact RetW.mk rfl
    | true =>
      obtain ⟨a0, a1⟩ := ofs_true ha
      obtain ⟨b0, b1⟩ := ofs_true hb
      have hab : (ofs a && ofs b) = true := by rw [ha, hb]; rfl
      have HA := Lib.hid ha
      have HB := Lib.hid hb
      clear ha hb
      by_cases ho : a + b ≤ 4611686018427387903
      · obtain ⟨e1, e2⟩ := add_good hab ho
        rw [e1, e2]
        clear e1 e2 hab
        go_enter Try.func32, Try.ntmps32
        go_wp2_with fail
        refine (ris_any a _ true HA.out).mono ?_
        rintro e w' ⟨rfl, rfl⟩
        go_wp2_with fail
        refine (ris_any b _ true HB.out).mono ?_
        rintro e w' ⟨rfl, rfl⟩
        go_wp2
        go_ret2
        exact RetW.mk rfl
      · obtain ⟨e1, e2⟩ := add_over hab (by omega)
        rw [e1, e2]
        clear e1 e2 hab
        go_enter Try.func32, Try.ntmps32
        go_wp2_with fail
        refine (ris_any a _ true HA.out).mono ?_
        rintro e w' ⟨rfl, rfl⟩
        go_wp2_with fail
        refine (ris_any b _ true HB.out).mono ?_
        rintro e w' ⟨rfl, rfl⟩
        go_wp2
        go_ret2
        exact RetW.mk rfl

set_option maxHeartbeats 2000000 in
set_option maxRecDepth 100000 in
theorem rmul_any (a n : Int) (w : World) :
    Calls Try.prog 28 #[.int .i64 a, .int .i64 n] w (RetW (mulV a n) (mulE a n) w) := by
  cases ha : ofs a with
  | false =>
    obtain ⟨e1, e2⟩ := mul_arg (a := a) (b := n) (by rw [ha]; rfl)
    rw [e1, e2]
    clear e1 e2
    have HA := Lib.hid ha
    clear ha
    go_enter Try.func28, Try.ntmps28
    go_wp2_with fail
    refine (ris_any a _ false HA.out).mono ?_
    rintro e w' ⟨rfl, rfl⟩
    go_wp2
    go_ret2
    exact RetW.mk rfl
  | true =>
    cases hb : ofs n with
    | false =>
      obtain ⟨e1, e2⟩ := mul_arg (a := a) (b := n) (by rw [hb]; simp)
      rw [e1, e2]
      clear e1 e2
      have HA := Lib.hid ha
      have HB := Lib.hid hb
      clear ha hb
      go_enter Try.func28, Try.ntmps28
      go_wp2_with fail
      refine (ris_any a _ true HA.out).mono ?_
      rintro e w' ⟨rfl, rfl⟩
      go_wp2_with fail
      refine (ris_any n _ false HB.out).mono ?_
      rintro e w' ⟨rfl, rfl⟩
      go_wp2
      go_ret2
      exact RetW.mk rfl
    | true =>
      obtain ⟨a0, a1⟩ := ofs_true ha
      obtain ⟨n0, n1⟩ := ofs_true hb
      have hab : (ofs a && ofs n) = true := by rw [ha, hb]; rfl
      have HA := Lib.hid ha
      have HB := Lib.hid hb
      clear ha hb
      obtain ⟨E, HE⟩ : ∃ E, Hid (mulE a n = E) := ⟨mulE a n, Lib.hid rfl⟩
      obtain ⟨V, HM⟩ : ∃ V, Hid (mulV a n = V) := ⟨mulV a n, Lib.hid rfl⟩
      rw [HE.out, HM.out]
      go_enter Try.func28, Try.ntmps28
      go_wp2_with fail
      refine (ris_any a _ true HA.out).mono ?_
      rintro e w' ⟨rfl, rfl⟩
      go_wp2_with fail
      refine (ris_any n _ true HB.out).mono ?_
      rintro e w' ⟨rfl, rfl⟩
      go_wp2
      go_loop [6, 7] (fun o k => ∃ (j : Nat) (v : Int), j ≤ 62 ∧ k = .int .i64 ((j : Int) - 1) ∧ o = .int .i64 v ∧ 0 ≤ v ∧ v ≤ 4611686018427387903 ∧ Hid (v = a * (n / 2 ^ j))) (fun _ k => (RowKit.intOf k + 1).toNat)
      case atStart => exact ⟨62, 0, Nat.le_refl _, by go_num, rfl, by omega, by omega, Lib.hid (by rw [mul_none n n0 n1, Int.mul_zero])⟩
      case round =>
        obtain ⟨j, v, hj, rfl, rfl, v0, v1, HV⟩ := hrel
        by_cases h0 : j = 0
        · subst h0
          rw [show (((0 : Nat) : Int) - 1) = -1 from rfl]
          have hv : v = a * n := by rw [HV.out]; simp
          obtain ⟨e1, e2⟩ := mul_good hab (by omega)
          have e3 := HE.out.symm.trans e1
          have e4 := HM.out.symm.trans (e2.trans hv.symm)
          subst e3 e4
          clear e1 e2 hab hv
          go_wp2
          go_ret2
          exact RetW.mk rfl
        · obtain ⟨i, rfl⟩ : ∃ i, j = i + 1 := ⟨j - 1, by omega⟩
          obtain ⟨q0, q1, q2, q3, q4, q5⟩ := mul_bit a n i a0 n0
          rw [← HV.out] at q3
          rw [show (((i + 1 : Nat) : Int) - 1) = (i : Int) from by omega]
          by_cases hbig : 2305843009213693951 < v
          · have hbit : 0 ≤ a * (n / 2 ^ i % 2) := Int.mul_nonneg a0 (by omega)
            obtain ⟨e1, e2⟩ := mul_over hab (by omega)
            have e3 := HE.out.symm.trans e1
            have e4 := HM.out.symm.trans e2
            subst e3 e4
            clear e1 e2 hab q0 q1 q2 q3 q4 q5 hbit
            go_wp2
            go_ret2
            exact RetW.mk rfl
          · have Q2 := Lib.hid q2
            have Q3 := Lib.hid q3
            have Q4 := Lib.hid q4
            have Q5 := Lib.hid q5
            clear q2 q3 q4 q5
            generalize hq : n / 2 ^ i = q at *
            have hand := and_one q q0 (by omega)
            by_cases hone : q % 2 = 1
            · have hbit : (bits .and .i64 q 1 == 1) = true := by rw [hand, hone]; rfl
              rw [hone, Int.mul_one] at Q3
              clear hand hone
              by_cases hfit : 2 * v ≤ 4611686018427387903 - a
              · go_wp2
                exact ⟨⟨i, 2 * v + a, by omega, rfl, rfl, by omega, by omega, Lib.hid (by rw [hq, Q3.out])⟩, by simp [RowKit.intOf]⟩
              · obtain ⟨e1, e2⟩ := mul_over hab (by have := Q3.out; have := Q5.out; omega)
                have e3 := HE.out.symm.trans e1
                have e4 := HM.out.symm.trans e2
                subst e3 e4
                clear e1 e2 hab
                go_wp2
                go_ret2
                exact RetW.mk rfl
            · have hzero : q % 2 = 0 := by omega
              have hbit : (bits .and .i64 q 1 == 1) = false := by rw [hand, hzero]; rfl
              rw [hzero, Int.mul_zero, Int.add_zero] at Q3
              clear hand hone hzero
              go_wp2
              exact ⟨⟨i, 2 * v, by omega, rfl, rfl, by omega, by omega, Lib.hid (by rw [hq, Q3.out])⟩, by simp [RowKit.intOf]⟩

end Go.Proofs.Ytikhjofpioegbaa
