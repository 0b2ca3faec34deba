/-
  The document's own answers for layer 3, walked.
-/
import Derived.Test.YtlfddhigdddmjaaRkM
import Derived.Test.YtlfddhigdddmjaaRows
import Derived.WalkKit
import Derived.WalkSpells
import Derived.WalkLawsBesides
import Derived.Lib.Hide
import Derived.Outline
import Derived.IntWalk
set_option linter.unusedSimpArgs false
set_option linter.unusedVariables false
namespace Go.Proofs.Ytlfddhigdddmjaa
open Go.RowKit

/-- A number and an error; the world as it was. -/
def RetW (v x : Int) (w : World) (e : Ending) (w' : World) : Prop := e = .returned (.tuple #[.int .i64 v, .int .i64 x]) ∧ w = w'

theorem RetW.mk {v x : Int} {w : World} {e : Ending} (h : e = .returned (.tuple #[.int .i64 v, .int .i64 x])) : RetW v x w e w := ⟨h, rfl⟩

set_option maxHeartbeats 400000 in
theorem ris_any (n : Int) (w : World) (r : Bool) (hr : ofs n = r) :
    Calls Try.prog 13 #[.int .i64 n] w fun e w' => e = .returned (.bool r) ∧ w = w' := by
  subst hr
  by_cases h0 : n < 0
  · rw [ofs_low h0]
    have h1 : ¬ 0 ≤ n := by omega
    go_enter Try.func13, Try.ntmps13
    go_wp2
    go_ret
    exact ⟨rfl, rfl⟩
  · have h1 : 0 ≤ n := by omega
    by_cases h2 : n ≤ 4611686018427387903
    · rw [ofs_mk h1 h2]
      go_enter Try.func13, Try.ntmps13
      go_wp2
      go_ret
      exact ⟨rfl, rfl⟩
    · rw [ofs_high (by omega)]
      go_enter Try.func13, Try.ntmps13
      go_wp2
      go_ret
      exact ⟨rfl, rfl⟩

set_option maxHeartbeats 1000000 in
theorem radd_any (a b : Int) (w : World) :
    Calls Try.prog 7 #[.int .i64 a, .int .i64 b] w (RetW (addV a b) (addE a b) w) := by
  cases ha : ofs a with
  | false =>
    obtain ⟨e1, e2⟩ := add_arg (a := a) (b := b) (by rw [ha]; rfl)
    rw [e1, e2]
    clear e1 e2
    have HA := Lib.hid ha
    clear ha
    go_enter Try.func7, Try.ntmps7
    go_wp2_with fail
    refine (ris_any a _ false HA.out).mono ?_
    rintro e w' ⟨rfl, rfl⟩
    go_wp2
    go_ret2
    exact RetW.mk rfl
  | true =>
    cases hb : ofs b with
    | false =>
      obtain ⟨e1, e2⟩ := add_arg (a := a) (b := b) (by rw [hb]; simp)
      rw [e1, e2]
      clear e1 e2
      have HA := Lib.hid ha
      have HB := Lib.hid hb
      clear ha hb
      go_enter Try.func7, Try.ntmps7
      go_wp2_with fail
      refine (ris_any a _ true HA.out).mono ?_
      rintro e w' ⟨rfl, rfl⟩
      go_wp2_with fail
      refine (ris_any b _ false HB.out).mono ?_
      rintro e w' ⟨rfl, rfl⟩
      go_wp2
      go_ret2
      exact RetW.mk rfl
    | true =>
      obtain ⟨a0, a1⟩ := ofs_true ha
      obtain ⟨b0, b1⟩ := ofs_true hb
      have hab : (ofs a && ofs b) = true := by rw [ha, hb]; rfl
      have HA := Lib.hid ha
      have HB := Lib.hid hb
      clear ha hb
      by_cases ho : a + b ≤ 4611686018427387903
      · obtain ⟨e1, e2⟩ := add_good hab ho
        rw [e1, e2]
        clear e1 e2 hab
        go_enter Try.func7, Try.ntmps7
        go_wp2_with fail
        refine (ris_any a _ true HA.out).mono ?_
        rintro e w' ⟨rfl, rfl⟩
        go_wp2_with fail
        refine (ris_any b _ true HB.out).mono ?_
        rintro e w' ⟨rfl, rfl⟩
        go_wp2
        go_ret2
        exact RetW.mk rfl
      · obtain ⟨e1, e2⟩ := add_over hab (by omega)
        rw [e1, e2]
        clear e1 e2 hab
        go_enter Try.func7, Try.ntmps7
        go_wp2_with fail
        refine (ris_any a _ true HA.out).mono ?_
        rintro e w' ⟨rfl, rfl⟩
        go_wp2_with fail
        refine (ris_any b _ true HB.out).mono ?_
        rintro e w' ⟨rfl, rfl⟩
        go_wp2
        go_ret2
        exact RetW.mk rfl

set_option maxHeartbeats 1000000 in
theorem rsub_any (a b : Int) (w : World) :
    Calls Try.prog 9 #[.int .i64 a, .int .i64 b] w (RetW (subV a b) (subE a b) w) := by
  cases ha : ofs a with
  | false =>
    obtain ⟨e1, e2⟩ := sub_arg (a := a) (b := b) (by rw [ha]; rfl)
    rw [e1, e2]
    clear e1 e2
    have HA := Lib.hid ha
    clear ha
    go_enter Try.func9, Try.ntmps9
    go_wp2_with fail
    refine (ris_any a _ false HA.out).mono ?_
    rintro e w' ⟨rfl, rfl⟩
    go_wp2
    go_ret2
    exact RetW.mk rfl
  | true =>
    cases hb : ofs b with
    | false =>
      obtain ⟨e1, e2⟩ := sub_arg (a := a) (b := b) (by rw [hb]; simp)
      rw [e1, e2]
      clear e1 e2
      have HA := Lib.hid ha
      have HB := Lib.hid hb
      clear ha hb
      go_enter Try.func9, Try.ntmps9
      go_wp2_with fail
      refine (ris_any a _ true HA.out).mono ?_
      rintro e w' ⟨rfl, rfl⟩
      go_wp2_with fail
      refine (ris_any b _ false HB.out).mono ?_
      rintro e w' ⟨rfl, rfl⟩
      go_wp2
      go_ret2
      exact RetW.mk rfl
    | true =>
      obtain ⟨a0, a1⟩ := ofs_true ha
      obtain ⟨b0, b1⟩ := ofs_true hb
      have hab : (ofs a && ofs b) = true := by rw [ha, hb]; rfl
      have HA := Lib.hid ha
      have HB := Lib.hid hb
      clear ha hb
      by_cases ho : b ≤ a
      · obtain ⟨e1, e2⟩ := sub_good hab ho
        rw [e1, e2]
        clear e1 e2 hab
        go_enter Try.func9, Try.ntmps9
        go_wp2_with fail
        refine (ris_any a _ true HA.out).mono ?_
        rintro e w' ⟨rfl, rfl⟩
        go_wp2_with fail
        refine (ris_any b _ true HB.out).mono ?_
        rintro e w' ⟨rfl, rfl⟩
        go_wp2
        go_ret2
        exact RetW.mk rfl
      · obtain ⟨e1, e2⟩ := sub_range hab (by omega)
        rw [e1, e2]
        clear e1 e2 hab
        go_enter Try.func9, Try.ntmps9
        go_wp2_with fail
        refine (ris_any a _ true HA.out).mono ?_
        rintro e w' ⟨rfl, rfl⟩
        go_wp2_with fail
        refine (ris_any b _ true HB.out).mono ?_
        rintro e w' ⟨rfl, rfl⟩
        go_wp2
        go_ret2
        exact RetW.mk rfl

set_option maxHeartbeats 2000000 in
set_option maxRecDepth 100000 in
theorem rmul_any (a n : Int) (w : World) :
    Calls Try.prog 11 #[.int .i64 a, .int .i64 n] w (RetW (mulV a n) (mulE a n) w) := by
  cases ha : ofs a with
  | false =>
    obtain ⟨e1, e2⟩ := mul_arg (a := a) (b := n) (by rw [ha]; rfl)
    rw [e1, e2]
    clear e1 e2
    have HA := Lib.hid ha
    clear ha
    go_enter Try.func11, Try.ntmps11
    go_wp2_with fail
    refine (ris_any a _ false HA.out).mono ?_
    rintro e w' ⟨rfl, rfl⟩
    go_wp2
    go_ret2
    exact RetW.mk rfl
  | true =>
    cases hb : ofs n with
    | false =>
      obtain ⟨e1, e2⟩ := mul_arg (a := a) (b := n) (by rw [hb]; simp)
      rw [e1, e2]
      clear e1 e2
      have HA := Lib.hid ha
      have HB := Lib.hid hb
      clear ha hb
      go_enter Try.func11, Try.ntmps11
      go_wp2_with fail
      refine (ris_any a _ true HA.out).mono ?_
      rintro e w' ⟨rfl, rfl⟩
      go_wp2_with fail
      refine (ris_any n _ false HB.out).mono ?_
      rintro e w' ⟨rfl, rfl⟩
      go_wp2
      go_ret2
      exact RetW.mk rfl
    | true =>
      obtain ⟨a0, a1⟩ := ofs_true ha
      obtain ⟨n0, n1⟩ := ofs_true hb
      have hab : (ofs a && ofs n) = true := by rw [ha, hb]; rfl
      have HA := Lib.hid ha
      have HB := Lib.hid hb
      clear ha hb
      obtain ⟨E, HE⟩ : ∃ E, Hid (mulE a n = E) := ⟨mulE a n, Lib.hid rfl⟩
      obtain ⟨V, HM⟩ : ∃ V, Hid (mulV a n = V) := ⟨mulV a n, Lib.hid rfl⟩
      rw [HE.out, HM.out]
      go_enter Try.func11, Try.ntmps11
      go_wp2_with fail
      refine (ris_any a _ true HA.out).mono ?_
      rintro e w' ⟨rfl, rfl⟩
      go_wp2_with fail
      refine (ris_any n _ true HB.out).mono ?_
      rintro e w' ⟨rfl, rfl⟩
      go_wp2
      go_loop [6, 7] (fun o k => ∃ (j : Nat) (v : Int), j ≤ 62 ∧ k = .int .i64 ((j : Int) - 1) ∧ o = .int .i64 v ∧ 0 ≤ v ∧ v ≤ 4611686018427387903 ∧ Hid (v = a * (n / 2 ^ j))) (fun _ k => (RowKit.intOf k + 1).toNat)
      case atStart => exact ⟨62, 0, Nat.le_refl _, by go_num, rfl, by omega, by omega, Lib.hid (by rw [mul_none n n0 n1, Int.mul_zero])⟩
      case round =>
        obtain ⟨j, v, hj, rfl, rfl, v0, v1, HV⟩ := hrel
        by_cases h0 : j = 0
        · subst h0
          rw [show (((0 : Nat) : Int) - 1) = -1 from rfl]
          have hv : v = a * n := by rw [HV.out]; simp
          obtain ⟨e1, e2⟩ := mul_good hab (by omega)
          have e3 := HE.out.symm.trans e1
          have e4 := HM.out.symm.trans (e2.trans hv.symm)
          subst e3 e4
          clear e1 e2 hab hv
          go_wp2
          go_ret2
          exact RetW.mk rfl
        · obtain ⟨i, rfl⟩ : ∃ i, j = i + 1 := ⟨j - 1, by omega⟩
          obtain ⟨q0, q1, q2, q3, q4, q5⟩ := mul_bit a n i a0 n0
          rw [← HV.out] at q3
          rw [show (((i + 1 : Nat) : Int) - 1) = (i : Int) from by omega]
          by_cases hbig : 2305843009213693951 < v
          · have hbit : 0 ≤ a * (n / 2 ^ i % 2) := Int.mul_nonneg a0 (by omega)
            obtain ⟨e1, e2⟩ := mul_over hab (by omega)
            have e3 := HE.out.symm.trans e1
            have e4 := HM.out.symm.trans e2
            subst e3 e4
            clear e1 e2 hab q0 q1 q2 q3 q4 q5 hbit
            go_wp2
            go_ret2
            exact RetW.mk rfl
          · have Q2 := Lib.hid q2
            have Q3 := Lib.hid q3
            have Q4 := Lib.hid q4
            have Q5 := Lib.hid q5
            clear q2 q3 q4 q5
            generalize hq : n / 2 ^ i = q at *
            have hand := and_one q q0 (by omega)
            by_cases hone : q % 2 = 1
            · have hbit : (bits .and .i64 q 1 == 1) = true := by rw [hand, hone]; rfl
              rw [hone, Int.mul_one] at Q3
              clear hand hone
              by_cases hfit : 2 * v ≤ 4611686018427387903 - a
              · go_wp2
                exact ⟨⟨i, 2 * v + a, by omega, rfl, rfl, by omega, by omega, Lib.hid (by rw [hq, Q3.out])⟩, by simp [RowKit.intOf]⟩
              · obtain ⟨e1, e2⟩ := mul_over hab (by have := Q3.out; have := Q5.out; omega)
                have e3 := HE.out.symm.trans e1
                have e4 := HM.out.symm.trans e2
                subst e3 e4
                clear e1 e2 hab
                go_wp2
                go_ret2
                exact RetW.mk rfl
            · have hzero : q % 2 = 0 := by omega
              have hbit : (bits .and .i64 q 1 == 1) = false := by rw [hand, hzero]; rfl
              rw [hzero, Int.mul_zero, Int.add_zero] at Q3
              clear hand hone hzero
              go_wp2
              exact ⟨⟨i, 2 * v, by omega, rfl, rfl, by omega, by omega, Lib.hid (by rw [hq, Q3.out])⟩, by simp [RowKit.intOf]⟩

set_option maxHeartbeats 1000000 in
theorem rstep_any (s l t : Int) (w : World) :
    Calls Try.prog 16 #[.int .i64 s, .int .i64 l, .int .i64 t] w (RetW (stepV s l t) (stepE s l t) w) := by
  cases hs : ofs s with
  | false =>
    obtain ⟨e1, e2⟩ := step_arg (s := s) (l := l) (t := t) (by rw [hs]; rfl)
    rw [e1, e2]
    clear e1 e2
    have HS := Lib.hid hs
    clear hs
    go_enter Try.func16, Try.ntmps16
    go_wp2_with fail
    refine (ris_any s _ false HS.out).mono ?_
    rintro e w' ⟨rfl, rfl⟩
    go_wp2
    go_ret2
    exact RetW.mk rfl
  | true =>
    cases hl : ofs l with
    | false =>
      obtain ⟨e1, e2⟩ := step_arg (s := s) (l := l) (t := t) (by rw [hl]; simp)
      rw [e1, e2]
      clear e1 e2
      have HS := Lib.hid hs
      have HL := Lib.hid hl
      clear hs hl
      go_enter Try.func16, Try.ntmps16
      go_wp2_with fail
      refine (ris_any s _ true HS.out).mono ?_
      rintro e w' ⟨rfl, rfl⟩
      go_wp2_with fail
      refine (ris_any l _ false HL.out).mono ?_
      rintro e w' ⟨rfl, rfl⟩
      go_wp2
      go_ret2
      exact RetW.mk rfl
    | true =>
      cases ht : ofs t with
      | false =>
        obtain ⟨e1, e2⟩ := step_arg (s := s) (l := l) (t := t) (by rw [ht]; simp)
        rw [e1, e2]
        clear e1 e2
        have HS := Lib.hid hs
        have HL := Lib.hid hl
        have HT := Lib.hid ht
        clear hs hl ht
        go_enter Try.func16, Try.ntmps16
        go_wp2_with fail
        refine (ris_any s _ true HS.out).mono ?_
        rintro e w' ⟨rfl, rfl⟩
        go_wp2_with fail
        refine (ris_any l _ true HL.out).mono ?_
        rintro e w' ⟨rfl, rfl⟩
        go_wp2_with fail
        refine (ris_any t _ false HT.out).mono ?_
        rintro e w' ⟨rfl, rfl⟩
        go_wp2
        go_ret2
        exact RetW.mk rfl
      | true =>
        obtain ⟨s0, s1⟩ := ofs_true hs
        obtain ⟨l0, l1⟩ := ofs_true hl
        obtain ⟨t0, t1⟩ := ofs_true ht
        have hp : 0 ≤ l * t := Int.mul_nonneg l0 t0
        have hlt : (ofs l && ofs t) = true := by rw [hl, ht]; rfl
        have hall : (ofs s && (ofs l && ofs t)) = true := by rw [hs, hl, ht]; rfl
        have HS := Lib.hid hs
        have HL := Lib.hid hl
        have HT := Lib.hid ht
        have HMu := Lib.hid (fun W => rmul_any l t W)
        by_cases hm : l * t ≤ 4611686018427387903
        · obtain ⟨m1, m2⟩ := mul_good hlt hm
          rw [m1, m2] at HMu
          have HA := Lib.hid (fun W => radd_any s (l * t) W)
          have hoo : (ofs s && ofs (l * t)) = true := by rw [hs, ofs_mk hp hm]; rfl
          have heq : addE s (l * t) = stepE s l t ∧ addV s (l * t) = stepV s l t := by
            by_cases ho : s + l * t ≤ 4611686018427387903
            · obtain ⟨e1, e2⟩ := step_good hall ho
              obtain ⟨n1, n2⟩ := add_good hoo ho
              exact ⟨by omega, by omega⟩
            · obtain ⟨e1, e2⟩ := step_over hall (by omega)
              obtain ⟨n1, n2⟩ := add_over hoo (by omega)
              exact ⟨by omega, by omega⟩
          rw [heq.1, heq.2] at HA
          clear heq hoo hs hl ht hlt hall m1 m2
          generalize stepE s l t = E at *
          generalize stepV s l t = V at *
          generalize l * t = p at *
          go_enter Try.func16, Try.ntmps16
          go_wp2_with fail
          refine (ris_any s _ true HS.out).mono ?_
          rintro e w' ⟨rfl, rfl⟩
          go_wp2_with fail
          refine (ris_any l _ true HL.out).mono ?_
          rintro e w' ⟨rfl, rfl⟩
          go_wp2_with fail
          refine (ris_any t _ true HT.out).mono ?_
          rintro e w' ⟨rfl, rfl⟩
          go_wp2_with fail
          refine (HMu.out _).mono ?_
          rintro e w' ⟨rfl, rfl⟩
          go_wp2_with fail
          refine (HA.out _).mono ?_
          rintro e w' ⟨rfl, rfl⟩
          go_wp2
          go_ret2
          exact RetW.mk rfl
        · obtain ⟨m1, m2⟩ := mul_over hlt (by omega)
          rw [m1, m2] at HMu
          obtain ⟨e1, e2⟩ := step_over hall (by omega)
          rw [e1, e2]
          clear e1 e2 hs hl ht hlt hall m1 m2
          go_enter Try.func16, Try.ntmps16
          go_wp2_with fail
          refine (ris_any s _ true HS.out).mono ?_
          rintro e w' ⟨rfl, rfl⟩
          go_wp2_with fail
          refine (ris_any l _ true HL.out).mono ?_
          rintro e w' ⟨rfl, rfl⟩
          go_wp2_with fail
          refine (ris_any t _ true HT.out).mono ?_
          rintro e w' ⟨rfl, rfl⟩
          go_wp2_with fail
          refine (HMu.out _).mono ?_
          rintro e w' ⟨rfl, rfl⟩
          go_wp2
          go_ret2
          exact RetW.mk rfl

theorem rsub_zero {a b : Int} (h : subE a b = 0) : 0 ≤ b ∧ b ≤ a ∧ a ≤ 4611686018427387903 ∧ subV a b = a - b := by
  cases ho : (ofs a && ofs b) with
  | false => have := (sub_arg ho).1; omega
  | true =>
    obtain ⟨ha, hb⟩ := both ho
    have h1 := ofs_true ha
    have h2 := ofs_true hb
    by_cases hc : b ≤ a
    · exact ⟨h2.1, hc, h1.2, (sub_good ho hc).2⟩
    · have := (sub_range ho (by omega)).1; omega

set_option maxHeartbeats 1000000 in
theorem rtime_any (f t l : Int) (w : World) :
    Calls Try.prog 18 #[.int .i64 f, .int .i64 t, .int .i64 l] w (RetW (timeV f t l) (timeE f t l) w) := by
  have HSub := Lib.hid (fun W => rsub_any t f W)
  by_cases hs : subE t f = 0
  · obtain ⟨f0, ft, t1, hv⟩ := rsub_zero hs
    rw [hs, hv] at HSub
    cases hl : ofs l with
    | false =>
      obtain ⟨e1, e2⟩ := time_arg (l := l) hs (.inr hl)
      rw [e1, e2]
      have HL := Lib.hid hl
      clear hs hv e1 e2 hl
      go_enter Try.func18, Try.ntmps18
      go_wp2_with fail
      refine (HSub.out _).mono ?_
      rintro e w' ⟨rfl, rfl⟩
      go_wp2_with fail
      refine (ris_any l _ false HL.out).mono ?_
      rintro e w' ⟨rfl, rfl⟩
      go_wp2
      go_ret2
      exact RetW.mk rfl
    | true =>
      have HL := Lib.hid hl
      by_cases hz : l = 0
      · obtain ⟨e1, e2⟩ := time_arg hs (.inl hz)
        rw [e1, e2]
        subst hz
        clear hs hv e1 e2 hl
        go_enter Try.func18, Try.ntmps18
        go_wp2_with fail
        refine (HSub.out _).mono ?_
        rintro e w' ⟨rfl, rfl⟩
        go_wp2_with fail
        refine (ris_any 0 _ true HL.out).mono ?_
        rintro e w' ⟨rfl, rfl⟩
        go_wp2
        go_ret2
        exact RetW.mk rfl
      · obtain ⟨e1, e2⟩ := time_good hs hz hl
        obtain ⟨l0, l1⟩ := ofs_true hl
        obtain ⟨q1, q2, q3⟩ := quo_any (d := t - f) (l := l) (by omega) (by omega)
        rw [e1, e2]
        have hw : IntKind.i64.wrap ((t - f) / l) = (t - f) / l := IntWalk.i64_in _ (by omega)
        clear hs hv e1 e2 hl
        generalize hq : (t - f) / l = q at *
        clear hq
        generalize t - f = d at *
        go_enter Try.func18, Try.ntmps18
        go_wp2_with fail
        refine (HSub.out _).mono ?_
        rintro e w' ⟨rfl, rfl⟩
        go_wp2_with fail
        refine (ris_any l _ true HL.out).mono ?_
        rintro e w' ⟨rfl, rfl⟩
        go_wp2
        go_ret2
        exact RetW.mk rfl
  · obtain ⟨e1, e2⟩ := time_sub (l := l) hs
    rw [e1, e2]
    have hv : subV t f = 0 := by unfold subV; rw [if_neg hs]
    rw [hv] at HSub
    clear e1 e2 hv
    generalize subE t f = x at *
    go_enter Try.func18, Try.ntmps18
    go_wp2_with fail
    refine (HSub.out _).mono ?_
    rintro e w' ⟨rfl, rfl⟩
    go_wp2
    go_ret2
    exact RetW.mk rfl

end Go.Proofs.Ytlfddhigdddmjaa
