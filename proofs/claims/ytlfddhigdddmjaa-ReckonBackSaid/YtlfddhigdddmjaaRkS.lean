/-
  reckon's steps: Walk and Times, walked.
-/
import Derived.Test.YtlfddhigdddmjaaRkW
set_option linter.unusedSimpArgs false
set_option linter.unusedVariables false
namespace Go.Proofs.Ytlfddhigdddmjaa
open Go.RowKit

theorem Ret2.behind {v x : Int} {w w1 : World} {e : Ending} {w' : World} (h : Below w.heap.size w w1) (hr : Ret2 v x w1 e w') : Ret2 v x w e w' :=
  ⟨hr.1, h.trans (hr.2.mono h.size)⟩

set_option maxHeartbeats 400000 in
theorem step_any (s l t : Int) (w : World) :
    Calls Try.prog 15 #[.int .i64 s, .int .i64 l, .int .i64 t] w (Ret2 (stepV s l t) (stepE s l t) w) := by
  cases h : (ofs s && (ofs l && ofs t)) with
  | false =>
    obtain ⟨e1, e2⟩ := step_arg h
    rw [e1, e2]
    have H := Lib.hid h
    clear h e1 e2
    go_enter Try.func15, Try.ntmps15
    go_wp2_with fail
    refine (off_any _ 3 3 [s, l, t] _ false (by omega) (row3 _ _ _ _ _) (by simpa using H.out)).mono ?_
    rintro e w' ⟨rfl, rfl⟩
    go_wp2
    go_ret2
    exact Ret2.mk rfl (below_new _ _)
  | true =>
    obtain ⟨hs, hlt⟩ := both h
    obtain ⟨hl, ht⟩ := both hlt
    obtain ⟨s0, s1⟩ := ofs_true hs
    obtain ⟨l0, l1⟩ := ofs_true hl
    obtain ⟨t0, t1⟩ := ofs_true ht
    have hp : 0 ≤ l * t := Int.mul_nonneg l0 t0
    by_cases ho : s + l * t ≤ 4611686018427387903
    · obtain ⟨e1, e2⟩ := step_good h ho
      rw [e1, e2]
      have H := Lib.hid h
      have HM := Lib.hid (fun W => mul_any l t W)
      obtain ⟨m1, m2⟩ := mul_good hlt (by omega)
      rw [m1, m2] at HM
      have HA := Lib.hid (fun W => add_any s (l * t) W)
      obtain ⟨n1, n2⟩ := add_good (a := s) (b := l * t) (by rw [hs, ofs_mk hp (by omega)]; rfl) ho
      rw [n1, n2] at HA
      clear h e1 e2 hs hl ht hlt m1 m2 n1 n2
      generalize l * t = p at *
      go_enter Try.func15, Try.ntmps15
      go_wp2_with fail
      refine (off_any _ 3 3 [s, l, t] _ true (by omega) (row3 _ _ _ _ _) (by simpa using H.out)).mono ?_
      rintro e w' ⟨rfl, rfl⟩
      go_wp2_with fail
      refine (HM.out _).mono ?_
      rintro e w1 ⟨rfl, hb1⟩
      go_wp2_with fail
      refine (HA.out _).mono ?_
      rintro e w2 ⟨rfl, hb2⟩
      go_wp2
      go_ret2
      have hb01 := (below_new w _).trans (hb1.mono (by simp))
      exact Ret2.mk rfl (hb01.trans (hb2.mono hb01.size))
    · obtain ⟨e1, e2⟩ := step_over h (by omega)
      rw [e1, e2]
      have H := Lib.hid h
      have HM := Lib.hid (fun W => mul_any l t W)
      by_cases hm : l * t ≤ 4611686018427387903
      · obtain ⟨m1, m2⟩ := mul_good hlt (by omega)
        rw [m1, m2] at HM
        have HA := Lib.hid (fun W => add_any s (l * t) W)
        obtain ⟨n1, n2⟩ := add_over (a := s) (b := l * t) (by rw [hs, ofs_mk hp (by omega)]; rfl) (by omega)
        rw [n1, n2] at HA
        clear h e1 e2 hs hl ht hlt m1 m2 n1 n2
        generalize l * t = p at *
        go_enter Try.func15, Try.ntmps15
        go_wp2_with fail
        refine (off_any _ 3 3 [s, l, t] _ true (by omega) (row3 _ _ _ _ _) (by simpa using H.out)).mono ?_
        rintro e w' ⟨rfl, rfl⟩
        go_wp2_with fail
        refine (HM.out _).mono ?_
        rintro e w1 ⟨rfl, hb1⟩
        go_wp2_with fail
        refine (HA.out _).mono ?_
        rintro e w2 ⟨rfl, hb2⟩
        go_wp2
        go_ret2
        have hb01 := (below_new w _).trans (hb1.mono (by simp))
        exact Ret2.mk rfl (hb01.trans (hb2.mono hb01.size))
      · obtain ⟨m1, m2⟩ := mul_over hlt (by omega)
        rw [m1, m2] at HM
        clear h e1 e2 hs hl ht hlt m1 m2
        generalize l * t = p at *
        go_enter Try.func15, Try.ntmps15
        go_wp2_with fail
        refine (off_any _ 3 3 [s, l, t] _ true (by omega) (row3 _ _ _ _ _) (by simpa using H.out)).mono ?_
        rintro e w' ⟨rfl, rfl⟩
        go_wp2_with fail
        refine (HM.out _).mono ?_
        rintro e w1 ⟨rfl, hb1⟩
        go_wp2
        go_ret2
        have hb01 := (below_new w _).trans (hb1.mono (by simp))
        exact Ret2.mk rfl hb01

theorem sub_zero {a b : Int} (h : subE a b = 0) : 0 ≤ b ∧ b ≤ a ∧ a ≤ 4611686018427387903 ∧ subV a b = a - b := by
  cases ho : (ofs a && ofs b) with
  | false => have := (sub_arg ho).1; omega
  | true =>
    obtain ⟨ha, hb⟩ := both ho
    have h1 := ofs_true ha
    have h2 := ofs_true hb
    by_cases hc : b ≤ a
    · exact ⟨h2.1, hc, h1.2, (sub_good ho hc).2⟩
    · have := (sub_range ho (by omega)).1; omega

set_option maxHeartbeats 400000 in
theorem time_any (f t l : Int) (w : World) :
    Calls Try.prog 17 #[.int .i64 f, .int .i64 t, .int .i64 l] w (Ret2 (timeV f t l) (timeE f t l) w) := by
  have HSub := Lib.hid (fun W => sub_any t f W)
  by_cases hs : subE t f = 0
  · obtain ⟨f0, ft, t1, hv⟩ := sub_zero hs
    rw [hs, hv] at HSub
    by_cases hz : l = 0
    · subst hz
      obtain ⟨e1, e2⟩ := time_arg hs (.inl rfl)
      rw [e1, e2]
      clear hs hv e1 e2
      go_enter Try.func17, Try.ntmps17
      go_wp2_with fail
      refine (HSub.out _).mono ?_
      rintro e w1 ⟨rfl, hb1⟩
      go_wp2
      go_ret2
      exact Ret2.mk rfl hb1
    · cases hl : ofs l with
      | false =>
        obtain ⟨e1, e2⟩ := time_arg (l := l) hs (.inr hl)
        rw [e1, e2]
        have HL := Lib.hid hl
        clear hs hv e1 e2 hl
        go_enter Try.func17, Try.ntmps17
        go_wp2_with fail
        refine (HSub.out _).mono ?_
        rintro e w1 ⟨rfl, hb1⟩
        go_wp2_with fail
        refine (off_any _ 1 1 [l] _ false (by omega) (row1 _ _ _) (by simpa using HL.out)).mono ?_
        rintro e w' ⟨rfl, rfl⟩
        go_wp2
        go_ret2
        exact Ret2.mk rfl (hb1.alloc hb1.size _)
      | true =>
        obtain ⟨e1, e2⟩ := time_good hs hz hl
        obtain ⟨l0, l1⟩ := ofs_true hl
        obtain ⟨q1, q2, q3⟩ := quo_any (d := t - f) (l := l) (by omega) (by omega)
        rw [e1, e2]
        have HL := Lib.hid hl
        have hw : IntKind.i64.wrap ((t - f) / l) = (t - f) / l := IntWalk.i64_in _ (by omega)
        clear hs hv e1 e2 hl
        generalize hq : (t - f) / l = q at *
        clear hq
        generalize t - f = d at *
        go_enter Try.func17, Try.ntmps17
        go_wp2_with fail
        refine (HSub.out _).mono ?_
        rintro e w1 ⟨rfl, hb1⟩
        go_wp2_with fail
        refine (off_any _ 1 1 [l] _ true (by omega) (row1 _ _ _) (by simpa using HL.out)).mono ?_
        rintro e w' ⟨rfl, rfl⟩
        go_wp2
        go_ret2
        exact Ret2.mk rfl (hb1.alloc hb1.size _)
  · obtain ⟨e1, e2⟩ := time_sub (l := l) hs
    rw [e1, e2]
    have hv : subV t f = 0 := by unfold subV; rw [if_neg hs]
    rw [hv] at HSub
    clear e1 e2 hv
    generalize subE t f = x at *
    go_enter Try.func17, Try.ntmps17
    go_wp2_with fail
    refine (HSub.out _).mono ?_
    rintro e w1 ⟨rfl, hb1⟩
    go_wp2
    go_ret2
    exact Ret2.mk rfl hb1

end Go.Proofs.Ytlfddhigdddmjaa
