/-
  The law ReckonBack, walked: for every three numbers it returns true, and writes nothing that was there.
-/
import Derived.Test.YtlfddhigdddmjaaRkAw
set_option linter.unusedSimpArgs false
set_option linter.unusedVariables false
namespace Go.Proofs.Ytlfddhigdddmjaa
open Go.RowKit

theorem chainb {w a b : World} (h : Below w.heap.size w a) (h2 : Below a.heap.size a b) : Below w.heap.size w b := h.trans (h2.mono h.size)

/-- What is added is taken away again. -/
theorem add_back {a b : Int} (h : addE a b = 0) : addV a b = a + b ∧ 0 ≤ a ∧ 0 ≤ b ∧ a + b ≤ 4611686018427387903 ∧ subE (a + b) b = 0 ∧ subV (a + b) b = a := by
  cases ho : (ofs a && ofs b) with
  | false => have := (add_arg ho).1; omega
  | true =>
    obtain ⟨ha, hb⟩ := both ho
    have h1 := ofs_true ha
    have h2 := ofs_true hb
    by_cases hc : a + b ≤ 4611686018427387903
    · have h3 : (ofs (a + b) && ofs b) = true := by rw [ofs_mk (by omega) hc, hb]; rfl
      obtain ⟨s1, s2⟩ := sub_good (a := a + b) (b := b) h3 (by omega)
      exact ⟨(add_good ho hc).2, h1.1, h2.1, hc, s1, by omega⟩
    · have := (add_over ho (by omega)).1; omega

/-- As many steps as lie between do not lead beyond, and one more does. -/
theorem time_back {f t l : Int} (h : timeE f t l = 0) : 0 ≤ f ∧ f ≤ t ∧ t ≤ 4611686018427387903 ∧ 0 < l ∧ l ≤ 4611686018427387903 ∧
    ∃ p : Int, 0 ≤ timeV f t l ∧ timeV f t l ≤ 4611686018427387903 ∧ 0 ≤ p ∧ p ≤ t ∧ stepE f l (timeV f t l) = 0 ∧ stepV f l (timeV f t l) = p ∧
      ((stepE p l 1 = 10 ∧ stepV p l 1 = 0) ∨ (stepE p l 1 = 0 ∧ stepV p l 1 = p + l ∧ t < p + l)) := by
  by_cases hs : subE t f = 0
  · obtain ⟨f0, ft, t1, hv⟩ := sub_zero hs
    by_cases hb : l = 0 ∨ ofs l = false
    · have := (time_arg hs hb).1; omega
    · have hz : l ≠ 0 := fun x => hb (.inl x)
      have hl : ofs l = true := by cases hx : ofs l with | true => rfl | false => exact absurd (.inr hx) hb
      obtain ⟨l0, l1⟩ := ofs_true hl
      have hlp : 0 < l := by omega
      rw [(time_good hs hz hl).2]
      obtain ⟨q0, q1, q2, q3, q4⟩ := steps_between f0 hlp ft
      refine ⟨f0, ft, t1, hlp, l1, f + l * ((t - f) / l), q0, by omega, by omega, q2, ?_, ?_, ?_⟩
      · exact (step_good (by rw [ofs_mk f0 (by omega), hl, ofs_mk q0 (by omega)]; rfl) (by omega)).1
      · exact (step_good (by rw [ofs_mk f0 (by omega), hl, ofs_mk q0 (by omega)]; rfl) (by omega)).2
      · generalize l * ((t - f) / l) = x at *
        have hoo : (ofs (f + x) && (ofs l && ofs 1)) = true := by rw [ofs_mk (by omega) (by omega), hl, ofs_mk (by omega) (by omega)]; rfl
        by_cases hc : f + x + l * 1 ≤ 4611686018427387903
        · obtain ⟨s1, s2⟩ := step_good hoo hc
          exact .inr ⟨s1, by omega, by omega⟩
        · exact .inl (step_over hoo (by omega))
  · have := (time_sub (l := l) hs).1; omega

theorem time_none {f t l : Int} (h : timeE f t l ≠ 0) : timeV f t l = 0 := by unfold timeV; rw [if_neg h]


set_option maxHeartbeats 2000000 in
theorem back_nn (a b c : Int) (w : World) (ha : ¬ addE a b = 0) (ht : ¬ timeE a b c = 0) :
    Calls Try.prog 5 #[.int .i64 a, .int .i64 b, .int .i64 c] w fun e w' => e = .returned (.bool true) ∧ Below w.heap.size w w' := by
  have HA := Lib.hid (fun W => add_any a b W)
  have HT := Lib.hid (fun W => time_any a b c W)
  rw [time_none ht] at HT
  generalize addV a b = v1 at *
  generalize addE a b = e1 at *
  generalize timeE a b c = e2 at *
  go_enter Try.func5, Try.ntmps5
  go_wp2_with fail
  refine (HA.out _).mono ?_
  rintro e w1 ⟨rfl, hb1⟩
  go_wp2_with fail
  refine (HT.out _).mono ?_
  rintro e w2 ⟨rfl, hb2⟩
  go_wp2_with fail
  refine (awake_any _).mono ?_
  rintro e w3 ⟨rfl, hb3⟩
  go_wp2
  go_ret
  exact ⟨rfl, chainb (chainb hb1 hb2) hb3⟩

set_option maxHeartbeats 2000000 in
theorem back_yn (a b c : Int) (w : World) (ha : addE a b = 0) (ht : ¬ timeE a b c = 0) :
    Calls Try.prog 5 #[.int .i64 a, .int .i64 b, .int .i64 c] w fun e w' => e = .returned (.bool true) ∧ Below w.heap.size w w' := by
  obtain ⟨hv, a0, b0, hab, s1, s2⟩ := add_back ha
  have HA := Lib.hid (fun W => add_any a b W)
  have HS := Lib.hid (fun W => sub_any (a + b) b W)
  have HT := Lib.hid (fun W => time_any a b c W)
  rw [hv, ha] at HA
  rw [s1, s2] at HS
  rw [time_none ht] at HT
  clear hv s1 s2 ha
  generalize timeE a b c = e2 at *
  go_enter Try.func5, Try.ntmps5
  go_wp2_with fail
  refine (HA.out _).mono ?_
  rintro e w1 ⟨rfl, hb1⟩
  go_wp2_with fail
  refine (HS.out _).mono ?_
  rintro e ws ⟨rfl, hbs⟩
  go_wp2_with fail
  refine (HT.out _).mono ?_
  rintro e w2 ⟨rfl, hb2⟩
  go_wp2_with fail
  refine (awake_any _).mono ?_
  rintro e w3 ⟨rfl, hb3⟩
  go_wp2
  go_ret
  exact ⟨rfl, chainb (chainb (chainb hb1 hbs) hb2) hb3⟩

set_option maxHeartbeats 2000000 in
theorem back_ny (a b c : Int) (w : World) (ha : ¬ addE a b = 0) (ht : timeE a b c = 0) :
    Calls Try.prog 5 #[.int .i64 a, .int .i64 b, .int .i64 c] w fun e w' => e = .returned (.bool true) ∧ Below w.heap.size w w' := by
  have HA := Lib.hid (fun W => add_any a b W)
  have HT := Lib.hid (fun W => time_any a b c W)
  obtain ⟨f0, ft, t1, l0, l1, p, n0, n1, p0, p1, k1, k2, hpast⟩ := time_back ht
  have HW := Lib.hid (fun W => step_any a c (timeV a b c) W)
  have HP := Lib.hid (fun W => step_any p c 1 W)
  rw [ht] at HT
  rw [k1, k2] at HW
  clear ht k1 k2
  generalize addV a b = v1 at *
  generalize addE a b = e1 at *
  generalize timeV a b c = n at *
  obtain ⟨x1, x2⟩ | ⟨x1, x2, x3⟩ := hpast
  all_goals rw [x1, x2] at HP
  all_goals clear x1 x2
  all_goals go_enter Try.func5, Try.ntmps5
  all_goals go_wp2_with fail
  all_goals refine (HA.out _).mono ?_
  all_goals rintro e w1 ⟨rfl, hb1⟩
  all_goals go_wp2_with fail
  all_goals refine (HT.out _).mono ?_
  all_goals rintro e w2 ⟨rfl, hb2⟩
  all_goals go_wp2_with fail
  all_goals refine (HW.out _).mono ?_
  all_goals rintro e w3 ⟨rfl, hb3⟩
  all_goals go_wp2_with fail
  all_goals refine (HP.out _).mono ?_
  all_goals rintro e w4 ⟨rfl, hb4⟩
  all_goals go_wp2_with fail
  all_goals refine (awake_any _).mono ?_
  all_goals rintro e w5 ⟨rfl, hb5⟩
  all_goals go_wp2
  all_goals go_ret
  all_goals exact ⟨rfl, chainb (chainb (chainb (chainb hb1 hb2) hb3) hb4) hb5⟩

set_option maxHeartbeats 2000000 in
theorem back_yy (a b c : Int) (w : World) (ha : addE a b = 0) (ht : timeE a b c = 0) :
    Calls Try.prog 5 #[.int .i64 a, .int .i64 b, .int .i64 c] w fun e w' => e = .returned (.bool true) ∧ Below w.heap.size w w' := by
  obtain ⟨hv, a0, b0, hab, s1, s2⟩ := add_back ha
  have HA := Lib.hid (fun W => add_any a b W)
  have HS := Lib.hid (fun W => sub_any (a + b) b W)
  have HT := Lib.hid (fun W => time_any a b c W)
  rw [hv, ha] at HA
  rw [s1, s2] at HS
  clear hv s1 s2 ha
  obtain ⟨f0, ft, t1, l0, l1, p, n0, n1, p0, p1, k1, k2, hpast⟩ := time_back ht
  have HW := Lib.hid (fun W => step_any a c (timeV a b c) W)
  have HP := Lib.hid (fun W => step_any p c 1 W)
  rw [ht] at HT
  rw [k1, k2] at HW
  clear ht k1 k2
  generalize timeV a b c = n at *
  obtain ⟨x1, x2⟩ | ⟨x1, x2, x3⟩ := hpast
  all_goals rw [x1, x2] at HP
  all_goals clear x1 x2
  all_goals go_enter Try.func5, Try.ntmps5
  all_goals go_wp2_with fail
  all_goals refine (HA.out _).mono ?_
  all_goals rintro e w1 ⟨rfl, hb1⟩
  all_goals go_wp2_with fail
  all_goals refine (HS.out _).mono ?_
  all_goals rintro e ws ⟨rfl, hbs⟩
  all_goals go_wp2_with fail
  all_goals refine (HT.out _).mono ?_
  all_goals rintro e w2 ⟨rfl, hb2⟩
  all_goals go_wp2_with fail
  all_goals refine (HW.out _).mono ?_
  all_goals rintro e w3 ⟨rfl, hb3⟩
  all_goals go_wp2_with fail
  all_goals refine (HP.out _).mono ?_
  all_goals rintro e w4 ⟨rfl, hb4⟩
  all_goals go_wp2_with fail
  all_goals refine (awake_any _).mono ?_
  all_goals rintro e w5 ⟨rfl, hb5⟩
  all_goals go_wp2
  all_goals go_ret
  all_goals exact ⟨rfl, chainb (chainb (chainb (chainb (chainb hb1 hbs) hb2) hb3) hb4) hb5⟩

theorem back_all (a b c : Int) (w : World) :
    Calls Try.prog 5 #[.int .i64 a, .int .i64 b, .int .i64 c] w fun e w' => e = .returned (.bool true) ∧ Below w.heap.size w w' := by
  by_cases ha : addE a b = 0
  · by_cases ht : timeE a b c = 0
    · exact back_yy a b c w ha ht
    · exact back_yn a b c w ha ht
  · by_cases ht : timeE a b c = 0
    · exact back_ny a b c w ha ht
    · exact back_nn a b c w ha ht

end Go.Proofs.Ytlfddhigdddmjaa
