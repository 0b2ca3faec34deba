/-
  The law's 'awake' of layer 3: chapter 3's examples, walked: true.
-/
import Derived.Test.YtlfddhigdddmjaaRkS
set_option linter.unusedSimpArgs false
set_option linter.unusedVariables false
namespace Go.Proofs.Ytlfddhigdddmjaa
open Go.RowKit

theorem add_ex (w : World) : Calls Try.prog 6 #[.int .i64 2305843009213693952, .int .i64 2305843009213693952] w (Ret2 0 10 w) := by
  have h := add_any 2305843009213693952 2305843009213693952 w
  rw [show addV 2305843009213693952 2305843009213693952 = 0 from by decide +kernel, show addE 2305843009213693952 2305843009213693952 = 10 from by decide +kernel] at h
  exact h
theorem step_ex (w : World) : Calls Try.prog 15 #[.int .i64 3, .int .i64 5, .int .i64 2] w (Ret2 13 0 w) := by
  have h := step_any 3 5 2 w
  rw [show stepV 3 5 2 = 13 from by decide +kernel, show stepE 3 5 2 = 0 from by decide +kernel] at h
  exact h
theorem time_ex (w : World) : Calls Try.prog 17 #[.int .i64 3, .int .i64 14, .int .i64 5] w (Ret2 2 0 w) := by
  have h := time_any 3 14 5 w
  rw [show timeV 3 14 5 = 2 from by decide +kernel, show timeE 3 14 5 = 0 from by decide +kernel] at h
  exact h

set_option maxHeartbeats 400000 in
theorem awake_any (w : World) :
    Calls Try.prog 14 #[] w fun e w' => e = .returned (.bool true) ∧ Below w.heap.size w w' := by
  go_enter Try.func14, Try.ntmps14
  go_wp2_with fail
  refine (add_ex _).mono ?_
  rintro e w1 ⟨rfl, hb1⟩
  go_wp2_with fail
  refine (step_ex _).mono ?_
  rintro e w2 ⟨rfl, hb2⟩
  go_wp2_with fail
  refine (time_ex _).mono ?_
  rintro e w3 ⟨rfl, hb3⟩
  go_wp2
  go_ret
  have hb12 := hb1.trans (hb2.mono hb1.size)
  exact ⟨rfl, hb12.trans (hb3.mono hb12.size)⟩
end Go.Proofs.Ytlfddhigdddmjaa
