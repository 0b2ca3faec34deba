/-
  The law's 'awake' of layer 2: chapter 2's examples, walked: true.
-/
import Derived.Test.YtenhhpkimjpomaaVarT
import Derived.Test.YtenhhpkimjpomaaVarW
set_option linter.unusedSimpArgs false
set_option linter.unusedVariables false
namespace Go.Proofs.Ytenhhpkimjpomaa
open Go.RowKit

theorem vput_300 : vput 300 = [172, 2] := by
  rw [vput_big 300 (by decide), show ((300 : Int) / 128) = 2 from rfl, vput_small 2 (by decide) (by decide)]
  decide

theorem take_ex1 (w : World) : Calls Try.prog 11 #[.string ⟨#[128, 0]⟩] w (RetT 0 0 3 w) := by
  have h := take_any [128, 0] w (by decide)
  rw [show tN [128, 0] = 0 from by decide +kernel, show tS [128, 0] = 0 from by decide +kernel, show tE [128, 0] = 3 from by decide +kernel] at h
  exact h
theorem take_ex2 (w : World) : Calls Try.prog 11 #[.string ⟨#[128]⟩] w (RetT 0 0 4 w) := by
  have h := take_any [128] w (by decide)
  rw [show tN [128] = 0 from by decide +kernel, show tS [128] = 0 from by decide +kernel, show tE [128] = 4 from by decide +kernel] at h
  exact h
theorem put_ex (w : World) : Calls Try.prog 8 #[.int .i64 300] w fun e w' => e = .returned (.string ⟨#[172, 2]⟩) ∧ Below w.heap.size w w' := by
  have h := put_any 300 w (by decide) (by decide)
  rw [vput_300] at h
  exact h
theorem size_ex (w : World) : Calls Try.prog 9 #[.int .i64 300] w fun e w' => e = .returned (.int .i64 2) ∧ w = w' := by
  have h := size_any 300 w (by decide)
  rw [vput_300] at h
  exact h

set_option maxHeartbeats 400000 in
theorem awake_any (w : World) :
    Calls Try.prog 6 #[] w fun e w' => e = .returned (.bool true) ∧ Below w.heap.size w w' := by
  go_enter Try.func6, Try.ntmps6
  go_wp2_with fail
  refine (take_ex1 _).mono ?_
  rintro e w' ⟨rfl, rfl⟩
  go_wp2_with fail
  refine (take_ex2 _).mono ?_
  rintro e w' ⟨rfl, rfl⟩
  go_wp2_with fail
  refine (put_ex _).mono ?_
  rintro e w1 ⟨rfl, hb⟩
  go_wp2_with fail
  refine (size_ex _).mono ?_
  rintro e w' ⟨rfl, rfl⟩
  go_wp2
  go_ret
  exact ⟨rfl, hb⟩
end Go.Proofs.Ytenhhpkimjpomaa
