/-
  varint.Put, walked.
-/
import Derived.Test.YtgkpeehondmalaaVarW
set_option linter.unusedSimpArgs false
set_option linter.unusedVariables false
namespace Go.Proofs.Ytgkpeehondmalaa
open Go.RowKit

set_option maxHeartbeats 400000 in
theorem put_any (n : Int) (w : World) (h1 : -9223372036854775808 ≤ n) (h2 : n ≤ 9223372036854775807) :
    Calls Try.prog 31 #[.int .i64 n] w fun e w' => e = .returned (.string ⟨(vput n).toArray⟩) ∧ Below w.heap.size w w' := by
  go_enter Try.func31, Try.ntmps31
  go_wp2_with fail
  refine (all_any _ 1 1 [n] _ (by omega) ?_ ?_).mono ?_
  · refine .inr ⟨w.heap.size, 0, rfl, by omega, by unfold maxLen; omega, rfl, fun i hi => ?_⟩
    obtain rfl : i = 0 := by omega
    rw [Nat.zero_add, World.cell?_alloc_new]
    rfl
  · intro x hx
    simp at hx
    omega
  rintro e w' ⟨rfl, hb⟩
  go_wp2
  go_ret
  exact ⟨by simp [vall], ((Below.refl _ _).alloc (Nat.le_refl _) _).trans (hb.mono (by simp))⟩
end Go.Proofs.Ytgkpeehondmalaa
