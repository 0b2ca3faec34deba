/-
  A set of patterns in memory: Least: walked.
-/
import Derived.Test.YtcbaloacmbekkaaPtIs
set_option linter.unusedSimpArgs false
set_option linter.unusedVariables false
namespace Go.Proofs.Ytcbaloacmbekkaa
open Go.RowKit

theorem ptleast_nil (w : World) : Calls Try.prog 24 #[.pointer none] w fun e w' => e = .returned (.int .i64 0) ∧ w' = w := by
  go_enter Try.func24, Try.ntmps24
  go_wp2
  go_ret
  exact ⟨rfl, rfl⟩
theorem ptleast_any {w : World} {b : Nat} {ws : List (List UInt8)} (h : IsSet w b ws) : Calls Try.prog 24 #[.pointer (some ⟨b, 0, none⟩)] w fun e w' => e = .returned (.int .i64 (leastL ws : Int)) ∧ w' = w := by
  obtain ⟨g, cap, _, c1, _⟩ := h.reads
  clear h
  generalize leastL ws = n at c1 ⊢
  go_enter Try.func24, Try.ntmps24
  go_wp2
  go_ret
  exact ⟨rfl, rfl⟩
end Go.Proofs.Ytcbaloacmbekkaa
