/-
  What was wrong first. No program here.
-/
import Derived.Test.YtbaifcbjkmmnbaaGen
set_option linter.unusedSimpArgs false
set_option linter.unusedVariables false
namespace Go.Proofs.Ytbaifcbjkmmnbaa
open Go.RowKit

/-- What was wrong first, behind one more thing that is asked. -/
def askX (x : Int) (q : Bool) (e : Int) : Int := if x = 0 ∧ q = false then e else x
theorem ask_zero {x : Int} {q : Bool} {e : Int} (he : e ≠ 0) : askX x q e = 0 ↔ x = 0 ∧ q = true := by
  unfold askX
  cases q <;> simp
  by_cases hx : x = 0 <;> simp [hx, he]
theorem ask_true (x e : Int) : askX x true e = x := by unfold askX; simp
theorem ask_two {x e : Int} (he : e ≠ 0) (p q : Bool) : askX (askX x p e) q e = askX x (p && q) e := by
  unfold askX
  cases p <;> cases q <;> by_cases hx : x = 0 <;> simp [hx, he]

end Go.Proofs.Ytbaifcbjkmmnbaa
