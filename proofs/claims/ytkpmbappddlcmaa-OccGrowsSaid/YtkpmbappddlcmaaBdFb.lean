/-
  The places of a text in a text, as a list; none of the empty one. No program here.
-/
import Derived.Test.YtkpmbappddlcmaaBdM
import Derived.Test.YtkpmbappddlcmaaInts
set_option linter.unusedSimpArgs false
set_option linter.unusedVariables false
namespace Go.Proofs.Ytkpmbappddlcmaa
open Go.RowKit

/-- The places, as a list of numbers; of the empty text none. -/
def fndB (s t : List UInt8) : List Int := if t.isEmpty then [] else fnd s t s.length
theorem fndB_nil (s : List UInt8) : fndB s [] = [] := rfl
theorem fndB_full {s t : List UInt8} (h : t.isEmpty = false) : fndB s t = fnd s t s.length := by unfold fndB; rw [h]; rfl
end Go.Proofs.Ytkpmbappddlcmaa
