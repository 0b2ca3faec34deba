/-
  Sets of few texts. No program here.
-/
import Derived.Test.YthmihhacfhjimaaPtU
import Derived.Test.YthmihhacfhjimaaAfFw
set_option linter.unusedSimpArgs false
set_option linter.unusedVariables false
namespace Go.Proofs.Ythmihhacfhjimaa

theorem few_set {ws : List (List UInt8)} (hq : fewB ws 20 50 = true) : (setL ws).length ≤ 20 ∧ ∀ t ∈ setL ws, t.length ≤ 50 := by
  have hfw := (few_iff ws 20 50).1 hq
  refine ⟨Nat.le_trans (set_length ws) hfw.1, fun t h => hfw.2 t (set_mem h).1⟩
theorem few_setN {ws : List (List UInt8)} {m n : Nat} (hq : fewB ws m n = true) : (setL ws).length ≤ m ∧ ∀ t ∈ setL ws, t.length ≤ n := by
  have hfw := (few_iff ws m n).1 hq
  refine ⟨Nat.le_trans (set_length ws) hfw.1, fun t h => hfw.2 t (set_mem h).1⟩
end Go.Proofs.Ythmihhacfhjimaa
