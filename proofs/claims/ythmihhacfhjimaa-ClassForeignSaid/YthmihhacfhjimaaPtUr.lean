/-
  The document's sets of patterns, made or not: one contract for both ways.
-/
import Derived.Test.YthmihhacfhjimaaPtU
set_option linter.unusedSimpArgs false
set_option linter.unusedVariables false
namespace Go.Proofs.Ythmihhacfhjimaa
open Go.RowKit

theorem rptnew_all (a : Option Addr) (len cap : Nat) (ws : List (List UInt8)) (w : World) (hlen : len ≤ 1000000) (hr : IsStrs w a len ws) (ht : ∀ t ∈ ws, t.length ≤ 1000000000) :
    Calls Try.prog 7 #[.slice a len cap] w fun e w' => ∃ (a : Option Addr) (cap : Nat), e = .returned (.tuple #[.slice a (setL ws).length cap, .int .i64 (faultL ws)]) ∧ IsStrs w' a (setL ws).length (setL ws) ∧ Below w.heap.size w w' := by
  refine (rptnew_any a len cap ws w hlen hr ht).mono ?_
  rintro e w' ⟨a, cap, L, rfl, h1, h2, hs, hb⟩
  have e : L = setL ws := by
    by_cases hf : faultL ws = 0
    · rw [h1 hf, set_good hf]
    · rw [(h2 hf).1, set_bad hf]
  subst e
  exact ⟨a, cap, rfl, hs, hb⟩
end Go.Proofs.Ythmihhacfhjimaa
