/-
  Few texts of at most 20 bytes: as the laws ask it. Texts where the heap is the same.
-/
import Derived.Test.YthmihhacfhjimaaAfFw
set_option linter.unusedSimpArgs false
set_option linter.unusedVariables false
namespace Go.Proofs.Ythmihhacfhjimaa
open Go.RowKit

theorem strs_heap_of {w W : World} {a : Option Addr} {len : Nat} {ws : List (List UInt8)} (h : IsStrs w a len ws) (e : W.heap = w.heap) : IsStrs W a len ws := by
  unfold IsStrs World.cell? at *
  rw [e]
  exact h
theorem few_noN (a : Option Addr) (len cap : Nat) (ws : List (List UInt8)) (w : World) (hlen : len ≤ 9223372036854775807) (hr : IsStrs w a len ws) (ht : ∀ t ∈ ws, t.length ≤ 9223372036854775807) (β : Bool) (hq : fewB ws 12 20 = β) :
    Calls Try.prog 4 #[.slice a len cap, .int .i64 12, .int .i64 20] w fun e w' => e = .returned (.bool β) ∧ w' = w := by
  have := few_any a len cap ws 12 20 w hlen (by omega) (by omega) hr ht
  rw [hq] at this
  exact this
end Go.Proofs.Ythmihhacfhjimaa
