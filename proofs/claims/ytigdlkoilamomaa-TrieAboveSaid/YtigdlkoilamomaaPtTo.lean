/-
  A set of patterns: Total: walked.
-/
import Derived.Test.YtigdlkoilamomaaPtU
set_option linter.unusedSimpArgs false
set_option linter.unusedVariables false
namespace Go.Proofs.Ytigdlkoilamomaa
open Go.RowKit

theorem pttotal_all {w : World} {p : Option Addr} {us : List (List UInt8)} (h : IsPats w p us) : Calls Try.prog 23 #[.pointer p] w fun e w' => e = .returned (.int .i64 (totalL us : Int)) ∧ w' = w := by
  rcases h with ⟨rfl, rfl⟩ | ⟨b, rfl, h, _⟩
  · go_enter Try.func23, Try.ntmps23
    go_wp2
    go_ret
    exact ⟨rfl, rfl⟩
  · obtain ⟨g, cap, _, _, _, c3, _⟩ := h.reads
    clear h
    generalize totalL us = n at c3 ⊢
    go_enter Try.func23, Try.ntmps23
    go_wp2
    go_ret
    exact ⟨rfl, rfl⟩
end Go.Proofs.Ytigdlkoilamomaa
