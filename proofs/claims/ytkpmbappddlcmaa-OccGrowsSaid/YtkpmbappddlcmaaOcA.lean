/-
  The document's Ahead: walked.
-/
import Derived.Test.YtkpmbappddlcmaaOcG
set_option linter.unusedSimpArgs false
set_option linter.unusedVariables false
namespace Go.Proofs.Ytkpmbappddlcmaa
open Go.RowKit
open Go.Sort hiding Below

set_option maxHeartbeats 1000000 in
theorem ahead_lays (x y : Ht) (W : World) :
    Calls Try.prog 19 #[.agg #[.int .i64 x.1, .int .i64 x.2], .agg #[.int .i64 y.1, .int .i64 y.2]] W fun e w' => e = .returned (.bool (ahB x y)) ∧ ∃ q os', w' = grow (W.drewN q) os' := by
  obtain ⟨a, b⟩ := x
  obtain ⟨c, d⟩ := y
  simp only
  by_cases h2 : a < c
  · have HC : Hid (ahB (a, b) (c, d) = true) := Lib.hid (ah_iff.2 (.inl h2))
    go_enter Try.func19, Try.ntmps19
    go_wp2
    go_ret
    exact ⟨by rw [HC.out]; rfl, 0, _, by rw [alloc_eq_grow, alloc_eq_grow, grow_grow]; rfl⟩
  · by_cases h3 : a = c
    · have h5 : ((a : Int) == c) = true := by simp [h3]
      obtain ⟨β, hβ⟩ : ∃ β, decide (b < d) = β := ⟨_, rfl⟩
      have HC : Hid (ahB (a, b) (c, d) = β) := Lib.hid (by
        unfold ahB
        simp only
        rw [hβ, decide_eq_false h2, decide_eq_true h3]
        simp)
      clear h3
      go_enter Try.func19, Try.ntmps19
      go_wp2
      go_ret
      exact ⟨by rw [HC.out]; rfl, 0, _, by rw [alloc_eq_grow, alloc_eq_grow, grow_grow]; rfl⟩
    · have HC : Hid (ahB (a, b) (c, d) = false) := Lib.hid (by rw [Bool.eq_false_iff]; intro h; have := ah_iff.1 h; simp only at this; omega)
      have h5 : ((a : Int) == c) = false := by simp [h3]
      go_enter Try.func19, Try.ntmps19
      go_wp2
      go_ret
      exact ⟨by rw [HC.out]; rfl, 0, _, by rw [alloc_eq_grow, alloc_eq_grow, grow_grow]; rfl⟩
end Go.Proofs.Ytkpmbappddlcmaa
