/-
  occ.Order, and the document's Ahead: walked.
-/
import Derived.Test.YtkpmbappddlcmaaOcG
import Derived.Sort.Grow
set_option linter.unusedSimpArgs false
set_option linter.unusedVariables false
namespace Go.Proofs.Ytkpmbappddlcmaa
open Go.RowKit
open Go.Sort hiding Below

set_option maxHeartbeats 1000000 in
theorem order_lays (x y : Ht) (W : World) :
    Calls Try.prog 20 #[.agg #[.int .i64 x.1, .int .i64 x.2], .agg #[.int .i64 y.1, .int .i64 y.2]] W fun e w' => e = .returned (.int .i64 (cfH x y)) ∧ ∃ q os', w' = grow (W.drewN q) os' := by
  obtain ⟨a, b⟩ := x
  obtain ⟨c, d⟩ := y
  have hq := run_eq_hit a b c d
  simp only
  by_cases h0 : (a, b) = (c, d)
  · have HC : Hid (cfH (a, b) (c, d) = 0) := Lib.hid (cf_same h0)
    have h1 : decide ((a, b) = (c, d)) = true := decide_eq_true h0
    rw [h1] at hq
    clear h0 h1
    go_enter Try.func20, Try.ntmps20
    go_wp2
    go_ret
    exact ⟨by rw [HC.out]; rfl, 0, _, by rw [alloc_eq_grow, alloc_eq_grow, grow_grow]; rfl⟩
  · have h1 : decide ((a, b) = (c, d)) = false := decide_eq_false h0
    rw [h1] at hq
    by_cases h2 : a < c
    · have HC : Hid (cfH (a, b) (c, d) = -1) := Lib.hid (cf_ah (ah_iff.2 (.inl h2)))
      clear h0 h1
      go_enter Try.func20, Try.ntmps20
      go_wp2
      go_ret
      exact ⟨by rw [HC.out]; rfl, 0, _, by rw [alloc_eq_grow, alloc_eq_grow, grow_grow]; rfl⟩
    · by_cases h3 : a = c
      · by_cases h4 : b < d
        · have HC : Hid (cfH (a, b) (c, d) = -1) := Lib.hid (cf_ah (ah_iff.2 (.inr ⟨h3, h4⟩)))
          have h5 : ((a : Int) == c) = true := by simp [h3]
          have H3 := Lib.hid h3
          clear h0 h1 h3
          go_enter Try.func20, Try.ntmps20
          go_wp2
          go_ret
          exact ⟨by rw [HC.out]; rfl, 0, _, by rw [alloc_eq_grow, alloc_eq_grow, grow_grow]; rfl⟩
        · have HC : Hid (cfH (a, b) (c, d) = 1) := Lib.hid (cf_else h0 (by rw [Bool.eq_false_iff]; intro h; have := ah_iff.1 h; simp only at this; omega))
          have h5 : ((a : Int) == c) = true := by simp [h3]
          have H3 := Lib.hid h3
          clear h0 h1 h3
          go_enter Try.func20, Try.ntmps20
          go_wp2
          go_ret
          exact ⟨by rw [HC.out]; rfl, 0, _, by rw [alloc_eq_grow, alloc_eq_grow, grow_grow]; rfl⟩
      · have HC : Hid (cfH (a, b) (c, d) = 1) := Lib.hid (cf_else h0 (by rw [Bool.eq_false_iff]; intro h; have := ah_iff.1 h; simp only at this; omega))
        have h5 : ((a : Int) == c) = false := by simp [h3]
        clear h0 h1
        go_enter Try.func20, Try.ntmps20
        go_wp2
        go_ret
        exact ⟨by rw [HC.out]; rfl, 0, _, by rw [alloc_eq_grow, alloc_eq_grow, grow_grow]; rfl⟩

theorem below_grow {w : World} (q : Nat) (os' : Array Obj) : Below w.heap.size w (grow (w.drewN q) os') :=
  ⟨rfl, rfl, rfl, by simp, fun i hi => by rw [heap_grow_old _ _ (by simpa using hi)]; rfl⟩
theorem order_any (x y : Ht) (W : World) :
    Calls Try.prog 20 #[.agg #[.int .i64 x.1, .int .i64 x.2], .agg #[.int .i64 y.1, .int .i64 y.2]] W fun e w' => e = .returned (.int .i64 (cfH x y)) ∧ Below W.heap.size W w' :=
  (order_lays x y W).mono fun _ _ ⟨he, q, os', hw⟩ => ⟨he, by rw [hw]; exact below_grow q os'⟩
end Go.Proofs.Ytkpmbappddlcmaa
