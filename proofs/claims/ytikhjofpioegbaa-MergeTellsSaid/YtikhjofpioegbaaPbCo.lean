/-
  probe.Covers: walked.
-/
import Derived.Test.YtikhjofpioegbaaRecM
import Derived.Lib.MinMax
set_option linter.unusedSimpArgs false
set_option linter.unusedVariables false
namespace Go.Proofs.Ytikhjofpioegbaa
open Go.RowKit


set_option maxRecDepth 100000 in
set_option maxHeartbeats 1000000 in
theorem pbcov_any (k n r : Int) (v : Value) (hv : ∃ a len cap, v = .slice a len cap) (w : World) :
    Calls Try.prog 25 #[.agg #[.int .i64 k, .int .i64 n, .int .i64 r, v]] w fun e w' => e = .returned (.int .i64 (covZ k n)) ∧ Below w.heap.size w w' := by
  obtain ⟨a, len, cap, rfl⟩ := hv
  have hX := heap_alloc_new w (.cells #[.int .i64 k, .int .i64 n, .int .i64 r, .slice a len cap] 24)
  obtain ⟨c0, c1, c2, c3⟩ := rec_reads hX
  have HB : Hid (Below w.heap.size w (w.alloc (.cells #[.int .i64 k, .int .i64 n, .int .i64 r, .slice a len cap] 24))) := Lib.hid ((Below.refl _ _).alloc (Nat.le_refl _) _)
  clear hX
  by_cases h1 : k = 1
  · subst h1
    have HC : Hid (covZ 1 n = max n 0) := Lib.hid (by simp [covZ])
    go_enter Try.func25, Try.ntmps25
    go_wp2
    go_ret
    exact ⟨by rw [HC.out]; rfl, HB.out⟩
  · by_cases h2 : k = 2
    · subst h2
      have HC : Hid (covZ 2 n = max n 0) := Lib.hid (by simp [covZ])
      go_enter Try.func25, Try.ntmps25
      go_wp2
      go_ret
      exact ⟨by rw [HC.out]; rfl, HB.out⟩
    · by_cases h3 : k = 3
      · subst h3
        have HC : Hid (covZ 3 n = 1) := Lib.hid (by simp [covZ])
        go_enter Try.func25, Try.ntmps25
        go_wp2
        go_ret
        exact ⟨by rw [HC.out]; rfl, HB.out⟩
      · by_cases h4 : k = 4
        · subst h4
          have HC : Hid (covZ 4 n = 1) := Lib.hid (by simp [covZ])
          go_enter Try.func25, Try.ntmps25
          go_wp2
          go_ret
          exact ⟨by rw [HC.out]; rfl, HB.out⟩
        · have HC : Hid (covZ k n = 0) := Lib.hid (by simp [covZ, h1, h2, h3, h4])
          have g1 : (k == 1) = false := by simp [h1]
          have g2 : (k == 2) = false := by simp [h2]
          have g3 : (k == 3) = false := by simp [h3]
          have g4 : (k == 4) = false := by simp [h4]
          go_enter Try.func25, Try.ntmps25
          go_wp2
          go_ret
          exact ⟨by rw [HC.out]; rfl, HB.out⟩

end Go.Proofs.Ytikhjofpioegbaa
