/-
  The document's lengths of layer 11: walked.
-/
import Derived.Test.YtoeakmpfkbmbcaaBkM
import Derived.Test.YtoeakmpfkbmbcaaStr
set_option linter.unusedSimpArgs false
set_option linter.unusedVariables false
namespace Go.Proofs.Ytoeakmpfkbmbcaa
open Go.RowKit

set_option maxHeartbeats 2000000 in
theorem rlen_any (a : List UInt8) (x y : Int) (T l : Nat) (w : World) (ha : a.length ≤ 65535) (hT : T ≤ 16777216) (hl : l ≤ 1000000000) (hx : 0 ≤ x) (hx2 : x ≤ 9223372036854775807) (hy : 0 ≤ y) (hy2 : y ≤ 9223372036854775807) :
    Calls Try.prog 31 #[.int .i64 x, .int .i64 y, .string ⟨a.toArray⟩, .int .i64 (T : Int), .int .i64 (l : Int)] w fun e w' => e = .returned (.int .i64 (lenE x y a.length (T : Int) (l : Int))) ∧ w' = w := by
  have S1 := Lib.hid (bsize a)
  by_cases q1 : (a.length : Int) < x
  · have HE : Hid (lenE x y a.length (T : Int) (l : Int) = 3) := Lib.hid (by unfold lenE; (repeat' split) <;> omega)
    rw [HE.out]
    go_enter Try.func31, Try.ntmps31
    go_wp2
    go_ret
    exact ⟨rfl, rfl⟩
  · by_cases q2 : y = 0
    · by_cases q3 : x = 0
      · have HE : Hid (lenE x y a.length (T : Int) (l : Int) = 7) := Lib.hid (by unfold lenE; (repeat' split) <;> omega)
        rw [HE.out]
        subst q2 q3
        go_enter Try.func31, Try.ntmps31
        go_wp2
        go_ret
        exact ⟨rfl, rfl⟩
      · have HE : Hid (lenE x y a.length (T : Int) (l : Int) = 9) := Lib.hid (by unfold lenE; (repeat' split) <;> omega)
        have g3 : (x == 0) = false := by simpa using q3
        rw [HE.out]
        subst q2
        go_enter Try.func31, Try.ntmps31
        go_wp2
        go_ret
        exact ⟨rfl, rfl⟩
    · have g2 : (y == 0) = false := by simpa using q2
      by_cases q4 : 65535 - x < y
      · have HE : Hid (lenE x y a.length (T : Int) (l : Int) = 5) := Lib.hid (by unfold lenE; (repeat' split) <;> omega)
        rw [HE.out]
        go_enter Try.func31, Try.ntmps31
        go_wp2
        go_ret
        exact ⟨rfl, rfl⟩
      · have g5 : y ≤ 65535 - x := by omega
        by_cases q5 : 16777216 - (T : Int) < x + y
        · have HE : Hid (lenE x y a.length (T : Int) (l : Int) = 13) := Lib.hid (by unfold lenE; (repeat' split) <;> omega)
          rw [HE.out]
          go_enter Try.func31, Try.ntmps31
          go_wp2
          go_ret
          exact ⟨rfl, rfl⟩
        · by_cases q6 : (l : Int) < y
          · have HE : Hid (lenE x y a.length (T : Int) (l : Int) = 4) := Lib.hid (by unfold lenE; (repeat' split) <;> omega)
            rw [HE.out]
            go_enter Try.func31, Try.ntmps31
            go_wp2
            go_ret
            exact ⟨rfl, rfl⟩
          · have HE : Hid (lenE x y a.length (T : Int) (l : Int) = 0) := Lib.hid (by unfold lenE; (repeat' split) <;> omega)
            rw [HE.out]
            go_enter Try.func31, Try.ntmps31
            go_wp2
            go_ret
            exact ⟨rfl, rfl⟩
end Go.Proofs.Ytoeakmpfkbmbcaa
