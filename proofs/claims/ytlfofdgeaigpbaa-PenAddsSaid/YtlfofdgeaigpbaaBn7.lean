/-
  Texts put together: RkRis.
-/
import Derived.Test.YtlfofdgeaigpbaaBn1
import Derived.Test.YtlfofdgeaigpbaaRows
import Derived.WalkKit
import Derived.WalkSpells
import Derived.WalkLawsBesides
import Derived.Lib.Hide
import Derived.Outline
import Derived.IntWalk
set_option linter.unusedSimpArgs false
set_option linter.unusedVariables false
namespace Go.Proofs.Ytlfofdgeaigpbaa
open Go.RowKit

set_option maxHeartbeats 400000 in
theorem ris_any (n : Int) (w : World) (r : Bool) (hr : ofs n = r) :
    Calls Try.prog 33 #[.int .i64 n] w fun e w' => e = .returned (.bool r) ∧ w = w' := by
  subst hr
  by_cases h0 : n < 0
  · rw [ofs_low h0]
    have h1 : ¬ 0 ≤ n := by omega
    go_enter Try.func33, Try.ntmps33
    go_wp2
    go_ret
    exact ⟨rfl, rfl⟩
  · have h1 : 0 ≤ n := by omega
    by_cases h2 : n ≤ 4611686018427387903
    · rw [ofs_mk h1 h2]
      go_enter Try.func33, Try.ntmps33
      go_wp2
      go_ret
      exact ⟨rfl, rfl⟩
    · rw [ofs_high (by omega)]
      go_enter Try.func33, Try.ntmps33
      go_wp2
      go_ret
      exact ⟨rfl, rfl⟩

end Go.Proofs.Ytlfofdgeaigpbaa
