/-
  'x & m' of a number m that is not negative. No program here.
-/
import Derived.Test.YtbaifcbjkmmnbaaGen
set_option linter.unusedSimpArgs false
set_option linter.unusedVariables false
namespace Go.Proofs.Ytbaifcbjkmmnbaa

/-- A mask leaves a number that is none greater. -/
theorem mask_at (x : Int) (m : Nat) (hm : m ≤ 1000000000) : ∃ c : Nat, c ≤ m ∧ bits .and .i64 x (m : Int) = (c : Int) := by
  have e : (BitVec.ofInt 64 x &&& BitVec.ofInt 64 (m : Int)).toNat ≤ m := by
    rw [BitVec.toNat_and]
    refine Nat.le_trans Nat.and_le_right ?_
    rw [BitVec.toNat_ofInt]
    omega
  refine ⟨_, e, ?_⟩
  show IntKind.i64.wrap ((BitVec.ofInt 64 x &&& BitVec.ofInt 64 (m : Int)).toNat : Int) = _
  generalize (BitVec.ofInt 64 x &&& BitVec.ofInt 64 (m : Int)).toNat = c at e
  rw [IntKind.wrap_i64]; omega
end Go.Proofs.Ytbaifcbjkmmnbaa
