/-
  The document's Same (of two slices of numbers), walked.
-/
import Derived.Test.YtbaifcbjkmmnbaaInts
set_option linter.unusedSimpArgs false
set_option linter.unusedVariables false
namespace Go.Proofs.Ytbaifcbjkmmnbaa
open Go.RowKit

set_option maxHeartbeats 2000000 in
theorem isame_any (a b : Option Addr) (len ca cb t1 t2 : Nat) (zs : List Int) (w : World) (hlen : len ≤ 1000000000) (ha : IsRow .i64 w a len t1 zs) (hb : IsRow .i64 w b len t2 zs) :
    Calls Try.prog 23 #[.slice a len ca, .slice b len cb] w fun e w' => e = .returned (.bool true) ∧ Below w.heap.size w w' := by
  go_enter Try.func23, Try.ntmps23
  go_wp2
  go_loopw [5] (fun i wr => ∃ k : Nat, k ≤ len ∧ i = .int .i64 k ∧ Below w.heap.size w wr) (fun i _ => len - (RowKit.intOf i).toNat)
  case atStart => exact ⟨0, Nat.zero_le _, rfl, Below.refl _ _⟩
  case round =>
    obtain ⟨k, hk, rfl, hbe⟩ := hrel
    by_cases hlt : k < len
    · obtain h0 | ⟨b1, off1, rfl, hl1, _, _, c1⟩ := ha.below hbe
      · omega
      obtain h0 | ⟨b2, off2, rfl, hl2, _, _, c2⟩ := hb.below hbe
      · omega
      have d1 := c1 k (by omega)
      have d2 := c2 k (by omega)
      clear c1 c2 ha hb
      generalize zs.getD k 0 = x at d1 d2
      have g0 : (0 : Int) ≤ (k : Int) := by omega
      have g1 : (k : Int) < (len : Int) := by omega
      go_wp2_with fail
      go_quiet (fail)
      go_wp2
      exact ⟨⟨k + 1, by omega, by go_num, below_drewS hbe _⟩, by simp [RowKit.intOf]; omega⟩
    · obtain rfl : k = len := by omega
      go_wp2
      go_ret
      exact ⟨rfl, hbe⟩
end Go.Proofs.Ytbaifcbjkmmnbaa
