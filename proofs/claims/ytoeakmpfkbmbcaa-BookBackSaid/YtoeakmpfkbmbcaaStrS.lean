/-
  The document's Same (of two slices of strings), walked.
-/
import Derived.Test.YtoeakmpfkbmbcaaStr
set_option linter.unusedSimpArgs false
set_option linter.unusedVariables false
namespace Go.Proofs.Ytoeakmpfkbmbcaa
open Go.RowKit

set_option maxHeartbeats 2000000 in
theorem essame_any (a b : Option Addr) (len ca cb : Nat) (ws : List (List UInt8)) (w : World) (hlen : len ≤ 1000000000) (ha : IsStrs w a len ws) (hb : IsStrs w b len ws) :
    Calls Try.prog 14 #[.slice a len ca, .slice b len cb] w fun e w' => e = .returned (.bool true) ∧ Below w.heap.size w w' := by
  go_enter Try.func14, Try.ntmps14
  go_wp2
  go_loopw [5] (fun i wr => ∃ k : Nat, k ≤ len ∧ i = .int .i64 k ∧ Below w.heap.size w wr) (fun i _ => len - (RowKit.intOf i).toNat)
  case atStart => exact ⟨0, Nat.zero_le _, rfl, Below.refl _ _⟩
  case round =>
    obtain ⟨k, hk, rfl, hbe⟩ := hrel
    by_cases hlt : k < len
    · obtain ⟨b1, off1, rfl, t, hf, c0⟩ := str_at ha hbe k hlt
      obtain ⟨b2, off2, rfl, t2, hf2, d0⟩ := str_at hb hbe k hlt
      have e : t2 = t := by rw [hf] at hf2; simpa using hf2.symm
      subst e
      clear hf hf2
      have g0 : (0 : Int) ≤ (k : Int) := by omega
      have g1 : (k : Int) < (len : Int) := by omega
      go_wp2_with fail
      go_quiet (fail)
      go_wp2
      exact ⟨⟨k + 1, by omega, by go_num, below_drewS hbe _⟩, by simp [RowKit.intOf]; omega⟩
    · obtain rfl : k = len := by omega
      go_wp2
      go_ret
      exact ⟨rfl, hbe⟩
end Go.Proofs.Ytoeakmpfkbmbcaa
