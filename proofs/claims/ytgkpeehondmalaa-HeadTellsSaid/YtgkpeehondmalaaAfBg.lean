/-
  affix.Begins, walked.
-/
import Derived.Test.YtgkpeehondmalaaAfM
import Derived.Test.YtgkpeehondmalaaStr
import Derived.Test.YtgkpeehondmalaaShelf
set_option linter.unusedSimpArgs false
set_option linter.unusedVariables false
namespace Go.Proofs.Ytgkpeehondmalaa
open Go.RowKit

theorem bool_pre (a b : List UInt8) : Lib.hasPrefix a b = decide ((preL a b : Int) = (b.length : Int)) := by
  rw [Bool.eq_iff_iff]
  simp only [Lib.hasPrefix, List.isPrefixOf_iff_prefix, decide_eq_true_eq]
  rw [← preL_whole]; omega

set_option maxHeartbeats 1000000 in
theorem begins_any (a b : List UInt8) (w : World) :
    Calls Try.prog 25 #[.string ⟨a.toArray⟩, .string ⟨b.toArray⟩] w fun e w' => e = .returned (.bool (Lib.hasPrefix a b)) ∧ w' = w := by
  have h := Try.strings_HasPrefix ⟨a.toArray⟩ ⟨b.toArray⟩ w
  simp only at h
  generalize Lib.hasPrefix a b = r at h ⊢
  have H := Lib.hid h
  clear h
  go_enter Try.func25, Try.ntmps25
  go_wp2_with fail
  refine H.out.mono ?_
  rintro e w' ⟨rfl, rfl⟩
  go_wp2
  go_ret
  exact ⟨rfl, rfl⟩
end Go.Proofs.Ytgkpeehondmalaa
