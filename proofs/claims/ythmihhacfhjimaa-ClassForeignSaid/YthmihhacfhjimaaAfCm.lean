/-
  affix.Compare, walked.
-/
import Derived.Test.YthmihhacfhjimaaAfM
import Derived.Test.YthmihhacfhjimaaStr
import Derived.Test.YthmihhacfhjimaaShelf
set_option linter.unusedSimpArgs false
set_option linter.unusedVariables false
namespace Go.Proofs.Ythmihhacfhjimaa
open Go.RowKit

set_option maxHeartbeats 1000000 in
theorem compare_any (a b : List UInt8) (w : World) :
    Calls Try.prog 24 #[.string ⟨a.toArray⟩, .string ⟨b.toArray⟩] w fun e w' => e = .returned (.int .i64 (Lib.compareBytes a b)) ∧ w' = w := by
  have h := Try.strings_Compare ⟨a.toArray⟩ ⟨b.toArray⟩ w
  simp only at h
  generalize Lib.compareBytes a b = r at h ⊢
  have H := Lib.hid h
  clear h
  go_enter Try.func24, Try.ntmps24
  go_wp2_with fail
  refine H.out.mono ?_
  rintro e w' ⟨rfl, rfl⟩
  go_wp2
  go_ret
  exact ⟨rfl, rfl⟩
end Go.Proofs.Ythmihhacfhjimaa
