/-
  Texts put together: AfEn.
-/
import Derived.Test.YtmgcdhcidojdhaaBn2
import Derived.Test.YtmgcdhcidojdhaaBn4
import Derived.Test.YtmgcdhcidojdhaaShelf
set_option linter.unusedSimpArgs false
set_option linter.unusedVariables false
namespace Go.Proofs.Ytmgcdhcidojdhaa
open Go.RowKit

set_option maxHeartbeats 1000000 in
theorem ends_any (a b : List UInt8) (w : World) (ha : a.length ≤ 1000000000) :
    Calls Try.prog 74 #[.string ⟨a.toArray⟩, .string ⟨b.toArray⟩] w fun e w' => e = .returned (.bool (Lib.hasSuffix a b)) ∧ w' = w := by
  have h := Try.strings_HasSuffix ⟨a.toArray⟩ ⟨b.toArray⟩ w (by rw [bsize]; omega)
  simp only at h
  generalize Lib.hasSuffix a b = r at h ⊢
  have H := Lib.hid h
  clear h
  go_enter Try.func74, Try.ntmps74
  go_wp2_with fail
  refine H.out.mono ?_
  rintro e w' ⟨rfl, rfl⟩
  go_wp2
  go_ret
  exact ⟨rfl, rfl⟩
end Go.Proofs.Ytmgcdhcidojdhaa
