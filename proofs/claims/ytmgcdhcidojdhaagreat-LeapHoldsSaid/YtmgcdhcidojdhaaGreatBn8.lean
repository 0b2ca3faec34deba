/-
  Texts put together: AfEn.
-/
import Derived.Test.YtmgcdhcidojdhaaGreatBn1
import Derived.Test.YtmgcdhcidojdhaaGreatShelf
set_option linter.unusedSimpArgs false
set_option linter.unusedVariables false
namespace Go.Proofs.YtmgcdhcidojdhaaGreat
open Go.RowKit

set_option maxHeartbeats 1000000 in
theorem ends_any (a b : List UInt8) (w : World) (ha : a.length ≤ 1000000000) :
    Calls Tryz.prog 100 #[.string ⟨a.toArray⟩, .string ⟨b.toArray⟩] w fun e w' => e = .returned (.bool (Lib.hasSuffix a b)) ∧ w' = w := by
  have h := Tryz.strings_HasSuffix ⟨a.toArray⟩ ⟨b.toArray⟩ w (by rw [bsize]; omega)
  simp only at h
  generalize Lib.hasSuffix a b = r at h ⊢
  have H := Lib.hid h
  clear h
  go_enter Tryz.func100, Tryz.ntmps100
  go_wp2_with fail
  refine H.out.mono ?_
  rintro e w' ⟨rfl, rfl⟩
  go_wp2
  go_ret
  exact ⟨rfl, rfl⟩
end Go.Proofs.YtmgcdhcidojdhaaGreat
