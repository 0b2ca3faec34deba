/-
  A set of patterns: List: walked.
-/
import Derived.Test.YtkpmbappddlcmaaPtIs
import Derived.Test.YtkpmbappddlcmaaAfSo
set_option linter.unusedSimpArgs false
set_option linter.unusedVariables false
namespace Go.Proofs.Ytkpmbappddlcmaa
open Go.RowKit

theorem ptlist_nil (w : World) : Calls Try.prog 23 #[.pointer none] w fun e w' => e = .returned (.slice none 0 0) ∧ w' = w := by
  go_enter Try.func23, Try.ntmps23
  go_wp2
  go_ret
  exact ⟨rfl, rfl⟩
theorem ptlist_any {w : World} {b : Nat} {ws : List (List UInt8)} (h : IsSet w b ws) (hl : ws.length ≤ 1000000) : Calls Try.prog 23 #[.pointer (some ⟨b, 0, none⟩)] w (RetO ws w) := by
  obtain ⟨g, cap, c0, _, _, _, hown⟩ := h.reads
  have HC := Lib.hid (clone_own (some ⟨g, 0, none⟩) ws.length cap ws w hl (own_strs hown))
  clear h hown
  go_enter Try.func23, Try.ntmps23
  go_wp2_with fail
  refine HC.out.mono ?_
  rintro e w' ⟨v, rfl, hown, hb⟩
  have HO := Lib.hid hown
  clear hown HC
  go_wp2
  go_ret
  exact ⟨v, rfl, HO.out, hb⟩
end Go.Proofs.Ytkpmbappddlcmaa
