/-
  What a place of a text in a text tells. No program's walk here.
-/
import Derived.Test.YtcbaloacmbekkaaBdF
set_option linter.unusedSimpArgs false
set_option linter.unusedVariables false
namespace Go.Proofs.Ytcbaloacmbekkaa

theorem place_at {s t : List UInt8} {k : Nat} (ht : 0 < t.length) (hk : k < (fndB s t).length) : ∃ p : Nat, (fndB s t).getD k 0 = (p : Int) ∧ p + t.length ≤ s.length ∧ t <:+ s.take (p + t.length) := by
  have e : fndB s t = fnd s t s.length := fndB_full (by cases t with | nil => simp at ht | cons _ _ => rfl)
  rw [e] at hk ⊢
  obtain ⟨j, h1, h2⟩ := fnd_mem s.length _ (getD_in _ k hk)
  obtain ⟨h3, h4⟩ := h2 (Nat.le_refl _)
  exact ⟨j, h1, h3, h4⟩
theorem place_few (s t : List UInt8) : (fndB s t).length ≤ s.length := by
  unfold fndB
  split
  · exact Nat.zero_le _
  · exact fnd_length s t _
end Go.Proofs.Ytcbaloacmbekkaa
