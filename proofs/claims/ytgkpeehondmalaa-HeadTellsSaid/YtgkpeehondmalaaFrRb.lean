/-
  The document's own Put of layer 4, walked.
-/
import Derived.Test.YtgkpeehondmalaaFrRp
import Derived.Test.YtgkpeehondmalaaGen
set_option linter.unusedSimpArgs false
set_option linter.unusedVariables false
namespace Go.Proofs.Ytgkpeehondmalaa
open Go.RowKit


set_option maxHeartbeats 1000000 in
theorem rfrput_bad (f : Fr) (w : World) (hs : f.2.size ≤ 9223372036854775807) (he : frE f ≠ 0) :
    Calls Try.prog 14 #[.agg #[.int .i64 f.1, .string f.2]] w fun e w' => e = .returned (.tuple #[.string ⟨(putB f).toArray⟩, .int .i64 (frE f)]) ∧ Below w.heap.size w w' := by
  have hp : Hid (putB f = []) := Lib.hid (by unfold putB; rw [if_neg he])
  by_cases h0 : f.1 < 1
  · have hx := Lib.hid (frE_low f h0)
    obtain ⟨k, d⟩ := f
    simp only at h0 hs ⊢
    clear he
    go_enter Try.func14, Try.ntmps14
    go_wp2
    go_ret2
    exact ⟨by rw [hx.out, hp.out]; rfl, (Below.refl _ _).alloc (Nat.le_refl _) _⟩
  by_cases h1 : 127 < f.1
  · have hx := Lib.hid (frE_high f h0 h1)
    obtain ⟨k, d⟩ := f
    simp only at h0 h1 hs ⊢
    clear he
    go_enter Try.func14, Try.ntmps14
    go_wp2
    go_ret2
    exact ⟨by rw [hx.out, hp.out]; rfl, (Below.refl _ _).alloc (Nat.le_refl _) _⟩
  by_cases h2 : 67108864 < f.2.size
  · have hx := Lib.hid (frE_long f h0 h1 h2)
    obtain ⟨k, d⟩ := f
    simp only at h0 h1 h2 hs ⊢
    have hd : decide (127 < k) = false := by simp; omega
    clear he
    go_enter Try.func14, Try.ntmps14
    go_wp2
    go_ret2
    exact ⟨by rw [hx.out, hp.out]; rfl, (Below.refl _ _).alloc (Nat.le_refl _) _⟩
  · exact absurd (frE_ok f h0 h1 h2) he

theorem rfrput_any (f : Fr) (w : World) (hs : f.2.size ≤ 9223372036854775807) :
    Calls Try.prog 14 #[.agg #[.int .i64 f.1, .string f.2]] w fun e w' => e = .returned (.tuple #[.string ⟨(putB f).toArray⟩, .int .i64 (frE f)]) ∧ Below w.heap.size w w' := by
  by_cases he : frE f = 0
  · have hp : putB f = frB f := by unfold putB; rw [if_pos he]
    rw [hp, he]
    exact rfrput_ok f w he
  · exact rfrput_bad f w hs he

end Go.Proofs.Ytgkpeehondmalaa
