/-
  The law's 'awake' of layer 28: chapter 28's examples, walked: true.
-/
import Derived.Test.YtbaifcbjkmmnbaaRcP
set_option linter.unusedSimpArgs false
set_option linter.unusedVariables false
namespace Go.Proofs.Ytbaifcbjkmmnbaa
open Go.RowKit

theorem rc_ex1 : okK 1 300 2 [] = true ∧ putK 1 300 2 [] = [1, 172, 2, 2] := by
  refine ⟨by decide, ?_⟩
  unfold putK numsL
  rw [if_neg (by decide)]
  simp only [vall]
  rw [vput_big 300 (by decide), show ((300 : Int) / 128) = 2 from rfl, vput_small 2 (by decide) (by decide)]
  decide
theorem rc_ex2 : okK 4 0 0 [3, 7] = true ∧ putK 4 0 0 [3, 7] = [4, 2, 3, 4] := by
  refine ⟨by decide, ?_⟩
  unfold putK numsL
  rw [if_pos rfl]
  simp only [vall, difL, List.length_cons, List.length_nil]
  rw [show (((0 + 1 + 1 : Nat) : Int)) = 2 from rfl, show ((3 : Int) - 0) = 3 from rfl, show ((7 : Int) - 3) = 4 from rfl, vput_small 2 (by decide) (by decide), vput_small 3 (by decide) (by decide), vput_small 4 (by decide) (by decide)]
  decide
theorem rc_put1 (w : World) : Calls Try.prog 7 #[.agg #[.int .i64 1, .int .i64 300, .int .i64 2, .slice none 0 0]] w fun e w' => e = .returned (.tuple #[.string ⟨#[1, 172, 2, 2]⟩, .int .i64 0]) ∧ Below w.heap.size w w' := by
  refine (rcput_any 1 300 2 none 0 0 [] w rfl (by omega) (.inl rfl)).mono ?_
  rintro e w' ⟨⟨_, h⟩ | ⟨h, _⟩, hb⟩
  · rw [rc_ex1.2] at h
    exact ⟨h, hb⟩
  · rw [rc_ex1.1] at h; cases h
theorem rc_put2 (w : World) : Calls Try.prog 7 #[.agg #[.int .i64 4, .int .i64 0, .int .i64 0, .slice (some ⟨w.heap.size, 0, none⟩) 2 2]] (w.alloc (.cells #[.int .i64 3, .int .i64 7] 3)) fun e w' => e = .returned (.tuple #[.string ⟨#[4, 2, 3, 4]⟩, .int .i64 0]) ∧ Below w.heap.size w w' := by
  refine (rcput_any 4 0 0 (some ⟨w.heap.size, 0, none⟩) 2 2 [3, 7] _ rfl (by omega) (row2 w 3 7 3)).mono ?_
  rintro e w' ⟨⟨_, h⟩ | ⟨h, _⟩, hb⟩
  · rw [rc_ex2.2] at h
    exact ⟨h, ((Below.refl _ _).alloc (Nat.le_refl _) _).trans (hb.mono (by simp))⟩
  · rw [rc_ex2.1] at h; cases h

set_option maxHeartbeats 1000000 in
theorem rcawake_any (w : World) :
    Calls Try.prog 6 #[] w fun e w' => e = .returned (.bool true) ∧ Below w.heap.size w w' := by
  go_enter Try.func6, Try.ntmps6
  go_wp2_with fail
  refine (rc_put1 _).mono ?_
  rintro e w1 ⟨rfl, hb1⟩
  go_wp2_with fail
  refine (rc_put2 _).mono ?_
  rintro e w2 ⟨rfl, hb2⟩
  have hb3 := hb1.trans (hb2.mono hb1.size)
  clear hb1 hb2
  go_wp2
  go_ret
  exact ⟨rfl, hb3⟩
end Go.Proofs.Ytbaifcbjkmmnbaa
