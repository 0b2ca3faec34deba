/-
  The law's 'awake' of layer 1: chapter 1's examples, walked: true.
-/
import Derived.Test.YtgoidhlemmdjgaaDoorParse
import Derived.Test.YtgoidhlemmdjgaaDoorDigR
set_option linter.unusedSimpArgs false
set_option linter.unusedVariables false
namespace Go.Proofs.YtgoidhlemmdjgaaDoor
open Go.RowKit

theorem parse_ex1 (w : World) : Calls Tryd.prog 6 #[.string ⟨#[45, 53]⟩, .int .i64 (-9), .int .i64 9] w (RetP (-5) 0 w) := by
  have h := parse_any [45, 53] (-9) 9 w (by decide)
  rw [show parN [45, 53] (-9) 9 = -5 from by decide +kernel, show parE [45, 53] (-9) 9 = 0 from by decide +kernel] at h
  exact h
theorem parse_ex2 (w : World) : Calls Tryd.prog 6 #[.string ⟨#[48, 48, 55]⟩, .int .i64 0, .int .i64 9] w (RetP 0 3 w) := by
  have h := parse_any [48, 48, 55] 0 9 w (by decide)
  rw [show parN [48, 48, 55] 0 9 = 0 from by decide +kernel, show parE [48, 48, 55] 0 9 = 3 from by decide +kernel] at h
  exact h
theorem parse_ex3 (w : World) : Calls Tryd.prog 6 #[.string ⟨#[49, 48]⟩, .int .i64 0, .int .i64 9] w (RetP 0 11 w) := by
  have h := parse_any [49, 48] 0 9 w (by decide)
  rw [show parN [49, 48] 0 9 = 0 from by decide +kernel, show parE [49, 48] 0 9 = 11 from by decide +kernel] at h
  exact h

theorem row_ex (w : World) : Calls Tryd.prog 12 #[.slice (some ⟨w.heap.size, 0, none⟩) 3 3] (w.alloc (.cells #[.int .i64 3, .int .i64 0, .int .i64 (-1)] 3))
    fun e w' => e = .returned (.string ⟨#[51, 44, 48, 44, 45, 49]⟩) ∧ Below w.heap.size w w' := by
  refine (row_some w.heap.size 0 3 3 [3, 0, -1] _ (by omega) (by omega) (by omega) rfl (by unfold maxLen; omega) ?_ ?_).mono ?_
  · intro i hi
    rw [Nat.zero_add, World.cell?_alloc_new]
    match i, hi with
    | 0, _ => rfl
    | 1, _ => rfl
    | 2, _ => rfl
  · intro x hx
    simp at hx
    omega
  · rintro e w' ⟨rfl, hb⟩
    refine ⟨?_, ((Below.refl _ _).alloc (Nat.le_refl _) _).trans (hb.mono (by simp))⟩
    rw [show rowTo (List.take 3 [3, 0, -1]) = [51, 44, 48, 44, 45, 49] from by decide +kernel]

set_option maxHeartbeats 400000 in
theorem awake_any (w : World) :
    Calls Tryd.prog 5 #[] w fun e w' => e = .returned (.bool true) ∧ Below w.heap.size w w' := by
  go_enter Tryd.func5, Tryd.ntmps5
  go_wp2_with fail
  refine (parse_ex1 _).mono ?_
  rintro e w' ⟨rfl, rfl⟩
  go_wp2_with fail
  refine (parse_ex2 _).mono ?_
  rintro e w' ⟨rfl, rfl⟩
  go_wp2_with fail
  refine (parse_ex3 _).mono ?_
  rintro e w' ⟨rfl, rfl⟩
  go_wp2_with fail
  refine (row_ex _).mono ?_
  rintro e w' ⟨rfl, hb⟩
  go_wp2
  go_ret
  exact ⟨rfl, hb⟩
end Go.Proofs.YtgoidhlemmdjgaaDoor
