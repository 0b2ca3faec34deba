/-
  make([]int, n).
-/
import Derived.Test.YtbaifcbjkmmnbaaIntsB
set_option linter.unusedSimpArgs false
set_option linter.unusedVariables false
namespace Go.Proofs.Ytbaifcbjkmmnbaa
open Go.RowKit

set_option maxRecDepth 100000 in
theorem make_row (c : Nat) (w : World) (hc : c ≤ 1000000000) : (Instr.makeSlice 22 (.int .i64 (c : Int)) (.int .i64 (c : Int))).run Try.prog w = .ok (.slice (some ⟨w.heap.size, 0, none⟩) c c) (w.alloc (.cells (inCells (List.replicate c 0)).toArray 3)) := by
  obtain ⟨i0, hi, hz0, hz1, hz2⟩ := info_parts int_info
  have h := run_make (P := Try.prog) w 22 3 i0 (.int .i64 0) Try.underlying22 hi hz0 .i64 .i64 c c (by omega) (Int.le_refl _) (by rw [hz2]; omega) (by omega)
  rw [h, hz1, Nat.mul_one, Int.toNat_natCast, show inCells (List.replicate c 0) = List.replicate c (Value.int .i64 0) by simp [inCells]]
  congr 3
  show madeCells #[Value.int .i64 0] c = _
  rw [← toList_madeCells_one]
end Go.Proofs.Ytbaifcbjkmmnbaa
