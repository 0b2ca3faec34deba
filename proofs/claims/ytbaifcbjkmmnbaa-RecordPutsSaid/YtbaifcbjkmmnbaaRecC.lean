/-
  A record in memory: its four cells. No program here.
-/
import Derived.Test.YtbaifcbjkmmnbaaBut
import Derived.Test.YtbaifcbjkmmnbaaIntsB
set_option linter.unusedSimpArgs false
set_option linter.unusedVariables false
namespace Go.Proofs.Ytbaifcbjkmmnbaa
open Go.RowKit

/-- A record's cells. -/
theorem put_rec {w : World} {r : Nat} {T : TypeId} {u0 u1 u2 u3 : Value} (h : w.heap[r]? = some (.cells #[u0, u1, u2, u3] T (0, 0))) (x0 x1 x2 x3 : Value) :
    ((((w.setCell ⟨r, 0, none⟩ x0).setCell ⟨r, 1, none⟩ x1).setCell ⟨r, 2, none⟩ x2).setCell ⟨r, 3, none⟩ x3).heap[r]? = some (.cells #[x0, x1, x2, x3] T (0, 0)) := by
  rw [put_heap (put_heap (put_heap (put_heap h x0) x1) x2) x3]; rfl
theorem rec_reads {w : World} {r : Nat} {T : TypeId} {x0 x1 x2 x3 : Value} (h : w.heap[r]? = some (.cells #[x0, x1, x2, x3] T (0, 0))) :
    w.cell? ⟨r, 0, none⟩ = some x0 ∧ w.cell? ⟨r, 1, none⟩ = some x1 ∧ w.cell? ⟨r, 2, none⟩ = some x2 ∧ w.cell? ⟨r, 3, none⟩ = some x3 := by
  refine ⟨?_, ?_, ?_, ?_⟩ <;> rw [Lib.cell_of_heap h] <;> rfl
theorem rec_free {w : World} {r : Nat} {T : TypeId} {x0 x1 x2 x3 : Value} (h : w.heap[r]? = some (.cells #[x0, x1, x2, x3] T (0, 0))) :
    w.frozen? ⟨r, 0, none⟩ = false ∧ w.frozen? ⟨r, 1, none⟩ = false ∧ w.frozen? ⟨r, 2, none⟩ = false ∧ w.frozen? ⟨r, 3, none⟩ = false :=
  ⟨Lib.frozen_of_heap h 0, Lib.frozen_of_heap h 1, Lib.frozen_of_heap h 2, Lib.frozen_of_heap h 3⟩
theorem below_rec {B : Nat} {w w' : World} {r : Nat} (h : Below B w w') (hr : B ≤ r) (x0 x1 x2 x3 : Value) :
    Below B w ((((w'.setCell ⟨r, 0, none⟩ x0).setCell ⟨r, 1, none⟩ x1).setCell ⟨r, 2, none⟩ x2).setCell ⟨r, 3, none⟩ x3) :=
  (((h.setCell (p := ⟨r, 0, none⟩) hr _).setCell (p := ⟨r, 1, none⟩) hr _).setCell (p := ⟨r, 2, none⟩) hr _).setCell (p := ⟨r, 3, none⟩) hr _
end Go.Proofs.Ytbaifcbjkmmnbaa
