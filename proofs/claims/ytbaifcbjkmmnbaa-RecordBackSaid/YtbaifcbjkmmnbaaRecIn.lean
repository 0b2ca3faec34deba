/-
  A record by value that came in: what its cells are.
-/
import Derived.Test.YtbaifcbjkmmnbaaGen
import Derived.Test.YtbaifcbjkmmnbaaRows
import Derived.Lib.SmallJoins
import Derived.ChangeArms
import Derived.KernelRfl
set_option linter.unusedSimpArgs false
set_option linter.unusedVariables false
namespace Go.Proofs.Ytbaifcbjkmmnbaa
open Go.ChangeShapes Go.WideShapes Go.Deep Go.RowKit

theorem rec_cells4 : Try.prog.cellsOf 24 = 4 := by kernel_rfl
/-- What is read as a slice is one. -/
theorem trod_slice {H : Type} {enc : TypeId × Value → H} {P : Program} {w : World} {base : Nat} {spare : Nat → Bool} {held : Bool} {t e : TypeId} (ht : P.underlying t = some (.slice e)) {n : Nat} {v : Value} {y : DataW H × List MemPlace}
    (h : DataW.trod enc P w base spare held n t [v] = some y) : ∃ a len cap, v = .slice a len cap := by
  cases n with
  | zero => simp [DataW.trod] at h
  | succ n =>
    cases v <;> first | exact ⟨_, _, _, rfl⟩ | (simp [DataW.trod, ht] at h)
set_option maxRecDepth 100000 in
theorem open_rec {H : Type} {enc : TypeId × Value → H} {w : World} {base : Nat} {spare : Nat → Bool} {held : Bool} {r : Reach} {b0 : Nat} {v : Value} {d : DataW H} {p : List MemPlace}
    (hv : Value.okWide Try.prog w r b0 24 v) (h : DataW.Trod enc Try.prog w base spare held 24 v d p) :
    ∃ (k n r : Int) (a : Option Addr) (len cap : Nat), v = .agg #[.int .i64 k, .int .i64 n, .int .i64 r, .slice a len cap] := by
  obtain ⟨c0, c1, c2, c3, y0, y1, y2, y3, m, rfl, rfl, rfl, hy0, hy1, hy2, hy3⟩ := Go.Joins.open_agg4 Try.underlying24 (by kernel_rfl) rec_cells4 hv h
  obtain ⟨k, e0, _, _⟩ := DataW.trod_int Try.underlying3 hy0
  obtain ⟨n, e1, _, _⟩ := DataW.trod_int Try.underlying3 hy1
  obtain ⟨r, e2, _, _⟩ := DataW.trod_int Try.underlying3 hy2
  obtain ⟨a, len, cap, e3⟩ := trod_slice Try.underlying22 hy3
  simp at e0 e1 e2
  subst e0 e1 e2 e3
  exact ⟨k, n, r, a, len, cap, rfl⟩
end Go.Proofs.Ytbaifcbjkmmnbaa
