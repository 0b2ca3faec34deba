/-
  A slice of numbers inside what came in; a record by value, with its numbers.
-/
import Derived.Test.YtbaifcbjkmmnbaaRecIn
import Derived.Deep.SlicePairs
import Derived.ChangeSlices
set_option linter.unusedSimpArgs false
set_option linter.unusedVariables false
namespace Go.Proofs.Ytbaifcbjkmmnbaa
open Go.ChangeShapes Go.WideShapes Go.Deep Go.RowKit

set_option maxRecDepth 100000 in
set_option maxHeartbeats 1000000 in
/-- A slice of numbers inside what came in. -/
theorem came_ints {H : Type} {enc : TypeId × Value → H} {W : World} {n : Nat} {v : Value} {y : DataW H × List MemPlace} (h : DataW.trod enc Try.prog W 0 (fun _ => true) true n 22 [v] = some y) :
    ∃ (a : Option Addr) (len cap : Nat) (zs : List Int), v = .slice a len cap ∧ IsRow .i64 W a len cap zs ∧ len ≤ cap ∧ cap ≤ maxLen ∧ (a = none → cap = 0) := by
  rcases open_ints Try.underlying22 Try.underlying3 (by kernel_rfl) h with ⟨hcs, _⟩ | ⟨x, len, cap, zs, hcs, _, hl, hm, hz, _, hc, _⟩
  · simp at hcs
    exact ⟨none, 0, 0, [], hcs, .inl rfl, Nat.le_refl _, Nat.zero_le _, fun _ => rfl⟩
  · simp at hcs hz
    rcases Nat.eq_zero_or_pos cap with h0 | h0
    · exact ⟨some x, len, cap, zs, hcs, .inl (by omega), hl, hm, fun e => by cases e⟩
    · obtain ⟨b, off, spot⟩ := x
      have hc0 := hc 0 (by omega)
      have hspot : spot = none := by simpa [Addr.add] using World.cell?_spot hc0
      subst hspot
      exact ⟨_, len, cap, zs, hcs, .inr ⟨b, off, rfl, hl, hm, hz, fun i hi => by rw [← addPlain]; exact hc i (by omega)⟩, hl, hm, fun e => by cases e⟩

set_option maxRecDepth 100000 in
/-- A record by value that came in: what its cells are, and its numbers. -/
theorem open_row {H : Type} {enc : TypeId × Value → H} {W : World} {r : Reach} {b0 : Nat} {v : Value} {d : DataW H} {p : List MemPlace}
    (hv : Value.okWide Try.prog W r b0 24 v) (h : DataW.Trod enc Try.prog W 0 (fun _ => true) true 24 v d p) :
    ∃ (k n r : Int) (a : Option Addr) (len cap : Nat) (zs : List Int), v = .agg #[.int .i64 k, .int .i64 n, .int .i64 r, .slice a len cap] ∧ IsRow .i64 W a len cap zs := by
  obtain ⟨c0, c1, c2, c3, y0, y1, y2, y3, m, rfl, rfl, rfl, hy0, hy1, hy2, hy3⟩ := Go.Joins.open_agg4 Try.underlying24 (by kernel_rfl) rec_cells4 hv h
  obtain ⟨k, e0, _, _⟩ := DataW.trod_int Try.underlying3 hy0
  obtain ⟨n, e1, _, _⟩ := DataW.trod_int Try.underlying3 hy1
  obtain ⟨r, e2, _, _⟩ := DataW.trod_int Try.underlying3 hy2
  obtain ⟨a, len, cap, zs, e3, hr, _, _, _⟩ := came_ints hy3
  simp at e0 e1 e2
  subst e0 e1 e2 e3
  exact ⟨k, n, r, a, len, cap, zs, rfl, hr⟩
/-- Just the numbers of the slice. -/
theorem row_cut {w : World} {a : Option Addr} {len cap : Nat} {zs : List Int} (h : IsRow .i64 w a len cap zs) : ∃ ids : List Int, ids.length = len ∧ IsRow .i64 w a len len ids := by
  rcases h with h | ⟨b, off, ha, hl, hm, hz, hc⟩
  · exact ⟨[], by rw [h]; rfl, .inl h⟩
  · refine ⟨zs.take len, by rw [List.length_take]; omega, .inr ⟨b, off, ha, Nat.le_refl _, by omega, by rw [List.length_take]; omega, fun i hi => ?_⟩⟩
    rw [hc i (by omega)]
    congr 2
    simp [List.getD, List.getElem?_take, hi]
end Go.Proofs.Ytbaifcbjkmmnbaa
