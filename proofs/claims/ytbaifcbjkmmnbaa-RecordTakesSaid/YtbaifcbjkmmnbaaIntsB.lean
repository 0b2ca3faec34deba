/-
  Slices of numbers that the call has made.
-/
import Derived.Test.YtbaifcbjkmmnbaaStr
import Derived.Laws.CopyOwn
set_option linter.unusedSimpArgs false
set_option linter.unusedVariables false
namespace Go.Proofs.Ytbaifcbjkmmnbaa
open Go.RowKit

theorem int_info : (Try.prog.info? 3).map (fun i => (i.zero, i.size, i.bytes)) = some (some (.int .i64 0), 1, 8) := by kernel_rfl

/-- The cells of numbers. -/
def inCells (zs : List Int) : List Value := zs.map (Value.int .i64)
theorem inCells_snoc (zs : List Int) (x : Int) : inCells (zs ++ [x]) = inCells zs ++ [.int .i64 x] := by simp [inCells]

theorem owns_ints {w : World} {base : Nat} {e : TypeId} {v : Value} {zs : List Int} (h : w.ownsRow base e 1 v zs.length (inCells zs)) :
    ∃ ao cap, v = .slice ao zs.length cap ∧ (zs.length = 0 ∨ ∃ g, ao = some ⟨g, 0, none⟩ ∧ base ≤ g ∧ g < w.heap.size ∧ ∀ i, i < zs.length → w.cell? ⟨g, 0 + i, none⟩ = some (.int .i64 (zs.getD i 0))) := by
  rcases h.2 with ⟨hv, h0⟩ | ⟨g, cap, cur, hv, hg, _⟩
  · have h0' : zs.length = 0 := h0
    exact ⟨none, 0, by rw [h0']; exact hv, .inl h0'⟩
  · have hlt := h.lt (k := g) (by rw [hv]; rfl)
    refine ⟨some ⟨g, 0, none⟩, cap, hv, .inr ⟨g, rfl, hlt.1, hlt.2, fun i hi => ?_⟩⟩
    have hc := h.cells (g := g) (by rw [hv]; rfl) i (.int .i64 (zs.getD i 0)) (by simp [inCells, List.getD, List.getElem?_eq_getElem hi])
    rwa [addPlain] at hc

/-- Numbers in memory: all cells, not just those of a slice that came in. -/
theorem row_of_ints {w : World} {base : Nat} {e : TypeId} {v : Value} {zs : List Int} (h : w.ownsRow base e 1 v zs.length (inCells zs)) (hm : zs.length ≤ maxLen) :
    ∃ ao cap, v = .slice ao zs.length cap ∧ IsRow .i64 w ao zs.length zs.length zs := by
  obtain ⟨ao, cap, hv, h0 | ⟨g, hao, _, _, hc⟩⟩ := owns_ints h
  · exact ⟨ao, cap, hv, .inl h0⟩
  · exact ⟨ao, cap, hv, .inr ⟨g, 0, hao, Nat.le_refl _, hm, rfl, hc⟩⟩

/-- A number's one cell, in a block of its own. -/
theorem int_news {w : World} {X : Nat} {T : TypeId} {u : Value} (h : w.heap[X]? = some (.cells #[u] T (0, 0))) : ∀ j x, [u][j]? = some x → w.cell? ((⟨X, 0, none⟩ : Addr).add j) = some x := one_news h
theorem int_one {x : Int} : ∀ v ∈ [Value.int .i64 x], v.oneCell' = true := by
  intro v hv
  simp at hv
  subst hv; rfl

/-- A list of numbers, as an answer: a slice of the call's own; nothing that was there is written. -/
def RetN (zs : List Int) (w : World) (e : Ending) (w' : World) : Prop := ∃ (v : Value), e = .returned v ∧ w'.ownsRow w.heap.size 3 1 v zs.length (inCells zs) ∧ Below w.heap.size w w'

/-- A list of numbers, to be read: a slice; nothing that was there is written. -/
def RetI (zs : List Int) (w : World) (e : Ending) (w' : World) : Prop := ∃ (a : Option Addr) (cap : Nat), e = .returned (.slice a zs.length cap) ∧ IsRow .i64 w' a zs.length zs.length zs ∧ Below w.heap.size w w'
theorem RetI.of {zs L : List Int} {w0 w w' : World} {v : Value} (e : zs = L) (h : w'.ownsRow w0.heap.size 3 1 v L.length (inCells L)) (hm : L.length ≤ maxLen) (hb : Below w.heap.size w w') : ∃ a cap, v = .slice a L.length cap ∧ RetI zs w (.returned (.slice a L.length cap)) w' := by
  obtain ⟨ao, cap, hv, hr⟩ := row_of_ints h hm
  subst e
  exact ⟨ao, cap, hv, ao, cap, rfl, hr, hb⟩

/-- A row in one block of its own. -/
theorem row_heap {w : World} {g n : Nat} {zs : List Int} {T : TypeId} (h : w.heap[g]? = some (.cells (inCells zs).toArray T (0, 0))) (hn : zs.length = n) (hm : n ≤ maxLen) : IsRow .i64 w (some ⟨g, 0, none⟩) n n zs := by
  refine .inr ⟨g, 0, rfl, Nat.le_refl _, hm, hn, fun i hi => ?_⟩
  rw [Nat.zero_add, Lib.cell_of_heap h]
  simp [inCells, List.getD, List.getElem?_eq_getElem (show i < zs.length by omega)]
end Go.Proofs.Ytbaifcbjkmmnbaa
