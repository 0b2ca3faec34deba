/-
  A set of patterns in memory.
-/
import Derived.Test.YthmihhacfhjimaaPtM
import Derived.Test.YthmihhacfhjimaaStr
set_option linter.unusedSimpArgs false
set_option linter.unusedVariables false
namespace Go.Proofs.Ythmihhacfhjimaa
open Go.RowKit

/-- A set of these patterns lies in block b. -/
def IsSet (w : World) (b : Nat) (ws : List (List UInt8)) : Prop :=
  ∃ g cap, w.heap[b]? = some (.cells #[.slice (some ⟨g, 0, none⟩) ws.length cap, .int .i64 (leastL ws : Int), .int .i64 (mostL ws : Int), .int .i64 (totalL ws : Int)] 44 (0, 0)) ∧
    w.ownsRow 0 9 1 (.slice (some ⟨g, 0, none⟩) ws.length cap) ws.length (txCells ws)

theorem IsSet.lt {w : World} {b : Nat} {ws : List (List UInt8)} (h : IsSet w b ws) : b < w.heap.size := by
  obtain ⟨g, cap, h1, _⟩ := h
  exact heap_lt h1
theorem IsSet.below {w w' : World} {b : Nat} {ws : List (List UInt8)} (h : IsSet w b ws) (hb : Below w.heap.size w w') : IsSet w' b ws := by
  obtain ⟨g, cap, h1, h2⟩ := h
  exact ⟨g, cap, (hb.block b (heap_lt h1)).trans h1, tx_below h2 hb⟩
theorem IsSet.drewN {w : World} {b : Nat} {ws : List (List UInt8)} (h : IsSet w b ws) (n : Nat) : IsSet (w.drewN n) b ws := h
theorem own_strs {w : World} {base : Nat} {g n cap : Nat} {ws : List (List UInt8)} (h : w.ownsRow base 9 1 (.slice (some ⟨g, 0, none⟩) n cap) n (txCells ws)) : IsStrs w (some ⟨g, 0, none⟩) n ws := by
  have e : ws.length = n := by have := h.1; rw [txCells, List.length_map] at this; omega
  refine ⟨e, .inr ⟨g, 0, rfl, fun i hi => ?_⟩⟩
  have hc := h.cells (g := g) rfl i (.string ⟨(ws[i]'hi).toArray⟩) (by simp [txCells, List.getElem?_eq_getElem hi])
  rwa [addPlain] at hc

/-- What is read of a set. -/
theorem IsSet.reads {w : World} {b : Nat} {ws : List (List UInt8)} (h : IsSet w b ws) : ∃ g cap, w.cell? ⟨b, 0, none⟩ = some (.slice (some ⟨g, 0, none⟩) ws.length cap) ∧ w.cell? ⟨b, 1, none⟩ = some (.int .i64 (leastL ws : Int)) ∧
    w.cell? ⟨b, 2, none⟩ = some (.int .i64 (mostL ws : Int)) ∧ w.cell? ⟨b, 3, none⟩ = some (.int .i64 (totalL ws : Int)) ∧ w.ownsRow 0 9 1 (.slice (some ⟨g, 0, none⟩) ws.length cap) ws.length (txCells ws) := by
  obtain ⟨g, cap, h1, h2⟩ := h
  refine ⟨g, cap, ?_, ?_, ?_, ?_, h2⟩ <;> rw [Lib.cell_of_heap h1] <;> rfl
end Go.Proofs.Ythmihhacfhjimaa
