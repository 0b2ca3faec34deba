/-
  What an append to an own slice leaves alone, told by types, and but for one block; one number of an own slice. No program here.
-/
import Derived.Test.YtbaifcbjkmmnbaaOth
import Derived.Test.YtbaifcbjkmmnbaaIntsB
set_option linter.unusedSimpArgs false
set_option linter.unusedVariables false
namespace Go.Proofs.Ytbaifcbjkmmnbaa
open Go.RowKit

theorem Other.grown {w w' : World} {o : Obj} {base size n : Nat} {e : TypeId} {v : Value} {xs : List Value} (hown : w.ownsRow base e size v n xs) (hg : (w.alloc o).grownBy w' v.ownBlock) : Other e w w' := fun k cs U m hU hk => by
  have hlt := lt_of_heap hk
  have hne : v.ownBlock ≠ some k := fun h => by
    rcases hown.2 with ⟨rfl, _⟩ | ⟨g, cap, cur, rfl, _, hh, _⟩
    · simp [Value.ownBlock] at h
    · simp only [Value.ownBlock, Option.some.injEq] at h
      subst h
      rw [hk] at hh
      injection hh with hh
      injection hh with h1 h2 h3
      exact hU h2
  rw [hg.block k (by simp; omega) (fun e => hne e.symm), Lib.alloc_old _ _ k hlt]
  exact hk
theorem But.grown {b : Nat} {w0 w w' : World} {o : Obj} {size n : Nat} {e : TypeId} {v : Value} {xs : List Value} (hb : But w0.heap.size b w0 w) (hown : w.ownsRow w0.heap.size e size v n xs) (hg : (w.alloc o).grownBy w' v.ownBlock) : But w0.heap.size b w0 w' :=
  hb.trans ⟨hg.os, hg.tape, hg.output, Nat.le_trans (by simp) hg.size, fun i hi _ => by
    rw [hg.block i (by have := hb.size; simp; omega) (fun e => by have := (hown.lt i e.symm).1; omega), Lib.alloc_old _ _ i (by have := hb.size; omega)]⟩
theorem But.put {base b : Nat} {w0 w : World} (hb : But base b w0 w) (i : Nat) (u : Value) : But base b w0 (w.setCell ⟨b, i, none⟩ u) :=
  hb.trans ⟨rfl, rfl, rfl, by simp [World.setCell], fun k _ hk => put_other hk u⟩
theorem But.more {b : Nat} {w0 w w' : World} (hb : But w0.heap.size b w0 w) (h : Below w.heap.size w w') : But w0.heap.size b w0 w' := hb.trans (But.of (h.mono hb.size))

/-- One number of an own slice: where it lies. -/
theorem int_at {w : World} {base n cap j : Nat} {a : Option Addr} {zs : List Int} (h : w.ownsRow base 3 1 (.slice a n cap) n (inCells zs)) (hn : zs.length = n) (hj : j < n) :
    ∃ g off, a = some ⟨g, off, none⟩ ∧ ∃ x, zs[j]? = some x ∧ w.cell? ⟨g, off + j, none⟩ = some (.int .i64 x) := by
  obtain ⟨g, cap', _, _, he⟩ := owns_some h (by omega)
  have hc := h.cells (g := g) (by rw [he]; rfl)
  simp only [Value.slice.injEq] at he
  refine ⟨g, 0, he.1, zs[j]'(by omega), List.getElem?_eq_getElem (by omega), ?_⟩
  have := hc j (.int .i64 (zs[j]'(by omega))) (by simp [inCells, List.getElem?_eq_getElem (show j < zs.length by omega)])
  rw [addPlain] at this
  simpa using this
end Go.Proofs.Ytbaifcbjkmmnbaa
