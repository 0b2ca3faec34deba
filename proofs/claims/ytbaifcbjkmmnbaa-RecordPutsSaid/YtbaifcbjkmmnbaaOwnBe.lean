/-
  What an append to an own slice leaves alone. No program here.
-/
import Derived.Test.YtbaifcbjkmmnbaaBut
set_option linter.unusedSimpArgs false
set_option linter.unusedVariables false
namespace Go.Proofs.Ytbaifcbjkmmnbaa
open Go.RowKit

theorem own_below {base : Nat} {e : TypeId} {v : Value} {n : Nat} {xs : List Value} {w0 w w' : World} {o : Obj} (hb : Below w0.heap.size w0 w) (hown : w.ownsRow base e 1 v n xs) (hbase : w0.heap.size ≤ base) (hg : (w.alloc o).grownBy w' v.ownBlock) : Below w0.heap.size w0 w' :=
  hb.trans ⟨hg.os, hg.tape, hg.output, Nat.le_trans (by simp) hg.size, fun i hi => by
    rw [hg.block i (by have := hb.size; simp; omega) (fun e => by have := (hown.lt i e.symm).1; omega), Lib.alloc_old _ _ i (by have := hb.size; omega)]⟩
end Go.Proofs.Ytbaifcbjkmmnbaa
