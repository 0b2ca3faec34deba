/-
  strings.Clone, walked over the library's contract.
-/
import Derived.Test.YthmihhacfhjimaaStr
import Derived.Test.YthmihhacfhjimaaShelf
set_option linter.unusedSimpArgs false
set_option linter.unusedVariables false
namespace Go.Proofs.Ythmihhacfhjimaa
open Go.RowKit

theorem sclone_any (s : ByteArray) (w : World) (hs : s.size ≤ 1000000000) :
    Calls Try.prog 15 #[.string s] w fun e w' => e = .returned (.string s) ∧ Below w.heap.size w w' := by
  have H := Lib.hid (Try.stringslite_Clone s w (by omega))
  go_enter Try.func15, Try.ntmps15
  go_wp2_with fail
  refine H.out.mono ?_
  rintro e w' ⟨rfl, hb⟩
  go_wp2
  go_ret
  exact ⟨rfl, hb⟩

/-- A cell behind a call that was made where the heap was as it is here. -/
theorem cell_heap {w W w' : World} {a : Addr} {v : Value} (h : w.cell? a = some v) (hb : Below W.heap.size W w') (e : W.heap = w.heap) : w'.cell? a = some v := by
  have h1 : W.cell? a = some v := by rw [← h]; exact World.cell?_of_block (w := w) (by rw [e])
  rw [hb.cell (World.block_lt_of_cell? W a h1)]
  exact h1
theorem frozen_heap {w W w' : World} {a : Addr} {v : Value} (h : w.frozen? a = false) (hc : w.cell? a = some v) (hb : Below W.heap.size W w') (e : W.heap = w.heap) : w'.frozen? a = false := by
  have hl := World.block_lt_of_cell? w a hc
  rw [hb.frozen (by rw [e]; exact hl), World.frozen?_of_block (w := w) (by rw [e])]
  exact h
end Go.Proofs.Ythmihhacfhjimaa
