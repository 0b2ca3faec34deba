/-
  head.New: walked.
-/
import Derived.Test.YtgkpeehondmalaaHdW
import Derived.Test.YtgkpeehondmalaaHdP
set_option linter.unusedSimpArgs false
set_option linter.unusedVariables false
namespace Go.Proofs.Ytgkpeehondmalaa
open Go.RowKit

set_option maxHeartbeats 1000000 in
/-- A match of a file's head. -/
theorem hdnew_any (l : List UInt8) (w : World) (he : hcE l = 0) (hs : l.length ≤ 1000000000) : Calls Try.prog 10 #[.string ⟨l.toArray⟩] w fun e w' => ∃ b, e = .returned (.tuple #[.pointer (some ⟨b, 0, none⟩), .int .i64 0]) ∧ w.heap.size ≤ b ∧ IsMt w' b (hcB l) 0 false ∧ Below w.heap.size w w' := by
  have HP : Hid (Calls Try.prog 6 #[.string ⟨l.toArray⟩] w fun e w' => e = .returned (.tuple #[.string ⟨(hcP l).toArray⟩, .int .i64 (hcE l)]) ∧ Below w.heap.size w w') := Lib.hid (hdput_any l w hs)
  rw [he, hcP_ok l he] at HP
  generalize hcB l = t at *
  clear he hs
  go_enter Try.func10, Try.ntmps10
  go_wp2_with fail
  refine HP.out.mono ?_
  rintro e w1 ⟨rfl, hb1⟩
  have HB : Hid (Below w.heap.size w (w1.alloc (.cells #[.string ⟨t.toArray⟩, .int .i64 0, .bool false] 47))) := Lib.hid (hb1.alloc hb1.size _)
  have HX := Lib.hid (heap_alloc_new w1 (.cells #[.string ⟨t.toArray⟩, .int .i64 0, .bool false] 47))
  have hsz := hb1.size
  clear HP hb1
  go_wp2
  go_ret2
  exact ⟨w1.heap.size, rfl, hsz, HX.out, HB.out⟩
/-- A file that has no head. -/
theorem hdnew_bad (l : List UInt8) (w : World) (he : hcE l ≠ 0) (hs : l.length ≤ 1000000000) : Calls Try.prog 10 #[.string ⟨l.toArray⟩] w fun e w' => e = .returned (.tuple #[.pointer none, .int .i64 (hcE l)]) ∧ Below w.heap.size w w' := by
  have HP : Hid (Calls Try.prog 6 #[.string ⟨l.toArray⟩] w fun e w' => e = .returned (.tuple #[.string ⟨(hcP l).toArray⟩, .int .i64 (hcE l)]) ∧ Below w.heap.size w w') := Lib.hid (hdput_any l w hs)
  generalize hcP l = t at *
  have he' : (hcE l == 0) = false := by simpa using he
  generalize hcE l = x at *
  clear he hs
  go_enter Try.func10, Try.ntmps10
  go_wp2_with fail
  refine HP.out.mono ?_
  rintro e w1 ⟨rfl, hb1⟩
  go_wp2
  go_ret2
  exact ⟨rfl, hb1⟩

end Go.Proofs.Ytgkpeehondmalaa
