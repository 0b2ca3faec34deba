/-
  A byte as a text, behind a text. No program's walk here.
-/
import Derived.Test.YtkaldfcpcimacaaTrC
set_option linter.unusedSimpArgs false
set_option linter.unusedVariables false
namespace Go.Proofs.Ytkaldfcpcimacaa
open Go.RowKit

/-- A text with one byte more, as a sum of two. -/
theorem plus_byteT (s : List UInt8) (c : UInt8) : (⟨s.toArray⟩ : ByteArray) ++ (⟨#[c]⟩ : ByteArray) = ⟨(s ++ [c]).toArray⟩ := by
  apply ByteArray.ext
  simp
/-- One byte as a text. -/
theorem one_textT (W : World) (X : Nat) (c : UInt8) (h : W.heap[X]? = some (.cells #[.int .u8 (c.toNat : Int)] 5 (0, 0))) : (convert 68 9 (.slice (some ⟨X, 0, none⟩) 1 1)).run Try.prog W = .ok (.string ⟨[c].toArray⟩) W := by
  refine run_convert_bytes_back W 68 9 5 _ _ [c] Try.underlying68 Try.underlying5 Try.underlying9 (fun j hj => ?_)
  have : j = 0 := by simp at hj; omega
  subst this
  rw [addPlain, Lib.cell_of_heap h]
  rfl

end Go.Proofs.Ytkaldfcpcimacaa
