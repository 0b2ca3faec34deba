/-
  A slice of bytes of the call's own, as a string says it. No program here.
-/
import Derived.Test.YthmihhacfhjimaaBut
import Derived.Test.YthmihhacfhjimaaStr
import Derived.Lib.Builder
import Derived.Laws.IdiomStrings
set_option linter.unusedSimpArgs false
set_option linter.unusedVariables false
namespace Go.Proofs.Ythmihhacfhjimaa
open Go.RowKit

theorem bubyte_info : (Try.prog.info? 5).map (fun i => (i.zero, i.size, i.bytes)) = some (some (.int .u8 0), 1, 1) := by kernel_rfl
theorem bubyte_one {x : Int} : ∀ v ∈ [Value.int .u8 x], v.oneCell' = true := by
  intro v hv
  simp at hv
  subst hv; rfl
theorem bucells_snoc (l : List UInt8) (c : Nat) (hc : c < 256) : Lib.byteCells (l ++ [UInt8.ofNat c]) = Lib.byteCells l ++ [.int .u8 (c : Int)] := by
  simp [Lib.byteCells]; omega

theorem u8_wrap (k : Nat) (h : k < 256) : IntKind.u8.wrap (k : Int) = (k : Int) := by
  have e : (2 ^ IntKind.u8.bits : Int) = 256 := rfl
  have s : IntKind.u8.signed = false := rfl
  unfold IntKind.wrap
  rw [e, s]
  simp
  omega
/-- A slice of bytes of the call's own, as a string says it. -/
theorem own_text {w : World} {base : Nat} {v : Value} {l : List UInt8} (h : w.ownsRow base 5 1 v l.length (Lib.byteCells l)) : (convert 53 9 v).run Try.prog w = .ok (.string ⟨l.toArray⟩) w := by
  rcases h.2 with ⟨rfl, h0⟩ | ⟨g, cap, cur, rfl, _⟩
  · obtain rfl := List.length_eq_zero_iff.1 h0
    rw [run_convert_bytes_string w 53 9 5 none 0 0 Try.underlying53 Try.underlying5 Try.underlying9]
    rfl
  · refine run_convert_bytes_back w 53 9 5 _ _ l Try.underlying53 Try.underlying5 Try.underlying9 (fun j hj => ?_)
    exact h.cells (g := g) rfl j _ (by simp [Lib.byteCells, List.getElem?_eq_getElem hj])
end Go.Proofs.Ythmihhacfhjimaa
