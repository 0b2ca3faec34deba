/-
  A new trie of a set that texts make.
-/
import Derived.Test.YtkaldfcpcimacaaPtUr
import Derived.Test.YtkaldfcpcimacaaPtFew
import Derived.Test.YtkaldfcpcimacaaFewN
import Derived.Test.YtkaldfcpcimacaaTrT
import Derived.Test.YtkaldfcpcimacaaTrF
set_option linter.unusedSimpArgs false
set_option linter.unusedVariables false
namespace Go.Proofs.Ytkaldfcpcimacaa
open Go.RowKit

theorem pats_nodup {w : World} {p : Option Addr} {us : List (List UInt8)} (h : IsPats w p us) : us.Nodup := by
  rcases h with ⟨_, rfl⟩ | ⟨b, _, _, h⟩
  · exact List.Pairwise.nil
  · exact h.once
/-- A new trie of a set that texts make. -/
theorem trnew_set {w : World} {p : Option Addr} {ws : List (List UInt8)} (h : IsPats w p (setL ws)) :
    Calls Try.prog 31 #[.pointer p] w fun e w' => ∃ q S, e = .returned (.pointer q) ∧ IsTrie w' q p (setL ws) S ∧ Below w.heap.size w w' := trnew_any h (set_asc ws) (pats_nodup h)
end Go.Proofs.Ytkaldfcpcimacaa
