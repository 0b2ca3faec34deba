/-
  No cell of these rows narrows 'for every input' (looked for: loops, veiled, ifaces, maps, wideKeys, modest, calm, conditions, laid).
  DERIVED. THE GIVEN ROWS OF THIS SEAT. 3 by the template 'for every input the law returns true; each argument reads behind the call as it read before'; 0 by the template 'total and deterministic' (their statements: YtpblllpgmibkoaaGreatTotals.lean).
  GIVEN WITH THE SEED: the statements are not yours to turn. If you find one false, say at which input.
  Laid BY PROGRAM, IN A SANDBOX (cutbox-rows.mjs): the forced cells as the released guide's own fill.sh prints them over the translation 139acf183e78392e… (all of the seat's roots in one cut). By AI agents, Wed Nov 11 2026. No macro, syntax, notation, axiom, sorry.
-/
import Derived.Test.YtpblllpgmibkoaaGreatChecked
import GoSem.Claim
import GoSem.ClaimJoined
import GoSem.ClaimMapViews
import Derived.JoinedTies
import Derived.KernelRfl
namespace Go.Proofs.YtpblllpgmibkoaaGreat
/- THE CELL 'sum', in the pinned program and in every row, IS THE sha256 OF THE DUMP (.gsa) THAT YtpblllpgmibkoaaGreatProg.lean LOADS. Nothing in Lean hashes anything: it is a label: what it is worth is what the hold of that sum in a sandbox is worth. -/
noncomputable def Tryz.pinned : Pinned := { name := "ytpblllpgmibkoaagreat", sum := "139acf183e78392e589640bdaabd43bee1cc81d1f1ada808627dbc3fc3bf3c70", checked := Tryz.checked }
namespace Rows
def none {H : Type} : Left H := { results := [], args := [] }

/-- 'juratlaw22.TabPuts': WHATEVER THE INPUT: true; the input reads as it did. -/
def tabPutsSpec : ChangeSpec := { name := "tabPuts", fn := fun _ => fun
  | [d] => { results := [.lit (.bool true)], args := [d] }
  | _ => none }
def tabPutsRow : OpenClaim := { program := "ytpblllpgmibkoaagreat", sum := "139acf183e78392e589640bdaabd43bee1cc81d1f1ada808627dbc3fc3bf3c70", func := "jurat/juratlaw22.TabPuts", spec := "tabPuts", inPlace := ["internal/bytealg.abigen_runtime_cmpstring", "internal/abi.NoEscape"], unfollowed := true, recurses := true, apart := false }
def TabPutsSaid : Prop := tabPutsRow.holds Tryz.pinned (OpenSpec.ofChange tabPutsSpec)

/-- ITS FALSE NEIGHBOUR: 'it returns false'. Refute it at one input. -/
def tabPutsWrong : ChangeSpec := { name := "tabPuts", fn := fun _ => fun
  | [d] => { results := [.lit (.bool false)], args := [d] }
  | _ => none }
def TabPutsWrongFalsely : Prop := tabPutsRow.holds Tryz.pinned (OpenSpec.ofChange tabPutsWrong)

/-- 'juratlaw22.TabTakes': WHATEVER THE INPUT: true; the input reads as it did. -/
def tabTakesSpec : ChangeSpec := { name := "tabTakes", fn := fun _ => fun
  | [d1, d2, d3] => { results := [.lit (.bool true)], args := [d1, d2, d3] }
  | _ => none }
def tabTakesRow : OpenClaim := { program := "ytpblllpgmibkoaagreat", sum := "139acf183e78392e589640bdaabd43bee1cc81d1f1ada808627dbc3fc3bf3c70", func := "jurat/juratlaw22.TabTakes", spec := "tabTakes", inPlace := ["internal/bytealg.abigen_runtime_cmpstring", "internal/abi.NoEscape", "internal/bytealg.IndexByteString"], unfollowed := true, recurses := true, apart := false }
def TabTakesSaid : Prop := tabTakesRow.holds Tryz.pinned (OpenSpec.ofChange tabTakesSpec)

/-- ITS FALSE NEIGHBOUR: 'it returns false'. Refute it at one input. -/
def tabTakesWrong : ChangeSpec := { name := "tabTakes", fn := fun _ => fun
  | [d1, d2, d3] => { results := [.lit (.bool false)], args := [d1, d2, d3] }
  | _ => none }
def TabTakesWrongFalsely : Prop := tabTakesRow.holds Tryz.pinned (OpenSpec.ofChange tabTakesWrong)

/-- 'juratlaw22.TabFits': WHATEVER THE INPUT: true; the input reads as it did. -/
def tabFitsSpec : ChangeSpec := { name := "tabFits", fn := fun _ => fun
  | [d1, d2, d3] => { results := [.lit (.bool true)], args := [d1, d2, d3] }
  | _ => none }
def tabFitsRow : OpenClaim := { program := "ytpblllpgmibkoaagreat", sum := "139acf183e78392e589640bdaabd43bee1cc81d1f1ada808627dbc3fc3bf3c70", func := "jurat/juratlaw22.TabFits", spec := "tabFits", inPlace := ["internal/bytealg.abigen_runtime_cmpstring", "internal/abi.NoEscape", "internal/bytealg.IndexByteString"], unfollowed := true, recurses := true, apart := false }
def TabFitsSaid : Prop := tabFitsRow.holds Tryz.pinned (OpenSpec.ofChange tabFitsSpec)

/-- ITS FALSE NEIGHBOUR: 'it returns false'. Refute it at one input. -/
def tabFitsWrong : ChangeSpec := { name := "tabFits", fn := fun _ => fun
  | [d1, d2, d3] => { results := [.lit (.bool false)], args := [d1, d2, d3] }
  | _ => none }
def TabFitsWrongFalsely : Prop := tabFitsRow.holds Tryz.pinned (OpenSpec.ofChange tabFitsWrong)

/- THE SECOND FORM. 'bulk': how many values and letters a reading holds, each counted each time it is reached (what is shared counts as often as it is met; a slice's spare places count too). A statement '..UptoSaid' is the law's where the arguments, and the package variables that the reading takes, are together of bulk at most 1048576: NARROWER than '..Said'. Prove '..Said' where nothing that the law and all that it calls make is longer than what came in: it says more and counts as full. Else prove '..UptoSaid'. A law counts once. -/
mutual
def uptoBulk {H : Type} : DataW H → Nat
  | .lit (.string bytes) => bytes.length + 1
  | .lit _ => 1
  | .nil => 1
  | .ptr d => uptoBulk d + 1
  | .slice elems spare => uptoBulkAll elems + uptoBulkAll spare + 1
  | .agg parts => uptoBulkAll parts + 1
  | .iface _ d => uptoBulk d + 1
  | .map entries => uptoBulkEntries entries + 1
  | .held _ => 1
def uptoBulkAll {H : Type} : List (DataW H) → Nat
  | [] => 0
  | d :: r => uptoBulk d + uptoBulkAll r
def uptoBulkEntries {H : Type} : List (Lit × DataW H) → Nat
  | [] => 0
  | x :: r => uptoBulkEntry x + uptoBulkEntries r
def uptoBulkEntry {H : Type} : Lit × DataW H → Nat
  | (.string bytes, d) => bytes.length + uptoBulk d + 1
  | (_, d) => uptoBulk d + 1
 end
def uptoSmall : (H : Type) → List (DataW H) → Bool := fun _ ds => decide (uptoBulkAll ds ≤ 1048576)
def OpenSpec.upto (s : _root_.Go.ChangeSpec) : _root_.Go.OpenSpec := { _root_.Go.OpenSpec.ofChange s with cond := some uptoSmall }

/-- 'juratlaw22.TabPuts', WHERE WHAT IT READS IS OF BULK AT MOST 1048576: true; the input reads as it did. -/
def tabPutsUptoRow : OpenClaim := { program := "ytpblllpgmibkoaagreat", sum := "139acf183e78392e589640bdaabd43bee1cc81d1f1ada808627dbc3fc3bf3c70", func := "jurat/juratlaw22.TabPuts", spec := "tabPuts", inPlace := ["internal/bytealg.abigen_runtime_cmpstring", "internal/abi.NoEscape"], unfollowed := true, recurses := true, apart := false, narrowed := true }
def TabPutsUptoSaid : Prop := tabPutsUptoRow.holds Tryz.pinned (OpenSpec.upto tabPutsSpec)

/-- 'juratlaw22.TabTakes', WHERE WHAT IT READS IS OF BULK AT MOST 1048576: true; the input reads as it did. -/
def tabTakesUptoRow : OpenClaim := { program := "ytpblllpgmibkoaagreat", sum := "139acf183e78392e589640bdaabd43bee1cc81d1f1ada808627dbc3fc3bf3c70", func := "jurat/juratlaw22.TabTakes", spec := "tabTakes", inPlace := ["internal/bytealg.abigen_runtime_cmpstring", "internal/abi.NoEscape", "internal/bytealg.IndexByteString"], unfollowed := true, recurses := true, apart := false, narrowed := true }
def TabTakesUptoSaid : Prop := tabTakesUptoRow.holds Tryz.pinned (OpenSpec.upto tabTakesSpec)

/-- 'juratlaw22.TabFits', WHERE WHAT IT READS IS OF BULK AT MOST 1048576: true; the input reads as it did. -/
def tabFitsUptoRow : OpenClaim := { program := "ytpblllpgmibkoaagreat", sum := "139acf183e78392e589640bdaabd43bee1cc81d1f1ada808627dbc3fc3bf3c70", func := "jurat/juratlaw22.TabFits", spec := "tabFits", inPlace := ["internal/bytealg.abigen_runtime_cmpstring", "internal/abi.NoEscape", "internal/bytealg.IndexByteString"], unfollowed := true, recurses := true, apart := false, narrowed := true }
def TabFitsUptoSaid : Prop := tabFitsUptoRow.holds Tryz.pinned (OpenSpec.upto tabFitsSpec)

end Rows
end Go.Proofs.YtpblllpgmibkoaaGreat
