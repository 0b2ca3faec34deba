/-
  No cell of these rows narrows 'for every input' (looked for: loops, veiled, ifaces, maps, wideKeys, modest, calm, conditions, laid).
  DERIVED. THE GIVEN ROWS OF THIS SEAT. 3 by the template 'for every input the law returns true; each argument reads behind the call as it read before'; 0 by the template 'total and deterministic' (their statements: YtkpmbappddlcmaaTotals.lean).
  GIVEN WITH THE SEED: the statements are not yours to turn. If you find one false, say at which input.
  Laid BY PROGRAM, IN A SANDBOX (cutbox-rows.mjs): the forced cells as the released guide's own fill.sh prints them over the translation a72c3afeef7696e1… (all of the seat's roots in one cut). By AI agents, Wed Nov 11 2026. No macro, syntax, notation, axiom, sorry.
-/
import Derived.Test.YtkpmbappddlcmaaChecked
import GoSem.Claim
import GoSem.ClaimJoined
import GoSem.ClaimMapViews
import Derived.JoinedTies
import Derived.KernelRfl
namespace Go.Proofs.Ytkpmbappddlcmaa
/- THE CELL 'sum', in the pinned program and in every row, IS THE sha256 OF THE DUMP (.gsa) THAT YtkpmbappddlcmaaProg.lean LOADS. Nothing in Lean hashes anything: it is a label: what it is worth is what the hold of that sum in a sandbox is worth. -/
noncomputable def Try.pinned : Pinned := { name := "ytkpmbappddlcmaa", sum := "a72c3afeef7696e1b66c3188170453bd2e8484f61caff3b6f0b1bfd3d1632765", checked := Try.checked }
namespace Rows
def none {H : Type} : Left H := { results := [], args := [] }

/-- 'juratlaw15.OccTells': WHATEVER THE INPUT: true; the input reads as it did. -/
def occTellsSpec : ChangeSpec := { name := "occTells", fn := fun _ => fun
  | [d1, d2, d3] => { results := [.lit (.bool true)], args := [d1, d2, d3] }
  | _ => none }
def occTellsRow : OpenClaim := { program := "ytkpmbappddlcmaa", sum := "a72c3afeef7696e1b66c3188170453bd2e8484f61caff3b6f0b1bfd3d1632765", func := "jurat/juratlaw15.OccTells", spec := "occTells", inPlace := ["internal/bytealg.abigen_runtime_cmpstring"], unfollowed := true, recurses := true, apart := false }
def OccTellsSaid : Prop := occTellsRow.holds Try.pinned (OpenSpec.ofChange occTellsSpec)

/-- ITS FALSE NEIGHBOUR: 'it returns false'. Refute it at one input. -/
def occTellsWrong : ChangeSpec := { name := "occTells", fn := fun _ => fun
  | [d1, d2, d3] => { results := [.lit (.bool false)], args := [d1, d2, d3] }
  | _ => none }
def OccTellsWrongFalsely : Prop := occTellsRow.holds Try.pinned (OpenSpec.ofChange occTellsWrong)

/-- 'juratlaw15.OccOrders': WHATEVER THE INPUT: true; the input reads as it did. -/
def occOrdersSpec : ChangeSpec := { name := "occOrders", fn := fun _ => fun
  | [d1, d2, d3] => { results := [.lit (.bool true)], args := [d1, d2, d3] }
  | _ => none }
def occOrdersRow : OpenClaim := { program := "ytkpmbappddlcmaa", sum := "a72c3afeef7696e1b66c3188170453bd2e8484f61caff3b6f0b1bfd3d1632765", func := "jurat/juratlaw15.OccOrders", spec := "occOrders", inPlace := ["internal/bytealg.abigen_runtime_cmpstring"], unfollowed := true, recurses := true, apart := false }
def OccOrdersSaid : Prop := occOrdersRow.holds Try.pinned (OpenSpec.ofChange occOrdersSpec)

/-- ITS FALSE NEIGHBOUR: 'it returns false'. Refute it at one input. -/
def occOrdersWrong : ChangeSpec := { name := "occOrders", fn := fun _ => fun
  | [d1, d2, d3] => { results := [.lit (.bool false)], args := [d1, d2, d3] }
  | _ => none }
def OccOrdersWrongFalsely : Prop := occOrdersRow.holds Try.pinned (OpenSpec.ofChange occOrdersWrong)

/-- 'juratlaw15.OccGrows': WHATEVER THE INPUT: true; the input reads as it did. -/
def occGrowsSpec : ChangeSpec := { name := "occGrows", fn := fun _ => fun
  | [d1, d2, d3] => { results := [.lit (.bool true)], args := [d1, d2, d3] }
  | _ => none }
def occGrowsRow : OpenClaim := { program := "ytkpmbappddlcmaa", sum := "a72c3afeef7696e1b66c3188170453bd2e8484f61caff3b6f0b1bfd3d1632765", func := "jurat/juratlaw15.OccGrows", spec := "occGrows", inPlace := ["internal/bytealg.abigen_runtime_cmpstring"], unfollowed := true, recurses := true, apart := false }
def OccGrowsSaid : Prop := occGrowsRow.holds Try.pinned (OpenSpec.ofChange occGrowsSpec)

/-- ITS FALSE NEIGHBOUR: 'it returns false'. Refute it at one input. -/
def occGrowsWrong : ChangeSpec := { name := "occGrows", fn := fun _ => fun
  | [d1, d2, d3] => { results := [.lit (.bool false)], args := [d1, d2, d3] }
  | _ => none }
def OccGrowsWrongFalsely : Prop := occGrowsRow.holds Try.pinned (OpenSpec.ofChange occGrowsWrong)

/- THE SECOND FORM. 'bulk': how many values and letters a reading holds, each counted each time it is reached (what is shared counts as often as it is met; a slice's spare places count too). A statement '..UptoSaid' is the law's where the arguments, and the package variables that the reading takes, are together of bulk at most 1048576: NARROWER than '..Said'. Prove '..Said' where nothing that the law and all that it calls make is longer than what came in: it says more and counts as full. Else prove '..UptoSaid'. A law counts once. -/
mutual
def uptoBulk {H : Type} : DataW H → Nat
  | .lit (.string bytes) => bytes.length + 1
  | .lit _ => 1
  | .nil => 1
  | .ptr d => uptoBulk d + 1
  | .slice elems spare => uptoBulkAll elems + uptoBulkAll spare + 1
  | .agg parts => uptoBulkAll parts + 1
  | .iface _ d => uptoBulk d + 1
  | .map entries => uptoBulkEntries entries + 1
  | .held _ => 1
def uptoBulkAll {H : Type} : List (DataW H) → Nat
  | [] => 0
  | d :: r => uptoBulk d + uptoBulkAll r
def uptoBulkEntries {H : Type} : List (Lit × DataW H) → Nat
  | [] => 0
  | x :: r => uptoBulkEntry x + uptoBulkEntries r
def uptoBulkEntry {H : Type} : Lit × DataW H → Nat
  | (.string bytes, d) => bytes.length + uptoBulk d + 1
  | (_, d) => uptoBulk d + 1
 end
def uptoSmall : (H : Type) → List (DataW H) → Bool := fun _ ds => decide (uptoBulkAll ds ≤ 1048576)
def OpenSpec.upto (s : _root_.Go.ChangeSpec) : _root_.Go.OpenSpec := { _root_.Go.OpenSpec.ofChange s with cond := some uptoSmall }

/-- 'juratlaw15.OccTells', WHERE WHAT IT READS IS OF BULK AT MOST 1048576: true; the input reads as it did. -/
def occTellsUptoRow : OpenClaim := { program := "ytkpmbappddlcmaa", sum := "a72c3afeef7696e1b66c3188170453bd2e8484f61caff3b6f0b1bfd3d1632765", func := "jurat/juratlaw15.OccTells", spec := "occTells", inPlace := ["internal/bytealg.abigen_runtime_cmpstring"], unfollowed := true, recurses := true, apart := false, narrowed := true }
def OccTellsUptoSaid : Prop := occTellsUptoRow.holds Try.pinned (OpenSpec.upto occTellsSpec)

/-- 'juratlaw15.OccOrders', WHERE WHAT IT READS IS OF BULK AT MOST 1048576: true; the input reads as it did. -/
def occOrdersUptoRow : OpenClaim := { program := "ytkpmbappddlcmaa", sum := "a72c3afeef7696e1b66c3188170453bd2e8484f61caff3b6f0b1bfd3d1632765", func := "jurat/juratlaw15.OccOrders", spec := "occOrders", inPlace := ["internal/bytealg.abigen_runtime_cmpstring"], unfollowed := true, recurses := true, apart := false, narrowed := true }
def OccOrdersUptoSaid : Prop := occOrdersUptoRow.holds Try.pinned (OpenSpec.upto occOrdersSpec)

/-- 'juratlaw15.OccGrows', WHERE WHAT IT READS IS OF BULK AT MOST 1048576: true; the input reads as it did. -/
def occGrowsUptoRow : OpenClaim := { program := "ytkpmbappddlcmaa", sum := "a72c3afeef7696e1b66c3188170453bd2e8484f61caff3b6f0b1bfd3d1632765", func := "jurat/juratlaw15.OccGrows", spec := "occGrows", inPlace := ["internal/bytealg.abigen_runtime_cmpstring"], unfollowed := true, recurses := true, apart := false, narrowed := true }
def OccGrowsUptoSaid : Prop := occGrowsUptoRow.holds Try.pinned (OpenSpec.upto occGrowsSpec)

end Rows
end Go.Proofs.Ytkpmbappddlcmaa
