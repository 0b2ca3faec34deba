/-
  No cell of these rows narrows 'for every input' (looked for: loops, veiled, ifaces, maps, wideKeys, modest, calm, conditions, laid).
  DERIVED. THE GIVEN ROWS OF THIS SEAT. 3 by the template 'for every input the law returns true; each argument reads behind the call as it read before'; 0 by the template 'total and deterministic' (their statements: YtklogiingfkfnaaTotals.lean).
  GIVEN WITH THE SEED: the statements are not yours to turn. If you find one false, say at which input.
  Laid BY PROGRAM, IN A SANDBOX (cutbox-rows.mjs): the forced cells as the released guide's own fill.sh prints them over the translation 357007648bff5c82… (all of the seat's roots in one cut). By AI agents, Wed Nov 11 2026. No macro, syntax, notation, axiom, sorry.
-/
import Derived.Test.YtklogiingfkfnaaChecked
import GoSem.Claim
import GoSem.ClaimJoined
import GoSem.ClaimMapViews
import Derived.JoinedTies
import Derived.KernelRfl
namespace Go.Proofs.Ytklogiingfkfnaa
/- THE CELL 'sum', in the pinned program and in every row, IS THE sha256 OF THE DUMP (.gsa) THAT YtklogiingfkfnaaProg.lean LOADS. Nothing in Lean hashes anything: it is a label: what it is worth is what the hold of that sum in a sandbox is worth. -/
noncomputable def Try.pinned : Pinned := { name := "ytklogiingfkfnaa", sum := "357007648bff5c8249f71c9f5d82b11b687ac98b9c48e8e158c34c096dc3a933", checked := Try.checked }
namespace Rows
def none {H : Type} : Left H := { results := [], args := [] }

/-- 'juratlaw09.AffixTells': WHATEVER THE INPUT: true; the input reads as it did. -/
def affixTellsSpec : ChangeSpec := { name := "affixTells", fn := fun _ => fun
  | [d1, d2] => { results := [.lit (.bool true)], args := [d1, d2] }
  | _ => none }
def affixTellsRow : OpenClaim := { program := "ytklogiingfkfnaa", sum := "357007648bff5c8249f71c9f5d82b11b687ac98b9c48e8e158c34c096dc3a933", func := "jurat/juratlaw09.AffixTells", spec := "affixTells", inPlace := ["internal/bytealg.abigen_runtime_cmpstring"], unfollowed := true, recurses := true, apart := false }
def AffixTellsSaid : Prop := affixTellsRow.holds Try.pinned (OpenSpec.ofChange affixTellsSpec)

/-- ITS FALSE NEIGHBOUR: 'it returns false'. Refute it at one input. -/
def affixTellsWrong : ChangeSpec := { name := "affixTells", fn := fun _ => fun
  | [d1, d2] => { results := [.lit (.bool false)], args := [d1, d2] }
  | _ => none }
def AffixTellsWrongFalsely : Prop := affixTellsRow.holds Try.pinned (OpenSpec.ofChange affixTellsWrong)

/-- 'juratlaw09.AffixLists': WHATEVER THE INPUT: true; the input reads as it did. -/
def affixListsSpec : ChangeSpec := { name := "affixLists", fn := fun _ => fun
  | [d1, d2] => { results := [.lit (.bool true)], args := [d1, d2] }
  | _ => none }
def affixListsRow : OpenClaim := { program := "ytklogiingfkfnaa", sum := "357007648bff5c8249f71c9f5d82b11b687ac98b9c48e8e158c34c096dc3a933", func := "jurat/juratlaw09.AffixLists", spec := "affixLists", inPlace := ["internal/bytealg.abigen_runtime_cmpstring"], unfollowed := true, recurses := true, apart := false }
def AffixListsSaid : Prop := affixListsRow.holds Try.pinned (OpenSpec.ofChange affixListsSpec)

/-- ITS FALSE NEIGHBOUR: 'it returns false'. Refute it at one input. -/
def affixListsWrong : ChangeSpec := { name := "affixLists", fn := fun _ => fun
  | [d1, d2] => { results := [.lit (.bool false)], args := [d1, d2] }
  | _ => none }
def AffixListsWrongFalsely : Prop := affixListsRow.holds Try.pinned (OpenSpec.ofChange affixListsWrong)

/-- 'juratlaw09.AffixOrder': WHATEVER THE INPUT: true; the input reads as it did. -/
def affixOrderSpec : ChangeSpec := { name := "affixOrder", fn := fun _ => fun
  | [d1, d2, d3, d4, d5, d6] => { results := [.lit (.bool true)], args := [d1, d2, d3, d4, d5, d6] }
  | _ => none }
def affixOrderRow : OpenClaim := { program := "ytklogiingfkfnaa", sum := "357007648bff5c8249f71c9f5d82b11b687ac98b9c48e8e158c34c096dc3a933", func := "jurat/juratlaw09.AffixOrder", spec := "affixOrder", inPlace := ["internal/bytealg.abigen_runtime_cmpstring"], unfollowed := true, recurses := true, apart := false }
def AffixOrderSaid : Prop := affixOrderRow.holds Try.pinned (OpenSpec.ofChange affixOrderSpec)

/-- ITS FALSE NEIGHBOUR: 'it returns false'. Refute it at one input. -/
def affixOrderWrong : ChangeSpec := { name := "affixOrder", fn := fun _ => fun
  | [d1, d2, d3, d4, d5, d6] => { results := [.lit (.bool false)], args := [d1, d2, d3, d4, d5, d6] }
  | _ => none }
def AffixOrderWrongFalsely : Prop := affixOrderRow.holds Try.pinned (OpenSpec.ofChange affixOrderWrong)

/- THE SECOND FORM. 'bulk': how many values and letters a reading holds, each counted each time it is reached (what is shared counts as often as it is met; a slice's spare places count too). A statement '..UptoSaid' is the law's where the arguments, and the package variables that the reading takes, are together of bulk at most 1048576: NARROWER than '..Said'. Prove '..Said' where nothing that the law and all that it calls make is longer than what came in: it says more and counts as full. Else prove '..UptoSaid'. A law counts once. -/
mutual
def uptoBulk {H : Type} : DataW H → Nat
  | .lit (.string bytes) => bytes.length + 1
  | .lit _ => 1
  | .nil => 1
  | .ptr d => uptoBulk d + 1
  | .slice elems spare => uptoBulkAll elems + uptoBulkAll spare + 1
  | .agg parts => uptoBulkAll parts + 1
  | .iface _ d => uptoBulk d + 1
  | .map entries => uptoBulkEntries entries + 1
  | .held _ => 1
def uptoBulkAll {H : Type} : List (DataW H) → Nat
  | [] => 0
  | d :: r => uptoBulk d + uptoBulkAll r
def uptoBulkEntries {H : Type} : List (Lit × DataW H) → Nat
  | [] => 0
  | x :: r => uptoBulkEntry x + uptoBulkEntries r
def uptoBulkEntry {H : Type} : Lit × DataW H → Nat
  | (.string bytes, d) => bytes.length + uptoBulk d + 1
  | (_, d) => uptoBulk d + 1
 end
def uptoSmall : (H : Type) → List (DataW H) → Bool := fun _ ds => decide (uptoBulkAll ds ≤ 1048576)
def OpenSpec.upto (s : _root_.Go.ChangeSpec) : _root_.Go.OpenSpec := { _root_.Go.OpenSpec.ofChange s with cond := some uptoSmall }

/-- 'juratlaw09.AffixTells', WHERE WHAT IT READS IS OF BULK AT MOST 1048576: true; the input reads as it did. -/
def affixTellsUptoRow : OpenClaim := { program := "ytklogiingfkfnaa", sum := "357007648bff5c8249f71c9f5d82b11b687ac98b9c48e8e158c34c096dc3a933", func := "jurat/juratlaw09.AffixTells", spec := "affixTells", inPlace := ["internal/bytealg.abigen_runtime_cmpstring"], unfollowed := true, recurses := true, apart := false, narrowed := true }
def AffixTellsUptoSaid : Prop := affixTellsUptoRow.holds Try.pinned (OpenSpec.upto affixTellsSpec)

/-- 'juratlaw09.AffixLists', WHERE WHAT IT READS IS OF BULK AT MOST 1048576: true; the input reads as it did. -/
def affixListsUptoRow : OpenClaim := { program := "ytklogiingfkfnaa", sum := "357007648bff5c8249f71c9f5d82b11b687ac98b9c48e8e158c34c096dc3a933", func := "jurat/juratlaw09.AffixLists", spec := "affixLists", inPlace := ["internal/bytealg.abigen_runtime_cmpstring"], unfollowed := true, recurses := true, apart := false, narrowed := true }
def AffixListsUptoSaid : Prop := affixListsUptoRow.holds Try.pinned (OpenSpec.upto affixListsSpec)

/-- 'juratlaw09.AffixOrder', WHERE WHAT IT READS IS OF BULK AT MOST 1048576: true; the input reads as it did. -/
def affixOrderUptoRow : OpenClaim := { program := "ytklogiingfkfnaa", sum := "357007648bff5c8249f71c9f5d82b11b687ac98b9c48e8e158c34c096dc3a933", func := "jurat/juratlaw09.AffixOrder", spec := "affixOrder", inPlace := ["internal/bytealg.abigen_runtime_cmpstring"], unfollowed := true, recurses := true, apart := false, narrowed := true }
def AffixOrderUptoSaid : Prop := affixOrderUptoRow.holds Try.pinned (OpenSpec.upto affixOrderSpec)

end Rows
end Go.Proofs.Ytklogiingfkfnaa
