/-
  No cell of these rows narrows 'for every input' (looked for: loops, veiled, ifaces, maps, wideKeys, modest, calm, conditions, laid).
  DERIVED. THE GIVEN ROWS OF THIS SEAT. 3 by the template 'for every input the law returns true; each argument reads behind the call as it read before'; 0 by the template 'total and deterministic' (their statements: YtlfddhigdddmjaaTotals.lean).
  GIVEN WITH THE SEED: the statements are not yours to turn. If you find one false, say at which input.
  Laid BY PROGRAM, IN A SANDBOX (cutbox-rows.mjs): the forced cells as the released guide's own fill.sh prints them over the translation 7a595612816476fa… (all of the seat's roots in one cut). By AI agents, Wed Nov 11 2026. No macro, syntax, notation, axiom, sorry.
-/
import Derived.Test.YtlfddhigdddmjaaChecked
import GoSem.Claim
import GoSem.ClaimJoined
import GoSem.ClaimMapViews
import Derived.JoinedTies
import Derived.KernelRfl
namespace Go.Proofs.Ytlfddhigdddmjaa
/- THE CELL 'sum', in the pinned program and in every row, IS THE sha256 OF THE DUMP (.gsa) THAT YtlfddhigdddmjaaProg.lean LOADS. Nothing in Lean hashes anything: it is a label: what it is worth is what the hold of that sum in a sandbox is worth. -/
noncomputable def Try.pinned : Pinned := { name := "ytlfddhigdddmjaa", sum := "7a595612816476fa7fe47c935c11788b1265ccccec3a967eed7ea771697e3df5", checked := Try.checked }
namespace Rows
def none {H : Type} : Left H := { results := [], args := [] }

/-- 'juratlaw03.ReckonSums': WHATEVER THE INPUT: true; the input reads as it did. -/
def reckonSumsSpec : ChangeSpec := { name := "reckonSums", fn := fun _ => fun
  | [d1, d2] => { results := [.lit (.bool true)], args := [d1, d2] }
  | _ => none }
def reckonSumsRow : OpenClaim := { program := "ytlfddhigdddmjaa", sum := "7a595612816476fa7fe47c935c11788b1265ccccec3a967eed7ea771697e3df5", func := "jurat/juratlaw03.ReckonSums", spec := "reckonSums", apart := false }
def ReckonSumsSaid : Prop := reckonSumsRow.holds Try.pinned (OpenSpec.ofChange reckonSumsSpec)

/-- ITS FALSE NEIGHBOUR: 'it returns false'. Refute it at one input. -/
def reckonSumsWrong : ChangeSpec := { name := "reckonSums", fn := fun _ => fun
  | [d1, d2] => { results := [.lit (.bool false)], args := [d1, d2] }
  | _ => none }
def ReckonSumsWrongFalsely : Prop := reckonSumsRow.holds Try.pinned (OpenSpec.ofChange reckonSumsWrong)

/-- 'juratlaw03.ReckonWalks': WHATEVER THE INPUT: true; the input reads as it did. -/
def reckonWalksSpec : ChangeSpec := { name := "reckonWalks", fn := fun _ => fun
  | [d1, d2, d3] => { results := [.lit (.bool true)], args := [d1, d2, d3] }
  | _ => none }
def reckonWalksRow : OpenClaim := { program := "ytlfddhigdddmjaa", sum := "7a595612816476fa7fe47c935c11788b1265ccccec3a967eed7ea771697e3df5", func := "jurat/juratlaw03.ReckonWalks", spec := "reckonWalks", apart := false }
def ReckonWalksSaid : Prop := reckonWalksRow.holds Try.pinned (OpenSpec.ofChange reckonWalksSpec)

/-- ITS FALSE NEIGHBOUR: 'it returns false'. Refute it at one input. -/
def reckonWalksWrong : ChangeSpec := { name := "reckonWalks", fn := fun _ => fun
  | [d1, d2, d3] => { results := [.lit (.bool false)], args := [d1, d2, d3] }
  | _ => none }
def ReckonWalksWrongFalsely : Prop := reckonWalksRow.holds Try.pinned (OpenSpec.ofChange reckonWalksWrong)

/-- 'juratlaw03.ReckonBack': WHATEVER THE INPUT: true; the input reads as it did. -/
def reckonBackSpec : ChangeSpec := { name := "reckonBack", fn := fun _ => fun
  | [d1, d2, d3] => { results := [.lit (.bool true)], args := [d1, d2, d3] }
  | _ => none }
def reckonBackRow : OpenClaim := { program := "ytlfddhigdddmjaa", sum := "7a595612816476fa7fe47c935c11788b1265ccccec3a967eed7ea771697e3df5", func := "jurat/juratlaw03.ReckonBack", spec := "reckonBack", apart := false }
def ReckonBackSaid : Prop := reckonBackRow.holds Try.pinned (OpenSpec.ofChange reckonBackSpec)

/-- ITS FALSE NEIGHBOUR: 'it returns false'. Refute it at one input. -/
def reckonBackWrong : ChangeSpec := { name := "reckonBack", fn := fun _ => fun
  | [d1, d2, d3] => { results := [.lit (.bool false)], args := [d1, d2, d3] }
  | _ => none }
def ReckonBackWrongFalsely : Prop := reckonBackRow.holds Try.pinned (OpenSpec.ofChange reckonBackWrong)

/- THE SECOND FORM. 'bulk': how many values and letters a reading holds, each counted each time it is reached (what is shared counts as often as it is met; a slice's spare places count too). A statement '..UptoSaid' is the law's where the arguments, and the package variables that the reading takes, are together of bulk at most 1048576: NARROWER than '..Said'. Prove '..Said' where nothing that the law and all that it calls make is longer than what came in: it says more and counts as full. Else prove '..UptoSaid'. A law counts once. -/
mutual
def uptoBulk {H : Type} : DataW H → Nat
  | .lit (.string bytes) => bytes.length + 1
  | .lit _ => 1
  | .nil => 1
  | .ptr d => uptoBulk d + 1
  | .slice elems spare => uptoBulkAll elems + uptoBulkAll spare + 1
  | .agg parts => uptoBulkAll parts + 1
  | .iface _ d => uptoBulk d + 1
  | .map entries => uptoBulkEntries entries + 1
  | .held _ => 1
def uptoBulkAll {H : Type} : List (DataW H) → Nat
  | [] => 0
  | d :: r => uptoBulk d + uptoBulkAll r
def uptoBulkEntries {H : Type} : List (Lit × DataW H) → Nat
  | [] => 0
  | x :: r => uptoBulkEntry x + uptoBulkEntries r
def uptoBulkEntry {H : Type} : Lit × DataW H → Nat
  | (.string bytes, d) => bytes.length + uptoBulk d + 1
  | (_, d) => uptoBulk d + 1
 end
def uptoSmall : (H : Type) → List (DataW H) → Bool := fun _ ds => decide (uptoBulkAll ds ≤ 1048576)
def OpenSpec.upto (s : _root_.Go.ChangeSpec) : _root_.Go.OpenSpec := { _root_.Go.OpenSpec.ofChange s with cond := some uptoSmall }

/-- 'juratlaw03.ReckonSums', WHERE WHAT IT READS IS OF BULK AT MOST 1048576: true; the input reads as it did. -/
def reckonSumsUptoRow : OpenClaim := { program := "ytlfddhigdddmjaa", sum := "7a595612816476fa7fe47c935c11788b1265ccccec3a967eed7ea771697e3df5", func := "jurat/juratlaw03.ReckonSums", spec := "reckonSums", apart := false, narrowed := true }
def ReckonSumsUptoSaid : Prop := reckonSumsUptoRow.holds Try.pinned (OpenSpec.upto reckonSumsSpec)

/-- 'juratlaw03.ReckonWalks', WHERE WHAT IT READS IS OF BULK AT MOST 1048576: true; the input reads as it did. -/
def reckonWalksUptoRow : OpenClaim := { program := "ytlfddhigdddmjaa", sum := "7a595612816476fa7fe47c935c11788b1265ccccec3a967eed7ea771697e3df5", func := "jurat/juratlaw03.ReckonWalks", spec := "reckonWalks", apart := false, narrowed := true }
def ReckonWalksUptoSaid : Prop := reckonWalksUptoRow.holds Try.pinned (OpenSpec.upto reckonWalksSpec)

/-- 'juratlaw03.ReckonBack', WHERE WHAT IT READS IS OF BULK AT MOST 1048576: true; the input reads as it did. -/
def reckonBackUptoRow : OpenClaim := { program := "ytlfddhigdddmjaa", sum := "7a595612816476fa7fe47c935c11788b1265ccccec3a967eed7ea771697e3df5", func := "jurat/juratlaw03.ReckonBack", spec := "reckonBack", apart := false, narrowed := true }
def ReckonBackUptoSaid : Prop := reckonBackUptoRow.holds Try.pinned (OpenSpec.upto reckonBackSpec)

end Rows
end Go.Proofs.Ytlfddhigdddmjaa
