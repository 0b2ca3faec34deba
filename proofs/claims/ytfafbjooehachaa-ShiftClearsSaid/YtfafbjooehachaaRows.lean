/-
  No cell of these rows narrows 'for every input' (looked for: loops, veiled, ifaces, maps, wideKeys, modest, calm, conditions, laid).
  DERIVED. THE GIVEN ROWS OF THIS SEAT. 3 by the template 'for every input the law returns true; each argument reads behind the call as it read before'; 0 by the template 'total and deterministic' (their statements: YtfafbjooehachaaTotals.lean).
  GIVEN WITH THE SEED: the statements are not yours to turn. If you find one false, say at which input.
  Laid BY PROGRAM, IN A SANDBOX (cutbox-rows.mjs): the forced cells as the released guide's own fill.sh prints them over the translation 505983bffca3988c… (all of the seat's roots in one cut). By AI agents, Wed Nov 11 2026. No macro, syntax, notation, axiom, sorry.
-/
import Derived.Test.YtfafbjooehachaaChecked
import GoSem.Claim
import GoSem.ClaimJoined
import GoSem.ClaimMapViews
import Derived.JoinedTies
import Derived.KernelRfl
namespace Go.Proofs.Ytfafbjooehachaa
/- THE CELL 'sum', in the pinned program and in every row, IS THE sha256 OF THE DUMP (.gsa) THAT YtfafbjooehachaaProg.lean LOADS. Nothing in Lean hashes anything: it is a label: what it is worth is what the hold of that sum in a sandbox is worth. -/
noncomputable def Try.pinned : Pinned := { name := "ytfafbjooehachaa", sum := "505983bffca3988c5322ab6dccc5f80236d8d2fb7b26a3806947f26aaf515959", checked := Try.checked }
namespace Rows
def none {H : Type} : Left H := { results := [], args := [] }

/-- 'juratlaw13.ShiftTells': WHATEVER THE INPUT: true; the input reads as it did. -/
def shiftTellsSpec : ChangeSpec := { name := "shiftTells", fn := fun _ => fun
  | [d1, d2] => { results := [.lit (.bool true)], args := [d1, d2] }
  | _ => none }
def shiftTellsRow : OpenClaim := { program := "ytfafbjooehachaa", sum := "505983bffca3988c5322ab6dccc5f80236d8d2fb7b26a3806947f26aaf515959", func := "jurat/juratlaw13.ShiftTells", spec := "shiftTells", inPlace := ["internal/bytealg.abigen_runtime_cmpstring"], unfollowed := true, recurses := true, apart := false }
def ShiftTellsSaid : Prop := shiftTellsRow.holds Try.pinned (OpenSpec.ofChange shiftTellsSpec)

/-- ITS FALSE NEIGHBOUR: 'it returns false'. Refute it at one input. -/
def shiftTellsWrong : ChangeSpec := { name := "shiftTells", fn := fun _ => fun
  | [d1, d2] => { results := [.lit (.bool false)], args := [d1, d2] }
  | _ => none }
def ShiftTellsWrongFalsely : Prop := shiftTellsRow.holds Try.pinned (OpenSpec.ofChange shiftTellsWrong)

/-- 'juratlaw13.ShiftEnds': WHATEVER THE INPUT: true; the input reads as it did. -/
def shiftEndsSpec : ChangeSpec := { name := "shiftEnds", fn := fun _ => fun
  | [d1, d2] => { results := [.lit (.bool true)], args := [d1, d2] }
  | _ => none }
def shiftEndsRow : OpenClaim := { program := "ytfafbjooehachaa", sum := "505983bffca3988c5322ab6dccc5f80236d8d2fb7b26a3806947f26aaf515959", func := "jurat/juratlaw13.ShiftEnds", spec := "shiftEnds", inPlace := ["internal/bytealg.abigen_runtime_cmpstring"], unfollowed := true, recurses := true, apart := false }
def ShiftEndsSaid : Prop := shiftEndsRow.holds Try.pinned (OpenSpec.ofChange shiftEndsSpec)

/-- ITS FALSE NEIGHBOUR: 'it returns false'. Refute it at one input. -/
def shiftEndsWrong : ChangeSpec := { name := "shiftEnds", fn := fun _ => fun
  | [d1, d2] => { results := [.lit (.bool false)], args := [d1, d2] }
  | _ => none }
def ShiftEndsWrongFalsely : Prop := shiftEndsRow.holds Try.pinned (OpenSpec.ofChange shiftEndsWrong)

/-- 'juratlaw13.ShiftClears': WHATEVER THE INPUT: true; the input reads as it did. -/
def shiftClearsSpec : ChangeSpec := { name := "shiftClears", fn := fun _ => fun
  | [d1, d2, d3] => { results := [.lit (.bool true)], args := [d1, d2, d3] }
  | _ => none }
def shiftClearsRow : OpenClaim := { program := "ytfafbjooehachaa", sum := "505983bffca3988c5322ab6dccc5f80236d8d2fb7b26a3806947f26aaf515959", func := "jurat/juratlaw13.ShiftClears", spec := "shiftClears", inPlace := ["internal/bytealg.abigen_runtime_cmpstring"], unfollowed := true, recurses := true, apart := false }
def ShiftClearsSaid : Prop := shiftClearsRow.holds Try.pinned (OpenSpec.ofChange shiftClearsSpec)

/-- ITS FALSE NEIGHBOUR: 'it returns false'. Refute it at one input. -/
def shiftClearsWrong : ChangeSpec := { name := "shiftClears", fn := fun _ => fun
  | [d1, d2, d3] => { results := [.lit (.bool false)], args := [d1, d2, d3] }
  | _ => none }
def ShiftClearsWrongFalsely : Prop := shiftClearsRow.holds Try.pinned (OpenSpec.ofChange shiftClearsWrong)

/- THE SECOND FORM. 'bulk': how many values and letters a reading holds, each counted each time it is reached (what is shared counts as often as it is met; a slice's spare places count too). A statement '..UptoSaid' is the law's where the arguments, and the package variables that the reading takes, are together of bulk at most 1048576: NARROWER than '..Said'. Prove '..Said' where nothing that the law and all that it calls make is longer than what came in: it says more and counts as full. Else prove '..UptoSaid'. A law counts once. -/
mutual
def uptoBulk {H : Type} : DataW H → Nat
  | .lit (.string bytes) => bytes.length + 1
  | .lit _ => 1
  | .nil => 1
  | .ptr d => uptoBulk d + 1
  | .slice elems spare => uptoBulkAll elems + uptoBulkAll spare + 1
  | .agg parts => uptoBulkAll parts + 1
  | .iface _ d => uptoBulk d + 1
  | .map entries => uptoBulkEntries entries + 1
  | .held _ => 1
def uptoBulkAll {H : Type} : List (DataW H) → Nat
  | [] => 0
  | d :: r => uptoBulk d + uptoBulkAll r
def uptoBulkEntries {H : Type} : List (Lit × DataW H) → Nat
  | [] => 0
  | x :: r => uptoBulkEntry x + uptoBulkEntries r
def uptoBulkEntry {H : Type} : Lit × DataW H → Nat
  | (.string bytes, d) => bytes.length + uptoBulk d + 1
  | (_, d) => uptoBulk d + 1
 end
def uptoSmall : (H : Type) → List (DataW H) → Bool := fun _ ds => decide (uptoBulkAll ds ≤ 1048576)
def OpenSpec.upto (s : _root_.Go.ChangeSpec) : _root_.Go.OpenSpec := { _root_.Go.OpenSpec.ofChange s with cond := some uptoSmall }

/-- 'juratlaw13.ShiftTells', WHERE WHAT IT READS IS OF BULK AT MOST 1048576: true; the input reads as it did. -/
def shiftTellsUptoRow : OpenClaim := { program := "ytfafbjooehachaa", sum := "505983bffca3988c5322ab6dccc5f80236d8d2fb7b26a3806947f26aaf515959", func := "jurat/juratlaw13.ShiftTells", spec := "shiftTells", inPlace := ["internal/bytealg.abigen_runtime_cmpstring"], unfollowed := true, recurses := true, apart := false, narrowed := true }
def ShiftTellsUptoSaid : Prop := shiftTellsUptoRow.holds Try.pinned (OpenSpec.upto shiftTellsSpec)

/-- 'juratlaw13.ShiftEnds', WHERE WHAT IT READS IS OF BULK AT MOST 1048576: true; the input reads as it did. -/
def shiftEndsUptoRow : OpenClaim := { program := "ytfafbjooehachaa", sum := "505983bffca3988c5322ab6dccc5f80236d8d2fb7b26a3806947f26aaf515959", func := "jurat/juratlaw13.ShiftEnds", spec := "shiftEnds", inPlace := ["internal/bytealg.abigen_runtime_cmpstring"], unfollowed := true, recurses := true, apart := false, narrowed := true }
def ShiftEndsUptoSaid : Prop := shiftEndsUptoRow.holds Try.pinned (OpenSpec.upto shiftEndsSpec)

/-- 'juratlaw13.ShiftClears', WHERE WHAT IT READS IS OF BULK AT MOST 1048576: true; the input reads as it did. -/
def shiftClearsUptoRow : OpenClaim := { program := "ytfafbjooehachaa", sum := "505983bffca3988c5322ab6dccc5f80236d8d2fb7b26a3806947f26aaf515959", func := "jurat/juratlaw13.ShiftClears", spec := "shiftClears", inPlace := ["internal/bytealg.abigen_runtime_cmpstring"], unfollowed := true, recurses := true, apart := false, narrowed := true }
def ShiftClearsUptoSaid : Prop := shiftClearsUptoRow.holds Try.pinned (OpenSpec.upto shiftClearsSpec)

end Rows
end Go.Proofs.Ytfafbjooehachaa
