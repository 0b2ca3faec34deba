/-
  No cell of these rows narrows 'for every input' (looked for: loops, veiled, ifaces, maps, wideKeys, modest, calm, conditions, laid).
  DERIVED. THE GIVEN ROWS OF THIS SEAT. 3 by the template 'for every input the law returns true; each argument reads behind the call as it read before'; 0 by the template 'total and deterministic' (their statements: YtiaepggjgmmdlaaTotals.lean).
  GIVEN WITH THE SEED: the statements are not yours to turn. If you find one false, say at which input.
  Laid BY PROGRAM, IN A SANDBOX (cutbox-rows.mjs): the forced cells as the released guide's own fill.sh prints them over the translation fd78f02df10f5530… (all of the seat's roots in one cut). By AI agents, Wed Nov 11 2026. No macro, syntax, notation, axiom, sorry.
-/
import Derived.Test.YtiaepggjgmmdlaaChecked
import GoSem.Claim
import GoSem.ClaimJoined
import GoSem.ClaimMapViews
import Derived.JoinedTies
import Derived.KernelRfl
namespace Go.Proofs.Ytiaepggjgmmdlaa
/- THE CELL 'sum', in the pinned program and in every row, IS THE sha256 OF THE DUMP (.gsa) THAT YtiaepggjgmmdlaaProg.lean LOADS. Nothing in Lean hashes anything: it is a label: what it is worth is what the hold of that sum in a sandbox is worth. -/
noncomputable def Try.pinned : Pinned := { name := "ytiaepggjgmmdlaa", sum := "fd78f02df10f553006b5e407ef757c5b160f54e35473361f9a12ade47f638b2d", checked := Try.checked }
namespace Rows
def none {H : Type} : Left H := { results := [], args := [] }

/-- 'juratlaw08.BorderTells': WHATEVER THE INPUT: true; the input reads as it did. -/
def borderTellsSpec : ChangeSpec := { name := "borderTells", fn := fun _ => fun
  | [d] => { results := [.lit (.bool true)], args := [d] }
  | _ => none }
def borderTellsRow : OpenClaim := { program := "ytiaepggjgmmdlaa", sum := "fd78f02df10f553006b5e407ef757c5b160f54e35473361f9a12ade47f638b2d", func := "jurat/juratlaw08.BorderTells", spec := "borderTells", apart := false }
def BorderTellsSaid : Prop := borderTellsRow.holds Try.pinned (OpenSpec.ofChange borderTellsSpec)

/-- ITS FALSE NEIGHBOUR: 'it returns false'. Refute it at one input. -/
def borderTellsWrong : ChangeSpec := { name := "borderTells", fn := fun _ => fun
  | [d] => { results := [.lit (.bool false)], args := [d] }
  | _ => none }
def BorderTellsWrongFalsely : Prop := borderTellsRow.holds Try.pinned (OpenSpec.ofChange borderTellsWrong)

/-- 'juratlaw08.BorderMeets': WHATEVER THE INPUT: true; the input reads as it did. -/
def borderMeetsSpec : ChangeSpec := { name := "borderMeets", fn := fun _ => fun
  | [d1, d2] => { results := [.lit (.bool true)], args := [d1, d2] }
  | _ => none }
def borderMeetsRow : OpenClaim := { program := "ytiaepggjgmmdlaa", sum := "fd78f02df10f553006b5e407ef757c5b160f54e35473361f9a12ade47f638b2d", func := "jurat/juratlaw08.BorderMeets", spec := "borderMeets", apart := false }
def BorderMeetsSaid : Prop := borderMeetsRow.holds Try.pinned (OpenSpec.ofChange borderMeetsSpec)

/-- ITS FALSE NEIGHBOUR: 'it returns false'. Refute it at one input. -/
def borderMeetsWrong : ChangeSpec := { name := "borderMeets", fn := fun _ => fun
  | [d1, d2] => { results := [.lit (.bool false)], args := [d1, d2] }
  | _ => none }
def BorderMeetsWrongFalsely : Prop := borderMeetsRow.holds Try.pinned (OpenSpec.ofChange borderMeetsWrong)

/-- 'juratlaw08.BorderPeriods': WHATEVER THE INPUT: true; the input reads as it did. -/
def borderPeriodsSpec : ChangeSpec := { name := "borderPeriods", fn := fun _ => fun
  | [d1, d2] => { results := [.lit (.bool true)], args := [d1, d2] }
  | _ => none }
def borderPeriodsRow : OpenClaim := { program := "ytiaepggjgmmdlaa", sum := "fd78f02df10f553006b5e407ef757c5b160f54e35473361f9a12ade47f638b2d", func := "jurat/juratlaw08.BorderPeriods", spec := "borderPeriods", apart := false }
def BorderPeriodsSaid : Prop := borderPeriodsRow.holds Try.pinned (OpenSpec.ofChange borderPeriodsSpec)

/-- ITS FALSE NEIGHBOUR: 'it returns false'. Refute it at one input. -/
def borderPeriodsWrong : ChangeSpec := { name := "borderPeriods", fn := fun _ => fun
  | [d1, d2] => { results := [.lit (.bool false)], args := [d1, d2] }
  | _ => none }
def BorderPeriodsWrongFalsely : Prop := borderPeriodsRow.holds Try.pinned (OpenSpec.ofChange borderPeriodsWrong)

/- THE SECOND FORM. 'bulk': how many values and letters a reading holds, each counted each time it is reached (what is shared counts as often as it is met; a slice's spare places count too). A statement '..UptoSaid' is the law's where the arguments, and the package variables that the reading takes, are together of bulk at most 1048576: NARROWER than '..Said'. Prove '..Said' where nothing that the law and all that it calls make is longer than what came in: it says more and counts as full. Else prove '..UptoSaid'. A law counts once. -/
mutual
def uptoBulk {H : Type} : DataW H → Nat
  | .lit (.string bytes) => bytes.length + 1
  | .lit _ => 1
  | .nil => 1
  | .ptr d => uptoBulk d + 1
  | .slice elems spare => uptoBulkAll elems + uptoBulkAll spare + 1
  | .agg parts => uptoBulkAll parts + 1
  | .iface _ d => uptoBulk d + 1
  | .map entries => uptoBulkEntries entries + 1
  | .held _ => 1
def uptoBulkAll {H : Type} : List (DataW H) → Nat
  | [] => 0
  | d :: r => uptoBulk d + uptoBulkAll r
def uptoBulkEntries {H : Type} : List (Lit × DataW H) → Nat
  | [] => 0
  | x :: r => uptoBulkEntry x + uptoBulkEntries r
def uptoBulkEntry {H : Type} : Lit × DataW H → Nat
  | (.string bytes, d) => bytes.length + uptoBulk d + 1
  | (_, d) => uptoBulk d + 1
 end
def uptoSmall : (H : Type) → List (DataW H) → Bool := fun _ ds => decide (uptoBulkAll ds ≤ 1048576)
def OpenSpec.upto (s : _root_.Go.ChangeSpec) : _root_.Go.OpenSpec := { _root_.Go.OpenSpec.ofChange s with cond := some uptoSmall }

/-- 'juratlaw08.BorderTells', WHERE WHAT IT READS IS OF BULK AT MOST 1048576: true; the input reads as it did. -/
def borderTellsUptoRow : OpenClaim := { program := "ytiaepggjgmmdlaa", sum := "fd78f02df10f553006b5e407ef757c5b160f54e35473361f9a12ade47f638b2d", func := "jurat/juratlaw08.BorderTells", spec := "borderTells", apart := false, narrowed := true }
def BorderTellsUptoSaid : Prop := borderTellsUptoRow.holds Try.pinned (OpenSpec.upto borderTellsSpec)

/-- 'juratlaw08.BorderMeets', WHERE WHAT IT READS IS OF BULK AT MOST 1048576: true; the input reads as it did. -/
def borderMeetsUptoRow : OpenClaim := { program := "ytiaepggjgmmdlaa", sum := "fd78f02df10f553006b5e407ef757c5b160f54e35473361f9a12ade47f638b2d", func := "jurat/juratlaw08.BorderMeets", spec := "borderMeets", apart := false, narrowed := true }
def BorderMeetsUptoSaid : Prop := borderMeetsUptoRow.holds Try.pinned (OpenSpec.upto borderMeetsSpec)

/-- 'juratlaw08.BorderPeriods', WHERE WHAT IT READS IS OF BULK AT MOST 1048576: true; the input reads as it did. -/
def borderPeriodsUptoRow : OpenClaim := { program := "ytiaepggjgmmdlaa", sum := "fd78f02df10f553006b5e407ef757c5b160f54e35473361f9a12ade47f638b2d", func := "jurat/juratlaw08.BorderPeriods", spec := "borderPeriods", apart := false, narrowed := true }
def BorderPeriodsUptoSaid : Prop := borderPeriodsUptoRow.holds Try.pinned (OpenSpec.upto borderPeriodsSpec)

end Rows
end Go.Proofs.Ytiaepggjgmmdlaa
