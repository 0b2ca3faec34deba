/-
  Texts put together: RcPp, PnD, RkW.
-/
import Derived.Test.YtlfofdgeaigpbaaRcP
import Derived.Test.YtlfofdgeaigpbaaBn4
import Derived.Test.YtlfofdgeaigpbaaRcQ
import Derived.Test.YtlfofdgeaigpbaaBn5
import Derived.Test.YtlfofdgeaigpbaaBn1
import Derived.Test.YtlfofdgeaigpbaaRows
import Derived.WalkKit
import Derived.WalkSpells
import Derived.WalkLawsBesides
import Derived.Lib.Hide
import Derived.Outline
import Derived.IntWalk
set_option linter.unusedSimpArgs false
set_option linter.unusedVariables false
namespace Go.Proofs.Ytlfofdgeaigpbaa
open Go.RowKit

/-- What both Puts answer, as a pair. -/
theorem retPk_pair {k n r : Int} {ids : List Int} {w w' : World} {e : Ending} (h : RetPk k n r ids w e w') :
    e = .returned (.tuple #[.string ⟨(if okK k n r ids = true then putK k n r ids else []).toArray⟩, .int .i64 (if okK k n r ids = true then 0 else 2)]) ∧ Below w.heap.size w w' := by
  rcases h with ⟨⟨h1, h2⟩ | ⟨h1, h2⟩, hb⟩
  · rw [if_pos h1, if_pos h1]; exact ⟨h2, hb⟩
  · rw [h1, if_neg (by decide), if_neg (by decide)]; exact ⟨h2, hb⟩

end Go.Proofs.Ytlfofdgeaigpbaa

namespace Go.Proofs.Ytlfofdgeaigpbaa
open Go.RowKit

theorem pn_pair {w : World} {x : Rv} {W W' : World} {e : Ending} (h : RetPk x.k x.n x.r (rvI w x) W e W') : e = .returned (.tuple #[.string ⟨(rvB w x).toArray⟩, .int .i64 (if rvOk w x = true then 0 else 2)]) ∧ Below W.heap.size W W' := retPk_pair h
/-- The document's Put. -/
theorem pn_rput {w W : World} {k n r : Int} {a : Option Addr} {L c : Nat} (hl : L ≤ 1000000) (h1 : (rvI w ⟨k, n, r, a, L, c⟩).length = L) (h2 : IsRow .i64 W a L L (rvI w ⟨k, n, r, a, L, c⟩)) :
    Calls Try.prog 24 #[.agg #[.int .i64 k, .int .i64 n, .int .i64 r, .slice a L c]] W fun e W' => e = .returned (.tuple #[.string ⟨(rvB w ⟨k, n, r, a, L, c⟩).toArray⟩, .int .i64 (if rvOk w ⟨k, n, r, a, L, c⟩ = true then 0 else 2)]) ∧ Below W.heap.size W W' :=
  (rdput_any k n r a L c _ W h1 (by omega) h2).mono fun e W' h => pn_pair (x := ⟨k, n, r, a, L, c⟩) h
/-- The document's Check. -/
theorem pn_rcheck {w W : World} {k n r : Int} {a : Option Addr} {L c : Nat} (hl : L ≤ 1000000) (h1 : (rvI w ⟨k, n, r, a, L, c⟩).length = L) (h2 : IsRow .i64 W a L L (rvI w ⟨k, n, r, a, L, c⟩)) :
    Calls Try.prog 23 #[.agg #[.int .i64 k, .int .i64 n, .int .i64 r, .slice a L c]] W fun e W' => e = .returned (.bool (rvOk w ⟨k, n, r, a, L, c⟩)) ∧ Below W.heap.size W W' :=
  rdcheck_any k n r a L c _ W h1 (by omega) h2 _ rfl
end Go.Proofs.Ytlfofdgeaigpbaa

namespace Go.Proofs.Ytlfofdgeaigpbaa
open Go.RowKit
/-- A number and an error; what was there is as it was. -/
def Ret2 (v x : Int) (w : World) (e : Ending) (w' : World) : Prop := e = .returned (.tuple #[.int .i64 v, .int .i64 x]) ∧ Below w.heap.size w w'

theorem Ret2.mk {v x : Int} {w w' : World} {e : Ending} (h : e = .returned (.tuple #[.int .i64 v, .int .i64 x])) (hb : Below w.heap.size w w') : Ret2 v x w e w' := ⟨h, hb⟩

set_option maxHeartbeats 400000 in
theorem add_any (a b : Int) (w : World) :
    Calls Try.prog 42 #[.int .i64 a, .int .i64 b] w (Ret2 (addV a b) (addE a b) w) := by
  cases h : (ofs a && ofs b) with
  | false =>
    obtain ⟨e1, e2⟩ := add_arg h
    rw [e1, e2]
    have H := Lib.hid h
    clear h e1 e2
    go_enter Try.func42, Try.ntmps42
    go_wp2_with fail
    refine (off_any _ 2 2 [a, b] _ false (by omega) (row2 _ _ _ _) (by simpa using H.out)).mono ?_
    rintro e w' ⟨rfl, rfl⟩
    go_wp2
    go_ret2
    exact Ret2.mk rfl (below_new _ _)
  | true =>
    obtain ⟨ha, hb⟩ := both h
    obtain ⟨a0, a1⟩ := ofs_true ha
    obtain ⟨b0, b1⟩ := ofs_true hb
    by_cases ho : a + b ≤ 4611686018427387903
    · obtain ⟨e1, e2⟩ := add_good h ho
      rw [e1, e2]
      have H := Lib.hid h
      clear h e1 e2 ha hb
      have ht : ¬ 4611686018427387903 - b < a := by omega
      go_enter Try.func42, Try.ntmps42
      go_wp2_with fail
      refine (off_any _ 2 2 [a, b] _ true (by omega) (row2 _ _ _ _) (by simpa using H.out)).mono ?_
      rintro e w' ⟨rfl, rfl⟩
      go_wp2
      go_ret2
      exact Ret2.mk rfl (below_new _ _)
    · obtain ⟨e1, e2⟩ := add_over h (by omega)
      rw [e1, e2]
      have H := Lib.hid h
      clear h e1 e2 ha hb
      have ht : 4611686018427387903 - b < a := by omega
      go_enter Try.func42, Try.ntmps42
      go_wp2_with fail
      refine (off_any _ 2 2 [a, b] _ true (by omega) (row2 _ _ _ _) (by simpa using H.out)).mono ?_
      rintro e w' ⟨rfl, rfl⟩
      go_wp2
      go_ret2
      exact Ret2.mk rfl (below_new _ _)

end Go.Proofs.Ytlfofdgeaigpbaa
