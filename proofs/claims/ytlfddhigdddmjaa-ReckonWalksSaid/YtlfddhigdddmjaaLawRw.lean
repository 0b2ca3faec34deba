/-
  The law ReckonWalks, walked: for every three numbers it returns true, and writes nothing that was there.
-/
import Derived.Test.YtlfddhigdddmjaaRkAw
import Derived.Test.YtlfddhigdddmjaaRkRef
set_option linter.unusedSimpArgs false
set_option linter.unusedVariables false
namespace Go.Proofs.Ytlfddhigdddmjaa
open Go.RowKit

theorem chainw {w a b : World} (h : Below w.heap.size w a) (h2 : Below a.heap.size a b) : Below w.heap.size w b := h.trans (h2.mono h.size)

set_option maxHeartbeats 2000000 in
theorem walks_any (a b c : Int) (w : World) :
    Calls Try.prog 4 #[.int .i64 a, .int .i64 b, .int .i64 c] w fun e w' => e = .returned (.bool true) ∧ Below w.heap.size w w' := by
  have HA := Lib.hid (fun W => step_any a b c W)
  have HS := Lib.hid (fun W => time_any a b c W)
  have HRA := Lib.hid (fun W => rstep_any a b c W)
  have HRS := Lib.hid (fun W => rtime_any a b c W)
  generalize stepV a b c = v1 at *
  generalize stepE a b c = e1 at *
  generalize timeV a b c = v2 at *
  generalize timeE a b c = e2 at *
  go_enter Try.func4, Try.ntmps4
  go_wp2_with fail
  refine (HA.out _).mono ?_
  rintro e w1 ⟨rfl, hb1⟩
  go_wp2_with fail
  refine (HRA.out _).mono ?_
  rintro e w' ⟨rfl, rfl⟩
  go_wp2_with fail
  refine (HS.out _).mono ?_
  rintro e w2 ⟨rfl, hb2⟩
  go_wp2_with fail
  refine (HRS.out _).mono ?_
  rintro e w' ⟨rfl, rfl⟩
  go_wp2_with fail
  refine (awake_any _).mono ?_
  rintro e w3 ⟨rfl, hb3⟩
  go_wp2
  go_ret
  exact ⟨rfl, chainw (chainw hb1 hb2) hb3⟩
end Go.Proofs.Ytlfddhigdddmjaa
