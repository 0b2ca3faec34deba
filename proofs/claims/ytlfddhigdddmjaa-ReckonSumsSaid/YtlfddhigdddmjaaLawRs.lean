/-
  The law ReckonSums, walked: for every two numbers it returns true, and writes nothing that was there.
-/
import Derived.Test.YtlfddhigdddmjaaRkAw
import Derived.Test.YtlfddhigdddmjaaRkRef
import Derived.Deep.RegionWith
import Derived.Deep.RegionHeld3
import Derived.BigGuard
import Derived.BigQuiet
import Derived.Deep.QuietTactic
set_option linter.unusedSimpArgs false
set_option linter.unusedVariables false
namespace Go.Proofs.Ytlfddhigdddmjaa
open Go.RowKit

theorem chain {w a b : World} (h : Below w.heap.size w a) (h2 : Below a.heap.size a b) : Below w.heap.size w b := h.trans (h2.mono h.size)

set_option maxHeartbeats 2000000 in
theorem sums_any (a b : Int) (w : World) :
    Calls Try.prog 3 #[.int .i64 a, .int .i64 b] w fun e w' => e = .returned (.bool true) ∧ Below w.heap.size w w' := by
  have HA := Lib.hid (fun W => add_any a b W)
  have HS := Lib.hid (fun W => sub_any a b W)
  have HM := Lib.hid (fun W => mul_any a b W)
  have HRA := Lib.hid (fun W => radd_any a b W)
  have HRS := Lib.hid (fun W => rsub_any a b W)
  have HRM := Lib.hid (fun W => rmul_any a b W)
  have HI := Lib.hid (fun W => is_any a W _ rfl)
  have HRI := Lib.hid (fun W => ris_any a W _ rfl)
  generalize addV a b = v1 at *
  generalize addE a b = e1 at *
  generalize subV a b = v2 at *
  generalize subE a b = e2 at *
  generalize mulV a b = v3 at *
  generalize mulE a b = e3 at *
  generalize ofs a = r at *
  go_enter Try.func3, Try.ntmps3
  go_wp2_with fail
  refine (HA.out _).mono ?_
  rintro e w1 ⟨rfl, hb1⟩
  go_wp2_with fail
  refine (HRA.out _).mono ?_
  rintro e w' ⟨rfl, rfl⟩
  go_wp2_with fail
  refine (HS.out _).mono ?_
  rintro e w2 ⟨rfl, hb2⟩
  go_wp2_with fail
  refine (HRS.out _).mono ?_
  rintro e w' ⟨rfl, rfl⟩
  go_wp2_with fail
  refine (HM.out _).mono ?_
  rintro e w3 ⟨rfl, hb3⟩
  go_wp2_with fail
  refine (HRM.out _).mono ?_
  rintro e w' ⟨rfl, rfl⟩
  go_wp2_with fail
  refine (HI.out _).mono ?_
  rintro e w4 ⟨rfl, hb4⟩
  go_wp2_with fail
  refine (HRI.out _).mono ?_
  rintro e w' ⟨rfl, rfl⟩
  go_wp2_with fail
  refine (awake_any _).mono ?_
  rintro e w5 ⟨rfl, hb5⟩
  go_wp2
  go_ret
  exact ⟨rfl, chain (chain (chain (chain hb1 hb2) hb3) hb4) hb5⟩
end Go.Proofs.Ytlfddhigdddmjaa
