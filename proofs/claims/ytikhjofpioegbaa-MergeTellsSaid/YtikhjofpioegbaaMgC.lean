/-
  How many ends a record covers in all, of both sides: walked.
-/
import Derived.Test.YtikhjofpioegbaaMgT
import Derived.Test.YtikhjofpioegbaaPbCo
import Derived.Test.YtikhjofpioegbaaPbCv
import Derived.Test.YtikhjofpioegbaaRkW
import Derived.Test.YtikhjofpioegbaaRkRef
import Derived.Deep.RegionWith
set_option linter.unusedSimpArgs false
set_option linter.unusedVariables false
namespace Go.Proofs.Ytikhjofpioegbaa
open Go.RowKit

set_option maxRecDepth 100000 in
set_option maxHeartbeats 2000000 in
theorem mgcov_any (k n r : Int) (a : Option Addr) (len cap : Nat) (w : World) :
    Calls Try.prog 10 #[.agg #[.int .i64 k, .int .i64 n, .int .i64 r, .slice a len cap]] w (Ret2 (mgV ⟨k, n, r, a, len, cap⟩) (mgE ⟨k, n, r, a, len, cap⟩) w) := by
  have hX := heap_alloc_new w (.cells #[.int .i64 k, .int .i64 n, .int .i64 r, .slice a len cap] 24)
  have HB : Hid (Below w.heap.size w (w.alloc (.cells #[.int .i64 k, .int .i64 n, .int .i64 r, .slice a len cap] 24))) := Lib.hid ((Below.refl _ _).alloc (Nat.le_refl _) _)
  obtain ⟨w1, hw1⟩ : ∃ w1, w.alloc (.cells #[.int .i64 k, .int .i64 n, .int .i64 r, .slice a len cap] 24) = w1 := ⟨_, rfl⟩
  rw [hw1] at hX HB
  obtain ⟨c0, c1, c2, c3⟩ := rec_reads hX
  have HX := Lib.hid hX
  clear hX
  have HC := Lib.hid (fun W => pbcov_any k n r (.slice a len cap) ⟨_, _, _, rfl⟩ W)
  by_cases hk : 1 ≤ k ∧ k ≤ 3
  · have HR := Lib.hid (fun W => mgrep_any k n r a len cap W true (decide_eq_true hk))
    have HV : Hid (mgV ⟨k, n, r, a, len, cap⟩ = mulV (covZ k n) r) := Lib.hid (if_pos hk)
    have HE : Hid (mgE ⟨k, n, r, a, len, cap⟩ = mulE (covZ k n) r) := Lib.hid (if_pos hk)
    rw [HV.out, HE.out]
    clear HV HE hk
    generalize covZ k n = c at *
    have HM := Lib.hid (fun W => mul_any c r W)
    go_enter Try.func10, Try.ntmps10
    go_wp2_with fail
    try rw [hw1]
    refine (HC.out _).mono ?_
    rintro e w2 ⟨rfl, hb⟩
    obtain ⟨d0, d1, d2, d3⟩ := rec_reads ((hb.block _ (heap_lt HX.out)).trans HX.out)
    have HX2 := Lib.hid ((hb.block _ (heap_lt HX.out)).trans HX.out)
    have HB2 := Lib.hid (HB.out.trans (hb.mono HB.out.size))
    clear hb
    go_wp2_with fail
    refine (HR.out _).mono ?_
    rintro e w3 ⟨rfl, hb⟩
    obtain ⟨e0, e1, e2, e3⟩ := rec_reads ((hb.block _ (heap_lt HX2.out)).trans HX2.out)
    have HB3 := Lib.hid (HB2.out.trans (hb.mono HB2.out.size))
    clear hb
    go_wp2_with fail
    refine (HM.out _).mono ?_
    rintro e w4 ⟨rfl, hb⟩
    have HB4 := Lib.hid (HB3.out.trans (hb.mono HB3.out.size))
    clear hb
    go_wp2
    go_ret2
    exact Ret2.mk rfl HB4.out
  · have HR := Lib.hid (fun W => mgrep_any k n r a len cap W false (decide_eq_false hk))
    have HV : Hid (mgV ⟨k, n, r, a, len, cap⟩ = covZ k n) := Lib.hid (if_neg hk)
    have HE : Hid (mgE ⟨k, n, r, a, len, cap⟩ = 0) := Lib.hid (if_neg hk)
    rw [HV.out, HE.out]
    clear HV HE hk
    generalize covZ k n = c at *
    go_enter Try.func10, Try.ntmps10
    go_wp2_with fail
    try rw [hw1]
    refine (HC.out _).mono ?_
    rintro e w2 ⟨rfl, hb⟩
    obtain ⟨d0, d1, d2, d3⟩ := rec_reads ((hb.block _ (heap_lt HX.out)).trans HX.out)
    have HB2 := Lib.hid (HB.out.trans (hb.mono HB.out.size))
    clear hb
    go_wp2_with fail
    refine (HR.out _).mono ?_
    rintro e w3 ⟨rfl, hb⟩
    have HB3 := Lib.hid (HB2.out.trans (hb.mono HB2.out.size))
    clear hb
    go_wp2
    go_ret2
    exact Ret2.mk rfl HB3.out

set_option maxRecDepth 100000 in
set_option maxHeartbeats 2000000 in
theorem mgrcov_any (k n r : Int) (a : Option Addr) (len cap : Nat) (w : World) :
    Calls Try.prog 11 #[.agg #[.int .i64 k, .int .i64 n, .int .i64 r, .slice a len cap]] w (Ret2 (mgV ⟨k, n, r, a, len, cap⟩) (mgE ⟨k, n, r, a, len, cap⟩) w) := by
  have hX := heap_alloc_new w (.cells #[.int .i64 k, .int .i64 n, .int .i64 r, .slice a len cap] 24)
  have HB : Hid (Below w.heap.size w (w.alloc (.cells #[.int .i64 k, .int .i64 n, .int .i64 r, .slice a len cap] 24))) := Lib.hid ((Below.refl _ _).alloc (Nat.le_refl _) _)
  obtain ⟨w1, hw1⟩ : ∃ w1, w.alloc (.cells #[.int .i64 k, .int .i64 n, .int .i64 r, .slice a len cap] 24) = w1 := ⟨_, rfl⟩
  rw [hw1] at hX HB
  obtain ⟨c0, c1, c2, c3⟩ := rec_reads hX
  have HX := Lib.hid hX
  clear hX
  have HC := Lib.hid (fun (W : World) (hW : Below w1.heap.size w1 W) => (rcov_any k n r (.slice a len cap) ⟨_, _, _, rfl⟩ W).mono (fun E W' h => (⟨h.1, hW.trans (h.2.mono hW.size)⟩ : E = .returned (.int .i64 (covZ k n)) ∧ Below w1.heap.size w1 W')))
  by_cases h1 : 1 ≤ k
  · by_cases h3 : k ≤ 3
    · have HV : Hid (mgV ⟨k, n, r, a, len, cap⟩ = mulV (covZ k n) r) := Lib.hid (if_pos ⟨h1, h3⟩)
      have HE : Hid (mgE ⟨k, n, r, a, len, cap⟩ = mulE (covZ k n) r) := Lib.hid (if_pos ⟨h1, h3⟩)
      rw [HV.out, HE.out]
      clear HV HE
      generalize covZ k n = c at *
      have HM := Lib.hid (fun W => rmul_any c r W)
      go_enter Try.func11, Try.ntmps11
      go_wp2_with fail
      try rw [hw1]
      go_region_with (first
        | (go_at_call 29
           refine (HC.out _ (by first | exact (Below.refl _ _).drew | exact Below.refl _ _)).mono ?_
           rintro E w2 ⟨rfl, hb⟩
           obtain ⟨d0, d1, d2, d3⟩ := rec_reads ((hb.block _ (heap_lt HX.out)).trans HX.out)
           have HB2 : Hid (Below w.heap.size w w2) := Lib.hid (HB.out.trans (hb.mono HB.out.size))
           clear hb)
        | (go_at_call 28
           refine (HM.out _).mono ?_
           rintro E w3 ⟨rfl, rfl⟩))
      all_goals
        go_wp2
        go_ret2
        exact Ret2.mk rfl HB2.out
    · have HV : Hid (mgV ⟨k, n, r, a, len, cap⟩ = covZ k n) := Lib.hid (if_neg (fun q => h3 q.2))
      have HE : Hid (mgE ⟨k, n, r, a, len, cap⟩ = 0) := Lib.hid (if_neg (fun q => h3 q.2))
      rw [HV.out, HE.out]
      clear HV HE
      generalize covZ k n = c at *
      go_enter Try.func11, Try.ntmps11
      go_wp2_with fail
      try rw [hw1]
      refine (HC.out _ (Below.refl _ _)).mono ?_
      rintro e w2 ⟨rfl, hb⟩
      have HB2 := Lib.hid (HB.out.trans (hb.mono HB.out.size))
      clear hb
      go_wp2
      go_ret2
      exact Ret2.mk rfl HB2.out
  · have HV : Hid (mgV ⟨k, n, r, a, len, cap⟩ = covZ k n) := Lib.hid (if_neg (fun q => h1 q.1))
    have HE : Hid (mgE ⟨k, n, r, a, len, cap⟩ = 0) := Lib.hid (if_neg (fun q => h1 q.1))
    rw [HV.out, HE.out]
    clear HV HE
    generalize covZ k n = c at *
    go_enter Try.func11, Try.ntmps11
    go_wp2_with fail
    try rw [hw1]
    refine (HC.out _ (Below.refl _ _)).mono ?_
    rintro e w2 ⟨rfl, hb⟩
    have HB2 := Lib.hid (HB.out.trans (hb.mono HB.out.size))
    clear hb
    go_wp2
    go_ret2
    exact Ret2.mk rfl HB2.out
end Go.Proofs.Ytikhjofpioegbaa
