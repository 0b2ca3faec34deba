/-
  The law RecordTakes: walked.
-/
import Derived.Test.YtbaifcbjkmmnbaaRcA
import Derived.Test.YtbaifcbjkmmnbaaRcG
import Derived.Test.YtbaifcbjkmmnbaaMgSm
set_option linter.unusedSimpArgs false
set_option linter.unusedVariables false
namespace Go.Proofs.Ytbaifcbjkmmnbaa
open Go.RowKit

set_option maxHeartbeats 1000000 in
theorem recTakes_long (s : ByteArray) (w : World) (h : 500 < s.size) (hs : s.size ≤ 9223372036854775807) :
    Calls Try.prog 4 #[.string s] w fun e w' => e = .returned (.bool true) ∧ Below w.heap.size w w' := by
  have g : (500 : Int) < (s.size : Int) := by omega
  go_enter Try.func4, Try.ntmps4
  go_wp2_with fail
  refine (rcawake_any _).mono ?_
  rintro e w1 ⟨rfl, hb1⟩
  go_wp2
  go_ret
  exact ⟨rfl, hb1⟩

set_option maxRecDepth 100000 in
set_option maxHeartbeats 4000000 in
theorem recTakes_short (s : List UInt8) (w : World) (h : s.length ≤ 500) :
    Calls Try.prog 4 #[.string ⟨s.toArray⟩] w fun e w' => e = .returned (.bool true) ∧ Below w.heap.size w w' := by
  have HT := Lib.hid (fun W => rctake_any s W (by omega))
  have HR := Lib.hid (fun W => rtake_any s W (by omega))
  have hil := tk_ids_le s
  generalize tkR s = T at *
  have Z1 := Lib.hid (bsize s)
  have g : ¬ (500 : Int) < (s.length : Int) := by omega
  obtain ⟨z, hz⟩ : ∃ z : Int, (s.length : Int) - (T.rest.length : Int) = z := ⟨_, rfl⟩
  unfold RetTk at HT HR
  rw [hz] at HT HR
  obtain ⟨x, k, n, r, ids, rest⟩ := T
  dsimp only at *
  obtain ⟨L, hL⟩ : ∃ L, ids.length = L := ⟨_, rfl⟩
  rw [hL] at HT HR hil
  have r1 : (z == z) = true := by simp
  have r2 : (x == x) = true := by simp
  clear hz hL h
  go_enter Try.func4, Try.ntmps4
  go_wp2_with fail
  refine (HT.out _).mono ?_
  rintro e w1 ⟨a1, c1, rfl, hr1, hb1⟩
  have hX2 := heap_alloc_new w1 (.cells #[.int .i64 k, .int .i64 n, .int .i64 r, .slice a1 L c1] 24)
  have hb2 := (Below.refl w1.heap.size w1).alloc (Nat.le_refl _) (.cells #[.int .i64 k, .int .i64 n, .int .i64 r, .slice a1 L c1] 24)
  obtain ⟨w2, hw2⟩ : ∃ w2, w1.alloc (.cells #[.int .i64 k, .int .i64 n, .int .i64 r, .slice a1 L c1] 24) = w2 := ⟨_, rfl⟩
  rw [hw2] at hX2 hb2
  have HX2 := Lib.hid hX2
  have HR2 := Lib.hid (hr1.below hb2)
  have HB2 := Lib.hid (hb1.trans (hb2.mono hb1.size))
  have HW2 := Lib.hid hw2
  clear hr1 hb1 hX2 hb2 hw2
  go_wp2_with fail
  rw [HW2.out]
  refine (HR.out _).mono ?_
  rintro e w3 ⟨a3, c3, rfl, hr3, hb3⟩
  have hX3 := (hb3.block w1.heap.size (heap_lt HX2.out)).trans HX2.out
  have hX4 := heap_alloc_new w3 (.cells #[.int .i64 k, .int .i64 n, .int .i64 r, .slice a3 L c3] 24)
  have hb4 := (Below.refl w3.heap.size w3).alloc (Nat.le_refl _) (.cells #[.int .i64 k, .int .i64 n, .int .i64 r, .slice a3 L c3] 24)
  have hX5 := (hb4.block w1.heap.size (heap_lt hX3)).trans hX3
  obtain ⟨w4, hw4⟩ : ∃ w4, w3.alloc (.cells #[.int .i64 k, .int .i64 n, .int .i64 r, .slice a3 L c3] 24) = w4 := ⟨_, rfl⟩
  rw [hw4] at hX4 hX5 hb4
  obtain ⟨d0, d1, d2, d3⟩ := rec_reads hX5
  obtain ⟨e0, e1, e2, e3⟩ := rec_reads hX4
  have HS := Lib.hid (mgsame_any k n r L a1 a3 c1 c3 ids w4 (by omega) ((HR2.out.below hb3).below hb4) (hr3.below hb4))
  have HB4 := Lib.hid (HB2.out.trans ((hb3.trans (hb4.mono hb3.size)).mono HB2.out.size))
  have HW4 := Lib.hid hw4
  clear hr3 hb3 hX3 hX4 hX5 hb4 HT HR
  go_wp2_with fail
  try rw [HW4.out]
  refine HS.out.mono ?_
  rintro e w5 ⟨rfl, hb5⟩
  have HB5 := Lib.hid (HB4.out.trans (hb5.mono HB4.out.size))
  clear hb5 d0 d1 d2 d3 e0 e1 e2 e3 hw4
  go_wp2_with fail
  refine (rcawake_any _).mono ?_
  rintro e w6 ⟨rfl, hb6⟩
  have HB6 := Lib.hid (HB5.out.trans (hb6.mono HB5.out.size))
  clear hb6
  go_wp2
  go_ret
  exact ⟨rfl, HB6.out⟩

theorem recordTakes_walk (s : ByteArray) (w : World) (hs : s.size ≤ 9223372036854775807) :
    Calls Try.prog 4 #[.string s] w fun e w' => e = .returned (.bool true) ∧ Below w.heap.size w w' := by
  by_cases h : 500 < s.size
  · exact recTakes_long s w h hs
  · have e : s = ⟨s.data.toList.toArray⟩ := by simp
    have hl : s.data.toList.length ≤ 500 := by
      have : s.size = s.data.toList.length := Lib.size_eq _
      omega
    rw [e]
    exact recTakes_short s.data.toList w hl
end Go.Proofs.Ytbaifcbjkmmnbaa
