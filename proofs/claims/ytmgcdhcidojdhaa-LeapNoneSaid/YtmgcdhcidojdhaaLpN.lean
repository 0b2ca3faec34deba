/-
  leap.Next where nothing is found; the law's 'nothing': walked.
-/
import Derived.Test.YtmgcdhcidojdhaaLpR
import Derived.Test.YtmgcdhcidojdhaaLpS
import Derived.Test.YtmgcdhcidojdhaaBn11
set_option linter.unusedSimpArgs false
set_option linter.unusedVariables false
namespace Go.Proofs.Ytmgcdhcidojdhaa
open Go.RowKit

set_option maxRecDepth 100000 in
set_option maxHeartbeats 1000000 in
theorem lpnext_no {p : Option Addr} {k : Value} {e : Int} {w : World} (h : ∀ W, Below w.heap.size w W → Calls Try.prog 20 #[.pointer p, k, .int .i64 e] W (NoTail W)) :
    Calls Try.prog 17 #[.pointer p, k, .int .i64 e] w fun E w' => E = .returned (.tuple #[.agg #[.int .i64 0, .int .i64 0, .int .i64 0, .slice none 0 0], .int .i64 0, .bool false]) ∧ Below w.heap.size w w' := by
  obtain ⟨w1, hw1⟩ : ∃ w1, w.alloc (.cells #[.int .i64 0, .int .i64 0, .int .i64 0, .slice none 0 0] 42) = w1 := ⟨_, rfl⟩
  have hX0 : w1.heap[w.heap.size]? = some (.cells #[.int .i64 0, .int .i64 0, .int .i64 0, .slice none 0 0] 42 (0, 0)) := by rw [← hw1]; exact heap_alloc_new w _
  have hB1 : Below w.heap.size w w1 := by rw [← hw1]; exact (Below.refl w.heap.size w).alloc (Nat.le_refl _) _
  have HT := Lib.hid (h w1 hB1)
  have HX := Lib.hid hX0
  have HB := Lib.hid hB1
  obtain ⟨f0, f1, f2, f3⟩ := rec_free hX0
  obtain ⟨j0, j1, j2, j3⟩ := rec_reads hX0
  clear h hX0 hB1
  go_enter Try.func17, Try.ntmps17
  go_wp2_with fail
  try rw [hw1]
  refine HT.out.mono ?_
  rintro E w' ⟨rfl, q, rfl⟩
  clear HT
  have HF := Lib.hid (put_rec (w := w1.drewN q) HX.out (.int .i64 0) (.int .i64 0) (.int .i64 0) (.slice none 0 0))
  have HBe := Lib.hid (below_rec (w' := w1.drewN q) (HB.out.trans ⟨rfl, rfl, rfl, Nat.le_refl _, fun _ _ => rfl⟩) (Nat.le_refl _) (.int .i64 0) (.int .i64 0) (.int .i64 0) (.slice none 0 0))
  go_wp2
  obtain ⟨i0, i1, i2, i3⟩ := rec_reads HF.out
  refine bodyPost_ret (v := .tuple #[.agg #[.int .i64 0, .int .i64 0, .int .i64 0, .slice none 0 0], .int .i64 0, .bool false]) (by simp [results, Try.results17, go_sem, i0, i1, i2, i3]) rfl ?_
  exact ⟨rfl, HBe.out⟩

set_option maxRecDepth 100000 in
set_option maxHeartbeats 2000000 in
theorem lpnothing_any {p q : Option Addr} {e : Int} {w : World} (h : ∀ W, Below w.heap.size w W → Calls Try.prog 20 #[.pointer p, .pointer q, .int .i64 e] W (NoTail W)) :
    Calls Try.prog 9 #[.pointer p, .pointer q, .int .i64 e] w fun E w' => E = .returned (.bool true) ∧ Below w.heap.size w w' := by
  have HT := Lib.hid h
  have HN := Lib.hid (lpnext_no h)
  have HSM : Hid (∀ W, Calls Try.prog 13 #[.agg #[.int .i64 0, .int .i64 0, .int .i64 0, .slice none 0 0], .agg #[.int .i64 0, .int .i64 0, .int .i64 0, .slice none 0 0]] W fun e w' => e = .returned (.bool true) ∧ Below W.heap.size W w') := Lib.hid (fun W => rsame_any ⟨0, 0, 0, []⟩ none none 0 0 W (by decide) (.inl rfl) (.inl rfl))
  clear h
  go_enter Try.func9, Try.ntmps9
  go_wp2_with fail
  refine HN.out.mono ?_
  rintro E w1 ⟨rfl, hb1⟩
  have hX2 := heap_alloc_new w1 (.cells #[.int .i64 0, .int .i64 0, .int .i64 0, .slice none 0 0] 42)
  have hB2 := (Below.refl w1.heap.size w1).alloc (Nat.le_refl _) (.cells #[.int .i64 0, .int .i64 0, .int .i64 0, .slice none 0 0] 42)
  have hb2 := hb1.trans (hB2.mono hb1.size)
  go_wp2_with fail
  generalize w1.alloc (.cells #[.int .i64 0, .int .i64 0, .int .i64 0, .slice none 0 0] 42) = w2 at hX2 hB2 hb2 ⊢
  have HR2 := Lib.hid (lprun_no (HT.out w2 hb2))
  have HX2 := Lib.hid hX2
  have HB2 := Lib.hid hb2
  clear HN hX2 hB2 hb2 hb1
  refine HR2.out.mono ?_
  rintro E w' ⟨rfl, n, rfl⟩
  have HL3 := Lib.hid (lplast_no (w := w2.drewN n) (fun W hW => HT.out W (HB2.out.trans (((lp_drewN (Below.refl w2.heap.size w2) n).trans hW).mono HB2.out.size))))
  clear HR2
  go_wp2_with fail
  refine HL3.out.mono ?_
  rintro E w4 ⟨rfl, hb4⟩
  have hb24 : Below w2.heap.size w2 w4 := (lp_drewN (Below.refl w2.heap.size w2) n).trans hb4
  have hX5 := heap_alloc_new w4 (.cells #[.int .i64 0, .int .i64 0, .int .i64 0, .slice none 0 0] 42)
  have hB5 := (Below.refl w4.heap.size w4).alloc (Nat.le_refl _) (.cells #[.int .i64 0, .int .i64 0, .int .i64 0, .slice none 0 0] 42)
  have hb25 := hb24.trans (hB5.mono hb24.size)
  have hY5 := (hb25.block _ (heap_lt HX2.out)).trans HX2.out
  obtain ⟨k0, k1, k2, k3⟩ := rec_reads hY5
  have HB5 := Lib.hid (HB2.out.trans (hb25.mono HB2.out.size))
  have HX5 := Lib.hid hX5
  clear HL3 hb4 hb24 hB5 hb25 hY5 hX5 HX2 HB2
  go_wp2_with fail
  generalize w4.alloc (.cells #[.int .i64 0, .int .i64 0, .int .i64 0, .slice none 0 0] 42) = w5 at HX5 HB5 k0 k1 k2 k3 ⊢
  refine (HSM.out w5).mono ?_
  rintro E w6 ⟨rfl, hb6⟩
  have hX6 := (hb6.block _ (heap_lt HX5.out)).trans HX5.out
  obtain ⟨l0, l1, l2, l3⟩ := rec_reads hX6
  have HB6 := Lib.hid (HB5.out.trans (hb6.mono HB5.out.size))
  clear hb6 hX6 k0 k1 k2 k3 HX5 HB5
  go_wp2_with fail
  refine (HSM.out w6).mono ?_
  rintro E w7 ⟨rfl, hb7⟩
  have HB7 := Lib.hid (HB6.out.trans (hb7.mono HB6.out.size))
  clear hb7 l0 l1 l2 l3
  go_wp2
  go_ret
  exact ⟨rfl, HB7.out⟩
end Go.Proofs.Ytmgcdhcidojdhaa
