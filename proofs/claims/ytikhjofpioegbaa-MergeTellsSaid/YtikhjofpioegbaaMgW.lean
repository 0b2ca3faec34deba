/-
  A merger in memory; (*Merger).Flush: walked.
-/
import Derived.Test.YtikhjofpioegbaaMgT
import Derived.Test.YtikhjofpioegbaaIntoB
import Derived.Test.YtikhjofpioegbaaOthG
set_option linter.unusedSimpArgs false
set_option linter.unusedVariables false
namespace Go.Proofs.Ytikhjofpioegbaa
open Go.RowKit

/-- A merger in block b: what it holds, and whether it does. -/
def IsM (w : World) (b : Nat) (y : Rv) (s : Bool) : Prop := w.heap[b]? = some (.cells #[.int .i64 y.k, .int .i64 y.n, .int .i64 y.r, .slice y.a y.len y.cap, .bool s] 41 (0, 0))
theorem IsM.lt {w : World} {b : Nat} {y : Rv} {s : Bool} (h : IsM w b y s) : b < w.heap.size := heap_lt h
theorem IsM.below {w w' : World} {b : Nat} {y : Rv} {s : Bool} (h : IsM w b y s) (hb : Below w.heap.size w w') : IsM w' b y s := (hb.block _ h.lt).trans h
theorem put_m {w : World} {r : Nat} {T : TypeId} {u0 u1 u2 u3 u4 : Value} (h : w.heap[r]? = some (.cells #[u0, u1, u2, u3, u4] T (0, 0))) (x0 x1 x2 x3 x4 : Value) :
    (((((w.setCell ⟨r, 0, none⟩ x0).setCell ⟨r, 1, none⟩ x1).setCell ⟨r, 2, none⟩ x2).setCell ⟨r, 3, none⟩ x3).setCell ⟨r, 4, none⟩ x4).heap[r]? = some (.cells #[x0, x1, x2, x3, x4] T (0, 0)) := by
  rw [put_heap (put_heap (put_heap (put_heap (put_heap h x0) x1) x2) x3) x4]; rfl
theorem put_m4 {w : World} {r : Nat} {T : TypeId} {u0 u1 u2 u3 u4 : Value} (h : w.heap[r]? = some (.cells #[u0, u1, u2, u3, u4] T (0, 0))) (x0 x1 x2 x3 : Value) :
    ((((w.setCell ⟨r, 0, none⟩ x0).setCell ⟨r, 1, none⟩ x1).setCell ⟨r, 2, none⟩ x2).setCell ⟨r, 3, none⟩ x3).heap[r]? = some (.cells #[x0, x1, x2, x3, u4] T (0, 0)) := by
  rw [put_heap (put_heap (put_heap (put_heap h x0) x1) x2) x3]; rfl
theorem m_reads {w : World} {r : Nat} {T : TypeId} {x0 x1 x2 x3 x4 : Value} (h : w.heap[r]? = some (.cells #[x0, x1, x2, x3, x4] T (0, 0))) :
    w.cell? ⟨r, 0, none⟩ = some x0 ∧ w.cell? ⟨r, 1, none⟩ = some x1 ∧ w.cell? ⟨r, 2, none⟩ = some x2 ∧ w.cell? ⟨r, 3, none⟩ = some x3 ∧ w.cell? ⟨r, 4, none⟩ = some x4 := by
  refine ⟨?_, ?_, ?_, ?_, ?_⟩ <;> rw [Lib.cell_of_heap h] <;> rfl
theorem m_free {w : World} {r : Nat} {T : TypeId} {x0 x1 x2 x3 x4 : Value} (h : w.heap[r]? = some (.cells #[x0, x1, x2, x3, x4] T (0, 0))) :
    w.frozen? ⟨r, 0, none⟩ = false ∧ w.frozen? ⟨r, 1, none⟩ = false ∧ w.frozen? ⟨r, 2, none⟩ = false ∧ w.frozen? ⟨r, 3, none⟩ = false ∧ w.frozen? ⟨r, 4, none⟩ = false :=
  ⟨Lib.frozen_of_heap h 0, Lib.frozen_of_heap h 1, Lib.frozen_of_heap h 2, Lib.frozen_of_heap h 3, Lib.frozen_of_heap h 4⟩
theorem into5 (w : World) (b : Nat) (x0 x1 x2 x3 x4 : Value) : Into b w (((((w.setCell ⟨b, 0, none⟩ x0).setCell ⟨b, 1, none⟩ x1).setCell ⟨b, 2, none⟩ x2).setCell ⟨b, 3, none⟩ x3).setCell ⟨b, 4, none⟩ x4) :=
  (((((Into.refl b w).set 0 x0).set 1 x1).set 2 x2).set 3 x3).set 4 x4
theorem into4 (w : World) (b : Nat) (x0 x1 x2 x3 : Value) : Into b w ((((w.setCell ⟨b, 0, none⟩ x0).setCell ⟨b, 1, none⟩ x1).setCell ⟨b, 2, none⟩ x2).setCell ⟨b, 3, none⟩ x3) :=
  ((((Into.refl b w).set 0 x0).set 1 x1).set 2 x2).set 3 x3
theorem But.into {base b : Nat} {w w' : World} (h : Into b w w') : But base b w w' := ⟨h.os, h.tape, h.output, Nat.le_of_eq h.size.symm, fun k _ hk => h.block k hk⟩

set_option maxRecDepth 100000 in
set_option maxHeartbeats 1000000 in
theorem mgflush_nil (w : World) :
    Calls Try.prog 21 #[.pointer none] w fun e w' => e = .returned (.tuple #[.agg #[.int .i64 0, .int .i64 0, .int .i64 0, .slice none 0 0], .bool false]) ∧ Below w.heap.size w w' := by
  obtain ⟨w1, hw1⟩ : ∃ w1, w.alloc (.cells #[.int .i64 0, .int .i64 0, .int .i64 0, .slice none 0 0] 24) = w1 := ⟨_, rfl⟩
  have hX0 : w1.heap[w.heap.size]? = some (.cells #[.int .i64 0, .int .i64 0, .int .i64 0, .slice none 0 0] 24 (0, 0)) := by rw [← hw1]; exact heap_alloc_new w _
  have hB1 : Below w.heap.size w w1 := by rw [← hw1]; exact (Below.refl w.heap.size w).alloc (Nat.le_refl _) _
  obtain ⟨f0, f1, f2, f3⟩ := rec_free hX0
  obtain ⟨j0, j1, j2, j3⟩ := rec_reads hX0
  have HF := Lib.hid (put_rec hX0 (.int .i64 0) (.int .i64 0) (.int .i64 0) (.slice none 0 0))
  have HBe := Lib.hid (below_rec hB1 (Nat.le_refl _) (.int .i64 0) (.int .i64 0) (.int .i64 0) (.slice none 0 0))
  clear hX0 hB1
  go_enter Try.func21, Try.ntmps21
  go_wp2
  try rw [hw1]
  obtain ⟨i0, i1, i2, i3⟩ := rec_reads HF.out
  refine bodyPost_ret (v := .tuple #[.agg #[.int .i64 0, .int .i64 0, .int .i64 0, .slice none 0 0], .bool false]) (by simp [results, Try.results21, go_sem, i0, i1, i2, i3]) rfl ?_
  exact ⟨rfl, HBe.out⟩

set_option maxRecDepth 100000 in
set_option maxHeartbeats 2000000 in
theorem mgflush_any {w : World} {b : Nat} (k n r : Int) (a : Option Addr) (len cap : Nat) (s : Bool) (h : IsM w b ⟨k, n, r, a, len, cap⟩ s) :
    Calls Try.prog 21 #[.pointer (some ⟨b, 0, none⟩)] w fun e w' => e = .returned (.tuple #[.agg #[.int .i64 k, .int .i64 n, .int .i64 r, .slice a len cap], .bool s]) ∧ IsM w' b rv0 false ∧ But w.heap.size b w w' := by
  have hlt := h.lt
  unfold IsM at h
  dsimp only at h
  obtain ⟨w1, hw1⟩ : ∃ w1, w.alloc (.cells #[.int .i64 0, .int .i64 0, .int .i64 0, .slice none 0 0] 24) = w1 := ⟨_, rfl⟩
  have hX0 : w1.heap[w.heap.size]? = some (.cells #[.int .i64 0, .int .i64 0, .int .i64 0, .slice none 0 0] 24 (0, 0)) := by rw [← hw1]; exact heap_alloc_new w _
  have hB1 : Below w.heap.size w w1 := by rw [← hw1]; exact (Below.refl w.heap.size w).alloc (Nat.le_refl _) _
  have hs1 : w1.heap.size = w.heap.size + 1 := by rw [← hw1]; simp
  have h1 := (hB1.block _ hlt).trans h
  obtain ⟨c0, c1, c2, c3, c4⟩ := m_reads h1
  obtain ⟨w2, hw2⟩ : ∃ w2, w1.alloc (.cells #[.int .i64 k, .int .i64 n, .int .i64 r, .slice a len cap, .bool s] 41) = w2 := ⟨_, rfl⟩
  have hD2 : w2.heap[w1.heap.size]? = some (.cells #[.int .i64 k, .int .i64 n, .int .i64 r, .slice a len cap, .bool s] 41 (0, 0)) := by rw [← hw2]; exact heap_alloc_new w1 _
  have hB2 : Below w1.heap.size w1 w2 := by rw [← hw2]; exact (Below.refl w1.heap.size w1).alloc (Nat.le_refl _) _
  rw [hs1] at hD2
  have h2 := (hB2.block _ (by omega)).trans h1
  have hX2 := (hB2.block _ (by omega)).trans hX0
  obtain ⟨d0, d1, d2, d3, d4⟩ := m_reads h2
  obtain ⟨g0, g1, g2, g3, g4⟩ := m_free h2
  have hI := into5 w2 b (.int .i64 0) (.int .i64 0) (.int .i64 0) (.slice none 0 0) (.bool false)
  have h3 := put_m h2 (.int .i64 0) (.int .i64 0) (.int .i64 0) (.slice none 0 0) (.bool false)
  have hD3 := (hI.block _ (by omega)).trans hD2
  have hX3 := (hI.block _ (by omega)).trans hX2
  have HBU := Lib.hid (((But.of hB1 (b := b)).trans (But.of (hB2.mono (by omega)))).trans (But.into (base := w.heap.size) hI))
  obtain ⟨w3, hw3⟩ : ∃ w3, (((((w2.setCell ⟨b, 0, none⟩ (.int .i64 0)).setCell ⟨b, 1, none⟩ (.int .i64 0)).setCell ⟨b, 2, none⟩ (.int .i64 0)).setCell ⟨b, 3, none⟩ (.slice none 0 0)).setCell ⟨b, 4, none⟩ (.bool false)) = w3 := ⟨_, rfl⟩
  rw [hw3] at h3 hD3 hX3 HBU
  obtain ⟨e0, e1, e2, e3, e4⟩ := m_reads hD3
  obtain ⟨f0, f1, f2, f3⟩ := rec_free hX3
  obtain ⟨j0, j1, j2, j3⟩ := rec_reads hX3
  have HX3 := Lib.hid hX3
  have H3 := Lib.hid h3
  have HF := Lib.hid (put_rec hX3 (.int .i64 k) (.int .i64 n) (.int .i64 r) (.slice a len cap))
  have HN := Lib.hid (show b ≠ w.heap.size by omega)
  clear h h1 h2 h3 hD2 hD3 hX0 hX2 hX3 hI hB1 hB2 hlt
  go_enter Try.func21, Try.ntmps21
  go_wp2_with fail
  go_region
  all_goals
    go_wp2
    obtain ⟨i0, i1, i2, i3⟩ := rec_reads HF.out
    refine bodyPost_ret (v := .tuple #[.agg #[.int .i64 k, .int .i64 n, .int .i64 r, .slice a len cap], .bool s]) (by simp [results, Try.results21, go_sem, i0, i1, i2, i3]) rfl ?_
    refine ⟨rfl, ?_, ?_⟩
    · exact ((into4 w3 w.heap.size _ _ _ _).block _ HN.out).trans H3.out
    · exact HBU.out.trans (But.of (below_rec (B := w.heap.size) (w := w3) (w' := w3) (Below.refl _ _) (Nat.le_refl _) _ _ _ _).drew)
end Go.Proofs.Ytikhjofpioegbaa
