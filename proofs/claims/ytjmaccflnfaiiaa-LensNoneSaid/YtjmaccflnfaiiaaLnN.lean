/-
  The document's Next of a lens's state: walked.
-/
import Derived.Test.YtjmaccflnfaiiaaBn8
import Derived.Test.YtjmaccflnfaiiaaMgR
import Derived.Test.YtjmaccflnfaiiaaRcG
import Derived.Test.YtjmaccflnfaiiaaBn4
import Derived.Deep.RegionWith
import Derived.Deep.CutRange
set_option linter.unusedSimpArgs false
set_option linter.unusedVariables false
namespace Go.Proofs.Ytjmaccflnfaiiaa
open Go.RowKit

/-- A state's box and a zero result's behind it. -/
def LnBx (W w : World) (X : Array Value) : Prop := w.heap[W.heap.size]? = some (.cells X 31 (0, 0)) ∧ w.heap[W.heap.size + 1]? = some (.cells #[.slice none 0 0, .string ⟨#[]⟩, .bool false, .int .i64 0] 31 (0, 0)) ∧ Below W.heap.size W w
theorem LnBx.below {W w w' : World} {X : Array Value} (h : LnBx W w X) (hb : Below w.heap.size w w') : LnBx W w' X :=
  ⟨(hb.block _ (heap_lt h.1)).trans h.1, (hb.block _ (heap_lt h.2.1)).trans h.2.1, h.2.2.trans (hb.mono h.2.2.size)⟩
theorem LnBx.put {W w : World} {X : Array Value} (h : LnBx W w X) (i : Nat) (v : Value) : LnBx W (w.setCell ⟨W.heap.size, i, none⟩ v) (X.setIfInBounds i v) :=
  ⟨put_heap h.1 v, (put_other (by omega) v).trans h.2.1, h.2.2.setCell (p := ⟨W.heap.size, i, none⟩) (Nat.le_refl _) _⟩

theorem LnBx.below_of {W w w' : World} {X : Array Value} (h : LnBx W w X) (hb : Below w.heap.size w w') : LnBx W w' X := h.below hb
theorem cells_lt {B : Nat} {w w' : World} {b i : Nat} {v : Value} (h : w.cell? ⟨b, i, none⟩ = some v) (hb : Below B w w') (hl : b < B) : w'.cell? ⟨b, i, none⟩ = some v := by
  rw [hb.cell (p := ⟨b, i, none⟩) hl]; exact h
/-- Records whose block is as it was. -/
theorem RecAt.far {w w' : World} {a : Option Addr} {rs : List Rv} (h : RecAt w a rs) (hk : ∀ g off sp, a = some ⟨g, off, sp⟩ → w'.heap[g]? = w.heap[g]?) : RecAt w' a rs := by
  rcases h with h | ⟨b, off, ha, hc⟩
  · exact .inl h
  · have hb := hk b off none ha
    have key : ∀ j v, w.cell? ⟨b, j, none⟩ = some v → w'.cell? ⟨b, j, none⟩ = some v := fun j v h => by
      unfold World.cell? at h ⊢
      rw [hb]
      exact h
    refine .inr ⟨b, off, ha, fun i x hx => ?_⟩
    obtain ⟨c0, c1, c2, c3⟩ := hc i x hx
    exact ⟨key _ _ c0, key _ _ c1, key _ _ c2, key _ _ c3⟩

theorem lninto4 (w : World) (b : Nat) (x0 x1 x2 x3 : Value) : Into b w ((((w.setCell ⟨b, 0, none⟩ x0).setCell ⟨b, 1, none⟩ x1).setCell ⟨b, 2, none⟩ x2).setCell ⟨b, 3, none⟩ x3) :=
  ((((Into.refl b w).set _ x0).set _ x1).set _ x2).set _ x3
/-- Next's answer. -/
def RetLn (s : LnS) (W : World) (e : Ending) (W' : World) : Prop := ∃ a c, e = .returned (.tuple #[.agg #[.slice a (lnNext s).1.read.length c, .string ⟨(lnNext s).1.rest.toArray⟩, .bool (lnNext s).1.closed, .int .i64 (lnNext s).1.e], .bool (lnNext s).2]) ∧ LnAt W' (lnNext s).1.read a (lnNext s).1.read.length c ∧ Below W.heap.size W W'
theorem RetLn.of {s s' : LnS} {β : Bool} {a : Option Addr} {m c : Nat} {W W' : World} (hn : lnNext s = (s', β)) (ha : LnAt W' s'.read a m c) (hb : Below W.heap.size W W') : RetLn s W (.returned (.tuple #[.agg #[.slice a m c, .string ⟨s'.rest.toArray⟩, .bool s'.closed, .int .i64 s'.e], .bool β])) W' := by
  unfold RetLn
  rw [hn]
  obtain ⟨h1, h2⟩ := ha
  subst h1
  exact ⟨a, c, rfl, ⟨rfl, h2⟩, hb⟩
/-- The cells of records that are read. -/
theorem RecAt.cells {w : World} {b off : Nat} {rs : List Rv} (h : RecAt w (some ⟨b, off, none⟩) rs) : ∀ j u, (rvCells rs)[j]? = some u → w.cell? ((⟨b, off, none⟩ : Addr).add j) = some u := by
  intro j u hj
  have hlt : j < rs.length * 4 := by
    have := (List.getElem?_eq_some_iff.1 hj).1
    rw [rvCells_length] at this
    exact this
  obtain ⟨b', off', x, e, hx, c0, c1, c2, c3⟩ := h.get (i := j / 4) (by omega)
  injection e with e
  injection e with e1 e2 _
  subst e1 e2
  have hr := rvCells_at rs (j / 4) x hx (j % 4) (by omega)
  rw [show j / 4 * 4 + j % 4 = j by omega, hj] at hr
  have e3 : (⟨b, off, none⟩ : Addr).add j = ⟨b, off + j / 4 * 4 + j % 4, none⟩ := by
    rw [addPlain]
    congr 1
    omega
  rw [e3]
  have : j % 4 = 0 ∨ j % 4 = 1 ∨ j % 4 = 2 ∨ j % 4 = 3 := by omega
  rcases this with q | q | q | q <;> rw [q] at hr ⊢
  · rw [hr]; exact c0
  · rw [hr]; exact c1
  · rw [hr]; exact c2
  · rw [hr]; exact c3

set_option maxRecDepth 100000 in
set_option maxHeartbeats 4000000 in
theorem lnnext_stop {W : World} (L : List Rn) (t : List UInt8) (cl : Bool) (y : Int) {a : Option Addr} {m c : Nat} (h : LnAt W L a m c) (hm : m ≤ 1000) (ht : t.length ≤ 1000000000) (hw : y ≠ 0 ∨ (lnLast L).k = 6) :
    Calls Try.prog 12 #[.agg #[.slice a m c, .string ⟨t.toArray⟩, .bool cl, .int .i64 y]] W (RetLn ⟨L, t, cl, y⟩ W) := by
  obtain ⟨w1, hw1⟩ : ∃ w1, W.alloc (.cells #[.slice a m c, .string ⟨t.toArray⟩, .bool cl, .int .i64 y] 31) = w1 := ⟨_, rfl⟩
  have hX1 : w1.heap[W.heap.size]? = some (.cells #[.slice a m c, .string ⟨t.toArray⟩, .bool cl, .int .i64 y] 31 (0, 0)) := by rw [← hw1]; exact heap_alloc_new W _
  have hB1 : Below W.heap.size W w1 := by rw [← hw1]; exact (Below.refl W.heap.size W).alloc (Nat.le_refl _) _
  have hs1 : w1.heap.size = W.heap.size + 1 := by rw [← hw1]; simp
  obtain ⟨w2, hw2⟩ : ∃ w2, w1.alloc (.cells #[.slice none 0 0, .string ⟨#[]⟩, .bool false, .int .i64 0] 31) = w2 := ⟨_, rfl⟩
  have hR2 : w2.heap[w1.heap.size]? = some (.cells #[.slice none 0 0, .string ⟨#[]⟩, .bool false, .int .i64 0] 31 (0, 0)) := by rw [← hw2]; exact heap_alloc_new w1 _
  have hB2' : Below w1.heap.size w1 w2 := by rw [← hw2]; exact (Below.refl w1.heap.size w1).alloc (Nat.le_refl _) _
  have hB2 : Below W.heap.size W w2 := hB1.trans (hB2'.mono hB1.size)
  have hX2 := (hB2'.block _ (by omega)).trans hX1
  rw [hs1] at hR2
  have HX := Lib.hid (show LnBx W w2 _ from ⟨hX2, hR2, hB2⟩)
  obtain ⟨c0, c1, c2, c3⟩ := rec_reads hX2
  obtain ⟨f0, f1, f2, f3⟩ := rec_free hR2
  obtain ⟨j0, j1, j2, j3⟩ := rec_reads hR2
  clear hX1 hB1 hR2 hB2' hB2 hX2
  by_cases hy : y = 0
  rotate_left
  · have HN := Lib.hid (ln_wrong (s := ⟨L, t, cl, y⟩) hy)
    have HF := Lib.hid (put_rec HX.out.2.1 (.slice a m c) (.string ⟨t.toArray⟩) (.bool cl) (.int .i64 y))
    have HBe := Lib.hid (below_rec HX.out.2.2 (r := W.heap.size + 1) (by omega) (.slice a m c) (.string ⟨t.toArray⟩) (.bool cl) (.int .i64 y))
    have gy : (y == 0) = false := by simpa using hy
    have gy2 : (y != 0) = true := by simpa using hy
    have HA := Lib.hid (h.below HBe.out)
    clear hy hw h HX
    go_enter Try.func12, Try.ntmps12
    go_wp2
    try rw [hw1]
    try rw [hw2]
    obtain ⟨i0, i1, i2, i3⟩ := rec_reads HF.out
    refine bodyPost_ret (v := .tuple #[.agg #[.slice a m c, .string ⟨t.toArray⟩, .bool cl, .int .i64 y], .bool false]) (by simp [results, Try.results12, go_sem, i0, i1, i2, i3]) rfl ?_
    exact RetLn.of HN.out HA.out HBe.out
  subst hy
  have h6 : (lnLast L).k = 6 := hw.elim (fun h => absurd rfl h) (fun h => h)
  have hed := lnended_ref (W := w2) ⟨t.toArray⟩ cl 0 (h.below HX.out.2.2) (by omega)
  rw [decide_eq_true h6] at hed
  have HED := Lib.hid hed
  have HAt := Lib.hid h
  by_cases h0 : t.length = 0
  · have HN := Lib.hid (ln_end (s := ⟨L, t, cl, 0⟩) rfl h6 h0)
    have S1 := Lib.hid (bsize t)
    have g0 : ¬ (0 : Int) < (t.length : Int) := by omega
    clear hed hw h h6
    go_enter Try.func12, Try.ntmps12
    go_wp2_with fail
    try rw [hw1]
    try rw [hw2]
    refine HED.out.mono ?_
    rintro e w3 ⟨rfl, hb⟩
    have HX3 := Lib.hid (HX.out.below hb)
    obtain ⟨c0, c1, c2, c3⟩ := rec_reads HX3.out.1
    obtain ⟨f0, f1, f2, f3⟩ := rec_free HX3.out.2.1
    obtain ⟨j0, j1, j2, j3⟩ := rec_reads HX3.out.2.1
    have HF := Lib.hid (put_rec HX3.out.2.1 (.slice a m c) (.string ⟨t.toArray⟩) (.bool cl) (.int .i64 0))
    have HBe := Lib.hid (below_rec HX3.out.2.2 (r := W.heap.size + 1) (by omega) (.slice a m c) (.string ⟨t.toArray⟩) (.bool cl) (.int .i64 0))
    have HA := Lib.hid (HAt.out.below HBe.out)
    clear hb hw1 hw2 HX HED
    go_wp2
    obtain ⟨i0, i1, i2, i3⟩ := rec_reads HF.out
    refine bodyPost_ret (v := .tuple #[.agg #[.slice a m c, .string ⟨t.toArray⟩, .bool cl, .int .i64 0], .bool false]) (by simp [results, Try.results12, go_sem, i0, i1, i2, i3]) rfl ?_
    exact RetLn.of HN.out HA.out HBe.out
  · have HN := Lib.hid (ln_more (s := ⟨L, t, cl, 0⟩) rfl h6 h0)
    have S1 := Lib.hid (bsize t)
    have g0 : (0 : Int) < (t.length : Int) := by omega
    clear hed hw h h6 h0
    go_enter Try.func12, Try.ntmps12
    go_wp2_with fail
    try rw [hw1]
    try rw [hw2]
    refine HED.out.mono ?_
    rintro e w3 ⟨rfl, hb⟩
    have HX3 := Lib.hid (HX.out.below hb)
    obtain ⟨c0, c1, c2, c3⟩ := rec_reads HX3.out.1
    have HFL := Lib.hid (lnfail_any w3 a m c ⟨t.toArray⟩ cl 0 20)
    clear hb hw1 hw2 HX HED f0 f1 f2 f3 j0 j1 j2 j3
    go_wp2_with fail
    refine HFL.out.mono ?_
    rintro e w4 ⟨rfl, hb⟩
    have HX4 := Lib.hid (HX3.out.below hb)
    obtain ⟨f0, f1, f2, f3⟩ := rec_free HX4.out.2.1
    obtain ⟨j0, j1, j2, j3⟩ := rec_reads HX4.out.2.1
    have HF := Lib.hid (put_rec HX4.out.2.1 (.slice a m c) (.string ⟨t.toArray⟩) (.bool cl) (.int .i64 20))
    have HBe := Lib.hid (below_rec HX4.out.2.2 (r := W.heap.size + 1) (by omega) (.slice a m c) (.string ⟨t.toArray⟩) (.bool cl) (.int .i64 20))
    have HA := Lib.hid (HAt.out.below HBe.out)
    clear hb HX3 HFL c0 c1 c2 c3
    go_wp2
    obtain ⟨i0, i1, i2, i3⟩ := rec_reads HF.out
    refine bodyPost_ret (v := .tuple #[.agg #[.slice a m c, .string ⟨t.toArray⟩, .bool cl, .int .i64 20], .bool false]) (by simp [results, Try.results12, go_sem, i0, i1, i2, i3]) rfl ?_
    exact RetLn.of HN.out HA.out HBe.out
end Go.Proofs.Ytjmaccflnfaiiaa
