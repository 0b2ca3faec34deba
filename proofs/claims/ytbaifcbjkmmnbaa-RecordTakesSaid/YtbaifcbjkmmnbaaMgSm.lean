/-
  The document's Same of two records of any sign: walked.
-/
import Derived.Test.YtbaifcbjkmmnbaaRecC
import Derived.Test.YtbaifcbjkmmnbaaSameI
import Derived.Deep.RegionWith
set_option linter.unusedSimpArgs false
set_option linter.unusedVariables false
namespace Go.Proofs.Ytbaifcbjkmmnbaa
open Go.RowKit


set_option maxRecDepth 100000 in
set_option maxHeartbeats 4000000 in
theorem mgsame_any (k n r : Int) (len : Nat) (a b : Option Addr) (ca cb : Nat) (zs : List Int) (w : World) (hl : len ≤ 1000000) (ha : IsRow .i64 w a len len zs) (hb : IsRow .i64 w b len len zs) :
    Calls Try.prog 13 #[.agg #[.int .i64 k, .int .i64 n, .int .i64 r, .slice a len ca], .agg #[.int .i64 k, .int .i64 n, .int .i64 r, .slice b len cb]] w fun e w' => e = .returned (.bool true) ∧ Below w.heap.size w w' := by
  have b1 := (Below.refl w.heap.size w).alloc (Nat.le_refl _) (.cells #[.int .i64 k, .int .i64 n, .int .i64 r, .slice a len ca] 24)
  have x1 := heap_alloc_new w (.cells #[.int .i64 k, .int .i64 n, .int .i64 r, .slice a len ca] 24)
  obtain ⟨w1, hw1⟩ : ∃ w1, w.alloc (.cells #[.int .i64 k, .int .i64 n, .int .i64 r, .slice a len ca] 24) = w1 := ⟨_, rfl⟩
  rw [hw1] at b1 x1
  have z1 : w1.heap.size = w.heap.size + 1 := by rw [← hw1]; simp
  have b2 := b1.alloc b1.size (.cells #[.int .i64 k, .int .i64 n, .int .i64 r, .slice b len cb] 24)
  have x2 := heap_alloc_new w1 (.cells #[.int .i64 k, .int .i64 n, .int .i64 r, .slice b len cb] 24)
  have y1 : (w1.alloc (.cells #[.int .i64 k, .int .i64 n, .int .i64 r, .slice b len cb] 24)).heap[w.heap.size]? = some (.cells #[.int .i64 k, .int .i64 n, .int .i64 r, .slice a len ca] 24 (0, 0)) :=
    (((Below.refl w1.heap.size w1).alloc (Nat.le_refl _) _).block _ (heap_lt x1)).trans x1
  obtain ⟨w2, hw2⟩ : ∃ w2, w1.alloc (.cells #[.int .i64 k, .int .i64 n, .int .i64 r, .slice b len cb] 24) = w2 := ⟨_, rfl⟩
  rw [hw2] at b2 x2 y1
  rw [z1] at x2
  obtain ⟨c0, c1, c2, c3⟩ := rec_reads y1
  obtain ⟨d0, d1, d2, d3⟩ := rec_reads x2
  have HI := Lib.hid (isame_any a b len ca cb len len zs w2 (by omega) (ha.below b2) (hb.below b2))
  clear ha hb x1 x2 y1 b1
  go_enter Try.func13, Try.ntmps13
  go_wp2_with fail
  refine HI.out.mono ?_
  rintro E w3 ⟨rfl, hb3⟩
  have d4 := b2.trans (hb3.mono b2.size)
  go_wp2
  go_ret
  exact ⟨rfl, d4⟩

end Go.Proofs.Ytbaifcbjkmmnbaa
