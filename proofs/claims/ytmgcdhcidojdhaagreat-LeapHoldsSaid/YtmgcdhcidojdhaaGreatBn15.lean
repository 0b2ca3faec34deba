/-
  Texts put together: PbSm.
-/
import Derived.Test.YtmgcdhcidojdhaaGreatBn4
import Derived.Test.YtmgcdhcidojdhaaGreatBn13
import Derived.Test.YtmgcdhcidojdhaaGreatPbW
set_option linter.unusedSimpArgs false
set_option linter.unusedVariables false
namespace Go.Proofs.YtmgcdhcidojdhaaGreat
open Go.RowKit

set_option maxRecDepth 100000 in
set_option maxHeartbeats 4000000 in
theorem rsame_any (R : EvR) (a b : Option Addr) (ca cb : Nat) (w : World) (hl : R.ids.length ≤ 1000000) (ha : IsRow .i64 w a R.ids.length R.ids.length R.ids) (hb : IsRow .i64 w b R.ids.length R.ids.length R.ids) :
    Calls Tryz.prog 24 #[.agg #[.int .i64 (R.k : Int), .int .i64 (R.n : Int), .int .i64 (R.r : Int), .slice a R.ids.length ca], .agg #[.int .i64 (R.k : Int), .int .i64 (R.n : Int), .int .i64 (R.r : Int), .slice b R.ids.length cb]] w fun e w' => e = .returned (.bool true) ∧ Below w.heap.size w w' := by
  obtain ⟨k, n, r, ids⟩ := R
  dsimp only at *
  generalize hL : ids.length = L at *
  have b1 := (Below.refl w.heap.size w).alloc (Nat.le_refl _) (.cells #[.int .i64 (k : Int), .int .i64 (n : Int), .int .i64 (r : Int), .slice a L ca] 45)
  have x1 := heap_alloc_new w (.cells #[.int .i64 (k : Int), .int .i64 (n : Int), .int .i64 (r : Int), .slice a L ca] 45)
  obtain ⟨w1, hw1⟩ : ∃ w1, w.alloc (.cells #[.int .i64 (k : Int), .int .i64 (n : Int), .int .i64 (r : Int), .slice a L ca] 45) = w1 := ⟨_, rfl⟩
  rw [hw1] at b1 x1
  have z1 : w1.heap.size = w.heap.size + 1 := by rw [← hw1]; simp
  have b2 := b1.alloc b1.size (.cells #[.int .i64 (k : Int), .int .i64 (n : Int), .int .i64 (r : Int), .slice b L cb] 45)
  have x2 := heap_alloc_new w1 (.cells #[.int .i64 (k : Int), .int .i64 (n : Int), .int .i64 (r : Int), .slice b L cb] 45)
  have y1 : (w1.alloc (.cells #[.int .i64 (k : Int), .int .i64 (n : Int), .int .i64 (r : Int), .slice b L cb] 45)).heap[w.heap.size]? = some (.cells #[.int .i64 (k : Int), .int .i64 (n : Int), .int .i64 (r : Int), .slice a L ca] 45 (0, 0)) :=
    (((Below.refl w1.heap.size w1).alloc (Nat.le_refl _) _).block _ (heap_lt x1)).trans x1
  obtain ⟨w2, hw2⟩ : ∃ w2, w1.alloc (.cells #[.int .i64 (k : Int), .int .i64 (n : Int), .int .i64 (r : Int), .slice b L cb] 45) = w2 := ⟨_, rfl⟩
  rw [hw2] at b2 x2 y1
  rw [z1] at x2
  obtain ⟨c0, c1, c2, c3⟩ := rec_reads y1
  obtain ⟨d0, d1, d2, d3⟩ := rec_reads x2
  have HI := Lib.hid (isame_any a b L ca cb L L ids w2 (by omega) (ha.below b2) (hb.below b2))
  clear ha hb x1 x2 y1 b1
  go_enter Tryz.func24, Tryz.ntmps24
  go_wp2_with fail
  refine HI.out.mono ?_
  rintro E w3 ⟨rfl, hb3⟩
  have d4 := b2.trans (hb3.mono b2.size)
  go_wp2
  go_ret
  exact ⟨rfl, d4⟩

end Go.Proofs.YtmgcdhcidojdhaaGreat
