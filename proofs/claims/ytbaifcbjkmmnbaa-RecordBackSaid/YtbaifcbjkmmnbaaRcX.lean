/-
  The law RecordPuts: walked.
-/
import Derived.Test.YtbaifcbjkmmnbaaRcA
import Derived.Test.YtbaifcbjkmmnbaaRcQ
import Derived.Test.YtbaifcbjkmmnbaaRecRow
set_option linter.unusedSimpArgs false
set_option linter.unusedVariables false
namespace Go.Proofs.Ytbaifcbjkmmnbaa
open Go.RowKit

set_option maxHeartbeats 1000000 in
theorem recPuts_many (k n r : Int) (a : Option Addr) (L c : Nat) (w : World) (h : 100 < L) :
    Calls Try.prog 3 #[.agg #[.int .i64 k, .int .i64 n, .int .i64 r, .slice a L c]] w fun e w' => e = .returned (.bool true) ∧ Below w.heap.size w w' := by
  have hX1 := heap_alloc_new w (.cells #[.int .i64 k, .int .i64 n, .int .i64 r, .slice a L c] 24)
  have HB1 := Lib.hid ((Below.refl w.heap.size w).alloc (Nat.le_refl _) (.cells #[.int .i64 k, .int .i64 n, .int .i64 r, .slice a L c] 24))
  obtain ⟨c0, c1, c2, c3⟩ := rec_reads hX1
  have g : (100 : Int) < (L : Int) := by omega
  clear hX1
  go_enter Try.func3, Try.ntmps3
  go_wp2_with fail
  refine (rcawake_any _).mono ?_
  rintro e w1 ⟨rfl, hb1⟩
  have HB2 := Lib.hid (HB1.out.trans (hb1.mono (by simp)))
  go_wp2
  go_ret
  exact ⟨rfl, HB2.out⟩

/-- What both Puts answer, as a pair. -/
theorem retPk_pair {k n r : Int} {ids : List Int} {w w' : World} {e : Ending} (h : RetPk k n r ids w e w') :
    e = .returned (.tuple #[.string ⟨(if okK k n r ids = true then putK k n r ids else []).toArray⟩, .int .i64 (if okK k n r ids = true then 0 else 2)]) ∧ Below w.heap.size w w' := by
  rcases h with ⟨⟨h1, h2⟩ | ⟨h1, h2⟩, hb⟩
  · rw [if_pos h1, if_pos h1]; exact ⟨h2, hb⟩
  · rw [h1, if_neg (by decide), if_neg (by decide)]; exact ⟨h2, hb⟩

set_option maxRecDepth 100000 in
set_option maxHeartbeats 4000000 in
theorem recPuts_few (k n r : Int) (a : Option Addr) (L c : Nat) (ids : List Int) (w : World) (hl : ids.length = L) (hL : ¬ 100 < L) (hr : IsRow .i64 w a L L ids) :
    Calls Try.prog 3 #[.agg #[.int .i64 k, .int .i64 n, .int .i64 r, .slice a L c]] w fun e w' => e = .returned (.bool true) ∧ Below w.heap.size w w' := by
  have hX1 := heap_alloc_new w (.cells #[.int .i64 k, .int .i64 n, .int .i64 r, .slice a L c] 24)
  have hB1 := (Below.refl w.heap.size w).alloc (Nat.le_refl _) (.cells #[.int .i64 k, .int .i64 n, .int .i64 r, .slice a L c] 24)
  obtain ⟨w1, hw1⟩ : ∃ w1, w.alloc (.cells #[.int .i64 k, .int .i64 n, .int .i64 r, .slice a L c] 24) = w1 := ⟨_, rfl⟩
  rw [hw1] at hX1 hB1
  obtain ⟨c0, c1, c2, c3⟩ := rec_reads hX1
  have g : ¬ (100 : Int) < (L : Int) := by omega
  have hLb : L ≤ 1000000000 := by omega
  have HX1 := Lib.hid hX1
  have HB1 := Lib.hid hB1
  have HP := Lib.hid (fun (W : World) (hW : Below w.heap.size w W) => (rcput_any k n r a L c ids W hl hLb (hr.below hW)).mono (fun e w' h => retPk_pair h))
  have HQ := Lib.hid (fun (W : World) (hW : Below w.heap.size w W) => (rdput_any k n r a L c ids W hl hLb (hr.below hW)).mono (fun e w' h => retPk_pair h))
  have HC := Lib.hid (fun (W : World) (hW : Below w.heap.size w W) => rccheck_any k n r a L c ids W hl hLb (hr.below hW) _ rfl)
  have HD := Lib.hid (fun (W : World) (hW : Below w.heap.size w W) => rdcheck_any k n r a L c ids W hl hLb (hr.below hW) _ rfl)
  generalize (if okK k n r ids = true then putK k n r ids else []) = S at HP HQ
  generalize (if okK k n r ids = true then (0 : Int) else 2) = x at HP HQ
  generalize okK k n r ids = q at HC HD
  clear hX1 hB1 hl hr hL hLb
  go_enter Try.func3, Try.ntmps3
  go_wp2_with fail
  try rw [hw1]
  refine (HP.out _ HB1.out).mono ?_
  rintro e w2 ⟨rfl, hb2⟩
  have HX2 := Lib.hid ((hb2.block w.heap.size (heap_lt HX1.out)).trans HX1.out)
  have HB2 := Lib.hid (HB1.out.trans (hb2.mono HB1.out.size))
  obtain ⟨d0, d1, d2, d3⟩ := rec_reads HX2.out
  clear c0 c1 c2 c3 hb2
  go_wp2_with fail
  refine (HQ.out _ HB2.out).mono ?_
  rintro e w3 ⟨rfl, hb3⟩
  have HX3 := Lib.hid ((hb3.block w.heap.size (heap_lt HX2.out)).trans HX2.out)
  have HB3 := Lib.hid (HB2.out.trans (hb3.mono HB2.out.size))
  obtain ⟨e0, e1, e2, e3⟩ := rec_reads HX3.out
  have G1 := regrown_at (w := w3) (fun W hW => HC.out W (HB3.out.trans (hW.mono HB3.out.size)))
  have G2 := regrown_at (w := w3) (fun W hW => HD.out W (HB3.out.trans (hW.mono HB3.out.size)))
  have G3 := regrown_at (w := w3) (fun W _ => rcawake_any W)
  have m0 := cell_regrown e0
  have m1 := cell_regrown e1
  have m2 := cell_regrown e2
  have m3 := cell_regrown e3
  have r0 : (S == S) = true := by simp
  have r1 : (x == x) = true := by simp
  have r2 : (q == q) = true := by simp
  clear d0 d1 d2 d3 hb3 e0 e1 e2 e3
  go_wp2_with fail
  refine wp_region_quiet_below follows_mixed (by kernel_rfl) ?_
  repeat (go_big_quiet_step (first | with_reducible exact G1 _ _ | with_reducible exact G2 _ _ | with_reducible exact G3 _ _))
  refine wpQuiet_nil ?_
  intro W6 hw6
  obtain ⟨⟨dq, osq⟩, rfl⟩ := hw6
  have b6 := below_regrown w3 dq osq
  generalize Go.Sort.grow (redrawn w3 dq) osq = w6 at b6 ⊢
  have HB6 := Lib.hid (HB3.out.trans (b6.mono HB3.out.size))
  clear b6 G1 G2 G3 m0 m1 m2 m3
  go_wp2
  go_ret
  exact ⟨rfl, HB6.out⟩

theorem recordPuts_walk (k n r : Int) (a : Option Addr) (L c : Nat) (zs : List Int) (w : World) (h : IsRow .i64 w a L c zs) :
    Calls Try.prog 3 #[.agg #[.int .i64 k, .int .i64 n, .int .i64 r, .slice a L c]] w fun e w' => e = .returned (.bool true) ∧ Below w.heap.size w w' := by
  by_cases hL : 100 < L
  · exact recPuts_many k n r a L c w hL
  · obtain ⟨ids, h1, h2⟩ := row_cut h
    exact recPuts_few k n r a L c ids w h1 hL h2
end Go.Proofs.Ytbaifcbjkmmnbaa
