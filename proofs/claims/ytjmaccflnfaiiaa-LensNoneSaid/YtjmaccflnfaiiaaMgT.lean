/-
  merge.repeats, joins, Two: walked.
-/
import Derived.Test.YtjmaccflnfaiiaaBn5
import Derived.Test.YtjmaccflnfaiiaaBn6
set_option linter.unusedSimpArgs false
set_option linter.unusedVariables false
namespace Go.Proofs.Ytjmaccflnfaiiaa
open Go.RowKit

set_option maxRecDepth 100000 in
set_option maxHeartbeats 1000000 in
theorem mgrep_any (k n r : Int) (a : Option Addr) (len cap : Nat) (w : World) (q : Bool) (hq : decide (1 ≤ k ∧ k ≤ 3) = q) :
    Calls Try.prog 55 #[.agg #[.int .i64 k, .int .i64 n, .int .i64 r, .slice a len cap]] w fun e w' => e = .returned (.bool q) ∧ Below w.heap.size w w' := by
  have hX := heap_alloc_new w (.cells #[.int .i64 k, .int .i64 n, .int .i64 r, .slice a len cap] 34)
  obtain ⟨c0, c1, c2, c3⟩ := rec_reads hX
  have HB : Hid (Below w.heap.size w (w.alloc (.cells #[.int .i64 k, .int .i64 n, .int .i64 r, .slice a len cap] 34))) := Lib.hid ((Below.refl _ _).alloc (Nat.le_refl _) _)
  clear hX
  by_cases h1 : k = 1
  · subst h1
    obtain rfl : q = true := by rw [← hq]; decide
    go_enter Try.func55, Try.ntmps55
    go_wp2
    go_ret
    exact ⟨rfl, HB.out⟩
  · by_cases h2 : k = 2
    · subst h2
      obtain rfl : q = true := by rw [← hq]; decide
      go_enter Try.func55, Try.ntmps55
      go_wp2
      go_ret
      exact ⟨rfl, HB.out⟩
    · by_cases h3 : k = 3
      · subst h3
        obtain rfl : q = true := by rw [← hq]; decide
        go_enter Try.func55, Try.ntmps55
        go_wp2
        go_ret
        exact ⟨rfl, HB.out⟩
      · have g1 : (k == 1) = false := by simp [h1]
        have g2 : (k == 2) = false := by simp [h2]
        have g3 : (k == 3) = false := by simp [h3]
        obtain rfl : q = false := by rw [← hq]; exact decide_eq_false (by omega)
        clear hq
        go_enter Try.func55, Try.ntmps55
        go_wp2
        go_ret
        exact ⟨rfl, HB.out⟩

/-- Are there records with which one can be put together? -/
def mjoinB (k r : Int) (len : Nat) : Bool := decide (1 ≤ k ∧ k ≤ 3) && (decide (len = 0) && decide (1 ≤ r))

set_option maxRecDepth 100000 in
set_option maxHeartbeats 1000000 in
theorem mgjoin_any (k n r : Int) (a : Option Addr) (len cap : Nat) (w : World) (q : Bool) (hq : mjoinB k r len = q) :
    Calls Try.prog 49 #[.agg #[.int .i64 k, .int .i64 n, .int .i64 r, .slice a len cap]] w fun e w' => e = .returned (.bool q) ∧ Below w.heap.size w w' := by
  have hX := heap_alloc_new w (.cells #[.int .i64 k, .int .i64 n, .int .i64 r, .slice a len cap] 34)
  obtain ⟨c0, c1, c2, c3⟩ := rec_reads hX
  have HX := Lib.hid hX
  have HB : Hid (Below w.heap.size w (w.alloc (.cells #[.int .i64 k, .int .i64 n, .int .i64 r, .slice a len cap] 34))) := Lib.hid ((Below.refl _ _).alloc (Nat.le_refl _) _)
  obtain ⟨w1, hw1⟩ : ∃ w1, w.alloc (.cells #[.int .i64 k, .int .i64 n, .int .i64 r, .slice a len cap] 34) = w1 := ⟨_, rfl⟩
  rw [hw1] at HX HB c0 c1 c2 c3
  clear hX
  obtain ⟨p, hp⟩ : ∃ p, decide (1 ≤ k ∧ k ≤ 3) = p := ⟨_, rfl⟩
  have HP := Lib.hid (mgrep_any k n r a len cap w1 p hp)
  unfold mjoinB at hq
  rw [hp] at hq
  clear hp
  cases p with
  | false =>
    obtain rfl : q = false := by rw [← hq]; rfl
    clear hq
    go_enter Try.func49, Try.ntmps49
    go_wp2_with fail
    refine HP.out.mono ?_
    rintro e w2 ⟨rfl, hb⟩
    have HB2 := Lib.hid (HB.out.trans (hb.mono HB.out.size))
    clear hb
    go_wp2
    go_ret
    exact ⟨rfl, HB2.out⟩
  | true =>
    rw [Bool.true_and] at hq
    by_cases hl : len = 0
    · subst hl
      obtain rfl : q = decide (1 ≤ r) := by rw [← hq]; simp
      clear hq
      go_enter Try.func49, Try.ntmps49
      go_wp2_with fail
      refine HP.out.mono ?_
      rintro e w2 ⟨rfl, hb⟩
      obtain ⟨d0, d1, d2, d3⟩ := rec_reads ((hb.block _ (heap_lt HX.out)).trans HX.out)
      have HB2 := Lib.hid (HB.out.trans (hb.mono HB.out.size))
      clear hb
      go_wp2
      go_ret
      exact ⟨rfl, HB2.out⟩
    · obtain rfl : q = false := by rw [← hq]; simp [hl]
      have hl' : ((len : Int) == 0) = false := by simp [hl]
      clear hq
      go_enter Try.func49, Try.ntmps49
      go_wp2_with fail
      refine HP.out.mono ?_
      rintro e w2 ⟨rfl, hb⟩
      obtain ⟨d0, d1, d2, d3⟩ := rec_reads ((hb.block _ (heap_lt HX.out)).trans HX.out)
      have HB2 := Lib.hid (HB.out.trans (hb.mono HB.out.size))
      clear hb
      go_wp2
      go_ret
      exact ⟨rfl, HB2.out⟩

/-- Two boxes and a zero record behind them. -/
def Boxes (B : Nat) (x y : Array Value) (w : World) : Prop :=
  w.heap[B]? = some (.cells x 34 (0, 0)) ∧ w.heap[B + 1]? = some (.cells y 34 (0, 0)) ∧ w.heap[B + 2]? = some (.cells #[.int .i64 0, .int .i64 0, .int .i64 0, .slice none 0 0] 34 (0, 0))
theorem boxes_new (w : World) (x y : Array Value) : Boxes w.heap.size x y (((w.alloc (.cells x 34)).alloc (.cells y 34)).alloc (.cells #[.int .i64 0, .int .i64 0, .int .i64 0, .slice none 0 0] 34)) ∧
    Below w.heap.size w (((w.alloc (.cells x 34)).alloc (.cells y 34)).alloc (.cells #[.int .i64 0, .int .i64 0, .int .i64 0, .slice none 0 0] 34)) := by
  have s1 : (w.alloc (.cells x 34)).heap.size = w.heap.size + 1 := by simp
  have s2 : ((w.alloc (.cells x 34)).alloc (.cells y 34)).heap.size = w.heap.size + 2 := by simp
  refine ⟨⟨?_, ?_, ?_⟩, ?_⟩
  · rw [Lib.alloc_old _ _ _ (by omega), Lib.alloc_old _ _ _ (by omega)]
    exact heap_alloc_new w _
  · rw [Lib.alloc_old _ _ _ (by omega), ← s1]
    exact heap_alloc_new _ _
  · rw [← s2]
    exact heap_alloc_new _ _
  · exact (((Below.refl _ _).alloc (Nat.le_refl _) _).alloc (by omega) _).alloc (by omega) _
theorem Boxes.below {B : Nat} {x y : Array Value} {w w' : World} (h : Boxes B x y w) (hb : Below w.heap.size w w') : Boxes B x y w' :=
  ⟨(hb.block _ (heap_lt h.1)).trans h.1, (hb.block _ (heap_lt h.2.1)).trans h.2.1, (hb.block _ (heap_lt h.2.2)).trans h.2.2⟩

/-- A record and whether it is one. -/
def RetTwo (x y : Rv) (w : World) (e : Ending) (w' : World) : Prop :=
  e = .returned (.tuple #[.agg #[.int .i64 (twoR x y).k, .int .i64 (twoR x y).n, .int .i64 (twoR x y).r, .slice (twoR x y).a (twoR x y).len (twoR x y).cap], .bool (twoB x y)]) ∧ Below w.heap.size w w'
theorem RetTwo.no {x y : Rv} {w w' : World} (h : twoB x y = false) (hb : Below w.heap.size w w') : RetTwo x y w (.returned (.tuple #[.agg #[.int .i64 0, .int .i64 0, .int .i64 0, .slice none 0 0], .bool false])) w' := by
  refine ⟨?_, hb⟩
  rw [mgr_no h, h]
  rfl
theorem RetTwo.yes {x y : Rv} {w w' : World} (h : twoB x y = true) (hb : Below w.heap.size w w') : RetTwo x y w (.returned (.tuple #[.agg #[.int .i64 x.k, .int .i64 x.n, .int .i64 (x.r + y.r), .slice none 0 0], .bool true])) w' := by
  refine ⟨?_, hb⟩
  rw [mgr_yes h, h]
  rfl
theorem join_yes {k r : Int} {len : Nat} (h : mjoinB k r len = true) : 1 ≤ k ∧ k ≤ 3 ∧ len = 0 ∧ 1 ≤ r := by
  unfold mjoinB at h
  simp at h
  exact ⟨h.1.1, h.1.2, h.2.1, h.2.2⟩
theorem join_no {k r : Int} {len : Nat} (h : mjoinB k r len = false) : ¬ (1 ≤ k ∧ k ≤ 3 ∧ len = 0 ∧ 1 ≤ r) := by
  intro q
  unfold mjoinB at h
  simp [q.1, q.2.1, q.2.2.1, q.2.2.2] at h

set_option maxRecDepth 100000 in
set_option maxHeartbeats 2000000 in
theorem mgtwo_any (k n r : Int) (a : Option Addr) (len cap : Nat) (k' n' r' : Int) (a' : Option Addr) (len' cap' : Nat) (w : World) :
    Calls Try.prog 39 #[.agg #[.int .i64 k, .int .i64 n, .int .i64 r, .slice a len cap], .agg #[.int .i64 k', .int .i64 n', .int .i64 r', .slice a' len' cap']] w (RetTwo ⟨k, n, r, a, len, cap⟩ ⟨k', n', r', a', len', cap'⟩ w) := by
  obtain ⟨hbx, hbe⟩ := boxes_new w #[.int .i64 k, .int .i64 n, .int .i64 r, .slice a len cap] #[.int .i64 k', .int .i64 n', .int .i64 r', .slice a' len' cap']
  obtain ⟨w3, hw3⟩ : ∃ w3, (((w.alloc (.cells #[.int .i64 k, .int .i64 n, .int .i64 r, .slice a len cap] 34)).alloc (.cells #[.int .i64 k', .int .i64 n', .int .i64 r', .slice a' len' cap'] 34)).alloc (.cells #[.int .i64 0, .int .i64 0, .int .i64 0, .slice none 0 0] 34)) = w3 := ⟨_, rfl⟩
  rw [hw3] at hbx hbe
  have HX := Lib.hid hbx
  have HB := Lib.hid hbe
  clear hbe
  obtain ⟨c0, c1, c2, c3⟩ := rec_reads hbx.1
  clear hbx
  cases hj1 : mjoinB k r len with
  | false =>
    have HT : Hid (twoB ⟨k, n, r, a, len, cap⟩ ⟨k', n', r', a', len', cap'⟩ = false) := Lib.hid (mg2_no fun q => join_no hj1 ⟨q.1, q.2.1, q.2.2.2.2.1, q.2.2.2.2.2.2.1⟩)
    have HJ := Lib.hid (mgjoin_any k n r a len cap w3 false hj1)
    clear hj1
    go_enter Try.func39, Try.ntmps39
    go_wp2_with fail
    try rw [hw3]
    refine HJ.out.mono ?_
    rintro e w4 ⟨rfl, hb⟩
    have HXX := Lib.hid (HX.out.below hb)
    have HBB := Lib.hid (HB.out.trans (hb.mono HB.out.size))
    clear hb HJ
    obtain ⟨f0, f1, f2, f3⟩ := rec_free HXX.out.2.2
    obtain ⟨j0, j1, j2, j3⟩ := rec_reads HXX.out.2.2
    have HF := Lib.hid (put_rec HXX.out.2.2 (.int .i64 0) (.int .i64 0) (.int .i64 0) (.slice none 0 0))
    have HBe := Lib.hid (below_rec HBB.out (r := w.heap.size + 2) (by omega) (.int .i64 0) (.int .i64 0) (.int .i64 0) (.slice none 0 0))
    go_wp2
    obtain ⟨i0, i1, i2, i3⟩ := rec_reads HF.out
    refine bodyPost_ret (v := .tuple #[.agg #[.int .i64 0, .int .i64 0, .int .i64 0, .slice none 0 0], .bool false]) (by simp [results, Try.results39, go_sem, i0, i1, i2, i3]) rfl ?_
    exact RetTwo.no HT.out HBe.out
  | true =>
    have HJ := Lib.hid (mgjoin_any k n r a len cap w3 true hj1)
    have HJ1 := Lib.hid (join_yes hj1)
    clear hj1
    cases hj2 : mjoinB k' r' len' with
    | false =>
      have HT : Hid (twoB ⟨k, n, r, a, len, cap⟩ ⟨k', n', r', a', len', cap'⟩ = false) := Lib.hid (mg2_no fun q => by
        have e : k' = k := q.2.2.1
        exact join_no hj2 ⟨by rw [e]; exact q.1, by rw [e]; exact q.2.1, q.2.2.2.2.2.1, q.2.2.2.2.2.2.2.1⟩)
      have HJ2 := Lib.hid (fun W => mgjoin_any k' n' r' a' len' cap' W false hj2)
      clear hj2
      go_enter Try.func39, Try.ntmps39
      go_wp2_with fail
      try rw [hw3]
      refine HJ.out.mono ?_
      rintro e w4 ⟨rfl, hb⟩
      have HX4 := Lib.hid (HX.out.below hb)
      have HB4 := Lib.hid (HB.out.trans (hb.mono HB.out.size))
      clear hb HJ
      obtain ⟨d0, d1, d2, d3⟩ := rec_reads HX4.out.2.1
      go_wp2_with fail
      refine (HJ2.out _).mono ?_
      rintro e w5 ⟨rfl, hb⟩
      have HXX := Lib.hid (HX4.out.below hb)
      have HBB := Lib.hid (HB4.out.trans (hb.mono HB4.out.size))
      clear hb HJ2
      obtain ⟨f0, f1, f2, f3⟩ := rec_free HXX.out.2.2
      obtain ⟨j0, j1, j2, j3⟩ := rec_reads HXX.out.2.2
      have HF := Lib.hid (put_rec HXX.out.2.2 (.int .i64 0) (.int .i64 0) (.int .i64 0) (.slice none 0 0))
      have HBe := Lib.hid (below_rec HBB.out (r := w.heap.size + 2) (by omega) (.int .i64 0) (.int .i64 0) (.int .i64 0) (.slice none 0 0))
      go_wp2
      obtain ⟨i0, i1, i2, i3⟩ := rec_reads HF.out
      refine bodyPost_ret (v := .tuple #[.agg #[.int .i64 0, .int .i64 0, .int .i64 0, .slice none 0 0], .bool false]) (by simp [results, Try.results39, go_sem, i0, i1, i2, i3]) rfl ?_
      exact RetTwo.no HT.out HBe.out
    | true =>
      have HJ2 := Lib.hid (fun W => mgjoin_any k' n' r' a' len' cap' W true hj2)
      have HJ3 := Lib.hid (join_yes hj2)
      clear hj2
      go_enter Try.func39, Try.ntmps39
      go_wp2_with fail
      try rw [hw3]
      refine HJ.out.mono ?_
      rintro e w4 ⟨rfl, hb⟩
      have HX4 := Lib.hid (HX.out.below hb)
      have HB4 := Lib.hid (HB.out.trans (hb.mono HB.out.size))
      clear hb HJ
      obtain ⟨d0, d1, d2, d3⟩ := rec_reads HX4.out.2.1
      go_wp2_with fail
      refine (HJ2.out _).mono ?_
      rintro e w5 ⟨rfl, hb⟩
      have HXX := Lib.hid (HX4.out.below hb)
      have HBB := Lib.hid (HB4.out.trans (hb.mono HB4.out.size))
      clear hb HJ2 HX HB HX4 HB4 c0 c1 c2 c3 d0 d1 d2 d3
      obtain ⟨c0, c1, c2, c3⟩ := rec_reads HXX.out.1
      obtain ⟨d0, d1, d2, d3⟩ := rec_reads HXX.out.2.1
      by_cases hk : k = k'
      · subst hk
        by_cases hn : n = n'
        · subst hn
          obtain ⟨E, hE⟩ : ∃ E, addE r r' = E := ⟨_, rfl⟩
          have HA := Lib.hid (fun W => add_any r r' W)
          rw [hE] at HA
          have HAE := Lib.hid hE
          clear hE
          go_wp2_with fail
          refine (HA.out _).mono ?_
          rintro e w6 ⟨rfl, hb⟩
          have HX6 := Lib.hid (HXX.out.below hb)
          have HB6 := Lib.hid (HBB.out.trans (hb.mono HBB.out.size))
          clear hb HA HXX HBB c0 c1 c2 c3 d0 d1 d2 d3
          by_cases he : E = 0
          · subst he
            have hsum : 0 ≤ r ∧ 0 ≤ r' ∧ r + r' ≤ 4611686018427387903 ∧ addV r r' = r + r' := by
              have h := HAE.out
              cases ho : (ofs r && ofs r') with
              | false => rw [(add_arg ho).1] at h; cases h
              | true =>
                obtain ⟨p0, p1⟩ := ofs_true (both ho).1
                obtain ⟨q0, q1⟩ := ofs_true (both ho).2
                refine ⟨p0, q0, ?_, ?_⟩
                · rcases Int.lt_or_le 4611686018427387903 (r + r') with hlt | hle
                  · rw [(add_over ho hlt).1] at h; cases h
                  · exact hle
                · unfold addV; rw [if_pos h]
            rw [hsum.2.2.2]
            have HT : Hid (twoB ⟨k, n, r, a, len, cap⟩ ⟨k, n, r', a', len', cap'⟩ = true) := Lib.hid (mg2_mk ⟨HJ1.out.1, HJ1.out.2.1, rfl, rfl, HJ1.out.2.2.1, HJ3.out.2.2.1, HJ1.out.2.2.2, HJ3.out.2.2.2, hsum.2.2.1⟩)
            clear hsum
            generalize hs : r + r' = sum at *
            have HS := Lib.hid hs
            clear hs
            obtain ⟨c0, c1, c2, c3⟩ := rec_reads HX6.out.1
            obtain ⟨f0, f1, f2, f3⟩ := rec_free HX6.out.2.2
            obtain ⟨j0, j1, j2, j3⟩ := rec_reads HX6.out.2.2
            have HF := Lib.hid (put_rec HX6.out.2.2 (.int .i64 k) (.int .i64 n) (.int .i64 sum) (.slice none 0 0))
            have HBe := Lib.hid (below_rec HB6.out (r := w.heap.size + 2) (by omega) (.int .i64 k) (.int .i64 n) (.int .i64 sum) (.slice none 0 0))
            go_wp2
            obtain ⟨i0, i1, i2, i3⟩ := rec_reads HF.out
            refine bodyPost_ret (v := .tuple #[.agg #[.int .i64 k, .int .i64 n, .int .i64 sum, .slice none 0 0], .bool true]) (by simp [results, Try.results39, go_sem, i0, i1, i2, i3]) rfl ?_
            have h := RetTwo.yes HT.out HBe.out
            dsimp only at h
            rw [HS.out] at h
            exact h
          · have HT : Hid (twoB ⟨k, n, r, a, len, cap⟩ ⟨k, n, r', a', len', cap'⟩ = false) := Lib.hid (mg2_no fun q => he (by
              rw [← HAE.out]
              have q1 : 1 ≤ r := q.2.2.2.2.2.2.1
              have q2 : 1 ≤ r' := q.2.2.2.2.2.2.2.1
              have q3 : r + r' ≤ 4611686018427387903 := q.2.2.2.2.2.2.2.2
              exact (add_good (by rw [ofs_mk (n := r) (by omega) (by omega), ofs_mk (n := r') (by omega) (by omega)]; rfl) q3).1))
            have he' : (E == 0) = false := by simp [he]
            have HXX := Lib.hid HX6.out
            have HBB := Lib.hid HB6.out
            obtain ⟨f0, f1, f2, f3⟩ := rec_free HXX.out.2.2
            obtain ⟨j0, j1, j2, j3⟩ := rec_reads HXX.out.2.2
            have HF := Lib.hid (put_rec HXX.out.2.2 (.int .i64 0) (.int .i64 0) (.int .i64 0) (.slice none 0 0))
            have HBe := Lib.hid (below_rec HBB.out (r := w.heap.size + 2) (by omega) (.int .i64 0) (.int .i64 0) (.int .i64 0) (.slice none 0 0))
            go_wp2
            obtain ⟨i0, i1, i2, i3⟩ := rec_reads HF.out
            refine bodyPost_ret (v := .tuple #[.agg #[.int .i64 0, .int .i64 0, .int .i64 0, .slice none 0 0], .bool false]) (by simp [results, Try.results39, go_sem, i0, i1, i2, i3]) rfl ?_
            exact RetTwo.no HT.out HBe.out
        · have HT : Hid (twoB ⟨k, n, r, a, len, cap⟩ ⟨k, n', r', a', len', cap'⟩ = false) := Lib.hid (mg2_no fun q => hn q.2.2.2.1.symm)
          have hn' : (n == n') = false := by simp [hn]
          obtain ⟨f0, f1, f2, f3⟩ := rec_free HXX.out.2.2
          obtain ⟨j0, j1, j2, j3⟩ := rec_reads HXX.out.2.2
          have HF := Lib.hid (put_rec HXX.out.2.2 (.int .i64 0) (.int .i64 0) (.int .i64 0) (.slice none 0 0))
          have HBe := Lib.hid (below_rec HBB.out (r := w.heap.size + 2) (by omega) (.int .i64 0) (.int .i64 0) (.int .i64 0) (.slice none 0 0))
          go_wp2
          obtain ⟨i0, i1, i2, i3⟩ := rec_reads HF.out
          refine bodyPost_ret (v := .tuple #[.agg #[.int .i64 0, .int .i64 0, .int .i64 0, .slice none 0 0], .bool false]) (by simp [results, Try.results39, go_sem, i0, i1, i2, i3]) rfl ?_
          exact RetTwo.no HT.out HBe.out
      · have HT : Hid (twoB ⟨k, n, r, a, len, cap⟩ ⟨k', n', r', a', len', cap'⟩ = false) := Lib.hid (mg2_no fun q => hk q.2.2.1.symm)
        have hk' : (k == k') = false := by simp [hk]
        obtain ⟨f0, f1, f2, f3⟩ := rec_free HXX.out.2.2
        obtain ⟨j0, j1, j2, j3⟩ := rec_reads HXX.out.2.2
        have HF := Lib.hid (put_rec HXX.out.2.2 (.int .i64 0) (.int .i64 0) (.int .i64 0) (.slice none 0 0))
        have HBe := Lib.hid (below_rec HBB.out (r := w.heap.size + 2) (by omega) (.int .i64 0) (.int .i64 0) (.int .i64 0) (.slice none 0 0))
        go_wp2
        obtain ⟨i0, i1, i2, i3⟩ := rec_reads HF.out
        refine bodyPost_ret (v := .tuple #[.agg #[.int .i64 0, .int .i64 0, .int .i64 0, .slice none 0 0], .bool false]) (by simp [results, Try.results39, go_sem, i0, i1, i2, i3]) rfl ?_
        exact RetTwo.no HT.out HBe.out
end Go.Proofs.Ytjmaccflnfaiiaa
