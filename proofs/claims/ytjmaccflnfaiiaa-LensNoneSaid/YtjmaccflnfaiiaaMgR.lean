/-
  The document's Two: walked.
-/
import Derived.Test.YtjmaccflnfaiiaaBn5
import Derived.Test.YtjmaccflnfaiiaaMgT
set_option linter.unusedSimpArgs false
set_option linter.unusedVariables false
namespace Go.Proofs.Ytjmaccflnfaiiaa
open Go.RowKit

set_option maxRecDepth 100000 in
set_option maxHeartbeats 4000000 in
theorem mgrtwo_any (k n r : Int) (a : Option Addr) (len cap : Nat) (k' n' r' : Int) (a' : Option Addr) (len' cap' : Nat) (w : World) :
    Calls Try.prog 30 #[.agg #[.int .i64 k, .int .i64 n, .int .i64 r, .slice a len cap], .agg #[.int .i64 k', .int .i64 n', .int .i64 r', .slice a' len' cap']] w (RetTwo ⟨k, n, r, a, len, cap⟩ ⟨k', n', r', a', len', cap'⟩ w) := by
  obtain ⟨hbx, hbe⟩ := boxes_new w #[.int .i64 k, .int .i64 n, .int .i64 r, .slice a len cap] #[.int .i64 k', .int .i64 n', .int .i64 r', .slice a' len' cap']
  obtain ⟨w3, hw3⟩ : ∃ w3, (((w.alloc (.cells #[.int .i64 k, .int .i64 n, .int .i64 r, .slice a len cap] 34)).alloc (.cells #[.int .i64 k', .int .i64 n', .int .i64 r', .slice a' len' cap'] 34)).alloc (.cells #[.int .i64 0, .int .i64 0, .int .i64 0, .slice none 0 0] 34)) = w3 := ⟨_, rfl⟩
  rw [hw3] at hbx hbe
  have HX := Lib.hid hbx
  have HB := Lib.hid hbe
  clear hbe
  obtain ⟨c0, c1, c2, c3⟩ := rec_reads hbx.1
  obtain ⟨d0, d1, d2, d3⟩ := rec_reads hbx.2.1
  obtain ⟨f0, f1, f2, f3⟩ := rec_free hbx.2.2
  obtain ⟨j0, j1, j2, j3⟩ := rec_reads hbx.2.2
  clear hbx
  by_cases h1 : k < 1
  · have HT : Hid (twoB ⟨k, n, r, a, len, cap⟩ ⟨k', n', r', a', len', cap'⟩ = false) := Lib.hid (mg2_no fun q => by have : 1 ≤ k := q.1; omega)
    go_enter Try.func30, Try.ntmps30
    have HF := Lib.hid (put_rec HX.out.2.2 (.int .i64 0) (.int .i64 0) (.int .i64 0) (.slice none 0 0))
    have HBe := Lib.hid (below_rec HB.out (r := w.heap.size + 2) (by omega) (.int .i64 0) (.int .i64 0) (.int .i64 0) (.slice none 0 0))
    go_wp2
    try rw [hw3]
    obtain ⟨i0, i1, i2, i3⟩ := rec_reads HF.out
    refine bodyPost_ret (v := .tuple #[.agg #[.int .i64 0, .int .i64 0, .int .i64 0, .slice none 0 0], .bool false]) (by simp [results, Try.results30, go_sem, i0, i1, i2, i3]) rfl ?_
    exact RetTwo.no HT.out HBe.out
  · skip
    have P1 : 1 ≤ k := by omega
    have HP1 := Lib.hid P1
    clear P1
    by_cases h2 : 3 < k
    · have HT : Hid (twoB ⟨k, n, r, a, len, cap⟩ ⟨k', n', r', a', len', cap'⟩ = false) := Lib.hid (mg2_no fun q => by have : k ≤ 3 := q.2.1; omega)
      go_enter Try.func30, Try.ntmps30
      have HF := Lib.hid (put_rec HX.out.2.2 (.int .i64 0) (.int .i64 0) (.int .i64 0) (.slice none 0 0))
      have HBe := Lib.hid (below_rec HB.out (r := w.heap.size + 2) (by omega) (.int .i64 0) (.int .i64 0) (.int .i64 0) (.slice none 0 0))
      go_wp2
      try rw [hw3]
      obtain ⟨i0, i1, i2, i3⟩ := rec_reads HF.out
      refine bodyPost_ret (v := .tuple #[.agg #[.int .i64 0, .int .i64 0, .int .i64 0, .slice none 0 0], .bool false]) (by simp [results, Try.results30, go_sem, i0, i1, i2, i3]) rfl ?_
      exact RetTwo.no HT.out HBe.out
    · skip
      have P2 : k ≤ 3 := by omega
      have HP2 := Lib.hid P2
      clear P2
      by_cases h3 : k' = k
      · subst h3
        by_cases h4 : n' = n
        · subst h4
          by_cases h5 : 0 < len
          · have HT : Hid (twoB ⟨k', n', r, a, len, cap⟩ ⟨k', n', r', a', len', cap'⟩ = false) := Lib.hid (mg2_no fun q => by have : len = 0 := q.2.2.2.2.1; omega)
            have g5 : (0 : Int) < (len : Int) := by omega
            go_enter Try.func30, Try.ntmps30
            have HF := Lib.hid (put_rec HX.out.2.2 (.int .i64 0) (.int .i64 0) (.int .i64 0) (.slice none 0 0))
            have HBe := Lib.hid (below_rec HB.out (r := w.heap.size + 2) (by omega) (.int .i64 0) (.int .i64 0) (.int .i64 0) (.slice none 0 0))
            go_wp2
            try rw [hw3]
            obtain ⟨i0, i1, i2, i3⟩ := rec_reads HF.out
            refine bodyPost_ret (v := .tuple #[.agg #[.int .i64 0, .int .i64 0, .int .i64 0, .slice none 0 0], .bool false]) (by simp [results, Try.results30, go_sem, i0, i1, i2, i3]) rfl ?_
            exact RetTwo.no HT.out HBe.out
          · obtain rfl : len = 0 := by omega
            by_cases h6 : 0 < len'
            · have HT : Hid (twoB ⟨k', n', r, a, 0, cap⟩ ⟨k', n', r', a', len', cap'⟩ = false) := Lib.hid (mg2_no fun q => by have : len' = 0 := q.2.2.2.2.2.1; omega)
              have g6 : (0 : Int) < (len' : Int) := by omega
              go_enter Try.func30, Try.ntmps30
              have HF := Lib.hid (put_rec HX.out.2.2 (.int .i64 0) (.int .i64 0) (.int .i64 0) (.slice none 0 0))
              have HBe := Lib.hid (below_rec HB.out (r := w.heap.size + 2) (by omega) (.int .i64 0) (.int .i64 0) (.int .i64 0) (.slice none 0 0))
              go_wp2
              try rw [hw3]
              obtain ⟨i0, i1, i2, i3⟩ := rec_reads HF.out
              refine bodyPost_ret (v := .tuple #[.agg #[.int .i64 0, .int .i64 0, .int .i64 0, .slice none 0 0], .bool false]) (by simp [results, Try.results30, go_sem, i0, i1, i2, i3]) rfl ?_
              exact RetTwo.no HT.out HBe.out
            · obtain rfl : len' = 0 := by omega
              by_cases h7 : r < 1
              · have HT : Hid (twoB ⟨k', n', r, a, 0, cap⟩ ⟨k', n', r', a', 0, cap'⟩ = false) := Lib.hid (mg2_no fun q => by have : 1 ≤ r := q.2.2.2.2.2.2.1; omega)
                go_enter Try.func30, Try.ntmps30
                have HF := Lib.hid (put_rec HX.out.2.2 (.int .i64 0) (.int .i64 0) (.int .i64 0) (.slice none 0 0))
                have HBe := Lib.hid (below_rec HB.out (r := w.heap.size + 2) (by omega) (.int .i64 0) (.int .i64 0) (.int .i64 0) (.slice none 0 0))
                go_wp2
                try rw [hw3]
                obtain ⟨i0, i1, i2, i3⟩ := rec_reads HF.out
                refine bodyPost_ret (v := .tuple #[.agg #[.int .i64 0, .int .i64 0, .int .i64 0, .slice none 0 0], .bool false]) (by simp [results, Try.results30, go_sem, i0, i1, i2, i3]) rfl ?_
                exact RetTwo.no HT.out HBe.out
              · skip
                by_cases h8 : r' < 1
                · have HT : Hid (twoB ⟨k', n', r, a, 0, cap⟩ ⟨k', n', r', a', 0, cap'⟩ = false) := Lib.hid (mg2_no fun q => by have : 1 ≤ r' := q.2.2.2.2.2.2.2.1; omega)
                  go_enter Try.func30, Try.ntmps30
                  have HF := Lib.hid (put_rec HX.out.2.2 (.int .i64 0) (.int .i64 0) (.int .i64 0) (.slice none 0 0))
                  have HBe := Lib.hid (below_rec HB.out (r := w.heap.size + 2) (by omega) (.int .i64 0) (.int .i64 0) (.int .i64 0) (.slice none 0 0))
                  go_wp2
                  try rw [hw3]
                  obtain ⟨i0, i1, i2, i3⟩ := rec_reads HF.out
                  refine bodyPost_ret (v := .tuple #[.agg #[.int .i64 0, .int .i64 0, .int .i64 0, .slice none 0 0], .bool false]) (by simp [results, Try.results30, go_sem, i0, i1, i2, i3]) rfl ?_
                  exact RetTwo.no HT.out HBe.out
                · skip
                  by_cases h9 : 4611686018427387903 < r
                  · have HT : Hid (twoB ⟨k', n', r, a, 0, cap⟩ ⟨k', n', r', a', 0, cap'⟩ = false) := Lib.hid (mg2_no fun q => by have : r + r' ≤ 4611686018427387903 := q.2.2.2.2.2.2.2.2; omega)
                    go_enter Try.func30, Try.ntmps30
                    have HF := Lib.hid (put_rec HX.out.2.2 (.int .i64 0) (.int .i64 0) (.int .i64 0) (.slice none 0 0))
                    have HBe := Lib.hid (below_rec HB.out (r := w.heap.size + 2) (by omega) (.int .i64 0) (.int .i64 0) (.int .i64 0) (.slice none 0 0))
                    go_wp2
                    try rw [hw3]
                    obtain ⟨i0, i1, i2, i3⟩ := rec_reads HF.out
                    refine bodyPost_ret (v := .tuple #[.agg #[.int .i64 0, .int .i64 0, .int .i64 0, .slice none 0 0], .bool false]) (by simp [results, Try.results30, go_sem, i0, i1, i2, i3]) rfl ?_
                    exact RetTwo.no HT.out HBe.out
                  · skip
                    by_cases h10 : 4611686018427387903 - r < r'
                    · have HT : Hid (twoB ⟨k', n', r, a, 0, cap⟩ ⟨k', n', r', a', 0, cap'⟩ = false) := Lib.hid (mg2_no fun q => by have : r + r' ≤ 4611686018427387903 := q.2.2.2.2.2.2.2.2; omega)
                      go_enter Try.func30, Try.ntmps30
                      have HF := Lib.hid (put_rec HX.out.2.2 (.int .i64 0) (.int .i64 0) (.int .i64 0) (.slice none 0 0))
                      have HBe := Lib.hid (below_rec HB.out (r := w.heap.size + 2) (by omega) (.int .i64 0) (.int .i64 0) (.int .i64 0) (.slice none 0 0))
                      go_wp2
                      try rw [hw3]
                      obtain ⟨i0, i1, i2, i3⟩ := rec_reads HF.out
                      refine bodyPost_ret (v := .tuple #[.agg #[.int .i64 0, .int .i64 0, .int .i64 0, .slice none 0 0], .bool false]) (by simp [results, Try.results30, go_sem, i0, i1, i2, i3]) rfl ?_
                      exact RetTwo.no HT.out HBe.out
                    · have HT : Hid (twoB ⟨k', n', r, a, 0, cap⟩ ⟨k', n', r', a', 0, cap'⟩ = true) := Lib.hid (mg2_mk ⟨HP1.out, HP2.out, rfl, rfl, rfl, rfl, by show 1 ≤ r; omega, by show 1 ≤ r'; omega, by show r + r' ≤ 4611686018427387903; omega⟩)
                      obtain ⟨sum, hs⟩ : ∃ sum, r + r' = sum := ⟨_, rfl⟩
                      have HS := Lib.hid hs
                      have wS : IntKind.i64.wrap (r + r') = sum := by rw [IntKind.wrap_i64]; omega
                      go_enter Try.func30, Try.ntmps30
                      have HF := Lib.hid (put_rec HX.out.2.2 (.int .i64 k') (.int .i64 n') (.int .i64 sum) (.slice none 0 0))
                      have HBe := Lib.hid (below_rec HB.out (r := w.heap.size + 2) (by omega) (.int .i64 k') (.int .i64 n') (.int .i64 sum) (.slice none 0 0))
                      go_wp2
                      try rw [hw3]
                      obtain ⟨i0, i1, i2, i3⟩ := rec_reads HF.out
                      refine bodyPost_ret (v := .tuple #[.agg #[.int .i64 k', .int .i64 n', .int .i64 sum, .slice none 0 0], .bool true]) (by simp [results, Try.results30, go_sem, i0, i1, i2, i3]) rfl ?_
                      have h := RetTwo.yes HT.out HBe.out
                      dsimp only at h
                      rw [HS.out] at h
                      exact h
        · have HT : Hid (twoB ⟨k', n, r, a, len, cap⟩ ⟨k', n', r', a', len', cap'⟩ = false) := Lib.hid (mg2_no fun q => h4 q.2.2.2.1)
          have g4 : (n' == n) = false := by simp [h4]
          go_enter Try.func30, Try.ntmps30
          have HF := Lib.hid (put_rec HX.out.2.2 (.int .i64 0) (.int .i64 0) (.int .i64 0) (.slice none 0 0))
          have HBe := Lib.hid (below_rec HB.out (r := w.heap.size + 2) (by omega) (.int .i64 0) (.int .i64 0) (.int .i64 0) (.slice none 0 0))
          go_wp2
          try rw [hw3]
          obtain ⟨i0, i1, i2, i3⟩ := rec_reads HF.out
          refine bodyPost_ret (v := .tuple #[.agg #[.int .i64 0, .int .i64 0, .int .i64 0, .slice none 0 0], .bool false]) (by simp [results, Try.results30, go_sem, i0, i1, i2, i3]) rfl ?_
          exact RetTwo.no HT.out HBe.out
      · have HT : Hid (twoB ⟨k, n, r, a, len, cap⟩ ⟨k', n', r', a', len', cap'⟩ = false) := Lib.hid (mg2_no fun q => h3 q.2.2.1)
        have g3 : (k' == k) = false := by simp [h3]
        go_enter Try.func30, Try.ntmps30
        have HF := Lib.hid (put_rec HX.out.2.2 (.int .i64 0) (.int .i64 0) (.int .i64 0) (.slice none 0 0))
        have HBe := Lib.hid (below_rec HB.out (r := w.heap.size + 2) (by omega) (.int .i64 0) (.int .i64 0) (.int .i64 0) (.slice none 0 0))
        go_wp2
        try rw [hw3]
        obtain ⟨i0, i1, i2, i3⟩ := rec_reads HF.out
        refine bodyPost_ret (v := .tuple #[.agg #[.int .i64 0, .int .i64 0, .int .i64 0, .slice none 0 0], .bool false]) (by simp [results, Try.results30, go_sem, i0, i1, i2, i3]) rfl ?_
        exact RetTwo.no HT.out HBe.out
end Go.Proofs.Ytjmaccflnfaiiaa
