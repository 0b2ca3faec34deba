/-
  record's rise, Check: walked.
-/
import Derived.Test.YtlfofdgeaigpbaaBn5
set_option linter.unusedSimpArgs false
set_option linter.unusedVariables false
namespace Go.Proofs.Ytlfofdgeaigpbaa
open Go.RowKit

theorem ris_drop {ids : List Int} {k : Nat} (h : k < ids.length) (a : Int) : risF a (ids.drop k) = (decide (a < ids.getD k 0) && (decide (ids.getD k 0 < 65535) && risF (ids.getD k 0) (ids.drop (k + 1)))) := by
  rw [List.drop_eq_getElem_cons h, risF, getD_at ids k h]

set_option maxHeartbeats 1000000 in
theorem rcrise_any (a : Option Addr) (L c : Nat) (ids : List Int) (w : World) (q : Bool) (hl : ids.length = L) (hL : L ≤ 1000000000) (hr : IsRow .i64 w a L L ids) (hq : risF (-1) ids = q) :
    Calls Try.prog 38 #[.slice a L c] w fun e w' => e = .returned (.bool q) ∧ w' = w := by
  have HQ := Lib.hid hq
  have HL := Lib.hid hl
  clear hq hl
  go_enter Try.func38, Try.ntmps38
  go_wp2
  go_loop [3, 8] (fun p i => ∃ (k : Nat) (x : Int), k ≤ L ∧ p = .int .i64 x ∧ i = .int .i64 k ∧ Hid (risF (-1) ids = risF x (ids.drop k))) (fun _ i => L - (RowKit.intOf i).toNat)
  case atStart => exact ⟨0, -1, Nat.zero_le _, rfl, rfl, Lib.hid (by rw [List.drop_zero])⟩
  case round =>
    obtain ⟨k, x, hk, rfl, rfl, HK⟩ := hrel
    by_cases hlt : k < L
    · obtain h0 | ⟨b, off, rfl, hcap, hm, hz, hc⟩ := hr
      · omega
      have hcell := hc k (by omega)
      have HS := Lib.hid (ris_drop (ids := ids) (k := k) (by rw [HL.out]; exact hlt) x)
      clear hc hz
      generalize ids.getD k 0 = y at hcell HS
      by_cases h1 : y ≤ x
      · have hf : Hid (q = false) := Lib.hid (by rw [← HQ.out, HK.out, HS.out, decide_eq_false (by omega)]; rfl)
        go_wp2
        go_ret
        exact ⟨by rw [hf.out]; rfl, rfl⟩
      · by_cases h2 : 65535 ≤ y
        · have hf : Hid (q = false) := Lib.hid (by rw [← HQ.out, HK.out, HS.out, decide_eq_false (p := y < 65535) (by omega)]; simp)
          go_wp2
          go_ret
          exact ⟨by rw [hf.out]; rfl, rfl⟩
        · have HN : Hid (risF (-1) ids = risF y (ids.drop (k + 1))) := Lib.hid (by rw [HK.out, HS.out, decide_eq_true (by omega), decide_eq_true (by omega)]; rfl)
          go_wp2
          exact ⟨⟨k + 1, y, by omega, rfl, by go_num, HN⟩, by simp [RowKit.intOf]; omega⟩
    · obtain rfl : k = L := by omega
      have hf : Hid (q = true) := Lib.hid (by rw [← HQ.out, HK.out, List.drop_of_length_le (by rw [HL.out]; exact Nat.le_refl _)]; rfl)
      go_wp2
      go_ret
      exact ⟨by rw [hf.out]; rfl, rfl⟩

set_option maxHeartbeats 2000000 in
theorem rcchk_no (k n r : Int) (a : Option Addr) (L c : Nat) (ids : List Int) (w : World) (hl : ids.length = L) (hk : k = 1 ∨ k = 2 ∨ k = 3 ∨ k = 5 ∨ k = 6) (q : Bool) (hq : okK k n r ids = q) :
    Calls Try.prog 30 #[.agg #[.int .i64 k, .int .i64 n, .int .i64 r, .slice a L c]] w fun e w' => e = .returned (.bool q) ∧ Below w.heap.size w w' := by
  have hX1 := heap_alloc_new w (.cells #[.int .i64 k, .int .i64 n, .int .i64 r, .slice a L c] 34)
  have hB1 := (Below.refl w.heap.size w).alloc (Nat.le_refl _) (.cells #[.int .i64 k, .int .i64 n, .int .i64 r, .slice a L c] 34)
  obtain ⟨w1, hw1⟩ : ∃ w1, w.alloc (.cells #[.int .i64 k, .int .i64 n, .int .i64 r, .slice a L c] 34) = w1 := ⟨_, rfl⟩
  rw [hw1] at hX1 hB1
  obtain ⟨c0, c1, c2, c3⟩ := rec_reads hX1
  have HX1 := Lib.hid hX1
  have HB1 := Lib.hid hB1
  have HLT : Hid (w.heap.size < w1.heap.size) := Lib.hid (heap_lt hX1)
  unfold okK at hq
  rw [if_neg (by omega), decide_eq_true (show 1 ≤ k by omega), decide_eq_true (show k ≤ 6 by omega), Bool.true_and, Bool.true_and, hl] at hq
  have H1 := Lib.hid (fun W q (h : fitK k n = q) => rcfits_any k n W q h)
  have H2 := Lib.hid (fun W q (h : fitK k r = q) => rcfits_any k r W q h)
  clear hX1 hB1 hl
  obtain ⟨q1, hq1⟩ : ∃ q1, fitK k n = q1 := ⟨_, rfl⟩
  obtain ⟨q2, hq2⟩ : ∃ q2, fitK k r = q2 := ⟨_, rfl⟩
  rw [hq1, hq2] at hq
  have H1 := Lib.hid (fun W => H1.out W q1 hq1)
  have H2 := Lib.hid (fun W => H2.out W q2 hq2)
  clear hq1 hq2
  have hd : ((L : Int) == 0) = decide (L = 0) := by by_cases h : L = 0 <;> simp [h]
  obtain ⟨q3, hq3⟩ : ∃ q3, decide (L = 0) = q3 := ⟨_, rfl⟩
  rw [hq3] at hq hd
  clear hq3
  rcases hk with rfl | rfl | rfl | rfl | rfl
  all_goals
    cases q1 with
    | false =>
      obtain rfl : q = false := by rw [← hq]; rfl
      clear hq
      go_enter Try.func30, Try.ntmps30
      go_wp2_with fail
      try rw [hw1]
      refine (H1.out _).mono ?_
      rintro e w2 ⟨rfl, hb2⟩
      have HB2 := Lib.hid (HB1.out.trans (hb2.mono HB1.out.size))
      go_wp2
      go_ret
      exact ⟨rfl, HB2.out⟩
    | true =>
      cases q2 with
      | false =>
        obtain rfl : q = false := by rw [← hq]; rfl
        clear hq
        go_enter Try.func30, Try.ntmps30
        go_wp2_with fail
        try rw [hw1]
        refine (H1.out _).mono ?_
        rintro e w2 ⟨rfl, hb2⟩
        have hX2 := (hb2.block w.heap.size HLT.out).trans HX1.out
        obtain ⟨d0, d1, d2, d3⟩ := rec_reads hX2
        have HB2 := Lib.hid (HB1.out.trans (hb2.mono HB1.out.size))
        clear hb2 hX2
        go_wp2_with fail
        refine (H2.out _).mono ?_
        rintro e w3 ⟨rfl, hb3⟩
        have HB3 := Lib.hid (HB2.out.trans (hb3.mono HB2.out.size))
        clear hb3
        go_wp2
        go_ret
        exact ⟨rfl, HB3.out⟩
      | true =>
        obtain rfl : q = q3 := by rw [← hq]; rfl
        clear hq
        go_enter Try.func30, Try.ntmps30
        go_wp2_with fail
        try rw [hw1]
        refine (H1.out _).mono ?_
        rintro e w2 ⟨rfl, hb2⟩
        have hX2 := (hb2.block w.heap.size HLT.out).trans HX1.out
        obtain ⟨d0, d1, d2, d3⟩ := rec_reads hX2
        have HLT2 : Hid (w.heap.size < w2.heap.size) := Lib.hid (heap_lt hX2)
        have HX2 := Lib.hid hX2
        have HB2 := Lib.hid (HB1.out.trans (hb2.mono HB1.out.size))
        clear hb2 hX2
        go_wp2_with fail
        refine (H2.out _).mono ?_
        rintro e w3 ⟨rfl, hb3⟩
        have hX3 := (hb3.block w.heap.size HLT2.out).trans HX2.out
        obtain ⟨e0, e1, e2, e3⟩ := rec_reads hX3
        have HB3 := Lib.hid (HB2.out.trans (hb3.mono HB2.out.size))
        clear hb3 hX3
        go_wp2
        go_ret
        exact ⟨rfl, HB3.out⟩

set_option maxHeartbeats 2000000 in
theorem rcchk_at (n r : Int) (a : Option Addr) (L c : Nat) (ids : List Int) (w : World) (hl : ids.length = L) (hL : L ≤ 1000000000) (hr : IsRow .i64 w a L L ids) (q : Bool) (hq : okK 4 n r ids = q) :
    Calls Try.prog 30 #[.agg #[.int .i64 4, .int .i64 n, .int .i64 r, .slice a L c]] w fun e w' => e = .returned (.bool q) ∧ Below w.heap.size w w' := by
  have hX1 := heap_alloc_new w (.cells #[.int .i64 4, .int .i64 n, .int .i64 r, .slice a L c] 34)
  have hB1 := (Below.refl w.heap.size w).alloc (Nat.le_refl _) (.cells #[.int .i64 4, .int .i64 n, .int .i64 r, .slice a L c] 34)
  obtain ⟨w1, hw1⟩ : ∃ w1, w.alloc (.cells #[.int .i64 4, .int .i64 n, .int .i64 r, .slice a L c] 34) = w1 := ⟨_, rfl⟩
  rw [hw1] at hX1 hB1
  obtain ⟨c0, c1, c2, c3⟩ := rec_reads hX1
  have HB1 := Lib.hid hB1
  unfold okK at hq
  rw [if_pos rfl] at hq
  obtain ⟨q3, hq3⟩ : ∃ q3, risF (-1) ids = q3 := ⟨_, rfl⟩
  rw [hq3] at hq
  have H1 := Lib.hid (rcrise_any a L c ids w1 q3 hl hL (hr.below hB1) hq3)
  clear hX1 hB1 hl hr hq3
  by_cases hn : n = 0
  · subst hn
    by_cases hr0 : r = 0
    · subst hr0
      obtain rfl : q = q3 := by rw [← hq]; rfl
      clear hq
      go_enter Try.func30, Try.ntmps30
      go_wp2_with fail
      try rw [hw1]
      refine H1.out.mono ?_
      rintro e w2 ⟨rfl, hw⟩
      subst hw
      go_wp2
      go_ret
      exact ⟨rfl, HB1.out⟩
    · obtain rfl : q = false := by rw [← hq, decide_eq_false hr0]; simp
      have g1 : (r == 0) = false := by simpa using hr0
      clear hq hr0
      go_enter Try.func30, Try.ntmps30
      go_wp2
      go_ret
      try rw [hw1]
      exact ⟨rfl, HB1.out⟩
  · obtain rfl : q = false := by rw [← hq, decide_eq_false hn]; simp
    have g1 : (n == 0) = false := by simpa using hn
    clear hq hn
    go_enter Try.func30, Try.ntmps30
    go_wp2
    go_ret
    try rw [hw1]
    exact ⟨rfl, HB1.out⟩

set_option maxHeartbeats 2000000 in
theorem rcchk_else (k n r : Int) (a : Option Addr) (L c : Nat) (w : World) (hk : ¬ (1 ≤ k ∧ k ≤ 6)) :
    Calls Try.prog 30 #[.agg #[.int .i64 k, .int .i64 n, .int .i64 r, .slice a L c]] w fun e w' => e = .returned (.bool false) ∧ Below w.heap.size w w' := by
  have g1 : (k == 1) = false := by simp; omega
  have g2 : (k == 2) = false := by simp; omega
  have g3 : (k == 3) = false := by simp; omega
  have g4 : (k == 4) = false := by simp; omega
  have g5 : (k == 5) = false := by simp; omega
  have g6 : (k == 6) = false := by simp; omega
  have HB1 := Lib.hid ((Below.refl w.heap.size w).alloc (Nat.le_refl _) (.cells #[.int .i64 k, .int .i64 n, .int .i64 r, .slice a L c] 34))
  clear hk
  go_enter Try.func30, Try.ntmps30
  go_wp2
  go_ret
  exact ⟨rfl, HB1.out⟩

theorem rccheck_any (k n r : Int) (a : Option Addr) (L c : Nat) (ids : List Int) (w : World) (hl : ids.length = L) (hL : L ≤ 1000000000) (hr : IsRow .i64 w a L L ids) (q : Bool) (hq : okK k n r ids = q) :
    Calls Try.prog 30 #[.agg #[.int .i64 k, .int .i64 n, .int .i64 r, .slice a L c]] w fun e w' => e = .returned (.bool q) ∧ Below w.heap.size w w' := by
  by_cases h4 : k = 4
  · subst h4
    exact rcchk_at n r a L c ids w hl hL hr q hq
  · by_cases hk : 1 ≤ k ∧ k ≤ 6
    · exact rcchk_no k n r a L c ids w hl (by omega) q hq
    · have : okK k n r ids = false := by
        cases h : okK k n r ids with
        | false => rfl
        | true => exact absurd (ok_kind h) hk
      rw [this] at hq
      subst hq
      exact rcchk_else k n r a L c w hk
end Go.Proofs.Ytlfofdgeaigpbaa
