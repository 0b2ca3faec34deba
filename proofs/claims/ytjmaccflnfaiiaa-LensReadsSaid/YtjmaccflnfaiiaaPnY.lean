/-
  The document's May, walked. (Written by mkPnY.py.)
-/
import Derived.Test.YtjmaccflnfaiiaaBn6
set_option linter.unusedSimpArgs false
set_option linter.unusedVariables false
namespace Go.Proofs.Ytjmaccflnfaiiaa
open Go.RowKit

set_option maxRecDepth 100000 in
set_option maxHeartbeats 2000000 in
theorem rpnmay_any {w W : World} {rs : List Rv} {a : Option Addr} {m ca : Nat} (hm : rs.length = m) (hml : m ≤ 1000000) (ha : RecAt W a rs) {k n r : Int} {ra : Option Addr} {L c : Nat} (hl : L ≤ 1000000)
    (h1 : (rvI w ⟨k, n, r, ra, L, c⟩).length = L) (h2 : IsRow .i64 W ra L L (rvI w ⟨k, n, r, ra, L, c⟩)) :
    Calls Try.prog 35 #[.slice a m ca, .agg #[.int .i64 k, .int .i64 n, .int .i64 r, .slice ra L c]] W fun e W' => e = .returned (.int .i64 (mayE (rvOk w) rs ⟨k, n, r, ra, L, c⟩)) ∧ Below W.heap.size W W' := by
  have hX := heap_alloc_new W (.cells #[.int .i64 k, .int .i64 n, .int .i64 r, .slice ra L c] 34)
  have hB := (Below.refl W.heap.size W).alloc (Nat.le_refl _) (.cells #[.int .i64 k, .int .i64 n, .int .i64 r, .slice ra L c] 34)
  obtain ⟨W1, hW1⟩ : ∃ W1, W.alloc (.cells #[.int .i64 k, .int .i64 n, .int .i64 r, .slice ra L c] 34) = W1 := ⟨_, rfl⟩
  rw [hW1] at hX hB
  obtain ⟨c0, c1, c2, c3⟩ := rec_reads hX
  have HC := Lib.hid (pn_rcheck (W := W1) hl h1 (h2.below hB))
  have HX := Lib.hid hX
  have HB := Lib.hid hB
  have hA := ha.below hB
  have HM := Lib.hid (fun e => may_end (ok := rvOk w) (l := rs) (x := ⟨k, n, r, ra, L, c⟩) e)
  have HM2 := Lib.hid (fun e f => may_bad (ok := rvOk w) (l := rs) (x := ⟨k, n, r, ra, L, c⟩) e f)
  have HM3 := Lib.hid (fun e f g => may_order (ok := rvOk w) (l := rs) (x := ⟨k, n, r, ra, L, c⟩) e f g)
  have HM4 := Lib.hid (fun e f g => may_ok (ok := rvOk w) (l := rs) (x := ⟨k, n, r, ra, L, c⟩) e f g)
  generalize mayE (rvOk w) rs ⟨k, n, r, ra, L, c⟩ = E at HM HM2 HM3 HM4 ⊢
  dsimp only at HM3 HM4
  generalize rvOk w ⟨k, n, r, ra, L, c⟩ = q at HC HM2 HM3 HM4
  clear hX hB h1 h2 ha hl
  rcases Nat.eq_zero_or_pos m with h0 | h0
  · subst h0
    obtain rfl : rs = [] := List.eq_nil_of_length_eq_zero hm
    have e6 : lastK ([] : List Rv) ≠ 6 := by rw [lastK_nil]; decide
    clear hA
    cases q with
    | false =>
      have HE := Lib.hid (HM2.out e6 rfl)
      clear HM HM2 HM3 HM4
      go_enter Try.func35, Try.ntmps35
      go_wp2_with fail
      try rw [hW1]
      refine HC.out.mono ?_
      rintro e W2 ⟨rfl, hb⟩
      have HB2 := Lib.hid (HB.out.trans (hb.mono HB.out.size))
      have hX2 := (hb.block _ (heap_lt HX.out)).trans HX.out
      skip
      obtain ⟨d0, d1, d2, d3⟩ := rec_reads hX2
      clear HC hb hX2 c0 c1 c2 c3 hW1
      go_wp2
      go_ret
      exact ⟨by rw [HE.out]; rfl, HB2.out⟩
    | true =>
      by_cases h5 : k = 5
      · subst h5
        have HE := Lib.hid (HM3.out e6 rfl ⟨rfl, .inl rfl⟩)
        clear HM HM2 HM3 HM4
        go_enter Try.func35, Try.ntmps35
        go_wp2_with fail
        try rw [hW1]
        refine HC.out.mono ?_
        rintro e W2 ⟨rfl, hb⟩
        have HB2 := Lib.hid (HB.out.trans (hb.mono HB.out.size))
        have hX2 := (hb.block _ (heap_lt HX.out)).trans HX.out
        skip
        obtain ⟨d0, d1, d2, d3⟩ := rec_reads hX2
        clear HC hb hX2 c0 c1 c2 c3 hW1
        go_wp2
        go_ret
        exact ⟨by rw [HE.out]; rfl, HB2.out⟩
      · have HE := Lib.hid (HM4.out e6 rfl (fun h => h5 h.1))
        have g5 : (k == 5) = false := by simpa using h5
        clear HM HM2 HM3 HM4 h5
        go_enter Try.func35, Try.ntmps35
        go_wp2_with fail
        try rw [hW1]
        refine HC.out.mono ?_
        rintro e W2 ⟨rfl, hb⟩
        have HB2 := Lib.hid (HB.out.trans (hb.mono HB.out.size))
        have hX2 := (hb.block _ (heap_lt HX.out)).trans HX.out
        skip
        obtain ⟨d0, d1, d2, d3⟩ := rec_reads hX2
        clear HC hb hX2 c0 c1 c2 c3 hW1
        go_wp2
        go_ret
        exact ⟨by rw [HE.out]; rfl, HB2.out⟩
  · obtain ⟨p, rfl⟩ : ∃ p, m = p + 1 := ⟨m - 1, by omega⟩
    obtain ⟨b1, off1, ⟨yk, yn, yr, ya, yl, yc⟩, rfl, hy, y0, y1, y2, y3⟩ := hA.get (i := p) (by omega)
    dsimp only at y0 y1 y2 y3
    have ek : lastK rs = yk := by
      unfold lastK
      rw [List.getLast?_eq_getElem?, show rs.length - 1 = p by omega, hy]
    rw [ek] at HM HM2 HM3 HM4
    have u0 : (0 : Int) ≤ (p : Int) := by omega
    have u1 : (p : Int) < (p : Int) + 1 := by omega
    have u2 : (p : Int) ≤ 1000000 := by omega
    have u3 : rs.length ≠ 0 := by omega
    have HA := Lib.hid hA
    clear hA hy ek y1 y2 y3 h0 hm
    by_cases h6 : yk = 6
    · subst h6
      have HE := Lib.hid (HM.out rfl)
      clear HM HM2 HM3 HM4 HC
      go_enter Try.func35, Try.ntmps35
      go_wp2_with fail
      try rw [hW1]
      go_wp2
      go_ret
      exact ⟨by rw [HE.out]; rfl, HB.out⟩
    · have g6 : (yk == 6) = false := by simpa using h6
      cases q with
      | false =>
        have HE := Lib.hid (HM2.out h6 rfl)
        clear HM HM2 HM3 HM4 h6
        go_enter Try.func35, Try.ntmps35
        go_wp2_with fail
        try rw [hW1]
        refine HC.out.mono ?_
        rintro e W2 ⟨rfl, hb⟩
        have HB2 := Lib.hid (HB.out.trans (hb.mono HB.out.size))
        have hX2 := (hb.block _ (heap_lt HX.out)).trans HX.out
        have e0 := cells_below y0 hb
        obtain ⟨d0, d1, d2, d3⟩ := rec_reads hX2
        clear HC hb hX2 c0 c1 c2 c3 hW1
        go_wp2
        go_ret
        exact ⟨by rw [HE.out]; rfl, HB2.out⟩
      | true =>
        by_cases h5 : k = 5
        · subst h5
          by_cases h7 : yk = 5
          · subst h7
            have HE := Lib.hid (HM3.out h6 rfl ⟨rfl, .inr rfl⟩)
            clear HM HM2 HM3 HM4 h6
            go_enter Try.func35, Try.ntmps35
            go_wp2_with fail
            try rw [hW1]
            refine HC.out.mono ?_
            rintro e W2 ⟨rfl, hb⟩
            have HB2 := Lib.hid (HB.out.trans (hb.mono HB.out.size))
            have hX2 := (hb.block _ (heap_lt HX.out)).trans HX.out
            have e0 := cells_below y0 hb
            obtain ⟨d0, d1, d2, d3⟩ := rec_reads hX2
            clear HC hb hX2 c0 c1 c2 c3 hW1
            go_wp2
            go_ret
            exact ⟨by rw [HE.out]; rfl, HB2.out⟩
          · have HE := Lib.hid (HM4.out h6 rfl (fun h => h.2.elim u3 h7))
            have g7 : (yk == 5) = false := by simpa using h7
            clear HM HM2 HM3 HM4 h6 h7
            go_enter Try.func35, Try.ntmps35
            go_wp2_with fail
            try rw [hW1]
            refine HC.out.mono ?_
            rintro e W2 ⟨rfl, hb⟩
            have HB2 := Lib.hid (HB.out.trans (hb.mono HB.out.size))
            have hX2 := (hb.block _ (heap_lt HX.out)).trans HX.out
            have e0 := cells_below y0 hb
            obtain ⟨d0, d1, d2, d3⟩ := rec_reads hX2
            clear HC hb hX2 c0 c1 c2 c3 hW1
            go_wp2
            go_ret
            exact ⟨by rw [HE.out]; rfl, HB2.out⟩
        · have HE := Lib.hid (HM4.out h6 rfl (fun h => h5 h.1))
          have g5 : (k == 5) = false := by simpa using h5
          clear HM HM2 HM3 HM4 h5 h6
          go_enter Try.func35, Try.ntmps35
          go_wp2_with fail
          try rw [hW1]
          refine HC.out.mono ?_
          rintro e W2 ⟨rfl, hb⟩
          have HB2 := Lib.hid (HB.out.trans (hb.mono HB.out.size))
          have hX2 := (hb.block _ (heap_lt HX.out)).trans HX.out
          have e0 := cells_below y0 hb
          obtain ⟨d0, d1, d2, d3⟩ := rec_reads hX2
          clear HC hb hX2 c0 c1 c2 c3 hW1
          go_wp2
          go_ret
          exact ⟨by rw [HE.out]; rfl, HB2.out⟩
end Go.Proofs.Ytjmaccflnfaiiaa
