/-
  The document's Next of a lens's state, where bytes are looked at: walked. (Written by mkLnT.py.)
-/
import Derived.Test.YtjmaccflnfaiiaaLnN
set_option linter.unusedSimpArgs false
set_option linter.unusedVariables false
namespace Go.Proofs.Ytjmaccflnfaiiaa
open Go.RowKit

/-- Two at records that say these numbers. -/
theorem lntwo_any {W1 W2 : World} (V : World) {x u : Rv} {y z : Rn} (h : Say W1 x y) (h2 : Say W2 u z) :
    Calls Try.prog 30 #[.agg #[.int .i64 x.k, .int .i64 x.n, .int .i64 x.r, .slice x.a x.len x.cap], .agg #[.int .i64 u.k, .int .i64 u.n, .int .i64 u.r, .slice u.a u.len u.cap]] V fun e V' => ∃ q : Rv, e = .returned (.tuple #[.agg #[.int .i64 q.k, .int .i64 q.n, .int .i64 q.r, .slice q.a q.len q.cap], .bool (twoB y.rv z.rv)]) ∧ Below V.heap.size V V' := by
  refine (mgrtwo_any x.k x.n x.r x.a x.len x.cap u.k u.n u.r u.a u.len u.cap V).mono fun e V' hr => ?_
  obtain ⟨hr, hb⟩ := hr
  rw [← h.two h2]
  exact ⟨_, hr, hb⟩

set_option maxRecDepth 100000 in
set_option maxHeartbeats 4000000 in
theorem lnnext_bad {W : World} (L : List Rn) (t : List UInt8) (cl : Bool) {a : Option Addr} {m c : Nat} (h : LnAt W L a m c) (hm : m ≤ 1000) (ht : t.length ≤ 1000000000) (h6 : (lnLast L).k ≠ 6) (he : (tkR t).e ≠ 0) :
    Calls Try.prog 12 #[.agg #[.slice a m c, .string ⟨t.toArray⟩, .bool cl, .int .i64 0]] W (RetLn ⟨L, t, cl, 0⟩ W) := by
  obtain ⟨w1, hw1⟩ : ∃ w1, W.alloc (.cells #[.slice a m c, .string ⟨t.toArray⟩, .bool cl, .int .i64 0] 31) = w1 := ⟨_, rfl⟩
  have hX1 : w1.heap[W.heap.size]? = some (.cells #[.slice a m c, .string ⟨t.toArray⟩, .bool cl, .int .i64 0] 31 (0, 0)) := by rw [← hw1]; exact heap_alloc_new W _
  have hB1 : Below W.heap.size W w1 := by rw [← hw1]; exact (Below.refl W.heap.size W).alloc (Nat.le_refl _) _
  have hs1 : w1.heap.size = W.heap.size + 1 := by rw [← hw1]; simp
  obtain ⟨w2, hw2⟩ : ∃ w2, w1.alloc (.cells #[.slice none 0 0, .string ⟨#[]⟩, .bool false, .int .i64 0] 31) = w2 := ⟨_, rfl⟩
  have hR2 : w2.heap[w1.heap.size]? = some (.cells #[.slice none 0 0, .string ⟨#[]⟩, .bool false, .int .i64 0] 31 (0, 0)) := by rw [← hw2]; exact heap_alloc_new w1 _
  have hB2' : Below w1.heap.size w1 w2 := by rw [← hw2]; exact (Below.refl w1.heap.size w1).alloc (Nat.le_refl _) _
  have hB2 : Below W.heap.size W w2 := hB1.trans (hB2'.mono hB1.size)
  have hX2 := (hB2'.block _ (by omega)).trans hX1
  rw [hs1] at hR2
  have HX := Lib.hid (show LnBx W w2 _ from ⟨hX2, hR2, hB2⟩)
  obtain ⟨c0, c1, c2, c3⟩ := rec_reads hX2
  clear hX1 hB1 hR2 hB2' hB2 hX2
  have hed := lnended_ref (W := w2) ⟨t.toArray⟩ cl 0 (h.below HX.out.2.2) (by omega)
  rw [decide_eq_false h6] at hed
  have HED := Lib.hid hed
  have HAt := Lib.hid h
  have HT := Lib.hid (fun V => rtake_any t V ht)
  have HD : Hid ((tkR t).e = 4 → cl = false → lnNext ⟨L, t, cl, 0⟩ = (⟨L, t, cl, 0⟩, false)) := Lib.hid (fun g1 g2 => ln_wait (s := ⟨L, t, cl, 0⟩) rfl h6 g1 g2)
  have HE : Hid (¬ ((tkR t).e = 4 ∧ cl = false) → lnNext ⟨L, t, cl, 0⟩ = (⟨L, t, cl, (tkR t).e⟩, false)) := Lib.hid (fun g => ln_err (s := ⟨L, t, cl, 0⟩) rfl h6 g he)
  generalize tkR t = T at HT HD HE he
  obtain ⟨Te, Tk, Tn, Tr, Ti, Ts⟩ := T
  dsimp only at HD HE he
  unfold RetTk at HT
  dsimp only at HT
  have ge : (Te == 0) = false := by simpa using he
  have ge2 : (Te != 0) = true := by simpa using he
  clear hed h h6
  by_cases g4 : Te = 4
  · subst g4
    cases cl with
    | false =>
      have HN := Lib.hid (HD.out rfl rfl)
      clear HD HE he ge ge2
      go_enter Try.func12, Try.ntmps12
      go_wp2_with fail
      try rw [hw1]
      try rw [hw2]
      refine HED.out.mono ?_
      rintro e w3 ⟨rfl, hb⟩
      have HX3 := Lib.hid (HX.out.below hb)
      obtain ⟨c0, c1, c2, c3⟩ := rec_reads HX3.out.1
      have HT3 := Lib.hid (HT.out w3)
      clear hb hw1 hw2 HX HED HT hs1
      go_wp2_with fail
      refine HT3.out.mono ?_
      rintro e w4 ⟨ao, cap, rfl, hrow, hb⟩
      have HX4 := Lib.hid (HX3.out.below hb)
      have hX5 := heap_alloc_new w4 (.cells #[.int .i64 Tk, .int .i64 Tn, .int .i64 Tr, .slice ao Ti.length cap] 34)
      have hB5 := (Below.refl w4.heap.size w4).alloc (Nat.le_refl _) (.cells #[.int .i64 Tk, .int .i64 Tn, .int .i64 Tr, .slice ao Ti.length cap] 34)
      obtain ⟨w5, hw5⟩ : ∃ w5, w4.alloc (.cells #[.int .i64 Tk, .int .i64 Tn, .int .i64 Tr, .slice ao Ti.length cap] 34) = w5 := ⟨_, rfl⟩
      rw [hw5] at hX5 hB5
      have HX5 := Lib.hid (HX4.out.below hB5)
      obtain ⟨c0, c1, c2, c3⟩ := rec_reads HX5.out.1
      clear hrow hb hX5 hB5
      obtain ⟨f0, f1, f2, f3⟩ := rec_free HX5.out.2.1
      obtain ⟨j0, j1, j2, j3⟩ := rec_reads HX5.out.2.1
      have HF := Lib.hid (put_rec HX5.out.2.1 (.slice a m c) (.string ⟨t.toArray⟩) (.bool false) (.int .i64 0))
      have HBe := Lib.hid (below_rec HX5.out.2.2 (r := W.heap.size + 1) (by omega) (.slice a m c) (.string ⟨t.toArray⟩) (.bool false) (.int .i64 0))
      have HA := Lib.hid (HAt.out.below HBe.out)
      go_wp2
      try rw [hw5]
      obtain ⟨i0, i1, i2, i3⟩ := rec_reads HF.out
      refine bodyPost_ret (v := .tuple #[.agg #[.slice a m c, .string ⟨t.toArray⟩, .bool false, .int .i64 0], .bool false]) (by simp [results, Try.results12, go_sem, i0, i1, i2, i3]) rfl ?_
      exact RetLn.of HN.out HA.out HBe.out
    | true =>
      have HN := Lib.hid (HE.out (fun g => by cases g.2))
      clear HD HE he ge ge2
      go_enter Try.func12, Try.ntmps12
      go_wp2_with fail
      try rw [hw1]
      try rw [hw2]
      refine HED.out.mono ?_
      rintro e w3 ⟨rfl, hb⟩
      have HX3 := Lib.hid (HX.out.below hb)
      obtain ⟨c0, c1, c2, c3⟩ := rec_reads HX3.out.1
      have HT3 := Lib.hid (HT.out w3)
      clear hb hw1 hw2 HX HED HT hs1
      go_wp2_with fail
      refine HT3.out.mono ?_
      rintro e w4 ⟨ao, cap, rfl, hrow, hb⟩
      have HX4 := Lib.hid (HX3.out.below hb)
      have hX5 := heap_alloc_new w4 (.cells #[.int .i64 Tk, .int .i64 Tn, .int .i64 Tr, .slice ao Ti.length cap] 34)
      have hB5 := (Below.refl w4.heap.size w4).alloc (Nat.le_refl _) (.cells #[.int .i64 Tk, .int .i64 Tn, .int .i64 Tr, .slice ao Ti.length cap] 34)
      obtain ⟨w5, hw5⟩ : ∃ w5, w4.alloc (.cells #[.int .i64 Tk, .int .i64 Tn, .int .i64 Tr, .slice ao Ti.length cap] 34) = w5 := ⟨_, rfl⟩
      rw [hw5] at hX5 hB5
      have HX5 := Lib.hid (HX4.out.below hB5)
      obtain ⟨c0, c1, c2, c3⟩ := rec_reads HX5.out.1
      have HFL := Lib.hid (lnfail_any w5 a m c ⟨t.toArray⟩ true 0 4)
      clear hrow hb hX5 hB5
      go_wp2_with fail
      try rw [hw5]
      refine HFL.out.mono ?_
      rintro e w6 ⟨rfl, hb⟩
      have HX6 := Lib.hid (HX5.out.below hb)
      clear hb hw5 HFL c0 c1 c2 c3
      obtain ⟨f0, f1, f2, f3⟩ := rec_free HX6.out.2.1
      obtain ⟨j0, j1, j2, j3⟩ := rec_reads HX6.out.2.1
      have HF := Lib.hid (put_rec HX6.out.2.1 (.slice a m c) (.string ⟨t.toArray⟩) (.bool true) (.int .i64 4))
      have HBe := Lib.hid (below_rec HX6.out.2.2 (r := W.heap.size + 1) (by omega) (.slice a m c) (.string ⟨t.toArray⟩) (.bool true) (.int .i64 4))
      have HA := Lib.hid (HAt.out.below HBe.out)
      go_wp2
      obtain ⟨i0, i1, i2, i3⟩ := rec_reads HF.out
      refine bodyPost_ret (v := .tuple #[.agg #[.slice a m c, .string ⟨t.toArray⟩, .bool true, .int .i64 4], .bool false]) (by simp [results, Try.results12, go_sem, i0, i1, i2, i3]) rfl ?_
      exact RetLn.of HN.out HA.out HBe.out
  · have HN := Lib.hid (HE.out (fun g => g4 g.1))
    have gf : (Te == 4) = false := by simpa using g4
    clear HD HE he g4
    go_enter Try.func12, Try.ntmps12
    go_wp2_with fail
    try rw [hw1]
    try rw [hw2]
    refine HED.out.mono ?_
    rintro e w3 ⟨rfl, hb⟩
    have HX3 := Lib.hid (HX.out.below hb)
    obtain ⟨c0, c1, c2, c3⟩ := rec_reads HX3.out.1
    have HT3 := Lib.hid (HT.out w3)
    clear hb hw1 hw2 HX HED HT hs1
    go_wp2_with fail
    refine HT3.out.mono ?_
    rintro e w4 ⟨ao, cap, rfl, hrow, hb⟩
    have HX4 := Lib.hid (HX3.out.below hb)
    have hX5 := heap_alloc_new w4 (.cells #[.int .i64 Tk, .int .i64 Tn, .int .i64 Tr, .slice ao Ti.length cap] 34)
    have hB5 := (Below.refl w4.heap.size w4).alloc (Nat.le_refl _) (.cells #[.int .i64 Tk, .int .i64 Tn, .int .i64 Tr, .slice ao Ti.length cap] 34)
    obtain ⟨w5, hw5⟩ : ∃ w5, w4.alloc (.cells #[.int .i64 Tk, .int .i64 Tn, .int .i64 Tr, .slice ao Ti.length cap] 34) = w5 := ⟨_, rfl⟩
    rw [hw5] at hX5 hB5
    have HX5 := Lib.hid (HX4.out.below hB5)
    obtain ⟨c0, c1, c2, c3⟩ := rec_reads HX5.out.1
    have HFL := Lib.hid (lnfail_any w5 a m c ⟨t.toArray⟩ cl 0 Te)
    clear hrow hb hX5 hB5
    go_wp2_with fail
    try rw [hw5]
    refine HFL.out.mono ?_
    rintro e w6 ⟨rfl, hb⟩
    have HX6 := Lib.hid (HX5.out.below hb)
    clear hb hw5 HFL c0 c1 c2 c3
    obtain ⟨f0, f1, f2, f3⟩ := rec_free HX6.out.2.1
    obtain ⟨j0, j1, j2, j3⟩ := rec_reads HX6.out.2.1
    have HF := Lib.hid (put_rec HX6.out.2.1 (.slice a m c) (.string ⟨t.toArray⟩) (.bool cl) (.int .i64 Te))
    have HBe := Lib.hid (below_rec HX6.out.2.2 (r := W.heap.size + 1) (by omega) (.slice a m c) (.string ⟨t.toArray⟩) (.bool cl) (.int .i64 Te))
    have HA := Lib.hid (HAt.out.below HBe.out)
    go_wp2
    obtain ⟨i0, i1, i2, i3⟩ := rec_reads HF.out
    refine bodyPost_ret (v := .tuple #[.agg #[.slice a m c, .string ⟨t.toArray⟩, .bool cl, .int .i64 Te], .bool false]) (by simp [results, Try.results12, go_sem, i0, i1, i2, i3]) rfl ?_
    exact RetLn.of HN.out HA.out HBe.out
end Go.Proofs.Ytjmaccflnfaiiaa
