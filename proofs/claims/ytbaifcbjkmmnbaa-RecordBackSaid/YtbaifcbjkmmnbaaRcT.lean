/-
  record: the reader's record: walked.
-/
import Derived.Test.YtbaifcbjkmmnbaaRcI
import Derived.Test.YtbaifcbjkmmnbaaRecC
import Derived.Test.YtbaifcbjkmmnbaaOwnLe
set_option linter.unusedSimpArgs false
set_option linter.unusedVariables false
namespace Go.Proofs.Ytbaifcbjkmmnbaa
open Go.RowKit

theorem But.putTo {base b r : Nat} {w v : World} (h : But base b w v) (hr : base ≤ r) (i : Nat) (u : Value) : But base b w (v.setCell ⟨r, i, none⟩ u) :=
  h.trans ⟨rfl, rfl, rfl, by simp [World.setCell], fun k hk _ => put_other (by omega) u⟩
theorem But.four {base b r : Nat} {w v : World} (h : But base b w v) (hr : base ≤ r) (x0 x1 x2 x3 : Value) : But base b w ((((v.setCell ⟨r, 0, none⟩ x0).setCell ⟨r, 1, none⟩ x1).setCell ⟨r, 2, none⟩ x2).setCell ⟨r, 3, none⟩ x3) :=
  (((h.putTo hr _ _).putTo hr _ _).putTo hr _ _).putTo hr _ _
theorem IsRr.putTo {w : World} {b r : Nat} {s : List UInt8} {x : Int} (h : IsRr w b s x) (hr : b < r) (i : Nat) (u : Value) : IsRr (w.setCell ⟨r, i, none⟩ u) b s x := h.kept (put_other (by omega) u)
theorem IsRr.four {w : World} {b r : Nat} {s : List UInt8} {x : Int} (h : IsRr w b s x) (hr : b < r) (x0 x1 x2 x3 : Value) : IsRr ((((w.setCell ⟨r, 0, none⟩ x0).setCell ⟨r, 1, none⟩ x1).setCell ⟨r, 2, none⟩ x2).setCell ⟨r, 3, none⟩ x3) b s x :=
  (((h.putTo hr _ _).putTo hr _ _).putTo hr _ _).putTo hr _ _

set_option maxRecDepth 100000 in
set_option maxHeartbeats 4000000 in
theorem rcrec_no {w : World} {b : Nat} {s t t1 t2 : List UInt8} {k x1 y1 z1 y2 z2 n1 n2 : Int} (h : IsRr w b s 0) (hs : t.length ≤ 1000000000) (hk : ¬ k = 4)
    (HK : ∀ W, IsRr W b s 0 → Calls Try.prog 28 #[.pointer (some ⟨b, 0, none⟩)] W fun r w' => r = .returned (.int .i64 k) ∧ IsRr w' b t x1 ∧ Into b W w')
    (e1 : numY x1 t = y1) (en1 : (if y1 = 0 then tN t else 0) = n1) (et1 : (if y1 = 0 then psv t else t) = t1) (ez1 : askX y1 (fitK k n1) 11 = z1)
    (e2 : numY z1 t1 = y2) (en2 : (if y2 = 0 then tN t1 else 0) = n2) (et2 : (if y2 = 0 then psv t1 else t1) = t2) (ez2 : askX y2 (fitK k n2) 11 = z2) :
    Calls Try.prog 20 #[.pointer (some ⟨b, 0, none⟩)] w fun r w' => r = .returned (.agg #[.int .i64 k, .int .i64 n1, .int .i64 n2, .slice none 0 0]) ∧ IsRr w' b t2 z2 ∧ But w.heap.size b w w' := by
  have hlt := h.lt
  obtain ⟨w1, hw1⟩ : ∃ w1, w.alloc (.cells #[.int .i64 0, .int .i64 0, .int .i64 0, .slice none 0 0] 24) = w1 := ⟨_, rfl⟩
  have hX1 : w1.heap[w.heap.size]? = some (.cells #[.int .i64 0, .int .i64 0, .int .i64 0, .slice none 0 0] 24 (0, 0)) := by rw [← hw1]; exact heap_alloc_new w _
  have hB1 : Below w.heap.size w w1 := by rw [← hw1]; exact (Below.refl w.heap.size w).alloc (Nat.le_refl _) _
  have hz1 : w1.heap.size = w.heap.size + 1 := by rw [← hw1]; simp
  have H1 := Lib.hid (HK w1 (h.kept (hB1.block b hlt)))
  have hl1 : t1.length ≤ 1000000000 := by rw [← et1]; have := psv_le t; split <;> omega
  have H2 := Lib.hid (fun (W : World) (hW : IsRr W b t x1) => rcfitting_any hW k y1 z1 e1 (by rw [en1]; exact ez1) hs)
  have H3 := Lib.hid (fun (W : World) (hW : IsRr W b t1 z1) => rcfitting_any hW k y2 z2 e2 (by rw [en2]; exact ez2) hl1)
  rw [en1, et1] at H2
  rw [en2, et2] at H3
  clear HK h e1 en1 et1 ez1 e2 en2 et2 ez2 hs hl1
  go_enter Try.func20, Try.ntmps20
  go_wp2_with fail
  try rw [hw1]
  refine H1.out.mono ?_
  rintro e w2 ⟨rfl, hr2, hi2⟩
  have hz2 : w2.heap.size = w.heap.size + 1 := hi2.size.trans hz1
  have hX2 := (hi2.block w.heap.size (by omega)).trans hX1
  have hB2 := (But.of hB1 (b := b)).trans (But.into hi2)
  have hN3 := heap_alloc_new w2 (.cells #[.int .i64 k, .int .i64 0, .int .i64 0, .slice none 0 0] 24)
  have hb3 := (Below.refl w2.heap.size w2).alloc (Nat.le_refl _) (.cells #[.int .i64 k, .int .i64 0, .int .i64 0, .slice none 0 0] 24)
  obtain ⟨w3, hw3⟩ : ∃ w3, w2.alloc (.cells #[.int .i64 k, .int .i64 0, .int .i64 0, .slice none 0 0] 24) = w3 := ⟨_, rfl⟩
  have hz3 : w3.heap.size = w.heap.size + 2 := by rw [← hw3]; simp; omega
  rw [hw3] at hN3 hb3
  have hX3 := (hb3.block w.heap.size (by omega)).trans hX2
  have hr3 := hr2.kept (hb3.block b (by omega))
  have hB3 := hB2.trans (But.of (hb3.mono (by omega)) (b := b))
  have H4 := Lib.hid (H2.out w3 hr3)
  have HZ := Lib.hid (And.intro hz2 (And.intro hz3 hw3))
  clear H1 H2 hr2 hi2 hX1 hX2 hB1 hB2 hb3 hr3 hw1 hz1 hz2 hz3 hw3
  go_wp2_with fail
  rw [HZ.out.2.2]
  refine H4.out.mono ?_
  rintro e w4 ⟨rfl, hr4, hb4⟩
  obtain ⟨hz2, hz3, _⟩ := HZ.out
  have hN4 := (hb4.block w2.heap.size (by omega) (by omega)).trans hN3
  have hX4 := (hb4.block w.heap.size (by omega) (by omega)).trans hX3
  have hB4 := hB3.trans (But.less hb4 (by omega))
  have hz4 := hb4.size
  obtain ⟨c0, c1, c2, c3⟩ := rec_reads hN4
  obtain ⟨f0, f1, f2, f3⟩ := rec_free hN4
  have hN5 := put_heap hN4 (i := 1) (.int .i64 n1)
  rw [show (#[Value.int .i64 k, .int .i64 0, .int .i64 0, .slice none 0 0] : Array Value).setIfInBounds 1 (.int .i64 n1) = #[.int .i64 k, .int .i64 n1, .int .i64 0, .slice none 0 0] from rfl] at hN5
  have HN5 := Lib.hid hN5
  have HX5 := Lib.hid ((put_other (w := w4) (b := w2.heap.size) (i := 1) (k := w.heap.size) (by omega) (.int .i64 n1)).trans hX4)
  have HB5 := Lib.hid (hB4.putTo (r := w2.heap.size) (by omega) 1 (.int .i64 n1))
  have H5 := Lib.hid (H3.out _ (hr4.putTo (r := w2.heap.size) (by omega) 1 (.int .i64 n1)))
  have hz5 : (w4.setCell ⟨w2.heap.size, 1, none⟩ (.int .i64 n1)).heap.size = w4.heap.size := by simp [World.setCell]
  have HZ5 := Lib.hid hz5
  have HZ4 := Lib.hid hz4
  clear H3 H4 hr4 hb4 hX3 hN3 hB3 hN4 hX4 hB4 hN5 hz5 hz2 hz3 hz4
  go_wp2_with fail
  refine H5.out.mono ?_
  rintro e w6 ⟨rfl, hr6, hb6⟩
  obtain ⟨hz2, hz3, _⟩ := HZ.out
  have hz4 := HZ4.out
  have hN6 := (hb6.block w2.heap.size (by rw [HZ5.out]; omega) (by omega)).trans HN5.out
  have hX6 := (hb6.block w.heap.size (by rw [HZ5.out]; omega) (by omega)).trans HX5.out
  have hB6 := HB5.out.trans (But.less hb6 (by rw [HZ5.out]; omega))
  obtain ⟨d0, d1, d2, d3⟩ := rec_reads hN6
  obtain ⟨g0, g1, g2, g3⟩ := rec_free hN6
  have hN7 := put_heap hN6 (i := 2) (.int .i64 n2)
  rw [show (#[Value.int .i64 k, .int .i64 n1, .int .i64 0, .slice none 0 0] : Array Value).setIfInBounds 2 (.int .i64 n2) = #[.int .i64 k, .int .i64 n1, .int .i64 n2, .slice none 0 0] from rfl] at hN7
  have hX7 := (put_other (w := w6) (b := w2.heap.size) (i := 2) (k := w.heap.size) (by omega) (.int .i64 n2)).trans hX6
  have HB7 := Lib.hid (hB6.putTo (r := w2.heap.size) (by omega) 2 (.int .i64 n2))
  have HR7 := Lib.hid (hr6.putTo (r := w2.heap.size) (by omega) 2 (.int .i64 n2))
  have HF := Lib.hid (put_rec hX7 (.int .i64 k) (.int .i64 n1) (.int .i64 n2) (.slice none 0 0))
  obtain ⟨p0, p1, p2, p3⟩ := rec_reads hN7
  obtain ⟨q0, q1, q2, q3⟩ := rec_free hX7
  obtain ⟨m0, m1, m2, m3⟩ := rec_reads hX7
  clear H5 hr6 hb6 HN5 HX5 HB5 HZ5 hN6 hX6 hB6 hN7 hX7 c0 c1 c2 c3 f0 f1 f2 f3 hz2 hz3 hz4
  go_wp2
  obtain ⟨i0, i1, i2, i3⟩ := rec_reads HF.out
  refine bodyPost_ret (v := .agg #[.int .i64 k, .int .i64 n1, .int .i64 n2, .slice none 0 0]) (by simp [results, Try.results20, go_sem, i0, i1, i2, i3]) rfl ?_
  exact ⟨rfl, HR7.out.four hlt _ _ _ _, HB7.out.four (Nat.le_refl _) _ _ _ _⟩
/-- What is stored into an elder block leaves what is owned as it was. -/
theorem own_putTo {w : World} {base r i : Nat} {e : TypeId} {v u : Value} {n : Nat} {xs : List Value} (h : w.ownsRow base e 1 v n xs) (hr : r < base) : (w.setCell ⟨r, i, none⟩ u).ownsRow base e 1 v n xs := ((Into.refl r w).set i u).owns hr h

set_option maxRecDepth 100000 in
set_option maxHeartbeats 4000000 in
theorem rcrec_at {w : World} {b : Nat} {s t : List UInt8} (h : IsRr w b s 0) (hs : t.length ≤ 1000000000)
    (HK : ∀ W, IsRr W b s 0 → Calls Try.prog 28 #[.pointer (some ⟨b, 0, none⟩)] W fun r w' => r = .returned (.int .i64 4) ∧ IsRr w' b t 0 ∧ Into b W w') :
    Calls Try.prog 20 #[.pointer (some ⟨b, 0, none⟩)] w fun r w' => ∃ ao m cap t', r = .returned (.agg #[.int .i64 4, .int .i64 0, .int .i64 0, .slice ao m cap]) ∧ IsRr w' b t' (idsR t).1 ∧
      ((idsR t).1 = 0 → t' = (idsR t).2.2 ∧ m = (idsR t).2.1.length ∧ w'.ownsRow w.heap.size 3 1 (.slice ao m cap) m (inCells (idsR t).2.1)) ∧ But w.heap.size b w w' := by
  have hlt := h.lt
  obtain ⟨w1, hw1⟩ : ∃ w1, w.alloc (.cells #[.int .i64 0, .int .i64 0, .int .i64 0, .slice none 0 0] 24) = w1 := ⟨_, rfl⟩
  have hX1 : w1.heap[w.heap.size]? = some (.cells #[.int .i64 0, .int .i64 0, .int .i64 0, .slice none 0 0] 24 (0, 0)) := by rw [← hw1]; exact heap_alloc_new w _
  have hB1 : Below w.heap.size w w1 := by rw [← hw1]; exact (Below.refl w.heap.size w).alloc (Nat.le_refl _) _
  have hz1 : w1.heap.size = w.heap.size + 1 := by rw [← hw1]; simp
  have H1 := Lib.hid (HK w1 (h.kept (hB1.block b hlt)))
  have H2 := Lib.hid (fun (W : World) (hW : IsRr W b t 0) => rcids_any hW hs)
  generalize idsR t = S at H2 ⊢
  clear HK h hs
  go_enter Try.func20, Try.ntmps20
  go_wp2_with fail
  try rw [hw1]
  refine H1.out.mono ?_
  rintro e w2 ⟨rfl, hr2, hi2⟩
  have hz2 : w2.heap.size = w.heap.size + 1 := hi2.size.trans hz1
  have hX2 := (hi2.block w.heap.size (by omega)).trans hX1
  have hB2 := (But.of hB1 (b := b)).trans (But.into hi2)
  have hN3 := heap_alloc_new w2 (.cells #[.int .i64 4, .int .i64 0, .int .i64 0, .slice none 0 0] 24)
  have hb3 := (Below.refl w2.heap.size w2).alloc (Nat.le_refl _) (.cells #[.int .i64 4, .int .i64 0, .int .i64 0, .slice none 0 0] 24)
  obtain ⟨w3, hw3⟩ : ∃ w3, w2.alloc (.cells #[.int .i64 4, .int .i64 0, .int .i64 0, .slice none 0 0] 24) = w3 := ⟨_, rfl⟩
  have hz3 : w3.heap.size = w.heap.size + 2 := by rw [← hw3]; simp; omega
  rw [hw3] at hN3 hb3
  have hX3 := (hb3.block w.heap.size (by omega)).trans hX2
  have hr3 := hr2.kept (hb3.block b (by omega))
  have hB3 := hB2.trans (But.of (hb3.mono (by omega)) (b := b))
  have H4 := Lib.hid (H2.out w3 hr3)
  have HZ := Lib.hid (And.intro hz2 (And.intro hz3 hw3))
  clear H1 H2 hr2 hi2 hX1 hX2 hB1 hB2 hb3 hr3 hw1 hz1 hz2 hz3 hw3
  go_wp2_with fail
  rw [HZ.out.2.2]
  refine H4.out.mono ?_
  rintro e w4 ⟨ao, m, cap, t', rfl, hr4, ho4, hb4⟩
  obtain ⟨hz2, hz3, _⟩ := HZ.out
  have hN4 := (hb4.block w2.heap.size (by omega) (by omega)).trans hN3
  have hX4 := (hb4.block w.heap.size (by omega) (by omega)).trans hX3
  have hB4 := hB3.trans (But.less hb4 (by omega))
  obtain ⟨d0, d1, d2, d3⟩ := rec_reads hN4
  obtain ⟨g0, g1, g2, g3⟩ := rec_free hN4
  have hN7 := put_heap hN4 (i := 3) (.slice ao m cap)
  rw [show (#[Value.int .i64 4, .int .i64 0, .int .i64 0, .slice none 0 0] : Array Value).setIfInBounds 3 (.slice ao m cap) = #[.int .i64 4, .int .i64 0, .int .i64 0, .slice ao m cap] from rfl] at hN7
  have hX7 := (put_other (w := w4) (b := w2.heap.size) (i := 3) (k := w.heap.size) (by omega) (.slice ao m cap)).trans hX4
  have HB7 := Lib.hid (hB4.putTo (r := w2.heap.size) (by omega) 3 (.slice ao m cap))
  have HR7 := Lib.hid (hr4.putTo (r := w2.heap.size) (by omega) 3 (.slice ao m cap))
  have HO7 := Lib.hid (fun h0 => And.intro (ho4 h0).1 (And.intro (ho4 h0).2.1 (own_less (own_putTo (r := w2.heap.size) (i := 3) (u := .slice ao m cap) (ho4 h0).2.2 (by omega)) (show w.heap.size + 1 ≤ w3.heap.size by omega))))
  have HF := Lib.hid (put_rec hX7 (.int .i64 4) (.int .i64 0) (.int .i64 0) (.slice ao m cap))
  obtain ⟨p0, p1, p2, p3⟩ := rec_reads hN7
  obtain ⟨q0, q1, q2, q3⟩ := rec_free hX7
  obtain ⟨m0, m1, m2, m3⟩ := rec_reads hX7
  clear H4 hr4 hb4 ho4 hX3 hN3 hB3 hN4 hX4 hB4 hN7 hX7 hz2 hz3
  go_wp2
  obtain ⟨i0, i1, i2, i3⟩ := rec_reads HF.out
  refine bodyPost_ret (v := .agg #[.int .i64 4, .int .i64 0, .int .i64 0, .slice ao m cap]) (by simp [results, Try.results20, go_sem, i0, i1, i2, i3]) rfl ?_
  refine ⟨ao, m, cap, t', rfl, HR7.out.four hlt _ _ _ _, fun h0 => ⟨(HO7.out h0).1, (HO7.out h0).2.1, ?_⟩, HB7.out.four (Nat.le_refl _) _ _ _ _⟩
  exact own_less (own_putTo (own_putTo (own_putTo (own_putTo (HO7.out h0).2.2 (by omega)) (by omega)) (by omega)) (by omega)) (by omega)

/-- What record answers. -/
def RetRec (T : Tk) (b : Nat) (w : World) (e : Ending) (w' : World) : Prop :=
  ∃ k n r ao m cap t, e = .returned (.agg #[.int .i64 k, .int .i64 n, .int .i64 r, .slice ao m cap]) ∧ IsRr w' b t T.e ∧
    (T.e = 0 → k = T.k ∧ n = T.n ∧ r = T.r ∧ t = T.rest ∧ m = T.ids.length ∧ w'.ownsRow w.heap.size 3 1 (.slice ao m cap) m (inCells T.ids)) ∧ But w.heap.size b w w'

/-- Two numbers, one behind the other, as one answer. -/
theorem two_run {s0 t t1 t2 : List UInt8} {k x1 y1 z1 y2 z2 n1 n2 : Int} (hx : x1 = if 1 ≤ k ∧ k ≤ 6 then 0 else 3) (hk : ¬ k = 4)
    (e1 : numY x1 t = y1) (en1 : (if y1 = 0 then tN t else 0) = n1) (et1 : (if y1 = 0 then psv t else t) = t1) (ez1 : askX y1 (fitK k n1) 11 = z1)
    (e2 : numY z1 t1 = y2) (en2 : (if y2 = 0 then tN t1 else 0) = n2) (et2 : (if y2 = 0 then psv t1 else t1) = t2) (ez2 : askX y2 (fitK k n2) 11 = z2) :
    (tkC k t s0).e = z2 ∧ (z2 = 0 → tkC k t s0 = ⟨0, k, n1, n2, [], t2⟩) := by
  have stuck : ¬ z1 = 0 → z2 = z1 := fun h => by
    have : y2 = z1 := by rw [← e2]; unfold numY; rw [if_neg h]
    subst this
    rw [← ez2, ask_stuck2 h]
  unfold tkC
  by_cases h1 : 1 ≤ k ∧ k ≤ 6
  · rw [if_pos h1] at hx
    subst hx
    rw [if_pos h1, if_neg hk]
    rw [numY, if_pos rfl] at e1
    by_cases c1 : tE t = 0
    · rw [c1] at e1
      subst e1
      rw [if_pos rfl] at en1 et1
      subst en1 et1
      by_cases c2 : fitK k (tN t) = true
      · have hf : fitE k t = 0 := by unfold fitE; rw [if_pos c1, if_pos c2]
        rw [if_pos hf]
        rw [c2, ask_true] at ez1
        subst ez1
        rw [numY, if_pos rfl] at e2
        by_cases c3 : tE (psv t) = 0
        · rw [c3] at e2
          subst e2
          rw [if_pos rfl] at en2 et2
          subst en2 et2
          by_cases c4 : fitK k (tN (psv t)) = true
          · have hf2 : fitE k (psv t) = 0 := by unfold fitE; rw [if_pos c3, if_pos c4]
            rw [if_pos hf2]
            rw [c4, ask_true] at ez2
            subst ez2
            exact ⟨rfl, fun _ => rfl⟩
          · have hf2 : fitE k (psv t) = 11 := by unfold fitE; rw [if_pos c3, if_neg c4]
            rw [hf2, if_neg (by decide)]
            rw [Bool.not_eq_true] at c4
            rw [c4] at ez2
            have : z2 = 11 := by rw [← ez2]; rfl
            exact ⟨this.symm, fun h => absurd h (by omega)⟩
        · have hf2 : fitE k (psv t) = tE (psv t) := by unfold fitE; rw [if_neg c3]
          rw [hf2, if_neg c3]
          rw [← e2, ask_stuck2 c3] at ez2
          exact ⟨ez2, fun h => absurd h (by omega)⟩
      · have hf : fitE k t = 11 := by unfold fitE; rw [if_pos c1, if_neg c2]
        rw [hf, if_neg (by decide)]
        rw [Bool.not_eq_true] at c2
        rw [c2] at ez1
        have : z1 = 11 := by rw [← ez1]; rfl
        have h2 := stuck (by omega)
        exact ⟨by show (11 : Int) = z2; omega, fun h => absurd h (by omega)⟩
    · have hf : fitE k t = tE t := by unfold fitE; rw [if_neg c1]
      rw [hf, if_neg c1]
      rw [← e1, ask_stuck2 c1] at ez1
      have h2 := stuck (by omega)
      exact ⟨by show tE t = z2; omega, fun h => absurd h (by omega)⟩
  · rw [if_neg h1] at hx
    subst hx
    rw [if_neg h1]
    have hy1 : y1 = 3 := by rw [← e1]; rfl
    subst hy1
    rw [ask_stuck2 (by decide)] at ez1
    have h2 := stuck (by omega)
    exact ⟨by show (3 : Int) = z2; omega, fun h => absurd h (by omega)⟩

theorem rcrec_any {w : World} {b : Nat} {s : List UInt8} (h : IsRr w b s 0) (hs : s.length ≤ 1000000000) :
    Calls Try.prog 20 #[.pointer (some ⟨b, 0, none⟩)] w (RetRec (tkR s) b w) := by
  cases s with
  | nil =>
    have H := rcrec_no (t := []) (k := 0) (x1 := 4) h (by simp) (by decide) (fun W hW => rckind_nil hW) rfl rfl rfl rfl rfl rfl rfl rfl
    refine H.mono ?_
    rintro e w' ⟨rfl, hr, hb⟩
    exact ⟨0, 0, 0, none, 0, 0, [], rfl, hr, fun h => absurd h (by decide), hb⟩
  | cons c t =>
    have hst : t.length ≤ 1000000000 := by simp at hs; omega
    by_cases h4 : (c.toNat : Int) = 4
    · have H := rcrec_at h hst (fun W hW => by
        have := rckind_cons hW hst
        rw [h4] at this
        exact this)
      have e0 : tkR (c :: t) = tkC 4 t (c :: t) := by show tkC (c.toNat : Int) t (c :: t) = _; rw [h4]
      rw [e0]
      have e1 : (tkC 4 t (c :: t)).e = (idsR t).1 ∧ ((idsR t).1 = 0 → tkC 4 t (c :: t) = ⟨0, 4, 0, 0, (idsR t).2.1, (idsR t).2.2⟩) := by
        unfold tkC idsR
        rw [if_pos (by decide), if_pos rfl]
        by_cases c1 : tE t = 0
        · rw [if_pos c1, if_pos c1]
          by_cases c2 : 65535 < tN t
          · rw [if_pos c2, if_pos c2]
            exact ⟨rfl, fun h => absurd h (by simp)⟩
          · rw [if_neg c2, if_neg c2]
            by_cases c3 : (idT (tN t).toNat true 0 (psv t)).1 = 0
            · rw [if_pos c3]
              exact ⟨c3.symm, fun _ => rfl⟩
            · rw [if_neg c3]
              exact ⟨rfl, fun h => absurd h c3⟩
        · rw [if_neg c1, if_neg c1]
          exact ⟨rfl, fun h => absurd h c1⟩
      refine H.mono ?_
      rintro e w' ⟨ao, m, cap, t', rfl, hr, ho, hb⟩
      refine ⟨4, 0, 0, ao, m, cap, t', rfl, by rw [e1.1]; exact hr, fun h0 => ?_, hb⟩
      have h0' : (idsR t).1 = 0 := by rw [← e1.1]; exact h0
      rw [e1.2 h0']
      obtain ⟨o1, o2, o3⟩ := ho h0'
      exact ⟨rfl, rfl, rfl, o1, o2, o3⟩
    · have H := rcrec_no (t := t) (k := (c.toNat : Int)) h hst h4 (fun W hW => rckind_cons hW hst) rfl rfl rfl rfl rfl rfl rfl rfl
      have e1 := two_run (s0 := c :: t) (k := (c.toNat : Int)) (t := t) rfl h4 rfl rfl rfl rfl rfl rfl rfl rfl
      have e0 : tkR (c :: t) = tkC (c.toNat : Int) t (c :: t) := rfl
      rw [e0]
      refine H.mono ?_
      rintro e w' ⟨rfl, hr, hb⟩
      refine ⟨_, _, _, none, 0, 0, _, rfl, by rw [e1.1]; exact hr, fun h0 => ?_, hb⟩
      rw [e1.2 (by rw [← e1.1]; exact h0)]
      exact ⟨rfl, rfl, rfl, rfl, rfl, World.ownsRow_nil _ _ _ _⟩
end Go.Proofs.Ytbaifcbjkmmnbaa
