/-
  Texts put together: OwnLe, RcT, RcK, LnD.
-/
import Derived.Test.YtjmaccflnfaiiaaBn4
import Derived.Test.YtjmaccflnfaiiaaRcI
import Derived.Test.YtjmaccflnfaiiaaBn5
set_option linter.unusedSimpArgs false
set_option linter.unusedVariables false
namespace Go.Proofs.Ytjmaccflnfaiiaa
open Go.RowKit

theorem own_less {w : World} {base base' : Nat} {e : TypeId} {size : Nat} {v : Value} {n : Nat} {xs : List Value} (h : w.ownsRow base e size v n xs) (hb : base' ≤ base) : w.ownsRow base' e size v n xs := by
  obtain ⟨h1, h2⟩ := h
  refine ⟨h1, h2.imp id ?_⟩
  rintro ⟨g, cap, cur, hv, hg, r⟩
  exact ⟨g, cap, cur, hv, by omega, r⟩
end Go.Proofs.Ytjmaccflnfaiiaa

namespace Go.Proofs.Ytjmaccflnfaiiaa
open Go.RowKit

theorem But.putTo {base b r : Nat} {w v : World} (h : But base b w v) (hr : base ≤ r) (i : Nat) (u : Value) : But base b w (v.setCell ⟨r, i, none⟩ u) :=
  h.trans ⟨rfl, rfl, rfl, by simp [World.setCell], fun k hk _ => put_other (by omega) u⟩
theorem But.four {base b r : Nat} {w v : World} (h : But base b w v) (hr : base ≤ r) (x0 x1 x2 x3 : Value) : But base b w ((((v.setCell ⟨r, 0, none⟩ x0).setCell ⟨r, 1, none⟩ x1).setCell ⟨r, 2, none⟩ x2).setCell ⟨r, 3, none⟩ x3) :=
  (((h.putTo hr _ _).putTo hr _ _).putTo hr _ _).putTo hr _ _
theorem IsRr.putTo {w : World} {b r : Nat} {s : List UInt8} {x : Int} (h : IsRr w b s x) (hr : b < r) (i : Nat) (u : Value) : IsRr (w.setCell ⟨r, i, none⟩ u) b s x := h.kept (put_other (by omega) u)
theorem IsRr.four {w : World} {b r : Nat} {s : List UInt8} {x : Int} (h : IsRr w b s x) (hr : b < r) (x0 x1 x2 x3 : Value) : IsRr ((((w.setCell ⟨r, 0, none⟩ x0).setCell ⟨r, 1, none⟩ x1).setCell ⟨r, 2, none⟩ x2).setCell ⟨r, 3, none⟩ x3) b s x :=
  (((h.putTo hr _ _).putTo hr _ _).putTo hr _ _).putTo hr _ _

set_option maxRecDepth 100000 in
set_option maxHeartbeats 4000000 in
theorem rcrec_no {w : World} {b : Nat} {s t t1 t2 : List UInt8} {k x1 y1 z1 y2 z2 n1 n2 : Int} (h : IsRr w b s 0) (hs : t.length ≤ 1000000000) (hk : ¬ k = 4)
    (HK : ∀ W, IsRr W b s 0 → Calls Try.prog 52 #[.pointer (some ⟨b, 0, none⟩)] W fun r w' => r = .returned (.int .i64 k) ∧ IsRr w' b t x1 ∧ Into b W w')
    (e1 : numY x1 t = y1) (en1 : (if y1 = 0 then tN t else 0) = n1) (et1 : (if y1 = 0 then psv t else t) = t1) (ez1 : askX y1 (fitK k n1) 11 = z1)
    (e2 : numY z1 t1 = y2) (en2 : (if y2 = 0 then tN t1 else 0) = n2) (et2 : (if y2 = 0 then psv t1 else t1) = t2) (ez2 : askX y2 (fitK k n2) 11 = z2) :
    Calls Try.prog 48 #[.pointer (some ⟨b, 0, none⟩)] w fun r w' => r = .returned (.agg #[.int .i64 k, .int .i64 n1, .int .i64 n2, .slice none 0 0]) ∧ IsRr w' b t2 z2 ∧ But w.heap.size b w w' := by
  have hlt := h.lt
  obtain ⟨w1, hw1⟩ : ∃ w1, w.alloc (.cells #[.int .i64 0, .int .i64 0, .int .i64 0, .slice none 0 0] 34) = w1 := ⟨_, rfl⟩
  have hX1 : w1.heap[w.heap.size]? = some (.cells #[.int .i64 0, .int .i64 0, .int .i64 0, .slice none 0 0] 34 (0, 0)) := by rw [← hw1]; exact heap_alloc_new w _
  have hB1 : Below w.heap.size w w1 := by rw [← hw1]; exact (Below.refl w.heap.size w).alloc (Nat.le_refl _) _
  have hz1 : w1.heap.size = w.heap.size + 1 := by rw [← hw1]; simp
  have H1 := Lib.hid (HK w1 (h.kept (hB1.block b hlt)))
  have hl1 : t1.length ≤ 1000000000 := by rw [← et1]; have := psv_le t; split <;> omega
  have H2 := Lib.hid (fun (W : World) (hW : IsRr W b t x1) => rcfitting_any hW k y1 z1 e1 (by rw [en1]; exact ez1) hs)
  have H3 := Lib.hid (fun (W : World) (hW : IsRr W b t1 z1) => rcfitting_any hW k y2 z2 e2 (by rw [en2]; exact ez2) hl1)
  rw [en1, et1] at H2
  rw [en2, et2] at H3
  clear HK h e1 en1 et1 ez1 e2 en2 et2 ez2 hs hl1
  go_enter Try.func48, Try.ntmps48
  go_wp2_with fail
  try rw [hw1]
  refine H1.out.mono ?_
  rintro e w2 ⟨rfl, hr2, hi2⟩
  have hz2 : w2.heap.size = w.heap.size + 1 := hi2.size.trans hz1
  have hX2 := (hi2.block w.heap.size (by omega)).trans hX1
  have hB2 := (But.of hB1 (b := b)).trans (But.into hi2)
  have hN3 := heap_alloc_new w2 (.cells #[.int .i64 k, .int .i64 0, .int .i64 0, .slice none 0 0] 34)
  have hb3 := (Below.refl w2.heap.size w2).alloc (Nat.le_refl _) (.cells #[.int .i64 k, .int .i64 0, .int .i64 0, .slice none 0 0] 34)
  obtain ⟨w3, hw3⟩ : ∃ w3, w2.alloc (.cells #[.int .i64 k, .int .i64 0, .int .i64 0, .slice none 0 0] 34) = w3 := ⟨_, rfl⟩
  have hz3 : w3.heap.size = w.heap.size + 2 := by rw [← hw3]; simp; omega
  rw [hw3] at hN3 hb3
  have hX3 := (hb3.block w.heap.size (by omega)).trans hX2
  have hr3 := hr2.kept (hb3.block b (by omega))
  have hB3 := hB2.trans (But.of (hb3.mono (by omega)) (b := b))
  have H4 := Lib.hid (H2.out w3 hr3)
  have HZ := Lib.hid (And.intro hz2 (And.intro hz3 hw3))
  clear H1 H2 hr2 hi2 hX1 hX2 hB1 hB2 hb3 hr3 hw1 hz1 hz2 hz3 hw3
  go_wp2_with fail
  rw [HZ.out.2.2]
  refine H4.out.mono ?_
  rintro e w4 ⟨rfl, hr4, hb4⟩
  obtain ⟨hz2, hz3, _⟩ := HZ.out
  have hN4 := (hb4.block w2.heap.size (by omega) (by omega)).trans hN3
  have hX4 := (hb4.block w.heap.size (by omega) (by omega)).trans hX3
  have hB4 := hB3.trans (But.less hb4 (by omega))
  have hz4 := hb4.size
  obtain ⟨c0, c1, c2, c3⟩ := rec_reads hN4
  obtain ⟨f0, f1, f2, f3⟩ := rec_free hN4
  have hN5 := put_heap hN4 (i := 1) (.int .i64 n1)
  rw [show (#[Value.int .i64 k, .int .i64 0, .int .i64 0, .slice none 0 0] : Array Value).setIfInBounds 1 (.int .i64 n1) = #[.int .i64 k, .int .i64 n1, .int .i64 0, .slice none 0 0] from rfl] at hN5
  have HN5 := Lib.hid hN5
  have HX5 := Lib.hid ((put_other (w := w4) (b := w2.heap.size) (i := 1) (k := w.heap.size) (by omega) (.int .i64 n1)).trans hX4)
  have HB5 := Lib.hid (hB4.putTo (r := w2.heap.size) (by omega) 1 (.int .i64 n1))
  have H5 := Lib.hid (H3.out _ (hr4.putTo (r := w2.heap.size) (by omega) 1 (.int .i64 n1)))
  have hz5 : (w4.setCell ⟨w2.heap.size, 1, none⟩ (.int .i64 n1)).heap.size = w4.heap.size := by simp [World.setCell]
  have HZ5 := Lib.hid hz5
  have HZ4 := Lib.hid hz4
  clear H3 H4 hr4 hb4 hX3 hN3 hB3 hN4 hX4 hB4 hN5 hz5 hz2 hz3 hz4
  go_wp2_with fail
  refine H5.out.mono ?_
  rintro e w6 ⟨rfl, hr6, hb6⟩
  obtain ⟨hz2, hz3, _⟩ := HZ.out
  have hz4 := HZ4.out
  have hN6 := (hb6.block w2.heap.size (by rw [HZ5.out]; omega) (by omega)).trans HN5.out
  have hX6 := (hb6.block w.heap.size (by rw [HZ5.out]; omega) (by omega)).trans HX5.out
  have hB6 := HB5.out.trans (But.less hb6 (by rw [HZ5.out]; omega))
  obtain ⟨d0, d1, d2, d3⟩ := rec_reads hN6
  obtain ⟨g0, g1, g2, g3⟩ := rec_free hN6
  have hN7 := put_heap hN6 (i := 2) (.int .i64 n2)
  rw [show (#[Value.int .i64 k, .int .i64 n1, .int .i64 0, .slice none 0 0] : Array Value).setIfInBounds 2 (.int .i64 n2) = #[.int .i64 k, .int .i64 n1, .int .i64 n2, .slice none 0 0] from rfl] at hN7
  have hX7 := (put_other (w := w6) (b := w2.heap.size) (i := 2) (k := w.heap.size) (by omega) (.int .i64 n2)).trans hX6
  have HB7 := Lib.hid (hB6.putTo (r := w2.heap.size) (by omega) 2 (.int .i64 n2))
  have HR7 := Lib.hid (hr6.putTo (r := w2.heap.size) (by omega) 2 (.int .i64 n2))
  have HF := Lib.hid (put_rec hX7 (.int .i64 k) (.int .i64 n1) (.int .i64 n2) (.slice none 0 0))
  obtain ⟨p0, p1, p2, p3⟩ := rec_reads hN7
  obtain ⟨q0, q1, q2, q3⟩ := rec_free hX7
  obtain ⟨m0, m1, m2, m3⟩ := rec_reads hX7
  clear H5 hr6 hb6 HN5 HX5 HB5 HZ5 hN6 hX6 hB6 hN7 hX7 c0 c1 c2 c3 f0 f1 f2 f3 hz2 hz3 hz4
  go_wp2
  obtain ⟨i0, i1, i2, i3⟩ := rec_reads HF.out
  refine bodyPost_ret (v := .agg #[.int .i64 k, .int .i64 n1, .int .i64 n2, .slice none 0 0]) (by simp [results, Try.results48, go_sem, i0, i1, i2, i3]) rfl ?_
  exact ⟨rfl, HR7.out.four hlt _ _ _ _, HB7.out.four (Nat.le_refl _) _ _ _ _⟩
/-- What is stored into an elder block leaves what is owned as it was. -/
theorem own_putTo {w : World} {base r i : Nat} {e : TypeId} {v u : Value} {n : Nat} {xs : List Value} (h : w.ownsRow base e 1 v n xs) (hr : r < base) : (w.setCell ⟨r, i, none⟩ u).ownsRow base e 1 v n xs := ((Into.refl r w).set i u).owns hr h

set_option maxRecDepth 100000 in
set_option maxHeartbeats 4000000 in
theorem rcrec_at {w : World} {b : Nat} {s t : List UInt8} (h : IsRr w b s 0) (hs : t.length ≤ 1000000000)
    (HK : ∀ W, IsRr W b s 0 → Calls Try.prog 52 #[.pointer (some ⟨b, 0, none⟩)] W fun r w' => r = .returned (.int .i64 4) ∧ IsRr w' b t 0 ∧ Into b W w') :
    Calls Try.prog 48 #[.pointer (some ⟨b, 0, none⟩)] w fun r w' => ∃ ao m cap t', r = .returned (.agg #[.int .i64 4, .int .i64 0, .int .i64 0, .slice ao m cap]) ∧ IsRr w' b t' (idsR t).1 ∧
      ((idsR t).1 = 0 → t' = (idsR t).2.2 ∧ m = (idsR t).2.1.length ∧ w'.ownsRow w.heap.size 3 1 (.slice ao m cap) m (inCells (idsR t).2.1)) ∧ But w.heap.size b w w' := by
  have hlt := h.lt
  obtain ⟨w1, hw1⟩ : ∃ w1, w.alloc (.cells #[.int .i64 0, .int .i64 0, .int .i64 0, .slice none 0 0] 34) = w1 := ⟨_, rfl⟩
  have hX1 : w1.heap[w.heap.size]? = some (.cells #[.int .i64 0, .int .i64 0, .int .i64 0, .slice none 0 0] 34 (0, 0)) := by rw [← hw1]; exact heap_alloc_new w _
  have hB1 : Below w.heap.size w w1 := by rw [← hw1]; exact (Below.refl w.heap.size w).alloc (Nat.le_refl _) _
  have hz1 : w1.heap.size = w.heap.size + 1 := by rw [← hw1]; simp
  have H1 := Lib.hid (HK w1 (h.kept (hB1.block b hlt)))
  have H2 := Lib.hid (fun (W : World) (hW : IsRr W b t 0) => rcids_any hW hs)
  generalize idsR t = S at H2 ⊢
  clear HK h hs
  go_enter Try.func48, Try.ntmps48
  go_wp2_with fail
  try rw [hw1]
  refine H1.out.mono ?_
  rintro e w2 ⟨rfl, hr2, hi2⟩
  have hz2 : w2.heap.size = w.heap.size + 1 := hi2.size.trans hz1
  have hX2 := (hi2.block w.heap.size (by omega)).trans hX1
  have hB2 := (But.of hB1 (b := b)).trans (But.into hi2)
  have hN3 := heap_alloc_new w2 (.cells #[.int .i64 4, .int .i64 0, .int .i64 0, .slice none 0 0] 34)
  have hb3 := (Below.refl w2.heap.size w2).alloc (Nat.le_refl _) (.cells #[.int .i64 4, .int .i64 0, .int .i64 0, .slice none 0 0] 34)
  obtain ⟨w3, hw3⟩ : ∃ w3, w2.alloc (.cells #[.int .i64 4, .int .i64 0, .int .i64 0, .slice none 0 0] 34) = w3 := ⟨_, rfl⟩
  have hz3 : w3.heap.size = w.heap.size + 2 := by rw [← hw3]; simp; omega
  rw [hw3] at hN3 hb3
  have hX3 := (hb3.block w.heap.size (by omega)).trans hX2
  have hr3 := hr2.kept (hb3.block b (by omega))
  have hB3 := hB2.trans (But.of (hb3.mono (by omega)) (b := b))
  have H4 := Lib.hid (H2.out w3 hr3)
  have HZ := Lib.hid (And.intro hz2 (And.intro hz3 hw3))
  clear H1 H2 hr2 hi2 hX1 hX2 hB1 hB2 hb3 hr3 hw1 hz1 hz2 hz3 hw3
  go_wp2_with fail
  rw [HZ.out.2.2]
  refine H4.out.mono ?_
  rintro e w4 ⟨ao, m, cap, t', rfl, hr4, ho4, hb4⟩
  obtain ⟨hz2, hz3, _⟩ := HZ.out
  have hN4 := (hb4.block w2.heap.size (by omega) (by omega)).trans hN3
  have hX4 := (hb4.block w.heap.size (by omega) (by omega)).trans hX3
  have hB4 := hB3.trans (But.less hb4 (by omega))
  obtain ⟨d0, d1, d2, d3⟩ := rec_reads hN4
  obtain ⟨g0, g1, g2, g3⟩ := rec_free hN4
  have hN7 := put_heap hN4 (i := 3) (.slice ao m cap)
  rw [show (#[Value.int .i64 4, .int .i64 0, .int .i64 0, .slice none 0 0] : Array Value).setIfInBounds 3 (.slice ao m cap) = #[.int .i64 4, .int .i64 0, .int .i64 0, .slice ao m cap] from rfl] at hN7
  have hX7 := (put_other (w := w4) (b := w2.heap.size) (i := 3) (k := w.heap.size) (by omega) (.slice ao m cap)).trans hX4
  have HB7 := Lib.hid (hB4.putTo (r := w2.heap.size) (by omega) 3 (.slice ao m cap))
  have HR7 := Lib.hid (hr4.putTo (r := w2.heap.size) (by omega) 3 (.slice ao m cap))
  have HO7 := Lib.hid (fun h0 => And.intro (ho4 h0).1 (And.intro (ho4 h0).2.1 (own_less (own_putTo (r := w2.heap.size) (i := 3) (u := .slice ao m cap) (ho4 h0).2.2 (by omega)) (show w.heap.size + 1 ≤ w3.heap.size by omega))))
  have HF := Lib.hid (put_rec hX7 (.int .i64 4) (.int .i64 0) (.int .i64 0) (.slice ao m cap))
  obtain ⟨p0, p1, p2, p3⟩ := rec_reads hN7
  obtain ⟨q0, q1, q2, q3⟩ := rec_free hX7
  obtain ⟨m0, m1, m2, m3⟩ := rec_reads hX7
  clear H4 hr4 hb4 ho4 hX3 hN3 hB3 hN4 hX4 hB4 hN7 hX7 hz2 hz3
  go_wp2
  obtain ⟨i0, i1, i2, i3⟩ := rec_reads HF.out
  refine bodyPost_ret (v := .agg #[.int .i64 4, .int .i64 0, .int .i64 0, .slice ao m cap]) (by simp [results, Try.results48, go_sem, i0, i1, i2, i3]) rfl ?_
  refine ⟨ao, m, cap, t', rfl, HR7.out.four hlt _ _ _ _, fun h0 => ⟨(HO7.out h0).1, (HO7.out h0).2.1, ?_⟩, HB7.out.four (Nat.le_refl _) _ _ _ _⟩
  exact own_less (own_putTo (own_putTo (own_putTo (own_putTo (HO7.out h0).2.2 (by omega)) (by omega)) (by omega)) (by omega)) (by omega)

/-- What record answers. -/
def RetRec (T : Tk) (b : Nat) (w : World) (e : Ending) (w' : World) : Prop :=
  ∃ k n r ao m cap t, e = .returned (.agg #[.int .i64 k, .int .i64 n, .int .i64 r, .slice ao m cap]) ∧ IsRr w' b t T.e ∧
    (T.e = 0 → k = T.k ∧ n = T.n ∧ r = T.r ∧ t = T.rest ∧ m = T.ids.length ∧ w'.ownsRow w.heap.size 3 1 (.slice ao m cap) m (inCells T.ids)) ∧ But w.heap.size b w w'

/-- Two numbers, one behind the other, as one answer. -/
theorem two_run {s0 t t1 t2 : List UInt8} {k x1 y1 z1 y2 z2 n1 n2 : Int} (hx : x1 = if 1 ≤ k ∧ k ≤ 6 then 0 else 3) (hk : ¬ k = 4)
    (e1 : numY x1 t = y1) (en1 : (if y1 = 0 then tN t else 0) = n1) (et1 : (if y1 = 0 then psv t else t) = t1) (ez1 : askX y1 (fitK k n1) 11 = z1)
    (e2 : numY z1 t1 = y2) (en2 : (if y2 = 0 then tN t1 else 0) = n2) (et2 : (if y2 = 0 then psv t1 else t1) = t2) (ez2 : askX y2 (fitK k n2) 11 = z2) :
    (tkC k t s0).e = z2 ∧ (z2 = 0 → tkC k t s0 = ⟨0, k, n1, n2, [], t2⟩) := by
  have stuck : ¬ z1 = 0 → z2 = z1 := fun h => by
    have : y2 = z1 := by rw [← e2]; unfold numY; rw [if_neg h]
    subst this
    rw [← ez2, ask_stuck2 h]
  unfold tkC
  by_cases h1 : 1 ≤ k ∧ k ≤ 6
  · rw [if_pos h1] at hx
    subst hx
    rw [if_pos h1, if_neg hk]
    rw [numY, if_pos rfl] at e1
    by_cases c1 : tE t = 0
    · rw [c1] at e1
      subst e1
      rw [if_pos rfl] at en1 et1
      subst en1 et1
      by_cases c2 : fitK k (tN t) = true
      · have hf : fitE k t = 0 := by unfold fitE; rw [if_pos c1, if_pos c2]
        rw [if_pos hf]
        rw [c2, ask_true] at ez1
        subst ez1
        rw [numY, if_pos rfl] at e2
        by_cases c3 : tE (psv t) = 0
        · rw [c3] at e2
          subst e2
          rw [if_pos rfl] at en2 et2
          subst en2 et2
          by_cases c4 : fitK k (tN (psv t)) = true
          · have hf2 : fitE k (psv t) = 0 := by unfold fitE; rw [if_pos c3, if_pos c4]
            rw [if_pos hf2]
            rw [c4, ask_true] at ez2
            subst ez2
            exact ⟨rfl, fun _ => rfl⟩
          · have hf2 : fitE k (psv t) = 11 := by unfold fitE; rw [if_pos c3, if_neg c4]
            rw [hf2, if_neg (by decide)]
            rw [Bool.not_eq_true] at c4
            rw [c4] at ez2
            have : z2 = 11 := by rw [← ez2]; rfl
            exact ⟨this.symm, fun h => absurd h (by omega)⟩
        · have hf2 : fitE k (psv t) = tE (psv t) := by unfold fitE; rw [if_neg c3]
          rw [hf2, if_neg c3]
          rw [← e2, ask_stuck2 c3] at ez2
          exact ⟨ez2, fun h => absurd h (by omega)⟩
      · have hf : fitE k t = 11 := by unfold fitE; rw [if_pos c1, if_neg c2]
        rw [hf, if_neg (by decide)]
        rw [Bool.not_eq_true] at c2
        rw [c2] at ez1
        have : z1 = 11 := by rw [← ez1]; rfl
        have h2 := stuck (by omega)
        exact ⟨by show (11 : Int) = z2; omega, fun h => absurd h (by omega)⟩
    · have hf : fitE k t = tE t := by unfold fitE; rw [if_neg c1]
      rw [hf, if_neg c1]
      rw [← e1, ask_stuck2 c1] at ez1
      have h2 := stuck (by omega)
      exact ⟨by show tE t = z2; omega, fun h => absurd h (by omega)⟩
  · rw [if_neg h1] at hx
    subst hx
    rw [if_neg h1]
    have hy1 : y1 = 3 := by rw [← e1]; rfl
    subst hy1
    rw [ask_stuck2 (by decide)] at ez1
    have h2 := stuck (by omega)
    exact ⟨by show (3 : Int) = z2; omega, fun h => absurd h (by omega)⟩

theorem rcrec_any {w : World} {b : Nat} {s : List UInt8} (h : IsRr w b s 0) (hs : s.length ≤ 1000000000) :
    Calls Try.prog 48 #[.pointer (some ⟨b, 0, none⟩)] w (RetRec (tkR s) b w) := by
  cases s with
  | nil =>
    have H := rcrec_no (t := []) (k := 0) (x1 := 4) h (by simp) (by decide) (fun W hW => rckind_nil hW) rfl rfl rfl rfl rfl rfl rfl rfl
    refine H.mono ?_
    rintro e w' ⟨rfl, hr, hb⟩
    exact ⟨0, 0, 0, none, 0, 0, [], rfl, hr, fun h => absurd h (by decide), hb⟩
  | cons c t =>
    have hst : t.length ≤ 1000000000 := by simp at hs; omega
    by_cases h4 : (c.toNat : Int) = 4
    · have H := rcrec_at h hst (fun W hW => by
        have := rckind_cons hW hst
        rw [h4] at this
        exact this)
      have e0 : tkR (c :: t) = tkC 4 t (c :: t) := by show tkC (c.toNat : Int) t (c :: t) = _; rw [h4]
      rw [e0]
      have e1 : (tkC 4 t (c :: t)).e = (idsR t).1 ∧ ((idsR t).1 = 0 → tkC 4 t (c :: t) = ⟨0, 4, 0, 0, (idsR t).2.1, (idsR t).2.2⟩) := by
        unfold tkC idsR
        rw [if_pos (by decide), if_pos rfl]
        by_cases c1 : tE t = 0
        · rw [if_pos c1, if_pos c1]
          by_cases c2 : 65535 < tN t
          · rw [if_pos c2, if_pos c2]
            exact ⟨rfl, fun h => absurd h (by simp)⟩
          · rw [if_neg c2, if_neg c2]
            by_cases c3 : (idT (tN t).toNat true 0 (psv t)).1 = 0
            · rw [if_pos c3]
              exact ⟨c3.symm, fun _ => rfl⟩
            · rw [if_neg c3]
              exact ⟨rfl, fun h => absurd h c3⟩
        · rw [if_neg c1, if_neg c1]
          exact ⟨rfl, fun h => absurd h c1⟩
      refine H.mono ?_
      rintro e w' ⟨ao, m, cap, t', rfl, hr, ho, hb⟩
      refine ⟨4, 0, 0, ao, m, cap, t', rfl, by rw [e1.1]; exact hr, fun h0 => ?_, hb⟩
      have h0' : (idsR t).1 = 0 := by rw [← e1.1]; exact h0
      rw [e1.2 h0']
      obtain ⟨o1, o2, o3⟩ := ho h0'
      exact ⟨rfl, rfl, rfl, o1, o2, o3⟩
    · have H := rcrec_no (t := t) (k := (c.toNat : Int)) h hst h4 (fun W hW => rckind_cons hW hst) rfl rfl rfl rfl rfl rfl rfl rfl
      have e1 := two_run (s0 := c :: t) (k := (c.toNat : Int)) (t := t) rfl h4 rfl rfl rfl rfl rfl rfl rfl rfl
      have e0 : tkR (c :: t) = tkC (c.toNat : Int) t (c :: t) := rfl
      rw [e0]
      refine H.mono ?_
      rintro e w' ⟨rfl, hr, hb⟩
      refine ⟨_, _, _, none, 0, 0, _, rfl, by rw [e1.1]; exact hr, fun h0 => ?_, hb⟩
      rw [e1.2 (by rw [← e1.1]; exact h0)]
      exact ⟨rfl, rfl, rfl, rfl, rfl, World.ownsRow_nil _ _ _ _⟩
end Go.Proofs.Ytjmaccflnfaiiaa

namespace Go.Proofs.Ytjmaccflnfaiiaa
open Go.RowKit

/-- Numbers that are owned. -/
def OwnI (w : World) (ao : Option Addr) (cap : Nat) (ids : List Int) : Prop := ∃ base, w.ownsRow base 3 1 (.slice ao ids.length cap) ids.length (inCells ids)
theorem OwnI.nil {w : World} : OwnI w none 0 [] := ⟨0, rfl, .inl ⟨rfl, rfl⟩⟩
theorem OwnI.cap {w : World} {cap : Nat} {ids : List Int} (h : OwnI w none cap ids) : cap = 0 := by
  obtain ⟨b, _, h | ⟨g, c, cur, h, _⟩⟩ := h
  · have h := h.1
    injection h
  · injection h with h _ _
    cases h
theorem OwnI.row {w : World} {ao : Option Addr} {cap : Nat} {ids : List Int} (h : OwnI w ao cap ids) (hm : ids.length ≤ maxLen) : IsRow .i64 w ao ids.length ids.length ids := by
  obtain ⟨b, h⟩ := h
  obtain ⟨a9, c9, he, hrow⟩ := row_of_ints h hm
  simp only [Value.slice.injEq] at he
  obtain ⟨rfl, _, _⟩ := he
  exact hrow
theorem own_drew {w : World} {base size n : Nat} {e : TypeId} {v : Value} {xs : List Value} (h : w.ownsRow base e size v n xs) : w.drew.ownsRow base e size v n xs := by
  obtain ⟨h1, h2⟩ := h
  exact ⟨h1, h2.elim .inl (fun ⟨g, cap, cur, hv, hg, hh, r⟩ => .inr ⟨g, cap, cur, hv, hg, hh, r⟩)⟩
/-- What Take answers: the record, its numbers owned; how many bytes; what is wrong. -/
def RetTk (T : Tk) (l : Nat) (w : World) (e : Ending) (w' : World) : Prop :=
  ∃ ao cap, e = .returned (.tuple #[.agg #[.int .i64 T.k, .int .i64 T.n, .int .i64 T.r, .slice ao T.ids.length cap], .int .i64 ((l : Int) - (T.rest.length : Int)), .int .i64 T.e]) ∧ OwnI w' ao cap T.ids ∧ Below w.heap.size w w'

theorem tk_rest_le (s : List UInt8) : (tkR s).rest.length ≤ s.length := by
  by_cases h : (tkR s).e = 0
  · have := congrArg List.length (rtk_back h).2
    rw [List.length_append] at this
    omega
  · rw [rtk_bad s h]; exact Nat.le_refl _

theorem tk_ids_le (s : List UInt8) : (tkR s).ids.length ≤ 65535 := by
  by_cases h : (tkR s).e = 0
  · have h1 := (rtk_back h).1
    by_cases h4 : (tkR s).k = 4
    · have := ris_len _ (-1) (by omega) (by omega) ((ok_at h4).1 h1).2.2
      omega
    · rw [((ok_no h4).1 h1).2.2.2]; simp
  · rw [rtk_bad s h]; exact Nat.zero_le _

set_option maxRecDepth 100000 in
set_option maxHeartbeats 4000000 in
theorem rctake_any (s : List UInt8) (w : World) (hs : s.length ≤ 1000000000) :
    Calls Try.prog 37 #[.string ⟨s.toArray⟩] w (RetTk (tkR s) s.length w) := by
  obtain ⟨w1, hw1⟩ : ∃ w1, w.alloc (.cells #[.int .i64 0, .int .i64 0, .int .i64 0, .slice none 0 0] 34) = w1 := ⟨_, rfl⟩
  have hX1 : w1.heap[w.heap.size]? = some (.cells #[.int .i64 0, .int .i64 0, .int .i64 0, .slice none 0 0] 34 (0, 0)) := by rw [← hw1]; exact heap_alloc_new w _
  have hB1 : Below w.heap.size w w1 := by rw [← hw1]; exact (Below.refl w.heap.size w).alloc (Nat.le_refl _) _
  have hz1 : w1.heap.size = w.heap.size + 1 := by rw [← hw1]; simp
  have hR2 : IsRr (w1.alloc (.cells #[.string ⟨s.toArray⟩, .int .i64 0] 82)) w1.heap.size s 0 := heap_alloc_new w1 _
  have hb2 := (Below.refl w1.heap.size w1).alloc (Nat.le_refl _) (.cells #[.string ⟨s.toArray⟩, .int .i64 0] 82)
  obtain ⟨w2, hw2⟩ : ∃ w2, w1.alloc (.cells #[.string ⟨s.toArray⟩, .int .i64 0] 82) = w2 := ⟨_, rfl⟩
  have hz2 : w2.heap.size = w.heap.size + 2 := by rw [← hw2]; simp; omega
  rw [hw2] at hR2 hb2
  have hX2 := (hb2.block w.heap.size (by omega)).trans hX1
  have hB2 := hB1.trans (hb2.mono (by omega))
  rw [hz1] at hR2
  have H1 := Lib.hid (rcrec_any hR2 hs)
  have hle := tk_rest_le s
  have HMx : Hid ((tkR s).ids.length ≤ maxLen) := Lib.hid (Nat.le_trans (tk_ids_le s) (by unfold maxLen; omega))
  have HBad := Lib.hid (rtk_bad s)
  generalize tkR s = T at H1 hle HBad HMx ⊢
  have Z1 := Lib.hid (bsize s)
  have HZ := Lib.hid (And.intro hz1 (And.intro hz2 (And.intro hw1 hw2)))
  clear hR2 hb2 hX1 hB1 hz1 hz2 hw1 hw2
  go_enter Try.func37, Try.ntmps37
  go_wp2_with fail
  rw [HZ.out.2.2.1, HZ.out.2.2.2]
  refine H1.out.mono ?_
  rintro e w3 ⟨k, n, r, ao, m, cap, t, rfl, hr3, ho3, hb3⟩
  obtain ⟨hz1, hz2, _⟩ := HZ.out
  have hX3 := (hb3.block w.heap.size (by omega) (by omega)).trans hX2
  have hB3 := hB2.trans ((hb3.below (by omega)).mono (by omega))
  have hX4 := put_rec hX3 (.int .i64 k) (.int .i64 n) (.int .i64 r) (.slice ao m cap)
  obtain ⟨d0, d1, d2, d3⟩ := rec_reads hX3
  obtain ⟨g0, g1, g2, g3⟩ := rec_free hX3
  obtain ⟨u0, u1, u2, u3⟩ := rec_reads hX4
  obtain ⟨v0, v1, v2, v3⟩ := rec_free hX4
  have hr4 : IsRr ((((w3.setCell ⟨w.heap.size, 0, none⟩ (.int .i64 k)).setCell ⟨w.heap.size, 1, none⟩ (.int .i64 n)).setCell ⟨w.heap.size, 2, none⟩ (.int .i64 r)).setCell ⟨w.heap.size, 3, none⟩ (.slice ao m cap)) (w.heap.size + 1) t T.e :=
    hr3.kept ((put_other (by omega) _).trans ((put_other (by omega) _).trans ((put_other (by omega) _).trans (put_other (by omega) _))))
  have hB4 := below_rec hB3 (Nat.le_refl _) (.int .i64 k) (.int .i64 n) (.int .i64 r) (.slice ao m cap)
  have HO4 : Hid (T.e = 0 → k = T.k ∧ n = T.n ∧ r = T.r ∧ t = T.rest ∧ m = T.ids.length ∧ ((((w3.setCell ⟨w.heap.size, 0, none⟩ (.int .i64 k)).setCell ⟨w.heap.size, 1, none⟩ (.int .i64 n)).setCell ⟨w.heap.size, 2, none⟩ (.int .i64 r)).setCell ⟨w.heap.size, 3, none⟩ (.slice ao m cap)).ownsRow w2.heap.size 3 1 (.slice ao m cap) m (inCells T.ids)) := Lib.hid (fun h0 => by
    obtain ⟨a1, a2, a3, a4, a5, a6⟩ := ho3 h0
    exact ⟨a1, a2, a3, a4, a5, own_putTo (own_putTo (own_putTo (own_putTo a6 (by omega)) (by omega)) (by omega)) (by omega)⟩)
  have HB4 := Lib.hid hB4
  have HLT : Hid (w.heap.size < w2.heap.size) := Lib.hid (by omega)
  have HM : Hid (T.ids.length ≤ maxLen) := Lib.hid HMx.out
  have HR4 := Lib.hid hr4
  obtain ⟨y0, y1, y2, y3⟩ := hr4.reads
  clear hr3 ho3 hb3 hX3 hB3 hB4 hr4 H1 hz1 hz2 hX2 hB2
  by_cases hT : T.e = 0
  · obtain ⟨rfl, rfl, rfl, rfl, rfl, ho⟩ := HO4.out hT
    rw [hT] at y1
    have hsub : IntKind.i64.wrap ((s.length : Int) - (T.rest.length : Int)) = (s.length : Int) - (T.rest.length : Int) := by rw [IntKind.wrap_i64]; omega
    have zr := bsize T.rest
    obtain ⟨i0', i1', i2', i3'⟩ := rec_reads hX4
    have HF := Lib.hid (put_rec hX4 (.int .i64 T.k) (.int .i64 T.n) (.int .i64 T.r) (.slice ao T.ids.length cap))
    have HO := Lib.hid ho
    clear HBad HO4 ho hX4
    go_wp2_with fail
    go_region
    all_goals go_wp2
    obtain ⟨j0, j1, j2, j3⟩ := rec_reads HF.out
    refine bodyPost_ret (v := .tuple #[.agg #[.int .i64 T.k, .int .i64 T.n, .int .i64 T.r, .slice ao T.ids.length cap], .int .i64 ((s.length : Int) - (T.rest.length : Int)), .int .i64 0]) (by simp [results, Try.results37, go_sem, j0, j1, j2, j3]) rfl ?_
    refine ⟨ao, cap, by rw [hT], ?_, (below_rec HB4.out (Nat.le_refl _) _ _ _ _).drew⟩
    have ho := own_putTo (r := w.heap.size) (i := 3) (u := .slice ao T.ids.length cap) (own_putTo (r := w.heap.size) (i := 2) (u := .int .i64 T.r) (own_putTo (r := w.heap.size) (i := 1) (u := .int .i64 T.n) (own_putTo (r := w.heap.size) (i := 0) (u := .int .i64 T.k) HO.out HLT.out) HLT.out) HLT.out) HLT.out
    exact ⟨_, own_drew ho⟩
  · have hB := HBad.out hT
    have g1 : (T.e != 0) = true := by simpa using hT
    have g2 := congrArg Tk.k hB
    have g3 := congrArg Tk.n hB
    have g4 := congrArg Tk.r hB
    have g5 := congrArg Tk.ids hB
    have g6 := congrArg Tk.rest hB
    have HT : Hid (T.k = 0 ∧ T.n = 0 ∧ T.r = 0 ∧ T.ids = [] ∧ T.rest = s) := Lib.hid ⟨g2, g3, g4, g5, g6⟩
    have HF := Lib.hid (put_rec hX4 (.int .i64 0) (.int .i64 0) (.int .i64 0) (.slice none 0 0))
    obtain ⟨x, hx⟩ : ∃ x, T.e = x := ⟨_, rfl⟩
    rw [hx] at y1 g1
    have HX := Lib.hid hx
    clear HBad HO4 hX4 hB hT g2 g3 g4 g5 g6 hle HM hx HR4
    go_wp2_with fail
    go_region
    all_goals go_wp2
    obtain ⟨j0, j1, j2, j3⟩ := rec_reads HF.out
    refine bodyPost_ret (v := .tuple #[.agg #[.int .i64 0, .int .i64 0, .int .i64 0, .slice none 0 0], .int .i64 0, .int .i64 x]) (by simp [results, Try.results37, go_sem, j0, j1, j2, j3]) rfl ?_
    obtain ⟨g2, g3, g4, g5, g6⟩ := HT.out
    refine ⟨none, 0, by rw [HX.out, g2, g3, g4, g5, g6, Int.sub_self]; rfl, by rw [g5]; exact OwnI.nil, (below_rec HB4.out (Nat.le_refl _) _ _ _ _).drew⟩
end Go.Proofs.Ytjmaccflnfaiiaa

namespace Go.Proofs.Ytjmaccflnfaiiaa
open Go.RowKit

/-- A record in memory says these numbers. -/
def Say (W : World) (x : Rv) (y : Rn) : Prop := x.k = y.k ∧ x.n = y.n ∧ x.r = y.r ∧ x.len = y.ids.length ∧ OwnI W x.a x.cap y.ids
theorem OwnI.keep {W W' : World} {a : Option Addr} {c : Nat} {ids : List Int} (h : OwnI W a c ids) (hk : Keep 3 W W') : OwnI W' a c ids := h.elim fun b h => ⟨b, hk.owns h⟩
theorem Say.keep {W W' : World} {x : Rv} {y : Rn} (h : Say W x y) (hk : Keep 3 W W') : Say W' x y := ⟨h.1, h.2.1, h.2.2.1, h.2.2.2.1, h.2.2.2.2.keep hk⟩
theorem Say.below {W W' : World} {x : Rv} {y : Rn} (h : Say W x y) (hb : Below W.heap.size W W') : Say W' x y := h.keep (.below hb)
theorem Say.zero (W : World) : Say W rv0 rn0 := ⟨rfl, rfl, rfl, rfl, OwnI.nil⟩
theorem Say.row {W : World} {x : Rv} {y : Rn} (h : Say W x y) (hm : x.len ≤ maxLen) : IsRow .i64 W x.a x.len x.len y.ids := by
  have h4 := h.2.2.2.1
  rw [h4] at hm ⊢
  exact h.2.2.2.2.row hm
theorem Say.alike {W : World} {x : Rv} {y : Rn} (h : Say W x y) : Alike x y.rv := ⟨h.1.symm, h.2.1.symm, h.2.2.1.symm, h.2.2.2.1.symm⟩
theorem Say.two {W W2 : World} {x u : Rv} {y z : Rn} (h : Say W x y) (h2 : Say W2 u z) : twoB x u = twoB y.rv z.rv := (h.alike.two h2.alike).symm
/-- Records in memory, one by one. -/
def Says (W : World) (rs : List Rv) (L : List Rn) : Prop := rs.length = L.length ∧ ∀ (i : Nat) (x : Rv) (y : Rn), rs[i]? = some x → L[i]? = some y → Say W x y
theorem Says.keep {W W' : World} {rs : List Rv} {L : List Rn} (h : Says W rs L) (hk : Keep 3 W W') : Says W' rs L := ⟨h.1, fun i x y hx hy => (h.2 i x y hx hy).keep hk⟩
theorem Says.below {W W' : World} {rs : List Rv} {L : List Rn} (h : Says W rs L) (hb : Below W.heap.size W W') : Says W' rs L := h.keep (.below hb)
theorem Says.nil (W : World) : Says W [] [] := ⟨rfl, fun i x y h => by simp at h⟩
theorem Says.snoc {W : World} {rs : List Rv} {L : List Rn} {x : Rv} {y : Rn} (h : Says W rs L) (hx : Say W x y) : Says W (rs ++ [x]) (L ++ [y]) := by
  refine ⟨by simp [h.1], fun i u v hu hv => ?_⟩
  rcases Nat.lt_or_ge i rs.length with hi | hi
  · rw [List.getElem?_append_left hi] at hu
    rw [List.getElem?_append_left (by rw [← h.1]; exact hi)] at hv
    exact h.2 i u v hu hv
  · have e : i = rs.length := by
      have := (List.getElem?_eq_some_iff.1 hu).1
      simp at this
      omega
    subst e
    rw [List.getElem?_append_right (Nat.le_refl _), Nat.sub_self] at hu
    rw [List.getElem?_append_right (by rw [h.1]; exact Nat.le_refl _), h.1, Nat.sub_self] at hv
    simp at hu hv
    subst hu hv
    exact hx
/-- The last one. -/
theorem Says.last {W : World} {rs : List Rv} {L : List Rn} {m : Nat} {x : Rv} (h : Says W rs L) (hm : L.length = m + 1) (hx : rs[m]? = some x) : Say W x (lnLast L) := h.2 m x _ hx (lnl_at hm)

/-- What a state's slice holds. -/
def LnAt (W : World) (L : List Rn) (a : Option Addr) (m c : Nat) : Prop := L.length = m ∧ ∃ rs, (∃ base, W.ownsRow base 34 4 (.slice a m c) m (rvCells rs)) ∧ Says W rs L
theorem LnAt.keep {W W' : World} {L : List Rn} {a : Option Addr} {m c : Nat} (h : LnAt W L a m c) (hi : Keep 3 W W') (hr : Keep 34 W W') : LnAt W' L a m c := by
  obtain ⟨h1, rs, ⟨base, h3⟩, h4⟩ := h
  exact ⟨h1, rs, ⟨base, hr.owns h3⟩, h4.keep hi⟩
theorem LnAt.below {W W' : World} {L : List Rn} {a : Option Addr} {m c : Nat} (h : LnAt W L a m c) (hb : Below W.heap.size W W') : LnAt W' L a m c := h.keep (.below hb) (.below hb)
theorem LnAt.start (W : World) : LnAt W [] none 0 0 := ⟨rfl, [], ⟨0, rfl, .inl ⟨rfl, rfl⟩⟩, Says.nil W⟩
theorem LnAt.rec {W : World} {L : List Rn} {a : Option Addr} {m c : Nat} (h : LnAt W L a m c) : ∃ rs, rs.length = m ∧ RecAt W a rs ∧ Says W rs L := by
  obtain ⟨h1, rs, ⟨base, h3⟩, h4⟩ := h
  have hl : rs.length = m := by rw [h4.1, h1]
  obtain ⟨ao, cap, hv, hr⟩ := owns_rv h3 hl
  injection hv with e1 e2 e3
  subst e1
  exact ⟨rs, hl, hr, h4⟩
/-- The last one's cells. -/
theorem LnAt.get {W : World} {L : List Rn} {a : Option Addr} {m c : Nat} (h : LnAt W L a (m + 1) c) : ∃ b off x, a = some ⟨b, off, none⟩ ∧ Say W x (lnLast L) ∧ W.cell? ⟨b, off + m * 4, none⟩ = some (.int .i64 x.k) ∧ W.cell? ⟨b, off + m * 4 + 1, none⟩ = some (.int .i64 x.n) ∧ W.cell? ⟨b, off + m * 4 + 2, none⟩ = some (.int .i64 x.r) ∧ W.cell? ⟨b, off + m * 4 + 3, none⟩ = some (.slice x.a x.len x.cap) := by
  obtain ⟨rs, hl, h3, h4⟩ := h.rec
  obtain ⟨b, off, x, ha, hx, r⟩ := h3.get (i := m) (by omega)
  exact ⟨b, off, x, ha, h4.last h.1 hx, r⟩

set_option maxRecDepth 100000 in
set_option maxHeartbeats 4000000 in
/-- The last record, or a zero one. -/
theorem lnlast_any {W : World} {L : List Rn} {a : Option Addr} {m c : Nat} (s : ByteArray) (q : Bool) (y : Int) (h : LnAt W L a m c) (hm : m ≤ 1000000) :
    Calls Try.prog 31 #[.agg #[.slice a m c, .string s, .bool q, .int .i64 y]] W fun e W' => ∃ x : Rv, e = .returned (.agg #[.int .i64 x.k, .int .i64 x.n, .int .i64 x.r, .slice x.a x.len x.cap]) ∧ Say W x (lnLast L) ∧ Below W.heap.size W W' := by
  obtain ⟨w1, hw1⟩ : ∃ w1, W.alloc (.cells #[.slice a m c, .string s, .bool q, .int .i64 y] 31) = w1 := ⟨_, rfl⟩
  have hX1 : w1.heap[W.heap.size]? = some (.cells #[.slice a m c, .string s, .bool q, .int .i64 y] 31 (0, 0)) := by rw [← hw1]; exact heap_alloc_new W _
  have hB1 : Below W.heap.size W w1 := by rw [← hw1]; exact (Below.refl W.heap.size W).alloc (Nat.le_refl _) _
  have hs1 : w1.heap.size = W.heap.size + 1 := by rw [← hw1]; simp
  obtain ⟨w2, hw2⟩ : ∃ w2, w1.alloc (.cells #[.int .i64 0, .int .i64 0, .int .i64 0, .slice none 0 0] 34) = w2 := ⟨_, rfl⟩
  have hR2 : w2.heap[w1.heap.size]? = some (.cells #[.int .i64 0, .int .i64 0, .int .i64 0, .slice none 0 0] 34 (0, 0)) := by rw [← hw2]; exact heap_alloc_new w1 _
  have hB2' : Below w1.heap.size w1 w2 := by rw [← hw2]; exact (Below.refl w1.heap.size w1).alloc (Nat.le_refl _) _
  have hB2 : Below W.heap.size W w2 := hB1.trans (hB2'.mono hB1.size)
  have hX2 := (hB2'.block _ (by omega)).trans hX1
  rw [hs1] at hR2
  obtain ⟨c0, c1, c2, c3⟩ := rec_reads hX2
  obtain ⟨f0, f1, f2, f3⟩ := rec_free hR2
  obtain ⟨j0, j1, j2, j3⟩ := rec_reads hR2
  have h2 := h.below hB2
  have HB := Lib.hid hB2
  have HR := Lib.hid hR2
  have HS := Lib.hid hs1
  rcases Nat.eq_zero_or_pos m with h0 | h0
  · subst h0
    have hL : L = [] := List.eq_nil_of_length_eq_zero h.1
    have HF := Lib.hid (put_rec HR.out (.int .i64 0) (.int .i64 0) (.int .i64 0) (.slice none 0 0))
    have HBe := Lib.hid (below_rec HB.out (r := W.heap.size + 1) (by omega) (.int .i64 0) (.int .i64 0) (.int .i64 0) (.slice none 0 0))
    have HZ : Hid (Say W rv0 (lnLast L)) := Lib.hid (by rw [hL]; exact Say.zero W)
    clear hX1 hB1 hR2 hB2' hB2 hX2 h h2 hL
    go_enter Try.func31, Try.ntmps31
    go_wp2
    try rw [hw1]
    try rw [hw2]
    obtain ⟨i0, i1, i2, i3⟩ := rec_reads HF.out
    refine bodyPost_ret (v := .agg #[.int .i64 0, .int .i64 0, .int .i64 0, .slice none 0 0]) (by simp [results, Try.results31, go_sem, i0, i1, i2, i3]) rfl ?_
    exact ⟨rv0, rfl, HZ.out, HBe.out⟩
  · obtain ⟨p, rfl⟩ : ∃ p, m = p + 1 := ⟨m - 1, by omega⟩
    obtain ⟨b, off, ⟨xk, xn, xr, xa, xl, xc⟩, rfl, hsay, _⟩ := h.get
    obtain ⟨b', off', ⟨xk', xn', xr', xa', xl', xc'⟩, e, hsay', d0, d1, d2, d3⟩ := h2.get
    injection e with e
    injection e with eb eo _
    subst eb eo
    have hsay2 : Say W ⟨xk', xn', xr', xa', xl', xc'⟩ (lnLast L) := by
      obtain ⟨rs, hl3, h4, h5⟩ := h.rec
      obtain ⟨b3, o3, x3, e3, hx3, q0, q1, q2, q3⟩ := h4.get (i := p) (by omega)
      injection e3 with e3
      injection e3 with e4 e5 _
      subst e4 e5
      have s3 := h5.last h.1 hx3
      have r0 := cells_below q0 hB2
      have r1 := cells_below q1 hB2
      have r2 := cells_below q2 hB2
      have r3 := cells_below q3 hB2
      rw [d0] at r0; rw [d1] at r1; rw [d2] at r2; rw [d3] at r3
      simp only [Option.some.injEq, Value.int.injEq, Value.slice.injEq, true_and] at r0 r1 r2 r3
      obtain ⟨x3k, x3n, x3r, x3a, x3l, x3c⟩ := x3
      dsimp only at r0 r1 r2 r3
      obtain ⟨r3a, r3b, r3c⟩ := r3
      subst r0 r1 r2 r3a r3b r3c
      exact s3
    dsimp only at d0 d1 d2 d3
    have HZ := Lib.hid hsay2
    have HF := Lib.hid (put_rec HR.out (.int .i64 xk') (.int .i64 xn') (.int .i64 xr') (.slice xa' xl' xc'))
    have HBe := Lib.hid (below_rec HB.out (r := W.heap.size + 1) (by omega) (.int .i64 xk') (.int .i64 xn') (.int .i64 xr') (.slice xa' xl' xc'))
    have v0 : (0 : Int) ≤ (p : Int) := by omega
    have v1 : IntKind.i64.wrap (((p : Int) + 1) - 1) = (p : Int) := by rw [IntKind.wrap_i64]; omega
    have v2 : (p : Int) < (p : Int) + 1 := by omega
    have v3 : (((p : Int) + 1) == 0) = false := by simp; omega
    clear hX1 hB1 hR2 hB2' hB2 hX2 h h2 hsay hsay' hsay2 h0
    go_enter Try.func31, Try.ntmps31
    go_wp2
    try rw [hw1]
    try rw [hw2]
    obtain ⟨i0, i1, i2, i3⟩ := rec_reads HF.out
    refine bodyPost_ret (v := .agg #[.int .i64 xk', .int .i64 xn', .int .i64 xr', .slice xa' xl' xc']) (by simp [results, Try.results31, go_sem, i0, i1, i2, i3]) rfl ?_
    exact ⟨⟨xk', xn', xr', xa', xl', xc'⟩, rfl, HZ.out, HBe.out⟩

theorem lnfield_kind (x0 x1 x2 x3 : Value) (w : World) : (Instr.field 34 (.agg #[x0, x1, x2, x3]) 0).run Try.prog w = .ok x0 w := by
  simp [Instr.field, go_sem, part, asAgg, Try.underlying34, isAgg, Try.underlying3]
set_option maxHeartbeats 1000000 in
theorem lnended_ref {W : World} {L : List Rn} {a : Option Addr} {m c : Nat} (s : ByteArray) (q : Bool) (y : Int) (h : LnAt W L a m c) (hm : m ≤ 1000000) :
    Calls Try.prog 16 #[.agg #[.slice a m c, .string s, .bool q, .int .i64 y]] W fun e W' => e = .returned (.bool (decide ((lnLast L).k = 6))) ∧ Below W.heap.size W W' := by
  obtain ⟨w1, hw1⟩ : ∃ w1, W.alloc (.cells #[.slice a m c, .string s, .bool q, .int .i64 y] 31) = w1 := ⟨_, rfl⟩
  have hX1 : w1.heap[W.heap.size]? = some (.cells #[.slice a m c, .string s, .bool q, .int .i64 y] 31 (0, 0)) := by rw [← hw1]; exact heap_alloc_new W _
  have hB1 : Below W.heap.size W w1 := by rw [← hw1]; exact (Below.refl W.heap.size W).alloc (Nat.le_refl _) _
  obtain ⟨c0, c1, c2, c3⟩ := rec_reads hX1
  have HL := Lib.hid (lnlast_any s q y (h.below hB1) hm)
  have HB := Lib.hid hB1
  have HK : Hid (∀ k : Int, k = (lnLast L).k → (k == 6) = decide ((lnLast L).k = 6)) := Lib.hid (fun k e => by subst e; by_cases h : (lnLast L).k = 6 <;> simp [h])
  generalize decide ((lnLast L).k = 6) = β at HK ⊢
  clear hX1 hB1 h
  go_enter Try.func16, Try.ntmps16
  go_wp2_with fail
  try rw [hw1]
  refine HL.out.mono ?_
  rintro e w2 ⟨⟨xk, xn, xr, xa, xl, xc⟩, rfl, hsay, hb⟩
  have HK2 := Lib.hid (HK.out xk hsay.1)
  have HB2 := Lib.hid (HB.out.trans (hb.mono HB.out.size))
  clear hsay hb HK HL hw1 c0 c1 c2 c3
  have hfd := lnfield_kind (.int .i64 xk) (.int .i64 xn) (.int .i64 xr) (.slice xa xl xc) w2
  go_wp2
  go_ret
  exact ⟨by rw [← HK2.out]; rfl, HB2.out⟩

set_option maxHeartbeats 1000000 in
theorem lnfail_any (W : World) (a : Option Addr) (m c : Nat) (s : ByteArray) (q : Bool) (y z : Int) :
    Calls Try.prog 28 #[.agg #[.slice a m c, .string s, .bool q, .int .i64 y], .int .i64 z] W fun e W' => e = .returned (.tuple #[.agg #[.slice a m c, .string s, .bool q, .int .i64 z], .bool false]) ∧ Below W.heap.size W W' := by
  obtain ⟨w1, hw1⟩ : ∃ w1, W.alloc (.cells #[.slice a m c, .string s, .bool q, .int .i64 y] 31) = w1 := ⟨_, rfl⟩
  have hX1 : w1.heap[W.heap.size]? = some (.cells #[.slice a m c, .string s, .bool q, .int .i64 y] 31 (0, 0)) := by rw [← hw1]; exact heap_alloc_new W _
  have hB1 : Below W.heap.size W w1 := by rw [← hw1]; exact (Below.refl W.heap.size W).alloc (Nat.le_refl _) _
  have hs1 : w1.heap.size = W.heap.size + 1 := by rw [← hw1]; simp
  obtain ⟨w2, hw2⟩ : ∃ w2, w1.alloc (.cells #[.slice none 0 0, .string ⟨#[]⟩, .bool false, .int .i64 0] 31) = w2 := ⟨_, rfl⟩
  have hR2 : w2.heap[w1.heap.size]? = some (.cells #[.slice none 0 0, .string ⟨#[]⟩, .bool false, .int .i64 0] 31 (0, 0)) := by rw [← hw2]; exact heap_alloc_new w1 _
  have hB2' : Below w1.heap.size w1 w2 := by rw [← hw2]; exact (Below.refl w1.heap.size w1).alloc (Nat.le_refl _) _
  have hB2 : Below W.heap.size W w2 := hB1.trans (hB2'.mono hB1.size)
  have hX2 := (hB2'.block _ (by omega)).trans hX1
  rw [hs1] at hR2
  have f3 : w2.frozen? ⟨W.heap.size, 3, none⟩ = false := Lib.frozen_of_heap hX2 3
  have c3 : w2.cell? ⟨W.heap.size, 3, none⟩ = some (.int .i64 y) := by rw [Lib.cell_of_heap hX2]; rfl
  -- the error is stored
  have hX3 := put_heap hX2 (i := 3) (.int .i64 z)
  have hR3 := (put_other (w := w2) (b := W.heap.size) (i := 3) (k := W.heap.size + 1) (by omega) (.int .i64 z)).trans hR2
  have hB3 : Below W.heap.size W (w2.setCell ⟨W.heap.size, 3, none⟩ (.int .i64 z)) := hB2.setCell (p := ⟨W.heap.size, 3, none⟩) (Nat.le_refl _) _
  obtain ⟨w3, hw3⟩ : ∃ w3, w2.setCell ⟨W.heap.size, 3, none⟩ (.int .i64 z) = w3 := ⟨_, rfl⟩
  rw [hw3] at hX3 hR3 hB3
  have hX3' : w3.heap[W.heap.size]? = some (.cells #[.slice a m c, .string s, .bool q, .int .i64 z] 31 (0, 0)) := hX3
  obtain ⟨d0, d1, d2, d3⟩ := rec_reads hX3'
  obtain ⟨g0, g1, g2, g3⟩ := rec_free hR3
  obtain ⟨j0, j1, j2, j3⟩ := rec_reads hR3
  have HF := Lib.hid (put_rec hR3 (.slice a m c) (.string s) (.bool q) (.int .i64 z))
  have HBe := Lib.hid (below_rec hB3 (r := W.heap.size + 1) (by omega) (.slice a m c) (.string s) (.bool q) (.int .i64 z))
  clear hX1 hB1 hR2 hB2' hB2 hX2 hX3 hR3 hB3 hX3'
  go_enter Try.func28, Try.ntmps28
  go_wp2
  try rw [hw1]
  try rw [hw2]
  try rw [hw3]
  obtain ⟨i0, i1, i2, i3⟩ := rec_reads HF.out
  refine bodyPost_ret (v := .tuple #[.agg #[.slice a m c, .string s, .bool q, .int .i64 z], .bool false]) (by simp [results, Try.results28, go_sem, i0, i1, i2, i3]) rfl ?_
  exact ⟨rfl, HBe.out⟩
end Go.Proofs.Ytjmaccflnfaiiaa
