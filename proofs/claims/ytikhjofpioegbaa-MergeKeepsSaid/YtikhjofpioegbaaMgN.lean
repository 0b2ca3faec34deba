/-
  Whether nothing is left to be put together, of both sides: walked.
-/
import Derived.Test.YtikhjofpioegbaaMgR
import Derived.Deep.RegionWith
set_option linter.unusedSimpArgs false
set_option linter.unusedVariables false
namespace Go.Proofs.Ytikhjofpioegbaa
open Go.RowKit

set_option maxRecDepth 100000 in
set_option maxHeartbeats 4000000 in
theorem mgcanon_any (a : Option Addr) (m ca : Nat) (rs : List Rv) (w : World) (hn : rs.length = m) (hl : m ≤ 1000000000) (ha : RecAt w a rs) (q : Bool) (hq : canonB rs = q) :
    Calls Try.prog 18 #[.slice a m ca] w fun e w' => e = .returned (.bool q) ∧ Below w.heap.size w w' := by
  have HA := Lib.hid ha
  have HQ := Lib.hid hq
  clear ha hq
  go_enter Try.func18, Try.ntmps18
  go_wp2
  go_loopw [3] (fun i wr => ∃ k : Nat, 1 ≤ k ∧ (k ≤ m ∨ k = 1) ∧ i = .int .i64 (k : Int) ∧ Hid (∀ j x y, j + 1 < k → rs[j]? = some x → rs[j + 1]? = some y → twoB x y = false) ∧ Hid (Below w.heap.size w wr)) (fun i _ => m - (RowKit.intOf i).toNat)
  case atStart => exact ⟨1, Nat.le_refl _, .inr rfl, rfl, Lib.hid (fun j x y h => by omega), Lib.hid (Below.refl _ _)⟩
  case round =>
    obtain ⟨k, hk0, hk, rfl, HK, HR⟩ := hrel
    by_cases hlt : k < m
    · obtain ⟨p, rfl⟩ : ∃ p, k = p + 1 := ⟨k - 1, by omega⟩
      obtain ⟨b1, off1, x, rfl, hx, c0, c1, c2, c3⟩ := (HA.out.below HR.out).get (i := p) (by omega)
      obtain ⟨b2, off2, y, he, hy, d0, d1, d2, d3⟩ := (HA.out.below HR.out).get (i := p + 1) (by omega)
      simp only [Option.some.injEq, Addr.mk.injEq, and_true] at he
      obtain ⟨rfl, rfl⟩ := he
      obtain ⟨k, hkp⟩ : ∃ k, p + 1 = k := ⟨_, rfl⟩
      rw [hkp] at d0 d1 d2 d3 hlt hy ⊢
      have u0 : (0 : Int) ≤ (k : Int) := by omega
      have u1 : (k : Int) < (m : Int) := by omega
      have u2 : IntKind.i64.wrap ((k : Int) - 1) = (p : Int) := by rw [IntKind.wrap_i64]; omega
      have u3' : (0 : Int) ≤ (p : Int) := by omega
      have u4' : (p : Int) < (m : Int) := by omega
      have HXX := Lib.hid hx
      have HYY := Lib.hid hy
      have HKP := Lib.hid hkp
      rw [hkp] at HK
      clear hx hy hkp
      have kk := (Below.refl wr.heap.size wr).drew.alloc (Nat.le_refl _) (.cells #[.int .i64 0, .int .i64 0, .int .i64 0, .slice none 0 0] 24)
      obtain ⟨xk, xn, xr, xa, xl, xc⟩ := x
      obtain ⟨yk, yn, yr, ya, yl, yc⟩ := y
      dsimp only at c0 c1 c2 c3 d0 d1 d2 d3
      have a0 := fun o => rv_alloc (w := wr.drew) (b := b1) c0 o
      have a0' := fun o => rv_alloc (w := wr) (b := b1) c0 o
      have a1 := fun o => rv_alloc (w := wr.drew) (b := b1) c1 o
      have a1' := fun o => rv_alloc (w := wr) (b := b1) c1 o
      have a2 := fun o => rv_alloc (w := wr.drew) (b := b1) c2 o
      have a2' := fun o => rv_alloc (w := wr) (b := b1) c2 o
      have a3 := fun o => rv_alloc (w := wr.drew) (b := b1) c3 o
      have a3' := fun o => rv_alloc (w := wr) (b := b1) c3 o
      have e0 := fun o => rv_alloc (w := wr.drew) (b := b1) d0 o
      have e0' := fun o => rv_alloc (w := wr) (b := b1) d0 o
      have e1 := fun o => rv_alloc (w := wr.drew) (b := b1) d1 o
      have e1' := fun o => rv_alloc (w := wr) (b := b1) d1 o
      have e2 := fun o => rv_alloc (w := wr.drew) (b := b1) d2 o
      have e2' := fun o => rv_alloc (w := wr) (b := b1) d2 o
      have e3 := fun o => rv_alloc (w := wr.drew) (b := b1) d3 o
      have e3' := fun o => rv_alloc (w := wr) (b := b1) d3 o
      have HT := Lib.hid (fun W => mgtwo_any xk xn xr xa xl xc yk yn yr ya yl yc W)
      unfold RetTwo at HT
      generalize hB : twoB ⟨xk, xn, xr, xa, xl, xc⟩ ⟨yk, yn, yr, ya, yl, yc⟩ = B at HT
      generalize twoR ⟨xk, xn, xr, xa, xl, xc⟩ ⟨yk, yn, yr, ya, yl, yc⟩ = T at HT
      obtain ⟨tk, tn, tr, ta, tl, tc⟩ := T
      dsimp only at HT
      cases B with
      | true =>
        obtain rfl : q = false := by
          rw [← HQ.out]
          exact mgc_hit HXX.out (by rw [HKP.out]; exact HYY.out) hB
        clear hB HXX HYY
        go_wp2_with fail
        go_region_with (first
          | (go_at_call 8
             refine (HT.out _).mono ?_
             rintro E w2 ⟨rfl, hb⟩
             have HB2 : Hid (Below wr.heap.size wr w2) := Lib.hid (by first | exact (Below.refl _ _).drew.trans hb | exact kk.trans (hb.mono kk.size))
             (first
               | (have X4 : w2.heap[wr.heap.size]? = some (.cells #[.int .i64 0, .int .i64 0, .int .i64 0, .slice none 0 0] 24 (0, 0)) := (hb.block _ (heap_lt (heap_alloc_new wr.drew (.cells #[.int .i64 0, .int .i64 0, .int .i64 0, .slice none 0 0] 24)))).trans (heap_alloc_new wr.drew (.cells #[.int .i64 0, .int .i64 0, .int .i64 0, .slice none 0 0] 24)); have HX4 := Lib.hid X4; obtain ⟨f0, f1, f2, f3⟩ := rec_free X4; obtain ⟨k0, k1, k2, k3⟩ := rec_reads X4; clear X4)
               | skip)
             clear hb))
        all_goals first
          | (have q1 := Lib.hid (heap_lt HX4.out)
             have q3 := Lib.hid (HR.out.trans ((below_rec HB2.out (Nat.le_refl _) (.int .i64 tk) (.int .i64 tn) (.int .i64 tr) (.slice ta tl tc)).mono HR.out.size))
             go_wp2
             go_ret
             exact ⟨rfl, q3.out⟩)
          | (have kA : Below w2.heap.size w2 (w2.alloc (.cells #[.int .i64 tk, .int .i64 tn, .int .i64 tr, .slice ta tl tc] 24)) := (Below.refl _ _).alloc (Nat.le_refl _) _
             have q3 := Lib.hid (HR.out.trans ((HB2.out.trans (kA.mono HB2.out.size)).mono HR.out.size))
             clear kA
             go_wp2
             go_ret
             exact ⟨rfl, q3.out⟩)
      | false =>
        have HK2 : Hid (∀ j x y, j + 1 < k + 1 → rs[j]? = some x → rs[j + 1]? = some y → twoB x y = false) := Lib.hid fun j u v hj hu hv => by
          rcases Nat.lt_or_ge (j + 1) k with h | h
          · exact HK.out j u v h hu hv
          · have := HKP.out
            obtain rfl : j = p := by omega
            rw [HXX.out] at hu
            rw [this, HYY.out] at hv
            injection hu with hu
            injection hv with hv
            subst hu hv
            exact hB
        clear hB HXX HYY HK
        go_wp2_with fail
        go_region_with (first
          | (go_at_call 8
             refine (HT.out _).mono ?_
             rintro E w2 ⟨rfl, hb⟩
             have HB2 : Hid (Below wr.heap.size wr w2) := Lib.hid (by first | exact (Below.refl _ _).drew.trans hb | exact kk.trans (hb.mono kk.size))
             (first
               | (have X4 : w2.heap[wr.heap.size]? = some (.cells #[.int .i64 0, .int .i64 0, .int .i64 0, .slice none 0 0] 24 (0, 0)) := (hb.block _ (heap_lt (heap_alloc_new wr.drew (.cells #[.int .i64 0, .int .i64 0, .int .i64 0, .slice none 0 0] 24)))).trans (heap_alloc_new wr.drew (.cells #[.int .i64 0, .int .i64 0, .int .i64 0, .slice none 0 0] 24)); have HX4 := Lib.hid X4; obtain ⟨f0, f1, f2, f3⟩ := rec_free X4; obtain ⟨k0, k1, k2, k3⟩ := rec_reads X4; clear X4)
               | skip)
             clear hb))
        all_goals first
          | (have q1 := Lib.hid (heap_lt HX4.out)
             have q3 := Lib.hid (HR.out.trans ((below_rec HB2.out (Nat.le_refl _) (.int .i64 tk) (.int .i64 tn) (.int .i64 tr) (.slice ta tl tc)).mono HR.out.size))
             go_wp2
             exact ⟨⟨k + 1, by omega, by omega, by go_num, HK2, q3⟩, by simp [RowKit.intOf]; omega⟩)
          | (have kA : Below w2.heap.size w2 (w2.alloc (.cells #[.int .i64 tk, .int .i64 tn, .int .i64 tr, .slice ta tl tc] 24)) := (Below.refl _ _).alloc (Nat.le_refl _) _
             have q3 := Lib.hid (HR.out.trans ((HB2.out.trans (kA.mono HB2.out.size)).mono HR.out.size))
             clear kA
             go_wp2
             exact ⟨⟨k + 1, by omega, by omega, by go_num, HK2, q3⟩, by simp [RowKit.intOf]; omega⟩)
    · have u1 : ¬ (k : Int) < (m : Int) := by omega
      obtain rfl : q = true := by
        rw [← HQ.out]
        refine mgc_mk fun j u v hu hv => HK.out j u v ?_ hu hv
        have := (List.getElem?_eq_some_iff.1 hv).1
        omega
      go_wp2
      go_ret
      exact ⟨rfl, HR.out⟩

set_option maxRecDepth 100000 in
set_option maxHeartbeats 4000000 in
theorem mgrcanon_any (a : Option Addr) (m ca : Nat) (rs : List Rv) (w : World) (hn : rs.length = m) (hl : m ≤ 1000000000) (ha : RecAt w a rs) (q : Bool) (hq : canonB rs = q) :
    Calls Try.prog 19 #[.slice a m ca] w fun e w' => e = .returned (.bool q) ∧ Below w.heap.size w w' := by
  have HA := Lib.hid ha
  have HQ := Lib.hid hq
  clear ha hq
  go_enter Try.func19, Try.ntmps19
  go_wp2
  go_loopw [3] (fun i wr => ∃ k : Nat, 1 ≤ k ∧ (k ≤ m ∨ k = 1) ∧ i = .int .i64 (k : Int) ∧ Hid (∀ j x y, j + 1 < k → rs[j]? = some x → rs[j + 1]? = some y → twoB x y = false) ∧ Hid (Below w.heap.size w wr)) (fun i _ => m - (RowKit.intOf i).toNat)
  case atStart => exact ⟨1, Nat.le_refl _, .inr rfl, rfl, Lib.hid (fun j x y h => by omega), Lib.hid (Below.refl _ _)⟩
  case round =>
    obtain ⟨k, hk0, hk, rfl, HK, HR⟩ := hrel
    by_cases hlt : k < m
    · obtain ⟨p, rfl⟩ : ∃ p, k = p + 1 := ⟨k - 1, by omega⟩
      obtain ⟨b1, off1, x, rfl, hx, c0, c1, c2, c3⟩ := (HA.out.below HR.out).get (i := p) (by omega)
      obtain ⟨b2, off2, y, he, hy, d0, d1, d2, d3⟩ := (HA.out.below HR.out).get (i := p + 1) (by omega)
      simp only [Option.some.injEq, Addr.mk.injEq, and_true] at he
      obtain ⟨rfl, rfl⟩ := he
      obtain ⟨k, hkp⟩ : ∃ k, p + 1 = k := ⟨_, rfl⟩
      rw [hkp] at d0 d1 d2 d3 hlt hy ⊢
      have u0 : (0 : Int) ≤ (k : Int) := by omega
      have u1 : (k : Int) < (m : Int) := by omega
      have u2 : IntKind.i64.wrap ((k : Int) - 1) = (p : Int) := by rw [IntKind.wrap_i64]; omega
      have u3' : (0 : Int) ≤ (p : Int) := by omega
      have u4' : (p : Int) < (m : Int) := by omega
      have HXX := Lib.hid hx
      have HYY := Lib.hid hy
      have HKP := Lib.hid hkp
      rw [hkp] at HK
      clear hx hy hkp
      have kk := (Below.refl wr.heap.size wr).drew.alloc (Nat.le_refl _) (.cells #[.int .i64 0, .int .i64 0, .int .i64 0, .slice none 0 0] 24)
      obtain ⟨xk, xn, xr, xa, xl, xc⟩ := x
      obtain ⟨yk, yn, yr, ya, yl, yc⟩ := y
      dsimp only at c0 c1 c2 c3 d0 d1 d2 d3
      have a0 := fun o => rv_alloc (w := wr.drew) (b := b1) c0 o
      have a0' := fun o => rv_alloc (w := wr) (b := b1) c0 o
      have a1 := fun o => rv_alloc (w := wr.drew) (b := b1) c1 o
      have a1' := fun o => rv_alloc (w := wr) (b := b1) c1 o
      have a2 := fun o => rv_alloc (w := wr.drew) (b := b1) c2 o
      have a2' := fun o => rv_alloc (w := wr) (b := b1) c2 o
      have a3 := fun o => rv_alloc (w := wr.drew) (b := b1) c3 o
      have a3' := fun o => rv_alloc (w := wr) (b := b1) c3 o
      have e0 := fun o => rv_alloc (w := wr.drew) (b := b1) d0 o
      have e0' := fun o => rv_alloc (w := wr) (b := b1) d0 o
      have e1 := fun o => rv_alloc (w := wr.drew) (b := b1) d1 o
      have e1' := fun o => rv_alloc (w := wr) (b := b1) d1 o
      have e2 := fun o => rv_alloc (w := wr.drew) (b := b1) d2 o
      have e2' := fun o => rv_alloc (w := wr) (b := b1) d2 o
      have e3 := fun o => rv_alloc (w := wr.drew) (b := b1) d3 o
      have e3' := fun o => rv_alloc (w := wr) (b := b1) d3 o
      have HT := Lib.hid (fun W => mgrtwo_any xk xn xr xa xl xc yk yn yr ya yl yc W)
      unfold RetTwo at HT
      generalize hB : twoB ⟨xk, xn, xr, xa, xl, xc⟩ ⟨yk, yn, yr, ya, yl, yc⟩ = B at HT
      generalize twoR ⟨xk, xn, xr, xa, xl, xc⟩ ⟨yk, yn, yr, ya, yl, yc⟩ = T at HT
      obtain ⟨tk, tn, tr, ta, tl, tc⟩ := T
      dsimp only at HT
      cases B with
      | true =>
        obtain rfl : q = false := by
          rw [← HQ.out]
          exact mgc_hit HXX.out (by rw [HKP.out]; exact HYY.out) hB
        clear hB HXX HYY
        go_wp2_with fail
        go_region_with (first
          | (go_at_call 9
             refine (HT.out _).mono ?_
             rintro E w2 ⟨rfl, hb⟩
             have HB2 : Hid (Below wr.heap.size wr w2) := Lib.hid (by first | exact (Below.refl _ _).drew.trans hb | exact kk.trans (hb.mono kk.size))
             (first
               | (have X4 : w2.heap[wr.heap.size]? = some (.cells #[.int .i64 0, .int .i64 0, .int .i64 0, .slice none 0 0] 24 (0, 0)) := (hb.block _ (heap_lt (heap_alloc_new wr.drew (.cells #[.int .i64 0, .int .i64 0, .int .i64 0, .slice none 0 0] 24)))).trans (heap_alloc_new wr.drew (.cells #[.int .i64 0, .int .i64 0, .int .i64 0, .slice none 0 0] 24)); have HX4 := Lib.hid X4; obtain ⟨f0, f1, f2, f3⟩ := rec_free X4; obtain ⟨k0, k1, k2, k3⟩ := rec_reads X4; clear X4)
               | skip)
             clear hb))
        all_goals first
          | (have q1 := Lib.hid (heap_lt HX4.out)
             have q3 := Lib.hid (HR.out.trans ((below_rec HB2.out (Nat.le_refl _) (.int .i64 tk) (.int .i64 tn) (.int .i64 tr) (.slice ta tl tc)).mono HR.out.size))
             go_wp2
             go_ret
             exact ⟨rfl, q3.out⟩)
          | (have kA : Below w2.heap.size w2 (w2.alloc (.cells #[.int .i64 tk, .int .i64 tn, .int .i64 tr, .slice ta tl tc] 24)) := (Below.refl _ _).alloc (Nat.le_refl _) _
             have q3 := Lib.hid (HR.out.trans ((HB2.out.trans (kA.mono HB2.out.size)).mono HR.out.size))
             clear kA
             go_wp2
             go_ret
             exact ⟨rfl, q3.out⟩)
      | false =>
        have HK2 : Hid (∀ j x y, j + 1 < k + 1 → rs[j]? = some x → rs[j + 1]? = some y → twoB x y = false) := Lib.hid fun j u v hj hu hv => by
          rcases Nat.lt_or_ge (j + 1) k with h | h
          · exact HK.out j u v h hu hv
          · have := HKP.out
            obtain rfl : j = p := by omega
            rw [HXX.out] at hu
            rw [this, HYY.out] at hv
            injection hu with hu
            injection hv with hv
            subst hu hv
            exact hB
        clear hB HXX HYY HK
        go_wp2_with fail
        go_region_with (first
          | (go_at_call 9
             refine (HT.out _).mono ?_
             rintro E w2 ⟨rfl, hb⟩
             have HB2 : Hid (Below wr.heap.size wr w2) := Lib.hid (by first | exact (Below.refl _ _).drew.trans hb | exact kk.trans (hb.mono kk.size))
             (first
               | (have X4 : w2.heap[wr.heap.size]? = some (.cells #[.int .i64 0, .int .i64 0, .int .i64 0, .slice none 0 0] 24 (0, 0)) := (hb.block _ (heap_lt (heap_alloc_new wr.drew (.cells #[.int .i64 0, .int .i64 0, .int .i64 0, .slice none 0 0] 24)))).trans (heap_alloc_new wr.drew (.cells #[.int .i64 0, .int .i64 0, .int .i64 0, .slice none 0 0] 24)); have HX4 := Lib.hid X4; obtain ⟨f0, f1, f2, f3⟩ := rec_free X4; obtain ⟨k0, k1, k2, k3⟩ := rec_reads X4; clear X4)
               | skip)
             clear hb))
        all_goals first
          | (have q1 := Lib.hid (heap_lt HX4.out)
             have q3 := Lib.hid (HR.out.trans ((below_rec HB2.out (Nat.le_refl _) (.int .i64 tk) (.int .i64 tn) (.int .i64 tr) (.slice ta tl tc)).mono HR.out.size))
             go_wp2
             exact ⟨⟨k + 1, by omega, by omega, by go_num, HK2, q3⟩, by simp [RowKit.intOf]; omega⟩)
          | (have kA : Below w2.heap.size w2 (w2.alloc (.cells #[.int .i64 tk, .int .i64 tn, .int .i64 tr, .slice ta tl tc] 24)) := (Below.refl _ _).alloc (Nat.le_refl _) _
             have q3 := Lib.hid (HR.out.trans ((HB2.out.trans (kA.mono HB2.out.size)).mono HR.out.size))
             clear kA
             go_wp2
             exact ⟨⟨k + 1, by omega, by omega, by go_num, HK2, q3⟩, by simp [RowKit.intOf]; omega⟩)
    · have u1 : ¬ (k : Int) < (m : Int) := by omega
      obtain rfl : q = true := by
        rw [← HQ.out]
        refine mgc_mk fun j u v hu hv => HK.out j u v ?_ hu hv
        have := (List.getElem?_eq_some_iff.1 hv).1
        omega
      go_wp2
      go_ret
      exact ⟨rfl, HR.out⟩
end Go.Proofs.Ytikhjofpioegbaa
