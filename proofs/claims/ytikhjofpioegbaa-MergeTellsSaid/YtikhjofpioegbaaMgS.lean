/-
  The document's Same of two records, of two lists of them; its Few: walked.
-/
import Derived.Test.YtikhjofpioegbaaMgG
import Derived.Test.YtikhjofpioegbaaSameI
import Derived.Deep.RegionWith
set_option linter.unusedSimpArgs false
set_option linter.unusedVariables false
namespace Go.Proofs.Ytikhjofpioegbaa
open Go.RowKit

set_option maxRecDepth 100000 in
set_option maxHeartbeats 4000000 in
theorem mgsame_any (k n r : Int) (len : Nat) (a b : Option Addr) (ca cb : Nat) (zs : List Int) (w : World) (hl : len ≤ 1000000) (ha : IsRow .i64 w a len len zs) (hb : IsRow .i64 w b len len zs) :
    Calls Try.prog 14 #[.agg #[.int .i64 k, .int .i64 n, .int .i64 r, .slice a len ca], .agg #[.int .i64 k, .int .i64 n, .int .i64 r, .slice b len cb]] w fun e w' => e = .returned (.bool true) ∧ Below w.heap.size w w' := by
  have b1 := (Below.refl w.heap.size w).alloc (Nat.le_refl _) (.cells #[.int .i64 k, .int .i64 n, .int .i64 r, .slice a len ca] 24)
  have x1 := heap_alloc_new w (.cells #[.int .i64 k, .int .i64 n, .int .i64 r, .slice a len ca] 24)
  obtain ⟨w1, hw1⟩ : ∃ w1, w.alloc (.cells #[.int .i64 k, .int .i64 n, .int .i64 r, .slice a len ca] 24) = w1 := ⟨_, rfl⟩
  rw [hw1] at b1 x1
  have z1 : w1.heap.size = w.heap.size + 1 := by rw [← hw1]; simp
  have b2 := b1.alloc b1.size (.cells #[.int .i64 k, .int .i64 n, .int .i64 r, .slice b len cb] 24)
  have x2 := heap_alloc_new w1 (.cells #[.int .i64 k, .int .i64 n, .int .i64 r, .slice b len cb] 24)
  have y1 : (w1.alloc (.cells #[.int .i64 k, .int .i64 n, .int .i64 r, .slice b len cb] 24)).heap[w.heap.size]? = some (.cells #[.int .i64 k, .int .i64 n, .int .i64 r, .slice a len ca] 24 (0, 0)) :=
    (((Below.refl w1.heap.size w1).alloc (Nat.le_refl _) _).block _ (heap_lt x1)).trans x1
  obtain ⟨w2, hw2⟩ : ∃ w2, w1.alloc (.cells #[.int .i64 k, .int .i64 n, .int .i64 r, .slice b len cb] 24) = w2 := ⟨_, rfl⟩
  rw [hw2] at b2 x2 y1
  rw [z1] at x2
  obtain ⟨c0, c1, c2, c3⟩ := rec_reads y1
  obtain ⟨d0, d1, d2, d3⟩ := rec_reads x2
  have HI := Lib.hid (isame_any a b len ca cb len len zs w2 (by omega) (ha.below b2) (hb.below b2))
  clear ha hb x1 x2 y1 b1
  go_enter Try.func14, Try.ntmps14
  go_wp2_with fail
  refine HI.out.mono ?_
  rintro E w3 ⟨rfl, hb3⟩
  have d4 := b2.trans (hb3.mono b2.size)
  go_wp2
  go_ret
  exact ⟨rfl, d4⟩

/-- Two records that say the same, either way round. -/
def Sm (w : World) (x y : Rv) : Prop := Alike x y ∧ ∃ zs : List Int, IsRow .i64 w x.a x.len x.len zs ∧ IsRow .i64 w y.a x.len x.len zs
theorem Sm.below {w w' : World} {x y : Rv} (h : Sm w x y) (hb : Below w.heap.size w w') : Sm w' x y := ⟨h.1, h.2.elim fun zs h => ⟨zs, h.1.below hb, h.2.below hb⟩⟩
theorem Sm.symm {w : World} {x y : Rv} (h : Sm w x y) : Sm w y x := by
  obtain ⟨⟨a, b, c, d⟩, zs, h2, h3⟩ := h
  exact ⟨⟨a.symm, b.symm, c.symm, d.symm⟩, zs, by rw [d]; exact h3, by rw [d]; exact h2⟩
theorem Eqv.sm {w : World} {x y : Rv} (h : Eqv w x y) : Sm w x y := ⟨h.1, h.2.2.elim fun zs h => ⟨zs, h.2⟩⟩
theorem Pair2.symm {R S : Rv → Rv → Prop} {l m : List Rv} (h : Pair2 R l m) (hs : ∀ x y, R x y → S y x) : Pair2 S m l := ⟨h.1.symm, fun i x y hx hy => hs y x (h.2 i y x hy hx)⟩

set_option maxRecDepth 100000 in
set_option maxHeartbeats 4000000 in
theorem mgsames_any (a b : Option Addr) (m ca cb : Nat) (rs qs : List Rv) (w : World) (hn : rs.length = m) (hl : m ≤ 1000000000) (hi : ∀ x ∈ rs, x.len ≤ 1000000) (ha : RecAt w a rs) (hb : RecAt w b qs) (he : Pair2 (Sm w) rs qs) :
    Calls Try.prog 15 #[.slice a m ca, .slice b m cb] w fun e w' => e = .returned (.bool true) ∧ Below w.heap.size w w' := by
  have HI := Lib.hid hi
  have HA := Lib.hid ha
  have HBB := Lib.hid hb
  have HEE := Lib.hid he
  clear hi ha hb he
  go_enter Try.func15, Try.ntmps15
  go_wp2
  go_loopw [5] (fun i wr => ∃ k : Nat, k ≤ m ∧ i = .int .i64 (k : Int) ∧ Hid (Below w.heap.size w wr)) (fun i _ => m - (RowKit.intOf i).toNat)
  case atStart => exact ⟨0, Nat.zero_le _, rfl, Lib.hid (Below.refl _ _)⟩
  case round =>
    obtain ⟨k, hk, rfl, HR⟩ := hrel
    by_cases hlt : k < m
    · obtain ⟨b1, off1, x, rfl, hx, c0, c1, c2, c3⟩ := (HA.out.below HR.out).get (i := k) (by omega)
      obtain ⟨b2, off2, y, rfl, hy, d0, d1, d2, d3⟩ := (HBB.out.below HR.out).get (i := k) (by have := HEE.out.1; omega)
      obtain ⟨⟨e1, e2, e3, e4⟩, zs, r1, r2⟩ := (HEE.out.2 k x y hx hy).below HR.out
      have hl2 := HI.out x (List.mem_of_getElem? hx)
      rw [e1] at d0
      rw [e2] at d1
      rw [e3] at d2
      rw [e4] at d3
      have u0 : (0 : Int) ≤ (k : Int) := by omega
      have u1 : (k : Int) < (m : Int) := by omega
      have HS := Lib.hid (fun (W : World) (hW : Below wr.heap.size wr W) => mgsame_any x.k x.n x.r x.len x.a y.a x.cap y.cap zs W hl2 (r1.below hW) (r2.below hW))
      obtain ⟨xk, xn, xr, xa, xl, xc⟩ := x
      obtain ⟨yk, yn, yr, ya, yl, yc⟩ := y
      dsimp only at HS c0 c1 c2 c3 d0 d1 d2 d3
      clear hx hy hl2 r1 r2 e1 e2 e3 e4
      go_wp2_with fail
      go_region_with (first
        | (go_at_call 14
           refine (HS.out _ (Below.refl _ _).drew).mono ?_
           rintro E w2 ⟨rfl, hb2⟩
           have HB2 : Hid (Below wr.heap.size wr w2) := Lib.hid ((Below.refl _ _).drew.trans hb2)
           clear hb2))
      all_goals
        have HR2 := Lib.hid (HR.out.trans (HB2.out.mono HR.out.size))
        go_wp2
        exact ⟨⟨k + 1, by omega, by go_num, HR2⟩, by simp [RowKit.intOf]; omega⟩
    · obtain rfl : k = m := by omega
      have u1 : ¬ (k : Int) < (k : Int) := by omega
      go_wp2
      go_ret
      exact ⟨rfl, HR.out⟩

/-- Few records, of few numbers. -/
def fewM (rs : List Rv) (most : Nat) : Bool := decide (rs.length ≤ most) && rs.all fun x => decide (x.len ≤ 30)
theorem fewM_yes {rs : List Rv} {most : Nat} (h : fewM rs most = true) : rs.length ≤ most ∧ ∀ x ∈ rs, x.len ≤ 30 := by
  unfold fewM at h
  simp at h
  exact ⟨h.1, fun x hx => h.2 x hx⟩

set_option maxRecDepth 100000 in
set_option maxHeartbeats 4000000 in
theorem mgfew_any (a : Option Addr) (m ca most : Nat) (rs : List Rv) (w : World) (hn : rs.length = m) (hm : most ≤ 1000) (ha : RecAt w a rs) (q : Bool) (hq : fewM rs most = q) :
    Calls Try.prog 6 #[.slice a m ca, .int .i64 (most : Int)] w fun e w' => e = .returned (.bool q) ∧ w' = w := by
  have HA := Lib.hid ha
  have HQ := Lib.hid hq
  clear ha hq
  by_cases hlm : most < m
  · obtain rfl : q = false := by
      rw [← HQ.out]
      unfold fewM
      rw [decide_eq_false (by omega)]
      rfl
    have g : (most : Int) < (m : Int) := by omega
    go_enter Try.func6, Try.ntmps6
    go_wp2
    go_ret
    exact ⟨rfl, rfl⟩
  · have g : ¬ (most : Int) < (m : Int) := by omega
    go_enter Try.func6, Try.ntmps6
    go_wp2
    go_loop [5] (fun i => ∃ k : Nat, k ≤ m ∧ i = .int .i64 (k : Int) ∧ Hid (∀ j x, j < k → rs[j]? = some x → x.len ≤ 30)) (fun i => m - (RowKit.intOf i).toNat)
    case atStart => exact ⟨0, Nat.zero_le _, rfl, Lib.hid (fun j x h => by omega)⟩
    case round =>
      obtain ⟨k, hk, rfl, HK⟩ := hrel
      by_cases hlt : k < m
      · obtain ⟨b1, off1, x, rfl, hx, c0, c1, c2, c3⟩ := HA.out.get (i := k) (by omega)
        have u0 : (0 : Int) ≤ (k : Int) := by omega
        have u1 : (k : Int) < (m : Int) := by omega
        have HX := Lib.hid hx
        clear hx c0 c1 c2
        by_cases hx30 : 30 < x.len
        · obtain rfl : q = false := by
            rw [← HQ.out]
            unfold fewM
            have : (rs.all fun x => decide (x.len ≤ 30)) = false := by
              rw [List.all_eq_false]
              exact ⟨x, List.mem_of_getElem? HX.out, by simp; omega⟩
            rw [this, Bool.and_false]
          have u2 : (30 : Int) < (x.len : Int) := by omega
          obtain ⟨xk, xn, xr, xa, xl, xc⟩ := x
          dsimp only at c3 u2
          go_wp2
          go_ret
          exact ⟨rfl, rfl⟩
        · have u2 : ¬ (30 : Int) < (x.len : Int) := by omega
          have HK2 : Hid (∀ j y, j < k + 1 → rs[j]? = some y → y.len ≤ 30) := Lib.hid fun j y hj hy => by
            rcases Nat.lt_or_ge j k with h | h
            · exact HK.out j y h hy
            · obtain rfl : j = k := by omega
              rw [HX.out] at hy
              injection hy with hy
              subst hy
              omega
          obtain ⟨xk, xn, xr, xa, xl, xc⟩ := x
          dsimp only at c3 u2
          go_wp2
          exact ⟨⟨k + 1, by omega, by go_num, HK2⟩, by simp [RowKit.intOf]; omega⟩
      · obtain rfl : k = m := by omega
        have u1 : ¬ (k : Int) < (k : Int) := by omega
        obtain rfl : q = true := by
          rw [← HQ.out]
          unfold fewM
          rw [decide_eq_true (by omega), Bool.true_and, List.all_eq_true]
          intro x hx
          obtain ⟨j, hj, rfl⟩ := List.getElem_of_mem hx
          exact decide_eq_true (HK.out j _ (by omega) (List.getElem?_eq_getElem hj))
        go_wp2
        go_ret
        exact ⟨rfl, rfl⟩
end Go.Proofs.Ytikhjofpioegbaa
