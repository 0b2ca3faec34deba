/-
  Texts put together: PnT, MgW, MgBm, PnHe, MgWo.
-/
import Derived.Test.YtlfofdgeaigpbaaBn9
import Derived.Test.YtlfofdgeaigpbaaMgQ
import Derived.Test.YtlfofdgeaigpbaaBn4
import Derived.Test.YtlfofdgeaigpbaaBn5
import Derived.Test.YtlfofdgeaigpbaaMgT
set_option linter.unusedSimpArgs false
set_option linter.unusedVariables false
namespace Go.Proofs.Ytlfofdgeaigpbaa
open Go.RowKit

/-- Records whose numbers are few, and can be read. -/
def Fits (w : World) (rs : List Rv) : Prop := ∀ x ∈ rs, Rd w x ∧ x.len ≤ 30
theorem Fits.all {w : World} {rs : List Rv} (h : Fits w rs) : ∀ y ∈ mgAll rs, y.len ≤ 30 ∧ (rvB w y).length ≤ 300 ∧ (rvI w y).length = y.len ∧ ∀ W, Below w.heap.size w W → IsRow .i64 W y.a y.len y.len (rvI w y) := by
  intro y hy
  rcases mga_from rs y hy with hm | h0
  · obtain ⟨h1, h2⟩ := h y hm
    exact ⟨h2, rvB_len h1 h2, (rvi_row h1).1, fun W hW => (rvi_row h1).2.below hW⟩
  · have e := rvi_none (w := w) (x := y) h0
    refine ⟨by omega, ?_, by rw [e, h0]; rfl, fun W _ => .inl h0⟩
    unfold rvB
    by_cases hk : rvOk w y = true
    · rw [if_pos hk]
      exact putK_len hk (by rw [e]; simp)
    · rw [if_neg hk]; simp

theorem td_go {bt : Rv → List UInt8} {A : List Rv} {k : Nat} {x : Rv} {u : List UInt8} (hx : A[k]? = some x) (h : u ++ tdL bt (A.drop k) = tdL bt A) :
    (k + 1 < A.length → (u ++ bt x) ++ tdL bt (A.drop (k + 1)) = tdL bt A) ∧ (k + 1 = A.length → (x.k = 6 → (u ++ bt x) ++ tdL bt (A.drop (k + 1)) = tdL bt A) ∧ (x.k ≠ 6 → u ++ tdL bt (A.drop (k + 1)) = tdL bt A)) := by
  obtain ⟨hk, rfl⟩ := List.getElem?_eq_some_iff.1 hx
  rw [List.drop_eq_getElem_cons hk] at h
  refine ⟨fun h2 => ?_, fun h2 => ?_⟩
  · rw [← h]
    rw [List.drop_eq_getElem_cons h2, tdL_more, List.append_assoc]
  · have e : A.drop (k + 1) = [] := List.drop_eq_nil_of_le (by omega)
    rw [e, tdL_one] at h
    rw [e, tdL_nil, List.append_nil, List.append_nil]
    refine ⟨fun h6 => ?_, fun h6 => ?_⟩
    · rw [if_pos h6] at h; exact h
    · rw [if_neg h6, List.append_nil] at h; exact h

theorem pn_app (s t : List UInt8) : (⟨s.toArray⟩ : ByteArray) ++ (⟨t.toArray⟩ : ByteArray) = ⟨(s ++ t).toArray⟩ := by
  apply ByteArray.ext
  simp

set_option maxRecDepth 100000 in
set_option maxHeartbeats 4000000 in
theorem rpntold_any {w W : World} (hwW : Below w.heap.size w W) {rs : List Rv} {a : Option Addr} {m ca : Nat} (hm : rs.length = m) (hml : m ≤ 1000) (ha : RecAt W a rs) (hf : Fits w rs) :
    Calls Try.prog 11 #[.slice a m ca] W fun e W' => e = .returned (.string ⟨(tdL (rvB w) (mgAll rs)).toArray⟩) ∧ Below W.heap.size W W' := by
  have HA := Lib.hid (mgrall_any a m ca rs W hm hml ha)
  have HF := Lib.hid hf.all
  have hT : (tdL (rvB w) (mgAll rs)).length ≤ 300000 := by
    have h1 := td_len (bt := rvB w) (n := 300) (mgAll rs) (fun x hx => (HF.out x hx).2.1)
    have h2 := mga_len rs
    have : 300 * (mgAll rs).length ≤ 300 * 1000 := Nat.mul_le_mul_left _ (by omega)
    omega
  have hn := mga_len rs
  unfold RetAllV at HA
  generalize mgAll rs = A at *
  have HT : Hid (∀ u v, u ++ v = tdL (rvB w) A → u.length ≤ 300000) := Lib.hid (fun u v h => by
    have := congrArg List.length h
    rw [List.length_append] at this
    omega)
  obtain ⟨n, hAn⟩ : ∃ n, A.length = n := ⟨_, rfl⟩
  rw [hAn] at HA hn
  have HN := Lib.hid hAn
  have hn1 : n ≤ 1000 := by omega
  have HWW := Lib.hid hwW
  clear ha hf hT hwW hAn
  go_enter Try.func11, Try.ntmps11
  go_wp2_with fail
  refine HA.out.mono ?_
  rintro e W1 ⟨aa, ac, rfl, hac, hA1, _, hb1⟩
  have HA1 := Lib.hid hA1
  have HB1 := Lib.hid hb1
  have HW1 := Lib.hid (HWW.out.trans (hb1.mono HWW.out.size))
  clear HA hA1 hb1 hm
  go_wp2
  go_loopw [4, 5] (fun s i wr => ∃ (k : Nat) (u : List UInt8), k ≤ n ∧ i = .int .i64 (k : Int) ∧ s = .string ⟨u.toArray⟩ ∧ Hid (u ++ tdL (rvB w) (A.drop k) = tdL (rvB w) A) ∧ Below W1.heap.size W1 wr) (fun _ i _ => n - (RowKit.intOf i).toNat)
  case atStart => exact ⟨0, [], Nat.zero_le _, rfl, rfl, Lib.hid rfl, Below.refl _ _⟩
  case round =>
    obtain ⟨k, u, hk, rfl, rfl, HK, hbr⟩ := hrel
    by_cases hlt : k < n
    · obtain ⟨b1, off1, x, rfl, hx, c0, c1, c2, c3⟩ := (HA1.out.below hbr).get (i := k) (by rw [HN.out]; exact hlt)
      have hxm := List.mem_of_getElem? hx
      obtain ⟨f1, f2, f3, f4⟩ := HF.out x hxm
      obtain ⟨t1, t2⟩ := td_go hx HK.out
      rw [HN.out] at t1 t2
      have hul := HT.out u _ HK.out
      have HBr := Lib.hid hbr
      have HIR := Lib.hid (f4 wr (HW1.out.trans (hbr.mono HW1.out.size)))
      have hadd := pn_app u (rvB w x)
      have S1 := Lib.hid (bsize u)
      have S2 := Lib.hid (bsize (rvB w x))
      obtain ⟨xk, xn, xr, xa, xl, xc⟩ := x
      dsimp only at c0 c1 c2 c3 f1 f3 t1 t2 HIR
      have HP := Lib.hid (pn_rput (w := w) (W := wr) (by omega) f3 HIR.out)
      have HT1 := Lib.hid (And.intro t1 t2)
      generalize rvB w ⟨xk, xn, xr, xa, xl, xc⟩ = bx at HP HT1 f2 hadd S2
      generalize rvOk w ⟨xk, xn, xr, xa, xl, xc⟩ = q at HP
      obtain ⟨y, hy⟩ : ∃ y : Int, (if q = true then (0 : Int) else 2) = y := ⟨_, rfl⟩
      rw [hy] at HP
      obtain ⟨u', hu'⟩ : ∃ u', u ++ bx = u' := ⟨_, rfl⟩
      rw [hu'] at hadd HT1
      obtain ⟨p, rfl⟩ : ∃ p, n = p + 1 := ⟨n - 1, by omega⟩
      have u0 : (0 : Int) ≤ (k : Int) := by omega
      have u1 : (k : Int) < (p : Int) + 1 := by omega
      have z1 : ¬ 9223372036854775807 < u.length + bx.length := by omega
      have u3 : (p : Int) ≤ 1000 := by omega
      clear hx hxm t1 t2 f3 f4 hbr hy hu' HIR
      by_cases hl : k + 1 < p + 1
      · have HS := Lib.hid (HT1.out.1 hl)
        have g1 : (k : Int) < (p : Int) := by omega
        clear HT1
        go_wp2_with fail
        refine HP.out.mono ?_
        rintro e W2 ⟨rfl, hb2⟩
        have HB2 := Lib.hid (HBr.out.trans (hb2.mono HBr.out.size))
        clear HP hb2 c0 c1 c2 c3
        go_wp2
        exact ⟨⟨k + 1, u', by omega, by go_num, rfl, HS, HB2.out⟩, by simp [RowKit.intOf]; omega⟩
      · have hl2 : k + 1 = p + 1 := by omega
        have g1 : ¬ (k : Int) < (p : Int) := by omega
        by_cases h6 : xk = 6
        · have HS := Lib.hid ((HT1.out.2 hl2).1 h6)
          subst h6
          clear HT1
          go_wp2_with fail
          refine HP.out.mono ?_
          rintro e W2 ⟨rfl, hb2⟩
          have HB2 := Lib.hid (HBr.out.trans (hb2.mono HBr.out.size))
          clear HP hb2 c0 c1 c2 c3
          go_wp2
          exact ⟨⟨k + 1, u', by omega, by go_num, rfl, HS, HB2.out⟩, by simp [RowKit.intOf]; omega⟩
        · have HS := Lib.hid ((HT1.out.2 hl2).2 h6)
          have g6 : (xk == 6) = false := by simpa using h6
          clear HT1 HP
          go_wp2
          exact ⟨⟨k + 1, u, by omega, by go_num, rfl, HS, HBr.out⟩, by simp [RowKit.intOf]; omega⟩
    · obtain rfl : k = n := by omega
      have u1 : ¬ (k : Int) < (k : Int) := by omega
      have HU : Hid (u = tdL (rvB w) A) := Lib.hid (by
        have h := HK.out
        rw [List.drop_eq_nil_of_le (by rw [HN.out]; exact Nat.le_refl _), tdL_nil, List.append_nil] at h
        exact h)
      have HB2 := Lib.hid (HB1.out.trans (hbr.mono HB1.out.size))
      clear hbr HK
      go_wp2
      go_ret
      exact ⟨by rw [← HU.out]; rfl, HB2.out⟩
end Go.Proofs.Ytlfofdgeaigpbaa

namespace Go.Proofs.Ytlfofdgeaigpbaa
open Go.RowKit

/-- A merger in block b: what it holds, and whether it does. -/
def IsM (w : World) (b : Nat) (y : Rv) (s : Bool) : Prop := w.heap[b]? = some (.cells #[.int .i64 y.k, .int .i64 y.n, .int .i64 y.r, .slice y.a y.len y.cap, .bool s] 42 (0, 0))
theorem IsM.lt {w : World} {b : Nat} {y : Rv} {s : Bool} (h : IsM w b y s) : b < w.heap.size := heap_lt h
theorem IsM.below {w w' : World} {b : Nat} {y : Rv} {s : Bool} (h : IsM w b y s) (hb : Below w.heap.size w w') : IsM w' b y s := (hb.block _ h.lt).trans h
theorem put_m {w : World} {r : Nat} {T : TypeId} {u0 u1 u2 u3 u4 : Value} (h : w.heap[r]? = some (.cells #[u0, u1, u2, u3, u4] T (0, 0))) (x0 x1 x2 x3 x4 : Value) :
    (((((w.setCell ⟨r, 0, none⟩ x0).setCell ⟨r, 1, none⟩ x1).setCell ⟨r, 2, none⟩ x2).setCell ⟨r, 3, none⟩ x3).setCell ⟨r, 4, none⟩ x4).heap[r]? = some (.cells #[x0, x1, x2, x3, x4] T (0, 0)) := by
  rw [put_heap (put_heap (put_heap (put_heap (put_heap h x0) x1) x2) x3) x4]; rfl
theorem put_m4 {w : World} {r : Nat} {T : TypeId} {u0 u1 u2 u3 u4 : Value} (h : w.heap[r]? = some (.cells #[u0, u1, u2, u3, u4] T (0, 0))) (x0 x1 x2 x3 : Value) :
    ((((w.setCell ⟨r, 0, none⟩ x0).setCell ⟨r, 1, none⟩ x1).setCell ⟨r, 2, none⟩ x2).setCell ⟨r, 3, none⟩ x3).heap[r]? = some (.cells #[x0, x1, x2, x3, u4] T (0, 0)) := by
  rw [put_heap (put_heap (put_heap (put_heap h x0) x1) x2) x3]; rfl
theorem m_reads {w : World} {r : Nat} {T : TypeId} {x0 x1 x2 x3 x4 : Value} (h : w.heap[r]? = some (.cells #[x0, x1, x2, x3, x4] T (0, 0))) :
    w.cell? ⟨r, 0, none⟩ = some x0 ∧ w.cell? ⟨r, 1, none⟩ = some x1 ∧ w.cell? ⟨r, 2, none⟩ = some x2 ∧ w.cell? ⟨r, 3, none⟩ = some x3 ∧ w.cell? ⟨r, 4, none⟩ = some x4 := by
  refine ⟨?_, ?_, ?_, ?_, ?_⟩ <;> rw [Lib.cell_of_heap h] <;> rfl
theorem m_free {w : World} {r : Nat} {T : TypeId} {x0 x1 x2 x3 x4 : Value} (h : w.heap[r]? = some (.cells #[x0, x1, x2, x3, x4] T (0, 0))) :
    w.frozen? ⟨r, 0, none⟩ = false ∧ w.frozen? ⟨r, 1, none⟩ = false ∧ w.frozen? ⟨r, 2, none⟩ = false ∧ w.frozen? ⟨r, 3, none⟩ = false ∧ w.frozen? ⟨r, 4, none⟩ = false :=
  ⟨Lib.frozen_of_heap h 0, Lib.frozen_of_heap h 1, Lib.frozen_of_heap h 2, Lib.frozen_of_heap h 3, Lib.frozen_of_heap h 4⟩
theorem into5 (w : World) (b : Nat) (x0 x1 x2 x3 x4 : Value) : Into b w (((((w.setCell ⟨b, 0, none⟩ x0).setCell ⟨b, 1, none⟩ x1).setCell ⟨b, 2, none⟩ x2).setCell ⟨b, 3, none⟩ x3).setCell ⟨b, 4, none⟩ x4) :=
  (((((Into.refl b w).set 0 x0).set 1 x1).set 2 x2).set 3 x3).set 4 x4
theorem into4 (w : World) (b : Nat) (x0 x1 x2 x3 : Value) : Into b w ((((w.setCell ⟨b, 0, none⟩ x0).setCell ⟨b, 1, none⟩ x1).setCell ⟨b, 2, none⟩ x2).setCell ⟨b, 3, none⟩ x3) :=
  ((((Into.refl b w).set 0 x0).set 1 x1).set 2 x2).set 3 x3

set_option maxRecDepth 100000 in
set_option maxHeartbeats 1000000 in
theorem mgflush_nil (w : World) :
    Calls Try.prog 22 #[.pointer none] w fun e w' => e = .returned (.tuple #[.agg #[.int .i64 0, .int .i64 0, .int .i64 0, .slice none 0 0], .bool false]) ∧ Below w.heap.size w w' := by
  obtain ⟨w1, hw1⟩ : ∃ w1, w.alloc (.cells #[.int .i64 0, .int .i64 0, .int .i64 0, .slice none 0 0] 34) = w1 := ⟨_, rfl⟩
  have hX0 : w1.heap[w.heap.size]? = some (.cells #[.int .i64 0, .int .i64 0, .int .i64 0, .slice none 0 0] 34 (0, 0)) := by rw [← hw1]; exact heap_alloc_new w _
  have hB1 : Below w.heap.size w w1 := by rw [← hw1]; exact (Below.refl w.heap.size w).alloc (Nat.le_refl _) _
  obtain ⟨f0, f1, f2, f3⟩ := rec_free hX0
  obtain ⟨j0, j1, j2, j3⟩ := rec_reads hX0
  have HF := Lib.hid (put_rec hX0 (.int .i64 0) (.int .i64 0) (.int .i64 0) (.slice none 0 0))
  have HBe := Lib.hid (below_rec hB1 (Nat.le_refl _) (.int .i64 0) (.int .i64 0) (.int .i64 0) (.slice none 0 0))
  clear hX0 hB1
  go_enter Try.func22, Try.ntmps22
  go_wp2
  try rw [hw1]
  obtain ⟨i0, i1, i2, i3⟩ := rec_reads HF.out
  refine bodyPost_ret (v := .tuple #[.agg #[.int .i64 0, .int .i64 0, .int .i64 0, .slice none 0 0], .bool false]) (by simp [results, Try.results22, go_sem, i0, i1, i2, i3]) rfl ?_
  exact ⟨rfl, HBe.out⟩

set_option maxRecDepth 100000 in
set_option maxHeartbeats 2000000 in
theorem mgflush_any {w : World} {b : Nat} (k n r : Int) (a : Option Addr) (len cap : Nat) (s : Bool) (h : IsM w b ⟨k, n, r, a, len, cap⟩ s) :
    Calls Try.prog 22 #[.pointer (some ⟨b, 0, none⟩)] w fun e w' => e = .returned (.tuple #[.agg #[.int .i64 k, .int .i64 n, .int .i64 r, .slice a len cap], .bool s]) ∧ IsM w' b rv0 false ∧ But w.heap.size b w w' := by
  have hlt := h.lt
  unfold IsM at h
  dsimp only at h
  obtain ⟨w1, hw1⟩ : ∃ w1, w.alloc (.cells #[.int .i64 0, .int .i64 0, .int .i64 0, .slice none 0 0] 34) = w1 := ⟨_, rfl⟩
  have hX0 : w1.heap[w.heap.size]? = some (.cells #[.int .i64 0, .int .i64 0, .int .i64 0, .slice none 0 0] 34 (0, 0)) := by rw [← hw1]; exact heap_alloc_new w _
  have hB1 : Below w.heap.size w w1 := by rw [← hw1]; exact (Below.refl w.heap.size w).alloc (Nat.le_refl _) _
  have hs1 : w1.heap.size = w.heap.size + 1 := by rw [← hw1]; simp
  have h1 := (hB1.block _ hlt).trans h
  obtain ⟨c0, c1, c2, c3, c4⟩ := m_reads h1
  obtain ⟨w2, hw2⟩ : ∃ w2, w1.alloc (.cells #[.int .i64 k, .int .i64 n, .int .i64 r, .slice a len cap, .bool s] 42) = w2 := ⟨_, rfl⟩
  have hD2 : w2.heap[w1.heap.size]? = some (.cells #[.int .i64 k, .int .i64 n, .int .i64 r, .slice a len cap, .bool s] 42 (0, 0)) := by rw [← hw2]; exact heap_alloc_new w1 _
  have hB2 : Below w1.heap.size w1 w2 := by rw [← hw2]; exact (Below.refl w1.heap.size w1).alloc (Nat.le_refl _) _
  rw [hs1] at hD2
  have h2 := (hB2.block _ (by omega)).trans h1
  have hX2 := (hB2.block _ (by omega)).trans hX0
  obtain ⟨d0, d1, d2, d3, d4⟩ := m_reads h2
  obtain ⟨g0, g1, g2, g3, g4⟩ := m_free h2
  have hI := into5 w2 b (.int .i64 0) (.int .i64 0) (.int .i64 0) (.slice none 0 0) (.bool false)
  have h3 := put_m h2 (.int .i64 0) (.int .i64 0) (.int .i64 0) (.slice none 0 0) (.bool false)
  have hD3 := (hI.block _ (by omega)).trans hD2
  have hX3 := (hI.block _ (by omega)).trans hX2
  have HBU := Lib.hid (((But.of hB1 (b := b)).trans (But.of (hB2.mono (by omega)))).trans (But.into (base := w.heap.size) hI))
  obtain ⟨w3, hw3⟩ : ∃ w3, (((((w2.setCell ⟨b, 0, none⟩ (.int .i64 0)).setCell ⟨b, 1, none⟩ (.int .i64 0)).setCell ⟨b, 2, none⟩ (.int .i64 0)).setCell ⟨b, 3, none⟩ (.slice none 0 0)).setCell ⟨b, 4, none⟩ (.bool false)) = w3 := ⟨_, rfl⟩
  rw [hw3] at h3 hD3 hX3 HBU
  obtain ⟨e0, e1, e2, e3, e4⟩ := m_reads hD3
  obtain ⟨f0, f1, f2, f3⟩ := rec_free hX3
  obtain ⟨j0, j1, j2, j3⟩ := rec_reads hX3
  have HX3 := Lib.hid hX3
  have H3 := Lib.hid h3
  have HF := Lib.hid (put_rec hX3 (.int .i64 k) (.int .i64 n) (.int .i64 r) (.slice a len cap))
  have HN := Lib.hid (show b ≠ w.heap.size by omega)
  clear h h1 h2 h3 hD2 hD3 hX0 hX2 hX3 hI hB1 hB2 hlt
  go_enter Try.func22, Try.ntmps22
  go_wp2_with fail
  go_region
  all_goals
    go_wp2
    obtain ⟨i0, i1, i2, i3⟩ := rec_reads HF.out
    refine bodyPost_ret (v := .tuple #[.agg #[.int .i64 k, .int .i64 n, .int .i64 r, .slice a len cap], .bool s]) (by simp [results, Try.results22, go_sem, i0, i1, i2, i3]) rfl ?_
    refine ⟨rfl, ?_, ?_⟩
    · exact ((into4 w3 w.heap.size _ _ _ _).block _ HN.out).trans H3.out
    · exact HBU.out.trans (But.of (below_rec (B := w.heap.size) (w := w3) (w' := w3) (Below.refl _ _) (Nat.le_refl _) _ _ _ _).drew)
end Go.Proofs.Ytlfofdgeaigpbaa

namespace Go.Proofs.Ytlfofdgeaigpbaa
open Go.RowKit

theorem But.belowM {b B : Nat} {w w' : World} (h : But w.heap.size b w w') (hB : B ≤ w.heap.size) (hb : B ≤ b) : Below B w w' := ⟨h.os, h.tape, h.output, h.size, fun k hk => h.block k (by omega) (by omega)⟩
theorem pair_last {R : Rv → Rv → Prop} {l m : List Rv} {y : Rv} (h : Pair2 R l (m ++ [y])) : ∃ o y', l = o ++ [y'] ∧ R y' y ∧ Pair2 R o m := by
  have hl := h.1
  simp at hl
  rcases mg_cases l with rfl | ⟨o, y', rfl⟩
  · simp at hl
  · simp at hl
    refine ⟨o, y', rfl, h.2 o.length y' y (by simp) (by rw [hl]; simp), hl, fun i u v hu hv => h.2 i u v ?_ ?_⟩
    · rw [List.getElem?_append_left (List.getElem?_eq_some_iff.1 hu).1]; exact hu
    · rw [List.getElem?_append_left (List.getElem?_eq_some_iff.1 hv).1]; exact hv
end Go.Proofs.Ytlfofdgeaigpbaa

namespace Go.Proofs.Ytlfofdgeaigpbaa
open Go.RowKit

/-- What a merger holds, to which these records came: the last one of those put together, or (behind an End) whatever it may be. -/
structure PnHeld (w W : World) (came : List Rv) (y : Rv) (s : Bool) : Prop where
  ok : mayS (rvOk w) [] came = 0
  none : came = [] → s = false ∧ y = rv0
  held : came ≠ [] → lastK came ≠ 6 → s = true ∧ ∃ o x', mgAll came = o ++ [x'] ∧ Cp w W x' y
theorem PnHeld.keep {w W W' : World} {came : List Rv} {y : Rv} {s : Bool} (h : PnHeld w W came y s) (hi : Keep 3 W W') : PnHeld w W' came y s :=
  ⟨h.ok, h.none, fun a b => by obtain ⟨e, o, x', e2, c⟩ := h.held a b; exact ⟨e, o, x', e2, c.keep hi⟩⟩
theorem PnHeld.start (w W : World) : PnHeld w W [] rv0 false := ⟨rfl, fun _ => ⟨rfl, rfl⟩, fun h => absurd rfl h⟩
/-- Kinds of what came. -/
theorem came_kind {w : World} {came : List Rv} (h : mayS (rvOk w) [] came = 0) (hc : came ≠ []) : 1 ≤ lastK came ∧ lastK came ≤ 6 := by
  rcases mg_cases came with rfl | ⟨o, y, rfl⟩
  · exact absurd rfl hc
  · rw [lastK_snoc]
    exact ok_kind (may_each _ _ h y (by simp))
theorem came_next {w : World} {came : List Rv} {x : Rv} (h : mayS (rvOk w) [] came = 0) (he : mayE (rvOk w) came x = 0) : mayS (rvOk w) [] (came ++ [x]) = 0 := by
  rw [mayS_snoc, if_pos h]; exact he
/-- Nothing came, or the merger holds the last one. -/
theorem PnHeld.cases {w W : World} {came : List Rv} {y : Rv} {s : Bool} (h : PnHeld w W came y s) (h6 : lastK came ≠ 6) : (came = [] ∧ s = false ∧ y = rv0) ∨ (came ≠ [] ∧ s = true ∧ ∃ o x', mgAll came = o ++ [x'] ∧ Cp w W x' y) := by
  by_cases hc : came = []
  · exact .inl ⟨hc, h.none hc⟩
  · exact .inr ⟨hc, h.held hc h6⟩
/-- One more record, put to what is held: nothing is told. -/
theorem PnHeld.hit {w W W' : World} {came : List Rv} {y x : Rv} {s : Bool} (h : PnHeld w W came y s) (he : mayE (rvOk w) came x = 0) (ht : twoB y x = true) (hi : Keep 3 W W') :
    PnHeld w W' (came ++ [x]) (plusR y x) s ∧ pnNew (rvB w) (mgAll came) x = [] ∧ x.k ≠ 6 ∧ s = true := by
  have t := mg2_yes ht
  rcases h.cases (may_yes he).1 with ⟨rfl, rfl, rfl⟩ | ⟨hc, rfl, o, x', e, c⟩
  · rw [mg2_zero] at ht; cases ht
  · have ht' : twoB x' x = true := (c.1.two (Alike.refl x)).symm.trans ht
    refine ⟨⟨came_next h.ok he, fun e => by simp at e, fun _ _ => ⟨rfl, o, plusR x' x, ?_, ?_⟩⟩, ?_, by omega, rfl⟩
    · rw [mga_snoc, e, mgs_hit ht']
    · rw [c.1.plus x]
      exact Cp.none (Alike.refl _) (fun _ => rfl) rfl
    · rw [e, pnn_hit _ ht']
/-- One more, that can't be put to it: what was held is told; it is held. -/
theorem PnHeld.miss {w W W' : World} {came : List Rv} {y x z : Rv} {s : Bool} (h : PnHeld w W came y s) (he : mayE (rvOk w) came x = 0) (ht : twoB y x = false) (hi : Keep 3 W W') (hz : Cp w W' x z) :
    PnHeld w W' (came ++ [x]) z true ∧ ((came = [] ∧ s = false ∧ pnNew (rvB w) (mgAll came) x = if x.k = 6 then rvB w x else []) ∨
      (came ≠ [] ∧ s = true ∧ ∃ x', Cp w W' x' y ∧ x' ∈ mgAll came ∧ pnNew (rvB w) (mgAll came) x = rvB w x' ++ (if x.k = 6 then rvB w x else []))) := by
  rcases h.cases (may_yes he).1 with ⟨rfl, rfl, rfl⟩ | ⟨hc, rfl, o, x', e, c⟩
  · exact ⟨⟨came_next h.ok he, fun e => by simp at e, fun _ _ => ⟨rfl, [], x, rfl, hz⟩⟩, .inl ⟨rfl, rfl, rfl⟩⟩
  · have ht' : twoB x' x = false := (c.1.two (Alike.refl x)).symm.trans ht
    refine ⟨⟨came_next h.ok he, fun e => by simp at e, fun _ _ => ⟨rfl, o ++ [x'], x, ?_, hz⟩⟩, .inr ⟨hc, rfl, x', c.keep hi, by rw [e]; simp, ?_⟩⟩
    · rw [mga_snoc, e, mgs_miss ht']
    · rw [e, pnn_miss _ ht']
/-- Behind an End anything may be held. -/
theorem PnHeld.fin {w W W' : World} {came : List Rv} {x z z' : Rv} {s s' : Bool} (h : PnHeld w W (came ++ [x]) z s) (hx : x.k = 6) : PnHeld w W' (came ++ [x]) z' s' :=
  ⟨h.ok, fun e => by simp at e, fun _ h6 => absurd (by rw [lastK_snoc]; exact hx) h6⟩
/-- What is held is written as what came. -/
theorem PnHeld.row {w W : World} {came : List Rv} {x' y : Rv} (hf : Fits w came) (hok : mayS (rvOk w) [] came = 0) (hm : x' ∈ mgAll came) (hc : Cp w W x' y) :
    y.len ≤ 30 ∧ (rvI w x').length = y.len ∧ IsRow .i64 W y.a y.len y.len (rvI w x') ∧ okK y.k y.n y.r (rvI w x') = true ∧ putK y.k y.n y.r (rvI w x') = rvB w x' ∧ (rvB w x').length ≤ 300 := by
  obtain ⟨f1, f2, f3, f4⟩ := hf.all x' hm
  obtain ⟨a, b, c, d⟩ := hc.1
  have hall := may_all (ok := rvOk w) (fun y x p q r => rvOk_plus y x p q r) came hok
  have hk : rvOk w x' = true := may_each _ _ hall x' hm
  obtain ⟨r1, r2⟩ := rvi_copy hc (by unfold maxLen; omega)
  refine ⟨by omega, r1, r2, by rw [a, b, c]; exact hk, ?_, f2⟩
  rw [a, b, c]
  unfold rvB
  rw [if_pos hk]
end Go.Proofs.Ytlfofdgeaigpbaa

namespace Go.Proofs.Ytlfofdgeaigpbaa
open Go.RowKit

/-- A merger in block b, from cell o on, in a struct of type T whose cells are cs: what it holds, and whether it does. -/
def IsMo (w : World) (b o : Nat) (T : TypeId) (cs : Array Value) (y : Rv) (s : Bool) : Prop := w.heap[b]? = some (.cells cs T (0, 0)) ∧
  cs[o]? = some (.int .i64 y.k) ∧ cs[o + 1]? = some (.int .i64 y.n) ∧ cs[o + 2]? = some (.int .i64 y.r) ∧ cs[o + 3]? = some (.slice y.a y.len y.cap) ∧ cs[o + 4]? = some (.bool s)
/-- All other cells are as they were. -/
def Rest (o : Nat) (cs cs' : Array Value) : Prop := cs'.size = cs.size ∧ ∀ j, (j < o ∨ o + 5 ≤ j) → cs'[j]? = cs[j]?
theorem Rest.refl (o : Nat) (cs : Array Value) : Rest o cs cs := ⟨rfl, fun _ _ => rfl⟩
theorem Rest.trans {o : Nat} {cs ds es : Array Value} (h : Rest o cs ds) (k : Rest o ds es) : Rest o cs es := ⟨k.1.trans h.1, fun j hj => (k.2 j hj).trans (h.2 j hj)⟩
theorem IsMo.lt {w : World} {b o : Nat} {T : TypeId} {cs : Array Value} {y : Rv} {s : Bool} (h : IsMo w b o T cs y s) : b < w.heap.size := heap_lt h.1
theorem IsMo.same {w w' : World} {b o : Nat} {T : TypeId} {cs : Array Value} {y : Rv} {s : Bool} (h : IsMo w b o T cs y s) (e : w'.heap[b]? = w.heap[b]?) : IsMo w' b o T cs y s := ⟨e.trans h.1, h.2⟩
theorem IsMo.below {w w' : World} {b o : Nat} {T : TypeId} {cs : Array Value} {y : Rv} {s : Bool} (h : IsMo w b o T cs y s) (hb : Below w.heap.size w w') : IsMo w' b o T cs y s := h.same (hb.block _ h.lt)
theorem IsMo.reads {w : World} {b o : Nat} {T : TypeId} {cs : Array Value} {y : Rv} {s : Bool} (h : IsMo w b o T cs y s) :
    w.cell? ⟨b, o, none⟩ = some (.int .i64 y.k) ∧ w.cell? ⟨b, o + 1, none⟩ = some (.int .i64 y.n) ∧ w.cell? ⟨b, o + 2, none⟩ = some (.int .i64 y.r) ∧ w.cell? ⟨b, o + 3, none⟩ = some (.slice y.a y.len y.cap) ∧ w.cell? ⟨b, o + 4, none⟩ = some (.bool s) := by
  obtain ⟨h0, h1, h2, h3, h4, h5⟩ := h
  refine ⟨?_, ?_, ?_, ?_, ?_⟩ <;> rw [Lib.cell_of_heap h0]
  · exact h1
  · exact h2
  · exact h3
  · exact h4
  · exact h5
theorem IsMo.free {w : World} {b o : Nat} {T : TypeId} {cs : Array Value} {y : Rv} {s : Bool} (h : IsMo w b o T cs y s) :
    w.frozen? ⟨b, o, none⟩ = false ∧ w.frozen? ⟨b, o + 1, none⟩ = false ∧ w.frozen? ⟨b, o + 2, none⟩ = false ∧ w.frozen? ⟨b, o + 3, none⟩ = false ∧ w.frozen? ⟨b, o + 4, none⟩ = false :=
  ⟨Lib.frozen_of_heap h.1 _, Lib.frozen_of_heap h.1 _, Lib.frozen_of_heap h.1 _, Lib.frozen_of_heap h.1 _, Lib.frozen_of_heap h.1 _⟩

theorem set_get (cs : Array Value) (i j : Nat) (x : Value) : (cs.setIfInBounds i x)[j]? = if i = j then (if i < cs.size then some x else none) else cs[j]? := by
  rw [Array.getElem?_setIfInBounds]
/-- Its five cells are written. -/
theorem IsMo.put5 {w : World} {b o : Nat} {T : TypeId} {cs : Array Value} {y : Rv} {s : Bool} (h : IsMo w b o T cs y s) (z : Rv) (q : Bool) :
    ∃ cs', IsMo (((((w.setCell ⟨b, o, none⟩ (.int .i64 z.k)).setCell ⟨b, o + 1, none⟩ (.int .i64 z.n)).setCell ⟨b, o + 2, none⟩ (.int .i64 z.r)).setCell ⟨b, o + 3, none⟩ (.slice z.a z.len z.cap)).setCell ⟨b, o + 4, none⟩ (.bool q)) b o T cs' z q ∧ Rest o cs cs' := by
  obtain ⟨h0, h1, h2, h3, h4, h5⟩ := h
  have hs : o + 4 < cs.size := by
    rcases Nat.lt_or_ge (o + 4) cs.size with h | h
    · exact h
    · rw [Array.getElem?_eq_none h] at h5; cases h5
  refine ⟨_, ⟨put_heap (put_heap (put_heap (put_heap (put_heap h0 _) _) _) _) _, ?_, ?_, ?_, ?_, ?_⟩, ?_, ?_⟩
  · simp only [set_get, Array.size_setIfInBounds]; simp (config := { decide := true }); try omega
  · simp only [set_get, Array.size_setIfInBounds]; simp (config := { decide := true }); try omega
  · simp only [set_get, Array.size_setIfInBounds]; simp (config := { decide := true }); try omega
  · simp only [set_get, Array.size_setIfInBounds]; simp (config := { decide := true }); try omega
  · simp only [set_get, Array.size_setIfInBounds]; simp (config := { decide := true }); try omega
  · simp
  · intro j hj
    simp only [set_get, Array.size_setIfInBounds]
    rw [if_neg (by omega), if_neg (by omega), if_neg (by omega), if_neg (by omega), if_neg (by omega)]
/-- Its record's four cells are written. -/
theorem IsMo.put4 {w : World} {b o : Nat} {T : TypeId} {cs : Array Value} {y : Rv} {s : Bool} (h : IsMo w b o T cs y s) (z : Rv) :
    ∃ cs', IsMo ((((w.setCell ⟨b, o, none⟩ (.int .i64 z.k)).setCell ⟨b, o + 1, none⟩ (.int .i64 z.n)).setCell ⟨b, o + 2, none⟩ (.int .i64 z.r)).setCell ⟨b, o + 3, none⟩ (.slice z.a z.len z.cap)) b o T cs' z s ∧ Rest o cs cs' := by
  obtain ⟨h0, h1, h2, h3, h4, h5⟩ := h
  have hs : o + 4 < cs.size := by
    rcases Nat.lt_or_ge (o + 4) cs.size with h | h
    · exact h
    · rw [Array.getElem?_eq_none h] at h5; cases h5
  refine ⟨_, ⟨put_heap (put_heap (put_heap (put_heap h0 _) _) _) _, ?_, ?_, ?_, ?_, ?_⟩, ?_, ?_⟩
  · simp only [set_get, Array.size_setIfInBounds]; simp (config := { decide := true }); try omega
  · simp only [set_get, Array.size_setIfInBounds]; simp (config := { decide := true }); try omega
  · simp only [set_get, Array.size_setIfInBounds]; simp (config := { decide := true }); try omega
  · simp only [set_get, Array.size_setIfInBounds]; simp (config := { decide := true }); try omega
  · simp only [set_get, Array.size_setIfInBounds]
    rw [if_neg (by omega), if_neg (by omega), if_neg (by omega), if_neg (by omega)]
    exact h5
  · simp
  · intro j hj
    simp only [set_get, Array.size_setIfInBounds]
    rw [if_neg (by omega), if_neg (by omega), if_neg (by omega), if_neg (by omega)]
theorem into5o (w : World) (b o : Nat) (x0 x1 x2 x3 x4 : Value) : Into b w (((((w.setCell ⟨b, o, none⟩ x0).setCell ⟨b, o + 1, none⟩ x1).setCell ⟨b, o + 2, none⟩ x2).setCell ⟨b, o + 3, none⟩ x3).setCell ⟨b, o + 4, none⟩ x4) :=
  (((((Into.refl b w).set _ x0).set _ x1).set _ x2).set _ x3).set _ x4
theorem into4o (w : World) (b o : Nat) (x0 x1 x2 x3 : Value) : Into b w ((((w.setCell ⟨b, o, none⟩ x0).setCell ⟨b, o + 1, none⟩ x1).setCell ⟨b, o + 2, none⟩ x2).setCell ⟨b, o + 3, none⟩ x3) :=
  ((((Into.refl b w).set _ x0).set _ x1).set _ x2).set _ x3

set_option maxRecDepth 100000 in
set_option maxHeartbeats 2000000 in
theorem mgflush_at {w : World} {b o : Nat} {T : TypeId} {cs : Array Value} (k n r : Int) (a : Option Addr) (len cap : Nat) (s : Bool) (h : IsMo w b o T cs ⟨k, n, r, a, len, cap⟩ s) :
    Calls Try.prog 22 #[.pointer (some ⟨b, o, none⟩)] w fun e w' => e = .returned (.tuple #[.agg #[.int .i64 k, .int .i64 n, .int .i64 r, .slice a len cap], .bool s]) ∧ (∃ cs', IsMo w' b o T cs' rv0 false ∧ Rest o cs cs') ∧ But w.heap.size b w w' := by
  have hlt := h.lt
  obtain ⟨w1, hw1⟩ : ∃ w1, w.alloc (.cells #[.int .i64 0, .int .i64 0, .int .i64 0, .slice none 0 0] 34) = w1 := ⟨_, rfl⟩
  have hX0 : w1.heap[w.heap.size]? = some (.cells #[.int .i64 0, .int .i64 0, .int .i64 0, .slice none 0 0] 34 (0, 0)) := by rw [← hw1]; exact heap_alloc_new w _
  have hB1 : Below w.heap.size w w1 := by rw [← hw1]; exact (Below.refl w.heap.size w).alloc (Nat.le_refl _) _
  have hs1 : w1.heap.size = w.heap.size + 1 := by rw [← hw1]; simp
  have h1 := h.same (hB1.block _ hlt)
  obtain ⟨c0, c1, c2, c3, c4⟩ := h1.reads
  obtain ⟨w2, hw2⟩ : ∃ w2, w1.alloc (.cells #[.int .i64 k, .int .i64 n, .int .i64 r, .slice a len cap, .bool s] 42) = w2 := ⟨_, rfl⟩
  have hD2 : w2.heap[w1.heap.size]? = some (.cells #[.int .i64 k, .int .i64 n, .int .i64 r, .slice a len cap, .bool s] 42 (0, 0)) := by rw [← hw2]; exact heap_alloc_new w1 _
  have hB2 : Below w1.heap.size w1 w2 := by rw [← hw2]; exact (Below.refl w1.heap.size w1).alloc (Nat.le_refl _) _
  rw [hs1] at hD2
  have h2 := h1.same (hB2.block _ (by omega))
  have hX2 := (hB2.block _ (by omega)).trans hX0
  obtain ⟨d0, d1, d2, d3, d4⟩ := h2.reads
  obtain ⟨g0, g1, g2, g3, g4⟩ := h2.free
  dsimp only at c0 c1 c2 c3 c4 d0 d1 d2 d3 d4
  have hI := into5o w2 b o (.int .i64 0) (.int .i64 0) (.int .i64 0) (.slice none 0 0) (.bool false)
  obtain ⟨cs', h3, hrest⟩ := h2.put5 rv0 false
  simp only [rv0] at h3
  have hD3 := (hI.block _ (by omega)).trans hD2
  have hX3 := (hI.block _ (by omega)).trans hX2
  have HBU := Lib.hid (((But.of hB1 (b := b)).trans (But.of (hB2.mono (by omega)))).trans (But.into (base := w.heap.size) hI))
  obtain ⟨w3, hw3⟩ : ∃ w3, (((((w2.setCell ⟨b, o, none⟩ (.int .i64 0)).setCell ⟨b, o + 1, none⟩ (.int .i64 0)).setCell ⟨b, o + 2, none⟩ (.int .i64 0)).setCell ⟨b, o + 3, none⟩ (.slice none 0 0)).setCell ⟨b, o + 4, none⟩ (.bool false)) = w3 := ⟨_, rfl⟩
  rw [hw3] at h3 hD3 hX3 HBU
  obtain ⟨e0, e1, e2, e3, e4⟩ := m_reads hD3
  obtain ⟨f0, f1, f2, f3⟩ := rec_free hX3
  obtain ⟨j0, j1, j2, j3⟩ := rec_reads hX3
  have HX3 := Lib.hid hX3
  have H3 := Lib.hid h3
  have HR := Lib.hid hrest
  have HF := Lib.hid (put_rec hX3 (.int .i64 k) (.int .i64 n) (.int .i64 r) (.slice a len cap))
  have HN := Lib.hid (show b ≠ w.heap.size by omega)
  clear h h1 h2 h3 hD2 hD3 hX0 hX2 hX3 hI hB1 hB2 hlt hrest
  go_enter Try.func22, Try.ntmps22
  go_wp2_with fail
  go_region
  all_goals
    go_wp2
    obtain ⟨i0, i1, i2, i3⟩ := rec_reads HF.out
    refine bodyPost_ret (v := .tuple #[.agg #[.int .i64 k, .int .i64 n, .int .i64 r, .slice a len cap], .bool s]) (by simp [results, Try.results22, go_sem, i0, i1, i2, i3]) rfl ?_
    refine ⟨rfl, ⟨cs', ?_, HR.out⟩, ?_⟩
    · exact H3.out.same ((into4 w3 w.heap.size _ _ _ _).block _ HN.out)
    · exact HBU.out.trans (But.of (below_rec (B := w.heap.size) (w := w3) (w' := w3) (Below.refl _ _) (Nat.le_refl _) _ _ _ _).drew)
end Go.Proofs.Ytlfofdgeaigpbaa
