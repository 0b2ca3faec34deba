/-
  (*Merger).Add of a merger inside a block: walked.
-/
import Derived.Test.YtlfofdgeaigpbaaBn5
import Derived.Test.YtlfofdgeaigpbaaBn10
import Derived.Deep.RegionWith
import Derived.Deep.CutRange
set_option linter.unusedSimpArgs false
set_option linter.unusedVariables false
namespace Go.Proofs.Ytlfofdgeaigpbaa
open Go.RowKit

set_option maxRecDepth 100000 in
set_option maxHeartbeats 4000000 in
theorem mgadd_at {u w : World} {b off : Nat} {T : TypeId} {cs : Array Value} (hTi : 3 ≠ T) (hu : Below u.heap.size u w) (hub : u.heap.size ≤ b) (k n r : Int) (a : Option Addr) (len cap : Nat) (s : Bool) (h : IsMo w b off T cs ⟨k, n, r, a, len, cap⟩ s)
    (k' n' r' : Int) (a' : Option Addr) (len' cap' : Nat) (hrd : Rd u ⟨k', n', r', a', len', cap'⟩) (hl : len' ≤ 1000000) :
    Calls Try.prog 21 #[.pointer (some ⟨b, off, none⟩), .agg #[.int .i64 k', .int .i64 n', .int .i64 r', .slice a' len' cap']] w fun e w' => But w.heap.size b w w' ∧
      ((twoB ⟨k, n, r, a, len, cap⟩ ⟨k', n', r', a', len', cap'⟩ = true ∧ e = .returned (.tuple #[.agg #[.int .i64 0, .int .i64 0, .int .i64 0, .slice none 0 0], .bool false]) ∧ ∃ cs', IsMo w' b off T cs' (plusR ⟨k, n, r, a, len, cap⟩ ⟨k', n', r', a', len', cap'⟩) s ∧ Rest off cs cs') ∨
       (twoB ⟨k, n, r, a, len, cap⟩ ⟨k', n', r', a', len', cap'⟩ = false ∧ e = .returned (.tuple #[.agg #[.int .i64 k, .int .i64 n, .int .i64 r, .slice a len cap], .bool s]) ∧ ∃ z cs', IsMo w' b off T cs' z true ∧ Rest off cs cs' ∧ Cp u w' ⟨k', n', r', a', len', cap'⟩ z)) := by
  have hlt := h.lt
  have HL := Lib.hid hlt
  have HU := Lib.hid (And.intro hu hub)
  clear hu hub
  obtain ⟨w0, hw0⟩ : ∃ w0, w.alloc (.cells #[.int .i64 k', .int .i64 n', .int .i64 r', .slice a' len' cap'] 34) = w0 := ⟨_, rfl⟩
  have hX0 : w0.heap[w.heap.size]? = some (.cells #[.int .i64 k', .int .i64 n', .int .i64 r', .slice a' len' cap'] 34 (0, 0)) := by rw [← hw0]; exact heap_alloc_new w _
  have hB0 : Below w.heap.size w w0 := by rw [← hw0]; exact (Below.refl w.heap.size w).alloc (Nat.le_refl _) _
  have hs0 : w0.heap.size = w.heap.size + 1 := by rw [← hw0]; simp
  obtain ⟨w1, hw1⟩ : ∃ w1, w0.alloc (.cells #[.int .i64 0, .int .i64 0, .int .i64 0, .slice none 0 0] 34) = w1 := ⟨_, rfl⟩
  have hR1 : w1.heap[w0.heap.size]? = some (.cells #[.int .i64 0, .int .i64 0, .int .i64 0, .slice none 0 0] 34 (0, 0)) := by rw [← hw1]; exact heap_alloc_new w0 _
  have hB1' : Below w0.heap.size w0 w1 := by rw [← hw1]; exact (Below.refl w0.heap.size w0).alloc (Nat.le_refl _) _
  have hB1 : Below w.heap.size w w1 := hB0.trans (hB1'.mono hB0.size)
  have hs1 : w1.heap.size = w.heap.size + 2 := by rw [← hw1]; simp; omega
  rw [hs0] at hR1
  have h1 := h.same (hB1.block _ hlt)
  have hX1 := (hB1'.block _ (by omega)).trans hX0
  obtain ⟨c0, c1, c2, c3, c4⟩ := h1.reads
  dsimp only at c0 c1 c2 c3 c4
  obtain ⟨d0, d1, d2, d3⟩ := rec_reads hX1
  have HM1 := Lib.hid h1
  have HX1 := Lib.hid hX1
  have HR1 := Lib.hid hR1
  have HB1 := Lib.hid hB1
  have HS1 := Lib.hid hs1
  have HRD := Lib.hid hrd
  clear h h1 hX1 hX0 hR1 hB0 hB1 hB1' hlt hrd hs1
  have kk := (Below.refl w1.heap.size w1).drew.alloc (Nat.le_refl _) (.cells #[.int .i64 0, .int .i64 0, .int .i64 0, .slice none 0 0] 34)
  have a0 := fun o => rv_alloc (w := w1.drew) (b := b) c0 o
  have a1 := fun o => rv_alloc (w := w1.drew) (b := b) c1 o
  have a2 := fun o => rv_alloc (w := w1.drew) (b := b) c2 o
  have a3 := fun o => rv_alloc (w := w1.drew) (b := b) c3 o
  have e0 := fun o => rv_alloc (w := w1.drew) (b := w.heap.size) d0 o
  have e1 := fun o => rv_alloc (w := w1.drew) (b := w.heap.size) d1 o
  have e2 := fun o => rv_alloc (w := w1.drew) (b := w.heap.size) d2 o
  have e3 := fun o => rv_alloc (w := w1.drew) (b := w.heap.size) d3 o
  have a0' := fun o => rv_alloc (w := w1) (b := b) c0 o
  have a1' := fun o => rv_alloc (w := w1) (b := b) c1 o
  have a2' := fun o => rv_alloc (w := w1) (b := b) c2 o
  have a3' := fun o => rv_alloc (w := w1) (b := b) c3 o
  have e0' := fun o => rv_alloc (w := w1) (b := w.heap.size) d0 o
  have e1' := fun o => rv_alloc (w := w1) (b := w.heap.size) d1 o
  have e2' := fun o => rv_alloc (w := w1) (b := w.heap.size) d2 o
  have e3' := fun o => rv_alloc (w := w1) (b := w.heap.size) d3 o
  have HT := Lib.hid (fun W => mgtwo_any k n r a len cap k' n' r' a' len' cap' W)
  unfold RetTwo at HT
  have HTR := Lib.hid (fun h => mgr_yes (x := ⟨k, n, r, a, len, cap⟩) (y := ⟨k', n', r', a', len', cap'⟩) h)
  generalize hB : twoB ⟨k, n, r, a, len, cap⟩ ⟨k', n', r', a', len', cap'⟩ = B at HT HTR ⊢
  generalize twoR ⟨k, n, r, a, len, cap⟩ ⟨k', n', r', a', len', cap'⟩ = T at HT HTR
  obtain ⟨tk, tn, tr, ta, tl, tc⟩ := T
  dsimp only at HT
  clear hB
  go_enter Try.func21, Try.ntmps21
  go_upto_region 3 with fail
  go_cut [6, 7] from 13 (fun p q wx => ∃ rb : Nat, p = .pointer (some ⟨rb, 0, none⟩) ∧ q = .bool B ∧ w1.heap.size ≤ rb ∧ Hid (wx.heap[rb]? = some (.cells #[.int .i64 tk, .int .i64 tn, .int .i64 tr, .slice ta tl tc] 34 (0, 0))) ∧ Hid (Below w1.heap.size w1 wx))
  case first =>
    go_region_with (first
      | (go_at_call 32
         refine (HT.out _).mono ?_
         rintro E w2 ⟨rfl, hb⟩
         have HB2 : Hid (Below w1.heap.size w1 w2) := Lib.hid (by first | exact (Below.refl _ _).drew.trans hb | exact kk.trans (hb.mono kk.size))
         (first
           | (have X4 : w2.heap[w1.heap.size]? = some (.cells #[.int .i64 0, .int .i64 0, .int .i64 0, .slice none 0 0] 34 (0, 0)) := (hb.block _ (heap_lt (heap_alloc_new w1.drew (.cells #[.int .i64 0, .int .i64 0, .int .i64 0, .slice none 0 0] 34)))).trans (heap_alloc_new w1.drew (.cells #[.int .i64 0, .int .i64 0, .int .i64 0, .slice none 0 0] 34)); have HX4 := Lib.hid X4; obtain ⟨f0, f1, f2, f3⟩ := rec_free X4; obtain ⟨k0, k1, k2, k3⟩ := rec_reads X4; clear X4)
           | skip)
         clear hb))
    all_goals first
      | (have q1 := Lib.hid (put_rec HX4.out (.int .i64 tk) (.int .i64 tn) (.int .i64 tr) (.slice ta tl tc))
         have q3 := Lib.hid (below_rec HB2.out (Nat.le_refl _) (.int .i64 tk) (.int .i64 tn) (.int .i64 tr) (.slice ta tl tc))
         go_wp2_with fail
         go_meet
         exact ⟨_, rfl, rfl, Nat.le_refl _, q1, q3⟩)
      | (have kA : Below w2.heap.size w2 (w2.alloc (.cells #[.int .i64 tk, .int .i64 tn, .int .i64 tr, .slice ta tl tc] 34)) := (Below.refl _ _).alloc (Nat.le_refl _) _
         have q1 := Lib.hid (heap_alloc_new w2 (.cells #[.int .i64 tk, .int .i64 tn, .int .i64 tr, .slice ta tl tc] 34))
         have q2 := HB2.out.size
         have q3 := Lib.hid (HB2.out.trans (kA.mono HB2.out.size))
         clear kA
         go_wp2_with fail
         go_meet
         exact ⟨_, rfl, rfl, q2, q1, q3⟩)
  case rest =>
    obtain ⟨rb, rfl, rfl, hrb, HX, HBx⟩ := hcut
    clear a0 a1 a2 a3 e0 e1 e2 e3 a0' a1' a2' a3' e0' e1' e2' e3' c0 c1 c2 c3 c4 d0 d1 d2 d3 kk HT
    have hs1 := HS1.out
    have hltb := HL.out
    have hMc := HM1.out.same (HBx.out.block _ (by omega))
    have hXc := (HBx.out.block _ (by omega)).trans HX1.out
    have hRc := (HBx.out.block _ (by omega)).trans HR1.out
    have HBc := Lib.hid (HB1.out.trans (HBx.out.mono HB1.out.size))
    have hne1 : w.heap.size + 1 ≠ b := by omega
    have hne2 : b ≠ w.heap.size + 1 := by omega
    have hne3 : w.heap.size ≠ b := by omega
    have HBU0 := Lib.hid (But.of HBc.out (b := b))
    have HROW : Hid (∀ zs, IsRow .i64 u a' len' len' zs → ∀ w3, But w.heap.size b w w3 → ∀ w5, Below w3.heap.size w3 w5 → IsRow .i64 w5 a' len' len' zs) := Lib.hid fun zs hr w3 h3 w5 h5 => by
      have h4 : Below u.heap.size w w3 := ⟨h3.os, h3.tape, h3.output, h3.size, fun i hi => h3.block i (by have := HU.out.1.size; omega) (by have := HU.out.2; omega)⟩
      have h6 := HU.out.1.trans h4
      exact hr.below (h6.trans (h5.mono h6.size))
    cases B with
    | true =>
      have hT := HTR.out rfl
      simp only [plusR, Rv.mk.injEq] at hT
      have HPL : Hid (plusR ⟨k, n, r, a, len, cap⟩ ⟨k', n', r', a', len', cap'⟩ = ⟨tk, tn, tr, ta, tl, tc⟩) := Lib.hid (HTR.out rfl).symm
      obtain ⟨k0, k1, k2, k3⟩ := rec_reads HX.out
      obtain ⟨c0, c1, c2, c3, c4⟩ := hMc.reads
      dsimp only at c0 c1 c2 c3 c4
      obtain ⟨f0, f1, f2, f3, f4⟩ := hMc.free
      have hI := into4o wc b off (.int .i64 tk) (.int .i64 tn) (.int .i64 tr) (.slice ta tl tc)
      obtain ⟨cs2, hM2, hrest⟩ := hMc.put4 ⟨tk, tn, tr, ta, tl, tc⟩
      dsimp only at hM2
      have HRest := Lib.hid hrest
      have hR2 := (hI.block _ hne1).trans hRc
      have HBU := Lib.hid ((But.of HBc.out (b := b)).trans (But.into (base := w.heap.size) hI))
      obtain ⟨w4, hw4⟩ : ∃ w4, ((((wc.setCell ⟨b, off, none⟩ (.int .i64 tk)).setCell ⟨b, off + 1, none⟩ (.int .i64 tn)).setCell ⟨b, off + 2, none⟩ (.int .i64 tr)).setCell ⟨b, off + 3, none⟩ (.slice ta tl tc)) = w4 := ⟨_, rfl⟩
      rw [hw4] at hM2 hR2 HBU
      have HM2 := Lib.hid hM2
      obtain ⟨g0, g1, g2, g3⟩ := rec_free hR2
      obtain ⟨j0, j1, j2, j3⟩ := rec_reads hR2
      have HF := Lib.hid (put_rec hR2 (.int .i64 0) (.int .i64 0) (.int .i64 0) (.slice none 0 0))
      have HN2 := Lib.hid hne2
      clear hI hM2 hR2 hMc hrest hXc hRc hne1 hne2 hne3 hT hs1 hltb
      go_wp2
      obtain ⟨i0, i1, i2, i3⟩ := rec_reads HF.out
      refine bodyPost_ret (v := .tuple #[.agg #[.int .i64 0, .int .i64 0, .int .i64 0, .slice none 0 0], .bool false]) (by simp [results, Try.results21, go_sem, i0, i1, i2, i3]) rfl ?_
      refine ⟨HBU.out.trans (But.of (below_rec (B := w.heap.size) (w := w4) (w' := w4) (Below.refl _ _) (by omega) _ _ _ _)), rfl, ?_⟩
      rw [HPL.out]
      exact ⟨cs2, HM2.out.same ((into4 w4 (w.heap.size + 1) _ _ _ _).block _ HN2.out), HRest.out⟩
    | false =>
      have HFL := Lib.hid (mgflush_at (w := wc) (b := b) k n r a len cap s hMc)
      have HXc := Lib.hid hXc
      have HRc := Lib.hid hRc
      clear hMc hXc hRc
      go_wp2_with fail
      refine HFL.out.mono ?_
      rintro E w3 ⟨rfl, ⟨cs3, hM3, hrest3⟩, hb3⟩
      have HRest3 := Lib.hid hrest3
      clear hrest3
      have hsc := HBc.out.size
      have hsx := HBx.out.size
      have hX3 := (hb3.block _ (by omega) hne3).trans HXc.out
      have hR3 := (hb3.block _ (by omega) hne1).trans HRc.out
      have HB3 := Lib.hid ((But.of HBc.out (b := b)).trans ⟨hb3.os, hb3.tape, hb3.output, hb3.size, fun i hi hib => hb3.block i (by omega) hib⟩)
      obtain ⟨hnil, zs, hz, hrow⟩ := HRD.out
      dsimp only at hnil hz hrow
      have h05 := (HBU0.out).trans ⟨hb3.os, hb3.tape, hb3.output, hb3.size, fun i hi hib => hb3.block i (by omega) hib⟩
      have hB5 := (Below.refl w3.heap.size w3).alloc (Nat.le_refl _) (.cells #[.int .i64 k, .int .i64 n, .int .i64 r, .slice a len cap] 34)
      have hD5 := heap_alloc_new w3 (.cells #[.int .i64 k, .int .i64 n, .int .i64 r, .slice a len cap] 34)
      obtain ⟨w5, hw5⟩ : ∃ w5, w3.alloc (.cells #[.int .i64 k, .int .i64 n, .int .i64 r, .slice a len cap] 34) = w5 := ⟨_, rfl⟩
      rw [hw5] at hB5 hD5
      have hX5 := (hB5.block _ (heap_lt hX3)).trans hX3
      have hR5 := (hB5.block _ (heap_lt hR3)).trans hR3
      have hM5 := hM3.below hB5
      have hrow5 : IsRow .i64 w5 a' len' len' zs := HROW.out zs hrow w3 h05 w5 hB5
      have HROWZ : Hid (∀ z, z = zs → IsRow .i64 u a' len' len' z) := Lib.hid (fun z e => e ▸ hrow)
      have HM3 := Lib.hid hM3.lt
      have HS13 : Hid (w.heap.size < wc.heap.size) := Lib.hid (by omega)
      have HSW : Hid (w.heap.size ≤ w5.heap.size) := Lib.hid (Nat.le_trans h05.size hB5.size)
      obtain ⟨d0, d1, d2, d3⟩ := rec_reads hX5
      have HX5 := Lib.hid hX5
      have HR5 := Lib.hid hR5
      have HM5 := Lib.hid hM5
      have HD5 := Lib.hid hD5
      have HB5 := Lib.hid (HB3.out.trans (But.of (hB5.mono (by have := h05.size; omega)) (b := b)))
      have HS5 := Lib.hid hB5.size
      have HS3 := Lib.hid hb3.size
      clear hX3 hR3 hM3 hX5 hR5 hM5 hD5 hB5 hb3 h05 hrow
      go_wp2_with (at_builtin; refine wpList_append_cp _ rfl _ _ rfl a' len' cap' zs rfl rfl hz hrow5 hnil hl ?_)
      intro ao co w6 hown hb6 hnn
      have hX6 := (hb6.block _ (heap_lt HX5.out)).trans HX5.out
      have hR6 := (hb6.block _ (heap_lt HR5.out)).trans HR5.out
      have hM6 := HM5.out.below hb6
      have hD6 := (hb6.block _ (heap_lt HD5.out)).trans HD5.out
      obtain ⟨d0, d1, d2, d3⟩ := rec_reads hX6
      obtain ⟨g0, g1, g2, g3⟩ := rec_free hX6
      obtain ⟨m0, m1, m2, m3, m4⟩ := hM6.free
      have hne4 : w3.heap.size ≠ b := by have := HM3.out; omega
      have hne5 : w3.heap.size ≠ w.heap.size := by have := HS3.out; have := HS13.out; omega
      -- the box is written
      have hX7 := put_heap hX6 (i := 3) (.slice ao len' co)
      have hR7 := (put_other (w := w6) (b := w.heap.size) (i := 3) (k := w.heap.size + 1) (by omega) (.slice ao len' co)).trans hR6
      have hM7 := hM6.same (put_other (w := w6) (b := w.heap.size) (i := 3) (k := b) (by omega) (.slice ao len' co))
      have hD7 := (put_other (w := w6) (b := w.heap.size) (i := 3) (k := w3.heap.size) hne5 (.slice ao len' co)).trans hD6
      have hK7 : Keep 3 w6 (w6.setCell ⟨w.heap.size, 3, none⟩ (.slice ao len' co)) := Keep.into ((Into.refl w.heap.size w6).set 3 _) hX6 (by decide)
      have hU7 : But w.heap.size b w6 (w6.setCell ⟨w.heap.size, 3, none⟩ (.slice ao len' co)) := But.of ((Below.refl w.heap.size w6).setCell (p := ⟨w.heap.size, 3, none⟩) (Nat.le_refl _) _)
      obtain ⟨w7, hw7⟩ : ∃ w7, w6.setCell ⟨w.heap.size, 3, none⟩ (.slice ao len' co) = w7 := ⟨_, rfl⟩
      rw [hw7] at hX7 hR7 hM7 hD7 hK7 hU7
      have hX7' : w7.heap[w.heap.size]? = some (.cells #[.int .i64 k', .int .i64 n', .int .i64 r', .slice ao len' co] 34 (0, 0)) := hX7
      obtain ⟨p0, p1, p2, p3⟩ := rec_reads hX7'
      obtain ⟨v0, v1, v2, v3, v4⟩ := hM7.free
      obtain ⟨x0, x1, x2, x3, x4⟩ := hM7.reads
      dsimp only [rv0] at x0 x1 x2 x3 x4
      have hI := into5o w7 b off (.int .i64 k') (.int .i64 n') (.int .i64 r') (.slice ao len' co) (.bool true)
      obtain ⟨cs8, hM8, hrest8⟩ := hM7.put5 ⟨k', n', r', ao, len', co⟩ true
      dsimp only at hM8
      have HRest8 := Lib.hid (HRest3.out.trans hrest8)
      have hR8 := (hI.block _ hne1).trans hR7
      have hD8 := (hI.block _ hne4).trans hD7
      have hK8 : Keep 3 w7 (((((w7.setCell ⟨b, off, none⟩ (.int .i64 k')).setCell ⟨b, off + 1, none⟩ (.int .i64 n')).setCell ⟨b, off + 2, none⟩ (.int .i64 r')).setCell ⟨b, off + 3, none⟩ (.slice ao len' co)).setCell ⟨b, off + 4, none⟩ (.bool true)) := Keep.into hI hM7.1 hTi
      have hU8 := But.into (base := w.heap.size) hI
      obtain ⟨w8, hw8⟩ : ∃ w8, (((((w7.setCell ⟨b, off, none⟩ (.int .i64 k')).setCell ⟨b, off + 1, none⟩ (.int .i64 n')).setCell ⟨b, off + 2, none⟩ (.int .i64 r')).setCell ⟨b, off + 3, none⟩ (.slice ao len' co)).setCell ⟨b, off + 4, none⟩ (.bool true)) = w8 := ⟨_, rfl⟩
      rw [hw8] at hM8 hR8 hD8 hK8 hU8
      obtain ⟨y0, y1, y2, y3⟩ := rec_reads hD8
      obtain ⟨f0, f1, f2, f3⟩ := rec_free hR8
      obtain ⟨j0, j1, j2, j3⟩ := rec_reads hR8
      have HF := Lib.hid (put_rec hR8 (.int .i64 k) (.int .i64 n) (.int .i64 r) (.slice a len cap))
      have HM8 := Lib.hid hM8
      have HR8 := Lib.hid hR8
      have HCP : Hid (Cp u w8 ⟨k', n', r', a', len', cap'⟩ ⟨k', n', r', ao, len', co⟩) := Lib.hid ⟨⟨rfl, rfl, rfl, rfl⟩, hnn, zs, hz, HROWZ.out zs rfl, .inr ⟨_, hK8.owns (hK7.owns hown)⟩⟩
      have HBU := Lib.hid (((HB5.out.trans (But.of (hb6.mono HSW.out))).trans hU7).trans hU8)
      have HN2 := Lib.hid hne2
      clear hrest8 hX6 hR6 hM6 hD6 hX7 hX7' hR7 hM7 hD7 hM8 hR8 hD8 hK7 hK8 hU7 hU8 hI hown hb6 hne1 hne2 hne3 hne4 hne5
      go_wp2
      obtain ⟨i0, i1, i2, i3⟩ := rec_reads HF.out
      refine bodyPost_ret (v := .tuple #[.agg #[.int .i64 k, .int .i64 n, .int .i64 r, .slice a len cap], .bool s]) (by simp [results, Try.results21, go_sem, i0, i1, i2, i3]) rfl ?_
      refine ⟨HBU.out.trans (But.of (below_rec (B := w.heap.size) (w := w8) (w' := w8) (Below.refl _ _) (by omega) _ _ _ _)), rfl, ⟨k', n', r', ao, len', co⟩, cs8, ?_, HRest8.out, ?_⟩
      · exact HM8.out.same ((into4 w8 (w.heap.size + 1) _ _ _ _).block _ HN2.out)
      · exact HCP.out.keep (Keep.into (into4 w8 (w.heap.size + 1) _ _ _ _) HR8.out (by decide))
end Go.Proofs.Ytlfofdgeaigpbaa
