/-
  The law MergeTells: walked.
-/
import Derived.Test.YtikhjofpioegbaaMgK
import Derived.Test.YtikhjofpioegbaaMgF
import Derived.Test.YtikhjofpioegbaaMgN
import Derived.Test.YtikhjofpioegbaaMgQ
set_option linter.unusedSimpArgs false
set_option linter.unusedVariables false
namespace Go.Proofs.Ytikhjofpioegbaa
open Go.RowKit

set_option maxRecDepth 100000 in
set_option maxHeartbeats 8000000 in
theorem mergeTells_walk (k n r : Int) (a : Option Addr) (len cap : Nat) (k' n' r' : Int) (a' : Option Addr) (len' cap' : Nat) (la : Option Addr) (m lc : Nat) (rs : List Rv) (at' : Int) (w : World) (hn : rs.length = m) (ha : RecAt w la rs) (hrd : ∀ x ∈ rs, Rd w x) :
    Calls Try.prog 3 #[.agg #[.int .i64 k, .int .i64 n, .int .i64 r, .slice a len cap], .agg #[.int .i64 k', .int .i64 n', .int .i64 r', .slice a' len' cap'], .slice la m lc, .int .i64 at'] w fun e w' => e = .returned (.bool true) ∧ Below w.heap.size w w' := by
  have HN := Lib.hid hn
  obtain ⟨w0, hw0⟩ : ∃ w0, w.alloc (.cells #[.int .i64 k, .int .i64 n, .int .i64 r, .slice a len cap] 24) = w0 := ⟨_, rfl⟩
  have hX0 : w0.heap[w.heap.size]? = some (.cells #[.int .i64 k, .int .i64 n, .int .i64 r, .slice a len cap] 24 (0, 0)) := by rw [← hw0]; exact heap_alloc_new w _
  have hB0 : Below w.heap.size w w0 := by rw [← hw0]; exact (Below.refl w.heap.size w).alloc (Nat.le_refl _) _
  have hs0 : w0.heap.size = w.heap.size + 1 := by rw [← hw0]; simp
  obtain ⟨w1, hw1⟩ : ∃ w1, w0.alloc (.cells #[.int .i64 k', .int .i64 n', .int .i64 r', .slice a' len' cap'] 24) = w1 := ⟨_, rfl⟩
  have hY1 : w1.heap[w0.heap.size]? = some (.cells #[.int .i64 k', .int .i64 n', .int .i64 r', .slice a' len' cap'] 24 (0, 0)) := by rw [← hw1]; exact heap_alloc_new w0 _
  have hB1' : Below w0.heap.size w0 w1 := by rw [← hw1]; exact (Below.refl w0.heap.size w0).alloc (Nat.le_refl _) _
  have hX1 := (hB1'.block _ (heap_lt hX0)).trans hX0
  have hB1 := hB0.trans (hB1'.mono hB0.size)
  rw [hs0] at hY1
  have HXY := Lib.hid (And.intro hX1 hY1)
  have HB1 := Lib.hid hB1
  have HA1 := Lib.hid (ha.below hB1)
  have HRD1 := Lib.hid (fun x hx => (hrd x hx).below hB1)
  obtain ⟨c0, c1, c2, c3⟩ := rec_reads hX1
  obtain ⟨d0, d1, d2, d3⟩ := rec_reads hY1
  clear ha hrd hX0 hY1 hX1 hB0 hB1' hB1
  cases hfw : fewM rs 20 with
  | false =>
    have HF := Lib.hid (mgfew_any la m lc 20 rs w1 hn (by omega) HA1.out false hfw)
    clear hfw
    go_enter Try.func3, Try.ntmps3
    go_wp2_with fail
    try rw [hw0]
    try rw [hw1]
    refine HF.out.mono ?_
    rintro E w2 ⟨rfl, hw⟩
    obtain rfl := hw.symm
    clear HF hw
    go_wp2_with fail
    refine (mgawake_any _).mono ?_
    rintro E w2 ⟨rfl, hb⟩
    have HB2 := Lib.hid (HB1.out.trans (hb.mono HB1.out.size))
    clear hb
    go_wp2
    go_ret
    exact ⟨rfl, HB2.out⟩
  | true =>
    have HF := Lib.hid (mgfew_any la m lc 20 rs w1 hn (by omega) HA1.out true hfw)
    obtain ⟨hm, h30⟩ := fewM_yes hfw
    have H30 := Lib.hid h30
    have hm20 : m ≤ 20 := by omega
    clear hfw h30 hm
    have hXn := heap_alloc_new w1 (.cells (rvCells [⟨k, n, r, a, len, cap⟩, ⟨k', n', r', a', len', cap'⟩]).toArray 24)
    have hBn := (Below.refl w1.heap.size w1).alloc (Nat.le_refl _) (.cells (rvCells [⟨k, n, r, a, len, cap⟩, ⟨k', n', r', a', len', cap'⟩]).toArray 24)
    have HF2 := Lib.hid (fun q hq => mgfew_any (some ⟨w1.heap.size, 0, none⟩) 2 2 2 [⟨k, n, r, a, len, cap⟩, ⟨k', n', r', a', len', cap'⟩] (w1.alloc (.cells (rvCells [⟨k, n, r, a, len, cap⟩, ⟨k', n', r', a', len', cap'⟩]).toArray 24)) rfl (by omega) (recat_new hXn) q hq)
    have HBn := Lib.hid hBn
    clear hXn hBn
    cases hf2 : fewM [⟨k, n, r, a, len, cap⟩, ⟨k', n', r', a', len', cap'⟩] 2 with
    | false =>
      have HF3 := Lib.hid (HF2.out false hf2)
      clear hf2 HF2
      go_enter Try.func3, Try.ntmps3
      go_wp2_with fail
      try rw [hw0]
      try rw [hw1]
      refine HF.out.mono ?_
      rintro E w2 ⟨rfl, hw⟩
      obtain rfl := hw.symm
      clear HF hw
      go_wp2_with fail
      refine HF3.out.mono ?_
      rintro E w2 ⟨rfl, hw⟩
      obtain rfl := hw.symm
      clear HF3 hw
      go_wp2_with fail
      refine (mgawake_any _).mono ?_
      rintro E w2 ⟨rfl, hb⟩
      have h1 := HB1.out.trans (HBn.out.mono HB1.out.size)
      have HB2 := Lib.hid (h1.trans (hb.mono h1.size))
      clear hb h1
      go_wp2
      go_ret
      exact ⟨rfl, HB2.out⟩
    | true =>
      have HF3 := Lib.hid (HF2.out true hf2)
      clear hf2 HF2
      have HT := Lib.hid (fun W => mgtwo_any k n r a len cap k' n' r' a' len' cap' W)
      have HTR := Lib.hid (fun W => mgrtwo_any k n r a len cap k' n' r' a' len' cap' W)
      unfold RetTwo at HT HTR
      have htl : (twoR ⟨k, n, r, a, len, cap⟩ ⟨k', n', r', a', len', cap'⟩).len = 0 := mgr_none
      generalize twoB ⟨k, n, r, a, len, cap⟩ ⟨k', n', r', a', len', cap'⟩ = B at HT HTR
      generalize twoR ⟨k, n, r, a, len, cap⟩ ⟨k', n', r', a', len', cap'⟩ = T at HT HTR htl
      obtain ⟨tk, tn, tr, ta, tl, tc⟩ := T
      dsimp only at HT HTR htl
      subst htl
      have HC := Lib.hid (fun W => mgcov_any k n r a len cap W)
      have HCR := Lib.hid (fun W => mgrcov_any k n r a len cap W)
      generalize mgV ⟨k, n, r, a, len, cap⟩ = cV at HC HCR
      generalize mgE ⟨k, n, r, a, len, cap⟩ = cE at HC HCR
      have HFA := Lib.hid (fun W h => mgfar_any at' la m lc rs W hn (by omega) h)
      have HFR := Lib.hid (fun W h => mgrfar_any at' la m lc rs W hn (by omega) h)
      generalize (mgF at' rs).1 = fV at HFA HFR
      generalize (mgF at' rs).2 = fE at HFA HFR
      obtain ⟨Q, hQ⟩ : ∃ Q, canonB rs = Q := ⟨_, rfl⟩
      have HCA := Lib.hid (fun W h => mgcanon_any la m lc rs W hn (by omega) h Q hQ)
      have HCB := Lib.hid (fun W h => mgrcanon_any la m lc rs W hn (by omega) h Q hQ)
      have HAL := Lib.hid (fun W h h2 => mgall_any la m lc rs W hn (by omega) h h2 (fun x hx => by have := H30.out x hx; omega))
      have HAR := Lib.hid (fun W h => mgrall_any la m lc rs W hn (by omega) h)
      clear hQ
      go_enter Try.func3, Try.ntmps3
      go_wp2_with fail
      try rw [hw0]
      try rw [hw1]
      refine HF.out.mono ?_
      rintro E w2 ⟨rfl, hw⟩
      obtain rfl := hw.symm
      clear HF hw
      go_wp2_with fail
      refine HF3.out.mono ?_
      rintro E w2 ⟨rfl, hw⟩
      obtain ⟨w2, hw2⟩ : ∃ w2, w1.alloc (.cells (rvCells [⟨k, n, r, a, len, cap⟩, ⟨k', n', r', a', len', cap'⟩]).toArray 24) = w2 := ⟨_, rfl⟩
      rw [hw2] at hw HBn
      obtain rfl := hw.symm
      clear HF3 hw hw2 hw1 hw0
      obtain ⟨c0, c1, c2, c3⟩ := rec_reads ((HBn.out.block _ (heap_lt HXY.out.1)).trans HXY.out.1)
      obtain ⟨d0, d1, d2, d3⟩ := rec_reads ((HBn.out.block _ (heap_lt HXY.out.2)).trans HXY.out.2)
      go_wp2_with fail
      refine (HT.out _).mono ?_
      rintro E w3 ⟨rfl, hb⟩
      have hB := (Below.refl w3.heap.size w3).alloc (Nat.le_refl _) (.cells #[.int .i64 tk, .int .i64 tn, .int .i64 tr, .slice ta 0 tc] 24)
      have hT9 := heap_alloc_new w3 (.cells #[.int .i64 tk, .int .i64 tn, .int .i64 tr, .slice ta 0 tc] 24)
      obtain ⟨w4, hw4⟩ : ∃ w4, w3.alloc (.cells #[.int .i64 tk, .int .i64 tn, .int .i64 tr, .slice ta 0 tc] 24) = w4 := ⟨_, rfl⟩
      rw [hw4] at hB hT9
      have hb2 := hb.trans (hB.mono hb.size)
      have HB4 := Lib.hid (HBn.out.trans (hb2.mono HBn.out.size))
      have HDw4 := Lib.hid hb2
      have HT9 := Lib.hid hT9
      clear hb hB hT9 hb2 HT
      clear c0 c1 c2 c3 d0 d1 d2 d3
      obtain ⟨c0, c1, c2, c3⟩ := rec_reads ((HB4.out.block _ (heap_lt HXY.out.1)).trans HXY.out.1)
      obtain ⟨d0, d1, d2, d3⟩ := rec_reads ((HB4.out.block _ (heap_lt HXY.out.2)).trans HXY.out.2)
      go_wp2_with fail
      try rw [hw4]
      refine (HTR.out _).mono ?_
      rintro E w5 ⟨rfl, hb⟩
      have hB := (Below.refl w5.heap.size w5).alloc (Nat.le_refl _) (.cells #[.int .i64 tk, .int .i64 tn, .int .i64 tr, .slice ta 0 tc] 24)
      have hT9 := heap_alloc_new w5 (.cells #[.int .i64 tk, .int .i64 tn, .int .i64 tr, .slice ta 0 tc] 24)
      obtain ⟨w6, hw6⟩ : ∃ w6, w5.alloc (.cells #[.int .i64 tk, .int .i64 tn, .int .i64 tr, .slice ta 0 tc] 24) = w6 := ⟨_, rfl⟩
      rw [hw6] at hB hT9
      have hb2 := hb.trans (hB.mono hb.size)
      have HB6 := Lib.hid (HB4.out.trans (hb2.mono HB4.out.size))
      have HDw6 := Lib.hid hb2
      have HT11 := Lib.hid hT9
      clear hb hB hT9 hb2 HTR
      have HT9b := Lib.hid ((HDw6.out.block _ (heap_lt HT9.out)).trans HT9.out)
      clear c0 c1 c2 c3 d0 d1 d2 d3 HT9 HDw4 HDw6
      obtain ⟨c0, c1, c2, c3⟩ := rec_reads ((HB6.out.block _ (heap_lt HXY.out.1)).trans HXY.out.1)
      go_wp2_with fail
      try rw [hw6]
      refine (HC.out _).mono ?_
      rintro E w7 ⟨rfl, hb⟩
      have HB7 := Lib.hid (HB6.out.trans (hb.mono HB6.out.size))
      have HT9n := Lib.hid ((hb.block _ (heap_lt HT9b.out)).trans HT9b.out)
      have HT11n := Lib.hid ((hb.block _ (heap_lt HT11.out)).trans HT11.out)
      clear HT9b HT11
      have HT9b := HT9n
      have HT11 := HT11n
      clear HT9n HT11n
      clear hb HC
      clear c0 c1 c2 c3
      obtain ⟨c0, c1, c2, c3⟩ := rec_reads ((HB7.out.block _ (heap_lt HXY.out.1)).trans HXY.out.1)
      go_wp2_with fail
      refine (HCR.out _).mono ?_
      rintro E w8 ⟨rfl, hb⟩
      have HB8 := Lib.hid (HB7.out.trans (hb.mono HB7.out.size))
      have HT9n := Lib.hid ((hb.block _ (heap_lt HT9b.out)).trans HT9b.out)
      have HT11n := Lib.hid ((hb.block _ (heap_lt HT11.out)).trans HT11.out)
      clear HT9b HT11
      have HT9b := HT9n
      have HT11 := HT11n
      clear HT9n HT11n
      clear hb HCR
      clear c0 c1 c2 c3
      go_wp2_with fail
      refine (HFA.out _ (HA1.out.below HB8.out)).mono ?_
      rintro E w9 ⟨rfl, hb⟩
      have HB9 := Lib.hid (HB8.out.trans (hb.mono HB8.out.size))
      have HT9n := Lib.hid ((hb.block _ (heap_lt HT9b.out)).trans HT9b.out)
      have HT11n := Lib.hid ((hb.block _ (heap_lt HT11.out)).trans HT11.out)
      clear HT9b HT11
      have HT9b := HT9n
      have HT11 := HT11n
      clear HT9n HT11n
      clear hb HFA
      go_wp2_with fail
      refine (HFR.out _ (HA1.out.below HB9.out)).mono ?_
      rintro E w10 ⟨rfl, hb⟩
      have HB10 := Lib.hid (HB9.out.trans (hb.mono HB9.out.size))
      have HT9n := Lib.hid ((hb.block _ (heap_lt HT9b.out)).trans HT9b.out)
      have HT11n := Lib.hid ((hb.block _ (heap_lt HT11.out)).trans HT11.out)
      clear HT9b HT11
      have HT9b := HT9n
      have HT11 := HT11n
      clear HT9n HT11n
      clear hb HFR
      obtain ⟨c0, c1, c2, c3⟩ := rec_reads HT9b.out
      obtain ⟨d0, d1, d2, d3⟩ := rec_reads HT11.out
      have HSM := Lib.hid (mgsame_any tk tn tr 0 ta ta tc tc [] w10 (by omega) (.inl rfl) (.inl rfl))
      go_wp2_with fail
      refine HSM.out.mono ?_
      rintro E w11 ⟨rfl, hb⟩
      have HB11 := Lib.hid (HB10.out.trans (hb.mono HB10.out.size))
      clear hb HSM c0 c1 c2 c3 d0 d1 d2 d3
      go_wp2_with fail
      refine (HAL.out _ (HA1.out.below HB11.out) (fun x hx => (HRD1.out x hx).below HB11.out)).mono ?_
      rintro E w12 ⟨a12, c12, qs, rfl, hr12, hp12, hb⟩
      have HB12 := Lib.hid (HB11.out.trans (hb.mono HB11.out.size))
      have HR12 := Lib.hid hr12
      have HP12 := Lib.hid hp12
      clear hb hr12 hp12 HAL
      go_wp2_with fail
      refine (HAR.out _ (HA1.out.below HB12.out)).mono ?_
      rintro E w13 ⟨a13, c13, rfl, hc13, hr13, _, hb⟩
      have HB13 := Lib.hid (HB12.out.trans (hb.mono HB12.out.size))
      have hlen : qs.length = (mgAll rs).length := HP12.out.1.symm
      have HSL := Lib.hid (mgsames_any a12 a13 (mgAll rs).length c12 c13 qs (mgAll rs) w13 hlen (by have := mga_len rs; omega) (fun y hy => by
        obtain ⟨j, hj, rfl⟩ := List.getElem_of_mem hy
        have hj2 : j < (mgAll rs).length := by rw [← hlen]; exact hj
        rw [(HP12.out.2 j _ _ (List.getElem?_eq_getElem hj2) (List.getElem?_eq_getElem hj)).1.2.2.2]
        rcases mga_from rs _ (List.getElem_mem hj2) with h | h
        · have := H30.out _ h; omega
        · rw [h]; exact Nat.zero_le _) (HR12.out.below hb) hr13 (HP12.out.symm fun _ _ h => (h.sm.symm).below hb))
      rw [hlen]
      generalize (mgAll rs).length = L at *
      clear hb hr13 hlen HAR HR12 HP12 hc13
      go_wp2_with fail
      refine HSL.out.mono ?_
      rintro E w14 ⟨rfl, hb⟩
      have HB14 := Lib.hid (HB13.out.trans (hb.mono HB13.out.size))
      clear hb HSL
      go_wp2_with fail
      refine (HCA.out _ (HA1.out.below HB14.out)).mono ?_
      rintro E w15 ⟨rfl, hb⟩
      have HB15 := Lib.hid (HB14.out.trans (hb.mono HB14.out.size))
      clear hb HCA
      go_wp2_with fail
      refine (HCB.out _ (HA1.out.below HB15.out)).mono ?_
      rintro E w16 ⟨rfl, hb⟩
      have HB16 := Lib.hid (HB15.out.trans (hb.mono HB15.out.size))
      clear hb HCB
      go_wp2_with fail
      refine (mgawake_any _).mono ?_
      rintro E w17 ⟨rfl, hb⟩
      have HB17 := Lib.hid (HB1.out.trans ((HB16.out.trans (hb.mono HB16.out.size)).mono HB1.out.size))
      clear hb
      go_wp2
      go_ret
      exact ⟨rfl, HB17.out⟩
end Go.Proofs.Ytikhjofpioegbaa
