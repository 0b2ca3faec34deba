/-
  The document's Next of a lens's state, where a record is read: walked. (Written by mkLnT.py.)
-/
import Derived.Test.YtjmaccflnfaiiaaLnT
import Derived.Test.YtjmaccflnfaiiaaMgQ
import Derived.Test.YtjmaccflnfaiiaaBn11
set_option linter.unusedSimpArgs false
set_option linter.unusedVariables false
namespace Go.Proofs.Ytjmaccflnfaiiaa
open Go.RowKit

set_option maxRecDepth 100000 in
set_option maxHeartbeats 4000000 in
theorem lnnext_good {W : World} (L : List Rn) (t : List UInt8) (cl : Bool) {a : Option Addr} {m c : Nat} (h : LnAt W L a m c) (hm : m ≤ 1000) (ht : t.length ≤ 1000000000) (h6 : (lnLast L).k ≠ 6) (he : (tkR t).e = 0) :
    Calls Try.prog 12 #[.agg #[.slice a m c, .string ⟨t.toArray⟩, .bool cl, .int .i64 0]] W (RetLn ⟨L, t, cl, 0⟩ W) := by
  obtain ⟨w1, hw1⟩ : ∃ w1, W.alloc (.cells #[.slice a m c, .string ⟨t.toArray⟩, .bool cl, .int .i64 0] 31) = w1 := ⟨_, rfl⟩
  have hX1 : w1.heap[W.heap.size]? = some (.cells #[.slice a m c, .string ⟨t.toArray⟩, .bool cl, .int .i64 0] 31 (0, 0)) := by rw [← hw1]; exact heap_alloc_new W _
  have hB1 : Below W.heap.size W w1 := by rw [← hw1]; exact (Below.refl W.heap.size W).alloc (Nat.le_refl _) _
  have hs1 : w1.heap.size = W.heap.size + 1 := by rw [← hw1]; simp
  obtain ⟨w2, hw2⟩ : ∃ w2, w1.alloc (.cells #[.slice none 0 0, .string ⟨#[]⟩, .bool false, .int .i64 0] 31) = w2 := ⟨_, rfl⟩
  have hR2 : w2.heap[w1.heap.size]? = some (.cells #[.slice none 0 0, .string ⟨#[]⟩, .bool false, .int .i64 0] 31 (0, 0)) := by rw [← hw2]; exact heap_alloc_new w1 _
  have hB2' : Below w1.heap.size w1 w2 := by rw [← hw2]; exact (Below.refl w1.heap.size w1).alloc (Nat.le_refl _) _
  have hB2 : Below W.heap.size W w2 := hB1.trans (hB2'.mono hB1.size)
  have hX2 := (hB2'.block _ (by omega)).trans hX1
  rw [hs1] at hR2
  have HX := Lib.hid (show LnBx W w2 _ from ⟨hX2, hR2, hB2⟩)
  obtain ⟨c0, c1, c2, c3⟩ := rec_reads hX2
  clear hX1 hB1 hR2 hB2' hB2 hX2
  have hed := lnended_ref (W := w2) ⟨t.toArray⟩ cl 0 (h.below HX.out.2.2) (by omega)
  rw [decide_eq_false h6] at hed
  have HED := Lib.hid hed
  have HAt := Lib.hid h
  have HT := Lib.hid (fun V => rtake_any t V ht)
  have HO : Hid (lnBad L (tkR t).rn = true → lnNext ⟨L, t, cl, 0⟩ = (⟨L, t, cl, 9⟩, false)) := Lib.hid (fun g => ln_order (s := ⟨L, t, cl, 0⟩) rfl h6 he g)
  have HG : Hid (lnBad L (tkR t).rn = false → lnNext ⟨L, t, cl, 0⟩ = (⟨L ++ [(tkR t).rn], (tkR t).rest, cl, 0⟩, true)) := Lib.hid (fun g => ln_read (s := ⟨L, t, cl, 0⟩) rfl h6 he g)
  have HC := Lib.hid (rtk_back he)
  generalize tkR t = T at HT HO HG HC he
  obtain ⟨Te, Tk, Tn, Tr, Ti, Ts⟩ := T
  dsimp only at HO HG HC he
  unfold RetTk at HT
  dsimp only at HT
  subst he
  obtain ⟨i0, hi, hz0, hz1, hz2⟩ := info_parts rec_info
  clear hed h h6
  go_enter Try.func12, Try.ntmps12
  go_wp2_with fail
  try rw [hw1]
  try rw [hw2]
  refine HED.out.mono ?_
  rintro e w3 ⟨rfl, hb⟩
  have HX3 := Lib.hid (HX.out.below hb)
  obtain ⟨c0, c1, c2, c3⟩ := rec_reads HX3.out.1
  have HT3 := Lib.hid (HT.out w3)
  clear hb hw1 hw2 HX HED HT hs1
  go_wp2_with fail
  refine HT3.out.mono ?_
  rintro e w4 ⟨ao, cap, rfl, hrow, hb⟩
  have HX4 := Lib.hid (HX3.out.below hb)
  have hX5 := heap_alloc_new w4 (.cells #[.int .i64 Tk, .int .i64 Tn, .int .i64 Tr, .slice ao Ti.length cap] 34)
  have hB5 := (Below.refl w4.heap.size w4).alloc (Nat.le_refl _) (.cells #[.int .i64 Tk, .int .i64 Tn, .int .i64 Tr, .slice ao Ti.length cap] 34)
  obtain ⟨w5, hw5⟩ : ∃ w5, w4.alloc (.cells #[.int .i64 Tk, .int .i64 Tn, .int .i64 Tr, .slice ao Ti.length cap] 34) = w5 := ⟨_, rfl⟩
  rw [hw5] at hX5 hB5
  have HX5 := Lib.hid (HX4.out.below hB5)
  obtain ⟨c0, c1, c2, c3⟩ := rec_reads HX5.out.1
  have HL5 := Lib.hid (fun (V : World) (hV : Below w5.heap.size w5 V) => lnlast_any (W := V) ⟨t.toArray⟩ cl 0 (HAt.out.below (HX5.out.2.2.trans (hV.mono HX5.out.2.2.size))) (by omega))
  have HSy : Hid (Say w4 ⟨Tk, Tn, Tr, ao, Ti.length, cap⟩ ⟨Tk, Tn, Tr, Ti⟩) := Lib.hid ⟨rfl, rfl, rfl, rfl, hrow⟩
  have HB45 := Lib.hid hB5
  have HRb := Lib.hid hX5
  obtain ⟨d0, d1, d2, d3⟩ := rec_reads hX5
  obtain ⟨rb, hrb⟩ : ∃ rb, w4.heap.size = rb := ⟨_, rfl⟩
  rw [hrb] at d0 d1 d2 d3 HRb
  have hdd : Below w5.heap.size w5 w5.drew := (Below.refl _ _).drew
  have kk : Below w5.heap.size w5 (w5.drew.alloc (.cells #[.int .i64 0, .int .i64 0, .int .i64 0, .slice none 0 0] 34)) := hdd.alloc (Nat.le_refl _) _
  have kx := heap_alloc_new w5.drew (.cells #[.int .i64 0, .int .i64 0, .int .i64 0, .slice none 0 0] 34)
  have a0 := fun o => rv_alloc (w := w5.drew) (b := W.heap.size) c0 o
  have a1 := fun o => rv_alloc (w := w5.drew) (b := W.heap.size) c1 o
  have a2 := fun o => rv_alloc (w := w5.drew) (b := W.heap.size) c2 o
  have a3 := fun o => rv_alloc (w := w5.drew) (b := W.heap.size) c3 o
  have e0 := fun o => rv_alloc (w := w5.drew) (b := rb) d0 o
  have e1 := fun o => rv_alloc (w := w5.drew) (b := rb) d1 o
  have e2 := fun o => rv_alloc (w := w5.drew) (b := rb) d2 o
  have e3 := fun o => rv_alloc (w := w5.drew) (b := rb) d3 o
  have a0' := fun o => rv_alloc (w := w5) (b := W.heap.size) c0 o
  have a1' := fun o => rv_alloc (w := w5) (b := W.heap.size) c1 o
  have a2' := fun o => rv_alloc (w := w5) (b := W.heap.size) c2 o
  have a3' := fun o => rv_alloc (w := w5) (b := W.heap.size) c3 o
  have e0' := fun o => rv_alloc (w := w5) (b := rb) d0 o
  have e1' := fun o => rv_alloc (w := w5) (b := rb) d1 o
  have e2' := fun o => rv_alloc (w := w5) (b := rb) d2 o
  have e3' := fun o => rv_alloc (w := w5) (b := rb) d3 o
  obtain ⟨β, hβ⟩ : ∃ β, twoB (lnLast L).rv (Rn.rv ⟨Tk, Tn, Tr, Ti⟩) = β := ⟨_, rfl⟩
  have HBt := Lib.hid hβ
  clear hrow hb hX5 hB5
  go_upto_region 12 with fail
  try rw [hw5]
  try rw [hrb]
  clear hw5 hrb
  go_cut [7, 8] from 9 (fun p7 q8 wx => ∃ g7, p7 = .pointer (some ⟨g7, 0, none⟩) ∧ q8 = .bool β ∧ Hid (Below w5.heap.size w5 wx))
  case first =>
    go_region_with (first
      | (go_at_call 31
         refine (HL5.out _ (by first | exact hdd | exact kk)).mono ?_
         rintro E v ⟨⟨xk, xn, xr, xa, xl, xc⟩, rfl, hsay, hb⟩
         have HSa := Lib.hid hsay
         have HBv : Hid (Below w5.heap.size w5 v) := Lib.hid (by first | exact hdd.trans hb | exact kk.trans (hb.mono kk.size))
         have b0 := cells_below d0 HBv.out
         have b1 := cells_below d1 HBv.out
         have b2 := cells_below d2 HBv.out
         have b3 := cells_below d3 HBv.out
         have g0 := fun o => rv_alloc b0 o
         have g1 := fun o => rv_alloc b1 o
         have g2 := fun o => rv_alloc b2 o
         have g3 := fun o => rv_alloc b3 o
         (first
           | (have X4 : v.heap[w5.heap.size]? = some (.cells #[.int .i64 0, .int .i64 0, .int .i64 0, .slice none 0 0] 34 (0, 0)) := (hb.block _ (heap_lt kx)).trans kx; have HX6 := Lib.hid X4; obtain ⟨f0, f1, f2, f3⟩ := rec_free X4; obtain ⟨k0, k1, k2, k3⟩ := rec_reads X4; clear X4)
           | skip)
         clear hb hsay)
      | (go_at_call 30
         refine (lntwo_any _ HSa.out HSy.out).mono ?_
         rintro E u ⟨⟨zk, zn, zr, za, zl, zc⟩, rfl, hb⟩
         try rw [hβ]
         have HBu : Hid (Below w5.heap.size w5 u) := Lib.hid (by first | exact HBv.out.trans (hb.mono HBv.out.size) | exact HBv.out.trans ((((Below.refl v.heap.size v).alloc (Nat.le_refl _) _).trans (hb.mono (by simp))).mono HBv.out.size))
         (first
           | (have X5 := (hb.block _ (heap_lt HX6.out)).trans HX6.out; obtain ⟨f0, f1, f2, f3⟩ := rec_free X5; obtain ⟨k0, k1, k2, k3⟩ := rec_reads X5; clear X5)
           | (have X5 : u.heap[v.heap.size]? = some (.cells #[.int .i64 0, .int .i64 0, .int .i64 0, .slice none 0 0] 34 (0, 0)) := (hb.block _ (heap_lt (heap_alloc_new v (.cells #[.int .i64 0, .int .i64 0, .int .i64 0, .slice none 0 0] 34)))).trans (heap_alloc_new v _); obtain ⟨f0, f1, f2, f3⟩ := rec_free X5; obtain ⟨k0, k1, k2, k3⟩ := rec_reads X5; clear X5)
           | skip)
         clear hb))
    all_goals
      have q1 : Hid (Below w5.heap.size w5 ((((u.setCell ⟨w5.heap.size, 0, none⟩ (.int .i64 zk)).setCell ⟨w5.heap.size, 1, none⟩ (.int .i64 zn)).setCell ⟨w5.heap.size, 2, none⟩ (.int .i64 zr)).setCell ⟨w5.heap.size, 3, none⟩ (.slice za zl zc))) := Lib.hid (below_rec HBu.out (Nat.le_refl _) _ _ _ _)
      have q2 : Hid (Below w5.heap.size w5 ((((u.setCell ⟨v.heap.size, 0, none⟩ (.int .i64 zk)).setCell ⟨v.heap.size, 1, none⟩ (.int .i64 zn)).setCell ⟨v.heap.size, 2, none⟩ (.int .i64 zr)).setCell ⟨v.heap.size, 3, none⟩ (.slice za zl zc))) := Lib.hid (below_rec HBu.out HBv.out.size _ _ _ _)
      have q3 : Hid (Below w5.heap.size w5 (u.alloc (.cells #[.int .i64 zk, .int .i64 zn, .int .i64 zr, .slice za zl zc] 34))) := Lib.hid (HBu.out.alloc HBu.out.size _)
      go_wp2_with fail
      go_meet
      exact ⟨_, rfl, rfl, by first | exact q1 | exact q2 | exact q3⟩
  case rest =>
    obtain ⟨g7, rfl, rfl, HBc⟩ := hcut
    have HXc := Lib.hid (HX5.out.below HBc.out)
    have d0 := cells_below d0 HBc.out
    have d1 := cells_below d1 HBc.out
    have d2 := cells_below d2 HBc.out
    have d3 := cells_below d3 HBc.out
    obtain ⟨c0, c1, c2, c3⟩ := rec_reads HXc.out.1
    have HBW := Lib.hid HXc.out.2.2
    clear a0 a1 a2 a3 e0 e1 e2 e3 a0' a1' a2' a3' e0' e1' e2' e3' hdd kk kx HL5 hβ
    cases β with
    | true =>
      have HN := Lib.hid (HO.out (lnbad_yes (.inl HBt.out)))
      clear HO HG HBt
      have HFL := Lib.hid (lnfail_any wc a m c ⟨t.toArray⟩ cl 0 9)
      go_wp2_with fail
      refine HFL.out.mono ?_
      rintro e w7 ⟨rfl, hb⟩
      have HX7 := Lib.hid (HXc.out.below hb)
      clear hb HFL c0 c1 c2 c3 d0 d1 d2 d3
      obtain ⟨f0, f1, f2, f3⟩ := rec_free HX7.out.2.1
      obtain ⟨j0, j1, j2, j3⟩ := rec_reads HX7.out.2.1
      have HF := Lib.hid (put_rec HX7.out.2.1 (.slice a m c) (.string ⟨t.toArray⟩) (.bool cl) (.int .i64 9))
      have HBe := Lib.hid (below_rec HX7.out.2.2 (r := W.heap.size + 1) (by omega) (.slice a m c) (.string ⟨t.toArray⟩) (.bool cl) (.int .i64 9))
      have HA := Lib.hid (HAt.out.below HBe.out)
      go_wp2
      obtain ⟨i0, i1, i2, i3⟩ := rec_reads HF.out
      refine bodyPost_ret (v := .tuple #[.agg #[.slice a m c, .string ⟨t.toArray⟩, .bool cl, .int .i64 9], .bool false]) (by simp [results, Try.results12, go_sem, i0, i1, i2, i3]) rfl ?_
      exact RetLn.of HN.out HA.out HBe.out
    | false =>
      by_cases h5 : Tk = 5
      · subst h5
        rcases Nat.eq_zero_or_pos m with h0 | h0
        · subst h0
          have HN := Lib.hid (HO.out (lnbad_yes (.inr ⟨rfl, .inl HAt.out.1⟩)))
          clear HO HG HBt
          have HFL := Lib.hid (lnfail_any wc a 0 c ⟨t.toArray⟩ cl 0 9)
          go_wp2_with fail
          refine HFL.out.mono ?_
          rintro e w7 ⟨rfl, hb⟩
          have HX7 := Lib.hid (HXc.out.below hb)
          clear hb HFL c0 c1 c2 c3 d0 d1 d2 d3
          obtain ⟨f0, f1, f2, f3⟩ := rec_free HX7.out.2.1
          obtain ⟨j0, j1, j2, j3⟩ := rec_reads HX7.out.2.1
          have HF := Lib.hid (put_rec HX7.out.2.1 (.slice a 0 c) (.string ⟨t.toArray⟩) (.bool cl) (.int .i64 9))
          have HBe := Lib.hid (below_rec HX7.out.2.2 (r := W.heap.size + 1) (by omega) (.slice a 0 c) (.string ⟨t.toArray⟩) (.bool cl) (.int .i64 9))
          have HA := Lib.hid (HAt.out.below HBe.out)
          go_wp2
          obtain ⟨i0, i1, i2, i3⟩ := rec_reads HF.out
          refine bodyPost_ret (v := .tuple #[.agg #[.slice a 0 c, .string ⟨t.toArray⟩, .bool cl, .int .i64 9], .bool false]) (by simp [results, Try.results12, go_sem, i0, i1, i2, i3]) rfl ?_
          exact RetLn.of HN.out HA.out HBe.out
        · have HLw := Lib.hid (lnlast_any (W := wc) ⟨t.toArray⟩ cl 0 (HAt.out.below HBW.out) (by omega))
          have gm : ((m : Int) == 0) = false := by simp; omega
          have HL0 : Hid (¬ L.length = 0) := Lib.hid (by rw [HAt.out.1]; omega)
          have hm0 : 0 < m := h0
          clear h0
          go_wp2_with fail
          refine HLw.out.mono ?_
          rintro e w6 ⟨⟨xk, xn, xr, xa, xl, xc⟩, rfl, hsay, hb⟩
          have HX6 := Lib.hid (HXc.out.below hb)
          have hfd := lnfield_kind (.int .i64 xk) (.int .i64 xn) (.int .i64 xr) (.slice xa xl xc) w6
          have HB6 := Lib.hid (HBc.out.trans (hb.mono HBc.out.size))
          have d0 := cells_below d0 hb
          have d1 := cells_below d1 hb
          have d2 := cells_below d2 hb
          have d3 := cells_below d3 hb
          obtain ⟨c0, c1, c2, c3⟩ := rec_reads HX6.out.1
          have hk : xk = (lnLast L).k := hsay.1
          by_cases hx5 : xk = 5
          · subst hx5
            have HN := Lib.hid (HO.out (lnbad_yes (.inr ⟨rfl, .inr hk.symm⟩)))
            clear HO HG HBt HLw hsay hb hk
            have HFL := Lib.hid (lnfail_any w6 a m c ⟨t.toArray⟩ cl 0 9)
            go_wp2_with fail
            refine HFL.out.mono ?_
            rintro e w7 ⟨rfl, hb⟩
            have HX7 := Lib.hid (HX6.out.below hb)
            clear hb HFL c0 c1 c2 c3 d0 d1 d2 d3
            obtain ⟨f0, f1, f2, f3⟩ := rec_free HX7.out.2.1
            obtain ⟨j0, j1, j2, j3⟩ := rec_reads HX7.out.2.1
            have HF := Lib.hid (put_rec HX7.out.2.1 (.slice a m c) (.string ⟨t.toArray⟩) (.bool cl) (.int .i64 9))
            have HBe := Lib.hid (below_rec HX7.out.2.2 (r := W.heap.size + 1) (by omega) (.slice a m c) (.string ⟨t.toArray⟩) (.bool cl) (.int .i64 9))
            have HA := Lib.hid (HAt.out.below HBe.out)
            go_wp2
            obtain ⟨i0, i1, i2, i3⟩ := rec_reads HF.out
            refine bodyPost_ret (v := .tuple #[.agg #[.slice a m c, .string ⟨t.toArray⟩, .bool cl, .int .i64 9], .bool false]) (by simp [results, Try.results12, go_sem, i0, i1, i2, i3]) rfl ?_
            exact RetLn.of HN.out HA.out HBe.out
          · have gx5 : (xk == 5) = false := by simpa using hx5
            have HN := Lib.hid (HG.out (lnbad_no.2 ⟨HBt.out, fun g => g.2.elim HL0.out (fun g => hx5 (hk.trans g))⟩))
            clear HO HG HBt HLw hsay hb hk hx5
            have HSw := Lib.hid (HSy.out.below (HB45.out.trans (HB6.out.mono HB45.out.size)))
            have HXw := HX6
            have hmade := World.ownsRow_made (base := w6.heap.size) (e := 34) (size := 4) w6 #[] 0 (Nat.le_refl _) (by unfold maxLen; omega) rfl
            have hBa := (Below.refl w6.heap.size w6).alloc (Nat.le_refl _) (.cells #[] 34)
            obtain ⟨wa, hwa⟩ : ∃ wa, w6.alloc (.cells #[] 34) = wa := ⟨_, rfl⟩
            rw [hwa] at hmade hBa
            have HBa := Lib.hid hBa
            have HMa := Lib.hid hmade
            have hrlt : Hid (rb < w6.heap.size) := Lib.hid (Nat.lt_of_lt_of_le (heap_lt HRb.out) HB6.out.size)
            obtain ⟨xc0, xc1, xc2, xc3⟩ := rec_reads (HXw.out.below hBa).1
            obtain ⟨p, hp⟩ : ∃ p : Nat, (t.length : Int) - (Ts.length : Int) = (p : Int) := ⟨t.length - Ts.length, by have := congrArg List.length HC.out.2; rw [List.length_append] at this; omega⟩
            have hpl : (p : Int) ≤ (t.length : Int) := by omega
            have hp0 : (0 : Int) ≤ (p : Int) := by omega
            have hdr : t.drop p = Ts := by
              have h1 := HC.out.2
              have h2 := congrArg List.length h1
              rw [List.length_append] at h2
              rw [← h1]
              have h3 : p = (putK 5 Tn Tr Ti).length := by omega
              rw [h3, List.drop_left]
            have x2 := ext_rest t p
            rw [hdr] at x2
            have HZ := Lib.hid (bsize t)
            obtain ⟨rs, ⟨base0, hrow0⟩, hss⟩ := HAt.out.2
            have hrl : rs.length = m := by rw [hss.1, HAt.out.1]
            have HRw := Lib.hid ((Keep.below (T := 34) (HXw.out.below hBa).2.2).owns hrow0)
            have HSs := Lib.hid hss
            have HRS := Lib.hid hrl
            have hbase0 : w6.heap.size ≤ wa.heap.size := HBa.out.size
            have hr3 : 0 + m ≤ maxLen := by unfold maxLen; omega
            have hr2 : (0 + m) * 48 ≤ 140737488355328 := by omega
            clear hmade hBa hdr hrow0 hss c0 c1 c2 c3
            try rw [hp]
            go_wp2_with (at_builtin; refine wpList_append_rs _ rfl _ _ 28 rfl w6.heap.size 34 i0 (.agg #[.int .i64 0, .int .i64 0, .int .i64 0, .slice none 0 0]) 4 48 Try.underlying28 hi hz0 hz1 hz2 rfl (by decide) (.slice (some ⟨w6.heap.size, 0, none⟩) 0 0) 0 (rvCells []) rfl HMa.out base0 (.slice a m c) m (rvCells rs) rfl HRw.out ?m1 ?m3 ?m4 ?m5 ?_)
            case m1 => exact rv_one
            case m3 => exact hr3
            case m4 => exact hr2
            case m5 => exact hbase0
            intro v8 w8 hown8 hgrow8
            have hB8 := HBa.out.trans ((grown_below hbase0 HMa.out hgrow8).mono (Nat.le_refl _))
            try rw [Nat.zero_add] at hown8
            rw [← rvCells_app, List.nil_append] at hown8
            obtain ⟨a8, c8, rfl, _⟩ := owns_rvc hown8 HRS.out
            have HO8 := Lib.hid hown8
            have HB8 := Lib.hid hB8
            have HX8 := Lib.hid (HXw.out.below hB8)
            obtain ⟨c0, c1, c2, c3⟩ := rec_reads HX8.out.1
            have d0 := cells_lt d0 HB8.out hrlt.out
            have d1 := cells_lt d1 HB8.out hrlt.out
            have d2 := cells_lt d2 HB8.out hrlt.out
            have d3 := cells_lt d3 HB8.out hrlt.out
            have hNew := heap_alloc_new w8 (.cells #[.int .i64 5, .int .i64 Tn, .int .i64 Tr, .slice ao Ti.length cap] 34)
            have hB4 := (Below.refl w8.heap.size w8).alloc (Nat.le_refl _) (.cells #[.int .i64 5, .int .i64 Tn, .int .i64 Tr, .slice ao Ti.length cap] 34)
            have hrc := (Keep.below hB4 (T := 34)).owns HO8.out
            have hbase : w6.heap.size ≤ (w8.alloc (.cells #[.int .i64 5, .int .i64 Tn, .int .i64 Tr, .slice ao Ti.length cap] 34)).heap.size := Nat.le_trans HB8.out.size hB4.size
            have hrl3 : m + 1 ≤ maxLen := by unfold maxLen; omega
            have hrl2 : (m + 1) * 48 ≤ 140737488355328 := by omega
            have HB9 := Lib.hid (HB8.out.trans (hB4.mono HB8.out.size))
            clear hB4 hown8 hB8 hgrow8 hrl hbase0 hr3 hr2 xc0 xc1 xc2 xc3 hwa
            go_wp2_with (at_builtin; refine wpList_append_own _ rfl _ _ 28 rfl w6.heap.size 34 i0 (.agg #[.int .i64 0, .int .i64 0, .int .i64 0, .slice none 0 0]) 4 48 Try.underlying28 hi hz0 hz1 hz2 rfl (by decide) _ _ _ rfl hrc ⟨w8.heap.size, 0, none⟩ 1 1 (Rv.cells ⟨5, Tn, Tr, ao, Ti.length, cap⟩) rfl rfl ?n1 ?n2 ?n3 ?n4 ?n5 ?_)
            case n1 => exact fun j u hj => by rw [addPlain, Nat.zero_add, Lib.cell_of_heap hNew]; simpa [Rv.cells, Rv.sl] using hj
            case n2 => exact rv_one1
            case n3 => exact hrl3
            case n4 => exact hrl2
            case n5 => exact hbase
            intro v' w9 hown' hgrow _
            rw [← rvCells_one, ← rvCells_app] at hown'
            have hF := HB9.out.trans ((grown_below hbase hrc hgrow).mono (Nat.le_refl _))
            obtain ⟨a9, c9, rfl, _⟩ := owns_rvc hown' (by rw [List.length_append, HRS.out]; rfl)
            have hX9 : LnBx W w9 #[.slice a m c, .string ⟨t.toArray⟩, .bool cl, .int .i64 0] := HXw.out.below hF
            have HSy9 := Lib.hid (HSw.out.below hF)
            have HO9 := Lib.hid hown'
            have HX9 := Lib.hid hX9
            clear hown' hgrow hrc hNew c0 c1 c2 c3 d0 d1 d2 d3
            have f9 : w9.frozen? ⟨W.heap.size, 0, none⟩ = false := Lib.frozen_of_heap hX9.1 0
            have z9 : w9.cell? ⟨W.heap.size, 0, none⟩ = some (.slice a m c) := by rw [Lib.cell_of_heap hX9.1]; rfl
            have hX10 : LnBx W (w9.setCell ⟨W.heap.size, 0, none⟩ (.slice a9 (m + 1) c9)) #[.slice a9 (m + 1) c9, .string ⟨t.toArray⟩, .bool cl, .int .i64 0] := hX9.put 0 _
            obtain ⟨w10, hw10⟩ : ∃ w10, w9.setCell ⟨W.heap.size, 0, none⟩ (.slice a9 (m + 1) c9) = w10 := ⟨_, rfl⟩
            rw [hw10] at hX10
            have f10 : w10.frozen? ⟨W.heap.size, 1, none⟩ = false := Lib.frozen_of_heap hX10.1 1
            have z10 : w10.cell? ⟨W.heap.size, 1, none⟩ = some (.string ⟨t.toArray⟩) := by rw [Lib.cell_of_heap hX10.1]; rfl
            have hX11 : LnBx W (w10.setCell ⟨W.heap.size, 1, none⟩ (.string ⟨Ts.toArray⟩)) #[.slice a9 (m + 1) c9, .string ⟨Ts.toArray⟩, .bool cl, .int .i64 0] := hX10.put 1 _
            obtain ⟨w11, hw11⟩ : ∃ w11, w10.setCell ⟨W.heap.size, 1, none⟩ (.string ⟨Ts.toArray⟩) = w11 := ⟨_, rfl⟩
            rw [hw11] at hX11
            obtain ⟨c0, c1, c2, c3⟩ := rec_reads hX11.1
            obtain ⟨f0, f1, f2, f3⟩ := rec_free hX11.2.1
            obtain ⟨j0, j1, j2, j3⟩ := rec_reads hX11.2.1
            have HF := Lib.hid (put_rec hX11.2.1 (.slice a9 (m + 1) c9) (.string ⟨Ts.toArray⟩) (.bool cl) (.int .i64 0))
            have HBe := Lib.hid (below_rec hX11.2.2 (r := W.heap.size + 1) (by omega) (.slice a9 (m + 1) c9) (.string ⟨Ts.toArray⟩) (.bool cl) (.int .i64 0))
            have HLF : Hid (LnAt ((((w11.setCell ⟨W.heap.size + 1, 0, none⟩ (.slice a9 (m + 1) c9)).setCell ⟨W.heap.size + 1, 1, none⟩ (.string ⟨Ts.toArray⟩)).setCell ⟨W.heap.size + 1, 2, none⟩ (.bool cl)).setCell ⟨W.heap.size + 1, 3, none⟩ (.int .i64 0)) (L ++ [(⟨5, Tn, Tr, Ti⟩ : Rn)]) a9 (m + 1) c9) := Lib.hid (by
              have hI : Into W.heap.size w9 w11 := by rw [← hw11, ← hw10]; exact ((Into.refl _ _).set _ _).set _ _
              have hI2 := lninto4 w11 (W.heap.size + 1) (.slice a9 (m + 1) c9) (.string ⟨Ts.toArray⟩) (.bool cl) (.int .i64 0)
              exact ⟨by rw [List.length_append, HAt.out.1]; rfl, rs ++ [⟨5, Tn, Tr, ao, Ti.length, cap⟩], ⟨_, ((Keep.into hI HX9.out.1 (by decide)).trans (Keep.into hI2 hX11.2.1 (by decide))).owns HO9.out⟩, (HSs.out.below HBe.out).snoc (HSy9.out.keep ((Keep.into hI HX9.out.1 (by decide)).trans (Keep.into hI2 hX11.2.1 (by decide))))⟩)
            clear hX9 hX10 hX11 hF
            go_wp2
            try rw [hw10]
            try rw [hw11]
            obtain ⟨i0, i1, i2, i3⟩ := rec_reads HF.out
            refine bodyPost_ret (v := .tuple #[.agg #[.slice a9 (m + 1) c9, .string ⟨Ts.toArray⟩, .bool cl, .int .i64 0], .bool true]) (by simp [results, Try.results12, go_sem, i0, i1, i2, i3]) rfl ?_
            exact RetLn.of HN.out HLF.out HBe.out
      · have g5 : (Tk == 5) = false := by simpa using h5
        have HN := Lib.hid (HG.out (lnbad_no.2 ⟨HBt.out, fun g => h5 g.1⟩))
        have HB6 := HBc
        have HX6 := HXc
        clear HO HG HBt h5
        have HSw := Lib.hid (HSy.out.below (HB45.out.trans (HB6.out.mono HB45.out.size)))
        have HXw := HX6
        have hmade := World.ownsRow_made (base := wc.heap.size) (e := 34) (size := 4) wc #[] 0 (Nat.le_refl _) (by unfold maxLen; omega) rfl
        have hBa := (Below.refl wc.heap.size wc).alloc (Nat.le_refl _) (.cells #[] 34)
        obtain ⟨wa, hwa⟩ : ∃ wa, wc.alloc (.cells #[] 34) = wa := ⟨_, rfl⟩
        rw [hwa] at hmade hBa
        have HBa := Lib.hid hBa
        have HMa := Lib.hid hmade
        have hrlt : Hid (rb < wc.heap.size) := Lib.hid (Nat.lt_of_lt_of_le (heap_lt HRb.out) HB6.out.size)
        obtain ⟨xc0, xc1, xc2, xc3⟩ := rec_reads (HXw.out.below hBa).1
        obtain ⟨p, hp⟩ : ∃ p : Nat, (t.length : Int) - (Ts.length : Int) = (p : Int) := ⟨t.length - Ts.length, by have := congrArg List.length HC.out.2; rw [List.length_append] at this; omega⟩
        have hpl : (p : Int) ≤ (t.length : Int) := by omega
        have hp0 : (0 : Int) ≤ (p : Int) := by omega
        have hdr : t.drop p = Ts := by
          have h1 := HC.out.2
          have h2 := congrArg List.length h1
          rw [List.length_append] at h2
          rw [← h1]
          have h3 : p = (putK Tk Tn Tr Ti).length := by omega
          rw [h3, List.drop_left]
        have x2 := ext_rest t p
        rw [hdr] at x2
        have HZ := Lib.hid (bsize t)
        obtain ⟨rs, ⟨base0, hrow0⟩, hss⟩ := HAt.out.2
        have hrl : rs.length = m := by rw [hss.1, HAt.out.1]
        have HRw := Lib.hid ((Keep.below (T := 34) (HXw.out.below hBa).2.2).owns hrow0)
        have HSs := Lib.hid hss
        have HRS := Lib.hid hrl
        have hbase0 : wc.heap.size ≤ wa.heap.size := HBa.out.size
        have hr3 : 0 + m ≤ maxLen := by unfold maxLen; omega
        have hr2 : (0 + m) * 48 ≤ 140737488355328 := by omega
        clear hmade hBa hdr hrow0 hss c0 c1 c2 c3
        try rw [hp]
        go_wp2_with (at_builtin; refine wpList_append_rs _ rfl _ _ 28 rfl wc.heap.size 34 i0 (.agg #[.int .i64 0, .int .i64 0, .int .i64 0, .slice none 0 0]) 4 48 Try.underlying28 hi hz0 hz1 hz2 rfl (by decide) (.slice (some ⟨wc.heap.size, 0, none⟩) 0 0) 0 (rvCells []) rfl HMa.out base0 (.slice a m c) m (rvCells rs) rfl HRw.out ?m1 ?m3 ?m4 ?m5 ?_)
        case m1 => exact rv_one
        case m3 => exact hr3
        case m4 => exact hr2
        case m5 => exact hbase0
        intro v8 w8 hown8 hgrow8
        have hB8 := HBa.out.trans ((grown_below hbase0 HMa.out hgrow8).mono (Nat.le_refl _))
        try rw [Nat.zero_add] at hown8
        rw [← rvCells_app, List.nil_append] at hown8
        obtain ⟨a8, c8, rfl, _⟩ := owns_rvc hown8 HRS.out
        have HO8 := Lib.hid hown8
        have HB8 := Lib.hid hB8
        have HX8 := Lib.hid (HXw.out.below hB8)
        obtain ⟨c0, c1, c2, c3⟩ := rec_reads HX8.out.1
        have d0 := cells_lt d0 HB8.out hrlt.out
        have d1 := cells_lt d1 HB8.out hrlt.out
        have d2 := cells_lt d2 HB8.out hrlt.out
        have d3 := cells_lt d3 HB8.out hrlt.out
        have hNew := heap_alloc_new w8 (.cells #[.int .i64 Tk, .int .i64 Tn, .int .i64 Tr, .slice ao Ti.length cap] 34)
        have hB4 := (Below.refl w8.heap.size w8).alloc (Nat.le_refl _) (.cells #[.int .i64 Tk, .int .i64 Tn, .int .i64 Tr, .slice ao Ti.length cap] 34)
        have hrc := (Keep.below hB4 (T := 34)).owns HO8.out
        have hbase : wc.heap.size ≤ (w8.alloc (.cells #[.int .i64 Tk, .int .i64 Tn, .int .i64 Tr, .slice ao Ti.length cap] 34)).heap.size := Nat.le_trans HB8.out.size hB4.size
        have hrl3 : m + 1 ≤ maxLen := by unfold maxLen; omega
        have hrl2 : (m + 1) * 48 ≤ 140737488355328 := by omega
        have HB9 := Lib.hid (HB8.out.trans (hB4.mono HB8.out.size))
        clear hB4 hown8 hB8 hgrow8 hrl hbase0 hr3 hr2 xc0 xc1 xc2 xc3 hwa
        go_wp2_with (at_builtin; refine wpList_append_own _ rfl _ _ 28 rfl wc.heap.size 34 i0 (.agg #[.int .i64 0, .int .i64 0, .int .i64 0, .slice none 0 0]) 4 48 Try.underlying28 hi hz0 hz1 hz2 rfl (by decide) _ _ _ rfl hrc ⟨w8.heap.size, 0, none⟩ 1 1 (Rv.cells ⟨Tk, Tn, Tr, ao, Ti.length, cap⟩) rfl rfl ?n1 ?n2 ?n3 ?n4 ?n5 ?_)
        case n1 => exact fun j u hj => by rw [addPlain, Nat.zero_add, Lib.cell_of_heap hNew]; simpa [Rv.cells, Rv.sl] using hj
        case n2 => exact rv_one1
        case n3 => exact hrl3
        case n4 => exact hrl2
        case n5 => exact hbase
        intro v' w9 hown' hgrow _
        rw [← rvCells_one, ← rvCells_app] at hown'
        have hF := HB9.out.trans ((grown_below hbase hrc hgrow).mono (Nat.le_refl _))
        obtain ⟨a9, c9, rfl, _⟩ := owns_rvc hown' (by rw [List.length_append, HRS.out]; rfl)
        have hX9 : LnBx W w9 #[.slice a m c, .string ⟨t.toArray⟩, .bool cl, .int .i64 0] := HXw.out.below hF
        have HSy9 := Lib.hid (HSw.out.below hF)
        have HO9 := Lib.hid hown'
        have HX9 := Lib.hid hX9
        clear hown' hgrow hrc hNew c0 c1 c2 c3 d0 d1 d2 d3
        have f9 : w9.frozen? ⟨W.heap.size, 0, none⟩ = false := Lib.frozen_of_heap hX9.1 0
        have z9 : w9.cell? ⟨W.heap.size, 0, none⟩ = some (.slice a m c) := by rw [Lib.cell_of_heap hX9.1]; rfl
        have hX10 : LnBx W (w9.setCell ⟨W.heap.size, 0, none⟩ (.slice a9 (m + 1) c9)) #[.slice a9 (m + 1) c9, .string ⟨t.toArray⟩, .bool cl, .int .i64 0] := hX9.put 0 _
        obtain ⟨w10, hw10⟩ : ∃ w10, w9.setCell ⟨W.heap.size, 0, none⟩ (.slice a9 (m + 1) c9) = w10 := ⟨_, rfl⟩
        rw [hw10] at hX10
        have f10 : w10.frozen? ⟨W.heap.size, 1, none⟩ = false := Lib.frozen_of_heap hX10.1 1
        have z10 : w10.cell? ⟨W.heap.size, 1, none⟩ = some (.string ⟨t.toArray⟩) := by rw [Lib.cell_of_heap hX10.1]; rfl
        have hX11 : LnBx W (w10.setCell ⟨W.heap.size, 1, none⟩ (.string ⟨Ts.toArray⟩)) #[.slice a9 (m + 1) c9, .string ⟨Ts.toArray⟩, .bool cl, .int .i64 0] := hX10.put 1 _
        obtain ⟨w11, hw11⟩ : ∃ w11, w10.setCell ⟨W.heap.size, 1, none⟩ (.string ⟨Ts.toArray⟩) = w11 := ⟨_, rfl⟩
        rw [hw11] at hX11
        obtain ⟨c0, c1, c2, c3⟩ := rec_reads hX11.1
        obtain ⟨f0, f1, f2, f3⟩ := rec_free hX11.2.1
        obtain ⟨j0, j1, j2, j3⟩ := rec_reads hX11.2.1
        have HF := Lib.hid (put_rec hX11.2.1 (.slice a9 (m + 1) c9) (.string ⟨Ts.toArray⟩) (.bool cl) (.int .i64 0))
        have HBe := Lib.hid (below_rec hX11.2.2 (r := W.heap.size + 1) (by omega) (.slice a9 (m + 1) c9) (.string ⟨Ts.toArray⟩) (.bool cl) (.int .i64 0))
        have HLF : Hid (LnAt ((((w11.setCell ⟨W.heap.size + 1, 0, none⟩ (.slice a9 (m + 1) c9)).setCell ⟨W.heap.size + 1, 1, none⟩ (.string ⟨Ts.toArray⟩)).setCell ⟨W.heap.size + 1, 2, none⟩ (.bool cl)).setCell ⟨W.heap.size + 1, 3, none⟩ (.int .i64 0)) (L ++ [(⟨Tk, Tn, Tr, Ti⟩ : Rn)]) a9 (m + 1) c9) := Lib.hid (by
          have hI : Into W.heap.size w9 w11 := by rw [← hw11, ← hw10]; exact ((Into.refl _ _).set _ _).set _ _
          have hI2 := lninto4 w11 (W.heap.size + 1) (.slice a9 (m + 1) c9) (.string ⟨Ts.toArray⟩) (.bool cl) (.int .i64 0)
          exact ⟨by rw [List.length_append, HAt.out.1]; rfl, rs ++ [⟨Tk, Tn, Tr, ao, Ti.length, cap⟩], ⟨_, ((Keep.into hI HX9.out.1 (by decide)).trans (Keep.into hI2 hX11.2.1 (by decide))).owns HO9.out⟩, (HSs.out.below HBe.out).snoc (HSy9.out.keep ((Keep.into hI HX9.out.1 (by decide)).trans (Keep.into hI2 hX11.2.1 (by decide))))⟩)
        clear hX9 hX10 hX11 hF
        go_wp2
        try rw [hw10]
        try rw [hw11]
        obtain ⟨i0, i1, i2, i3⟩ := rec_reads HF.out
        refine bodyPost_ret (v := .tuple #[.agg #[.slice a9 (m + 1) c9, .string ⟨Ts.toArray⟩, .bool cl, .int .i64 0], .bool true]) (by simp [results, Try.results12, go_sem, i0, i1, i2, i3]) rfl ?_
        exact RetLn.of HN.out HLF.out HBe.out
end Go.Proofs.Ytjmaccflnfaiiaa
