/-
  strings.Clone, (*Lens).take: walked. (Written by mkLnI.py.)
-/
import Derived.Test.YtjmaccflnfaiiaaShelf
import Derived.Test.YtjmaccflnfaiiaaBn7
import Derived.Test.YtjmaccflnfaiiaaLnN
import Derived.Deep.CutRange
set_option linter.unusedSimpArgs false
set_option linter.unusedVariables false
namespace Go.Proofs.Ytjmaccflnfaiiaa
open Go.RowKit

theorem lnclone_any (t : ByteArray) (W : World) (ht : t.size ≤ 281474976710656) : Calls Try.prog 24 #[.string t] W fun e W' => e = .returned (.string t) ∧ Below W.heap.size W W' := by
  go_enter Try.func24, Try.ntmps24
  go_wp2_with fail
  refine (Try.stringslite_Clone t W ht).mono ?_
  rintro e w2 ⟨rfl, hb⟩
  go_wp2
  go_ret
  exact ⟨rfl, hb⟩

section
variable {W w : World} {B b R : Nat} {l cm : List UInt8} {v : Value} {n : Nat} {x : Rn} {y : Int} {cl : Bool}
/-- A zero result, stored. -/
theorem raw_res (h : LnRaw w B b l cm v n x y cl) (hR : w.heap[R]? = some (.cells #[.int .i64 0, .int .i64 0, .int .i64 0, .slice none 0 0] 34 (0, 0))) (x0 x1 x2 x3 : Value) :
    LnRaw ((((w.setCell ⟨R, 0, none⟩ x0).setCell ⟨R, 1, none⟩ x1).setCell ⟨R, 2, none⟩ x2).setCell ⟨R, 3, none⟩ x3) B b l cm v n x y cl :=
  h.other (.inr rfl) ((((Other.set hR _).trans (Other.set (put_heap hR _) _)).trans (Other.set (put_heap (put_heap hR _) _) _)).trans (Other.set (put_heap (put_heap (put_heap hR _) _) _) _))
theorem lnkp_res (hk : LnKp B W w) (hR : W.heap.size ≤ R) (hB : B ≤ W.heap.size) (x0 x1 x2 x3 : Value) :
    LnKp B W ((((w.setCell ⟨R, 0, none⟩ x0).setCell ⟨R, 1, none⟩ x1).setCell ⟨R, 2, none⟩ x2).setCell ⟨R, 3, none⟩ x3) := by
  have key : ∀ T, Keep T W w → Keep T W ((((w.setCell ⟨R, 0, none⟩ x0).setCell ⟨R, 1, none⟩ x1).setCell ⟨R, 2, none⟩ x2).setCell ⟨R, 3, none⟩ x3) := fun T k i cs m hh => by
    have := heap_lt hh
    rw [(lninto4 w R x0 x1 x2 x3).block i (by omega)]
    exact k i cs m hh
  exact ⟨below_rec hk.1 (by omega) x0 x1 x2 x3, key _ hk.2.1, key _ hk.2.2.1, key _ hk.2.2.2⟩
/-- A result's numbers. -/
theorem own_res {ao : Option Addr} {cap : Nat} {ids : List Int} (h : OwnI w ao cap ids) (hR : w.heap[R]? = some (.cells #[.int .i64 0, .int .i64 0, .int .i64 0, .slice none 0 0] 34 (0, 0))) (x0 x1 x2 x3 : Value) :
    OwnI ((((w.setCell ⟨R, 0, none⟩ x0).setCell ⟨R, 1, none⟩ x1).setCell ⟨R, 2, none⟩ x2).setCell ⟨R, 3, none⟩ x3) ao cap ids := h.keep (Keep.into (lninto4 w R x0 x1 x2 x3) hR (by decide))
/-- What came, as a text. -/
theorem raw_text {a : Option Addr} {cap : Nat} (h : LnRaw w B b l cm (.slice a cm.length cap) n x y cl) (hl : 0 < cm.length) : (convert 50 9 (.slice a cm.length cap)).run Try.prog w = .ok (.string ⟨cm.toArray⟩) w := by
  obtain ⟨g, cap', _, _, he⟩ := owns_some h.row hl
  have hc := h.row.cells (g := g) (by rw [he]; rfl)
  simp only [Value.slice.injEq] at he
  obtain ⟨rfl, _, rfl⟩ := he
  exact run_convert_bytes_back w 50 9 5 _ cap cm Try.underlying50 Try.underlying5 Try.underlying9 (fun j hj => by
    have := hc j (.int .u8 ((cm[j]'hj).toNat : Int)) (by simp [Lib.byteCells, List.getElem?_eq_getElem hj])
    rw [addPlain] at this ⊢
    simpa using this)
end

/-- take's answer. -/
def RetLt (W : World) (B b : Nat) (l cm : List UInt8) (x : Rn) (y : Int) (cl : Bool) (T : Tk) (e : Ending) (W' : World) : Prop := ∃ (l' cm' : List UInt8) (v' : Value) (ao : Option Addr) (cap : Nat),
  e = .returned (.tuple #[.agg #[.int .i64 T.k, .int .i64 T.n, .int .i64 T.r, .slice ao T.ids.length cap], .int .i64 (((l ++ cm).length : Int) - (T.rest.length : Int)), .int .i64 T.e]) ∧
    OwnI W' ao cap T.ids ∧ LnRaw W' B b l' cm' v' 0 x y cl ∧ l' ++ cm' = l ++ cm ∧ cm'.length ≤ T.rest.length ∧ LnKp B W W'

set_option maxRecDepth 100000 in
set_option maxHeartbeats 8000000 in
theorem lntake_raw {W : World} {B b : Nat} {l cm : List UInt8} {v : Value} {x : Rn} {y : Int} {cl : Bool} (h : LnRaw W B b l cm v 0 x y cl) (hlen : l.length + cm.length ≤ 1000000) :
    Calls Try.prog 23 #[.pointer (some ⟨b, 0, none⟩)] W (RetLt W B b l cm x y cl (tkR (l ++ cm))) := by
  obtain ⟨a, cap0, rfl⟩ := owns_slice h.row
  obtain ⟨w1, hw1⟩ : ∃ w1, W.alloc (.cells #[.int .i64 0, .int .i64 0, .int .i64 0, .slice none 0 0] 34) = w1 := ⟨_, rfl⟩
  have hX1 : w1.heap[W.heap.size]? = some (.cells #[.int .i64 0, .int .i64 0, .int .i64 0, .slice none 0 0] 34 (0, 0)) := by rw [← hw1]; exact heap_alloc_new W _
  have hB1 : Below W.heap.size W w1 := by rw [← hw1]; exact (Below.refl W.heap.size W).alloc (Nat.le_refl _) _
  have h1 := h.below hB1
  have hBW := h.le
  obtain ⟨c0, c1, _⟩ := raw_reads h1
  have HT := Lib.hid (fun V => rctake_any l V (by omega))
  have HA : Hid ((tkR l).e ≠ 4 → tkR (l ++ cm) = ⟨(tkR l).e, (tkR l).k, (tkR l).n, (tkR l).r, (tkR l).ids, (tkR l).rest ++ cm⟩) := Lib.hid (rtk_app l cm)
  have HA2 : Hid (cm = [] → tkR (l ++ cm) = tkR l) := Lib.hid (fun g => by rw [g, List.append_nil])
  generalize tkR l = T at HT HA HA2
  obtain ⟨Te, Tk, Tn, Tr, Ti, Ts⟩ := T
  unfold RetTk at HT
  dsimp only at HT HA HA2
  have HX := Lib.hid hX1
  have HB := Lib.hid hB1
  have HL := Lib.hid h1
  have Hlen := Lib.hid hlen
  clear hX1 hB1 h1 h hlen
  by_cases g4 : Te = 4
  · subst g4
    by_cases gc : cm = []
    · have HTT := Lib.hid (HA2.out gc)
      subst gc
      clear HA HA2
      go_enter Try.func23, Try.ntmps23
      go_wp2_with fail
      try rw [hw1]
      refine (HT.out w1).mono ?_
      rintro e w2 ⟨ao, cap, rfl, hrow, hb⟩
      have hX4 := heap_alloc_new w2 (.cells #[.int .i64 Tk, .int .i64 Tn, .int .i64 Tr, .slice ao Ti.length cap] 34)
      have hB4 := (Below.refl w2.heap.size w2).alloc (Nat.le_refl _) (.cells #[.int .i64 Tk, .int .i64 Tn, .int .i64 Tr, .slice ao Ti.length cap] 34)
      obtain ⟨w3, hw3⟩ : ∃ w3, w2.alloc (.cells #[.int .i64 Tk, .int .i64 Tn, .int .i64 Tr, .slice ao Ti.length cap] 34) = w3 := ⟨_, rfl⟩
      rw [hw3] at hX4 hB4
      have hb24 := hb.trans (hB4.mono hb.size)
      have HL3 := Lib.hid (HL.out.below hb24)
      have HX3 := Lib.hid ((hb24.block _ (heap_lt HX.out)).trans HX.out)
      have HK3 := Lib.hid ((LnKp.below hBW HB.out).on HL.out.le hb24)
      have HO3 := Lib.hid (hrow.keep (Keep.below hB4))
      obtain ⟨d0, d1, d2, d3⟩ := rec_reads hX4
      clear hX4 hB4 hb hb24 hrow HT HL HX HB hw1 c0 c1
      obtain ⟨c0, c1, _⟩ := raw_reads HL3.out
      obtain ⟨f0, f1, f2, f3⟩ := rec_free HX3.out
      obtain ⟨j0, j1, j2, j3⟩ := rec_reads HX3.out
      have HF := Lib.hid (put_rec HX3.out (.int .i64 Tk) (.int .i64 Tn) (.int .i64 Tr) (.slice ao Ti.length cap))
      have HLF := Lib.hid (raw_res HL3.out HX3.out (.int .i64 Tk) (.int .i64 Tn) (.int .i64 Tr) (.slice ao Ti.length cap))
      have HKF := Lib.hid (lnkp_res HK3.out (Nat.le_refl _) hBW (.int .i64 Tk) (.int .i64 Tn) (.int .i64 Tr) (.slice ao Ti.length cap))
      have HOF := Lib.hid (own_res HO3.out HX3.out (.int .i64 Tk) (.int .i64 Tn) (.int .i64 Tr) (.slice ao Ti.length cap))
      go_wp2
      try rw [hw3]
      obtain ⟨i0, i1, i2, i3⟩ := rec_reads HF.out
      refine bodyPost_ret (v := .tuple #[.agg #[.int .i64 Tk, .int .i64 Tn, .int .i64 Tr, .slice ao Ti.length cap], .int .i64 ((l.length : Int) - (Ts.length : Int)), .int .i64 4]) (by simp [results, Try.results23, go_sem, i0, i1, i2, i3]) rfl ?_
      rw [HTT.out]
      refine ⟨l, [], _, ao, cap, ?_, HOF.out, HLF.out, rfl, by simp, HKF.out⟩
      dsimp only
      rw [List.append_nil]
    · have gl : 0 < cm.length := List.length_pos_iff.2 gc
      obtain ⟨m, hm⟩ : ∃ m, cm.length = m := ⟨_, rfl⟩
      have gm : ((m : Int) == 0) = false := by have : (m : Int) ≠ 0 := by omega
                                               simpa using this
      have HT2 := Lib.hid (fun V => rctake_any (l ++ cm) V (by have := Hlen.out; rw [List.length_append]; omega))
      clear HA HA2 gc
      go_enter Try.func23, Try.ntmps23
      go_wp2_with fail
      try rw [hw1]
      refine (HT.out w1).mono ?_
      rintro e w2 ⟨ao, cap, rfl, hrow, hb⟩
      have hX4 := heap_alloc_new w2 (.cells #[.int .i64 Tk, .int .i64 Tn, .int .i64 Tr, .slice ao Ti.length cap] 34)
      have hB4 := (Below.refl w2.heap.size w2).alloc (Nat.le_refl _) (.cells #[.int .i64 Tk, .int .i64 Tn, .int .i64 Tr, .slice ao Ti.length cap] 34)
      obtain ⟨w3, hw3⟩ : ∃ w3, w2.alloc (.cells #[.int .i64 Tk, .int .i64 Tn, .int .i64 Tr, .slice ao Ti.length cap] 34) = w3 := ⟨_, rfl⟩
      rw [hw3] at hX4 hB4
      have hb24 := hb.trans (hB4.mono hb.size)
      have HL3 := Lib.hid (HL.out.below hb24)
      have HX3 := Lib.hid ((hb24.block _ (heap_lt HX.out)).trans HX.out)
      have HK3 := Lib.hid ((LnKp.below hBW HB.out).on HL.out.le hb24)
      have HO3 := Lib.hid (hrow.keep (Keep.below hB4))
      obtain ⟨d0, d1, d2, d3⟩ := rec_reads hX4
      clear hX4 hB4 hb hb24 hrow HT HL HX HB hw1 c0 c1
      obtain ⟨c0, c1, _⟩ := raw_reads HL3.out
      obtain ⟨f0, f1, f2, f3⟩ := rec_free HX3.out
      obtain ⟨j0, j1, j2, j3⟩ := rec_reads HX3.out
      have hcv := raw_text HL3.out gl
      have hcvd : (convert 50 9 (.slice a cm.length cap0)).run Try.prog w3.drew = .ok (.string ⟨cm.toArray⟩) w3.drew := raw_text (HL3.out.below (Below.refl _ _).drew) gl
      rw [hm] at hcv hcvd c1
      have hadd := pn_app l cm
      have S1 := Lib.hid (bsize l)
      have S2 := Lib.hid (bsize cm)
      have z1 : ¬ 9223372036854775807 < l.length + cm.length := by have := Hlen.out; omega
      have e0 := raw_free HL3.out 0
      have hb0 : W.heap.size ≠ b := type_ne HX3.out HL3.out.cells (by decide)
      have hdr : Below w3.heap.size w3 w3.drew := (Below.refl _ _).drew
      have hI1 := (Into.refl b w3).set 0 (.string ⟨(l ++ cm).toArray⟩)
      have hI2 := (Into.refl b w3.drew).set 0 (.string ⟨(l ++ cm).toArray⟩)
      have hL4 : LnRaw (w3.setCell ⟨b, 0, none⟩ (.string ⟨(l ++ cm).toArray⟩)) B b (l ++ cm) cm (.slice a cm.length cap0) 0 x y cl := ⟨HL3.out.base, put_heap HL3.out.cells (i := 0) _, raw_row HL3.out hI1⟩
      have K1 := Lib.hid (And.intro hL4 (And.intro (HK3.out.trans (raw_kp HL3.out hI1)) ((hI1.block _ hb0).trans HX3.out)))
      have hL5 : LnRaw (w3.drew.setCell ⟨b, 0, none⟩ (.string ⟨(l ++ cm).toArray⟩)) B b (l ++ cm) cm (.slice a cm.length cap0) 0 x y cl := ⟨HL3.out.base, put_heap (w := w3.drew) HL3.out.cells (i := 0) _, raw_row (HL3.out.below hdr) hI2⟩
      have K2 := Lib.hid (And.intro hL5 (And.intro ((HK3.out.on HL3.out.le hdr).trans (raw_kp (HL3.out.below hdr) hI2)) ((hI2.block _ hb0).trans HX3.out)))
      clear hL4 hL5 hI1 hI2 hdr
      go_upto_region 4 with fail
      try rw [hw3]
      go_cut [] from 30 to 41 (fun wx => Hid (LnRaw wx B b (l ++ cm) cm (.slice a cm.length cap0) 0 x y cl ∧ LnKp B W wx ∧ wx.heap[W.heap.size]? = some (.cells #[.int .i64 0, .int .i64 0, .int .i64 0, .slice none 0 0] 34 (0, 0))))
      case first =>
        go_region
        all_goals
          go_wp2_with fail
          go_meet
          first | exact K1 | exact K2
      case rest =>
        obtain ⟨h5, hk5, hx5⟩ := hcut.out
        clear hcut K1 K2 hcv hcvd c0 c1 d0 d1 d2 d3 f0 f1 f2 f3 j0 j1 j2 j3 e0 hadd
        obtain ⟨c0, c1, _⟩ := raw_reads h5
        have e1 := raw_free h5 1
        have hI := (Into.refl b wc).set 1 (.slice none 0 0)
        have h6 : LnRaw (wc.setCell ⟨b, 1, none⟩ (.slice none 0 0)) B b (l ++ cm) [] (.slice none 0 0) 0 x y cl := ⟨h5.base, put_heap h5.cells (i := 1) _, nil_row _ _⟩
        have hk6 := hk5.trans (raw_kp h5 hI)
        have hx6 := (hI.block _ hb0).trans hx5
        obtain ⟨w6, hw6⟩ : ∃ w6, wc.setCell ⟨b, 1, none⟩ (.slice none 0 0) = w6 := ⟨_, rfl⟩
        rw [hw6] at h6 hk6 hx6
        have HL6 := Lib.hid h6
        have HK6 := Lib.hid hk6
        have HX6 := Lib.hid hx6
        obtain ⟨m0, m1, _⟩ := raw_reads h6
        clear h5 hk5 hx5 hI h6 hk6 hx6
        have HLn : Hid ((l ++ cm).length ≤ 1000000) := Lib.hid (by have := Hlen.out; rw [List.length_append]; omega)
        obtain ⟨s, hs⟩ : ∃ s, l ++ cm = s := ⟨_, rfl⟩
        have HS := Lib.hid hs
        rw [hs] at HT2 HL6 m0 HLn c0
        obtain ⟨⟨Ue, Uk, Un, Ur, Ui, Us⟩, hT⟩ : ∃ T, tkR s = T := ⟨_, rfl⟩
        have HTq := Lib.hid hT
        rw [hT] at HT2
        unfold RetTk at HT2
        dsimp only at HT2
        clear hs hT
        go_wp2_with fail
        try rw [hw6]
        refine (HT2.out w6).mono ?_
        rintro e w7 ⟨ao7, cap7, rfl, hrow, hb⟩
        have HX7 := Lib.hid ((hb.block _ (heap_lt HX6.out)).trans HX6.out)
        have HF := Lib.hid (put_rec HX7.out (.int .i64 Uk) (.int .i64 Un) (.int .i64 Ur) (.slice ao7 Ui.length cap7))
        have HLF := Lib.hid (raw_res (HL6.out.below hb) HX7.out (.int .i64 Uk) (.int .i64 Un) (.int .i64 Ur) (.slice ao7 Ui.length cap7))
        have HKF := Lib.hid (lnkp_res (HK6.out.on HL6.out.le hb) (Nat.le_refl _) hBW (.int .i64 Uk) (.int .i64 Un) (.int .i64 Ur) (.slice ao7 Ui.length cap7))
        have HOF := Lib.hid (own_res hrow HX7.out (.int .i64 Uk) (.int .i64 Un) (.int .i64 Ur) (.slice ao7 Ui.length cap7))
        obtain ⟨f0, f1, f2, f3⟩ := rec_free HX7.out
        obtain ⟨j0, j1, j2, j3⟩ := rec_reads HX7.out
        clear hb hrow m0 m1 c0 c1 e1 hw6 HT2
        go_wp2
        obtain ⟨i0, i1, i2, i3⟩ := rec_reads HF.out
        refine bodyPost_ret (v := .tuple #[.agg #[.int .i64 Uk, .int .i64 Un, .int .i64 Ur, .slice ao7 Ui.length cap7], .int .i64 ((s.length : Int) - (Us.length : Int)), .int .i64 Ue]) (by simp [results, Try.results23, go_sem, i0, i1, i2, i3]) rfl ?_
        rw [HS.out, HTq.out]
        refine ⟨s, [], _, ao7, cap7, ?_, HOF.out, HLF.out, by rw [HS.out, List.append_nil], Nat.zero_le _, HKF.out⟩
        dsimp only
        rw [HS.out]
  · have HTT := Lib.hid (HA.out g4)
    have gf : (Te == 4) = false := by simpa using g4
    have gf2 : (Te != 4) = true := by simpa using g4
    clear HA HA2 g4
    go_enter Try.func23, Try.ntmps23
    go_wp2_with fail
    try rw [hw1]
    refine (HT.out w1).mono ?_
    rintro e w2 ⟨ao, cap, rfl, hrow, hb⟩
    have hX4 := heap_alloc_new w2 (.cells #[.int .i64 Tk, .int .i64 Tn, .int .i64 Tr, .slice ao Ti.length cap] 34)
    have hB4 := (Below.refl w2.heap.size w2).alloc (Nat.le_refl _) (.cells #[.int .i64 Tk, .int .i64 Tn, .int .i64 Tr, .slice ao Ti.length cap] 34)
    obtain ⟨w3, hw3⟩ : ∃ w3, w2.alloc (.cells #[.int .i64 Tk, .int .i64 Tn, .int .i64 Tr, .slice ao Ti.length cap] 34) = w3 := ⟨_, rfl⟩
    rw [hw3] at hX4 hB4
    have hb24 := hb.trans (hB4.mono hb.size)
    have HL3 := Lib.hid (HL.out.below hb24)
    have HX3 := Lib.hid ((hb24.block _ (heap_lt HX.out)).trans HX.out)
    have HK3 := Lib.hid ((LnKp.below hBW HB.out).on HL.out.le hb24)
    have HO3 := Lib.hid (hrow.keep (Keep.below hB4))
    obtain ⟨d0, d1, d2, d3⟩ := rec_reads hX4
    clear hX4 hB4 hb hb24 hrow HT HL HX HB hw1 c0 c1
    obtain ⟨c0, c1, _⟩ := raw_reads HL3.out
    obtain ⟨f0, f1, f2, f3⟩ := rec_free HX3.out
    obtain ⟨j0, j1, j2, j3⟩ := rec_reads HX3.out
    have HF := Lib.hid (put_rec HX3.out (.int .i64 Tk) (.int .i64 Tn) (.int .i64 Tr) (.slice ao Ti.length cap))
    have HLF := Lib.hid (raw_res HL3.out HX3.out (.int .i64 Tk) (.int .i64 Tn) (.int .i64 Tr) (.slice ao Ti.length cap))
    have HKF := Lib.hid (lnkp_res HK3.out (Nat.le_refl _) hBW (.int .i64 Tk) (.int .i64 Tn) (.int .i64 Tr) (.slice ao Ti.length cap))
    have HOF := Lib.hid (own_res HO3.out HX3.out (.int .i64 Tk) (.int .i64 Tn) (.int .i64 Tr) (.slice ao Ti.length cap))
    go_wp2
    try rw [hw3]
    obtain ⟨i0, i1, i2, i3⟩ := rec_reads HF.out
    refine bodyPost_ret (v := .tuple #[.agg #[.int .i64 Tk, .int .i64 Tn, .int .i64 Tr, .slice ao Ti.length cap], .int .i64 ((l.length : Int) - (Ts.length : Int)), .int .i64 Te]) (by simp [results, Try.results23, go_sem, i0, i1, i2, i3]) rfl ?_
    rw [HTT.out]
    refine ⟨l, cm, _, ao, cap, ?_, HOF.out, HLF.out, rfl, by show cm.length ≤ (Ts ++ cm).length; rw [List.length_append]; omega, HKF.out⟩
    dsimp only
    rw [List.length_append, List.length_append, show (((l.length + cm.length : Nat) : Int) - ((Ts.length + cm.length : Nat) : Int)) = (l.length : Int) - (Ts.length : Int) by omega]
end Go.Proofs.Ytjmaccflnfaiiaa
