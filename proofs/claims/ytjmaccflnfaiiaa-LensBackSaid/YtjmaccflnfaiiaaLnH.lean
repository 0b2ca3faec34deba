/-
  (*Lens).Next: walked. (Written by mkLnH.py.)
-/
import Derived.Test.YtjmaccflnfaiiaaLnG
import Derived.Test.YtjmaccflnfaiiaaBn10
set_option linter.unusedSimpArgs false
set_option linter.unusedVariables false
namespace Go.Proofs.Ytjmaccflnfaiiaa
open Go.RowKit

set_option maxHeartbeats 1000000 in
theorem lnnext_nil (W : World) : Calls Try.prog 11 #[.pointer none] W fun e W' => e = .returned (.tuple #[.agg #[.int .i64 0, .int .i64 0, .int .i64 0, .slice none 0 0], .bool false, .int .i64 1]) ∧ Below W.heap.size W W' := by
  obtain ⟨w1, hw1⟩ : ∃ w1, W.alloc (.cells #[.int .i64 0, .int .i64 0, .int .i64 0, .slice none 0 0] 34) = w1 := ⟨_, rfl⟩
  have hX1 : w1.heap[W.heap.size]? = some (.cells #[.int .i64 0, .int .i64 0, .int .i64 0, .slice none 0 0] 34 (0, 0)) := by rw [← hw1]; exact heap_alloc_new W _
  have hB1 : Below W.heap.size W w1 := by rw [← hw1]; exact (Below.refl W.heap.size W).alloc (Nat.le_refl _) _
  obtain ⟨f0, f1, f2, f3⟩ := rec_free hX1
  obtain ⟨j0, j1, j2, j3⟩ := rec_reads hX1
  have HF := Lib.hid (put_rec hX1 (.int .i64 0) (.int .i64 0) (.int .i64 0) (.slice none 0 0))
  have HBe := Lib.hid (below_rec hB1 (Nat.le_refl _) (.int .i64 0) (.int .i64 0) (.int .i64 0) (.slice none 0 0))
  clear hX1 hB1
  go_enter Try.func11, Try.ntmps11
  go_wp2
  try rw [hw1]
  obtain ⟨i0, i1, i2, i3⟩ := rec_reads HF.out
  refine bodyPost_ret (v := .tuple #[.agg #[.int .i64 0, .int .i64 0, .int .i64 0, .slice none 0 0], .bool false, .int .i64 1]) (by simp [results, Try.results11, go_sem, i0, i1, i2, i3]) rfl ?_
  exact ⟨rfl, HBe.out⟩

/-- Next's answer. -/
def RetNx (s : LnS) (B b : Nat) (W : World) (e : Ending) (W' : World) : Prop := ∃ x : Rv, e = .returned (.tuple #[.agg #[.int .i64 x.k, .int .i64 x.n, .int .i64 x.r, .slice x.a x.len x.cap], .bool (lnNext s).2, .int .i64 (lnNext s).1.e]) ∧
      Say W' x (if (lnNext s).2 = true then lnLast (lnNext s).1.read else rn0) ∧ IsLn W' B b (lnNext s).1 ∧ LnKp B W W'
theorem RetNx.no {s s' : LnS} {B b : Nat} {W W' : World} (hn : lnNext s = (s', false)) (h : IsLn W' B b s') (hk : LnKp B W W') : RetNx s B b W (.returned (.tuple #[.agg #[.int .i64 0, .int .i64 0, .int .i64 0, .slice none 0 0], .bool false, .int .i64 s'.e])) W' := by
  unfold RetNx
  rw [hn]
  exact ⟨rv0, rfl, Say.zero _, h, hk⟩
theorem RetNx.yes {s s' : LnS} {B b : Nat} {W W' : World} {x : Rv} (hn : lnNext s = (s', true)) (hx : Say W' x (lnLast s'.read)) (h : IsLn W' B b s') (hk : LnKp B W W') : RetNx s B b W (.returned (.tuple #[.agg #[.int .i64 x.k, .int .i64 x.n, .int .i64 x.r, .slice x.a x.len x.cap], .bool true, .int .i64 s'.e])) W' := by
  unfold RetNx
  rw [hn]
  exact ⟨x, rfl, hx, h, hk⟩

/-- Where no record is read any more. -/
theorem ln_over {L : List Rn} {r l cm : List UInt8} {cl : Bool} {y z : Int} {n : Nat} (h : LnSt ⟨L, r, cl, y⟩ l cm n z) (ho : z ≠ 0 ∨ (lnLast L).k = 6) :
    ∃ y', lnNext ⟨L, r, cl, y⟩ = (⟨L, r, cl, y'⟩, false) ∧ (if z = 0 ∧ 0 < n then 20 else z) = y' ∧ LnSt ⟨L, r, cl, y'⟩ l cm n z := by
  have hn : n = r.length := by
    rcases h.2 with ⟨_, _, _, g⟩ | ⟨g, _⟩
    · exact g
    · exact absurd ho (fun q => q.elim (fun q => q g.1) (fun q => g.2 q))
  by_cases hz : z = 0
  · have h6 : (lnLast L).k = 6 := ho.elim (fun q => absurd hz q) id
    rcases h.1 with g | ⟨g1, _, _, g4⟩
    · have g' : y = 0 := Eq.trans (show y = z from g) hz
      subst g'
      by_cases hr : r.length = 0
      · exact ⟨0, ln_end (s := ⟨L, r, cl, 0⟩) rfl h6 hr, by rw [if_neg (fun q => by have := q.2; omega)]; exact hz, h⟩
      · exact ⟨20, ln_more (s := ⟨L, r, cl, 0⟩) rfl h6 hr, if_pos ⟨hz, by omega⟩, .inr ⟨rfl, hz, h6, by show 0 < r.length; omega⟩, h.2⟩
    · have g' : y = 20 := g1
      have g4' : 0 < r.length := g4
      subst g'
      exact ⟨20, ln_wrong (s := ⟨L, r, cl, 20⟩) (by show ¬ (20 : Int) = 0; decide), if_pos ⟨hz, by omega⟩, h⟩
  · have g' : y = z := h.1.elim id (fun q => absurd q.2.1 hz)
    subst g'
    exact ⟨y, ln_wrong (s := ⟨L, r, cl, y⟩) hz, if_neg (fun q => hz q.1), h⟩

set_option maxRecDepth 100000 in
set_option maxHeartbeats 8000000 in
theorem lnnext_over {W : World} {B b : Nat} {L : List Rn} {r l cm : List UInt8} {v : Value} {cl : Bool} {y z : Int} {n : Nat} (h1 : LnC [] L) (h2 : r.length ≤ 1000000) (h3 : LnRaw W B b l cm v n (lnLast L) z cl) (h4 : LnSt ⟨L, r, cl, y⟩ l cm n z) (ho : z ≠ 0 ∨ (lnLast L).k = 6) :
    Calls Try.prog 11 #[.pointer (some ⟨b, 0, none⟩)] W (RetNx ⟨L, r, cl, y⟩ B b W) := by
  obtain ⟨y', hn, he, hst⟩ := ln_over h4 ho
  have HN := Lib.hid hn
  have HE := Lib.hid he
  have HC := Lib.hid (And.intro h1 (And.intro h2 hst))
  obtain ⟨w1, hw1⟩ : ∃ w1, W.alloc (.cells #[.int .i64 0, .int .i64 0, .int .i64 0, .slice none 0 0] 34) = w1 := ⟨_, rfl⟩
  have hX1 : w1.heap[W.heap.size]? = some (.cells #[.int .i64 0, .int .i64 0, .int .i64 0, .slice none 0 0] 34 (0, 0)) := by rw [← hw1]; exact heap_alloc_new W _
  have hB1 : Below W.heap.size W w1 := by rw [← hw1]; exact (Below.refl W.heap.size W).alloc (Nat.le_refl _) _
  have hBW := h3.le
  have hl1 := h3.below hB1
  have hov := lnover_raw hl1
  rw [decide_eq_true ho] at hov
  have HOv := Lib.hid hov
  have HL := Lib.hid hl1
  have HX := Lib.hid hX1
  have HK := Lib.hid (LnKp.below hBW hB1)
  clear hn he hst h1 h2 h3 h4 ho hov hl1 hX1 hB1
  go_enter Try.func11, Try.ntmps11
  go_wp2_with fail
  try rw [hw1]
  refine HOv.out.mono ?_
  rintro e w2 ⟨rfl, hb⟩
  have HL2 := Lib.hid (HL.out.below hb)
  have HX2 := Lib.hid ((hb.block _ (heap_lt HX.out)).trans HX.out)
  have HK2 := Lib.hid (HK.out.on HL.out.le hb)
  have hrs := lnrest_raw HL2.out
  rw [HE.out] at hrs
  have HRs := Lib.hid hrs
  clear hb hrs HOv HL HX HK hw1 HE
  go_wp2_with fail
  refine HRs.out.mono ?_
  rintro e w3 ⟨rfl, hb⟩
  have HL3 := Lib.hid (HL2.out.below hb)
  have HX3 := Lib.hid ((hb.block _ (heap_lt HX2.out)).trans HX2.out)
  have HK3 := Lib.hid (HK2.out.on HL2.out.le hb)
  obtain ⟨f0, f1, f2, f3⟩ := rec_free HX3.out
  obtain ⟨j0, j1, j2, j3⟩ := rec_reads HX3.out
  clear hb HRs HL2 HX2 HK2
  have HF := Lib.hid (put_rec HX3.out (.int .i64 0) (.int .i64 0) (.int .i64 0) (.slice none 0 0))
  have HLF := Lib.hid (raw_res HL3.out HX3.out (.int .i64 0) (.int .i64 0) (.int .i64 0) (.slice none 0 0))
  have HKF := Lib.hid (lnkp_res HK3.out (Nat.le_refl _) hBW (.int .i64 0) (.int .i64 0) (.int .i64 0) (.slice none 0 0))
  go_wp2
  obtain ⟨i0, i1, i2, i3⟩ := rec_reads HF.out
  refine bodyPost_ret (v := .tuple #[.agg #[.int .i64 0, .int .i64 0, .int .i64 0, .slice none 0 0], .bool false, .int .i64 y']) (by simp [results, Try.results11, go_sem, i0, i1, i2, i3]) rfl ?_
  exact RetNx.no HN.out ⟨HC.out.1, HC.out.2.1, l, cm, v, n, z, HLF.out, HC.out.2.2⟩ HKF.out

/-- Where a record may be read still. -/
theorem ln_open {L : List Rn} {r l cm : List UInt8} {cl : Bool} {y z : Int} {n : Nat} (h : LnSt ⟨L, r, cl, y⟩ l cm n z) (ho : ¬ (z ≠ 0 ∨ (lnLast L).k = 6)) : y = 0 ∧ z = 0 ∧ (lnLast L).k ≠ 6 ∧ n = 0 ∧ r = l ++ cm := by
  have h6 : (lnLast L).k ≠ 6 := fun q => ho (.inr q)
  rcases h.2 with ⟨g, _⟩ | ⟨g1, g2, g3⟩
  · exact absurd g ho
  · exact ⟨h.1.elim (fun q => Eq.trans q g1.1) (fun q => absurd q.2.2.1 h6), g1.1, h6, g2, g3⟩
theorem st_open {L : List Rn} {l cm : List UInt8} {cl : Bool} (h6 : (lnLast L).k ≠ 6) : LnSt ⟨L, l ++ cm, cl, 0⟩ l cm 0 0 := ⟨.inl rfl, .inr ⟨⟨rfl, h6⟩, rfl, rfl⟩⟩
theorem st_shut {L : List Rn} {r : List UInt8} {cl : Bool} {e : Int} (he : e ≠ 0) : LnSt ⟨L, r, cl, e⟩ [] [] r.length e := ⟨.inl rfl, .inl ⟨.inl he, rfl, rfl, rfl⟩⟩

set_option maxRecDepth 100000 in
set_option maxHeartbeats 8000000 in
theorem lnnext_b {W : World} {B b : Nat} {L : List Rn} {r l cm : List UInt8} {v : Value} {cl : Bool} {y z : Int} {n : Nat} (h1 : LnC [] L) (h2 : r.length ≤ 1000000) (h3 : LnRaw W B b l cm v n (lnLast L) z cl) (h4 : LnSt ⟨L, r, cl, y⟩ l cm n z) (ho : ¬ (z ≠ 0 ∨ (lnLast L).k = 6)) (he : (tkR r).e ≠ 0) :
    Calls Try.prog 11 #[.pointer (some ⟨b, 0, none⟩)] W (RetNx ⟨L, r, cl, y⟩ B b W) := by
  obtain ⟨rfl, rfl, h6, rfl, hr⟩ := ln_open h4 ho
  obtain ⟨w1, hw1⟩ : ∃ w1, W.alloc (.cells #[.int .i64 0, .int .i64 0, .int .i64 0, .slice none 0 0] 34) = w1 := ⟨_, rfl⟩
  have hX1 : w1.heap[W.heap.size]? = some (.cells #[.int .i64 0, .int .i64 0, .int .i64 0, .slice none 0 0] 34 (0, 0)) := by rw [← hw1]; exact heap_alloc_new W _
  have hB1 : Below W.heap.size W w1 := by rw [← hw1]; exact (Below.refl W.heap.size W).alloc (Nat.le_refl _) _
  have hBW := h3.le
  have hl1 := h3.below hB1
  have hov := lnover_raw hl1
  rw [decide_eq_false ho] at hov
  have HOv := Lib.hid hov
  have HL := Lib.hid hl1
  have HX := Lib.hid hX1
  have HK := Lib.hid (LnKp.below hBW hB1)
  have Hlen : Hid (l.length + cm.length ≤ 1000000) := Lib.hid (by rw [hr, List.length_append] at h2; exact h2)
  have HR := Lib.hid hr
  have H1 := Lib.hid h1
  have H2 := Lib.hid h2
  have H6 := Lib.hid h6
  have HD : Hid ((tkR r).e = 4 → cl = false → lnNext ⟨L, r, cl, 0⟩ = (⟨L, r, cl, 0⟩, false)) := Lib.hid (fun g1 g2 => ln_wait (s := ⟨L, r, cl, 0⟩) rfl h6 g1 g2)
  have HE : Hid (¬ ((tkR r).e = 4 ∧ cl = false) → lnNext ⟨L, r, cl, 0⟩ = (⟨L, r, cl, (tkR r).e⟩, false)) := Lib.hid (fun g => ln_err (s := ⟨L, r, cl, 0⟩) rfl h6 g he)
  obtain ⟨⟨Te, Tk, Tn, Tr, Ti, Ts⟩, hT⟩ : ∃ T, tkR r = T := ⟨_, rfl⟩
  have HTr := Lib.hid hT
  rw [hT] at HD HE he
  dsimp only at HD HE he
  have ge : (Te == 0) = false := by simpa using he
  have ge2 : (Te != 0) = true := by simpa using he
  have HNe := Lib.hid he
  clear h1 h2 h3 h4 ho h6 hr hov hl1 hX1 hB1 hT
  by_cases g4 : Te = 4
  · subst g4
    cases cl with
    | false =>
      have HN := Lib.hid (HD.out rfl rfl)
      clear HD HE he ge ge2
      go_enter Try.func11, Try.ntmps11
      go_wp2_with fail
      try rw [hw1]
      refine HOv.out.mono ?_
      rintro e w2 ⟨rfl, hb⟩
      have HL2 := Lib.hid (HL.out.below hb)
      have HX2 := Lib.hid ((hb.block _ (heap_lt HX.out)).trans HX.out)
      have HK2 := Lib.hid (HK.out.on HL.out.le hb)
      have htk := lntake_raw HL2.out Hlen.out
      rw [← HR.out, HTr.out] at htk
      have HTk := Lib.hid htk
      clear hb htk HOv HL HX HK hw1
      go_wp2_with fail
      refine HTk.out.mono ?_
      rintro e w3 ⟨l', cm', v', ao, cap, rfl, hrow, hl3, hcat, hle, hk3⟩
      rw [← HR.out] at hcat ⊢
      dsimp only at hrow hle ⊢
      have hX3 := hk3.2.2.1 _ _ _ HX2.out
      have hK3 := HK2.out.trans hk3
      have hX4 := heap_alloc_new w3 (.cells #[.int .i64 Tk, .int .i64 Tn, .int .i64 Tr, .slice ao Ti.length cap] 34)
      have hB4 := (Below.refl w3.heap.size w3).alloc (Nat.le_refl _) (.cells #[.int .i64 Tk, .int .i64 Tn, .int .i64 Tr, .slice ao Ti.length cap] 34)
      have hRr : W.heap.size < w3.heap.size := heap_lt hX3
      obtain ⟨w4, hw4⟩ : ∃ w4, w3.alloc (.cells #[.int .i64 Tk, .int .i64 Tn, .int .i64 Tr, .slice ao Ti.length cap] 34) = w4 := ⟨_, rfl⟩
      rw [hw4] at hX4 hB4
      have HL4 := Lib.hid (hl3.below hB4)
      have HX4 := Lib.hid ((hB4.block _ hRr).trans hX3)
      have HK4 := Lib.hid (hK3.on hl3.le hB4)
      have HSy := Lib.hid ((show Say w3 ⟨Tk, Tn, Tr, ao, Ti.length, cap⟩ ⟨Tk, Tn, Tr, Ti⟩ from ⟨rfl, rfl, rfl, rfl, hrow⟩).below hB4)
      have HCat := Lib.hid hcat
      have HLe := Lib.hid hle
      have HLc : Hid (l'.length + cm'.length = r.length) := Lib.hid (by rw [← hcat, List.length_append])
      obtain ⟨rb, hrb⟩ : ∃ rb, w3.heap.size = rb := ⟨_, rfl⟩
      rw [hrb] at hX4
      have HXr := Lib.hid hX4
      obtain ⟨c0, _, _, _, _, _, _, _, c8⟩ := raw_reads HL4.out
      obtain ⟨f0, f1, f2, f3⟩ := rec_free HX4.out
      obtain ⟨j0, j1, j2, j3⟩ := rec_reads HX4.out
      clear hrow hl3 hcat hle hk3 hX3 hK3 hX4 hB4 hRr HTk HL2 HX2 HK2
      go_wp2_with fail
      try rw [hw4]
      refine (lnclone_any _ w4 (by rw [bsize]; have := HLc.out; have := H2.out; omega)).mono ?_
      rintro e w5 ⟨rfl, hb⟩
      have hl5 := HL4.out.below hb
      have hx5 := (hb.block _ (heap_lt HX4.out)).trans HX4.out
      have hk5 := HK4.out.on HL4.out.le hb
      clear c0 c8 f0 f1 f2 f3 j0 j1 j2 j3
      obtain ⟨c0, _⟩ := raw_reads hl5
      have q0 := raw_free hl5 0
      obtain ⟨f0, f1, f2, f3⟩ := rec_free hx5
      obtain ⟨j0, j1, j2, j3⟩ := rec_reads hx5
      have hI := (Into.refl b w5).set 0 (.string ⟨l'.toArray⟩)
      have hl6 : LnRaw (w5.setCell ⟨b, 0, none⟩ (.string ⟨l'.toArray⟩)) B b l' cm' v' 0 (lnLast L) 0 false := ⟨hl5.base, put_heap hl5.cells (i := 0) _, raw_row hl5 hI⟩
      have hk6 := hk5.trans (raw_kp hl5 hI)
      have hx6 := (hI.block _ (type_ne hx5 hl5.cells (by decide))).trans hx5
      obtain ⟨w6, hw6⟩ : ∃ w6, w5.setCell ⟨b, 0, none⟩ (.string ⟨l'.toArray⟩) = w6 := ⟨_, rfl⟩
      rw [hw6] at hl6 hk6 hx6
      obtain ⟨f0, f1, f2, f3⟩ := rec_free hx6
      obtain ⟨j0, j1, j2, j3⟩ := rec_reads hx6
      have HF := Lib.hid (put_rec hx6 (.int .i64 0) (.int .i64 0) (.int .i64 0) (.slice none 0 0))
      have HLF := Lib.hid (raw_res hl6 hx6 (.int .i64 0) (.int .i64 0) (.int .i64 0) (.slice none 0 0))
      have HKF := Lib.hid (lnkp_res hk6 (Nat.le_refl _) hBW (.int .i64 0) (.int .i64 0) (.int .i64 0) (.slice none 0 0))
      clear hb hl5 hx5 hk5 hI hl6 hk6 hx6
      go_wp2
      try rw [hw6]
      obtain ⟨i0, i1, i2, i3⟩ := rec_reads HF.out
      refine bodyPost_ret (v := .tuple #[.agg #[.int .i64 0, .int .i64 0, .int .i64 0, .slice none 0 0], .bool false, .int .i64 0]) (by simp [results, Try.results11, go_sem, i0, i1, i2, i3]) rfl ?_
      have HSt : LnSt ⟨L, r, false, 0⟩ l' cm' 0 0 := by rw [← HCat.out]; exact st_open H6.out
      exact RetNx.no HN.out ⟨H1.out, H2.out, l', cm', v', 0, 0, HLF.out, HSt⟩ HKF.out
    | true =>
      have HN := Lib.hid (HE.out (fun g => by cases g.2))
      clear HD HE he ge ge2
      go_enter Try.func11, Try.ntmps11
      go_wp2_with fail
      try rw [hw1]
      refine HOv.out.mono ?_
      rintro e w2 ⟨rfl, hb⟩
      have HL2 := Lib.hid (HL.out.below hb)
      have HX2 := Lib.hid ((hb.block _ (heap_lt HX.out)).trans HX.out)
      have HK2 := Lib.hid (HK.out.on HL.out.le hb)
      have htk := lntake_raw HL2.out Hlen.out
      rw [← HR.out, HTr.out] at htk
      have HTk := Lib.hid htk
      clear hb htk HOv HL HX HK hw1
      go_wp2_with fail
      refine HTk.out.mono ?_
      rintro e w3 ⟨l', cm', v', ao, cap, rfl, hrow, hl3, hcat, hle, hk3⟩
      rw [← HR.out] at hcat ⊢
      dsimp only at hrow hle ⊢
      have hX3 := hk3.2.2.1 _ _ _ HX2.out
      have hK3 := HK2.out.trans hk3
      have hX4 := heap_alloc_new w3 (.cells #[.int .i64 Tk, .int .i64 Tn, .int .i64 Tr, .slice ao Ti.length cap] 34)
      have hB4 := (Below.refl w3.heap.size w3).alloc (Nat.le_refl _) (.cells #[.int .i64 Tk, .int .i64 Tn, .int .i64 Tr, .slice ao Ti.length cap] 34)
      have hRr : W.heap.size < w3.heap.size := heap_lt hX3
      obtain ⟨w4, hw4⟩ : ∃ w4, w3.alloc (.cells #[.int .i64 Tk, .int .i64 Tn, .int .i64 Tr, .slice ao Ti.length cap] 34) = w4 := ⟨_, rfl⟩
      rw [hw4] at hX4 hB4
      have HL4 := Lib.hid (hl3.below hB4)
      have HX4 := Lib.hid ((hB4.block _ hRr).trans hX3)
      have HK4 := Lib.hid (hK3.on hl3.le hB4)
      have HSy := Lib.hid ((show Say w3 ⟨Tk, Tn, Tr, ao, Ti.length, cap⟩ ⟨Tk, Tn, Tr, Ti⟩ from ⟨rfl, rfl, rfl, rfl, hrow⟩).below hB4)
      have HCat := Lib.hid hcat
      have HLe := Lib.hid hle
      have HLc : Hid (l'.length + cm'.length = r.length) := Lib.hid (by rw [← hcat, List.length_append])
      obtain ⟨rb, hrb⟩ : ∃ rb, w3.heap.size = rb := ⟨_, rfl⟩
      rw [hrb] at hX4
      have HXr := Lib.hid hX4
      obtain ⟨c0, _, _, _, _, _, _, _, c8⟩ := raw_reads HL4.out
      obtain ⟨f0, f1, f2, f3⟩ := rec_free HX4.out
      obtain ⟨j0, j1, j2, j3⟩ := rec_reads HX4.out
      clear hrow hl3 hcat hle hk3 hX3 hK3 hX4 hB4 hRr HTk HL2 HX2 HK2
      go_wp2_with fail
      try rw [hw4]
      refine (lnfail_raw HL4.out 4 (by have := HLc.out; have := H2.out; omega)).mono ?_
      rintro e w5 ⟨rfl, hl5, hk5⟩
      have hs5 : l'.length + cm'.length + 0 = r.length := by have := HLc.out; omega
      rw [hs5] at hl5
      have HL5 := Lib.hid hl5
      have HX5 := Lib.hid (hk5.2.2.1 _ _ _ HX4.out)
      have HK5 := Lib.hid (HK4.out.trans hk5)
      clear hl5 hk5 hs5 c0 c8 f0 f1 f2 f3 j0 j1 j2 j3
      obtain ⟨f0, f1, f2, f3⟩ := rec_free HX5.out
      obtain ⟨j0, j1, j2, j3⟩ := rec_reads HX5.out
      have HF := Lib.hid (put_rec HX5.out (.int .i64 0) (.int .i64 0) (.int .i64 0) (.slice none 0 0))
      have HLF := Lib.hid (raw_res HL5.out HX5.out (.int .i64 0) (.int .i64 0) (.int .i64 0) (.slice none 0 0))
      have HKF := Lib.hid (lnkp_res HK5.out (Nat.le_refl _) hBW (.int .i64 0) (.int .i64 0) (.int .i64 0) (.slice none 0 0))
      go_wp2
      obtain ⟨i0, i1, i2, i3⟩ := rec_reads HF.out
      refine bodyPost_ret (v := .tuple #[.agg #[.int .i64 0, .int .i64 0, .int .i64 0, .slice none 0 0], .bool false, .int .i64 4]) (by simp [results, Try.results11, go_sem, i0, i1, i2, i3]) rfl ?_
      exact RetNx.no HN.out ⟨H1.out, H2.out, [], [], .slice none 0 0, r.length, 4, HLF.out, st_shut HNe.out⟩ HKF.out
  · have HN := Lib.hid (HE.out (fun g => g4 g.1))
    have gf : (Te == 4) = false := by simpa using g4
    clear HD HE he g4
    go_enter Try.func11, Try.ntmps11
    go_wp2_with fail
    try rw [hw1]
    refine HOv.out.mono ?_
    rintro e w2 ⟨rfl, hb⟩
    have HL2 := Lib.hid (HL.out.below hb)
    have HX2 := Lib.hid ((hb.block _ (heap_lt HX.out)).trans HX.out)
    have HK2 := Lib.hid (HK.out.on HL.out.le hb)
    have htk := lntake_raw HL2.out Hlen.out
    rw [← HR.out, HTr.out] at htk
    have HTk := Lib.hid htk
    clear hb htk HOv HL HX HK hw1
    go_wp2_with fail
    refine HTk.out.mono ?_
    rintro e w3 ⟨l', cm', v', ao, cap, rfl, hrow, hl3, hcat, hle, hk3⟩
    rw [← HR.out] at hcat ⊢
    dsimp only at hrow hle ⊢
    have hX3 := hk3.2.2.1 _ _ _ HX2.out
    have hK3 := HK2.out.trans hk3
    have hX4 := heap_alloc_new w3 (.cells #[.int .i64 Tk, .int .i64 Tn, .int .i64 Tr, .slice ao Ti.length cap] 34)
    have hB4 := (Below.refl w3.heap.size w3).alloc (Nat.le_refl _) (.cells #[.int .i64 Tk, .int .i64 Tn, .int .i64 Tr, .slice ao Ti.length cap] 34)
    have hRr : W.heap.size < w3.heap.size := heap_lt hX3
    obtain ⟨w4, hw4⟩ : ∃ w4, w3.alloc (.cells #[.int .i64 Tk, .int .i64 Tn, .int .i64 Tr, .slice ao Ti.length cap] 34) = w4 := ⟨_, rfl⟩
    rw [hw4] at hX4 hB4
    have HL4 := Lib.hid (hl3.below hB4)
    have HX4 := Lib.hid ((hB4.block _ hRr).trans hX3)
    have HK4 := Lib.hid (hK3.on hl3.le hB4)
    have HSy := Lib.hid ((show Say w3 ⟨Tk, Tn, Tr, ao, Ti.length, cap⟩ ⟨Tk, Tn, Tr, Ti⟩ from ⟨rfl, rfl, rfl, rfl, hrow⟩).below hB4)
    have HCat := Lib.hid hcat
    have HLe := Lib.hid hle
    have HLc : Hid (l'.length + cm'.length = r.length) := Lib.hid (by rw [← hcat, List.length_append])
    obtain ⟨rb, hrb⟩ : ∃ rb, w3.heap.size = rb := ⟨_, rfl⟩
    rw [hrb] at hX4
    have HXr := Lib.hid hX4
    obtain ⟨c0, _, _, _, _, _, _, _, c8⟩ := raw_reads HL4.out
    obtain ⟨f0, f1, f2, f3⟩ := rec_free HX4.out
    obtain ⟨j0, j1, j2, j3⟩ := rec_reads HX4.out
    clear hrow hl3 hcat hle hk3 hX3 hK3 hX4 hB4 hRr HTk HL2 HX2 HK2
    go_wp2_with fail
    try rw [hw4]
    refine (lnfail_raw HL4.out Te (by have := HLc.out; have := H2.out; omega)).mono ?_
    rintro e w5 ⟨rfl, hl5, hk5⟩
    have hs5 : l'.length + cm'.length + 0 = r.length := by have := HLc.out; omega
    rw [hs5] at hl5
    have HL5 := Lib.hid hl5
    have HX5 := Lib.hid (hk5.2.2.1 _ _ _ HX4.out)
    have HK5 := Lib.hid (HK4.out.trans hk5)
    clear hl5 hk5 hs5 c0 c8 f0 f1 f2 f3 j0 j1 j2 j3
    obtain ⟨f0, f1, f2, f3⟩ := rec_free HX5.out
    obtain ⟨j0, j1, j2, j3⟩ := rec_reads HX5.out
    have HF := Lib.hid (put_rec HX5.out (.int .i64 0) (.int .i64 0) (.int .i64 0) (.slice none 0 0))
    have HLF := Lib.hid (raw_res HL5.out HX5.out (.int .i64 0) (.int .i64 0) (.int .i64 0) (.slice none 0 0))
    have HKF := Lib.hid (lnkp_res HK5.out (Nat.le_refl _) hBW (.int .i64 0) (.int .i64 0) (.int .i64 0) (.slice none 0 0))
    go_wp2
    obtain ⟨i0, i1, i2, i3⟩ := rec_reads HF.out
    refine bodyPost_ret (v := .tuple #[.agg #[.int .i64 0, .int .i64 0, .int .i64 0, .slice none 0 0], .bool false, .int .i64 Te]) (by simp [results, Try.results11, go_sem, i0, i1, i2, i3]) rfl ?_
    exact RetNx.no HN.out ⟨H1.out, H2.out, [], [], .slice none 0 0, r.length, Te, HLF.out, st_shut HNe.out⟩ HKF.out

set_option maxRecDepth 100000 in
set_option maxHeartbeats 8000000 in
theorem lnnext_g {W : World} {B b : Nat} {L : List Rn} {r l cm : List UInt8} {v : Value} {cl : Bool} {y z : Int} {n : Nat} (h1 : LnC [] L) (h2 : r.length ≤ 1000000) (h3 : LnRaw W B b l cm v n (lnLast L) z cl) (h4 : LnSt ⟨L, r, cl, y⟩ l cm n z) (ho : ¬ (z ≠ 0 ∨ (lnLast L).k = 6)) (he : (tkR r).e = 0) :
    Calls Try.prog 11 #[.pointer (some ⟨b, 0, none⟩)] W (RetNx ⟨L, r, cl, y⟩ B b W) := by
  obtain ⟨rfl, rfl, h6, rfl, hr⟩ := ln_open h4 ho
  obtain ⟨w1, hw1⟩ : ∃ w1, W.alloc (.cells #[.int .i64 0, .int .i64 0, .int .i64 0, .slice none 0 0] 34) = w1 := ⟨_, rfl⟩
  have hX1 : w1.heap[W.heap.size]? = some (.cells #[.int .i64 0, .int .i64 0, .int .i64 0, .slice none 0 0] 34 (0, 0)) := by rw [← hw1]; exact heap_alloc_new W _
  have hB1 : Below W.heap.size W w1 := by rw [← hw1]; exact (Below.refl W.heap.size W).alloc (Nat.le_refl _) _
  have hBW := h3.le
  have hl1 := h3.below hB1
  have hov := lnover_raw hl1
  rw [decide_eq_false ho] at hov
  have HOv := Lib.hid hov
  have HL := Lib.hid hl1
  have HX := Lib.hid hX1
  have HK := Lib.hid (LnKp.below hBW hB1)
  have Hlen : Hid (l.length + cm.length ≤ 1000000) := Lib.hid (by rw [hr, List.length_append] at h2; exact h2)
  have HR := Lib.hid hr
  have H1 := Lib.hid h1
  have H2 := Lib.hid h2
  have H6 := Lib.hid h6
  have HO : Hid (lnBad L (tkR r).rn = true → lnNext ⟨L, r, cl, 0⟩ = (⟨L, r, cl, 9⟩, false)) := Lib.hid (fun g => ln_order (s := ⟨L, r, cl, 0⟩) rfl h6 he g)
  have HG : Hid (lnBad L (tkR r).rn = false → lnNext ⟨L, r, cl, 0⟩ = (⟨L ++ [(tkR r).rn], (tkR r).rest, cl, 0⟩, true)) := Lib.hid (fun g => ln_read (s := ⟨L, r, cl, 0⟩) rfl h6 he g)
  have HC := Lib.hid (rtk_back he)
  have HDr := Lib.hid (rtk_drop he)
  have HRl := Lib.hid (rtk_len r)
  obtain ⟨⟨Te, Tk, Tn, Tr, Ti, Ts⟩, hT⟩ : ∃ T, tkR r = T := ⟨_, rfl⟩
  have HTr := Lib.hid hT
  rw [hT] at HO HG HC HDr HRl he
  dsimp only at HO HG HC HDr HRl he
  subst he
  clear h1 h2 h3 h4 ho h6 hr hov hl1 hX1 hB1 hT
  go_enter Try.func11, Try.ntmps11
  go_wp2_with fail
  try rw [hw1]
  refine HOv.out.mono ?_
  rintro e w2 ⟨rfl, hb⟩
  have HL2 := Lib.hid (HL.out.below hb)
  have HX2 := Lib.hid ((hb.block _ (heap_lt HX.out)).trans HX.out)
  have HK2 := Lib.hid (HK.out.on HL.out.le hb)
  have htk := lntake_raw HL2.out Hlen.out
  rw [← HR.out, HTr.out] at htk
  have HTk := Lib.hid htk
  clear hb htk HOv HL HX HK hw1
  go_wp2_with fail
  refine HTk.out.mono ?_
  rintro e w3 ⟨l', cm', v', ao, cap, rfl, hrow, hl3, hcat, hle, hk3⟩
  rw [← HR.out] at hcat ⊢
  dsimp only at hrow hle ⊢
  have hX3 := hk3.2.2.1 _ _ _ HX2.out
  have hK3 := HK2.out.trans hk3
  have hX4 := heap_alloc_new w3 (.cells #[.int .i64 Tk, .int .i64 Tn, .int .i64 Tr, .slice ao Ti.length cap] 34)
  have hB4 := (Below.refl w3.heap.size w3).alloc (Nat.le_refl _) (.cells #[.int .i64 Tk, .int .i64 Tn, .int .i64 Tr, .slice ao Ti.length cap] 34)
  have hRr : W.heap.size < w3.heap.size := heap_lt hX3
  obtain ⟨w4, hw4⟩ : ∃ w4, w3.alloc (.cells #[.int .i64 Tk, .int .i64 Tn, .int .i64 Tr, .slice ao Ti.length cap] 34) = w4 := ⟨_, rfl⟩
  rw [hw4] at hX4 hB4
  have HL4 := Lib.hid (hl3.below hB4)
  have HX4 := Lib.hid ((hB4.block _ hRr).trans hX3)
  have HK4 := Lib.hid (hK3.on hl3.le hB4)
  have HSy := Lib.hid ((show Say w3 ⟨Tk, Tn, Tr, ao, Ti.length, cap⟩ ⟨Tk, Tn, Tr, Ti⟩ from ⟨rfl, rfl, rfl, rfl, hrow⟩).below hB4)
  have HCat := Lib.hid hcat
  have HLe := Lib.hid hle
  have HLc : Hid (l'.length + cm'.length = r.length) := Lib.hid (by rw [← hcat, List.length_append])
  obtain ⟨rb, hrb⟩ : ∃ rb, w3.heap.size = rb := ⟨_, rfl⟩
  rw [hrb] at hX4
  have HXr := Lib.hid hX4
  obtain ⟨c0, _, _, _, _, _, _, _, c8⟩ := raw_reads HL4.out
  obtain ⟨f0, f1, f2, f3⟩ := rec_free HX4.out
  obtain ⟨j0, j1, j2, j3⟩ := rec_reads HX4.out
  clear hrow hl3 hcat hle hk3 hX3 hK3 hX4 hB4 hRr HTk HL2 HX2 HK2
  obtain ⟨d0, d1, d2, d3⟩ := rec_reads HXr.out
  have hdis := lnunfit_raw HL4.out H1.out HSy.out
  obtain ⟨Z, hZ⟩ : ∃ Z, lnBad L ⟨Tk, Tn, Tr, Ti⟩ = Z := ⟨_, rfl⟩
  have HZ := Lib.hid hZ
  rw [hZ] at hdis
  have HDis := Lib.hid hdis
  clear hZ hdis
  go_wp2_with fail
  try rw [hw4]
  try rw [hrb]
  refine HDis.out.mono ?_
  rintro e w6 ⟨rfl, hb6⟩
  have HL6 := Lib.hid (HL4.out.below hb6)
  have HX6 := Lib.hid ((hb6.block _ (heap_lt HX4.out)).trans HX4.out)
  have HK6 := Lib.hid (HK4.out.on HL4.out.le hb6)
  have HSy6 := Lib.hid (HSy.out.below hb6)
  have HXr6 := Lib.hid ((hb6.block _ (heap_lt HXr.out)).trans HXr.out)
  clear hb6 HDis d0 d1 d2 d3 hw4 hrb HL4 HX4 HK4 HSy HXr c0 c8 f0 f1 f2 f3 j0 j1 j2 j3
  obtain ⟨c0, _, _, _, _, _, _, _, c8⟩ := raw_reads HL6.out
  obtain ⟨f0, f1, f2, f3⟩ := rec_free HX6.out
  obtain ⟨j0, j1, j2, j3⟩ := rec_reads HX6.out
  obtain ⟨d0, d1, d2, d3⟩ := rec_reads HXr6.out
  cases Z with
  | true =>
    have HN := Lib.hid (HO.out HZ.out)
    clear HO HG
    go_wp2_with fail
    refine (lnfail_raw HL6.out 9 (by have := HLc.out; have := H2.out; omega)).mono ?_
    rintro e w5 ⟨rfl, hl5, hk5⟩
    have hs5 : l'.length + cm'.length + 0 = r.length := by have := HLc.out; omega
    rw [hs5] at hl5
    have HL5 := Lib.hid hl5
    have HX5 := Lib.hid (hk5.2.2.1 _ _ _ HX6.out)
    have HK5 := Lib.hid (HK6.out.trans hk5)
    clear hl5 hk5 hs5 c0 c8 f0 f1 f2 f3 j0 j1 j2 j3
    obtain ⟨f0, f1, f2, f3⟩ := rec_free HX5.out
    obtain ⟨j0, j1, j2, j3⟩ := rec_reads HX5.out
    have HF := Lib.hid (put_rec HX5.out (.int .i64 0) (.int .i64 0) (.int .i64 0) (.slice none 0 0))
    have HLF := Lib.hid (raw_res HL5.out HX5.out (.int .i64 0) (.int .i64 0) (.int .i64 0) (.slice none 0 0))
    have HKF := Lib.hid (lnkp_res HK5.out (Nat.le_refl _) hBW (.int .i64 0) (.int .i64 0) (.int .i64 0) (.slice none 0 0))
    go_wp2
    obtain ⟨i0, i1, i2, i3⟩ := rec_reads HF.out
    refine bodyPost_ret (v := .tuple #[.agg #[.int .i64 0, .int .i64 0, .int .i64 0, .slice none 0 0], .bool false, .int .i64 9]) (by simp [results, Try.results11, go_sem, i0, i1, i2, i3]) rfl ?_
    exact RetNx.no HN.out ⟨H1.out, H2.out, [], [], .slice none 0 0, r.length, 9, HLF.out, st_shut (by decide)⟩ HKF.out
  | false =>
    have HN := Lib.hid (HG.out HZ.out)
    obtain ⟨p, hp⟩ : ∃ p : Nat, (r.length : Int) - (Ts.length : Int) = (p : Int) := ⟨r.length - Ts.length, by have := HRl.out; omega⟩
    have hpl : p ≤ l'.length := by have := HLc.out; have := HLe.out; omega
    have hpe : r.length - Ts.length = p := by omega
    have HPe := Lib.hid hpe
    have HPl := Lib.hid hpl
    have HRd := Lib.hid (lnread_raw HL6.out (by have := HLc.out; have := H2.out; omega) Tk Tn Tr Ti ao Ti.length cap p hpl)
    clear HO HG hpe
    go_wp2_with fail
    try rw [hp]
    refine HRd.out.mono ?_
    rintro e w7 ⟨rfl, ⟨v7, hv7⟩, hk7⟩
    have hx7 := hk7.2.2.1 _ _ _ HX6.out
    have hr7 := hk7.2.2.1 _ _ _ HXr6.out
    clear c0 c8 f0 f1 f2 f3 j0 j1 j2 j3 d0 d1 d2 d3
    obtain ⟨f0, f1, f2, f3⟩ := rec_free hx7
    obtain ⟨j0, j1, j2, j3⟩ := rec_reads hx7
    obtain ⟨d0, d1, d2, d3⟩ := rec_reads hr7
    have HF := Lib.hid (put_rec hx7 (.int .i64 Tk) (.int .i64 Tn) (.int .i64 Tr) (.slice ao Ti.length cap))
    have HKF := Lib.hid (lnkp_res (HK6.out.trans hk7) (Nat.le_refl _) hBW (.int .i64 Tk) (.int .i64 Tn) (.int .i64 Tr) (.slice ao Ti.length cap))
    have HSF := Lib.hid ((HSy6.out.keep hk7.2.1).keep (Keep.into (lninto4 w7 W.heap.size (.int .i64 Tk) (.int .i64 Tn) (.int .i64 Tr) (.slice ao Ti.length cap)) hx7 (by decide)))
    have hdr : l'.drop p ++ cm' = Ts := by
      have h := HDr.out
      rw [HPe.out, ← HCat.out, List.drop_append_of_le_length HPl.out] at h
      exact h
    have hsm : (l'.drop p).length + cm'.length = Ts.length := by rw [← hdr, List.length_append]
    have hlast : lnLast (L ++ [(⟨Tk, Tn, Tr, Ti⟩ : Rn)]) = ⟨Tk, Tn, Tr, Ti⟩ := lnl_snoc _ _
    have hln : IsLn ((((w7.setCell ⟨W.heap.size, 0, none⟩ (.int .i64 Tk)).setCell ⟨W.heap.size, 1, none⟩ (.int .i64 Tn)).setCell ⟨W.heap.size, 2, none⟩ (.int .i64 Tr)).setCell ⟨W.heap.size, 3, none⟩ (.slice ao Ti.length cap)) B b ⟨L ++ [(⟨Tk, Tn, Tr, Ti⟩ : Rn)], Ts, cl, 0⟩ := by
      refine ⟨lnc_snoc.2 ⟨H1.out, H6.out, HC.out.1, HZ.out⟩, by have := HRl.out; have := H2.out; show Ts.length ≤ _; omega, ?_⟩
      rcases hv7 with ⟨k6, hv⟩ | ⟨k6, hv⟩
      · refine ⟨[], [], v7, Ts.length, 0, ?_, .inl rfl, .inl ⟨.inr ?_, rfl, rfl, rfl⟩⟩
        · show LnRaw _ _ _ _ _ _ _ (lnLast (L ++ [(⟨Tk, Tn, Tr, Ti⟩ : Rn)])) _ _
          rw [hlast, ← hsm]
          exact raw_res hv hx7 _ _ _ _
        · show (lnLast (L ++ [(⟨Tk, Tn, Tr, Ti⟩ : Rn)])).k = 6
          rw [hlast]
          exact k6
      · refine ⟨l'.drop p, cm', v7, 0, 0, ?_, .inl rfl, .inr ⟨⟨rfl, ?_⟩, rfl, hdr.symm⟩⟩
        · show LnRaw _ _ _ _ _ _ _ (lnLast (L ++ [(⟨Tk, Tn, Tr, Ti⟩ : Rn)])) _ _
          rw [hlast]
          exact raw_res hv hx7 _ _ _ _
        · show (lnLast (L ++ [(⟨Tk, Tn, Tr, Ti⟩ : Rn)])).k ≠ 6
          rw [hlast]
          exact k6
    have HLN := Lib.hid hln
    have HLs := Lib.hid hlast
    clear hv7 hk7 hx7 hr7 hdr hsm hlast hln HRd
    go_wp2
    obtain ⟨i0, i1, i2, i3⟩ := rec_reads HF.out
    refine bodyPost_ret (v := .tuple #[.agg #[.int .i64 Tk, .int .i64 Tn, .int .i64 Tr, .slice ao Ti.length cap], .bool true, .int .i64 0]) (by simp [results, Try.results11, go_sem, i0, i1, i2, i3]) rfl ?_
    exact RetNx.yes (x := ⟨Tk, Tn, Tr, ao, Ti.length, cap⟩) HN.out (by show Say _ _ (lnLast (L ++ [(⟨Tk, Tn, Tr, Ti⟩ : Rn)])); rw [HLs.out]; exact HSF.out) HLN.out HKF.out

theorem lnnext_any {W : World} {B b : Nat} {s : LnS} (h : IsLn W B b s) (ht : s.rest.length ≤ 1000000) :
    Calls Try.prog 11 #[.pointer (some ⟨b, 0, none⟩)] W fun e W' => ∃ x : Rv, e = .returned (.tuple #[.agg #[.int .i64 x.k, .int .i64 x.n, .int .i64 x.r, .slice x.a x.len x.cap], .bool (lnNext s).2, .int .i64 (lnNext s).1.e]) ∧
      Say W' x (if (lnNext s).2 = true then lnLast (lnNext s).1.read else rn0) ∧ IsLn W' B b (lnNext s).1 ∧ LnKp B W W' := by
  obtain ⟨L, r, cl, y⟩ := s
  obtain ⟨h1, h2, l, cm, v, n, z, h3, h4⟩ := h
  show Calls Try.prog 11 #[.pointer (some ⟨b, 0, none⟩)] W (RetNx ⟨L, r, cl, y⟩ B b W)
  by_cases ho : z ≠ 0 ∨ (lnLast L).k = 6
  · exact lnnext_over h1 h2 h3 h4 ho
  · by_cases he : (tkR r).e = 0
    · exact lnnext_g h1 h2 h3 h4 ho he
    · exact lnnext_b h1 h2 h3 h4 ho he
end Go.Proofs.Ytjmaccflnfaiiaa
