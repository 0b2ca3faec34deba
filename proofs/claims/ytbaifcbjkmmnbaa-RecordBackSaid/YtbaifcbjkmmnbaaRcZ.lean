/-
  The law RecordBack: walked.
-/
import Derived.Test.YtbaifcbjkmmnbaaRcA
import Derived.Test.YtbaifcbjkmmnbaaRcX
import Derived.Test.YtbaifcbjkmmnbaaRcY
import Derived.Test.YtbaifcbjkmmnbaaMask
set_option linter.unusedSimpArgs false
set_option linter.unusedVariables false
namespace Go.Proofs.Ytbaifcbjkmmnbaa
open Go.RowKit

/-- Take of bytes that tell no record. -/
theorem take_err (s : List UInt8) (x : Int) (w : World) (hs : s.length ≤ 1000000000) (hx : (tkR s).e = x) (h : ¬ x = 0) :
    Calls Try.prog 11 #[.string ⟨s.toArray⟩] w fun e w' => ∃ ao cap, e = .returned (.tuple #[.agg #[.int .i64 0, .int .i64 0, .int .i64 0, .slice ao 0 cap], .int .i64 0, .int .i64 x]) ∧ Below w.heap.size w w' := by
  subst hx
  refine (rctake_any s w hs).mono ?_
  rw [tk_bad s h]
  rintro e w' ⟨ao, cap, rfl, _, hb⟩
  exact ⟨ao, cap, by simp [errR], hb⟩
/-- Take of what was put. -/
theorem take_of (k n r : Int) (ids : List Int) (z : List UInt8) (w : World) (hs : (putK k n r ids ++ z).length ≤ 1000000000) (h : okK k n r ids = true) :
    Calls Try.prog 11 #[.string ⟨(putK k n r ids ++ z).toArray⟩] w fun e w' => ∃ ao cap, e = .returned (.tuple #[.agg #[.int .i64 k, .int .i64 n, .int .i64 r, .slice ao ids.length cap], .int .i64 ((putK k n r ids).length : Int), .int .i64 0]) ∧ IsRow .i64 w' ao ids.length ids.length ids ∧ Below w.heap.size w w' := by
  refine (rctake_any _ w hs).mono ?_
  rw [rtk_put h z]
  rintro e w' ⟨ao, cap, rfl, hr, hb⟩
  refine ⟨ao, cap, ?_, hr, hb⟩
  simp only [List.length_append]
  rw [show (((putK k n r ids).length + z.length : Nat) : Int) - (z.length : Int) = ((putK k n r ids).length : Int) by omega]
/-- What is taken: a record that may be written, and these bytes are its own. -/
theorem take_is (s : List UInt8) (hs : s.length ≤ 1000000000) (h : (tkR s).e = 0) : ∃ (k n r : Int) (ids : List Int) (z : Nat), okK k n r ids = true ∧ ids.length ≤ 65535 ∧ 1 ≤ z ∧ z ≤ s.length ∧ putK k n r ids = s.take z ∧
    ∀ w, Calls Try.prog 11 #[.string ⟨s.toArray⟩] w fun e w' => ∃ ao cap, e = .returned (.tuple #[.agg #[.int .i64 k, .int .i64 n, .int .i64 r, .slice ao ids.length cap], .int .i64 (z : Int), .int .i64 0]) ∧ IsRow .i64 w' ao ids.length ids.length ids ∧ Below w.heap.size w w' := by
  obtain ⟨h1, h2⟩ := rtk_back h
  have hl : (putK (tkR s).k (tkR s).n (tkR s).r (tkR s).ids).length ≤ s.length := by have := congrArg List.length h2; rw [List.length_append] at this; omega
  refine ⟨(tkR s).k, (tkR s).n, (tkR s).r, (tkR s).ids, (putK (tkR s).k (tkR s).n (tkR s).r (tkR s).ids).length, h1, tk_ids_le s, by unfold putK; simp, hl, ?_, fun w => ?_⟩
  · have h3 := congrArg (List.take (putK (tkR s).k (tkR s).n (tkR s).r (tkR s).ids).length) h2
    rw [List.take_left] at h3
    exact h3
  · have := take_of (tkR s).k (tkR s).n (tkR s).r (tkR s).ids (tkR s).rest w (by rw [h2]; exact hs) h1
    rw [h2] at this
    exact this

set_option maxHeartbeats 1000000 in
theorem recBack_many (k n r : Int) (a : Option Addr) (L c : Nat) (s : ByteArray) (cut : Int) (w : World) (h : 100 < L) :
    Calls Try.prog 5 #[.agg #[.int .i64 k, .int .i64 n, .int .i64 r, .slice a L c], .string s, .int .i64 cut] w fun e w' => e = .returned (.bool true) ∧ Below w.heap.size w w' := by
  have hX1 := heap_alloc_new w (.cells #[.int .i64 k, .int .i64 n, .int .i64 r, .slice a L c] 24)
  have HB1 := Lib.hid ((Below.refl w.heap.size w).alloc (Nat.le_refl _) (.cells #[.int .i64 k, .int .i64 n, .int .i64 r, .slice a L c] 24))
  obtain ⟨c0, c1, c2, c3⟩ := rec_reads hX1
  have g : (100 : Int) < (L : Int) := by omega
  clear hX1
  go_enter Try.func5, Try.ntmps5
  go_wp2_with fail
  refine (rcawake_any _).mono ?_
  rintro e w1 ⟨rfl, hb1⟩
  have HB2 := Lib.hid (HB1.out.trans (hb1.mono (by simp)))
  go_wp2
  go_ret
  exact ⟨rfl, HB2.out⟩

set_option maxHeartbeats 1000000 in
theorem recBack_long (k n r : Int) (a : Option Addr) (L c : Nat) (s : ByteArray) (cut : Int) (w : World) (h : ¬ 100 < L) (h2 : 500 < s.size) (hs : s.size ≤ 9223372036854775807) :
    Calls Try.prog 5 #[.agg #[.int .i64 k, .int .i64 n, .int .i64 r, .slice a L c], .string s, .int .i64 cut] w fun e w' => e = .returned (.bool true) ∧ Below w.heap.size w w' := by
  have hX1 := heap_alloc_new w (.cells #[.int .i64 k, .int .i64 n, .int .i64 r, .slice a L c] 24)
  have HB1 := Lib.hid ((Below.refl w.heap.size w).alloc (Nat.le_refl _) (.cells #[.int .i64 k, .int .i64 n, .int .i64 r, .slice a L c] 24))
  obtain ⟨c0, c1, c2, c3⟩ := rec_reads hX1
  have g : ¬ (100 : Int) < (L : Int) := by omega
  have g2 : (500 : Int) < (s.size : Int) := by omega
  clear hX1
  go_enter Try.func5, Try.ntmps5
  go_wp2_with fail
  refine (rcawake_any _).mono ?_
  rintro e w1 ⟨rfl, hb1⟩
  have HB2 := Lib.hid (HB1.out.trans (hb1.mono (by simp)))
  go_wp2
  go_ret
  exact ⟨rfl, HB2.out⟩

set_option maxRecDepth 100000 in
set_option maxHeartbeats 4000000 in
theorem recBack_bad_err (k n r : Int) (a : Option Addr) (L c : Nat) (ids : List Int) (s : List UInt8) (cut : Int) (w : World) (hl : ids.length = L) (hL : ¬ 100 < L) (hr : IsRow .i64 w a L L ids) (hsl : s.length ≤ 500) (hok : okK k n r ids = false) (x : Int) (hx : (tkR s).e = x) (hx0 : ¬ x = 0) :
    Calls Try.prog 5 #[.agg #[.int .i64 k, .int .i64 n, .int .i64 r, .slice a L c], .string ⟨s.toArray⟩, .int .i64 cut] w fun e w' => e = .returned (.bool true) ∧ Below w.heap.size w w' := by
  have hX1 := heap_alloc_new w (.cells #[.int .i64 k, .int .i64 n, .int .i64 r, .slice a L c] 24)
  have hB1 := (Below.refl w.heap.size w).alloc (Nat.le_refl _) (.cells #[.int .i64 k, .int .i64 n, .int .i64 r, .slice a L c] 24)
  obtain ⟨w1, hw1⟩ : ∃ w1, w.alloc (.cells #[.int .i64 k, .int .i64 n, .int .i64 r, .slice a L c] 24) = w1 := ⟨_, rfl⟩
  rw [hw1] at hX1 hB1
  obtain ⟨c0, c1, c2, c3⟩ := rec_reads hX1
  have g : ¬ (100 : Int) < (L : Int) := by omega
  have g2 : ¬ (500 : Int) < (s.length : Int) := by omega
  have HX1 := Lib.hid hX1
  have HB1 := Lib.hid hB1
  have ZS := Lib.hid (bsize s)
  have HRw := Lib.hid (fun (W : World) (hW : Below w.heap.size w W) => hr.below hW)
  have HP := Lib.hid ((rcput_any k n r a L c ids w1 hl (by omega) (hr.below hB1)).mono (fun e w' h => retPk_pair h))
  rw [if_neg (by rw [hok]; decide), if_neg (by rw [hok]; decide)] at HP
  have HF := Lib.hid (fun W => take_err s x W (by omega) hx hx0)
  have gx : (x != 0) = true := by simpa using hx0
  clear hx hx0
  clear hX1 hB1 hr
  clear hok hl hL
  go_enter Try.func5, Try.ntmps5
  go_wp2_with fail
  try rw [hw1]
  refine HP.out.mono ?_
  rintro e w2 ⟨rfl, hb2⟩
  have HX2 := Lib.hid ((hb2.block w.heap.size (heap_lt HX1.out)).trans HX1.out)
  have HB2 := Lib.hid (HB1.out.trans (hb2.mono HB1.out.size))
  obtain ⟨d0, d1, d2, d3⟩ := rec_reads HX2.out
  clear c0 c1 c2 c3 hb2 HP
  go_wp2_with fail
  refine (HF.out _).mono ?_
  rintro e wa ⟨aa, ca, rfl, hba⟩
  have hbb := (Below.refl wa.heap.size wa).alloc (Nat.le_refl _) (.cells #[.int .i64 0, .int .i64 0, .int .i64 0, .slice aa 0 ca] 24)
  have HBb := Lib.hid (HB2.out.trans ((hba.trans (hbb.mono hba.size)).mono HB2.out.size))
  clear hba hbb HF
  go_wp2_with fail
  refine (rcawake_any _).mono ?_
  rintro e wc ⟨rfl, hbc⟩
  have HBc := Lib.hid (HBb.out.trans (hbc.mono HBb.out.size))
  clear hbc
  go_wp2
  go_ret
  exact ⟨rfl, HBc.out⟩

set_option maxRecDepth 100000 in
set_option maxHeartbeats 4000000 in
theorem recBack_bad_ok (k n r : Int) (a : Option Addr) (L c : Nat) (ids : List Int) (s : List UInt8) (cut : Int) (w : World) (hl : ids.length = L) (hL : ¬ 100 < L) (hr : IsRow .i64 w a L L ids) (hsl : s.length ≤ 500) (hok : okK k n r ids = false) (hx : (tkR s).e = 0) :
    Calls Try.prog 5 #[.agg #[.int .i64 k, .int .i64 n, .int .i64 r, .slice a L c], .string ⟨s.toArray⟩, .int .i64 cut] w fun e w' => e = .returned (.bool true) ∧ Below w.heap.size w w' := by
  have hX1 := heap_alloc_new w (.cells #[.int .i64 k, .int .i64 n, .int .i64 r, .slice a L c] 24)
  have hB1 := (Below.refl w.heap.size w).alloc (Nat.le_refl _) (.cells #[.int .i64 k, .int .i64 n, .int .i64 r, .slice a L c] 24)
  obtain ⟨w1, hw1⟩ : ∃ w1, w.alloc (.cells #[.int .i64 k, .int .i64 n, .int .i64 r, .slice a L c] 24) = w1 := ⟨_, rfl⟩
  rw [hw1] at hX1 hB1
  obtain ⟨c0, c1, c2, c3⟩ := rec_reads hX1
  have g : ¬ (100 : Int) < (L : Int) := by omega
  have g2 : ¬ (500 : Int) < (s.length : Int) := by omega
  have HX1 := Lib.hid hX1
  have HB1 := Lib.hid hB1
  have ZS := Lib.hid (bsize s)
  have HRw := Lib.hid (fun (W : World) (hW : Below w.heap.size w W) => hr.below hW)
  have HP := Lib.hid ((rcput_any k n r a L c ids w1 hl (by omega) (hr.below hB1)).mono (fun e w' h => retPk_pair h))
  rw [if_neg (by rw [hok]; decide), if_neg (by rw [hok]; decide)] at HP
  obtain ⟨k9, n9, r9, ids9, z9, ok9, hil, hz1, hz2, hp9, hT9⟩ := take_is s (by omega) hx
  have HF := Lib.hid hT9
  have HQ := Lib.hid (fun (W : World) (ao : Option Addr) (cap : Nat) (h : IsRow .i64 W ao ids9.length ids9.length ids9) => (rcput_any k9 n9 r9 ao ids9.length cap ids9 W rfl (by omega) h).mono (fun e w' h => retPk_pair h))
  rw [if_pos ok9, if_pos ok9, hp9] at HQ
  have x9 : (⟨s.toArray⟩ : ByteArray).extract 0 z9 = ⟨(s.take z9).toArray⟩ := by rw [ext_cut]; rfl
  generalize s.take z9 = S9 at HQ x9
  have e9 : (S9 == S9) = true := by simp
  have gz1 : (1 : Int) ≤ (z9 : Int) := by omega
  have gz2 : (z9 : Int) ≤ (s.length : Int) := by omega
  obtain ⟨l9, hl9⟩ : ∃ l, ids9.length = l := ⟨_, rfl⟩
  rw [hl9] at HF HQ
  clear hT9 ok9 hp9 hz1 hz2 hl9 hil
  clear hX1 hB1 hr
  clear hok hl hL
  go_enter Try.func5, Try.ntmps5
  go_wp2_with fail
  try rw [hw1]
  refine HP.out.mono ?_
  rintro e w2 ⟨rfl, hb2⟩
  have HX2 := Lib.hid ((hb2.block w.heap.size (heap_lt HX1.out)).trans HX1.out)
  have HB2 := Lib.hid (HB1.out.trans (hb2.mono HB1.out.size))
  obtain ⟨d0, d1, d2, d3⟩ := rec_reads HX2.out
  clear c0 c1 c2 c3 hb2 HP
  go_wp2_with fail
  refine (HF.out _).mono ?_
  rintro e wa ⟨aa, ca, rfl, hra, hba⟩
  have hNb := heap_alloc_new wa (.cells #[.int .i64 k9, .int .i64 n9, .int .i64 r9, .slice aa l9 ca] 24)
  have hbb := (Below.refl wa.heap.size wa).alloc (Nat.le_refl _) (.cells #[.int .i64 k9, .int .i64 n9, .int .i64 r9, .slice aa l9 ca] 24)
  obtain ⟨wb, hwb⟩ : ∃ wb, wa.alloc (.cells #[.int .i64 k9, .int .i64 n9, .int .i64 r9, .slice aa l9 ca] 24) = wb := ⟨_, rfl⟩
  rw [hwb] at hNb hbb
  obtain ⟨e0, e1, e2, e3⟩ := rec_reads hNb
  have HBb := Lib.hid (HB2.out.trans ((hba.trans (hbb.mono hba.size)).mono HB2.out.size))
  have HQb := Lib.hid (HQ.out wb aa ca (hra.below hbb))
  have HWb := Lib.hid hwb
  clear hba hbb hra hNb HF HQ
  go_wp2_with fail
  try rw [HWb.out]
  refine HQb.out.mono ?_
  rintro e wc ⟨rfl, hbc⟩
  have HBc := Lib.hid (HBb.out.trans (hbc.mono HBb.out.size))
  clear hbc e0 e1 e2 e3 hwb
  go_wp2_with fail
  refine (rcawake_any _).mono ?_
  rintro e wd ⟨rfl, hbd⟩
  have HBd := Lib.hid (HBc.out.trans (hbd.mono HBc.out.size))
  clear hbd
  go_wp2
  go_ret
  exact ⟨rfl, HBd.out⟩

set_option maxRecDepth 100000 in
set_option maxHeartbeats 4000000 in
theorem recBack_in_err (k n r : Int) (a : Option Addr) (L c : Nat) (ids : List Int) (s : List UInt8) (cut : Int) (w : World) (hl : ids.length = L) (hL : ¬ 100 < L) (hr : IsRow .i64 w a L L ids) (hsl : s.length ≤ 500) (hok : okK k n r ids = true) (d : Nat) (hmask : bits .and .i64 cut 1023 = (d : Int)) (hd : d < (putK k n r ids).length) (x : Int) (hx : (tkR s).e = x) (hx0 : ¬ x = 0) :
    Calls Try.prog 5 #[.agg #[.int .i64 k, .int .i64 n, .int .i64 r, .slice a L c], .string ⟨s.toArray⟩, .int .i64 cut] w fun e w' => e = .returned (.bool true) ∧ Below w.heap.size w w' := by
  have hX1 := heap_alloc_new w (.cells #[.int .i64 k, .int .i64 n, .int .i64 r, .slice a L c] 24)
  have hB1 := (Below.refl w.heap.size w).alloc (Nat.le_refl _) (.cells #[.int .i64 k, .int .i64 n, .int .i64 r, .slice a L c] 24)
  obtain ⟨w1, hw1⟩ : ∃ w1, w.alloc (.cells #[.int .i64 k, .int .i64 n, .int .i64 r, .slice a L c] 24) = w1 := ⟨_, rfl⟩
  rw [hw1] at hX1 hB1
  obtain ⟨c0, c1, c2, c3⟩ := rec_reads hX1
  have g : ¬ (100 : Int) < (L : Int) := by omega
  have g2 : ¬ (500 : Int) < (s.length : Int) := by omega
  have HX1 := Lib.hid hX1
  have HB1 := Lib.hid hB1
  have ZS := Lib.hid (bsize s)
  have HRw := Lib.hid (fun (W : World) (hW : Below w.heap.size w W) => hr.below hW)
  have HP := Lib.hid ((rcput_any k n r a L c ids w1 hl (by omega) (hr.below hB1)).mono (fun e w' h => retPk_pair h))
  rw [if_pos hok, if_pos hok] at HP
  have hva := vall_length _ (nums_64 hok).1
  have hnl : (numsL k n r ids).length ≤ 65536 := (nums_64 hok).2.1
  have hpl : (putK k n r ids).length ≤ 1000000 := by unfold putK; rw [List.length_cons]; omega
  have HT1 := Lib.hid (fun W => take_of k n r ids s W (by rw [List.length_append]; omega) hok)
  rw [hl] at HT1
  have hce := rtk_cut hok d hd
  have HT2 := Lib.hid (fun W => take_err ((putK k n r ids).take d) 4 W (by rw [List.length_take]; omega) hce (by decide))
  have x3 : (⟨(putK k n r ids).toArray⟩ : ByteArray).extract 0 d = ⟨((putK k n r ids).take d).toArray⟩ := by rw [ext_cut]; rfl
  generalize (putK k n r ids).take d = tc at HT2 x3
  clear hce
  have gd : (d : Int) < ((putK k n r ids).length : Int) := by omega
  have y1 := byte_cat (putK k n r ids) s
  have k1 : ¬ 9223372036854775807 < (putK k n r ids).length + s.length := by omega
  generalize putK k n r ids ++ s = ts at *
  generalize hS : putK k n r ids = S at *
  have ZP := Lib.hid (bsize S)
  have z1 : ((S.length : Int) == (S.length : Int)) = true := by simp
  clear hva hnl hpl hS
  have HF := Lib.hid (fun W => take_err s x W (by omega) hx hx0)
  have gx : (x != 0) = true := by simpa using hx0
  clear hx hx0
  clear hX1 hB1 hr
  clear hok hl hL hd
  go_enter Try.func5, Try.ntmps5
  go_wp2_with fail
  try rw [hw1]
  refine HP.out.mono ?_
  rintro e w2 ⟨rfl, hb2⟩
  have HX2 := Lib.hid ((hb2.block w.heap.size (heap_lt HX1.out)).trans HX1.out)
  have HB2 := Lib.hid (HB1.out.trans (hb2.mono HB1.out.size))
  obtain ⟨d0, d1, d2, d3⟩ := rec_reads HX2.out
  clear c0 c1 c2 c3 hb2 HP
  go_wp2_with fail
  try rw [y1]
  refine (HT1.out _).mono ?_
  rintro e w3 ⟨a3, c3', rfl, hr3, hb3⟩
  have hX3 := (hb3.block w.heap.size (heap_lt HX2.out)).trans HX2.out
  have hN4 := heap_alloc_new w3 (.cells #[.int .i64 k, .int .i64 n, .int .i64 r, .slice a3 L c3'] 24)
  have hb4 := (Below.refl w3.heap.size w3).alloc (Nat.le_refl _) (.cells #[.int .i64 k, .int .i64 n, .int .i64 r, .slice a3 L c3'] 24)
  have hX4 := (hb4.block w.heap.size (heap_lt hX3)).trans hX3
  obtain ⟨w4, hw4⟩ : ∃ w4, w3.alloc (.cells #[.int .i64 k, .int .i64 n, .int .i64 r, .slice a3 L c3'] 24) = w4 := ⟨_, rfl⟩
  rw [hw4] at hN4 hX4 hb4
  obtain ⟨e0, e1, e2, e3⟩ := rec_reads hN4
  obtain ⟨f0, f1, f2, f3⟩ := rec_reads hX4
  have HB4 := Lib.hid (HB2.out.trans ((hb3.trans (hb4.mono hb3.size)).mono HB2.out.size))
  have HS := Lib.hid (mgsame_any k n r L a3 a c3' c ids w4 (by omega) (hr3.below hb4) (HRw.out w4 HB4.out))
  have HW4 := Lib.hid hw4
  clear hr3 hb3 hX3 hN4 hX4 hb4 HT1 HRw d0 d1 d2 d3
  go_wp2_with fail
  try rw [HW4.out]
  refine HS.out.mono ?_
  rintro e w5 ⟨rfl, hb5⟩
  have HB5 := Lib.hid (HB4.out.trans (hb5.mono HB4.out.size))
  clear hb5 HS e0 e1 e2 e3 f0 f1 f2 f3 hw4
  go_wp2_with fail
  try rw [x3]
  refine (HT2.out _).mono ?_
  rintro e w6 ⟨a6, c6, rfl, hb6⟩
  have hN7 := heap_alloc_new w6 (.cells #[.int .i64 0, .int .i64 0, .int .i64 0, .slice a6 0 c6] 24)
  have hb7 := (Below.refl w6.heap.size w6).alloc (Nat.le_refl _) (.cells #[.int .i64 0, .int .i64 0, .int .i64 0, .slice a6 0 c6] 24)
  obtain ⟨w7, hw7⟩ : ∃ w7, w6.alloc (.cells #[.int .i64 0, .int .i64 0, .int .i64 0, .slice a6 0 c6] 24) = w7 := ⟨_, rfl⟩
  rw [hw7] at hN7 hb7
  obtain ⟨e0, e1, e2, e3⟩ := rec_reads hN7
  have HB7 := Lib.hid (HB5.out.trans ((hb6.trans (hb7.mono hb6.size)).mono HB5.out.size))
  have HS := Lib.hid (mgsame_any 0 0 0 0 a6 none c6 0 [] w7 (by omega) (.inl rfl) (.inl rfl))
  have HW7 := Lib.hid hw7
  clear hb6 hN7 hb7 HT2
  go_wp2_with fail
  try rw [HW7.out]
  refine HS.out.mono ?_
  rintro e w8 ⟨rfl, hb8⟩
  have HB8 := Lib.hid (HB7.out.trans (hb8.mono HB7.out.size))
  clear hb8 HS e0 e1 e2 e3 hw7
  go_wp2_with fail
  refine (HF.out _).mono ?_
  rintro e wa ⟨aa, ca, rfl, hba⟩
  have hbb := (Below.refl wa.heap.size wa).alloc (Nat.le_refl _) (.cells #[.int .i64 0, .int .i64 0, .int .i64 0, .slice aa 0 ca] 24)
  have HBb := Lib.hid (HB8.out.trans ((hba.trans (hbb.mono hba.size)).mono HB8.out.size))
  clear hba hbb HF
  go_wp2_with fail
  refine (rcawake_any _).mono ?_
  rintro e wc ⟨rfl, hbc⟩
  have HBc := Lib.hid (HBb.out.trans (hbc.mono HBb.out.size))
  clear hbc
  go_wp2
  go_ret
  exact ⟨rfl, HBc.out⟩

set_option maxRecDepth 100000 in
set_option maxHeartbeats 4000000 in
theorem recBack_in_ok (k n r : Int) (a : Option Addr) (L c : Nat) (ids : List Int) (s : List UInt8) (cut : Int) (w : World) (hl : ids.length = L) (hL : ¬ 100 < L) (hr : IsRow .i64 w a L L ids) (hsl : s.length ≤ 500) (hok : okK k n r ids = true) (d : Nat) (hmask : bits .and .i64 cut 1023 = (d : Int)) (hd : d < (putK k n r ids).length) (hx : (tkR s).e = 0) :
    Calls Try.prog 5 #[.agg #[.int .i64 k, .int .i64 n, .int .i64 r, .slice a L c], .string ⟨s.toArray⟩, .int .i64 cut] w fun e w' => e = .returned (.bool true) ∧ Below w.heap.size w w' := by
  have hX1 := heap_alloc_new w (.cells #[.int .i64 k, .int .i64 n, .int .i64 r, .slice a L c] 24)
  have hB1 := (Below.refl w.heap.size w).alloc (Nat.le_refl _) (.cells #[.int .i64 k, .int .i64 n, .int .i64 r, .slice a L c] 24)
  obtain ⟨w1, hw1⟩ : ∃ w1, w.alloc (.cells #[.int .i64 k, .int .i64 n, .int .i64 r, .slice a L c] 24) = w1 := ⟨_, rfl⟩
  rw [hw1] at hX1 hB1
  obtain ⟨c0, c1, c2, c3⟩ := rec_reads hX1
  have g : ¬ (100 : Int) < (L : Int) := by omega
  have g2 : ¬ (500 : Int) < (s.length : Int) := by omega
  have HX1 := Lib.hid hX1
  have HB1 := Lib.hid hB1
  have ZS := Lib.hid (bsize s)
  have HRw := Lib.hid (fun (W : World) (hW : Below w.heap.size w W) => hr.below hW)
  have HP := Lib.hid ((rcput_any k n r a L c ids w1 hl (by omega) (hr.below hB1)).mono (fun e w' h => retPk_pair h))
  rw [if_pos hok, if_pos hok] at HP
  have hva := vall_length _ (nums_64 hok).1
  have hnl : (numsL k n r ids).length ≤ 65536 := (nums_64 hok).2.1
  have hpl : (putK k n r ids).length ≤ 1000000 := by unfold putK; rw [List.length_cons]; omega
  have HT1 := Lib.hid (fun W => take_of k n r ids s W (by rw [List.length_append]; omega) hok)
  rw [hl] at HT1
  have hce := rtk_cut hok d hd
  have HT2 := Lib.hid (fun W => take_err ((putK k n r ids).take d) 4 W (by rw [List.length_take]; omega) hce (by decide))
  have x3 : (⟨(putK k n r ids).toArray⟩ : ByteArray).extract 0 d = ⟨((putK k n r ids).take d).toArray⟩ := by rw [ext_cut]; rfl
  generalize (putK k n r ids).take d = tc at HT2 x3
  clear hce
  have gd : (d : Int) < ((putK k n r ids).length : Int) := by omega
  have y1 := byte_cat (putK k n r ids) s
  have k1 : ¬ 9223372036854775807 < (putK k n r ids).length + s.length := by omega
  generalize putK k n r ids ++ s = ts at *
  generalize hS : putK k n r ids = S at *
  have ZP := Lib.hid (bsize S)
  have z1 : ((S.length : Int) == (S.length : Int)) = true := by simp
  clear hva hnl hpl hS
  obtain ⟨k9, n9, r9, ids9, z9, ok9, hil, hz1, hz2, hp9, hT9⟩ := take_is s (by omega) hx
  have HF := Lib.hid hT9
  have HQ := Lib.hid (fun (W : World) (ao : Option Addr) (cap : Nat) (h : IsRow .i64 W ao ids9.length ids9.length ids9) => (rcput_any k9 n9 r9 ao ids9.length cap ids9 W rfl (by omega) h).mono (fun e w' h => retPk_pair h))
  rw [if_pos ok9, if_pos ok9, hp9] at HQ
  have x9 : (⟨s.toArray⟩ : ByteArray).extract 0 z9 = ⟨(s.take z9).toArray⟩ := by rw [ext_cut]; rfl
  generalize s.take z9 = S9 at HQ x9
  have e9 : (S9 == S9) = true := by simp
  have gz1 : (1 : Int) ≤ (z9 : Int) := by omega
  have gz2 : (z9 : Int) ≤ (s.length : Int) := by omega
  obtain ⟨l9, hl9⟩ : ∃ l, ids9.length = l := ⟨_, rfl⟩
  rw [hl9] at HF HQ
  clear hT9 ok9 hp9 hz1 hz2 hl9 hil
  clear hX1 hB1 hr
  clear hok hl hL hd
  go_enter Try.func5, Try.ntmps5
  go_wp2_with fail
  try rw [hw1]
  refine HP.out.mono ?_
  rintro e w2 ⟨rfl, hb2⟩
  have HX2 := Lib.hid ((hb2.block w.heap.size (heap_lt HX1.out)).trans HX1.out)
  have HB2 := Lib.hid (HB1.out.trans (hb2.mono HB1.out.size))
  obtain ⟨d0, d1, d2, d3⟩ := rec_reads HX2.out
  clear c0 c1 c2 c3 hb2 HP
  go_wp2_with fail
  try rw [y1]
  refine (HT1.out _).mono ?_
  rintro e w3 ⟨a3, c3', rfl, hr3, hb3⟩
  have hX3 := (hb3.block w.heap.size (heap_lt HX2.out)).trans HX2.out
  have hN4 := heap_alloc_new w3 (.cells #[.int .i64 k, .int .i64 n, .int .i64 r, .slice a3 L c3'] 24)
  have hb4 := (Below.refl w3.heap.size w3).alloc (Nat.le_refl _) (.cells #[.int .i64 k, .int .i64 n, .int .i64 r, .slice a3 L c3'] 24)
  have hX4 := (hb4.block w.heap.size (heap_lt hX3)).trans hX3
  obtain ⟨w4, hw4⟩ : ∃ w4, w3.alloc (.cells #[.int .i64 k, .int .i64 n, .int .i64 r, .slice a3 L c3'] 24) = w4 := ⟨_, rfl⟩
  rw [hw4] at hN4 hX4 hb4
  obtain ⟨e0, e1, e2, e3⟩ := rec_reads hN4
  obtain ⟨f0, f1, f2, f3⟩ := rec_reads hX4
  have HB4 := Lib.hid (HB2.out.trans ((hb3.trans (hb4.mono hb3.size)).mono HB2.out.size))
  have HS := Lib.hid (mgsame_any k n r L a3 a c3' c ids w4 (by omega) (hr3.below hb4) (HRw.out w4 HB4.out))
  have HW4 := Lib.hid hw4
  clear hr3 hb3 hX3 hN4 hX4 hb4 HT1 HRw d0 d1 d2 d3
  go_wp2_with fail
  try rw [HW4.out]
  refine HS.out.mono ?_
  rintro e w5 ⟨rfl, hb5⟩
  have HB5 := Lib.hid (HB4.out.trans (hb5.mono HB4.out.size))
  clear hb5 HS e0 e1 e2 e3 f0 f1 f2 f3 hw4
  go_wp2_with fail
  try rw [x3]
  refine (HT2.out _).mono ?_
  rintro e w6 ⟨a6, c6, rfl, hb6⟩
  have hN7 := heap_alloc_new w6 (.cells #[.int .i64 0, .int .i64 0, .int .i64 0, .slice a6 0 c6] 24)
  have hb7 := (Below.refl w6.heap.size w6).alloc (Nat.le_refl _) (.cells #[.int .i64 0, .int .i64 0, .int .i64 0, .slice a6 0 c6] 24)
  obtain ⟨w7, hw7⟩ : ∃ w7, w6.alloc (.cells #[.int .i64 0, .int .i64 0, .int .i64 0, .slice a6 0 c6] 24) = w7 := ⟨_, rfl⟩
  rw [hw7] at hN7 hb7
  obtain ⟨e0, e1, e2, e3⟩ := rec_reads hN7
  have HB7 := Lib.hid (HB5.out.trans ((hb6.trans (hb7.mono hb6.size)).mono HB5.out.size))
  have HS := Lib.hid (mgsame_any 0 0 0 0 a6 none c6 0 [] w7 (by omega) (.inl rfl) (.inl rfl))
  have HW7 := Lib.hid hw7
  clear hb6 hN7 hb7 HT2
  go_wp2_with fail
  try rw [HW7.out]
  refine HS.out.mono ?_
  rintro e w8 ⟨rfl, hb8⟩
  have HB8 := Lib.hid (HB7.out.trans (hb8.mono HB7.out.size))
  clear hb8 HS e0 e1 e2 e3 hw7
  go_wp2_with fail
  refine (HF.out _).mono ?_
  rintro e wa ⟨aa, ca, rfl, hra, hba⟩
  have hNb := heap_alloc_new wa (.cells #[.int .i64 k9, .int .i64 n9, .int .i64 r9, .slice aa l9 ca] 24)
  have hbb := (Below.refl wa.heap.size wa).alloc (Nat.le_refl _) (.cells #[.int .i64 k9, .int .i64 n9, .int .i64 r9, .slice aa l9 ca] 24)
  obtain ⟨wb, hwb⟩ : ∃ wb, wa.alloc (.cells #[.int .i64 k9, .int .i64 n9, .int .i64 r9, .slice aa l9 ca] 24) = wb := ⟨_, rfl⟩
  rw [hwb] at hNb hbb
  obtain ⟨e0, e1, e2, e3⟩ := rec_reads hNb
  have HBb := Lib.hid (HB8.out.trans ((hba.trans (hbb.mono hba.size)).mono HB8.out.size))
  have HQb := Lib.hid (HQ.out wb aa ca (hra.below hbb))
  have HWb := Lib.hid hwb
  clear hba hbb hra hNb HF HQ
  go_wp2_with fail
  try rw [HWb.out]
  refine HQb.out.mono ?_
  rintro e wc ⟨rfl, hbc⟩
  have HBc := Lib.hid (HBb.out.trans (hbc.mono HBb.out.size))
  clear hbc e0 e1 e2 e3 hwb
  go_wp2_with fail
  refine (rcawake_any _).mono ?_
  rintro e wd ⟨rfl, hbd⟩
  have HBd := Lib.hid (HBc.out.trans (hbd.mono HBc.out.size))
  clear hbd
  go_wp2
  go_ret
  exact ⟨rfl, HBd.out⟩

set_option maxRecDepth 100000 in
set_option maxHeartbeats 4000000 in
theorem recBack_out_err (k n r : Int) (a : Option Addr) (L c : Nat) (ids : List Int) (s : List UInt8) (cut : Int) (w : World) (hl : ids.length = L) (hL : ¬ 100 < L) (hr : IsRow .i64 w a L L ids) (hsl : s.length ≤ 500) (hok : okK k n r ids = true) (d : Nat) (hmask : bits .and .i64 cut 1023 = (d : Int)) (hd : ¬ d < (putK k n r ids).length) (x : Int) (hx : (tkR s).e = x) (hx0 : ¬ x = 0) :
    Calls Try.prog 5 #[.agg #[.int .i64 k, .int .i64 n, .int .i64 r, .slice a L c], .string ⟨s.toArray⟩, .int .i64 cut] w fun e w' => e = .returned (.bool true) ∧ Below w.heap.size w w' := by
  have hX1 := heap_alloc_new w (.cells #[.int .i64 k, .int .i64 n, .int .i64 r, .slice a L c] 24)
  have hB1 := (Below.refl w.heap.size w).alloc (Nat.le_refl _) (.cells #[.int .i64 k, .int .i64 n, .int .i64 r, .slice a L c] 24)
  obtain ⟨w1, hw1⟩ : ∃ w1, w.alloc (.cells #[.int .i64 k, .int .i64 n, .int .i64 r, .slice a L c] 24) = w1 := ⟨_, rfl⟩
  rw [hw1] at hX1 hB1
  obtain ⟨c0, c1, c2, c3⟩ := rec_reads hX1
  have g : ¬ (100 : Int) < (L : Int) := by omega
  have g2 : ¬ (500 : Int) < (s.length : Int) := by omega
  have HX1 := Lib.hid hX1
  have HB1 := Lib.hid hB1
  have ZS := Lib.hid (bsize s)
  have HRw := Lib.hid (fun (W : World) (hW : Below w.heap.size w W) => hr.below hW)
  have HP := Lib.hid ((rcput_any k n r a L c ids w1 hl (by omega) (hr.below hB1)).mono (fun e w' h => retPk_pair h))
  rw [if_pos hok, if_pos hok] at HP
  have hva := vall_length _ (nums_64 hok).1
  have hnl : (numsL k n r ids).length ≤ 65536 := (nums_64 hok).2.1
  have hpl : (putK k n r ids).length ≤ 1000000 := by unfold putK; rw [List.length_cons]; omega
  have HT1 := Lib.hid (fun W => take_of k n r ids s W (by rw [List.length_append]; omega) hok)
  rw [hl] at HT1
  have gd : ¬ (d : Int) < ((putK k n r ids).length : Int) := by omega
  have y1 := byte_cat (putK k n r ids) s
  have k1 : ¬ 9223372036854775807 < (putK k n r ids).length + s.length := by omega
  generalize putK k n r ids ++ s = ts at *
  generalize hS : putK k n r ids = S at *
  have ZP := Lib.hid (bsize S)
  have z1 : ((S.length : Int) == (S.length : Int)) = true := by simp
  clear hva hnl hpl hS
  have HF := Lib.hid (fun W => take_err s x W (by omega) hx hx0)
  have gx : (x != 0) = true := by simpa using hx0
  clear hx hx0
  clear hX1 hB1 hr
  clear hok hl hL hd
  go_enter Try.func5, Try.ntmps5
  go_wp2_with fail
  try rw [hw1]
  refine HP.out.mono ?_
  rintro e w2 ⟨rfl, hb2⟩
  have HX2 := Lib.hid ((hb2.block w.heap.size (heap_lt HX1.out)).trans HX1.out)
  have HB2 := Lib.hid (HB1.out.trans (hb2.mono HB1.out.size))
  obtain ⟨d0, d1, d2, d3⟩ := rec_reads HX2.out
  clear c0 c1 c2 c3 hb2 HP
  go_wp2_with fail
  try rw [y1]
  refine (HT1.out _).mono ?_
  rintro e w3 ⟨a3, c3', rfl, hr3, hb3⟩
  have hX3 := (hb3.block w.heap.size (heap_lt HX2.out)).trans HX2.out
  have hN4 := heap_alloc_new w3 (.cells #[.int .i64 k, .int .i64 n, .int .i64 r, .slice a3 L c3'] 24)
  have hb4 := (Below.refl w3.heap.size w3).alloc (Nat.le_refl _) (.cells #[.int .i64 k, .int .i64 n, .int .i64 r, .slice a3 L c3'] 24)
  have hX4 := (hb4.block w.heap.size (heap_lt hX3)).trans hX3
  obtain ⟨w4, hw4⟩ : ∃ w4, w3.alloc (.cells #[.int .i64 k, .int .i64 n, .int .i64 r, .slice a3 L c3'] 24) = w4 := ⟨_, rfl⟩
  rw [hw4] at hN4 hX4 hb4
  obtain ⟨e0, e1, e2, e3⟩ := rec_reads hN4
  obtain ⟨f0, f1, f2, f3⟩ := rec_reads hX4
  have HB4 := Lib.hid (HB2.out.trans ((hb3.trans (hb4.mono hb3.size)).mono HB2.out.size))
  have HS := Lib.hid (mgsame_any k n r L a3 a c3' c ids w4 (by omega) (hr3.below hb4) (HRw.out w4 HB4.out))
  have HW4 := Lib.hid hw4
  clear hr3 hb3 hX3 hN4 hX4 hb4 HT1 HRw d0 d1 d2 d3
  go_wp2_with fail
  try rw [HW4.out]
  refine HS.out.mono ?_
  rintro e w5 ⟨rfl, hb5⟩
  have HB5 := Lib.hid (HB4.out.trans (hb5.mono HB4.out.size))
  clear hb5 HS e0 e1 e2 e3 f0 f1 f2 f3 hw4
  go_wp2_with fail
  refine (HF.out _).mono ?_
  rintro e wa ⟨aa, ca, rfl, hba⟩
  have hbb := (Below.refl wa.heap.size wa).alloc (Nat.le_refl _) (.cells #[.int .i64 0, .int .i64 0, .int .i64 0, .slice aa 0 ca] 24)
  have HBb := Lib.hid (HB5.out.trans ((hba.trans (hbb.mono hba.size)).mono HB5.out.size))
  clear hba hbb HF
  go_wp2_with fail
  refine (rcawake_any _).mono ?_
  rintro e wc ⟨rfl, hbc⟩
  have HBc := Lib.hid (HBb.out.trans (hbc.mono HBb.out.size))
  clear hbc
  go_wp2
  go_ret
  exact ⟨rfl, HBc.out⟩

set_option maxRecDepth 100000 in
set_option maxHeartbeats 4000000 in
theorem recBack_out_ok (k n r : Int) (a : Option Addr) (L c : Nat) (ids : List Int) (s : List UInt8) (cut : Int) (w : World) (hl : ids.length = L) (hL : ¬ 100 < L) (hr : IsRow .i64 w a L L ids) (hsl : s.length ≤ 500) (hok : okK k n r ids = true) (d : Nat) (hmask : bits .and .i64 cut 1023 = (d : Int)) (hd : ¬ d < (putK k n r ids).length) (hx : (tkR s).e = 0) :
    Calls Try.prog 5 #[.agg #[.int .i64 k, .int .i64 n, .int .i64 r, .slice a L c], .string ⟨s.toArray⟩, .int .i64 cut] w fun e w' => e = .returned (.bool true) ∧ Below w.heap.size w w' := by
  have hX1 := heap_alloc_new w (.cells #[.int .i64 k, .int .i64 n, .int .i64 r, .slice a L c] 24)
  have hB1 := (Below.refl w.heap.size w).alloc (Nat.le_refl _) (.cells #[.int .i64 k, .int .i64 n, .int .i64 r, .slice a L c] 24)
  obtain ⟨w1, hw1⟩ : ∃ w1, w.alloc (.cells #[.int .i64 k, .int .i64 n, .int .i64 r, .slice a L c] 24) = w1 := ⟨_, rfl⟩
  rw [hw1] at hX1 hB1
  obtain ⟨c0, c1, c2, c3⟩ := rec_reads hX1
  have g : ¬ (100 : Int) < (L : Int) := by omega
  have g2 : ¬ (500 : Int) < (s.length : Int) := by omega
  have HX1 := Lib.hid hX1
  have HB1 := Lib.hid hB1
  have ZS := Lib.hid (bsize s)
  have HRw := Lib.hid (fun (W : World) (hW : Below w.heap.size w W) => hr.below hW)
  have HP := Lib.hid ((rcput_any k n r a L c ids w1 hl (by omega) (hr.below hB1)).mono (fun e w' h => retPk_pair h))
  rw [if_pos hok, if_pos hok] at HP
  have hva := vall_length _ (nums_64 hok).1
  have hnl : (numsL k n r ids).length ≤ 65536 := (nums_64 hok).2.1
  have hpl : (putK k n r ids).length ≤ 1000000 := by unfold putK; rw [List.length_cons]; omega
  have HT1 := Lib.hid (fun W => take_of k n r ids s W (by rw [List.length_append]; omega) hok)
  rw [hl] at HT1
  have gd : ¬ (d : Int) < ((putK k n r ids).length : Int) := by omega
  have y1 := byte_cat (putK k n r ids) s
  have k1 : ¬ 9223372036854775807 < (putK k n r ids).length + s.length := by omega
  generalize putK k n r ids ++ s = ts at *
  generalize hS : putK k n r ids = S at *
  have ZP := Lib.hid (bsize S)
  have z1 : ((S.length : Int) == (S.length : Int)) = true := by simp
  clear hva hnl hpl hS
  obtain ⟨k9, n9, r9, ids9, z9, ok9, hil, hz1, hz2, hp9, hT9⟩ := take_is s (by omega) hx
  have HF := Lib.hid hT9
  have HQ := Lib.hid (fun (W : World) (ao : Option Addr) (cap : Nat) (h : IsRow .i64 W ao ids9.length ids9.length ids9) => (rcput_any k9 n9 r9 ao ids9.length cap ids9 W rfl (by omega) h).mono (fun e w' h => retPk_pair h))
  rw [if_pos ok9, if_pos ok9, hp9] at HQ
  have x9 : (⟨s.toArray⟩ : ByteArray).extract 0 z9 = ⟨(s.take z9).toArray⟩ := by rw [ext_cut]; rfl
  generalize s.take z9 = S9 at HQ x9
  have e9 : (S9 == S9) = true := by simp
  have gz1 : (1 : Int) ≤ (z9 : Int) := by omega
  have gz2 : (z9 : Int) ≤ (s.length : Int) := by omega
  obtain ⟨l9, hl9⟩ : ∃ l, ids9.length = l := ⟨_, rfl⟩
  rw [hl9] at HF HQ
  clear hT9 ok9 hp9 hz1 hz2 hl9 hil
  clear hX1 hB1 hr
  clear hok hl hL hd
  go_enter Try.func5, Try.ntmps5
  go_wp2_with fail
  try rw [hw1]
  refine HP.out.mono ?_
  rintro e w2 ⟨rfl, hb2⟩
  have HX2 := Lib.hid ((hb2.block w.heap.size (heap_lt HX1.out)).trans HX1.out)
  have HB2 := Lib.hid (HB1.out.trans (hb2.mono HB1.out.size))
  obtain ⟨d0, d1, d2, d3⟩ := rec_reads HX2.out
  clear c0 c1 c2 c3 hb2 HP
  go_wp2_with fail
  try rw [y1]
  refine (HT1.out _).mono ?_
  rintro e w3 ⟨a3, c3', rfl, hr3, hb3⟩
  have hX3 := (hb3.block w.heap.size (heap_lt HX2.out)).trans HX2.out
  have hN4 := heap_alloc_new w3 (.cells #[.int .i64 k, .int .i64 n, .int .i64 r, .slice a3 L c3'] 24)
  have hb4 := (Below.refl w3.heap.size w3).alloc (Nat.le_refl _) (.cells #[.int .i64 k, .int .i64 n, .int .i64 r, .slice a3 L c3'] 24)
  have hX4 := (hb4.block w.heap.size (heap_lt hX3)).trans hX3
  obtain ⟨w4, hw4⟩ : ∃ w4, w3.alloc (.cells #[.int .i64 k, .int .i64 n, .int .i64 r, .slice a3 L c3'] 24) = w4 := ⟨_, rfl⟩
  rw [hw4] at hN4 hX4 hb4
  obtain ⟨e0, e1, e2, e3⟩ := rec_reads hN4
  obtain ⟨f0, f1, f2, f3⟩ := rec_reads hX4
  have HB4 := Lib.hid (HB2.out.trans ((hb3.trans (hb4.mono hb3.size)).mono HB2.out.size))
  have HS := Lib.hid (mgsame_any k n r L a3 a c3' c ids w4 (by omega) (hr3.below hb4) (HRw.out w4 HB4.out))
  have HW4 := Lib.hid hw4
  clear hr3 hb3 hX3 hN4 hX4 hb4 HT1 HRw d0 d1 d2 d3
  go_wp2_with fail
  try rw [HW4.out]
  refine HS.out.mono ?_
  rintro e w5 ⟨rfl, hb5⟩
  have HB5 := Lib.hid (HB4.out.trans (hb5.mono HB4.out.size))
  clear hb5 HS e0 e1 e2 e3 f0 f1 f2 f3 hw4
  go_wp2_with fail
  refine (HF.out _).mono ?_
  rintro e wa ⟨aa, ca, rfl, hra, hba⟩
  have hNb := heap_alloc_new wa (.cells #[.int .i64 k9, .int .i64 n9, .int .i64 r9, .slice aa l9 ca] 24)
  have hbb := (Below.refl wa.heap.size wa).alloc (Nat.le_refl _) (.cells #[.int .i64 k9, .int .i64 n9, .int .i64 r9, .slice aa l9 ca] 24)
  obtain ⟨wb, hwb⟩ : ∃ wb, wa.alloc (.cells #[.int .i64 k9, .int .i64 n9, .int .i64 r9, .slice aa l9 ca] 24) = wb := ⟨_, rfl⟩
  rw [hwb] at hNb hbb
  obtain ⟨e0, e1, e2, e3⟩ := rec_reads hNb
  have HBb := Lib.hid (HB5.out.trans ((hba.trans (hbb.mono hba.size)).mono HB5.out.size))
  have HQb := Lib.hid (HQ.out wb aa ca (hra.below hbb))
  have HWb := Lib.hid hwb
  clear hba hbb hra hNb HF HQ
  go_wp2_with fail
  try rw [HWb.out]
  refine HQb.out.mono ?_
  rintro e wc ⟨rfl, hbc⟩
  have HBc := Lib.hid (HBb.out.trans (hbc.mono HBb.out.size))
  clear hbc e0 e1 e2 e3 hwb
  go_wp2_with fail
  refine (rcawake_any _).mono ?_
  rintro e wd ⟨rfl, hbd⟩
  have HBd := Lib.hid (HBc.out.trans (hbd.mono HBc.out.size))
  clear hbd
  go_wp2
  go_ret
  exact ⟨rfl, HBd.out⟩

theorem recordBack_walk (k n r : Int) (a : Option Addr) (L c : Nat) (zs : List Int) (s : ByteArray) (cut : Int) (w : World) (h : IsRow .i64 w a L c zs) (hs : s.size ≤ 9223372036854775807) :
    Calls Try.prog 5 #[.agg #[.int .i64 k, .int .i64 n, .int .i64 r, .slice a L c], .string s, .int .i64 cut] w fun e w' => e = .returned (.bool true) ∧ Below w.heap.size w w' := by
  by_cases hL : 100 < L
  · exact recBack_many k n r a L c s cut w hL
  · by_cases h2 : 500 < s.size
    · exact recBack_long k n r a L c s cut w hL h2 hs
    · obtain ⟨ids, hl, hr⟩ := row_cut h
      have e : s = ⟨s.data.toList.toArray⟩ := by simp
      have hsl : s.data.toList.length ≤ 500 := by
        have : s.size = s.data.toList.length := Lib.size_eq _
        omega
      rw [e]
      obtain ⟨d, _, hm⟩ := mask_at cut 1023 (by omega)
      have hm2 : bits .and .i64 cut 1023 = (d : Int) := hm
      by_cases hx : (tkR s.data.toList).e = 0
      · cases hok : okK k n r ids with
        | false => exact recBack_bad_ok k n r a L c ids s.data.toList cut w hl hL hr hsl hok hx
        | true =>
          by_cases hd : d < (putK k n r ids).length
          · exact recBack_in_ok k n r a L c ids s.data.toList cut w hl hL hr hsl hok d hm2 hd hx
          · exact recBack_out_ok k n r a L c ids s.data.toList cut w hl hL hr hsl hok d hm2 hd hx
      · cases hok : okK k n r ids with
        | false => exact recBack_bad_err k n r a L c ids s.data.toList cut w hl hL hr hsl hok _ rfl hx
        | true =>
          by_cases hd : d < (putK k n r ids).length
          · exact recBack_in_err k n r a L c ids s.data.toList cut w hl hL hr hsl hok d hm2 hd _ rfl hx
          · exact recBack_out_err k n r a L c ids s.data.toList cut w hl hL hr hsl hok d hm2 hd _ rfl hx
end Go.Proofs.Ytbaifcbjkmmnbaa
