/-
  The law's 'awake' of layer 8; the laws BorderTells and BorderMeets: walked.
-/
import Derived.Test.YtiaepggjgmmdlaaBdC
import Derived.Test.YtiaepggjgmmdlaaBdD
import Derived.Test.YtiaepggjgmmdlaaBdS
set_option linter.unusedSimpArgs false
set_option linter.unusedVariables false
namespace Go.Proofs.Ytiaepggjgmmdlaa
open Go.RowKit

theorem tab_ex : tabQ [97, 98, 97, 98] (([97, 98, 97, 98] : List UInt8).length + 1) = [0, 0, 0, 1, 2] := by decide +kernel
theorem all_ex : dn (bd [97, 97, 97]) (([97, 97, 97] : List UInt8).length - 1) = [2, 1] := by decide +kernel
theorem reach_ex : endK [97, 98, 99] [120, 97, 98] = 2 := by decide +kernel
theorem find_ex : fndB [97, 97, 97] [97, 97] = [0, 1] := by decide +kernel
theorem per_ex : per [97, 98, 97, 98] = 2 := by decide +kernel

set_option maxHeartbeats 1000000 in
theorem bdawake_any (w : World) :
    Calls Try.prog 6 #[] w fun e w' => e = .returned (.bool true) ∧ Below w.heap.size w w' := by
  have h1 := table_any [97, 98, 97, 98] w (by simp)
  rw [tab_ex] at h1
  have H1 := Lib.hid h1
  have H2 : Hid (∀ w, Calls Try.prog 10 #[.string ⟨#[97, 97, 97]⟩] w (RetI [2, 1] w)) := Lib.hid (fun w => by
    have := ball_any [97, 97, 97] w (by simp)
    rw [all_ex] at this
    exact this)
  have H3 : Hid (∀ w, Calls Try.prog 16 #[.string ⟨#[120, 97, 98]⟩, .string ⟨#[97, 98, 99]⟩] w fun e w' => e = .returned (.int .i64 2) ∧ Below w.heap.size w w') := Lib.hid (fun w => by
    have := reach_any [120, 97, 98] [97, 98, 99] w (by simp) (by simp)
    rw [reach_ex] at this
    exact this)
  have H4 : Hid (∀ w, Calls Try.prog 18 #[.string ⟨#[97, 97, 97]⟩, .string ⟨#[97, 97]⟩] w (RetI [0, 1] w)) := Lib.hid (fun w => by
    have := find_any [97, 97, 97] [97, 97] w (by simp) (by simp)
    rw [find_ex] at this
    exact this)
  have H5 : Hid (∀ w, Calls Try.prog 12 #[.string ⟨#[97, 98, 97, 98]⟩] w fun e w' => e = .returned (.int .i64 2) ∧ Below w.heap.size w w') := Lib.hid (fun w => by
    have := period_any [97, 98, 97, 98] w (by simp)
    rw [per_ex] at this
    exact this)
  clear h1
  go_enter Try.func6, Try.ntmps6
  go_wp2_with fail
  refine H1.out.mono ?_
  rintro e w1 ⟨a1, cap1, rfl, hr1, hb1⟩
  have hs1 := hb1.size
  have c1 : Below w1.heap.size w1 (w1.alloc (.cells #[.int .i64 0, .int .i64 0, .int .i64 0, .int .i64 1, .int .i64 2] 3)) := (Below.refl _ w1).alloc (Nat.le_refl _) _
  have r1 : IsRow .i64 (w1.alloc (.cells #[.int .i64 0, .int .i64 0, .int .i64 0, .int .i64 1, .int .i64 2] 3)) (some ⟨w1.heap.size, 0, none⟩) 5 5 [0, 0, 0, 1, 2] := row_heap (heap_alloc_new w1 _) rfl (by unfold maxLen; omega)
  have M1 := Lib.hid (isame_any a1 _ 5 cap1 5 5 5 _ _ (by omega) (hr1.below c1) r1)
  have d1 := hb1.trans (c1.mono hs1)
  have e1 := d1.size
  clear hr1 r1 H1 hb1 c1
  go_wp2_with fail
  refine M1.out.mono ?_
  rintro e w2 ⟨rfl, hb2⟩
  have d2 := d1.trans (hb2.mono e1)
  have e2 := d2.size
  clear M1 d1 hb2
  go_wp2_with fail
  refine (H2.out w2).mono ?_
  rintro e w3 ⟨a3, cap3, rfl, hr3, hb3⟩
  have d3 := d2.trans (hb3.mono e2)
  have e3 := d3.size
  have c3 : Below w3.heap.size w3 (w3.alloc (.cells #[.int .i64 2, .int .i64 1] 3)) := (Below.refl _ w3).alloc (Nat.le_refl _) _
  have r3 : IsRow .i64 (w3.alloc (.cells #[.int .i64 2, .int .i64 1] 3)) (some ⟨w3.heap.size, 0, none⟩) 2 2 [2, 1] := row_heap (heap_alloc_new w3 _) rfl (by unfold maxLen; omega)
  have M3 := Lib.hid (isame_any a3 _ 2 cap3 2 2 2 _ _ (by omega) (hr3.below c3) r3)
  have d4 := d3.trans (c3.mono e3)
  have e4 := d4.size
  clear hr3 r3 H2 hb3 c3
  go_wp2_with fail
  refine M3.out.mono ?_
  rintro e w4 ⟨rfl, hb4⟩
  have d5 := d4.trans (hb4.mono e4)
  have e5 := d5.size
  clear M3 d4 d3 d2 hb4
  go_wp2_with fail
  refine (H3.out w4).mono ?_
  rintro e w5 ⟨rfl, hb5⟩
  have d6 := d5.trans (hb5.mono e5)
  have e6 := d6.size
  clear H3 d5 hb5
  go_wp2_with fail
  refine (H4.out w5).mono ?_
  rintro e w6 ⟨a6, cap6, rfl, hr6, hb6⟩
  have d7 := d6.trans (hb6.mono e6)
  have e7 := d7.size
  have c6 : Below w6.heap.size w6 (w6.alloc (.cells #[.int .i64 0, .int .i64 1] 3)) := (Below.refl _ w6).alloc (Nat.le_refl _) _
  have r6 : IsRow .i64 (w6.alloc (.cells #[.int .i64 0, .int .i64 1] 3)) (some ⟨w6.heap.size, 0, none⟩) 2 2 [0, 1] := row_heap (heap_alloc_new w6 _) rfl (by unfold maxLen; omega)
  have M6 := Lib.hid (isame_any a6 _ 2 cap6 2 2 2 _ _ (by omega) (hr6.below c6) r6)
  have d8 := d7.trans (c6.mono e7)
  have e8 := d8.size
  clear hr6 r6 H4 hb6 c6 d6 d7
  go_wp2_with fail
  refine M6.out.mono ?_
  rintro e w7 ⟨rfl, hb7⟩
  have d9 := d8.trans (hb7.mono e8)
  have e9 := d9.size
  clear M6 d8 hb7
  go_wp2_with fail
  refine (H5.out w7).mono ?_
  rintro e w8 ⟨rfl, hb8⟩
  have d10 := d9.trans (hb8.mono e9)
  go_wp2
  go_ret
  exact ⟨rfl, d10⟩

theorem tells_long (s : ByteArray) (w : World) (h : 100 < s.size) (hm : s.size ≤ 9223372036854775807) :
    Calls Try.prog 3 #[.string s] w fun e w' => e = .returned (.bool true) ∧ Below w.heap.size w w' := by
  go_enter Try.func3, Try.ntmps3
  go_wp2_with fail
  refine (bdawake_any _).mono ?_
  rintro e w' ⟨rfl, hb⟩
  go_wp2
  go_ret
  exact ⟨rfl, hb⟩

set_option maxHeartbeats 2000000 in
theorem tells_short (l : List UInt8) (w : World) (hl : l.length ≤ 100) :
    Calls Try.prog 3 #[.string ⟨l.toArray⟩] w fun e w' => e = .returned (.bool true) ∧ Below w.heap.size w w' := by
  have HS := Lib.hid (bsize l)
  have h := (show l.length ≤ 100000000 by omega)
  have hT := fun w => table_any l w h
  have hT2 := fun w => rtable_any l w h
  have hA := fun w => ball_any l w h
  have hA2 := fun w => rall_any l w h
  have hP := fun w => period_any l w h
  have hP2 := fun w => rperiod_any l w h
  have hW := fun w => whole_any l w h
  have hW2 := fun w => rwhole_any l w h
  have hz1 : (tabQ l (l.length + 1)).length ≤ 1000 := by rw [tabQ_length]; omega
  have hz2 : (dn (bd l) (l.length - 1)).length ≤ 1000 := by have := dn_length (bd l) (l.length - 1); omega
  generalize tabQ l (l.length + 1) = T at hT hT2 hz1
  generalize dn (bd l) (l.length - 1) = D at hA hA2 hz2
  generalize per l = p at hP hP2
  generalize wholeB l = q at hW hW2
  have HT := Lib.hid hT
  have HT2 := Lib.hid hT2
  have HA := Lib.hid hA
  have HA2 := Lib.hid hA2
  have HP := Lib.hid hP
  have HP2 := Lib.hid hP2
  have HW := Lib.hid hW
  have HW2 := Lib.hid hW2
  clear hT hT2 hA hA2 hP hP2 hW hW2
  go_enter Try.func3, Try.ntmps3
  go_wp2_with fail
  refine (HT.out w).mono ?_
  rintro e w1 ⟨a1, cap1, rfl, hr1, d1⟩
  have e1 := d1.size
  go_wp2_with fail
  refine (HT2.out w1).mono ?_
  rintro e w2 ⟨a2, cap2, rfl, hr2, hb2⟩
  have d2 := d1.trans (hb2.mono e1)
  have e2 := d2.size
  have M2 := Lib.hid (isame_any a1 a2 _ cap1 cap2 _ _ _ w2 (by omega) (hr1.below hb2) hr2)
  clear hr1 hr2 hb2 d1 HT HT2
  go_wp2_with fail
  refine M2.out.mono ?_
  rintro e w3 ⟨rfl, hb3⟩
  have d3 := d2.trans (hb3.mono e2)
  have e3 := d3.size
  clear M2 d2 hb3
  go_wp2_with fail
  refine (HA.out w3).mono ?_
  rintro e w4 ⟨a4, cap4, rfl, hr4, hb4⟩
  have d4 := d3.trans (hb4.mono e3)
  have e4 := d4.size
  clear d3 hb4 HA
  go_wp2_with fail
  refine (HA2.out w4).mono ?_
  rintro e w5 ⟨a5, cap5, rfl, hr5, hb5⟩
  have d5 := d4.trans (hb5.mono e4)
  have e5 := d5.size
  have M5 := Lib.hid (isame_any a4 a5 _ cap4 cap5 _ _ _ w5 (by omega) (hr4.below hb5) hr5)
  clear hr4 hr5 hb5 d4 HA2
  go_wp2_with fail
  refine M5.out.mono ?_
  rintro e w6 ⟨rfl, hb6⟩
  have d6 := d5.trans (hb6.mono e5)
  have e6 := d6.size
  clear M5 d5 hb6
  go_wp2_with fail
  refine (HP.out w6).mono ?_
  rintro e w7 ⟨rfl, hb7⟩
  have d7 := d6.trans (hb7.mono e6)
  have e7 := d7.size
  clear d6 hb7 HP
  go_wp2_with fail
  refine (HP2.out w7).mono ?_
  rintro e w8 ⟨rfl, hb8⟩
  have d8 := d7.trans (hb8.mono e7)
  have e8 := d8.size
  clear d7 hb8 HP2
  go_wp2_with fail
  refine (HW.out w8).mono ?_
  rintro e w9 ⟨rfl, hb9⟩
  have d9 := d8.trans (hb9.mono e8)
  have e9 := d9.size
  clear d8 hb9 HW
  go_wp2_with fail
  refine (HW2.out w9).mono ?_
  rintro e w10 ⟨rfl, hb10⟩
  have d10 := d9.trans (hb10.mono e9)
  have e10 := d10.size
  clear d9 hb10 HW2
  go_wp2_with fail
  refine (bdawake_any _).mono ?_
  rintro e w11 ⟨rfl, hb11⟩
  have d11 := d10.trans (hb11.mono e10)
  go_wp2
  go_ret
  exact ⟨rfl, d11⟩

theorem meets_long (s t : ByteArray) (w : World) (h : 200 < s.size ∨ 200 < t.size) (hm : s.size ≤ 9223372036854775807) (hm2 : t.size ≤ 9223372036854775807) :
    Calls Try.prog 4 #[.string s, .string t] w fun e w' => e = .returned (.bool true) ∧ Below w.heap.size w w' := by
  by_cases h1 : 200 < s.size
  · go_enter Try.func4, Try.ntmps4
    go_wp2_with fail
    refine (bdawake_any _).mono ?_
    rintro e w' ⟨rfl, hb⟩
    go_wp2
    go_ret
    exact ⟨rfl, hb⟩
  · have h2 : 200 < t.size := by omega
    go_enter Try.func4, Try.ntmps4
    go_wp2_with fail
    refine (bdawake_any _).mono ?_
    rintro e w' ⟨rfl, hb⟩
    go_wp2
    go_ret
    exact ⟨rfl, hb⟩

theorem fndB_length (s t : List UInt8) : (fndB s t).length ≤ s.length := by
  unfold fndB
  split
  · simp
  · exact fnd_length s t _

set_option maxHeartbeats 2000000 in
theorem meets_short (s t : List UInt8) (w : World) (hs : s.length ≤ 200) (ht : t.length ≤ 200) :
    Calls Try.prog 4 #[.string ⟨s.toArray⟩, .string ⟨t.toArray⟩] w fun e w' => e = .returned (.bool true) ∧ Below w.heap.size w w' := by
  have S1 := Lib.hid (bsize s)
  have S2 := Lib.hid (bsize t)
  have hR := fun w => reach_any s t w (by omega) (by omega)
  have hR2 := fun w => rreach_any s t w (by omega) (by omega)
  have hF := fun w => find_any s t w (by omega) (by omega)
  have hF2 := fun w => rfind_any s t w (by omega) (by omega)
  have hz := fndB_length s t
  generalize endK t s = p at hR hR2
  generalize fndB s t = D at hF hF2 hz
  have HR := Lib.hid hR
  have HR2 := Lib.hid hR2
  have HF := Lib.hid hF
  have HF2 := Lib.hid hF2
  clear hR hR2 hF hF2
  go_enter Try.func4, Try.ntmps4
  go_wp2_with fail
  refine (HR.out w).mono ?_
  rintro e w1 ⟨rfl, d1⟩
  have e1 := d1.size
  go_wp2_with fail
  refine (HR2.out w1).mono ?_
  rintro e w2 ⟨rfl, hb2⟩
  have d2 := d1.trans (hb2.mono e1)
  have e2 := d2.size
  clear hb2 d1 HR HR2
  go_wp2_with fail
  refine (HF.out w2).mono ?_
  rintro e w4 ⟨a4, cap4, rfl, hr4, hb4⟩
  have d4 := d2.trans (hb4.mono e2)
  have e4 := d4.size
  clear d2 hb4 HF
  go_wp2_with fail
  refine (HF2.out w4).mono ?_
  rintro e w5 ⟨a5, cap5, rfl, hr5, hb5⟩
  have d5 := d4.trans (hb5.mono e4)
  have e5 := d5.size
  have M5 := Lib.hid (isame_any a4 a5 _ cap4 cap5 _ _ _ w5 (by omega) (hr4.below hb5) hr5)
  clear hr4 hr5 hb5 d4 HF2
  go_wp2_with fail
  refine M5.out.mono ?_
  rintro e w6 ⟨rfl, hb6⟩
  have d6 := d5.trans (hb6.mono e5)
  have e6 := d6.size
  clear M5 d5 hb6
  go_wp2_with fail
  refine (bdawake_any _).mono ?_
  rintro e w11 ⟨rfl, hb11⟩
  have d11 := d6.trans (hb11.mono e6)
  go_wp2
  go_ret
  exact ⟨rfl, d11⟩
end Go.Proofs.Ytiaepggjgmmdlaa
