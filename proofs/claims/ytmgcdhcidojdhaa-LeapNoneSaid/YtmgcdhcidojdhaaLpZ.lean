/-
  The law LeapNone: walked.
-/
import Derived.Test.YtmgcdhcidojdhaaLpN
import Derived.Test.YtmgcdhcidojdhaaLpA
set_option linter.unusedSimpArgs false
set_option linter.unusedVariables false
namespace Go.Proofs.Ytmgcdhcidojdhaa
open Go.RowKit

theorem lpab_fault : faultL [[97, 98]] = 0 := by decide +kernel
theorem lpab_set : setL [[97, 98]] = [[97, 98]] := by
  rw [set_good lpab_fault, ← ins_srt]; decide +kernel

set_option maxRecDepth 100000 in
set_option maxHeartbeats 1000000 in
theorem lpnone_long (s : List UInt8) (e : Int) (skip : Bool) (w : World) (hs : 50 < s.length) (hm : s.length ≤ 9223372036854775807) :
    Calls Try.prog 3 #[.string ⟨s.toArray⟩, .int .i64 e, .bool skip] w fun e w' => e = .returned (.bool true) ∧ Below w.heap.size w w' := by
  have S1 := Lib.hid (bsize s)
  have g1 : (50 : Int) < (s.length : Int) := by omega
  go_enter Try.func3, Try.ntmps3
  go_wp2_with fail
  refine (lpawake_any _).mono ?_
  rintro E w' ⟨rfl, hb⟩
  go_wp2
  go_ret
  exact ⟨rfl, hb⟩

set_option maxRecDepth 100000 in
set_option maxHeartbeats 4000000 in
theorem lpnone_short (s : List UInt8) (e : Int) (skip : Bool) (w : World) (hs : s.length ≤ 50) :
    Calls Try.prog 3 #[.string ⟨s.toArray⟩, .int .i64 e, .bool skip] w fun e w' => e = .returned (.bool true) ∧ Below w.heap.size w w' := by
  have S1 := Lib.hid (bsize s)
  have g1 : ¬ (50 : Int) < (s.length : Int) := by omega
  have hA := strs_heap (ws := [[97, 98]]) (heap_alloc_new w (.cells (txCells [[97, 98]]).toArray 9)) rfl
  have H1 := Lib.hid (ptnew_all (some ⟨w.heap.size, 0, none⟩) 1 1 _ _ (by omega) hA (by decide))
  rw [lpab_set, lpab_fault] at H1
  have c1 : Below w.heap.size w (w.alloc (.cells (txCells [[97, 98]]).toArray 9)) := (Below.refl _ w).alloc (Nat.le_refl _) _
  have s1 := c1.size
  clear hA
  go_enter Try.func3, Try.ntmps3
  go_wp2_with fail
  refine H1.out.mono ?_
  rintro E w2 ⟨p, rfl, hs2, hb2⟩
  have d2 := c1.trans (hb2.mono s1)
  obtain ⟨y, rfl, hys, hyp⟩ : ∃ y, p = some ⟨y, 0, none⟩ ∧ IsSet w2 y [[97, 98]] ∧ Pats [[97, 98]] := by
    rcases hs2 with ⟨_, h⟩ | ⟨y, h1, h2, h3⟩
    · cases h
    · exact ⟨y, h1, h2, h3⟩
  have HY := Lib.hid hys
  have HPT := Lib.hid hyp
  have HD2 := Lib.hid d2
  have C3 := Lib.hid (canew_any 2 w2 (by omega) (by omega))
  clear H1 hs2 hb2 c1 s1 hys hyp d2
  go_wp2_with fail
  refine C3.out.mono ?_
  rintro E w3 ⟨rfl, hc3, hs3, hb3⟩
  obtain ⟨b, hb⟩ : ∃ b, w2.heap.size = b := ⟨_, rfl⟩
  have HB3 := Lib.hid hb3
  rw [hb] at hc3 ⊢
  have HB := Lib.hid hb
  have A3 := Lib.hid (caadd_any hc3 s (by simp; omega))
  clear C3 hc3 hs3 hb3 hb
  go_wp2_with fail
  refine A3.out.mono ?_
  rintro E w4 ⟨rfl, hc4, hb4⟩
  rw [List.nil_append] at hc4
  have HB4 : Hid (Below w2.heap.size w2 w4) := Lib.hid (HB3.out.trans (by rw [HB.out]; exact hb4.below (by omega)))
  have HC4 := Lib.hid hc4
  have K4 := Lib.hid (lpkeep_nil w4)
  have N4 := Lib.hid (lpnothing_any (p := none) (q := some ⟨b, 0, none⟩) (e := e) (w := w4) (fun W _ => lptail_nil _ ⟨_, rfl⟩ e W))
  clear A3 hc4 hb4 HB3
  go_wp2_with fail
  refine K4.out.mono ?_
  rintro E w' ⟨rfl, hw⟩
  obtain rfl := hw.symm
  clear hw K4
  go_wp2_with fail
  refine N4.out.mono ?_
  rintro E w5 ⟨rfl, hb5⟩
  have HB5 := Lib.hid hb5
  have L5 := Lib.hid (lpnew_nil skip w5)
  clear N4 hb5
  go_wp2_with fail
  refine L5.out.mono ?_
  rintro E w6 ⟨b6, rfl, hno, hb6⟩
  have HB6 := Lib.hid (HB5.out.trans (hb6.mono HB5.out.size))
  have N6 := Lib.hid (lpnothing_any (p := some ⟨b6, 0, none⟩) (q := some ⟨b, 0, none⟩) (e := e) (w := w6) (fun W hW => lptail_none (hno.below hW) _ ⟨_, rfl⟩ e))
  clear L5 hno hb6 HB5
  go_wp2_with fail
  refine N6.out.mono ?_
  rintro E w7 ⟨rfl, hb7⟩
  have HB7 := Lib.hid (HB6.out.trans (hb7.mono HB6.out.size))
  have HB27 := Lib.hid (HB4.out.trans (HB7.out.mono HB4.out.size))
  have L7 := Lib.hid (lpnew_any (HY.out.below HB27.out) HPT.out skip)
  clear N6 hb7 HB6
  go_wp2_with fail
  refine L7.out.mono ?_
  rintro E w8 ⟨b8, rfl, hL8, hb8⟩
  have HB8 := Lib.hid (HB7.out.trans (hb8.mono HB7.out.size))
  have N8 := Lib.hid (lpnothing_any (p := some ⟨b8, 0, none⟩) (q := none) (e := e) (w := w8) (fun W hW => lptail_far (n := 0) (hL8.below hW) ⟨_, rfl⟩ (caseen_nil W) e (by omega)))
  clear L7 hL8 hb8 HB7 HB27
  go_wp2_with fail
  refine N8.out.mono ?_
  rintro E w9 ⟨rfl, hb9⟩
  have HB9 := Lib.hid (HB8.out.trans (hb9.mono HB8.out.size))
  have HB29 := Lib.hid (HB4.out.trans (HB9.out.mono HB4.out.size))
  clear N8 hb9 HB8
  by_cases hin : 0 ≤ e ∧ e < (s.length : Int)
  · have u1 : 0 ≤ e := hin.1
    have u2 : e < (s.length : Int) := hin.2
    clear hin
    go_wp2_with fail
    refine (lpawake_any _).mono ?_
    rintro E w10 ⟨rfl, hb10⟩
    have d := HD2.out.trans (HB29.out.mono HD2.out.size)
    have d2 := d.trans (hb10.mono d.size)
    go_wp2
    go_ret
    exact ⟨rfl, d2⟩
  · have L9 := Lib.hid (lpnew_any (HY.out.below HB29.out) HPT.out skip)
    have HOUT : Hid (e < 0 ∨ (s.length : Int) ≤ e) := Lib.hid (by omega)
    by_cases u1 : 0 ≤ e
    · have u2 : ¬ e < (s.length : Int) := by omega
      clear hin
      go_wp2_with fail
      refine L9.out.mono ?_
      rintro E w10 ⟨b10, rfl, hL10, hb10⟩
      have HB10 := Lib.hid (HB9.out.trans (hb10.mono HB9.out.size))
      have N10 := Lib.hid (lpnothing_any (p := some ⟨b10, 0, none⟩) (q := some ⟨b, 0, none⟩) (e := e) (w := w10) (fun W hW => lptail_far (n := s.length) (hL10.below hW) ⟨_, rfl⟩ (caseen_any (HC4.out.below (HB10.out.trans (hW.mono HB10.out.size)))) e HOUT.out))
      clear L9 hL10 hb10
      go_wp2_with fail
      refine N10.out.mono ?_
      rintro E w11 ⟨rfl, hb11⟩
      have HB11 := Lib.hid (HB4.out.trans ((HB10.out.trans (hb11.mono HB10.out.size)).mono HB4.out.size))
      clear N10 hb11
      go_wp2_with fail
      refine (lpawake_any _).mono ?_
      rintro E w12 ⟨rfl, hb12⟩
      have d := HD2.out.trans (HB11.out.mono HD2.out.size)
      have d2 := d.trans (hb12.mono d.size)
      go_wp2
      go_ret
      exact ⟨rfl, d2⟩
    · clear hin
      go_wp2_with fail
      refine L9.out.mono ?_
      rintro E w10 ⟨b10, rfl, hL10, hb10⟩
      have HB10 := Lib.hid (HB9.out.trans (hb10.mono HB9.out.size))
      have N10 := Lib.hid (lpnothing_any (p := some ⟨b10, 0, none⟩) (q := some ⟨b, 0, none⟩) (e := e) (w := w10) (fun W hW => lptail_far (n := s.length) (hL10.below hW) ⟨_, rfl⟩ (caseen_any (HC4.out.below (HB10.out.trans (hW.mono HB10.out.size)))) e HOUT.out))
      clear L9 hL10 hb10
      go_wp2_with fail
      refine N10.out.mono ?_
      rintro E w11 ⟨rfl, hb11⟩
      have HB11 := Lib.hid (HB4.out.trans ((HB10.out.trans (hb11.mono HB10.out.size)).mono HB4.out.size))
      clear N10 hb11
      go_wp2_with fail
      refine (lpawake_any _).mono ?_
      rintro E w12 ⟨rfl, hb12⟩
      have d := HD2.out.trans (HB11.out.mono HD2.out.size)
      have d2 := d.trans (hb12.mono d.size)
      go_wp2
      go_ret
      exact ⟨rfl, d2⟩
end Go.Proofs.Ytmgcdhcidojdhaa
