/-
  The law BookPuts, walked.
-/
import Derived.Test.YtoeakmpfkbmbcaaBkA
import Derived.Test.YtoeakmpfkbmbcaaBkH
import Derived.Test.YtoeakmpfkbmbcaaAfFw
set_option linter.unusedSimpArgs false
set_option linter.unusedVariables false
namespace Go.Proofs.Ytoeakmpfkbmbcaa
open Go.RowKit

set_option maxHeartbeats 1000000 in
theorem bkputs_many (a : Option Addr) (len cap : Nat) (ws : List (List UInt8)) (w : World) (hlen : len ≤ 9223372036854775807) (hr : IsStrs w a len ws) (ht : ∀ t ∈ ws, t.length ≤ 9223372036854775807) (hq : fewB ws 20 50 = false) :
    Calls Try.prog 3 #[.slice a len cap] w fun e w' => e = .returned (.bool true) ∧ Below w.heap.size w w' := by
  have HF := Lib.hid (few_not a len cap ws w hlen hr ht hq)
  clear hr ht hq
  go_enter Try.func3, Try.ntmps3
  go_wp2_with fail
  refine HF.out.mono ?_
  rintro e w' ⟨rfl, rfl⟩
  go_wp2_with fail
  refine (bkawake_any _).mono ?_
  rintro e w' ⟨rfl, hb⟩
  go_wp2
  go_ret
  exact ⟨rfl, hb⟩

set_option maxHeartbeats 2000000 in
theorem bkputs_bad (a : Option Addr) (len cap : Nat) (ws : List (List UInt8)) (w : World) (hr : IsStrs w a len ws) (hq : fewB ws 20 50 = true) (hf : ¬ faultL ws = 0) :
    Calls Try.prog 3 #[.slice a len cap] w fun e w' => e = .returned (.bool true) ∧ Below w.heap.size w w' := by
  have hwl := hr.1
  have hfw := (few_iff ws 20 50).1 hq
  have hlen : len ≤ 20 := by omega
  have HF := Lib.hid (few_yes a len cap ws w (by omega) hr (fun t ht => by have := hfw.2 t ht; omega) hq)
  have HN := Lib.hid (ptnew_bad a len cap ws w (by omega) hr (fun t ht => by have := hfw.2 t ht; omega) hf)
  have HN2 := Lib.hid (fun (w2 : World) (hb : Below w.heap.size w w2) => rptnew_any a len cap ws w2 (by omega) (hr.below hb) (fun t ht => by have := hfw.2 t ht; omega))
  unfold NewR at HN2
  generalize faultL ws = f at HN HN2 hf
  clear hr hq hfw hwl
  go_enter Try.func3, Try.ntmps3
  go_wp2_with fail
  refine HF.out.mono ?_
  rintro e w' ⟨rfl, hw⟩
  obtain rfl := hw.symm
  clear HF hw
  go_wp2_with fail
  refine HN.out.mono ?_
  rintro e w1 ⟨rfl, d1⟩
  have e1 := d1.size
  have HN3 := Lib.hid (HN2.out w1 d1)
  clear HN HN2
  go_wp2_with fail
  refine HN3.out.mono ?_
  rintro e w2 ⟨a2, cap2, L, rfl, _, hL, _, hb2⟩
  obtain ⟨rfl, rfl, rfl⟩ := hL hf
  have d2 := d1.trans (hb2.mono e1)
  have e2 := d2.size
  clear HN3 hb2 d1 e1 hL
  have q1 : (f == f) = true := by simp
  go_wp2_with fail
  refine (bkput_nil _).mono ?_
  rintro e w' ⟨rfl, rfl⟩
  go_wp2_with fail
  refine (rbkput_nil _ _ _).mono ?_
  rintro e w' ⟨rfl, rfl⟩
  go_wp2_with fail
  refine (bkawake_any _).mono ?_
  rintro e w6 ⟨rfl, hb6⟩
  have d6 := d2.trans (hb6.mono e2)
  go_wp2
  go_ret
  exact ⟨rfl, d6⟩

set_option maxHeartbeats 2000000 in
theorem bkputs_good (a : Option Addr) (len cap : Nat) (ws : List (List UInt8)) (w : World) (hr : IsStrs w a len ws) (hq : fewB ws 20 50 = true) (hf : faultL ws = 0) :
    Calls Try.prog 3 #[.slice a len cap] w fun e w' => e = .returned (.bool true) ∧ Below w.heap.size w w' := by
  have hwl := hr.1
  have hfw := (few_iff ws 20 50).1 hq
  have hlen : len ≤ 20 := by omega
  have hP := ((fault_zero ws).1 hf).srt
  have HF := Lib.hid (few_yes a len cap ws w (by omega) hr (fun t ht => by have := hfw.2 t ht; omega) hq)
  have HN := Lib.hid (ptnew_good a len cap ws w (by omega) hr hf)
  have HN2 := Lib.hid (fun (w2 : World) (hb : Below w.heap.size w w2) => rptnew_any a len cap ws w2 (by omega) (hr.below hb) (fun t ht => by have := hfw.2 t ht; omega))
  unfold NewR at HN2
  rw [hf] at HN2
  have hul : (srt ws).length ≤ 20 := by rw [srt_length]; omega
  generalize srt ws = us at *
  have HP1 := Lib.hid (fun (w2 : World) (b : Nat) (h : IsSet w2 b us) => bkput_any h hP)
  have HP2 := Lib.hid (fun (w2 : World) (a2 : Option Addr) (cap2 : Nat) (h : IsStrs w2 a2 us.length us) => rbkput_any a2 us.length cap2 us w2 hP.some (by omega) h (fun t ht => (hP.each t ht).2) hP.total)
  generalize bookB us = bk at HP1 HP2
  have hbk : (bk == bk) = true := by simp
  have q0 : (0 : Int) = 0 := rfl
  clear hr hq hfw hwl hf hP
  go_enter Try.func3, Try.ntmps3
  go_wp2_with fail
  refine HF.out.mono ?_
  rintro e w' ⟨rfl, hw⟩
  obtain rfl := hw.symm
  clear HF hw
  go_wp2_with fail
  refine HN.out.mono ?_
  rintro e w1 ⟨b, rfl, hbb, hs1, d1⟩
  have e1 := d1.size
  have HN3 := Lib.hid (HN2.out w1 d1)
  have HS1 := Lib.hid hs1
  clear HN HN2 hs1 hbb
  go_wp2_with fail
  refine HN3.out.mono ?_
  rintro e w2 ⟨a2, cap2, L, rfl, hL, _, hstr, hb2⟩
  obtain rfl := hL (by simp)
  have d2 := d1.trans (hb2.mono e1)
  have e2 := d2.size
  have P2 := Lib.hid (HP1.out w2 b (HS1.out.below hb2))
  have T2 := Lib.hid hstr
  clear HN3 hb2 d1 e1 hL hstr HS1 HP1
  go_wp2_with fail
  refine P2.out.mono ?_
  rintro e w3 ⟨rfl, hb3⟩
  have d3 := d2.trans (hb3.mono e2)
  have e3 := d3.size
  have P3 := Lib.hid (HP2.out w3 a2 cap2 (T2.out.below hb3))
  clear P2 T2 hb3 d2 e2 HP2
  go_wp2_with fail
  refine P3.out.mono ?_
  rintro e w4 ⟨rfl, hb4⟩
  have d4 := d3.trans (hb4.mono e3)
  have e4 := d4.size
  clear P3 hb4 d3 e3
  go_wp2_with fail
  refine (bkawake_any _).mono ?_
  rintro e w6 ⟨rfl, hb6⟩
  have d6 := d4.trans (hb6.mono e4)
  go_wp2
  go_ret
  exact ⟨rfl, d6⟩
end Go.Proofs.Ytoeakmpfkbmbcaa
