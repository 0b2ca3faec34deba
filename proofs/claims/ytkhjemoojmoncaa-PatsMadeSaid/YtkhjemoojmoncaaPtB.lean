/-
  The law PatsMade, walked.
-/
import Derived.Test.YtkhjemoojmoncaaPtA
import Derived.Test.YtkhjemoojmoncaaPtR
import Derived.Test.YtkhjemoojmoncaaStrS
set_option linter.unusedSimpArgs false
set_option linter.unusedVariables false
namespace Go.Proofs.Ytkhjemoojmoncaa
open Go.RowKit

theorem leastR_some {ws : List (List UInt8)} (h : Pats ws) : leastR ws = leastL ws := if_neg (by have := h.some; omega)

set_option maxHeartbeats 1000000 in
theorem ptmade_many (a : Option Addr) (len cap : Nat) (ws : List (List UInt8)) (id : Int) (s : ByteArray) (w : World) (hlen : len ≤ 9223372036854775807) (hr : IsStrs w a len ws) (ht : ∀ t ∈ ws, t.length ≤ 9223372036854775807) (hq : fewB ws 20 50 = false) :
    Calls Try.prog 3 #[.slice a len cap, .int .i64 id, .string s] w fun e w' => e = .returned (.bool true) ∧ Below w.heap.size w w' := by
  have HF := Lib.hid (few_not a len cap ws w hlen hr ht hq)
  clear hr ht hq
  go_enter Try.func3, Try.ntmps3
  go_wp2_with fail
  refine HF.out.mono ?_
  rintro e w' ⟨rfl, rfl⟩
  go_wp2_with fail
  refine (ptawake_any _).mono ?_
  rintro e w' ⟨rfl, hb⟩
  go_wp2
  go_ret
  exact ⟨rfl, hb⟩

set_option maxHeartbeats 1000000 in
theorem ptmade_long (a : Option Addr) (len cap : Nat) (ws : List (List UInt8)) (id : Int) (s : ByteArray) (w : World) (hlen : len ≤ 9223372036854775807) (hr : IsStrs w a len ws) (ht : ∀ t ∈ ws, t.length ≤ 9223372036854775807) (hq : fewB ws 20 50 = true) (hs : 50 < s.size) (hm : s.size ≤ 9223372036854775807) :
    Calls Try.prog 3 #[.slice a len cap, .int .i64 id, .string s] w fun e w' => e = .returned (.bool true) ∧ Below w.heap.size w w' := by
  have HF := Lib.hid (few_yes a len cap ws w hlen hr ht hq)
  clear hr ht hq
  go_enter Try.func3, Try.ntmps3
  go_wp2_with fail
  refine HF.out.mono ?_
  rintro e w' ⟨rfl, rfl⟩
  go_wp2_with fail
  refine (ptawake_any _).mono ?_
  rintro e w' ⟨rfl, hb⟩
  go_wp2
  go_ret
  exact ⟨rfl, hb⟩

theorem same_nil (w : World) : Calls Try.prog 13 #[.slice none 0 0, .slice none 0 0] w fun e w' => e = .returned (.bool true) ∧ Below w.heap.size w w' :=
  essame_any none none 0 0 0 [] w (by omega) ⟨rfl, .inl rfl⟩ ⟨rfl, .inl rfl⟩
theorem nil_strs (w : World) : IsStrs w none 0 [] := ⟨rfl, .inl rfl⟩

set_option maxHeartbeats 4000000 in
theorem ptmade_bad_low (a : Option Addr) (len cap : Nat) (ws : List (List UInt8)) (id : Int) (s : List UInt8) (w : World) (hr : IsStrs w a len ws) (hq : fewB ws 20 50 = true) (hs : s.length ≤ 50) (hf : ¬ faultL ws = 0) (hid : id < 0) :
    Calls Try.prog 3 #[.slice a len cap, .int .i64 id, .string ⟨s.toArray⟩] w fun e w' => e = .returned (.bool true) ∧ Below w.heap.size w w' := by
  have hwl := hr.1
  have hfw := (few_iff ws 20 50).1 hq
  have hlen : len ≤ 20 := by omega
  have HF := Lib.hid (few_yes a len cap ws w (by omega) hr (fun t ht => by have := hfw.2 t ht; omega) hq)
  have S1 := Lib.hid (bsize s)
  have HN := Lib.hid (ptnew_bad a len cap ws w (by omega) hr (fun t ht => by have := hfw.2 t ht; omega) hf)
  have HN2 := Lib.hid (fun (w2 : World) (hb : Below w.heap.size w w2) => rptnew_any a len cap ws w2 (by omega) (hr.below hb) (fun t ht => by have := hfw.2 t ht; omega))
  have HK := Lib.hid (fun w => rptfind_any none 0 0 [] s w (by omega) (nil_strs w) List.Pairwise.nil List.Pairwise.nil)
  rw [show fndP s [] = -1 from rfl] at HK
  have HA := Lib.hid (fun w => rptleast_any none 0 0 [] w (by omega) (nil_strs w) (by simp))
  have HB := Lib.hid (fun w => rptmost_any none 0 0 [] w (by omega) (nil_strs w) (by simp))
  have HC := Lib.hid (fun w => rpttotal_any none 0 0 [] w (by omega) (nil_strs w) (by simp))
  rw [show ((leastR [] : Nat) : Int) = 0 from rfl] at HA
  rw [show ((mostL [] : Nat) : Int) = 0 from rfl] at HB
  rw [show ((totalL [] : Nat) : Int) = 0 from rfl] at HC
  unfold NewR at HN2
  generalize faultL ws = f at HN HN2 hf
  clear hr hq hfw hwl
  go_enter Try.func3, Try.ntmps3
  go_wp2_with fail
  refine HF.out.mono ?_
  rintro e w' ⟨rfl, hw⟩
  obtain rfl := hw.symm
  clear HF hw
  go_wp2_with fail
  refine HN.out.mono ?_
  rintro e w1 ⟨rfl, d1⟩
  have e1 := d1.size
  have HN3 := Lib.hid (HN2.out w1 d1)
  clear HN HN2
  go_wp2_with fail
  refine HN3.out.mono ?_
  rintro e w2 ⟨a2, cap2, L, rfl, _, hL, _, hb2⟩
  obtain ⟨rfl, rfl, rfl⟩ := hL hf
  have d2 := d1.trans (hb2.mono e1)
  have e2 := d2.size
  clear HN3 hb2 d1 e1 hL
  have q1 : (f == f) = true := by simp
  have q2 : (f == 0) = false := by simpa using hf
  go_wp2_with fail
  refine (ptat_nil id w2).mono ?_
  rintro e w' ⟨rfl, rfl⟩
  go_wp2_with fail
  refine (ptfind_nil _ _).mono ?_
  rintro e w' ⟨rfl, rfl⟩
  go_wp2_with fail
  refine (HK.out _).mono ?_
  rintro e w' ⟨rfl, rfl⟩
  go_wp2_with fail
  refine (ptlist_nil _).mono ?_
  rintro e w' ⟨rfl, rfl⟩
  go_wp2_with fail
  refine (same_nil _).mono ?_
  rintro e w3 ⟨rfl, hb3⟩
  have d3 := d2.trans (hb3.mono e2)
  have e3 := d3.size
  clear hb3 d2 e2
  go_wp2_with fail
  refine (ptlen_nil _).mono ?_
  rintro e w' ⟨rfl, rfl⟩
  go_wp2_with fail
  refine (ptleast_nil _).mono ?_
  rintro e w' ⟨rfl, rfl⟩
  go_wp2_with fail
  refine (HA.out _).mono ?_
  rintro e w' ⟨rfl, rfl⟩
  go_wp2_with fail
  refine (ptmost_nil _).mono ?_
  rintro e w' ⟨rfl, rfl⟩
  go_wp2_with fail
  refine (HB.out _).mono ?_
  rintro e w' ⟨rfl, rfl⟩
  go_wp2_with fail
  refine (pttotal_nil _).mono ?_
  rintro e w' ⟨rfl, rfl⟩
  go_wp2_with fail
  refine (HC.out _).mono ?_
  rintro e w' ⟨rfl, rfl⟩
  go_wp2_with fail
  refine (ptawake_any _).mono ?_
  rintro e w4 ⟨rfl, hb4⟩
  have d4 := d3.trans (hb4.mono e3)
  go_wp2
  go_ret
  exact ⟨rfl, d4⟩

set_option maxHeartbeats 4000000 in
theorem ptmade_bad_high (a : Option Addr) (len cap : Nat) (ws : List (List UInt8)) (id : Int) (s : List UInt8) (w : World) (hr : IsStrs w a len ws) (hq : fewB ws 20 50 = true) (hs : s.length ≤ 50) (hf : ¬ faultL ws = 0) (hid : 0 ≤ id) :
    Calls Try.prog 3 #[.slice a len cap, .int .i64 id, .string ⟨s.toArray⟩] w fun e w' => e = .returned (.bool true) ∧ Below w.heap.size w w' := by
  have hwl := hr.1
  have hfw := (few_iff ws 20 50).1 hq
  have hlen : len ≤ 20 := by omega
  have HF := Lib.hid (few_yes a len cap ws w (by omega) hr (fun t ht => by have := hfw.2 t ht; omega) hq)
  have S1 := Lib.hid (bsize s)
  have HN := Lib.hid (ptnew_bad a len cap ws w (by omega) hr (fun t ht => by have := hfw.2 t ht; omega) hf)
  have HN2 := Lib.hid (fun (w2 : World) (hb : Below w.heap.size w w2) => rptnew_any a len cap ws w2 (by omega) (hr.below hb) (fun t ht => by have := hfw.2 t ht; omega))
  have HK := Lib.hid (fun w => rptfind_any none 0 0 [] s w (by omega) (nil_strs w) List.Pairwise.nil List.Pairwise.nil)
  rw [show fndP s [] = -1 from rfl] at HK
  have HA := Lib.hid (fun w => rptleast_any none 0 0 [] w (by omega) (nil_strs w) (by simp))
  have HB := Lib.hid (fun w => rptmost_any none 0 0 [] w (by omega) (nil_strs w) (by simp))
  have HC := Lib.hid (fun w => rpttotal_any none 0 0 [] w (by omega) (nil_strs w) (by simp))
  rw [show ((leastR [] : Nat) : Int) = 0 from rfl] at HA
  rw [show ((mostL [] : Nat) : Int) = 0 from rfl] at HB
  rw [show ((totalL [] : Nat) : Int) = 0 from rfl] at HC
  unfold NewR at HN2
  generalize faultL ws = f at HN HN2 hf
  clear hr hq hfw hwl
  go_enter Try.func3, Try.ntmps3
  go_wp2_with fail
  refine HF.out.mono ?_
  rintro e w' ⟨rfl, hw⟩
  obtain rfl := hw.symm
  clear HF hw
  go_wp2_with fail
  refine HN.out.mono ?_
  rintro e w1 ⟨rfl, d1⟩
  have e1 := d1.size
  have HN3 := Lib.hid (HN2.out w1 d1)
  clear HN HN2
  go_wp2_with fail
  refine HN3.out.mono ?_
  rintro e w2 ⟨a2, cap2, L, rfl, _, hL, _, hb2⟩
  obtain ⟨rfl, rfl, rfl⟩ := hL hf
  have d2 := d1.trans (hb2.mono e1)
  have e2 := d2.size
  clear HN3 hb2 d1 e1 hL
  have q1 : (f == f) = true := by simp
  have q2 : (f == 0) = false := by simpa using hf
  go_wp2_with fail
  refine (ptat_nil id w2).mono ?_
  rintro e w' ⟨rfl, rfl⟩
  go_wp2_with fail
  refine (ptfind_nil _ _).mono ?_
  rintro e w' ⟨rfl, rfl⟩
  go_wp2_with fail
  refine (HK.out _).mono ?_
  rintro e w' ⟨rfl, rfl⟩
  go_wp2_with fail
  refine (ptlist_nil _).mono ?_
  rintro e w' ⟨rfl, rfl⟩
  go_wp2_with fail
  refine (same_nil _).mono ?_
  rintro e w3 ⟨rfl, hb3⟩
  have d3 := d2.trans (hb3.mono e2)
  have e3 := d3.size
  clear hb3 d2 e2
  go_wp2_with fail
  refine (ptlen_nil _).mono ?_
  rintro e w' ⟨rfl, rfl⟩
  go_wp2_with fail
  refine (ptleast_nil _).mono ?_
  rintro e w' ⟨rfl, rfl⟩
  go_wp2_with fail
  refine (HA.out _).mono ?_
  rintro e w' ⟨rfl, rfl⟩
  go_wp2_with fail
  refine (ptmost_nil _).mono ?_
  rintro e w' ⟨rfl, rfl⟩
  go_wp2_with fail
  refine (HB.out _).mono ?_
  rintro e w' ⟨rfl, rfl⟩
  go_wp2_with fail
  refine (pttotal_nil _).mono ?_
  rintro e w' ⟨rfl, rfl⟩
  go_wp2_with fail
  refine (HC.out _).mono ?_
  rintro e w' ⟨rfl, rfl⟩
  go_wp2_with fail
  refine (ptawake_any _).mono ?_
  rintro e w4 ⟨rfl, hb4⟩
  have d4 := d3.trans (hb4.mono e3)
  go_wp2
  go_ret
  exact ⟨rfl, d4⟩

set_option maxHeartbeats 4000000 in
theorem ptmade_in (a : Option Addr) (len cap : Nat) (ws : List (List UInt8)) (k : Nat) (t : List UInt8) (s : List UInt8) (w : World) (hr : IsStrs w a len ws) (hq : fewB ws 20 50 = true) (hs : s.length ≤ 50) (hf : faultL ws = 0) (hk : (srt ws)[k]? = some t) :
    Calls Try.prog 3 #[.slice a len cap, .int .i64 (k : Int), .string ⟨s.toArray⟩] w fun e w' => e = .returned (.bool true) ∧ Below w.heap.size w w' := by
  have hwl := hr.1
  have hfw := (few_iff ws 20 50).1 hq
  have hlen : len ≤ 20 := by omega
  have hP := ((fault_zero ws).1 hf).srt
  have HF := Lib.hid (few_yes a len cap ws w (by omega) hr (fun t ht => by have := hfw.2 t ht; omega) hq)
  have S1 := Lib.hid (bsize s)
  have HN := Lib.hid (ptnew_good a len cap ws w (by omega) hr hf)
  have HN2 := Lib.hid (fun (w2 : World) (hb : Below w.heap.size w w2) => rptnew_any a len cap ws w2 (by omega) (hr.below hb) (fun t ht => by have := hfw.2 t ht; omega))
  unfold NewR at HN2
  rw [hf] at HN2
  have ha := srt_asc ws
  have hul : (srt ws).length ≤ 20 := by rw [srt_length]; omega
  generalize srt ws = us at *
  have hea : ∀ t ∈ us, t.length ≤ 65535 := fun t ht => (hP.each t ht).2
  have HNUM := Lib.hid (fun (w2 : World) (b : Nat) (h : IsSet w2 b us) => ptfind_any h (by omega) ha s)
  have HK := Lib.hid (fun (w2 : World) (a2 : Option Addr) (cap2 : Nat) (h : IsStrs w2 a2 us.length us) => rptfind_any a2 us.length cap2 us s w2 (by omega) h ha hP.once)
  have HA := Lib.hid (fun (w2 : World) (a2 : Option Addr) (cap2 : Nat) (h : IsStrs w2 a2 us.length us) => rptleast_any a2 us.length cap2 us w2 (by omega) h hea)
  have HB := Lib.hid (fun (w2 : World) (a2 : Option Addr) (cap2 : Nat) (h : IsStrs w2 a2 us.length us) => rptmost_any a2 us.length cap2 us w2 (by omega) h hea)
  have HC := Lib.hid (fun (w2 : World) (a2 : Option Addr) (cap2 : Nat) (h : IsStrs w2 a2 us.length us) => rpttotal_any a2 us.length cap2 us w2 (by omega) h hea)
  rw [leastR_some hP] at HA
  have HXA := Lib.hid (fun (w2 : World) (b : Nat) (h : IsSet w2 b us) => ptleast_any h)
  have HXB := Lib.hid (fun (w2 : World) (b : Nat) (h : IsSet w2 b us) => ptmost_any h)
  have HXC := Lib.hid (fun (w2 : World) (b : Nat) (h : IsSet w2 b us) => pttotal_any h)
  have HXN := Lib.hid (fun (w2 : World) (b : Nat) (h : IsSet w2 b us) => ptlen_any h)
  have HXL := Lib.hid (fun (w2 : World) (b : Nat) (h : IsSet w2 b us) => ptlist_any h (by omega))
  generalize leastL us = xa at HA HXA
  generalize mostL us = xb at HB HXB
  generalize totalL us = xc at HC HXC
  have q0 : (0 : Int) = 0 := rfl
  have hkl := (List.getElem?_eq_some_iff.1 hk).1
  have g0 : (0 : Int) ≤ (k : Int) := by omega
  have g1 : (k : Int) < (us.length : Int) := by omega
  have HKK := Lib.hid hk
  clear hk
  clear hr hq hfw hwl hf hP ha hea
  by_cases hm : s ∈ us
  · have x1 : numP s us = (ahdS s us : Int) := if_pos hm
    have x2 : decide (s ∈ us) = true := decide_eq_true hm
    have x3 : fndP s us = (ahdS s us : Int) := if_pos hm
    rw [x1, x2] at HNUM
    rw [x3] at HK
    generalize ahdS s us = m at HNUM HK
    have m0 : (0 : Int) ≤ (m : Int) := by omega
    clear hm x1 x2 x3
    go_enter Try.func3, Try.ntmps3
    go_wp2_with fail
    refine HF.out.mono ?_
    rintro e w' ⟨rfl, hw⟩
    obtain rfl := hw.symm
    clear HF hw
    go_wp2_with fail
    refine HN.out.mono ?_
    rintro e w1 ⟨b, rfl, hbb, hs1, d1⟩
    have e1 := d1.size
    have HN3 := Lib.hid (HN2.out w1 d1)
    have HS1 := Lib.hid hs1
    clear HN HN2 hs1 hbb
    go_wp2_with fail
    refine HN3.out.mono ?_
    rintro e w2 ⟨a2, cap2, L, rfl, hL, _, hstr, hb2⟩
    obtain rfl := hL (by simp)
    have d2 := d1.trans (hb2.mono e1)
    have e2 := d2.size
    have HS2 := Lib.hid (HS1.out.below hb2)
    have T2 := Lib.hid hstr
    clear HN3 hb2 d1 e1 hL hstr HS1
    have A2 := Lib.hid (ptat_in HS2.out k t HKK.out)
    have F2 := Lib.hid (HNUM.out w2 b HS2.out)
    go_wp2_with fail
    refine A2.out.mono ?_
    rintro e w' ⟨rfl, rfl⟩
    go_wp2_with fail
    refine F2.out.mono ?_
    rintro e w3 ⟨rfl, hb3⟩
    have d3 := d2.trans (hb3.mono e2)
    have e3 := d3.size
    have HS3 := Lib.hid (HS2.out.below hb3)
    have T3 := Lib.hid (T2.out.below hb3)
    have K3 := Lib.hid (HK.out w3 a2 cap2 T3.out)
    have L3 := Lib.hid (HXL.out w3 b HS3.out)
    obtain ⟨b3, off3, rfl, t', hf', hc3⟩ := str_at T3.out (Below.refl _ _) k hkl
    obtain rfl : t' = t := Option.some.inj (hf'.symm.trans HKK.out)
    clear hf'
    clear A2 F2 HS2 T2 d2 e2 hb3 HNUM HK
    go_wp2_with fail
    refine K3.out.mono ?_
    rintro e w' ⟨rfl, rfl⟩
    go_wp2_with fail
    refine L3.out.mono ?_
    rintro e w4 ⟨v, rfl, hown, hb4⟩
    have d4 := d3.trans (hb4.mono e3)
    have e4 := d4.size
    obtain ⟨a4, cap4, rfl, hst4⟩ := owns_strs hown
    have M4 := Lib.hid (essame_any a4 _ _ cap4 cap2 _ w4 (by omega) hst4 (T3.out.below hb4))
    have HS4 := Lib.hid (HS3.out.below hb4)
    have T4 := Lib.hid (T3.out.below hb4)
    clear K3 L3 HS3 T3 hown hst4 hb4 d3 e3
    go_wp2_with fail
    refine M4.out.mono ?_
    rintro e w5 ⟨rfl, hb5⟩
    have d5 := d4.trans (hb5.mono e4)
    have e5 := d5.size
    have HS5 := HS4.out.below hb5
    have T5 := T4.out.below hb5
    have B1 := Lib.hid (HXN.out w5 b HS5)
    have B2 := Lib.hid (HXA.out w5 b HS5)
    have B3 := Lib.hid (HA.out w5 _ cap2 T5)
    have B4 := Lib.hid (HXB.out w5 b HS5)
    have B5 := Lib.hid (HB.out w5 _ cap2 T5)
    have B6 := Lib.hid (HXC.out w5 b HS5)
    have B7 := Lib.hid (HC.out w5 _ cap2 T5)
    clear M4 HS4 T4 hb5 d4 e4 HS5 T5 HXN HXA HA HXB HB HXC HC HXL
    go_wp2_with fail
    refine B1.out.mono ?_
    rintro e w' ⟨rfl, rfl⟩
    go_wp2_with fail
    refine B2.out.mono ?_
    rintro e w' ⟨rfl, rfl⟩
    go_wp2_with fail
    refine B3.out.mono ?_
    rintro e w' ⟨rfl, rfl⟩
    go_wp2_with fail
    refine B4.out.mono ?_
    rintro e w' ⟨rfl, rfl⟩
    go_wp2_with fail
    refine B5.out.mono ?_
    rintro e w' ⟨rfl, rfl⟩
    go_wp2_with fail
    refine B6.out.mono ?_
    rintro e w' ⟨rfl, rfl⟩
    go_wp2_with fail
    refine B7.out.mono ?_
    rintro e w' ⟨rfl, rfl⟩
    go_wp2_with fail
    refine (ptawake_any _).mono ?_
    rintro e w6 ⟨rfl, hb6⟩
    have d6 := d5.trans (hb6.mono e5)
    go_wp2
    go_ret
    exact ⟨rfl, d6⟩
  · have x1 : numP s us = 0 := if_neg hm
    have x2 : decide (s ∈ us) = false := decide_eq_false hm
    have x3 : fndP s us = -1 := if_neg hm
    rw [x1, x2] at HNUM
    rw [x3] at HK
    clear hm x1 x2 x3
    go_enter Try.func3, Try.ntmps3
    go_wp2_with fail
    refine HF.out.mono ?_
    rintro e w' ⟨rfl, hw⟩
    obtain rfl := hw.symm
    clear HF hw
    go_wp2_with fail
    refine HN.out.mono ?_
    rintro e w1 ⟨b, rfl, hbb, hs1, d1⟩
    have e1 := d1.size
    have HN3 := Lib.hid (HN2.out w1 d1)
    have HS1 := Lib.hid hs1
    clear HN HN2 hs1 hbb
    go_wp2_with fail
    refine HN3.out.mono ?_
    rintro e w2 ⟨a2, cap2, L, rfl, hL, _, hstr, hb2⟩
    obtain rfl := hL (by simp)
    have d2 := d1.trans (hb2.mono e1)
    have e2 := d2.size
    have HS2 := Lib.hid (HS1.out.below hb2)
    have T2 := Lib.hid hstr
    clear HN3 hb2 d1 e1 hL hstr HS1
    have A2 := Lib.hid (ptat_in HS2.out k t HKK.out)
    have F2 := Lib.hid (HNUM.out w2 b HS2.out)
    go_wp2_with fail
    refine A2.out.mono ?_
    rintro e w' ⟨rfl, rfl⟩
    go_wp2_with fail
    refine F2.out.mono ?_
    rintro e w3 ⟨rfl, hb3⟩
    have d3 := d2.trans (hb3.mono e2)
    have e3 := d3.size
    have HS3 := Lib.hid (HS2.out.below hb3)
    have T3 := Lib.hid (T2.out.below hb3)
    have K3 := Lib.hid (HK.out w3 a2 cap2 T3.out)
    have L3 := Lib.hid (HXL.out w3 b HS3.out)
    obtain ⟨b3, off3, rfl, t', hf', hc3⟩ := str_at T3.out (Below.refl _ _) k hkl
    obtain rfl : t' = t := Option.some.inj (hf'.symm.trans HKK.out)
    clear hf'
    clear A2 F2 HS2 T2 d2 e2 hb3 HNUM HK
    go_wp2_with fail
    refine K3.out.mono ?_
    rintro e w' ⟨rfl, rfl⟩
    go_wp2_with fail
    refine L3.out.mono ?_
    rintro e w4 ⟨v, rfl, hown, hb4⟩
    have d4 := d3.trans (hb4.mono e3)
    have e4 := d4.size
    obtain ⟨a4, cap4, rfl, hst4⟩ := owns_strs hown
    have M4 := Lib.hid (essame_any a4 _ _ cap4 cap2 _ w4 (by omega) hst4 (T3.out.below hb4))
    have HS4 := Lib.hid (HS3.out.below hb4)
    have T4 := Lib.hid (T3.out.below hb4)
    clear K3 L3 HS3 T3 hown hst4 hb4 d3 e3
    go_wp2_with fail
    refine M4.out.mono ?_
    rintro e w5 ⟨rfl, hb5⟩
    have d5 := d4.trans (hb5.mono e4)
    have e5 := d5.size
    have HS5 := HS4.out.below hb5
    have T5 := T4.out.below hb5
    have B1 := Lib.hid (HXN.out w5 b HS5)
    have B2 := Lib.hid (HXA.out w5 b HS5)
    have B3 := Lib.hid (HA.out w5 _ cap2 T5)
    have B4 := Lib.hid (HXB.out w5 b HS5)
    have B5 := Lib.hid (HB.out w5 _ cap2 T5)
    have B6 := Lib.hid (HXC.out w5 b HS5)
    have B7 := Lib.hid (HC.out w5 _ cap2 T5)
    clear M4 HS4 T4 hb5 d4 e4 HS5 T5 HXN HXA HA HXB HB HXC HC HXL
    go_wp2_with fail
    refine B1.out.mono ?_
    rintro e w' ⟨rfl, rfl⟩
    go_wp2_with fail
    refine B2.out.mono ?_
    rintro e w' ⟨rfl, rfl⟩
    go_wp2_with fail
    refine B3.out.mono ?_
    rintro e w' ⟨rfl, rfl⟩
    go_wp2_with fail
    refine B4.out.mono ?_
    rintro e w' ⟨rfl, rfl⟩
    go_wp2_with fail
    refine B5.out.mono ?_
    rintro e w' ⟨rfl, rfl⟩
    go_wp2_with fail
    refine B6.out.mono ?_
    rintro e w' ⟨rfl, rfl⟩
    go_wp2_with fail
    refine B7.out.mono ?_
    rintro e w' ⟨rfl, rfl⟩
    go_wp2_with fail
    refine (ptawake_any _).mono ?_
    rintro e w6 ⟨rfl, hb6⟩
    have d6 := d5.trans (hb6.mono e5)
    go_wp2
    go_ret
    exact ⟨rfl, d6⟩

set_option maxHeartbeats 4000000 in
theorem ptmade_low (a : Option Addr) (len cap : Nat) (ws : List (List UInt8)) (id : Int) (s : List UInt8) (w : World) (hr : IsStrs w a len ws) (hq : fewB ws 20 50 = true) (hs : s.length ≤ 50) (hf : faultL ws = 0) (hk : id < 0) :
    Calls Try.prog 3 #[.slice a len cap, .int .i64 id, .string ⟨s.toArray⟩] w fun e w' => e = .returned (.bool true) ∧ Below w.heap.size w w' := by
  have hwl := hr.1
  have hfw := (few_iff ws 20 50).1 hq
  have hlen : len ≤ 20 := by omega
  have hP := ((fault_zero ws).1 hf).srt
  have HF := Lib.hid (few_yes a len cap ws w (by omega) hr (fun t ht => by have := hfw.2 t ht; omega) hq)
  have S1 := Lib.hid (bsize s)
  have HN := Lib.hid (ptnew_good a len cap ws w (by omega) hr hf)
  have HN2 := Lib.hid (fun (w2 : World) (hb : Below w.heap.size w w2) => rptnew_any a len cap ws w2 (by omega) (hr.below hb) (fun t ht => by have := hfw.2 t ht; omega))
  unfold NewR at HN2
  rw [hf] at HN2
  have ha := srt_asc ws
  have hul : (srt ws).length ≤ 20 := by rw [srt_length]; omega
  generalize srt ws = us at *
  have hea : ∀ t ∈ us, t.length ≤ 65535 := fun t ht => (hP.each t ht).2
  have HNUM := Lib.hid (fun (w2 : World) (b : Nat) (h : IsSet w2 b us) => ptfind_any h (by omega) ha s)
  have HK := Lib.hid (fun (w2 : World) (a2 : Option Addr) (cap2 : Nat) (h : IsStrs w2 a2 us.length us) => rptfind_any a2 us.length cap2 us s w2 (by omega) h ha hP.once)
  have HA := Lib.hid (fun (w2 : World) (a2 : Option Addr) (cap2 : Nat) (h : IsStrs w2 a2 us.length us) => rptleast_any a2 us.length cap2 us w2 (by omega) h hea)
  have HB := Lib.hid (fun (w2 : World) (a2 : Option Addr) (cap2 : Nat) (h : IsStrs w2 a2 us.length us) => rptmost_any a2 us.length cap2 us w2 (by omega) h hea)
  have HC := Lib.hid (fun (w2 : World) (a2 : Option Addr) (cap2 : Nat) (h : IsStrs w2 a2 us.length us) => rpttotal_any a2 us.length cap2 us w2 (by omega) h hea)
  rw [leastR_some hP] at HA
  have HXA := Lib.hid (fun (w2 : World) (b : Nat) (h : IsSet w2 b us) => ptleast_any h)
  have HXB := Lib.hid (fun (w2 : World) (b : Nat) (h : IsSet w2 b us) => ptmost_any h)
  have HXC := Lib.hid (fun (w2 : World) (b : Nat) (h : IsSet w2 b us) => pttotal_any h)
  have HXN := Lib.hid (fun (w2 : World) (b : Nat) (h : IsSet w2 b us) => ptlen_any h)
  have HXL := Lib.hid (fun (w2 : World) (b : Nat) (h : IsSet w2 b us) => ptlist_any h (by omega))
  generalize leastL us = xa at HA HXA
  generalize mostL us = xb at HB HXB
  generalize totalL us = xc at HC HXC
  have q0 : (0 : Int) = 0 := rfl

  clear hr hq hfw hwl hf hP ha hea
  by_cases hm : s ∈ us
  · have x1 : numP s us = (ahdS s us : Int) := if_pos hm
    have x2 : decide (s ∈ us) = true := decide_eq_true hm
    have x3 : fndP s us = (ahdS s us : Int) := if_pos hm
    rw [x1, x2] at HNUM
    rw [x3] at HK
    generalize ahdS s us = m at HNUM HK
    have m0 : (0 : Int) ≤ (m : Int) := by omega
    clear hm x1 x2 x3
    go_enter Try.func3, Try.ntmps3
    go_wp2_with fail
    refine HF.out.mono ?_
    rintro e w' ⟨rfl, hw⟩
    obtain rfl := hw.symm
    clear HF hw
    go_wp2_with fail
    refine HN.out.mono ?_
    rintro e w1 ⟨b, rfl, hbb, hs1, d1⟩
    have e1 := d1.size
    have HN3 := Lib.hid (HN2.out w1 d1)
    have HS1 := Lib.hid hs1
    clear HN HN2 hs1 hbb
    go_wp2_with fail
    refine HN3.out.mono ?_
    rintro e w2 ⟨a2, cap2, L, rfl, hL, _, hstr, hb2⟩
    obtain rfl := hL (by simp)
    have d2 := d1.trans (hb2.mono e1)
    have e2 := d2.size
    have HS2 := Lib.hid (HS1.out.below hb2)
    have T2 := Lib.hid hstr
    clear HN3 hb2 d1 e1 hL hstr HS1
    have A2 := Lib.hid (ptat_out HS2.out id (.inl hk))
    have F2 := Lib.hid (HNUM.out w2 b HS2.out)
    go_wp2_with fail
    refine A2.out.mono ?_
    rintro e w' ⟨rfl, rfl⟩
    go_wp2_with fail
    refine F2.out.mono ?_
    rintro e w3 ⟨rfl, hb3⟩
    have d3 := d2.trans (hb3.mono e2)
    have e3 := d3.size
    have HS3 := Lib.hid (HS2.out.below hb3)
    have T3 := Lib.hid (T2.out.below hb3)
    have K3 := Lib.hid (HK.out w3 a2 cap2 T3.out)
    have L3 := Lib.hid (HXL.out w3 b HS3.out)
    clear A2 F2 HS2 T2 d2 e2 hb3 HNUM HK
    go_wp2_with fail
    refine K3.out.mono ?_
    rintro e w' ⟨rfl, rfl⟩
    go_wp2_with fail
    refine L3.out.mono ?_
    rintro e w4 ⟨v, rfl, hown, hb4⟩
    have d4 := d3.trans (hb4.mono e3)
    have e4 := d4.size
    obtain ⟨a4, cap4, rfl, hst4⟩ := owns_strs hown
    have M4 := Lib.hid (essame_any a4 _ _ cap4 cap2 _ w4 (by omega) hst4 (T3.out.below hb4))
    have HS4 := Lib.hid (HS3.out.below hb4)
    have T4 := Lib.hid (T3.out.below hb4)
    clear K3 L3 HS3 T3 hown hst4 hb4 d3 e3
    go_wp2_with fail
    refine M4.out.mono ?_
    rintro e w5 ⟨rfl, hb5⟩
    have d5 := d4.trans (hb5.mono e4)
    have e5 := d5.size
    have HS5 := HS4.out.below hb5
    have T5 := T4.out.below hb5
    have B1 := Lib.hid (HXN.out w5 b HS5)
    have B2 := Lib.hid (HXA.out w5 b HS5)
    have B3 := Lib.hid (HA.out w5 _ cap2 T5)
    have B4 := Lib.hid (HXB.out w5 b HS5)
    have B5 := Lib.hid (HB.out w5 _ cap2 T5)
    have B6 := Lib.hid (HXC.out w5 b HS5)
    have B7 := Lib.hid (HC.out w5 _ cap2 T5)
    clear M4 HS4 T4 hb5 d4 e4 HS5 T5 HXN HXA HA HXB HB HXC HC HXL
    go_wp2_with fail
    refine B1.out.mono ?_
    rintro e w' ⟨rfl, rfl⟩
    go_wp2_with fail
    refine B2.out.mono ?_
    rintro e w' ⟨rfl, rfl⟩
    go_wp2_with fail
    refine B3.out.mono ?_
    rintro e w' ⟨rfl, rfl⟩
    go_wp2_with fail
    refine B4.out.mono ?_
    rintro e w' ⟨rfl, rfl⟩
    go_wp2_with fail
    refine B5.out.mono ?_
    rintro e w' ⟨rfl, rfl⟩
    go_wp2_with fail
    refine B6.out.mono ?_
    rintro e w' ⟨rfl, rfl⟩
    go_wp2_with fail
    refine B7.out.mono ?_
    rintro e w' ⟨rfl, rfl⟩
    go_wp2_with fail
    refine (ptawake_any _).mono ?_
    rintro e w6 ⟨rfl, hb6⟩
    have d6 := d5.trans (hb6.mono e5)
    go_wp2
    go_ret
    exact ⟨rfl, d6⟩
  · have x1 : numP s us = 0 := if_neg hm
    have x2 : decide (s ∈ us) = false := decide_eq_false hm
    have x3 : fndP s us = -1 := if_neg hm
    rw [x1, x2] at HNUM
    rw [x3] at HK
    clear hm x1 x2 x3
    go_enter Try.func3, Try.ntmps3
    go_wp2_with fail
    refine HF.out.mono ?_
    rintro e w' ⟨rfl, hw⟩
    obtain rfl := hw.symm
    clear HF hw
    go_wp2_with fail
    refine HN.out.mono ?_
    rintro e w1 ⟨b, rfl, hbb, hs1, d1⟩
    have e1 := d1.size
    have HN3 := Lib.hid (HN2.out w1 d1)
    have HS1 := Lib.hid hs1
    clear HN HN2 hs1 hbb
    go_wp2_with fail
    refine HN3.out.mono ?_
    rintro e w2 ⟨a2, cap2, L, rfl, hL, _, hstr, hb2⟩
    obtain rfl := hL (by simp)
    have d2 := d1.trans (hb2.mono e1)
    have e2 := d2.size
    have HS2 := Lib.hid (HS1.out.below hb2)
    have T2 := Lib.hid hstr
    clear HN3 hb2 d1 e1 hL hstr HS1
    have A2 := Lib.hid (ptat_out HS2.out id (.inl hk))
    have F2 := Lib.hid (HNUM.out w2 b HS2.out)
    go_wp2_with fail
    refine A2.out.mono ?_
    rintro e w' ⟨rfl, rfl⟩
    go_wp2_with fail
    refine F2.out.mono ?_
    rintro e w3 ⟨rfl, hb3⟩
    have d3 := d2.trans (hb3.mono e2)
    have e3 := d3.size
    have HS3 := Lib.hid (HS2.out.below hb3)
    have T3 := Lib.hid (T2.out.below hb3)
    have K3 := Lib.hid (HK.out w3 a2 cap2 T3.out)
    have L3 := Lib.hid (HXL.out w3 b HS3.out)
    clear A2 F2 HS2 T2 d2 e2 hb3 HNUM HK
    go_wp2_with fail
    refine K3.out.mono ?_
    rintro e w' ⟨rfl, rfl⟩
    go_wp2_with fail
    refine L3.out.mono ?_
    rintro e w4 ⟨v, rfl, hown, hb4⟩
    have d4 := d3.trans (hb4.mono e3)
    have e4 := d4.size
    obtain ⟨a4, cap4, rfl, hst4⟩ := owns_strs hown
    have M4 := Lib.hid (essame_any a4 _ _ cap4 cap2 _ w4 (by omega) hst4 (T3.out.below hb4))
    have HS4 := Lib.hid (HS3.out.below hb4)
    have T4 := Lib.hid (T3.out.below hb4)
    clear K3 L3 HS3 T3 hown hst4 hb4 d3 e3
    go_wp2_with fail
    refine M4.out.mono ?_
    rintro e w5 ⟨rfl, hb5⟩
    have d5 := d4.trans (hb5.mono e4)
    have e5 := d5.size
    have HS5 := HS4.out.below hb5
    have T5 := T4.out.below hb5
    have B1 := Lib.hid (HXN.out w5 b HS5)
    have B2 := Lib.hid (HXA.out w5 b HS5)
    have B3 := Lib.hid (HA.out w5 _ cap2 T5)
    have B4 := Lib.hid (HXB.out w5 b HS5)
    have B5 := Lib.hid (HB.out w5 _ cap2 T5)
    have B6 := Lib.hid (HXC.out w5 b HS5)
    have B7 := Lib.hid (HC.out w5 _ cap2 T5)
    clear M4 HS4 T4 hb5 d4 e4 HS5 T5 HXN HXA HA HXB HB HXC HC HXL
    go_wp2_with fail
    refine B1.out.mono ?_
    rintro e w' ⟨rfl, rfl⟩
    go_wp2_with fail
    refine B2.out.mono ?_
    rintro e w' ⟨rfl, rfl⟩
    go_wp2_with fail
    refine B3.out.mono ?_
    rintro e w' ⟨rfl, rfl⟩
    go_wp2_with fail
    refine B4.out.mono ?_
    rintro e w' ⟨rfl, rfl⟩
    go_wp2_with fail
    refine B5.out.mono ?_
    rintro e w' ⟨rfl, rfl⟩
    go_wp2_with fail
    refine B6.out.mono ?_
    rintro e w' ⟨rfl, rfl⟩
    go_wp2_with fail
    refine B7.out.mono ?_
    rintro e w' ⟨rfl, rfl⟩
    go_wp2_with fail
    refine (ptawake_any _).mono ?_
    rintro e w6 ⟨rfl, hb6⟩
    have d6 := d5.trans (hb6.mono e5)
    go_wp2
    go_ret
    exact ⟨rfl, d6⟩

set_option maxHeartbeats 4000000 in
theorem ptmade_high (a : Option Addr) (len cap : Nat) (ws : List (List UInt8)) (id : Int) (s : List UInt8) (w : World) (hr : IsStrs w a len ws) (hq : fewB ws 20 50 = true) (hs : s.length ≤ 50) (hf : faultL ws = 0) (hk0 : 0 ≤ id) (hk : ((srt ws).length : Int) ≤ id) :
    Calls Try.prog 3 #[.slice a len cap, .int .i64 id, .string ⟨s.toArray⟩] w fun e w' => e = .returned (.bool true) ∧ Below w.heap.size w w' := by
  have hwl := hr.1
  have hfw := (few_iff ws 20 50).1 hq
  have hlen : len ≤ 20 := by omega
  have hP := ((fault_zero ws).1 hf).srt
  have HF := Lib.hid (few_yes a len cap ws w (by omega) hr (fun t ht => by have := hfw.2 t ht; omega) hq)
  have S1 := Lib.hid (bsize s)
  have HN := Lib.hid (ptnew_good a len cap ws w (by omega) hr hf)
  have HN2 := Lib.hid (fun (w2 : World) (hb : Below w.heap.size w w2) => rptnew_any a len cap ws w2 (by omega) (hr.below hb) (fun t ht => by have := hfw.2 t ht; omega))
  unfold NewR at HN2
  rw [hf] at HN2
  have ha := srt_asc ws
  have hul : (srt ws).length ≤ 20 := by rw [srt_length]; omega
  generalize srt ws = us at *
  have hea : ∀ t ∈ us, t.length ≤ 65535 := fun t ht => (hP.each t ht).2
  have HNUM := Lib.hid (fun (w2 : World) (b : Nat) (h : IsSet w2 b us) => ptfind_any h (by omega) ha s)
  have HK := Lib.hid (fun (w2 : World) (a2 : Option Addr) (cap2 : Nat) (h : IsStrs w2 a2 us.length us) => rptfind_any a2 us.length cap2 us s w2 (by omega) h ha hP.once)
  have HA := Lib.hid (fun (w2 : World) (a2 : Option Addr) (cap2 : Nat) (h : IsStrs w2 a2 us.length us) => rptleast_any a2 us.length cap2 us w2 (by omega) h hea)
  have HB := Lib.hid (fun (w2 : World) (a2 : Option Addr) (cap2 : Nat) (h : IsStrs w2 a2 us.length us) => rptmost_any a2 us.length cap2 us w2 (by omega) h hea)
  have HC := Lib.hid (fun (w2 : World) (a2 : Option Addr) (cap2 : Nat) (h : IsStrs w2 a2 us.length us) => rpttotal_any a2 us.length cap2 us w2 (by omega) h hea)
  rw [leastR_some hP] at HA
  have HXA := Lib.hid (fun (w2 : World) (b : Nat) (h : IsSet w2 b us) => ptleast_any h)
  have HXB := Lib.hid (fun (w2 : World) (b : Nat) (h : IsSet w2 b us) => ptmost_any h)
  have HXC := Lib.hid (fun (w2 : World) (b : Nat) (h : IsSet w2 b us) => pttotal_any h)
  have HXN := Lib.hid (fun (w2 : World) (b : Nat) (h : IsSet w2 b us) => ptlen_any h)
  have HXL := Lib.hid (fun (w2 : World) (b : Nat) (h : IsSet w2 b us) => ptlist_any h (by omega))
  generalize leastL us = xa at HA HXA
  generalize mostL us = xb at HB HXB
  generalize totalL us = xc at HC HXC
  have q0 : (0 : Int) = 0 := rfl

  clear hr hq hfw hwl hf hP ha hea
  by_cases hm : s ∈ us
  · have x1 : numP s us = (ahdS s us : Int) := if_pos hm
    have x2 : decide (s ∈ us) = true := decide_eq_true hm
    have x3 : fndP s us = (ahdS s us : Int) := if_pos hm
    rw [x1, x2] at HNUM
    rw [x3] at HK
    generalize ahdS s us = m at HNUM HK
    have m0 : (0 : Int) ≤ (m : Int) := by omega
    clear hm x1 x2 x3
    go_enter Try.func3, Try.ntmps3
    go_wp2_with fail
    refine HF.out.mono ?_
    rintro e w' ⟨rfl, hw⟩
    obtain rfl := hw.symm
    clear HF hw
    go_wp2_with fail
    refine HN.out.mono ?_
    rintro e w1 ⟨b, rfl, hbb, hs1, d1⟩
    have e1 := d1.size
    have HN3 := Lib.hid (HN2.out w1 d1)
    have HS1 := Lib.hid hs1
    clear HN HN2 hs1 hbb
    go_wp2_with fail
    refine HN3.out.mono ?_
    rintro e w2 ⟨a2, cap2, L, rfl, hL, _, hstr, hb2⟩
    obtain rfl := hL (by simp)
    have d2 := d1.trans (hb2.mono e1)
    have e2 := d2.size
    have HS2 := Lib.hid (HS1.out.below hb2)
    have T2 := Lib.hid hstr
    clear HN3 hb2 d1 e1 hL hstr HS1
    have A2 := Lib.hid (ptat_out HS2.out id (.inr hk))
    have F2 := Lib.hid (HNUM.out w2 b HS2.out)
    go_wp2_with fail
    refine A2.out.mono ?_
    rintro e w' ⟨rfl, rfl⟩
    go_wp2_with fail
    refine F2.out.mono ?_
    rintro e w3 ⟨rfl, hb3⟩
    have d3 := d2.trans (hb3.mono e2)
    have e3 := d3.size
    have HS3 := Lib.hid (HS2.out.below hb3)
    have T3 := Lib.hid (T2.out.below hb3)
    have K3 := Lib.hid (HK.out w3 a2 cap2 T3.out)
    have L3 := Lib.hid (HXL.out w3 b HS3.out)
    clear A2 F2 HS2 T2 d2 e2 hb3 HNUM HK
    go_wp2_with fail
    refine K3.out.mono ?_
    rintro e w' ⟨rfl, rfl⟩
    go_wp2_with fail
    refine L3.out.mono ?_
    rintro e w4 ⟨v, rfl, hown, hb4⟩
    have d4 := d3.trans (hb4.mono e3)
    have e4 := d4.size
    obtain ⟨a4, cap4, rfl, hst4⟩ := owns_strs hown
    have M4 := Lib.hid (essame_any a4 _ _ cap4 cap2 _ w4 (by omega) hst4 (T3.out.below hb4))
    have HS4 := Lib.hid (HS3.out.below hb4)
    have T4 := Lib.hid (T3.out.below hb4)
    clear K3 L3 HS3 T3 hown hst4 hb4 d3 e3
    go_wp2_with fail
    refine M4.out.mono ?_
    rintro e w5 ⟨rfl, hb5⟩
    have d5 := d4.trans (hb5.mono e4)
    have e5 := d5.size
    have HS5 := HS4.out.below hb5
    have T5 := T4.out.below hb5
    have B1 := Lib.hid (HXN.out w5 b HS5)
    have B2 := Lib.hid (HXA.out w5 b HS5)
    have B3 := Lib.hid (HA.out w5 _ cap2 T5)
    have B4 := Lib.hid (HXB.out w5 b HS5)
    have B5 := Lib.hid (HB.out w5 _ cap2 T5)
    have B6 := Lib.hid (HXC.out w5 b HS5)
    have B7 := Lib.hid (HC.out w5 _ cap2 T5)
    clear M4 HS4 T4 hb5 d4 e4 HS5 T5 HXN HXA HA HXB HB HXC HC HXL
    go_wp2_with fail
    refine B1.out.mono ?_
    rintro e w' ⟨rfl, rfl⟩
    go_wp2_with fail
    refine B2.out.mono ?_
    rintro e w' ⟨rfl, rfl⟩
    go_wp2_with fail
    refine B3.out.mono ?_
    rintro e w' ⟨rfl, rfl⟩
    go_wp2_with fail
    refine B4.out.mono ?_
    rintro e w' ⟨rfl, rfl⟩
    go_wp2_with fail
    refine B5.out.mono ?_
    rintro e w' ⟨rfl, rfl⟩
    go_wp2_with fail
    refine B6.out.mono ?_
    rintro e w' ⟨rfl, rfl⟩
    go_wp2_with fail
    refine B7.out.mono ?_
    rintro e w' ⟨rfl, rfl⟩
    go_wp2_with fail
    refine (ptawake_any _).mono ?_
    rintro e w6 ⟨rfl, hb6⟩
    have d6 := d5.trans (hb6.mono e5)
    go_wp2
    go_ret
    exact ⟨rfl, d6⟩
  · have x1 : numP s us = 0 := if_neg hm
    have x2 : decide (s ∈ us) = false := decide_eq_false hm
    have x3 : fndP s us = -1 := if_neg hm
    rw [x1, x2] at HNUM
    rw [x3] at HK
    clear hm x1 x2 x3
    go_enter Try.func3, Try.ntmps3
    go_wp2_with fail
    refine HF.out.mono ?_
    rintro e w' ⟨rfl, hw⟩
    obtain rfl := hw.symm
    clear HF hw
    go_wp2_with fail
    refine HN.out.mono ?_
    rintro e w1 ⟨b, rfl, hbb, hs1, d1⟩
    have e1 := d1.size
    have HN3 := Lib.hid (HN2.out w1 d1)
    have HS1 := Lib.hid hs1
    clear HN HN2 hs1 hbb
    go_wp2_with fail
    refine HN3.out.mono ?_
    rintro e w2 ⟨a2, cap2, L, rfl, hL, _, hstr, hb2⟩
    obtain rfl := hL (by simp)
    have d2 := d1.trans (hb2.mono e1)
    have e2 := d2.size
    have HS2 := Lib.hid (HS1.out.below hb2)
    have T2 := Lib.hid hstr
    clear HN3 hb2 d1 e1 hL hstr HS1
    have A2 := Lib.hid (ptat_out HS2.out id (.inr hk))
    have F2 := Lib.hid (HNUM.out w2 b HS2.out)
    go_wp2_with fail
    refine A2.out.mono ?_
    rintro e w' ⟨rfl, rfl⟩
    go_wp2_with fail
    refine F2.out.mono ?_
    rintro e w3 ⟨rfl, hb3⟩
    have d3 := d2.trans (hb3.mono e2)
    have e3 := d3.size
    have HS3 := Lib.hid (HS2.out.below hb3)
    have T3 := Lib.hid (T2.out.below hb3)
    have K3 := Lib.hid (HK.out w3 a2 cap2 T3.out)
    have L3 := Lib.hid (HXL.out w3 b HS3.out)
    clear A2 F2 HS2 T2 d2 e2 hb3 HNUM HK
    go_wp2_with fail
    refine K3.out.mono ?_
    rintro e w' ⟨rfl, rfl⟩
    go_wp2_with fail
    refine L3.out.mono ?_
    rintro e w4 ⟨v, rfl, hown, hb4⟩
    have d4 := d3.trans (hb4.mono e3)
    have e4 := d4.size
    obtain ⟨a4, cap4, rfl, hst4⟩ := owns_strs hown
    have M4 := Lib.hid (essame_any a4 _ _ cap4 cap2 _ w4 (by omega) hst4 (T3.out.below hb4))
    have HS4 := Lib.hid (HS3.out.below hb4)
    have T4 := Lib.hid (T3.out.below hb4)
    clear K3 L3 HS3 T3 hown hst4 hb4 d3 e3
    go_wp2_with fail
    refine M4.out.mono ?_
    rintro e w5 ⟨rfl, hb5⟩
    have d5 := d4.trans (hb5.mono e4)
    have e5 := d5.size
    have HS5 := HS4.out.below hb5
    have T5 := T4.out.below hb5
    have B1 := Lib.hid (HXN.out w5 b HS5)
    have B2 := Lib.hid (HXA.out w5 b HS5)
    have B3 := Lib.hid (HA.out w5 _ cap2 T5)
    have B4 := Lib.hid (HXB.out w5 b HS5)
    have B5 := Lib.hid (HB.out w5 _ cap2 T5)
    have B6 := Lib.hid (HXC.out w5 b HS5)
    have B7 := Lib.hid (HC.out w5 _ cap2 T5)
    clear M4 HS4 T4 hb5 d4 e4 HS5 T5 HXN HXA HA HXB HB HXC HC HXL
    go_wp2_with fail
    refine B1.out.mono ?_
    rintro e w' ⟨rfl, rfl⟩
    go_wp2_with fail
    refine B2.out.mono ?_
    rintro e w' ⟨rfl, rfl⟩
    go_wp2_with fail
    refine B3.out.mono ?_
    rintro e w' ⟨rfl, rfl⟩
    go_wp2_with fail
    refine B4.out.mono ?_
    rintro e w' ⟨rfl, rfl⟩
    go_wp2_with fail
    refine B5.out.mono ?_
    rintro e w' ⟨rfl, rfl⟩
    go_wp2_with fail
    refine B6.out.mono ?_
    rintro e w' ⟨rfl, rfl⟩
    go_wp2_with fail
    refine B7.out.mono ?_
    rintro e w' ⟨rfl, rfl⟩
    go_wp2_with fail
    refine (ptawake_any _).mono ?_
    rintro e w6 ⟨rfl, hb6⟩
    have d6 := d5.trans (hb6.mono e5)
    go_wp2
    go_ret
    exact ⟨rfl, d6⟩
end Go.Proofs.Ytkhjemoojmoncaa
