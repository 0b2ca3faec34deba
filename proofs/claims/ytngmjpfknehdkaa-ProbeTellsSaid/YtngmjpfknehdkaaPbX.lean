/-
  The law ProbeTells: walked.
-/
import Derived.Test.YtngmjpfknehdkaaBn11
import Derived.Test.YtngmjpfknehdkaaBn3
set_option linter.unusedSimpArgs false
set_option linter.unusedVariables false
namespace Go.Proofs.Ytngmjpfknehdkaa
open Go.RowKit

set_option maxRecDepth 100000 in
set_option maxHeartbeats 1000000 in
theorem pbtells_many (a : Option Addr) (len cap : Nat) (s : List UInt8) (e more : Int) (skip : Bool) (ws : List (List UInt8)) (w : World) (hlen : len ≤ 9223372036854775807) (hr : IsStrs w a len ws) (ht : ∀ t ∈ ws, t.length ≤ 9223372036854775807) (hq : fewB ws 8 12 = false) :
    Calls Try.prog 3 #[.slice a len cap, .string ⟨s.toArray⟩, .int .i64 e, .int .i64 more, .bool skip] w fun e w' => e = .returned (.bool true) ∧ Below w.heap.size w w' := by
  have HF := Lib.hid (few_no8 a len cap ws w hlen hr ht _ hq)
  clear hr ht hq
  go_enter Try.func3, Try.ntmps3
  go_wp2_with fail
  refine HF.out.mono ?_
  rintro E w' ⟨rfl, rfl⟩
  go_wp2_with fail
  refine (pbawake_any _).mono ?_
  rintro E w' ⟨rfl, hb⟩
  go_wp2
  go_ret
  exact ⟨rfl, hb⟩
set_option maxRecDepth 100000 in
set_option maxHeartbeats 1000000 in
theorem pbtells_bad (a : Option Addr) (len cap : Nat) (s : List UInt8) (e more : Int) (skip : Bool) (ws : List (List UInt8)) (w : World) (hlen : len ≤ 9223372036854775807) (hr : IsStrs w a len ws) (ht : ∀ t ∈ ws, t.length ≤ 9223372036854775807) (hq : fewB ws 8 12 = true) (hbad : 60 < s.length ∨ e < 1 ∨ (s.length : Int) < e) :
    Calls Try.prog 3 #[.slice a len cap, .string ⟨s.toArray⟩, .int .i64 e, .int .i64 more, .bool skip] w fun e w' => e = .returned (.bool true) ∧ Below w.heap.size w w' := by
  have HF := Lib.hid (few_no8 a len cap ws w hlen hr ht _ hq)
  have S1 := Lib.hid (bsize s)
  have HBad := Lib.hid hbad
  clear hr ht hq hbad
  by_cases h1 : 60 < s.length
  · have g1 : (60 : Int) < (s.length : Int) := by omega
    have g1d : decide ((60 : Int) < (s.length : Int)) = true := decide_eq_true g1
    go_enter Try.func3, Try.ntmps3
    go_wp2_with fail
    refine HF.out.mono ?_
    rintro E w' ⟨rfl, rfl⟩
    go_wp2_with fail
    refine (pbawake_any _).mono ?_
    rintro E w' ⟨rfl, hb⟩
    go_wp2
    go_ret
    exact ⟨rfl, hb⟩
  · have g1 : ¬ (60 : Int) < (s.length : Int) := by omega
    have g1d : decide ((60 : Int) < (s.length : Int)) = false := decide_eq_false g1
    by_cases h2 : e < 1
    · have g2d : decide (e < 1) = true := decide_eq_true h2
      clear h1
      go_enter Try.func3, Try.ntmps3
      go_wp2_with fail
      refine HF.out.mono ?_
      rintro E w' ⟨rfl, rfl⟩
      go_wp2_with fail
      refine (pbawake_any _).mono ?_
      rintro E w' ⟨rfl, hb⟩
      go_wp2
      go_ret
      exact ⟨rfl, hb⟩
    · have g2d : decide (e < 1) = false := decide_eq_false h2
      have g3 : (s.length : Int) < e := by have := HBad.out; omega
      have g3d : decide ((s.length : Int) < e) = true := decide_eq_true g3
      clear h1
      go_enter Try.func3, Try.ntmps3
      go_wp2_with fail
      refine HF.out.mono ?_
      rintro E w' ⟨rfl, rfl⟩
      go_wp2_with fail
      refine (pbawake_any _).mono ?_
      rintro E w' ⟨rfl, hb⟩
      go_wp2
      go_ret
      exact ⟨rfl, hb⟩

set_option maxRecDepth 100000 in
set_option maxHeartbeats 4000000 in
theorem pbtells_good (a : Option Addr) (len cap : Nat) (s : List UInt8) (e : Nat) (more : Int) (skip : Bool) (ws : List (List UInt8)) (w : World) (hr : IsStrs w a len ws) (hq : fewB ws 8 12 = true) (hs : s.length ≤ 60) (he : 0 < e) (hes : e ≤ s.length) :
    Calls Try.prog 3 #[.slice a len cap, .string ⟨s.toArray⟩, .int .i64 (e : Int), .int .i64 more, .bool skip] w fun e w' => e = .returned (.bool true) ∧ Below w.heap.size w w' := by
  have hwl := hr.1
  have hfw := (few_iff ws 8 12).1 hq
  have hlen : len ≤ 8 := by omega
  have HF := Lib.hid (few_no8 a len cap ws w (by omega) hr (fun t ht => by have := hfw.2 t ht; omega) _ hq)
  have HN := Lib.hid (ptnew_all a len cap ws w (by omega) hr (fun t ht => by have := hfw.2 t ht; omega))
  have HN2 := Lib.hid (fun (w2 : World) (hb : Below w.heap.size w w2) => rptnew_all a len cap ws w2 (by omega) (hr.below hb) (fun t ht => by have := hfw.2 t ht; omega))
  obtain ⟨hs1, hs2⟩ := few_setN hq
  have hs3 : ∀ t ∈ setL ws, 0 < t.length := fun t h => (set_mem h).2.1
  generalize setL ws = us at HN HN2 hs1 hs2 hs3
  generalize faultL ws = f at HN HN2
  have hm12 : mostL us ≤ 12 := most_le hs2
  have HMo := Lib.hid (fun (W : World) (a2 : Option Addr) (cap2 : Nat) (h : IsStrs W a2 us.length us) => rptmost_any a2 us.length cap2 us W (by omega) h (fun t ht => by have := hs2 t ht; omega))
  obtain ⟨y, hy, hmask'⟩ := mask_at more 7 (by omega)
  have hmask : bits .and .i64 more 7 = (y : Int) := hmask'
  clear hmask'
  -- how many of the last bytes
  obtain ⟨M2, hM2⟩ : ∃ M2, mostL us + 2 = M2 := ⟨_, rfl⟩
  obtain ⟨N0, hN0⟩ : ∃ N0, M2 + y = N0 := ⟨_, rfl⟩
  have wA : IntKind.i64.wrap ((mostL us : Int) + 2) = (M2 : Int) := by rw [IntKind.wrap_i64]; omega
  have wB : IntKind.i64.wrap ((M2 : Int) + (y : Int)) = (N0 : Int) := by rw [IntKind.wrap_i64]; omega
  obtain ⟨N, hN⟩ : ∃ N, (if e < N0 then e else N0) = N := ⟨_, rfl⟩
  have hNe : N ≤ e := by rw [← hN]; split <;> omega
  have hNt : N = e ∨ max (mostL us) 2 ≤ N := by rw [← hN]; split <;> omega
  obtain ⟨K, hK⟩ : ∃ K, K + N = e := ⟨e - N, by omega⟩
  have wC : IntKind.i64.wrap ((e : Int) - (N : Int)) = (K : Int) := by rw [IntKind.wrap_i64]; omega
  have htail := IsTail.drop (us := us) he hes hNt hNe
  rw [show e - N = K by omega] at htail
  have hxc := ext_cut s K e
  generalize (s.take e).drop K = tl at htail hxc
  have htl : tl.length ≤ 1000000 := by have := htail.2.2.2.1; omega
  have hus : ∀ t ∈ us, 0 < t.length ∧ t.length ≤ 1000000 := fun t h => ⟨hs3 t h, by have := hs2 t h; omega⟩
  have huk : ∀ t ∈ us, 0 < t.length ∧ t.length ≤ 65535 := fun t h => ⟨hs3 t h, by have := hs2 t h; omega⟩
  have HPN := Lib.hid (fun (W : World) (p : Option Addr) (h : IsPats W p us) => pbnew_any h)
  have HMi := Lib.hid (fun (W : World) (b : Nat) (h : IsProbe W b us) => pbmiss_any h htail htl (by omega) hus (by omega))
  have HRMi := Lib.hid (fun (W : World) (a2 : Option Addr) (cap2 : Nat) (h : IsStrs W a2 us.length us) => rmissN_any a2 us.length cap2 us s e W (by omega) h huk (by omega) he hes)
  have HHi := Lib.hid (fun (W : World) (b : Nat) (h : IsProbe W b us) => pbhits_any h htail htl hs3 (by omega))
  have HRAt := Lib.hid (fun (W : World) (a2 : Option Addr) (cap2 : Nat) (h : IsStrs W a2 us.length us) => rat_any a2 us.length cap2 us s (e : Int) W (by omega) h (fun t ht => (hus t ht).2) (by omega) (by omega))
  rw [atZ_in hes] at HRAt
  have HJu := Lib.hid (fun (W : World) (b : Nat) (h : IsProbe W b us) => pbjump_any h htail htl)
  have HRJu := Lib.hid (fun (W : World) (a2 : Option Addr) (cap2 : Nat) (h : IsStrs W a2 us.length us) => rjump_any a2 us.length cap2 us s e W (by omega) h (fun t ht => (huk t ht).2) (by omega) he hes)
  have HOf := Lib.hid (fun (W : World) (b : Nat) (h : IsProbe W b us) => pbof_any h htail htl (by omega) hus (by omega) skip)
  have HROf := Lib.hid (fun (W : World) (a2 : Option Addr) (cap2 : Nat) (h : IsStrs W a2 us.length us) => rof_any a2 us.length cap2 us s e W (by omega) h huk (by omega) he hes skip)
  have hil : (idsK us s e us.length).length ≤ 8 := Nat.le_trans (ids_length us s e _) hs1
  have hjl : (jmpR us s e).ids.length ≤ 8 := by rw [jmp_ids]; simp
  have hol : (ofR us s e skip).ids.length ≤ 8 := by
    rcases of_cases us s e skip with ⟨_, _, h1⟩ | ⟨_, _, h1⟩ | ⟨_, _, h1⟩ | h1 <;> rw [h1] <;> first | exact hil | simp
  generalize misN us s e = M at HMi HRMi
  generalize idsK us s e us.length = ids at HHi HRAt hil
  generalize jmpR us s e = J at HJu HRJu hjl
  generalize ofR us s e skip = O at HOf HROf hol
  have S1 := Lib.hid (bsize s)
  have g1 : ¬ (60 : Int) < (s.length : Int) := by omega
  have g1d : decide ((60 : Int) < (s.length : Int)) = false := decide_eq_false g1
  have g2d : decide ((e : Int) < 1) = false := decide_eq_false (by omega)
  have g3d : decide ((s.length : Int) < (e : Int)) = false := decide_eq_false (by omega)
  have gk : (0 : Int) ≤ (K : Int) := by omega
  have gke : (K : Int) ≤ (e : Int) := by omega
  have gel : (e : Int) ≤ (s.length : Int) := by omega
  have HNN := Lib.hid hN
  have HKK := Lib.hid hK
  clear hr hq hfw hwl hs2 hs3 hus huk htail hM2 hN0 hK hN hNt hm12
  generalize mostL us = Mo at *
  go_enter Try.func3, Try.ntmps3
  go_wp2_with fail
  refine HF.out.mono ?_
  rintro E w' ⟨rfl, hw⟩
  obtain rfl := hw.symm
  clear HF hw
  go_wp2_with fail
  refine HN.out.mono ?_
  rintro E w1 ⟨p, rfl, hp, d1⟩
  have e1 := d1.size
  have HN3 := Lib.hid (HN2.out w1 d1)
  have HP1 := Lib.hid hp
  clear HN HN2 hp
  go_wp2_with fail
  refine HN3.out.mono ?_
  rintro E w2 ⟨a2, cap2, rfl, hstr, hb2⟩
  have d3 := d1.trans (hb2.mono e1)
  have e3 := d3.size
  have T3 := Lib.hid hstr
  have HP3 := Lib.hid (HP1.out.below hb2)
  clear HN3 hb2 d1 e1 hstr HP1
  go_wp2_with fail
  refine (HMo.out w2 a2 cap2 T3.out).mono ?_
  rintro E w' ⟨rfl, hw⟩
  obtain rfl := hw.symm
  clear HMo hw
  by_cases hc : e < N0
  · have hNe2 : N = e := by rw [← HNN.out, if_pos hc]
    subst hNe2
    have hK0 : K = 0 := by have := HKK.out; omega
    subst hK0
    have g4 : (N : Int) < (N0 : Int) := by omega
    clear HNN HKK
    go_wp2_with fail
    refine (HPN.out _ p HP3.out).mono ?_
    rintro E w4 ⟨b, rfl, _, hPr, hb4⟩
    have d4 := d3.trans (hb4.mono e3)
    have e4 := d4.size
    have T4 := Lib.hid (T3.out.below hb4)
    have P4 := Lib.hid hPr
    clear hPr hb4 d3 e3 T3 HP3 HPN
    go_wp2_with fail
    refine (HMi.out w4 b P4.out).mono ?_
    rintro E w5 ⟨rfl, hb5⟩
    have d5 := d4.trans (hb5.mono e4)
    have e5 := d5.size
    have T5 := Lib.hid (T4.out.below hb5)
    have P5 := Lib.hid (P4.out.below hb5)
    clear hb5 d4 e4 T4 P4 HMi
    go_wp2_with fail
    refine (HRMi.out w5 a2 cap2 T5.out).mono ?_
    rintro E w6 ⟨rfl, hb6⟩
    have d6 := d5.trans (hb6.mono e5)
    have e6 := d6.size
    have T6 := Lib.hid (T5.out.below hb6)
    have P6 := Lib.hid (P5.out.below hb6)
    clear hb6 d5 e5 T5 P5 HRMi
    obtain ⟨β, hβ⟩ : ∃ β, decide (0 < M) = β := ⟨_, rfl⟩
    have hβ2 : decide ((0 : Int) < (M : Int)) = β := by rw [← hβ, decide_eq_decide]; omega
    have hββ : (β != β) = false := by simp
    have hMM : ((M : Int) != (M : Int)) = false := by simp
    rw [hβ]
    go_wp2_with fail
    refine (HHi.out w6 b P6.out).mono ?_
    rintro E w7 ⟨v7, rfl, hown7, hb7⟩
    obtain ⟨a7, cap7, rfl, hrow7⟩ := row_of_ints hown7 (by unfold maxLen; omega)
    have d7 := d6.trans (hb7.mono e6)
    have e7 := d7.size
    have T7 := Lib.hid (T6.out.below hb7)
    have P7 := Lib.hid (P6.out.below hb7)
    have R7 := Lib.hid hrow7
    clear hown7 hrow7 hb7 d6 e6 T6 P6 HHi
    go_wp2_with fail
    refine (HRAt.out w7 a2 cap2 T7.out).mono ?_
    rintro E w8 ⟨v8, rfl, hown8, hb8⟩
    obtain ⟨a8, cap8, rfl, hrow8⟩ := row_of_ints hown8 (by unfold maxLen; omega)
    have d8 := d7.trans (hb8.mono e7)
    have e8 := d8.size
    have T8 := Lib.hid (T7.out.below hb8)
    have P8 := Lib.hid (P7.out.below hb8)
    have K8 := Lib.hid (isame_any a7 a8 ids.length cap7 cap8 ids.length ids.length ids w8 (by omega) (R7.out.below hb8) hrow8)
    clear hown8 hrow8 hb8 d7 e7 T7 P7 R7 HRAt
    go_wp2_with fail
    refine K8.out.mono ?_
    rintro E w9 ⟨rfl, hb9⟩
    have d9 := d8.trans (hb9.mono e8)
    have e9 := d9.size
    have T9 := Lib.hid (T8.out.below hb9)
    have P9 := Lib.hid (P8.out.below hb9)
    clear hb9 d8 e8 T8 P8 K8
    go_wp2_with fail
    refine (HJu.out w9 b P9.out).mono ?_
    rintro E w10 ⟨a10, cap10, rfl, hr10, hb10⟩
    have d10 := d9.trans (hb10.mono e9)
    have e10 := d10.size
    have T10 := Lib.hid (T9.out.below hb10)
    have P10 := Lib.hid (P9.out.below hb10)
    have R10 := Lib.hid hr10
    clear hr10 hb10 d9 e9 T9 P9 HJu
    go_wp2_with fail
    refine (HRJu.out w10 a2 cap2 T10.out).mono ?_
    rintro E w11 ⟨a11, cap11, rfl, hr11, hb11⟩
    have d11 := d10.trans (hb11.mono e10)
    have e11 := d11.size
    have T11 := Lib.hid (T10.out.below hb11)
    have P11 := Lib.hid (P10.out.below hb11)
    have K11 := Lib.hid (rsame_any J a10 a11 cap10 cap11 w11 (by omega) (R10.out.below hb11) hr11)
    clear hr11 hb11 d10 e10 T10 P10 R10 HRJu
    go_wp2_with fail
    refine K11.out.mono ?_
    rintro E w12 ⟨rfl, hb12⟩
    have d12 := d11.trans (hb12.mono e11)
    have e12 := d12.size
    have T12 := Lib.hid (T11.out.below hb12)
    have P12 := Lib.hid (P11.out.below hb12)
    clear hb12 d11 e11 T11 P11 K11
    go_wp2_with fail
    refine (HOf.out w12 b P12.out).mono ?_
    rintro E w13 ⟨a13, cap13, rfl, hr13, hb13⟩
    have d13 := d12.trans (hb13.mono e12)
    have e13 := d13.size
    have T13 := Lib.hid (T12.out.below hb13)
    have R13 := Lib.hid hr13
    clear hr13 hb13 d12 e12 T12 P12 HOf
    go_wp2_with fail
    refine (HROf.out w13 a2 cap2 T13.out).mono ?_
    rintro E w14 ⟨a14, cap14, rfl, hr14, hb14⟩
    have d14 := d13.trans (hb14.mono e13)
    have e14 := d14.size
    have K14 := Lib.hid (rsame_any O a13 a14 cap13 cap14 w14 (by omega) (R13.out.below hb14) hr14)
    clear hr14 hb14 d13 e13 T13 R13 HROf
    go_wp2_with fail
    refine K14.out.mono ?_
    rintro E w15 ⟨rfl, hb15⟩
    have d15 := d14.trans (hb15.mono e14)
    have e15 := d15.size
    clear hb15 d14 e14 K14
    go_wp2_with fail
    refine (pbawake_any _).mono ?_
    rintro E w16 ⟨rfl, hb16⟩
    have d16 := d15.trans (hb16.mono e15)
    go_wp2
    go_ret
    exact ⟨rfl, d16⟩
  · have hNe2 : N0 = N := by rw [← HNN.out, if_neg hc]
    subst hNe2
    have g4 : ¬ (e : Int) < (N0 : Int) := by omega
    clear HNN HKK
    go_wp2_with fail
    refine (HPN.out _ p HP3.out).mono ?_
    rintro E w4 ⟨b, rfl, _, hPr, hb4⟩
    have d4 := d3.trans (hb4.mono e3)
    have e4 := d4.size
    have T4 := Lib.hid (T3.out.below hb4)
    have P4 := Lib.hid hPr
    clear hPr hb4 d3 e3 T3 HP3 HPN
    go_wp2_with fail
    refine (HMi.out w4 b P4.out).mono ?_
    rintro E w5 ⟨rfl, hb5⟩
    have d5 := d4.trans (hb5.mono e4)
    have e5 := d5.size
    have T5 := Lib.hid (T4.out.below hb5)
    have P5 := Lib.hid (P4.out.below hb5)
    clear hb5 d4 e4 T4 P4 HMi
    go_wp2_with fail
    refine (HRMi.out w5 a2 cap2 T5.out).mono ?_
    rintro E w6 ⟨rfl, hb6⟩
    have d6 := d5.trans (hb6.mono e5)
    have e6 := d6.size
    have T6 := Lib.hid (T5.out.below hb6)
    have P6 := Lib.hid (P5.out.below hb6)
    clear hb6 d5 e5 T5 P5 HRMi
    obtain ⟨β, hβ⟩ : ∃ β, decide (0 < M) = β := ⟨_, rfl⟩
    have hβ2 : decide ((0 : Int) < (M : Int)) = β := by rw [← hβ, decide_eq_decide]; omega
    have hββ : (β != β) = false := by simp
    have hMM : ((M : Int) != (M : Int)) = false := by simp
    rw [hβ]
    go_wp2_with fail
    refine (HHi.out w6 b P6.out).mono ?_
    rintro E w7 ⟨v7, rfl, hown7, hb7⟩
    obtain ⟨a7, cap7, rfl, hrow7⟩ := row_of_ints hown7 (by unfold maxLen; omega)
    have d7 := d6.trans (hb7.mono e6)
    have e7 := d7.size
    have T7 := Lib.hid (T6.out.below hb7)
    have P7 := Lib.hid (P6.out.below hb7)
    have R7 := Lib.hid hrow7
    clear hown7 hrow7 hb7 d6 e6 T6 P6 HHi
    go_wp2_with fail
    refine (HRAt.out w7 a2 cap2 T7.out).mono ?_
    rintro E w8 ⟨v8, rfl, hown8, hb8⟩
    obtain ⟨a8, cap8, rfl, hrow8⟩ := row_of_ints hown8 (by unfold maxLen; omega)
    have d8 := d7.trans (hb8.mono e7)
    have e8 := d8.size
    have T8 := Lib.hid (T7.out.below hb8)
    have P8 := Lib.hid (P7.out.below hb8)
    have K8 := Lib.hid (isame_any a7 a8 ids.length cap7 cap8 ids.length ids.length ids w8 (by omega) (R7.out.below hb8) hrow8)
    clear hown8 hrow8 hb8 d7 e7 T7 P7 R7 HRAt
    go_wp2_with fail
    refine K8.out.mono ?_
    rintro E w9 ⟨rfl, hb9⟩
    have d9 := d8.trans (hb9.mono e8)
    have e9 := d9.size
    have T9 := Lib.hid (T8.out.below hb9)
    have P9 := Lib.hid (P8.out.below hb9)
    clear hb9 d8 e8 T8 P8 K8
    go_wp2_with fail
    refine (HJu.out w9 b P9.out).mono ?_
    rintro E w10 ⟨a10, cap10, rfl, hr10, hb10⟩
    have d10 := d9.trans (hb10.mono e9)
    have e10 := d10.size
    have T10 := Lib.hid (T9.out.below hb10)
    have P10 := Lib.hid (P9.out.below hb10)
    have R10 := Lib.hid hr10
    clear hr10 hb10 d9 e9 T9 P9 HJu
    go_wp2_with fail
    refine (HRJu.out w10 a2 cap2 T10.out).mono ?_
    rintro E w11 ⟨a11, cap11, rfl, hr11, hb11⟩
    have d11 := d10.trans (hb11.mono e10)
    have e11 := d11.size
    have T11 := Lib.hid (T10.out.below hb11)
    have P11 := Lib.hid (P10.out.below hb11)
    have K11 := Lib.hid (rsame_any J a10 a11 cap10 cap11 w11 (by omega) (R10.out.below hb11) hr11)
    clear hr11 hb11 d10 e10 T10 P10 R10 HRJu
    go_wp2_with fail
    refine K11.out.mono ?_
    rintro E w12 ⟨rfl, hb12⟩
    have d12 := d11.trans (hb12.mono e11)
    have e12 := d12.size
    have T12 := Lib.hid (T11.out.below hb12)
    have P12 := Lib.hid (P11.out.below hb12)
    clear hb12 d11 e11 T11 P11 K11
    go_wp2_with fail
    refine (HOf.out w12 b P12.out).mono ?_
    rintro E w13 ⟨a13, cap13, rfl, hr13, hb13⟩
    have d13 := d12.trans (hb13.mono e12)
    have e13 := d13.size
    have T13 := Lib.hid (T12.out.below hb13)
    have R13 := Lib.hid hr13
    clear hr13 hb13 d12 e12 T12 P12 HOf
    go_wp2_with fail
    refine (HROf.out w13 a2 cap2 T13.out).mono ?_
    rintro E w14 ⟨a14, cap14, rfl, hr14, hb14⟩
    have d14 := d13.trans (hb14.mono e13)
    have e14 := d14.size
    have K14 := Lib.hid (rsame_any O a13 a14 cap13 cap14 w14 (by omega) (R13.out.below hb14) hr14)
    clear hr14 hb14 d13 e13 T13 R13 HROf
    go_wp2_with fail
    refine K14.out.mono ?_
    rintro E w15 ⟨rfl, hb15⟩
    have d15 := d14.trans (hb15.mono e14)
    have e15 := d15.size
    clear hb15 d14 e14 K14
    go_wp2_with fail
    refine (pbawake_any _).mono ?_
    rintro E w16 ⟨rfl, hb16⟩
    have d16 := d15.trans (hb16.mono e15)
    go_wp2
    go_ret
    exact ⟨rfl, d16⟩
end Go.Proofs.Ytngmjpfknehdkaa
