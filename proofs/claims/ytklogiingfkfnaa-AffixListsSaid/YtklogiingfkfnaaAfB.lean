/-
  The law AffixLists, walked.
-/
import Derived.Test.YtklogiingfkfnaaAfA
import Derived.Test.YtklogiingfkfnaaAfO
set_option linter.unusedSimpArgs false
set_option linter.unusedVariables false
namespace Go.Proofs.Ytklogiingfkfnaa
open Go.RowKit

theorem few_not (a : Option Addr) (len cap : Nat) (ws : List (List UInt8)) (w : World) (hlen : len ≤ 9223372036854775807) (hr : IsStrs w a len ws) (ht : ∀ t ∈ ws, t.length ≤ 9223372036854775807) (hq : fewB ws 20 50 = false) :
    Calls Try.prog 15 #[.slice a len cap, .int .i64 20, .int .i64 50] w fun e w' => e = .returned (.bool false) ∧ w' = w := by
  have := few_any a len cap ws 20 50 w hlen (by omega) (by omega) hr ht
  rw [hq] at this
  exact this
theorem few_yes (a : Option Addr) (len cap : Nat) (ws : List (List UInt8)) (w : World) (hlen : len ≤ 9223372036854775807) (hr : IsStrs w a len ws) (ht : ∀ t ∈ ws, t.length ≤ 9223372036854775807) (hq : fewB ws 20 50 = true) :
    Calls Try.prog 15 #[.slice a len cap, .int .i64 20, .int .i64 50] w fun e w' => e = .returned (.bool true) ∧ w' = w := by
  have := few_any a len cap ws 20 50 w hlen (by omega) (by omega) hr ht
  rw [hq] at this
  exact this

set_option maxHeartbeats 1000000 in
theorem aflists_many (a : Option Addr) (len cap : Nat) (ws : List (List UInt8)) (s : ByteArray) (w : World) (hlen : len ≤ 9223372036854775807) (hr : IsStrs w a len ws) (ht : ∀ t ∈ ws, t.length ≤ 9223372036854775807) (hq : fewB ws 20 50 = false) :
    Calls Try.prog 4 #[.slice a len cap, .string s] w fun e w' => e = .returned (.bool true) ∧ Below w.heap.size w w' := by
  have HF := Lib.hid (few_not a len cap ws w hlen hr ht hq)
  clear hr ht hq
  go_enter Try.func4, Try.ntmps4
  go_wp2_with fail
  refine HF.out.mono ?_
  rintro e w' ⟨rfl, rfl⟩
  go_wp2_with fail
  refine (afawake_any _).mono ?_
  rintro e w' ⟨rfl, hb⟩
  go_wp2
  go_ret
  exact ⟨rfl, hb⟩

set_option maxHeartbeats 1000000 in
theorem aflists_long (a : Option Addr) (len cap : Nat) (ws : List (List UInt8)) (s : ByteArray) (w : World) (hlen : len ≤ 9223372036854775807) (hr : IsStrs w a len ws) (ht : ∀ t ∈ ws, t.length ≤ 9223372036854775807) (hq : fewB ws 20 50 = true) (hs : 50 < s.size) (hm : s.size ≤ 9223372036854775807) :
    Calls Try.prog 4 #[.slice a len cap, .string s] w fun e w' => e = .returned (.bool true) ∧ Below w.heap.size w w' := by
  have HF := Lib.hid (few_yes a len cap ws w hlen hr ht hq)
  clear hr ht hq
  go_enter Try.func4, Try.ntmps4
  go_wp2_with fail
  refine HF.out.mono ?_
  rintro e w' ⟨rfl, rfl⟩
  go_wp2_with fail
  refine (afawake_any _).mono ?_
  rintro e w' ⟨rfl, hb⟩
  go_wp2
  go_ret
  exact ⟨rfl, hb⟩

set_option maxHeartbeats 4000000 in
theorem aflists_good (a : Option Addr) (len cap : Nat) (ws : List (List UInt8)) (s : List UInt8) (w : World) (hr : IsStrs w a len ws) (hq : fewB ws 20 50 = true) (hs : s.length ≤ 50) :
    Calls Try.prog 4 #[.slice a len cap, .string ⟨s.toArray⟩] w fun e w' => e = .returned (.bool true) ∧ Below w.heap.size w w' := by
  have hwl := hr.1
  have hfw := (few_iff ws 20 50).1 hq
  have hlen : len ≤ 20 := by omega
  have HF := Lib.hid (few_yes a len cap ws w (by omega) hr (fun t ht => by have := hfw.2 t ht; omega) hq)
  have S1 := Lib.hid (bsize s)
  have HR := Lib.hid hr
  have HT := Lib.hid hfw.2
  clear hr hq hfw
  go_enter Try.func4, Try.ntmps4
  go_wp2_with fail
  refine HF.out.mono ?_
  rintro e w' ⟨rfl, hw⟩
  obtain rfl := hw.symm
  clear HF hw
  go_wp2_with fail
  refine (sorted_any a len cap ws w (by omega) HR.out).mono ?_
  rintro e w1 ⟨v1, rfl, own1, d1⟩
  have e1 := d1.size
  obtain ⟨a1, cap1, rfl, str1⟩ := owns_strs own1
  have T1 := Lib.hid str1
  clear own1 str1
  go_wp2_with fail
  refine (rsorted_any a len cap ws w1 (by omega) (HR.out.below d1)).mono ?_
  rintro e w2 ⟨v2, rfl, own2, hb2⟩
  have d2 := d1.trans (hb2.mono e1)
  have e2 := d2.size
  have hsl : (srt ws).length ≤ 20 := by have := srt_length ws; omega
  obtain ⟨a2, cap2, rfl, str2⟩ := owns_strs own2
  have T12 := Lib.hid (T1.out.below hb2)
  have T2 := Lib.hid str2
  have HP := Lib.hid (place_any (.slice a2 (srt ws).length cap2) (srt ws) s w2 (by omega) (srt_asc ws) own2)
  clear own2 str2 T1 hb2 d1 e1
  obtain ⟨n, hn⟩ : ∃ n, ahdS s (srt ws) = n := ⟨_, rfl⟩
  obtain ⟨β, hβ⟩ : ∃ β, decide (s ∈ srt ws) = β := ⟨_, rfl⟩
  rw [hn, hβ] at HP
  have hnl : n ≤ 20 := by rw [← hn]; have := ahd_le s (srt ws); omega
  have HN := Lib.hid hn
  have HB := Lib.hid hβ
  clear hn hβ
  go_wp2_with fail
  refine HP.out.mono ?_
  rintro e w3 ⟨rfl, hb3⟩
  have d3 := d2.trans (hb3.mono e2)
  have e3 := d3.size
  have T13 := Lib.hid (T12.out.below hb3)
  have T23 := Lib.hid (T2.out.below hb3)
  have HP2 := Lib.hid (rplace_any a2 (srt ws).length cap2 (srt ws) s w3 (by omega) T23.out)
  rw [HN.out, HB.out] at HP2
  clear HP T12 T2 hb3 d2 e2 HN HB
  go_wp2_with fail
  refine HP2.out.mono ?_
  rintro e w4 ⟨rfl, rfl⟩
  have M := Lib.hid (essame_any a1 a2 (srt ws).length cap1 cap2 (srt ws) w4 (by omega) T13.out T23.out)
  clear HP2 T13 T23
  go_wp2_with fail
  refine M.out.mono ?_
  rintro e w5 ⟨rfl, hb5⟩
  have d5 := d3.trans (hb5.mono e3)
  have e5 := d5.size
  clear M hb5 d3 e3
  have q1 : (β == β) = true := by cases β <;> rfl
  go_wp2_with fail
  refine (twice_any a len cap ws w5 (by omega) (HR.out.below d5) (fun t ht => by have := HT.out t ht; unfold maxLen; omega)).mono ?_
  rintro e w6 ⟨rfl, hb6⟩
  have d6 := d5.trans (hb6.mono e5)
  have e6 := d6.size
  clear hb6 d5 e5
  generalize hZ : twS [] ws 0 = z
  have HZ := Lib.hid hZ
  clear hZ
  go_wp2_with fail
  refine (rtwice_any a len cap ws w6 (by omega) (HR.out.below d6)).mono ?_
  rw [HZ.out]
  rintro e w7 ⟨rfl, hb7⟩
  have d7 := d6.trans (hb7.mono e6)
  have e7 := d7.size
  clear hb7 d6 e6 HZ
  go_wp2_with fail
  refine (shared_any a len cap ws w7 (by omega) (HR.out.below d7) (fun t ht => by have := HT.out t ht; omega)).mono ?_
  rintro e w8 ⟨a8, cap8, rfl, row8, hb8⟩
  have d8 := d7.trans (hb8.mono e7)
  have e8 := d8.size
  have R8 := Lib.hid row8
  clear hb8 d7 e7 row8
  go_wp2_with fail
  refine (rshared_any a len cap ws w8 (by omega) (HR.out.below d8) (fun t ht => by have := HT.out t ht; omega)).mono ?_
  rintro e w9 ⟨a9, cap9, rfl, row9, hb9⟩
  have d9 := d8.trans (hb9.mono e8)
  have e9 := d9.size
  have hshl : (shr ws).length ≤ 20 := by have := shr_length ws; omega
  have M9 := Lib.hid (isame_any a8 a9 (shr ws).length cap8 cap9 (shr ws).length (shr ws).length (shr ws) w9 (by omega) (R8.out.below hb9) row9)
  clear hb9 d8 e8 row9 R8
  go_wp2_with fail
  refine M9.out.mono ?_
  rintro e w10 ⟨rfl, hb10⟩
  have d10 := d9.trans (hb10.mono e9)
  have e10 := d10.size
  clear hb10 d9 e9 M9
  go_wp2_with fail
  refine (afawake_any _).mono ?_
  rintro e w11 ⟨rfl, hb11⟩
  have d11 := d10.trans (hb11.mono e10)
  go_wp2
  go_ret
  exact ⟨rfl, d11⟩
end Go.Proofs.Ytklogiingfkfnaa
