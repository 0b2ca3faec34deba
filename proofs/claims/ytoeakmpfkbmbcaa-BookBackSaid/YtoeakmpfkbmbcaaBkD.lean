/-
  The law BookBack, walked.
-/
import Derived.Test.YtoeakmpfkbmbcaaBkA
import Derived.Test.YtoeakmpfkbmbcaaBkK
import Derived.Test.YtoeakmpfkbmbcaaStrS
import Derived.Test.YtoeakmpfkbmbcaaAfFw
import Derived.Test.YtoeakmpfkbmbcaaMask
set_option linter.unusedSimpArgs false
set_option linter.unusedVariables false
namespace Go.Proofs.Ytoeakmpfkbmbcaa
open Go.RowKit

theorem book_len {ws : List (List UInt8)} (h : Pats ws) : (bookB ws).length ≤ 100000000 := by
  have h1 := rest_len [] ws (fun t ht => (h.each t ht).2)
  have h2 := h.total
  have h3 := h.few
  have h4 := vput_length (ws.length : Int) (by omega)
  unfold bookB
  rw [if_neg (by have := h.some; omega), List.length_append, List.length_append]
  simp only [hdB, List.length_cons, List.length_nil]
  omega

set_option maxHeartbeats 1000000 in
theorem bkback_many (a : Option Addr) (len cap : Nat) (ws : List (List UInt8)) (s : ByteArray) (cut : Int) (w : World) (hlen : len ≤ 9223372036854775807) (hr : IsStrs w a len ws) (ht : ∀ t ∈ ws, t.length ≤ 9223372036854775807) (hq : fewB ws 20 50 = false) :
    Calls Try.prog 5 #[.slice a len cap, .string s, .int .i64 cut] w fun e w' => e = .returned (.bool true) ∧ Below w.heap.size w w' := by
  have HF := Lib.hid (few_not a len cap ws w hlen hr ht hq)
  clear hr ht hq
  go_enter Try.func5, Try.ntmps5
  go_wp2_with fail
  refine HF.out.mono ?_
  rintro e w' ⟨rfl, rfl⟩
  go_wp2_with fail
  refine (bkawake_any _).mono ?_
  rintro e w' ⟨rfl, hb⟩
  go_wp2
  go_ret
  exact ⟨rfl, hb⟩

set_option maxHeartbeats 1000000 in
theorem bkback_long (a : Option Addr) (len cap : Nat) (ws : List (List UInt8)) (s : ByteArray) (cut : Int) (w : World) (hlen : len ≤ 9223372036854775807) (hr : IsStrs w a len ws) (ht : ∀ t ∈ ws, t.length ≤ 9223372036854775807) (hq : fewB ws 20 50 = true) (hs : 1000 < s.size) (hm : s.size ≤ 9223372036854775807) :
    Calls Try.prog 5 #[.slice a len cap, .string s, .int .i64 cut] w fun e w' => e = .returned (.bool true) ∧ Below w.heap.size w w' := by
  have HF := Lib.hid (few_yes a len cap ws w hlen hr ht hq)
  clear hr ht hq
  go_enter Try.func5, Try.ntmps5
  go_wp2_with fail
  refine HF.out.mono ?_
  rintro e w' ⟨rfl, rfl⟩
  go_wp2_with fail
  refine (bkawake_any _).mono ?_
  rintro e w' ⟨rfl, hb⟩
  go_wp2
  go_ret
  exact ⟨rfl, hb⟩

set_option maxHeartbeats 2000000 in
theorem bkback_bad_ok (a : Option Addr) (len cap : Nat) (ws : List (List UInt8)) (s : List UInt8) (cut : Int) (w : World) (hr : IsStrs w a len ws) (hq : fewB ws 20 50 = true) (hs : s.length ≤ 1000) (hf : ¬ faultL ws = 0) (M : List (List UInt8)) (hR : tkB s = (0, M)) :
    Calls Try.prog 5 #[.slice a len cap, .string ⟨s.toArray⟩, .int .i64 cut] w fun e w' => e = .returned (.bool true) ∧ Below w.heap.size w w' := by
  have hwl := hr.1
  have hfw := (few_iff ws 20 50).1 hq
  have hlen : len ≤ 20 := by omega
  have S1 := Lib.hid (bsize s)
  have HF := Lib.hid (few_yes a len cap ws w (by omega) hr (fun t ht => by have := hfw.2 t ht; omega) hq)
  have HN := Lib.hid (ptnew_bad a len cap ws w (by omega) hr (fun t ht => by have := hfw.2 t ht; omega) hf)
  have HT := Lib.hid (fun w2 => bktake_ok s w2 (by omega) hR)
  obtain ⟨hPs, hAs, hbs⟩ := tk_back hR
  have HPut := Lib.hid (fun (w2 : World) (b : Nat) (h : IsSet w2 b M) => bkput_any h hPs)
  rw [hbs] at HPut
  have hss : (s == s) = true := by simp
  clear hPs hAs hbs hR
  generalize faultL ws = f at HN hf
  have qf : (f == 0) = false := by simpa using hf
  clear hr hq hfw hwl
  go_enter Try.func5, Try.ntmps5
  go_wp2_with fail
  refine HF.out.mono ?_
  rintro e w' ⟨rfl, hw⟩
  obtain rfl := hw.symm
  clear HF hw
  go_wp2_with fail
  refine HN.out.mono ?_
  rintro e w1 ⟨rfl, d1⟩
  have e1 := d1.size
  clear HN
  go_wp2_with fail
  refine (HT.out _).mono ?_
  rintro e wa ⟨bz, rfl, hbz, hsz, hba⟩
  have da := d1.trans (hba.mono e1)
  have ea := da.size
  have HPs := Lib.hid (HPut.out wa bz hsz)
  clear hba hsz hbz
  go_wp2_with fail
  refine HPs.out.mono ?_
  rintro e wb ⟨rfl, hbb⟩
  have db := da.trans (hbb.mono ea)
  have eb := db.size
  clear HPs hbb
  go_wp2_with fail
  refine (bkawake_any _).mono ?_
  rintro e wc ⟨rfl, hbc⟩
  have dc := db.trans (hbc.mono eb)
  go_wp2
  go_ret
  exact ⟨rfl, dc⟩

set_option maxHeartbeats 4000000 in
set_option maxRecDepth 100000 in
theorem bkback_good_ok_in (a : Option Addr) (len cap : Nat) (ws : List (List UInt8)) (s : List UInt8) (cut : Int) (c : Nat) (w : World) (hr : IsStrs w a len ws) (hq : fewB ws 20 50 = true) (hs : s.length ≤ 1000) (hf : faultL ws = 0) (hc : c ≤ 4095) (hmask : bits .and .i64 cut 4095 = (c : Int)) (hcut : c < (bookB (srt ws)).length) (M : List (List UInt8)) (hR : tkB s = (0, M)) :
    Calls Try.prog 5 #[.slice a len cap, .string ⟨s.toArray⟩, .int .i64 cut] w fun e w' => e = .returned (.bool true) ∧ Below w.heap.size w w' := by
  have hwl := hr.1
  have hfw := (few_iff ws 20 50).1 hq
  have hlen : len ≤ 20 := by omega
  have S1 := Lib.hid (bsize s)
  have hP := ((fault_zero ws).1 hf).srt
  have hA := srt_asc ws
  have HF := Lib.hid (few_yes a len cap ws w (by omega) hr (fun t ht => by have := hfw.2 t ht; omega) hq)
  have HN := Lib.hid (ptnew_good a len cap ws w (by omega) hr hf)
  have hul : (srt ws).length ≤ 20 := by rw [srt_length]; omega
  generalize srt ws = us at *
  have HPu := Lib.hid (fun (w2 : World) (b : Nat) (h : IsSet w2 b us) => bkput_any h hP)
  have HL := Lib.hid (fun (w2 : World) (b : Nat) (h : IsSet w2 b us) => ptlist_any h (by omega))
  have hbl := book_len hP
  have hE1 : tkB (bookB us) = (0, us) := by have := tk_put hP hA []; rw [List.append_nil] at this; exact this
  have hE2 : tkB (bookB us ++ [0]) = (20, us) := tk_put hP hA [0]
  have HT1 := Lib.hid (fun w2 => bktake_ok (bookB us) w2 (by omega) hE1)
  have HT2 := Lib.hid (fun w2 => bktake_err (bookB us ++ [0]) w2 (by rw [List.length_append, List.length_singleton]; omega) hE2 (by decide))
  obtain ⟨y, My, hy, hyv⟩ : ∃ y My, tkB ((bookB us).take c) = (y, My) ∧ (y = 15 ∨ y = 4) := ⟨_, _, rfl, tk_cut hP hA c hcut⟩
  have HT3 := Lib.hid (fun w2 => bktake_err ((bookB us).take c) w2 (by rw [List.length_take]; omega) hy (by omega))
  have x3 : (⟨(bookB us).toArray⟩ : ByteArray).extract 0 c = ⟨((bookB us).take c).toArray⟩ := by rw [ext_cut]; rfl
  clear hy
  generalize (bookB us).take c = tc at HT3 x3
  have x1 : (⟨(bookB us).toArray⟩ : ByteArray) ++ ⟨#[0]⟩ = ⟨(bookB us ++ [0]).toArray⟩ := by simp [ByteArray.mk_append_mk]
  clear hE1 hE2 hP hA
  generalize bookB us ++ [0] = t2 at HT2 x1
  generalize bookB us = t at *
  have ST := Lib.hid (bsize t)
  have HT := Lib.hid (fun w2 => bktake_ok s w2 (by omega) hR)
  obtain ⟨hPs, hAs, hbs⟩ := tk_back hR
  have HPut := Lib.hid (fun (w2 : World) (b : Nat) (h : IsSet w2 b M) => bkput_any h hPs)
  rw [hbs] at HPut
  have hss : (s == s) = true := by simp
  clear hPs hAs hbs hR
  have l1 : ¬ 9223372036854775807 < t.length + 1 := by omega
  clear hr hq hfw hwl hf
  have HM := Lib.hid hmask
  go_enter Try.func5, Try.ntmps5
  go_wp2_with fail
  refine HF.out.mono ?_
  rintro e w' ⟨rfl, hw⟩
  obtain rfl := hw.symm
  clear HF hw
  go_wp2_with fail
  refine HN.out.mono ?_
  rintro e w1 ⟨b, rfl, hbb, hs1, d1⟩
  have e1 := d1.size
  have HS1 := Lib.hid hs1
  have P1 := Lib.hid (HPu.out w1 b hs1)
  clear HN hs1 hbb HPu
  go_wp2_with fail
  refine P1.out.mono ?_
  rintro e w2 ⟨rfl, hb2⟩
  have d2 := d1.trans (hb2.mono e1)
  have e2 := d2.size
  have HS2 := Lib.hid (HS1.out.below hb2)
  clear P1 hb2 d1 e1 HS1
  go_wp2_with fail
  refine (HT1.out _).mono ?_
  rintro e w3 ⟨b3, rfl, hb3b, hs3, hb3⟩
  have d3 := d2.trans (hb3.mono e2)
  have e3 := d3.size
  have HS3 := Lib.hid (HS2.out.below hb3)
  have HY3 := Lib.hid hs3
  clear HT1 hb3 d2 e2 HS2 hs3 hb3b
  go_wp2_with fail
  refine (HT2.out _).mono ?_
  rintro e w4 ⟨rfl, hb4⟩
  have d4 := d3.trans (hb4.mono e3)
  have e4 := d4.size
  have HS4 := Lib.hid (HS3.out.below hb4)
  have HY4 := Lib.hid (HY3.out.below hb4)
  have L4 := Lib.hid (HL.out w4 b3 HY4.out)
  clear HT2 hb4 d3 e3 HS3 HY3
  go_wp2_with fail
  refine L4.out.mono ?_
  rintro e w5 ⟨v5, rfl, hown5, hb5⟩
  have d5 := d4.trans (hb5.mono e4)
  have e5 := d5.size
  obtain ⟨a5, cap5, rfl, hst5⟩ := owns_strs hown5
  have T5 := Lib.hid hst5
  have L5 := Lib.hid (HL.out w5 b (HS4.out.below hb5))
  clear L4 hb5 d4 e4 HS4 HY4 hown5 hst5 HL
  go_wp2_with fail
  refine L5.out.mono ?_
  rintro e w6 ⟨v6, rfl, hown6, hb6⟩
  have d6 := d5.trans (hb6.mono e5)
  have e6 := d6.size
  obtain ⟨a6, cap6, rfl, hst6⟩ := owns_strs hown6
  have M6 := Lib.hid (essame_any a5 a6 _ cap5 cap6 us w6 (by omega) (T5.out.below hb6) hst6)
  clear L5 hb6 d5 e5 T5 hown6 hst6
  go_wp2_with fail
  refine M6.out.mono ?_
  rintro e w7 ⟨rfl, hb7⟩
  have d7 := d6.trans (hb7.mono e6)
  have e7 := d7.size
  clear M6 hb7 d6 e6
  have hci : (c : Int) < (t.length : Int) := by omega
  have hci2 : (c : Int) ≤ (t.length : Int) := by omega
  go_wp2_with fail
  refine (HT3.out _).mono ?_
  rintro e w8 ⟨rfl, hb8⟩
  have d8 := d7.trans (hb8.mono e7)
  have e8 := d8.size
  clear HT3 hb8 d7 e7
  rcases hyv with rfl | rfl
  · go_wp2_with fail
    refine (HT.out _).mono ?_
    rintro e wa ⟨bz, rfl, hbz, hsz, hba⟩
    have da := d8.trans (hba.mono e8)
    have ea := da.size
    have HPs := Lib.hid (HPut.out wa bz hsz)
    clear hba hsz hbz
    go_wp2_with fail
    refine HPs.out.mono ?_
    rintro e wb ⟨rfl, hbb⟩
    have db := da.trans (hbb.mono ea)
    have eb := db.size
    clear HPs hbb
    go_wp2_with fail
    refine (bkawake_any _).mono ?_
    rintro e wc ⟨rfl, hbc⟩
    have dc := db.trans (hbc.mono eb)
    go_wp2
    go_ret
    exact ⟨rfl, dc⟩
  · go_wp2_with fail
    refine (HT.out _).mono ?_
    rintro e wa ⟨bz, rfl, hbz, hsz, hba⟩
    have da := d8.trans (hba.mono e8)
    have ea := da.size
    have HPs := Lib.hid (HPut.out wa bz hsz)
    clear hba hsz hbz
    go_wp2_with fail
    refine HPs.out.mono ?_
    rintro e wb ⟨rfl, hbb⟩
    have db := da.trans (hbb.mono ea)
    have eb := db.size
    clear HPs hbb
    go_wp2_with fail
    refine (bkawake_any _).mono ?_
    rintro e wc ⟨rfl, hbc⟩
    have dc := db.trans (hbc.mono eb)
    go_wp2
    go_ret
    exact ⟨rfl, dc⟩

set_option maxHeartbeats 4000000 in
set_option maxRecDepth 100000 in
theorem bkback_good_ok_out (a : Option Addr) (len cap : Nat) (ws : List (List UInt8)) (s : List UInt8) (cut : Int) (c : Nat) (w : World) (hr : IsStrs w a len ws) (hq : fewB ws 20 50 = true) (hs : s.length ≤ 1000) (hf : faultL ws = 0) (hc : c ≤ 4095) (hmask : bits .and .i64 cut 4095 = (c : Int)) (hcut : ¬ c < (bookB (srt ws)).length) (M : List (List UInt8)) (hR : tkB s = (0, M)) :
    Calls Try.prog 5 #[.slice a len cap, .string ⟨s.toArray⟩, .int .i64 cut] w fun e w' => e = .returned (.bool true) ∧ Below w.heap.size w w' := by
  have hwl := hr.1
  have hfw := (few_iff ws 20 50).1 hq
  have hlen : len ≤ 20 := by omega
  have S1 := Lib.hid (bsize s)
  have hP := ((fault_zero ws).1 hf).srt
  have hA := srt_asc ws
  have HF := Lib.hid (few_yes a len cap ws w (by omega) hr (fun t ht => by have := hfw.2 t ht; omega) hq)
  have HN := Lib.hid (ptnew_good a len cap ws w (by omega) hr hf)
  have hul : (srt ws).length ≤ 20 := by rw [srt_length]; omega
  generalize srt ws = us at *
  have HPu := Lib.hid (fun (w2 : World) (b : Nat) (h : IsSet w2 b us) => bkput_any h hP)
  have HL := Lib.hid (fun (w2 : World) (b : Nat) (h : IsSet w2 b us) => ptlist_any h (by omega))
  have hbl := book_len hP
  have hE1 : tkB (bookB us) = (0, us) := by have := tk_put hP hA []; rw [List.append_nil] at this; exact this
  have hE2 : tkB (bookB us ++ [0]) = (20, us) := tk_put hP hA [0]
  have HT1 := Lib.hid (fun w2 => bktake_ok (bookB us) w2 (by omega) hE1)
  have HT2 := Lib.hid (fun w2 => bktake_err (bookB us ++ [0]) w2 (by rw [List.length_append, List.length_singleton]; omega) hE2 (by decide))
  have x1 : (⟨(bookB us).toArray⟩ : ByteArray) ++ ⟨#[0]⟩ = ⟨(bookB us ++ [0]).toArray⟩ := by simp [ByteArray.mk_append_mk]
  clear hE1 hE2 hP hA
  generalize bookB us ++ [0] = t2 at HT2 x1
  generalize bookB us = t at *
  have ST := Lib.hid (bsize t)
  have HT := Lib.hid (fun w2 => bktake_ok s w2 (by omega) hR)
  obtain ⟨hPs, hAs, hbs⟩ := tk_back hR
  have HPut := Lib.hid (fun (w2 : World) (b : Nat) (h : IsSet w2 b M) => bkput_any h hPs)
  rw [hbs] at HPut
  have hss : (s == s) = true := by simp
  clear hPs hAs hbs hR
  have l1 : ¬ 9223372036854775807 < t.length + 1 := by omega
  clear hr hq hfw hwl hf
  have HM := Lib.hid hmask
  go_enter Try.func5, Try.ntmps5
  go_wp2_with fail
  refine HF.out.mono ?_
  rintro e w' ⟨rfl, hw⟩
  obtain rfl := hw.symm
  clear HF hw
  go_wp2_with fail
  refine HN.out.mono ?_
  rintro e w1 ⟨b, rfl, hbb, hs1, d1⟩
  have e1 := d1.size
  have HS1 := Lib.hid hs1
  have P1 := Lib.hid (HPu.out w1 b hs1)
  clear HN hs1 hbb HPu
  go_wp2_with fail
  refine P1.out.mono ?_
  rintro e w2 ⟨rfl, hb2⟩
  have d2 := d1.trans (hb2.mono e1)
  have e2 := d2.size
  have HS2 := Lib.hid (HS1.out.below hb2)
  clear P1 hb2 d1 e1 HS1
  go_wp2_with fail
  refine (HT1.out _).mono ?_
  rintro e w3 ⟨b3, rfl, hb3b, hs3, hb3⟩
  have d3 := d2.trans (hb3.mono e2)
  have e3 := d3.size
  have HS3 := Lib.hid (HS2.out.below hb3)
  have HY3 := Lib.hid hs3
  clear HT1 hb3 d2 e2 HS2 hs3 hb3b
  go_wp2_with fail
  refine (HT2.out _).mono ?_
  rintro e w4 ⟨rfl, hb4⟩
  have d4 := d3.trans (hb4.mono e3)
  have e4 := d4.size
  have HS4 := Lib.hid (HS3.out.below hb4)
  have HY4 := Lib.hid (HY3.out.below hb4)
  have L4 := Lib.hid (HL.out w4 b3 HY4.out)
  clear HT2 hb4 d3 e3 HS3 HY3
  go_wp2_with fail
  refine L4.out.mono ?_
  rintro e w5 ⟨v5, rfl, hown5, hb5⟩
  have d5 := d4.trans (hb5.mono e4)
  have e5 := d5.size
  obtain ⟨a5, cap5, rfl, hst5⟩ := owns_strs hown5
  have T5 := Lib.hid hst5
  have L5 := Lib.hid (HL.out w5 b (HS4.out.below hb5))
  clear L4 hb5 d4 e4 HS4 HY4 hown5 hst5 HL
  go_wp2_with fail
  refine L5.out.mono ?_
  rintro e w6 ⟨v6, rfl, hown6, hb6⟩
  have d6 := d5.trans (hb6.mono e5)
  have e6 := d6.size
  obtain ⟨a6, cap6, rfl, hst6⟩ := owns_strs hown6
  have M6 := Lib.hid (essame_any a5 a6 _ cap5 cap6 us w6 (by omega) (T5.out.below hb6) hst6)
  clear L5 hb6 d5 e5 T5 hown6 hst6
  go_wp2_with fail
  refine M6.out.mono ?_
  rintro e w7 ⟨rfl, hb7⟩
  have d7 := d6.trans (hb7.mono e6)
  have e7 := d7.size
  clear M6 hb7 d6 e6
  have hci : ¬ (c : Int) < (t.length : Int) := by omega
  go_wp2_with fail
  refine (HT.out _).mono ?_
  rintro e wa ⟨bz, rfl, hbz, hsz, hba⟩
  have da := d7.trans (hba.mono e7)
  have ea := da.size
  have HPs := Lib.hid (HPut.out wa bz hsz)
  clear hba hsz hbz
  go_wp2_with fail
  refine HPs.out.mono ?_
  rintro e wb ⟨rfl, hbb⟩
  have db := da.trans (hbb.mono ea)
  have eb := db.size
  clear HPs hbb
  go_wp2_with fail
  refine (bkawake_any _).mono ?_
  rintro e wc ⟨rfl, hbc⟩
  have dc := db.trans (hbc.mono eb)
  go_wp2
  go_ret
  exact ⟨rfl, dc⟩

set_option maxHeartbeats 2000000 in
theorem bkback_bad_err (a : Option Addr) (len cap : Nat) (ws : List (List UInt8)) (s : List UInt8) (cut : Int) (w : World) (hr : IsStrs w a len ws) (hq : fewB ws 20 50 = true) (hs : s.length ≤ 1000) (hf : ¬ faultL ws = 0) (x : Int) (M : List (List UInt8)) (hR : tkB s = (x, M)) (hx : ¬ x = 0) :
    Calls Try.prog 5 #[.slice a len cap, .string ⟨s.toArray⟩, .int .i64 cut] w fun e w' => e = .returned (.bool true) ∧ Below w.heap.size w w' := by
  have hwl := hr.1
  have hfw := (few_iff ws 20 50).1 hq
  have hlen : len ≤ 20 := by omega
  have S1 := Lib.hid (bsize s)
  have HF := Lib.hid (few_yes a len cap ws w (by omega) hr (fun t ht => by have := hfw.2 t ht; omega) hq)
  have HN := Lib.hid (ptnew_bad a len cap ws w (by omega) hr (fun t ht => by have := hfw.2 t ht; omega) hf)
  have HT := Lib.hid (fun w2 => bktake_err s w2 (by omega) hR hx)
  have qx : (x == 0) = false := by simpa using hx
  clear hR
  generalize faultL ws = f at HN hf
  have qf : (f == 0) = false := by simpa using hf
  clear hr hq hfw hwl
  go_enter Try.func5, Try.ntmps5
  go_wp2_with fail
  refine HF.out.mono ?_
  rintro e w' ⟨rfl, hw⟩
  obtain rfl := hw.symm
  clear HF hw
  go_wp2_with fail
  refine HN.out.mono ?_
  rintro e w1 ⟨rfl, d1⟩
  have e1 := d1.size
  clear HN
  go_wp2_with fail
  refine (HT.out _).mono ?_
  rintro e wa ⟨rfl, hba⟩
  have da := d1.trans (hba.mono e1)
  have ea := da.size
  clear hba
  go_wp2_with fail
  refine (bkawake_any _).mono ?_
  rintro e wc ⟨rfl, hbc⟩
  have dc := da.trans (hbc.mono ea)
  go_wp2
  go_ret
  exact ⟨rfl, dc⟩

set_option maxHeartbeats 4000000 in
set_option maxRecDepth 100000 in
theorem bkback_good_err_in (a : Option Addr) (len cap : Nat) (ws : List (List UInt8)) (s : List UInt8) (cut : Int) (c : Nat) (w : World) (hr : IsStrs w a len ws) (hq : fewB ws 20 50 = true) (hs : s.length ≤ 1000) (hf : faultL ws = 0) (hc : c ≤ 4095) (hmask : bits .and .i64 cut 4095 = (c : Int)) (hcut : c < (bookB (srt ws)).length) (x : Int) (M : List (List UInt8)) (hR : tkB s = (x, M)) (hx : ¬ x = 0) :
    Calls Try.prog 5 #[.slice a len cap, .string ⟨s.toArray⟩, .int .i64 cut] w fun e w' => e = .returned (.bool true) ∧ Below w.heap.size w w' := by
  have hwl := hr.1
  have hfw := (few_iff ws 20 50).1 hq
  have hlen : len ≤ 20 := by omega
  have S1 := Lib.hid (bsize s)
  have hP := ((fault_zero ws).1 hf).srt
  have hA := srt_asc ws
  have HF := Lib.hid (few_yes a len cap ws w (by omega) hr (fun t ht => by have := hfw.2 t ht; omega) hq)
  have HN := Lib.hid (ptnew_good a len cap ws w (by omega) hr hf)
  have hul : (srt ws).length ≤ 20 := by rw [srt_length]; omega
  generalize srt ws = us at *
  have HPu := Lib.hid (fun (w2 : World) (b : Nat) (h : IsSet w2 b us) => bkput_any h hP)
  have HL := Lib.hid (fun (w2 : World) (b : Nat) (h : IsSet w2 b us) => ptlist_any h (by omega))
  have hbl := book_len hP
  have hE1 : tkB (bookB us) = (0, us) := by have := tk_put hP hA []; rw [List.append_nil] at this; exact this
  have hE2 : tkB (bookB us ++ [0]) = (20, us) := tk_put hP hA [0]
  have HT1 := Lib.hid (fun w2 => bktake_ok (bookB us) w2 (by omega) hE1)
  have HT2 := Lib.hid (fun w2 => bktake_err (bookB us ++ [0]) w2 (by rw [List.length_append, List.length_singleton]; omega) hE2 (by decide))
  obtain ⟨y, My, hy, hyv⟩ : ∃ y My, tkB ((bookB us).take c) = (y, My) ∧ (y = 15 ∨ y = 4) := ⟨_, _, rfl, tk_cut hP hA c hcut⟩
  have HT3 := Lib.hid (fun w2 => bktake_err ((bookB us).take c) w2 (by rw [List.length_take]; omega) hy (by omega))
  have x3 : (⟨(bookB us).toArray⟩ : ByteArray).extract 0 c = ⟨((bookB us).take c).toArray⟩ := by rw [ext_cut]; rfl
  clear hy
  generalize (bookB us).take c = tc at HT3 x3
  have x1 : (⟨(bookB us).toArray⟩ : ByteArray) ++ ⟨#[0]⟩ = ⟨(bookB us ++ [0]).toArray⟩ := by simp [ByteArray.mk_append_mk]
  clear hE1 hE2 hP hA
  generalize bookB us ++ [0] = t2 at HT2 x1
  generalize bookB us = t at *
  have ST := Lib.hid (bsize t)
  have HT := Lib.hid (fun w2 => bktake_err s w2 (by omega) hR hx)
  have qx : (x == 0) = false := by simpa using hx
  clear hR
  have l1 : ¬ 9223372036854775807 < t.length + 1 := by omega
  clear hr hq hfw hwl hf
  have HM := Lib.hid hmask
  go_enter Try.func5, Try.ntmps5
  go_wp2_with fail
  refine HF.out.mono ?_
  rintro e w' ⟨rfl, hw⟩
  obtain rfl := hw.symm
  clear HF hw
  go_wp2_with fail
  refine HN.out.mono ?_
  rintro e w1 ⟨b, rfl, hbb, hs1, d1⟩
  have e1 := d1.size
  have HS1 := Lib.hid hs1
  have P1 := Lib.hid (HPu.out w1 b hs1)
  clear HN hs1 hbb HPu
  go_wp2_with fail
  refine P1.out.mono ?_
  rintro e w2 ⟨rfl, hb2⟩
  have d2 := d1.trans (hb2.mono e1)
  have e2 := d2.size
  have HS2 := Lib.hid (HS1.out.below hb2)
  clear P1 hb2 d1 e1 HS1
  go_wp2_with fail
  refine (HT1.out _).mono ?_
  rintro e w3 ⟨b3, rfl, hb3b, hs3, hb3⟩
  have d3 := d2.trans (hb3.mono e2)
  have e3 := d3.size
  have HS3 := Lib.hid (HS2.out.below hb3)
  have HY3 := Lib.hid hs3
  clear HT1 hb3 d2 e2 HS2 hs3 hb3b
  go_wp2_with fail
  refine (HT2.out _).mono ?_
  rintro e w4 ⟨rfl, hb4⟩
  have d4 := d3.trans (hb4.mono e3)
  have e4 := d4.size
  have HS4 := Lib.hid (HS3.out.below hb4)
  have HY4 := Lib.hid (HY3.out.below hb4)
  have L4 := Lib.hid (HL.out w4 b3 HY4.out)
  clear HT2 hb4 d3 e3 HS3 HY3
  go_wp2_with fail
  refine L4.out.mono ?_
  rintro e w5 ⟨v5, rfl, hown5, hb5⟩
  have d5 := d4.trans (hb5.mono e4)
  have e5 := d5.size
  obtain ⟨a5, cap5, rfl, hst5⟩ := owns_strs hown5
  have T5 := Lib.hid hst5
  have L5 := Lib.hid (HL.out w5 b (HS4.out.below hb5))
  clear L4 hb5 d4 e4 HS4 HY4 hown5 hst5 HL
  go_wp2_with fail
  refine L5.out.mono ?_
  rintro e w6 ⟨v6, rfl, hown6, hb6⟩
  have d6 := d5.trans (hb6.mono e5)
  have e6 := d6.size
  obtain ⟨a6, cap6, rfl, hst6⟩ := owns_strs hown6
  have M6 := Lib.hid (essame_any a5 a6 _ cap5 cap6 us w6 (by omega) (T5.out.below hb6) hst6)
  clear L5 hb6 d5 e5 T5 hown6 hst6
  go_wp2_with fail
  refine M6.out.mono ?_
  rintro e w7 ⟨rfl, hb7⟩
  have d7 := d6.trans (hb7.mono e6)
  have e7 := d7.size
  clear M6 hb7 d6 e6
  have hci : (c : Int) < (t.length : Int) := by omega
  have hci2 : (c : Int) ≤ (t.length : Int) := by omega
  go_wp2_with fail
  refine (HT3.out _).mono ?_
  rintro e w8 ⟨rfl, hb8⟩
  have d8 := d7.trans (hb8.mono e7)
  have e8 := d8.size
  clear HT3 hb8 d7 e7
  rcases hyv with rfl | rfl
  · go_wp2_with fail
    refine (HT.out _).mono ?_
    rintro e wa ⟨rfl, hba⟩
    have da := d8.trans (hba.mono e8)
    have ea := da.size
    clear hba
    go_wp2_with fail
    refine (bkawake_any _).mono ?_
    rintro e wc ⟨rfl, hbc⟩
    have dc := da.trans (hbc.mono ea)
    go_wp2
    go_ret
    exact ⟨rfl, dc⟩
  · go_wp2_with fail
    refine (HT.out _).mono ?_
    rintro e wa ⟨rfl, hba⟩
    have da := d8.trans (hba.mono e8)
    have ea := da.size
    clear hba
    go_wp2_with fail
    refine (bkawake_any _).mono ?_
    rintro e wc ⟨rfl, hbc⟩
    have dc := da.trans (hbc.mono ea)
    go_wp2
    go_ret
    exact ⟨rfl, dc⟩

set_option maxHeartbeats 4000000 in
set_option maxRecDepth 100000 in
theorem bkback_good_err_out (a : Option Addr) (len cap : Nat) (ws : List (List UInt8)) (s : List UInt8) (cut : Int) (c : Nat) (w : World) (hr : IsStrs w a len ws) (hq : fewB ws 20 50 = true) (hs : s.length ≤ 1000) (hf : faultL ws = 0) (hc : c ≤ 4095) (hmask : bits .and .i64 cut 4095 = (c : Int)) (hcut : ¬ c < (bookB (srt ws)).length) (x : Int) (M : List (List UInt8)) (hR : tkB s = (x, M)) (hx : ¬ x = 0) :
    Calls Try.prog 5 #[.slice a len cap, .string ⟨s.toArray⟩, .int .i64 cut] w fun e w' => e = .returned (.bool true) ∧ Below w.heap.size w w' := by
  have hwl := hr.1
  have hfw := (few_iff ws 20 50).1 hq
  have hlen : len ≤ 20 := by omega
  have S1 := Lib.hid (bsize s)
  have hP := ((fault_zero ws).1 hf).srt
  have hA := srt_asc ws
  have HF := Lib.hid (few_yes a len cap ws w (by omega) hr (fun t ht => by have := hfw.2 t ht; omega) hq)
  have HN := Lib.hid (ptnew_good a len cap ws w (by omega) hr hf)
  have hul : (srt ws).length ≤ 20 := by rw [srt_length]; omega
  generalize srt ws = us at *
  have HPu := Lib.hid (fun (w2 : World) (b : Nat) (h : IsSet w2 b us) => bkput_any h hP)
  have HL := Lib.hid (fun (w2 : World) (b : Nat) (h : IsSet w2 b us) => ptlist_any h (by omega))
  have hbl := book_len hP
  have hE1 : tkB (bookB us) = (0, us) := by have := tk_put hP hA []; rw [List.append_nil] at this; exact this
  have hE2 : tkB (bookB us ++ [0]) = (20, us) := tk_put hP hA [0]
  have HT1 := Lib.hid (fun w2 => bktake_ok (bookB us) w2 (by omega) hE1)
  have HT2 := Lib.hid (fun w2 => bktake_err (bookB us ++ [0]) w2 (by rw [List.length_append, List.length_singleton]; omega) hE2 (by decide))
  have x1 : (⟨(bookB us).toArray⟩ : ByteArray) ++ ⟨#[0]⟩ = ⟨(bookB us ++ [0]).toArray⟩ := by simp [ByteArray.mk_append_mk]
  clear hE1 hE2 hP hA
  generalize bookB us ++ [0] = t2 at HT2 x1
  generalize bookB us = t at *
  have ST := Lib.hid (bsize t)
  have HT := Lib.hid (fun w2 => bktake_err s w2 (by omega) hR hx)
  have qx : (x == 0) = false := by simpa using hx
  clear hR
  have l1 : ¬ 9223372036854775807 < t.length + 1 := by omega
  clear hr hq hfw hwl hf
  have HM := Lib.hid hmask
  go_enter Try.func5, Try.ntmps5
  go_wp2_with fail
  refine HF.out.mono ?_
  rintro e w' ⟨rfl, hw⟩
  obtain rfl := hw.symm
  clear HF hw
  go_wp2_with fail
  refine HN.out.mono ?_
  rintro e w1 ⟨b, rfl, hbb, hs1, d1⟩
  have e1 := d1.size
  have HS1 := Lib.hid hs1
  have P1 := Lib.hid (HPu.out w1 b hs1)
  clear HN hs1 hbb HPu
  go_wp2_with fail
  refine P1.out.mono ?_
  rintro e w2 ⟨rfl, hb2⟩
  have d2 := d1.trans (hb2.mono e1)
  have e2 := d2.size
  have HS2 := Lib.hid (HS1.out.below hb2)
  clear P1 hb2 d1 e1 HS1
  go_wp2_with fail
  refine (HT1.out _).mono ?_
  rintro e w3 ⟨b3, rfl, hb3b, hs3, hb3⟩
  have d3 := d2.trans (hb3.mono e2)
  have e3 := d3.size
  have HS3 := Lib.hid (HS2.out.below hb3)
  have HY3 := Lib.hid hs3
  clear HT1 hb3 d2 e2 HS2 hs3 hb3b
  go_wp2_with fail
  refine (HT2.out _).mono ?_
  rintro e w4 ⟨rfl, hb4⟩
  have d4 := d3.trans (hb4.mono e3)
  have e4 := d4.size
  have HS4 := Lib.hid (HS3.out.below hb4)
  have HY4 := Lib.hid (HY3.out.below hb4)
  have L4 := Lib.hid (HL.out w4 b3 HY4.out)
  clear HT2 hb4 d3 e3 HS3 HY3
  go_wp2_with fail
  refine L4.out.mono ?_
  rintro e w5 ⟨v5, rfl, hown5, hb5⟩
  have d5 := d4.trans (hb5.mono e4)
  have e5 := d5.size
  obtain ⟨a5, cap5, rfl, hst5⟩ := owns_strs hown5
  have T5 := Lib.hid hst5
  have L5 := Lib.hid (HL.out w5 b (HS4.out.below hb5))
  clear L4 hb5 d4 e4 HS4 HY4 hown5 hst5 HL
  go_wp2_with fail
  refine L5.out.mono ?_
  rintro e w6 ⟨v6, rfl, hown6, hb6⟩
  have d6 := d5.trans (hb6.mono e5)
  have e6 := d6.size
  obtain ⟨a6, cap6, rfl, hst6⟩ := owns_strs hown6
  have M6 := Lib.hid (essame_any a5 a6 _ cap5 cap6 us w6 (by omega) (T5.out.below hb6) hst6)
  clear L5 hb6 d5 e5 T5 hown6 hst6
  go_wp2_with fail
  refine M6.out.mono ?_
  rintro e w7 ⟨rfl, hb7⟩
  have d7 := d6.trans (hb7.mono e6)
  have e7 := d7.size
  clear M6 hb7 d6 e6
  have hci : ¬ (c : Int) < (t.length : Int) := by omega
  go_wp2_with fail
  refine (HT.out _).mono ?_
  rintro e wa ⟨rfl, hba⟩
  have da := d7.trans (hba.mono e7)
  have ea := da.size
  clear hba
  go_wp2_with fail
  refine (bkawake_any _).mono ?_
  rintro e wc ⟨rfl, hbc⟩
  have dc := da.trans (hbc.mono ea)
  go_wp2
  go_ret
  exact ⟨rfl, dc⟩
end Go.Proofs.Ytoeakmpfkbmbcaa
