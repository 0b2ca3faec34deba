/-
  The law ProbeHolds: walked.
-/
import Derived.Test.YtngmjpfknehdkaaBn11
import Derived.Deep.RegionWith
import Derived.Deep.CutRange
set_option linter.unusedSimpArgs false
set_option linter.unusedVariables false
namespace Go.Proofs.Ytngmjpfknehdkaa
open Go.RowKit

set_option maxRecDepth 100000 in
set_option maxHeartbeats 1000000 in
theorem pbholds_many (a : Option Addr) (len cap : Nat) (s : List UInt8) (e : Int) (skip : Bool) (ws : List (List UInt8)) (w : World) (hlen : len ≤ 9223372036854775807) (hr : IsStrs w a len ws) (ht : ∀ t ∈ ws, t.length ≤ 9223372036854775807) (hq : fewB ws 8 12 = false) :
    Calls Try.prog 4 #[.slice a len cap, .string ⟨s.toArray⟩, .int .i64 e, .bool skip] w fun e w' => e = .returned (.bool true) ∧ Below w.heap.size w w' := by
  have HF := Lib.hid (few_no8 a len cap ws w hlen hr ht _ hq)
  clear hr ht hq
  go_enter Try.func4, Try.ntmps4
  go_wp2_with fail
  refine HF.out.mono ?_
  rintro E w' ⟨rfl, rfl⟩
  go_wp2_with fail
  refine (pbawake_any _).mono ?_
  rintro E w' ⟨rfl, hb⟩
  go_wp2
  go_ret
  exact ⟨rfl, hb⟩
set_option maxRecDepth 100000 in
set_option maxHeartbeats 1000000 in
theorem pbholds_bad (a : Option Addr) (len cap : Nat) (s : List UInt8) (e : Int) (skip : Bool) (ws : List (List UInt8)) (w : World) (hlen : len ≤ 9223372036854775807) (hr : IsStrs w a len ws) (ht : ∀ t ∈ ws, t.length ≤ 9223372036854775807) (hq : fewB ws 8 12 = true) (hbad : 60 < s.length ∨ e < 1 ∨ (s.length : Int) < e) :
    Calls Try.prog 4 #[.slice a len cap, .string ⟨s.toArray⟩, .int .i64 e, .bool skip] w fun e w' => e = .returned (.bool true) ∧ Below w.heap.size w w' := by
  have HF := Lib.hid (few_no8 a len cap ws w hlen hr ht _ hq)
  have S1 := Lib.hid (bsize s)
  have HBad := Lib.hid hbad
  clear hr ht hq hbad
  by_cases h1 : 60 < s.length
  · have g1 : (60 : Int) < (s.length : Int) := by omega
    have g1d : decide ((60 : Int) < (s.length : Int)) = true := decide_eq_true g1
    go_enter Try.func4, Try.ntmps4
    go_wp2_with fail
    refine HF.out.mono ?_
    rintro E w' ⟨rfl, rfl⟩
    go_wp2_with fail
    refine (pbawake_any _).mono ?_
    rintro E w' ⟨rfl, hb⟩
    go_wp2
    go_ret
    exact ⟨rfl, hb⟩
  · have g1 : ¬ (60 : Int) < (s.length : Int) := by omega
    have g1d : decide ((60 : Int) < (s.length : Int)) = false := decide_eq_false g1
    by_cases h2 : e < 1
    · have g2d : decide (e < 1) = true := decide_eq_true h2
      clear h1
      go_enter Try.func4, Try.ntmps4
      go_wp2_with fail
      refine HF.out.mono ?_
      rintro E w' ⟨rfl, rfl⟩
      go_wp2_with fail
      refine (pbawake_any _).mono ?_
      rintro E w' ⟨rfl, hb⟩
      go_wp2
      go_ret
      exact ⟨rfl, hb⟩
    · have g2d : decide (e < 1) = false := decide_eq_false h2
      have g3 : (s.length : Int) < e := by have := HBad.out; omega
      have g3d : decide ((s.length : Int) < e) = true := decide_eq_true g3
      clear h1
      go_enter Try.func4, Try.ntmps4
      go_wp2_with fail
      refine HF.out.mono ?_
      rintro E w' ⟨rfl, rfl⟩
      go_wp2_with fail
      refine (pbawake_any _).mono ?_
      rintro E w' ⟨rfl, hb⟩
      go_wp2
      go_ret
      exact ⟨rfl, hb⟩

/-- What an answer owns is kept by stores into an elder block. -/
theorem row_into {w w' : World} {base b : Nat} {a : Option Addr} {cap : Nat} {ids : List Int} (h : IsRow .i64 w a ids.length ids.length ids) (ho : ids.length = 0 ∨ w.ownsRow base 3 1 (.slice a ids.length cap) ids.length (inCells ids)) (hl : ids.length ≤ 1000000) (hI : Into b w w') (hb : b < base) :
    IsRow .i64 w' a ids.length ids.length ids := by
  rcases ho with h0 | ho
  · exact .inl h0
  · obtain ⟨a6, c6, hv6, hr6⟩ := row_of_ints (hI.owns hb ho) (by unfold maxLen; omega)
    obtain rfl : a = a6 := by cases hv6; rfl
    exact hr6

set_option maxRecDepth 100000 in
set_option maxHeartbeats 4000000 in
theorem pbholds_good (a : Option Addr) (len cap : Nat) (s : List UInt8) (e : Nat) (skip : Bool) (ws : List (List UInt8)) (w : World) (hr : IsStrs w a len ws) (hq : fewB ws 8 12 = true) (hs : s.length ≤ 60) (he : 0 < e) (hes : e ≤ s.length) :
    Calls Try.prog 4 #[.slice a len cap, .string ⟨s.toArray⟩, .int .i64 (e : Int), .bool skip] w fun e w' => e = .returned (.bool true) ∧ Below w.heap.size w w' := by
  have hwl := hr.1
  have hfw := (few_iff ws 8 12).1 hq
  have hlen : len ≤ 8 := by omega
  have HF := Lib.hid (few_no8 a len cap ws w (by omega) hr (fun t ht => by have := hfw.2 t ht; omega) _ hq)
  have HN := Lib.hid (ptnew_all a len cap ws w (by omega) hr (fun t ht => by have := hfw.2 t ht; omega))
  have HN2 := Lib.hid (fun (w2 : World) (hb : Below w.heap.size w w2) => rptnew_all a len cap ws w2 (by omega) (hr.below hb) (fun t ht => by have := hfw.2 t ht; omega))
  obtain ⟨hs1, hs2⟩ := few_setN hq
  have hs3 : ∀ t ∈ setL ws, 0 < t.length := fun t h => (set_mem h).2.1
  generalize setL ws = us at HN HN2 hs1 hs2 hs3
  generalize faultL ws = f at HN HN2
  have htail := IsTail.whole (us := us) he hes
  have hxc := ext_cut s 0 e
  rw [List.drop_zero] at hxc
  generalize s.take e = tl at htail hxc
  have htl : tl.length ≤ 1000000 := by have := htail.2.2.2.1; omega
  have hus : ∀ t ∈ us, 0 < t.length ∧ t.length ≤ 1000000 := fun t h => ⟨hs3 t h, by have := hs2 t h; omega⟩
  have huk : ∀ t ∈ us, 0 < t.length ∧ t.length ≤ 65535 := fun t h => ⟨hs3 t h, by have := hs2 t h; omega⟩
  obtain ⟨R, hR⟩ : ∃ R, ofR us s e skip = R := ⟨_, rfl⟩
  have HPN := Lib.hid (fun (W : World) (p : Option Addr) (h : IsPats W p us) => pbnew_any h)
  have HOf := Lib.hid (fun (W : World) (b : Nat) (h : IsProbe W b us) => pbof_own h htail htl (by omega) hus (by omega) skip)
  rw [hR] at HOf
  have hol : R.ids.length ≤ 8 := by
    rw [← hR]
    have hil : (idsK us s e us.length).length ≤ 8 := Nat.le_trans (ids_length us s e _) hs1
    rcases of_cases us s e skip with ⟨_, _, h1⟩ | ⟨_, _, h1⟩ | ⟨_, _, h1⟩ | h1 <;> rw [h1] <;> first | exact hil | simp
  have HHo := Lib.hid (fun (W : World) (a2 : Option Addr) (cap2 : Nat) (h : IsStrs W a2 us.length us) (aa : Option Addr) (cc : Nat) (hrow : IsRow .i64 W aa R.ids.length R.ids.length R.ids) => rholds_of a2 us.length cap2 us s e W (by omega) h huk (by omega) he hes skip R hR aa cc hrow)
  have HCv := Lib.hid (fun (W : World) (aa : Option Addr) (L cc : Nat) => pbcov_any (R.k : Int) (R.n : Int) (R.r : Int) (.slice aa L cc) ⟨_, _, _, rfl⟩ W)
  have hpos : 0 < covZ (R.k : Int) (R.n : Int) := by rw [← hR]; exact of_covers us s e skip
  have HAt := Lib.hid (fun (W : World) (a2 : Option Addr) (cap2 : Nat) (i : Nat) (hi : (i : Int) < covZ (R.k : Int) (R.n : Int)) (hE : e + i ≤ s.length) (h : IsStrs W a2 us.length us) =>
    show Calls _ _ _ _ (RetN R.ids W) by
      have h1 := rat_any a2 us.length cap2 us s ((e + i : Nat) : Int) W (by omega) h (fun t ht => (hus t ht).2) (by omega) (by omega)
      rwa [atZ_in hE, of_clears he hes (skip := skip) (by rw [hR]; exact hi) hE, hR] at h1)
  have hk4 : (R.k = 4) ∨ (R.k ≠ 4 ∧ R.ids = []) := by
    rw [← hR]
    rcases of_cases us s e skip with ⟨_, _, h1⟩ | ⟨_, _, h1⟩ | ⟨_, _, h1⟩ | h1 <;> rw [h1] <;> first | exact .inl rfl | exact .inr ⟨(by intro h; cases h), rfl⟩
  obtain ⟨C, hC⟩ : ∃ C : Nat, covZ (R.k : Int) (R.n : Int) = (C : Int) := ⟨(covZ (R.k : Int) (R.n : Int)).toNat, by omega⟩
  rw [hC] at HCv HAt hpos
  have S1 := Lib.hid (bsize s)
  have g1 : ¬ (60 : Int) < (s.length : Int) := by omega
  have g1d : decide ((60 : Int) < (s.length : Int)) = false := decide_eq_false g1
  have g2d : decide ((e : Int) < 1) = false := decide_eq_false (by omega)
  have g3d : decide ((s.length : Int) < (e : Int)) = false := decide_eq_false (by omega)
  have gke : (0 : Int) ≤ (e : Int) := by omega
  have gel : (e : Int) ≤ (s.length : Int) := by omega
  have HK4 := Lib.hid hk4
  clear hr hq hfw hwl hs2 hs3 hus huk htail hR hC hk4
  obtain ⟨k, n, r, ids⟩ := R
  dsimp only at *
  go_enter Try.func4, Try.ntmps4
  go_wp2_with fail
  refine HF.out.mono ?_
  rintro E w' ⟨rfl, hw⟩
  obtain rfl := hw.symm
  clear HF hw
  go_wp2_with fail
  refine HN.out.mono ?_
  rintro E w1 ⟨p, rfl, hp, d1⟩
  have e1 := d1.size
  have HN3 := Lib.hid (HN2.out w1 d1)
  have HP1 := Lib.hid hp
  clear HN HN2 hp
  go_wp2_with fail
  refine HN3.out.mono ?_
  rintro E w2 ⟨a2, cap2, rfl, hstr, hb2⟩
  have d2 := d1.trans (hb2.mono e1)
  have e2 := d2.size
  have T2 := Lib.hid hstr
  have HP2 := Lib.hid (HP1.out.below hb2)
  have HPd := Lib.hid (HPN.out w2.drew p (HP2.out.below (Below.refl _ _).drew))
  clear HN3 hb2 d1 e1 hstr HP1
  have D2 := Lib.hid d2
  clear d2
  have kk := (Below.refl w2.heap.size w2).drew.alloc (Nat.le_refl _) (.cells #[.int .i64 0, .int .i64 0, .int .i64 0, .slice none 0 0] 43)
  have hdz : w2.drew.heap.size = w2.heap.size := rfl
  go_upto_region 5 with fail
  go_cut [13] from 13 to 53 (fun q wx => ∃ (rb : Nat) (aa : Option Addr) (cc : Nat), q = .pointer (some ⟨rb, 0, none⟩) ∧ Hid (wx.heap[rb]? = some (.cells #[.int .i64 (k : Int), .int .i64 (n : Int), .int .i64 (r : Int), .slice aa ids.length cc] 43 (0, 0))) ∧ Hid (IsRow .i64 wx aa ids.length ids.length ids) ∧ Hid (Below w2.heap.size w2 wx))
  case first =>
    go_region_with (first
      | (go_at_call 11
         refine (HPN.out _ p (by first | exact HP2.out.below (Below.refl _ _).drew | exact HP2.out.below kk)).mono ?_
         rintro E w3 ⟨b, rfl, hbl, hPr, hb3⟩
         have HPr := Lib.hid hPr
         have HB3 : Hid (Below w2.heap.size w2 w3) := Lib.hid (by first | exact (Below.refl _ _).drew.trans hb3 | exact kk.trans (hb3.mono kk.size))
         (try have X3 : Hid (w3.heap[w2.heap.size]? = some (.cells #[.int .i64 0, .int .i64 0, .int .i64 0, .slice none 0 0] 43 (0, 0))) := Lib.hid ((hb3.block _ (heap_lt (heap_alloc_new w2.drew (.cells #[.int .i64 0, .int .i64 0, .int .i64 0, .slice none 0 0] 43)))).trans (heap_alloc_new w2.drew (.cells #[.int .i64 0, .int .i64 0, .int .i64 0, .slice none 0 0] 43))))
         clear hPr hb3 hbl)
      | (go_at_call 20
         refine (HOf.out _ b (by first | exact HPr.out | exact HPr.out.below ((Below.refl _ _).alloc (Nat.le_refl _) _))).mono ?_
         rintro E w4 ⟨a4, cap4, rfl, hr4, ho4, hb4⟩
         have HB4 : Hid (Below w2.heap.size w2 w4) := Lib.hid (by first | exact HB3.out.trans (hb4.mono HB3.out.size) | exact (HB3.out.alloc HB3.out.size _).trans (hb4.mono (HB3.out.alloc HB3.out.size _).size))
         (first
           | (have X4 := (hb4.block _ (heap_lt X3.out)).trans X3.out; obtain ⟨f0, f1, f2, f3⟩ := rec_free X4; obtain ⟨k0, k1, k2, k3⟩ := rec_reads X4)
           | (have X4 := (hb4.block _ (heap_lt (heap_alloc_new w3 (.cells #[.int .i64 0, .int .i64 0, .int .i64 0, .slice none 0 0] 43)))).trans (heap_alloc_new w3 (.cells #[.int .i64 0, .int .i64 0, .int .i64 0, .slice none 0 0] 43)); obtain ⟨f0, f1, f2, f3⟩ := rec_free X4; obtain ⟨k0, k1, k2, k3⟩ := rec_reads X4)
           | skip)))
    · have kA : Below w4.heap.size w4 (w4.alloc (.cells #[.int .i64 (k : Int), .int .i64 (n : Int), .int .i64 (r : Int), .slice a4 ids.length cap4] 43)) := (Below.refl _ _).alloc (Nat.le_refl _) _
      have q1 := Lib.hid (heap_alloc_new w4 (.cells #[.int .i64 (k : Int), .int .i64 (n : Int), .int .i64 (r : Int), .slice a4 ids.length cap4] 43))
      have q2 := Lib.hid (hr4.below kA)
      have q3 := Lib.hid (HB4.out.trans (kA.mono HB4.out.size))
      go_wp2_with fail
      go_meet
      exact ⟨_, a4, cap4, rfl, q1, q2, q3⟩
    · have hlt3 := HB3.out.size
      have q1 := Lib.hid (put_rec X4 (.int .i64 (k : Int)) (.int .i64 (n : Int)) (.int .i64 (r : Int)) (.slice a4 ids.length cap4))
      have q2 := Lib.hid (row_into hr4 ho4 (by omega) (((((Into.refl w3.heap.size w4).set 0 (.int .i64 (k : Int))).set 1 (.int .i64 (n : Int))).set 2 (.int .i64 (r : Int))).set 3 (.slice a4 ids.length cap4)) (by simp))
      have q3 := Lib.hid (below_rec HB4.out hlt3 (.int .i64 (k : Int)) (.int .i64 (n : Int)) (.int .i64 (r : Int)) (.slice a4 ids.length cap4))
      clear hr4 ho4
      go_wp2_with fail
      go_meet
      exact ⟨_, a4, cap4, rfl, q1, q2, q3⟩
    · have hlt3 := heap_lt X3.out
      have q1 := Lib.hid (put_rec X4 (.int .i64 (k : Int)) (.int .i64 (n : Int)) (.int .i64 (r : Int)) (.slice a4 ids.length cap4))
      have q2 := Lib.hid (row_into hr4 ho4 (by omega) (((((Into.refl w2.heap.size w4).set 0 (.int .i64 (k : Int))).set 1 (.int .i64 (n : Int))).set 2 (.int .i64 (r : Int))).set 3 (.slice a4 ids.length cap4)) hlt3)
      have q3 := Lib.hid (below_rec HB4.out (Nat.le_refl _) (.int .i64 (k : Int)) (.int .i64 (n : Int)) (.int .i64 (r : Int)) (.slice a4 ids.length cap4))
      clear hr4 ho4
      go_wp2_with fail
      go_meet
      exact ⟨_, a4, cap4, rfl, q1, q2, q3⟩
  case rest =>
    obtain ⟨rb, aa, cc, rfl, HX, HR, HBx⟩ := hcut
    obtain ⟨k0, k1, k2, k3⟩ := rec_reads HX.out
    have dc := D2.out.trans (HBx.out.mono D2.out.size)
    have ec := dc.size
    have Tc := Lib.hid (T2.out.below HBx.out)
    have Dc := Lib.hid dc
    clear dc kk hdz HPd HOf HPN HP2 T2
    go_wp2_with fail
    refine (HCv.out wc aa ids.length cc).mono ?_
    rintro E w5 ⟨rfl, hb5⟩
    have HX5 := Lib.hid ((hb5.block _ (heap_lt HX.out)).trans HX.out)
    have HR5 := Lib.hid (HR.out.below hb5)
    have T5 := Lib.hid (Tc.out.below hb5)
    have D5 := Lib.hid (Dc.out.trans (hb5.mono Dc.out.size))
    clear hb5 HX HR Tc Dc HCv k0 k1 k2 k3
    obtain ⟨k0, k1, k2, k3⟩ := rec_reads HX5.out
    have hpC : ¬ (C : Int) < 1 := by omega
    go_wp2_with fail
    refine (HHo.out w5 a2 cap2 T5.out aa cc HR5.out).mono ?_
    rintro E w6 ⟨rfl, hb6⟩
    have HX6 := Lib.hid ((hb6.block _ (heap_lt HX5.out)).trans HX5.out)
    have HR6 := Lib.hid (HR5.out.below hb6)
    have T6 := Lib.hid (T5.out.below hb6)
    have D6 := Lib.hid (D5.out.trans (hb6.mono D5.out.size))
    clear hb6 HX5 HR5 T5 D5 HHo k0 k1 k2 k3
    go_wp2_with fail
    go_loopw [15] (fun i wr => ∃ j : Nat, j ≤ 60 ∧ i = .int .i64 j ∧ Below w6.heap.size w6 wr) (fun i _ => 61 - (RowKit.intOf i).toNat)
    case atStart => exact ⟨0, by omega, rfl, Below.refl _ _⟩
    case round =>
      obtain ⟨j, hj, rfl, hbe⟩ := hrel
      obtain ⟨k0, k1, k2, k3⟩ := rec_reads ((hbe.block _ (heap_lt HX6.out)).trans HX6.out)
      have dr := Lib.hid (D6.out.trans (hbe.mono D6.out.size))
      have hsz := hbe.size
      by_cases h1 : j < C
      · have u1 : (j : Int) < (C : Int) := by omega
        have u1d : decide ((j : Int) < (C : Int)) = true := decide_eq_true u1
        by_cases h2 : e + j ≤ s.length
        · have wE : IntKind.i64.wrap ((e : Int) + (j : Int)) = ((e + j : Nat) : Int) := by rw [IntKind.wrap_i64]; omega
          obtain ⟨ej, hej⟩ : ∃ ej, e + j = ej := ⟨_, rfl⟩
          have HA := Lib.hid (HAt.out wr a2 cap2 j u1 h2 (T6.out.below hbe))
          rw [hej] at HA wE
          have u2 : (ej : Int) ≤ (s.length : Int) := by omega
          have HJ9 : Hid (j + 1 ≤ 60) := Lib.hid (by omega)
          clear hej h2
          go_wp2_with fail
          refine HA.out.mono ?_
          rintro E w7 ⟨v7, rfl, hown7, hb7⟩
          obtain ⟨a7, cap7, rfl, hrow7⟩ := row_of_ints hown7 (by unfold maxLen; omega)
          have hbe7 := hbe.trans (hb7.mono hsz)
          have HX7 := (hbe7.block _ (heap_lt HX6.out)).trans HX6.out
          clear k0 k1 k2 k3
          obtain ⟨k0, k1, k2, k3⟩ := rec_reads HX7
          have HSm := Lib.hid (isame_any a7 aa ids.length cap7 cc ids.length ids.length ids w7 (by omega) hrow7 (HR6.out.below hbe7))
          have HBE7 := Lib.hid hbe7
          clear hown7 hrow7 HX7 hb7 hbe7 hbe HA
          rcases HK4.out with hk | ⟨hk, hids⟩
          · subst hk
            go_wp2_with fail
            refine HSm.out.mono ?_
            rintro E w8 ⟨rfl, hb8⟩
            have HB8 := Lib.hid (HBE7.out.trans (hb8.mono HBE7.out.size))
            clear hb8 HBE7
            go_wp2
            have hj9 := HJ9.out
            refine ⟨?_, by simp [RowKit.intOf]; omega⟩
            (repeat apply Exists.intro)
            refine ⟨?_, rfl⟩
            exact ⟨j + 1, hj9, by go_num, HB8.out⟩
          · subst hids
            have v1 : ((k : Int) != 4) = true := by simp; omega
            have v2 : ((k : Int) == 4) = false := by simp; omega
            dsimp only [List.length_nil] at *
            have v3 : ¬ (k : Int) = 4 := by omega
            go_wp2
            have hj9 := HJ9.out
            exact ⟨⟨j + 1, hj9, by go_num, HBE7.out⟩, by simp [RowKit.intOf]; omega⟩
        · have wE : IntKind.i64.wrap ((e : Int) + (j : Int)) = ((e + j : Nat) : Int) := by rw [IntKind.wrap_i64]; omega
          obtain ⟨ej, hej⟩ : ∃ ej, e + j = ej := ⟨_, rfl⟩
          rw [hej] at wE
          have u2 : ¬ (ej : Int) ≤ (s.length : Int) := by omega
          clear hej h2
          go_wp2_with fail
          refine (pbawake_any _).mono ?_
          rintro E w16 ⟨rfl, hb16⟩
          have d16 := dr.out.trans (hb16.mono dr.out.size)
          go_wp2
          go_ret
          exact ⟨rfl, d16⟩
      · have u1 : ¬ (j : Int) < (C : Int) := by omega
        have u1d : decide ((j : Int) < (C : Int)) = false := decide_eq_false u1
        go_wp2_with fail
        refine (pbawake_any _).mono ?_
        rintro E w16 ⟨rfl, hb16⟩
        have d16 := dr.out.trans (hb16.mono dr.out.size)
        go_wp2
        go_ret
        exact ⟨rfl, d16⟩
end Go.Proofs.Ytngmjpfknehdkaa
