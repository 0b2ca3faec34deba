/-
  The law AffixOrder, walked.
-/
import Derived.Test.YtklogiingfkfnaaAfB
set_option linter.unusedSimpArgs false
set_option linter.unusedVariables false
namespace Go.Proofs.Ytklogiingfkfnaa
open Go.RowKit

theorem sorted_len (a : Option Addr) (len cap : Nat) (ws : List (List UInt8)) (w : World) (hl : len ≤ 1000000) (hr : IsStrs w a len ws) :
    Calls Try.prog 16 #[.slice a len cap] w fun e w' => ∃ (a2 : Option Addr) (cap2 : Nat), e = .returned (.slice a2 len cap2) ∧ Hid (IsStrs w' a2 len (srt ws)) ∧ Below w.heap.size w w' := by
  have e := hr.1
  refine (sorted_use a len cap ws w hl hr).mono ?_
  rintro e w' ⟨ao, cap', rfl, hs, hb⟩
  rw [srt_length, e] at hs ⊢
  exact ⟨ao, cap', rfl, Lib.hid hs, hb⟩
theorem shared_len (a : Option Addr) (len cap : Nat) (ws : List (List UInt8)) (w : World) (hl : len ≤ 1000000) (hr : IsStrs w a len ws) (ht : ∀ t ∈ ws, t.length ≤ 1000000000) :
    Calls Try.prog 24 #[.slice a len cap] w fun e w' => ∃ (a2 : Option Addr) (cap2 : Nat), e = .returned (.slice a2 len cap2) ∧ Hid (IsRow .i64 w' a2 len len (shr ws)) ∧ Below w.heap.size w w' := by
  have e := hr.1
  refine (shared_any a len cap ws w hl hr ht).mono ?_
  rintro e w' ⟨ao, cap', rfl, hs, hb⟩
  rw [shr_length, e] at hs ⊢
  exact ⟨ao, cap', rfl, Lib.hid hs, hb⟩
theorem srt_short {ws : List (List UInt8)} {n : Nat} (h : ∀ t ∈ ws, t.length ≤ n) : ∀ t ∈ srt ws, t.length ≤ n := fun t ht => h t ((srt_perm ws).mem_iff.1 ht)

/-- What the loop tests, once. -/
theorem order_at {ws : List (List UInt8)} {i m k : Nat} (hi : i ≤ m) (hm : m + 1 ≤ k) (hk : k < (srt ws).length) :
    ∃ A B C D : List UInt8, (srt ws)[i]? = some A ∧ (srt ws)[m]? = some B ∧ (srt ws)[m + 1]? = some C ∧ (srt ws)[k]? = some D ∧ (shr (srt ws)).getD (m + 1) 0 = (preL B C : Int) ∧ preL A D ≤ preL B C ∧ Lib.compareBytes B C ≤ 0 := by
  have hA : (srt ws)[i]? = some (srt ws)[i] := List.getElem?_eq_getElem (by omega)
  have hB : (srt ws)[m]? = some (srt ws)[m] := List.getElem?_eq_getElem (by omega)
  have hC : (srt ws)[m + 1]? = some (srt ws)[m + 1] := List.getElem?_eq_getElem (by omega)
  have hD : (srt ws)[k]? = some (srt ws)[k] := List.getElem?_eq_getElem (by omega)
  refine ⟨_, _, _, _, hA, hB, hC, hD, ?_, (srt_asc ws).share hi hm hA hB hC hD, (srt_asc ws).at (by omega) hB hC⟩
  rw [List.getD_eq_getElem?_getD, shr_get hB hC]; rfl

set_option maxHeartbeats 1000000 in
theorem aforder_many (a b c : ByteArray) (l : Option Addr) (len cap : Nat) (ws : List (List UInt8)) (i k : Int) (w : World) (hlen : len ≤ 9223372036854775807) (hr : IsStrs w l len ws) (ht : ∀ t ∈ ws, t.length ≤ 9223372036854775807) (hq : fewB ws 20 50 = false) :
    Calls Try.prog 5 #[.string a, .string b, .string c, .slice l len cap, .int .i64 i, .int .i64 k] w fun e w' => e = .returned (.bool true) ∧ Below w.heap.size w w' := by
  have HF := Lib.hid (few_not l len cap ws w hlen hr ht hq)
  clear hr ht hq
  go_enter Try.func5, Try.ntmps5
  go_wp2_with fail
  refine HF.out.mono ?_
  rintro e w' ⟨rfl, rfl⟩
  go_wp2_with fail
  refine (afawake_any _).mono ?_
  rintro e w' ⟨rfl, hb⟩
  go_wp2
  go_ret
  exact ⟨rfl, hb⟩

theorem three_is (a b c : List UInt8) (w : World) : IsStrs (w.alloc (.cells #[.string ⟨a.toArray⟩, .string ⟨b.toArray⟩, .string ⟨c.toArray⟩] 9)) (some ⟨w.heap.size, 0, none⟩) 3 [a, b, c] := strs_heap (ws := [a, b, c]) (heap_alloc_new w _) rfl

set_option maxHeartbeats 1000000 in
theorem aforder_long (a b c : List UInt8) (l : Option Addr) (len cap : Nat) (ws : List (List UInt8)) (i k : Int) (w : World) (hlen : len ≤ 9223372036854775807) (hr : IsStrs w l len ws) (ht : ∀ t ∈ ws, t.length ≤ 9223372036854775807) (hq : fewB ws 20 50 = true)
    (ha : a.length ≤ 9223372036854775807) (hb : b.length ≤ 9223372036854775807) (hc : c.length ≤ 9223372036854775807) (h3 : fewB [a, b, c] 3 50 = false) :
    Calls Try.prog 5 #[.string ⟨a.toArray⟩, .string ⟨b.toArray⟩, .string ⟨c.toArray⟩, .slice l len cap, .int .i64 i, .int .i64 k] w fun e w' => e = .returned (.bool true) ∧ Below w.heap.size w w' := by
  have HF := Lib.hid (few_yes l len cap ws w hlen hr ht hq)
  have h := few_any (some ⟨w.heap.size, 0, none⟩) 3 3 [a, b, c] 3 50 _ (by omega) (by omega) (by omega) (three_is a b c w) (by simp; omega)
  rw [h3] at h
  have H3 : Hid (Calls Try.prog 15 #[.slice (some ⟨w.heap.size, 0, none⟩) 3 3, .int .i64 3, .int .i64 50] (w.alloc (.cells #[.string ⟨a.toArray⟩, .string ⟨b.toArray⟩, .string ⟨c.toArray⟩] 9)) fun e w' => e = .returned (.bool false) ∧ w' = w.alloc (.cells #[.string ⟨a.toArray⟩, .string ⟨b.toArray⟩, .string ⟨c.toArray⟩] 9)) := Lib.hid h
  have c1 : Below w.heap.size w (w.alloc (.cells #[.string ⟨a.toArray⟩, .string ⟨b.toArray⟩, .string ⟨c.toArray⟩] 9)) := (Below.refl _ w).alloc (Nat.le_refl _) _
  have s1 := c1.size
  clear hr ht hq h h3
  go_enter Try.func5, Try.ntmps5
  go_wp2_with fail
  refine HF.out.mono ?_
  rintro e w' ⟨rfl, hw⟩
  obtain rfl := hw.symm
  clear hw
  go_wp2_with fail
  refine H3.out.mono ?_
  rintro e w' ⟨rfl, rfl⟩
  go_wp2_with fail
  refine (afawake_any _).mono ?_
  rintro e w' ⟨rfl, hb⟩
  go_wp2
  go_ret
  exact ⟨rfl, c1.trans (hb.mono s1)⟩

set_option maxHeartbeats 8000000 in
theorem aforder_good (a b c : List UInt8) (l : Option Addr) (len cap : Nat) (ws : List (List UInt8)) (i k : Int) (w : World) (hr : IsStrs w l len ws) (hq : fewB ws 20 50 = true) (h3 : fewB [a, b, c] 3 50 = true)
    (hi : -9223372036854775808 ≤ i ∧ i ≤ 9223372036854775807) (hk : -9223372036854775808 ≤ k ∧ k ≤ 9223372036854775807) :
    Calls Try.prog 5 #[.string ⟨a.toArray⟩, .string ⟨b.toArray⟩, .string ⟨c.toArray⟩, .slice l len cap, .int .i64 i, .int .i64 k] w fun e w' => e = .returned (.bool true) ∧ Below w.heap.size w w' := by
  have hwl := hr.1
  have hfw := (few_iff ws 20 50).1 hq
  have hlen : len ≤ 20 := by omega
  have hf3 := ((few_iff [a, b, c] 3 50).1 h3).2
  have HF := Lib.hid (few_yes l len cap ws w (by omega) hr (fun t ht => by have := hfw.2 t ht; omega) hq)
  have h := few_any (some ⟨w.heap.size, 0, none⟩) 3 3 [a, b, c] 3 50 _ (by omega) (by omega) (by omega) (three_is a b c w) (fun t ht => by have := hf3 t ht; omega)
  rw [h3] at h
  have H3 : Hid (Calls Try.prog 15 #[.slice (some ⟨w.heap.size, 0, none⟩) 3 3, .int .i64 3, .int .i64 50] (w.alloc (.cells #[.string ⟨a.toArray⟩, .string ⟨b.toArray⟩, .string ⟨c.toArray⟩] 9)) fun e w' => e = .returned (.bool true) ∧ w' = w.alloc (.cells #[.string ⟨a.toArray⟩, .string ⟨b.toArray⟩, .string ⟨c.toArray⟩] 9)) := Lib.hid h
  have c1 : Below w.heap.size w (w.alloc (.cells #[.string ⟨a.toArray⟩, .string ⟨b.toArray⟩, .string ⟨c.toArray⟩] 9)) := (Below.refl _ w).alloc (Nat.le_refl _) _
  have HR := Lib.hid hr
  have HL := Lib.hid hwl
  have HT := Lib.hid hfw.2
  have hab := fun w => compare_any a b w
  have hbc := fun w => compare_any b c w
  have hba := fun w => compare_any b a w
  have hac := fun w => compare_any a c w
  rw [cmp_swap a b] at hba
  have htr := cmp_trans a b c
  have hze := cmp_zero a b
  have hx2 : -1 ≤ Lib.compareBytes a b ∧ Lib.compareBytes a b ≤ 1 := by rcases cmp_cases a b with ⟨_, e⟩ | ⟨_, e⟩ | ⟨_, e⟩ <;> rw [e] <;> omega
  generalize Lib.compareBytes a b = x at hab hba htr hze hx2
  generalize Lib.compareBytes b c = y at hbc htr
  generalize Lib.compareBytes a c = z at hac htr
  obtain ⟨β, hβ⟩ : ∃ β, (x == 0) = β := ⟨_, rfl⟩
  have hβ2 : (a == b) = β := by
    rw [← hβ, Bool.eq_iff_iff]
    simp only [beq_iff_eq]
    exact hze.symm
  have q0 : (β == β) = true := by cases β <;> rfl
  have hw1 : IntKind.i64.wrap x = x := by rw [IntKind.wrap_i64]; omega
  have hw2 : IntKind.i64.wrap (0 - -x) = x := by rw [IntKind.wrap_i64]; omega
  have HAB := Lib.hid hab
  have HBC := Lib.hid hbc
  have HBA := Lib.hid hba
  have HAC := Lib.hid hac
  have s1 := c1.size
  obtain ⟨w0, hw0⟩ : ∃ w0, w0 = w.alloc (.cells #[.string ⟨a.toArray⟩, .string ⟨b.toArray⟩, .string ⟨c.toArray⟩] 9) := ⟨_, rfl⟩
  rw [← hw0] at H3 c1 s1
  have HW0 := Lib.hid hw0
  clear hr hq h3 hfw hf3 h hwl hab hbc hba hac hze hw0
  have hcase : 0 < x ∨ (x ≤ 0 ∧ 0 < y) ∨ (x ≤ 0 ∧ y ≤ 0) := by omega
  rcases hcase with h1 | ⟨h1, h2⟩ | ⟨h1, h2⟩
  · have g1 : ¬ x ≤ 0 := by omega
    clear htr
    go_enter Try.func5, Try.ntmps5
    go_wp2_with fail
    refine HF.out.mono ?_
    rintro e w' ⟨rfl, hw⟩
    obtain rfl := hw.symm
    clear hw
    go_wp2_with fail
    rw [← HW0.out]
    refine H3.out.mono ?_
    rintro e w' ⟨rfl, hw⟩
    obtain rfl := hw
    clear H3
    go_wp2_with fail
    refine (HAB.out _).mono ?_
    rintro e w' ⟨rfl, rfl⟩
    go_wp2_with fail
    refine (HBC.out _).mono ?_
    rintro e w' ⟨rfl, rfl⟩
    go_wp2_with fail
    refine (HBA.out _).mono ?_
    rintro e w' ⟨rfl, rfl⟩
    go_wp2_with fail
    refine (sorted_len l len cap ws w' (by omega) (HR.out.below c1)).mono ?_
    rintro e w1 ⟨a1, cap1, rfl, T1, hb1⟩
    have d1 := c1.trans (hb1.mono s1)
    have e1 := d1.size
    clear c1 s1 hb1 HF HAB HBC HBA HAC HW0
    go_wp2_with fail
    refine (shared_len a1 len cap1 (srt ws) w1 (by omega) T1.out (srt_short (fun t ht => by have := HT.out t ht; omega))).mono ?_
    rintro e w2 ⟨a2, cap2, rfl, R2, hb2⟩
    have T2 := Lib.hid (T1.out.below hb2)
    have d2 := d1.trans (hb2.mono e1)
    have e2 := d2.size
    clear d1 e1 hb2 T1
    by_cases i1 : i < 0
    · go_wp2_with fail
      refine (afawake_any _).mono ?_
      rintro e w9 ⟨rfl, hb9⟩
      have d9 := d2.trans (hb9.mono e2)
      go_wp2
      go_ret
      exact ⟨rfl, d9⟩
    · by_cases i2 : k ≤ i
      · go_wp2_with fail
        refine (afawake_any _).mono ?_
        rintro e w9 ⟨rfl, hb9⟩
        have d9 := d2.trans (hb9.mono e2)
        go_wp2
        go_ret
        exact ⟨rfl, d9⟩
      · by_cases i3 : (len : Int) ≤ k
        · go_wp2_with fail
          refine (afawake_any _).mono ?_
          rintro e w9 ⟨rfl, hb9⟩
          have d9 := d2.trans (hb9.mono e2)
          go_wp2
          go_ret
          exact ⟨rfl, d9⟩
        · obtain ⟨i0, rfl⟩ : ∃ n : Nat, i = n := ⟨i.toNat, by omega⟩
          obtain ⟨k0, rfl⟩ : ∃ n : Nat, k = n := ⟨k.toNat, by omega⟩
          have hik : i0 < k0 := by omega
          have hkl : k0 < len := by omega
          have HSL : Hid ((srt ws).length = len) := Lib.hid (by rw [srt_length]; exact HL.out)
          have HTS := Lib.hid (srt_short HT.out)
          go_wp2_with fail
          go_loopw [17] (fun j wr => ∃ m : Nat, i0 < m ∧ m ≤ k0 + 1 ∧ j = .int .i64 m ∧ Below w2.heap.size w2 wr) (fun j _ => k0 + 1 - (RowKit.intOf j).toNat)
          case atStart => exact ⟨i0 + 1, by omega, by omega, by go_num, Below.refl _ _⟩
          case round =>
            obtain ⟨m, hm1, hm2, rfl, hbe⟩ := hrel
            by_cases hlt : m ≤ k0
            · obtain ⟨n, rfl⟩ : ∃ n, m = n + 1 := ⟨m - 1, by omega⟩
              obtain ⟨A, B, C, D, hA, hB, hC, hD, hN, hle, hcm⟩ := order_at (ws := ws) (i := i0) (m := n) (k := k0) (by omega) hlt (by rw [HSL.out]; omega)
              obtain ⟨bb, off, hab, tA, hA2, cA⟩ := str_at T2.out hbe i0 (by omega)
              obtain ⟨b4, o4, hab4, tB, hB2, cB⟩ := str_at T2.out hbe n (by omega)
              obtain ⟨b5, o5, hab5, tC, hC2, cC⟩ := str_at T2.out hbe (n + 1) (by omega)
              obtain ⟨b6, o6, hab6, tD, hD2, cD⟩ := str_at T2.out hbe k0 (by omega)
              obtain rfl : tA = A := Option.some.inj (hA2.symm.trans hA)
              obtain rfl : tB = B := Option.some.inj (hB2.symm.trans hB)
              obtain rfl : tC = C := Option.some.inj (hC2.symm.trans hC)
              obtain rfl : tD = D := Option.some.inj (hD2.symm.trans hD)
              cases hab
              cases hab4
              cases hab5
              cases hab6
              obtain h0 | ⟨b7, o7, rfl, _, _, _, cN⟩ := R2.out.below hbe
              · omega
              have cN1 := cN (n + 1) (by omega)
              rw [hN] at cN1
              have hlA := HTS.out tA (List.mem_of_getElem? hA)
              have hlD := HTS.out tD (List.mem_of_getElem? hD)
              have HP : Hid (∀ q, Calls Try.prog 9 #[.string ⟨tA.toArray⟩, .string ⟨tD.toArray⟩] (wr.drewN q) fun e w'' => e = .returned (.int .i64 (preL tA tD : Int)) ∧ ∃ m, w'' = wr.drewN m) := Lib.hid (fun q => Calls.quiet_of (prefix_draws tA tD (wr.drewN q) (by omega) (by omega)))
              have HC : Hid (∀ q, Calls Try.prog 13 #[.string ⟨tB.toArray⟩, .string ⟨tC.toArray⟩] (wr.drewN q) fun e w'' => e = .returned (.int .i64 (Lib.compareBytes tB tC)) ∧ ∃ m, w'' = wr.drewN m) := Lib.hid (fun q => Calls.quiet_of_same (compare_any tB tC (wr.drewN q)))
              clear cN hN hA hB hC hD hA2 hB2 hC2 hD2
              generalize preL tA tD = p at HP hle
              generalize preL tB tC = r at hle cN1
              generalize Lib.compareBytes tB tC = v at HC hcm
              have z1 : ¬ (r : Int) < (p : Int) := by omega
              have z2 : decide ((r : Int) < (p : Int)) = false := decide_eq_false z1
              have z3 : ¬ r < p := by omega
              have z4 : decide (r < p) = false := decide_eq_false z3
              have z5 : ¬ 0 < v := by omega
              have z6 : decide (0 < v) = false := decide_eq_false z5
              have u1 : ((n + 1 : Nat) : Int) = (n : Int) + 1 := by omega
              have u2 : IntKind.i64.wrap (n : Int) = (n : Int) := by rw [IntKind.wrap_i64]; omega
              have u3 : IntKind.i64.wrap ((n : Int) + 1 - 1) = (n : Int) := by rw [IntKind.wrap_i64]; omega
              have u4 : (0 : Int) ≤ (n : Int) := by omega
              have u5 : (n : Int) < (len : Int) := by omega
              have u6 : (0 : Int) ≤ (n : Int) + 1 := by omega
              have u7 : (n : Int) + 1 < (len : Int) := by omega
              have u8 : ((n : Int) + 1).toNat = n + 1 := by omega
              have u9 : (0 : Int) ≤ (i0 : Int) := by omega
              have u10 : (i0 : Int) < (len : Int) := by omega
              have u11 : (0 : Int) ≤ (k0 : Int) := by omega
              have u12 : (k0 : Int) < (len : Int) := by omega
              have u13 : (n : Int) + 1 ≤ (k0 : Int) := by omega
              rw [u1]
              clear hle hcm z1 z3 z5 h1
              go_wp2_with fail
              go_quiet (first | with_reducible exact HP.out _ | with_reducible exact HC.out _)
              go_wp2
              exact ⟨⟨n + 1 + 1, by omega, by omega, by go_num, below_drewS hbe _⟩, by simp [RowKit.intOf]; omega⟩
            · have g9 : ¬ (m : Int) ≤ (k0 : Int) := by omega
              have d3 := d2.trans (hbe.mono e2)
              have e3 := d3.size
              go_wp2_with fail
              refine (afawake_any _).mono ?_
              rintro e w9 ⟨rfl, hb9⟩
              have d9 := d3.trans (hb9.mono e3)
              go_wp2
              go_ret
              exact ⟨rfl, d9⟩
  · have g1 : ¬ y ≤ 0 := by omega
    clear htr
    go_enter Try.func5, Try.ntmps5
    go_wp2_with fail
    refine HF.out.mono ?_
    rintro e w' ⟨rfl, hw⟩
    obtain rfl := hw.symm
    clear hw
    go_wp2_with fail
    rw [← HW0.out]
    refine H3.out.mono ?_
    rintro e w' ⟨rfl, hw⟩
    obtain rfl := hw
    clear H3
    go_wp2_with fail
    refine (HAB.out _).mono ?_
    rintro e w' ⟨rfl, rfl⟩
    go_wp2_with fail
    refine (HBC.out _).mono ?_
    rintro e w' ⟨rfl, rfl⟩
    go_wp2_with fail
    refine (HBA.out _).mono ?_
    rintro e w' ⟨rfl, rfl⟩
    go_wp2_with fail
    refine (sorted_len l len cap ws w' (by omega) (HR.out.below c1)).mono ?_
    rintro e w1 ⟨a1, cap1, rfl, T1, hb1⟩
    have d1 := c1.trans (hb1.mono s1)
    have e1 := d1.size
    clear c1 s1 hb1 HF HAB HBC HBA HAC HW0
    go_wp2_with fail
    refine (shared_len a1 len cap1 (srt ws) w1 (by omega) T1.out (srt_short (fun t ht => by have := HT.out t ht; omega))).mono ?_
    rintro e w2 ⟨a2, cap2, rfl, R2, hb2⟩
    have T2 := Lib.hid (T1.out.below hb2)
    have d2 := d1.trans (hb2.mono e1)
    have e2 := d2.size
    clear d1 e1 hb2 T1
    by_cases i1 : i < 0
    · go_wp2_with fail
      refine (afawake_any _).mono ?_
      rintro e w9 ⟨rfl, hb9⟩
      have d9 := d2.trans (hb9.mono e2)
      go_wp2
      go_ret
      exact ⟨rfl, d9⟩
    · by_cases i2 : k ≤ i
      · go_wp2_with fail
        refine (afawake_any _).mono ?_
        rintro e w9 ⟨rfl, hb9⟩
        have d9 := d2.trans (hb9.mono e2)
        go_wp2
        go_ret
        exact ⟨rfl, d9⟩
      · by_cases i3 : (len : Int) ≤ k
        · go_wp2_with fail
          refine (afawake_any _).mono ?_
          rintro e w9 ⟨rfl, hb9⟩
          have d9 := d2.trans (hb9.mono e2)
          go_wp2
          go_ret
          exact ⟨rfl, d9⟩
        · obtain ⟨i0, rfl⟩ : ∃ n : Nat, i = n := ⟨i.toNat, by omega⟩
          obtain ⟨k0, rfl⟩ : ∃ n : Nat, k = n := ⟨k.toNat, by omega⟩
          have hik : i0 < k0 := by omega
          have hkl : k0 < len := by omega
          have HSL : Hid ((srt ws).length = len) := Lib.hid (by rw [srt_length]; exact HL.out)
          have HTS := Lib.hid (srt_short HT.out)
          go_wp2_with fail
          go_loopw [17] (fun j wr => ∃ m : Nat, i0 < m ∧ m ≤ k0 + 1 ∧ j = .int .i64 m ∧ Below w2.heap.size w2 wr) (fun j _ => k0 + 1 - (RowKit.intOf j).toNat)
          case atStart => exact ⟨i0 + 1, by omega, by omega, by go_num, Below.refl _ _⟩
          case round =>
            obtain ⟨m, hm1, hm2, rfl, hbe⟩ := hrel
            by_cases hlt : m ≤ k0
            · obtain ⟨n, rfl⟩ : ∃ n, m = n + 1 := ⟨m - 1, by omega⟩
              obtain ⟨A, B, C, D, hA, hB, hC, hD, hN, hle, hcm⟩ := order_at (ws := ws) (i := i0) (m := n) (k := k0) (by omega) hlt (by rw [HSL.out]; omega)
              obtain ⟨bb, off, hab, tA, hA2, cA⟩ := str_at T2.out hbe i0 (by omega)
              obtain ⟨b4, o4, hab4, tB, hB2, cB⟩ := str_at T2.out hbe n (by omega)
              obtain ⟨b5, o5, hab5, tC, hC2, cC⟩ := str_at T2.out hbe (n + 1) (by omega)
              obtain ⟨b6, o6, hab6, tD, hD2, cD⟩ := str_at T2.out hbe k0 (by omega)
              obtain rfl : tA = A := Option.some.inj (hA2.symm.trans hA)
              obtain rfl : tB = B := Option.some.inj (hB2.symm.trans hB)
              obtain rfl : tC = C := Option.some.inj (hC2.symm.trans hC)
              obtain rfl : tD = D := Option.some.inj (hD2.symm.trans hD)
              cases hab
              cases hab4
              cases hab5
              cases hab6
              obtain h0 | ⟨b7, o7, rfl, _, _, _, cN⟩ := R2.out.below hbe
              · omega
              have cN1 := cN (n + 1) (by omega)
              rw [hN] at cN1
              have hlA := HTS.out tA (List.mem_of_getElem? hA)
              have hlD := HTS.out tD (List.mem_of_getElem? hD)
              have HP : Hid (∀ q, Calls Try.prog 9 #[.string ⟨tA.toArray⟩, .string ⟨tD.toArray⟩] (wr.drewN q) fun e w'' => e = .returned (.int .i64 (preL tA tD : Int)) ∧ ∃ m, w'' = wr.drewN m) := Lib.hid (fun q => Calls.quiet_of (prefix_draws tA tD (wr.drewN q) (by omega) (by omega)))
              have HC : Hid (∀ q, Calls Try.prog 13 #[.string ⟨tB.toArray⟩, .string ⟨tC.toArray⟩] (wr.drewN q) fun e w'' => e = .returned (.int .i64 (Lib.compareBytes tB tC)) ∧ ∃ m, w'' = wr.drewN m) := Lib.hid (fun q => Calls.quiet_of_same (compare_any tB tC (wr.drewN q)))
              clear cN hN hA hB hC hD hA2 hB2 hC2 hD2
              generalize preL tA tD = p at HP hle
              generalize preL tB tC = r at hle cN1
              generalize Lib.compareBytes tB tC = v at HC hcm
              have z1 : ¬ (r : Int) < (p : Int) := by omega
              have z2 : decide ((r : Int) < (p : Int)) = false := decide_eq_false z1
              have z3 : ¬ r < p := by omega
              have z4 : decide (r < p) = false := decide_eq_false z3
              have z5 : ¬ 0 < v := by omega
              have z6 : decide (0 < v) = false := decide_eq_false z5
              have u1 : ((n + 1 : Nat) : Int) = (n : Int) + 1 := by omega
              have u2 : IntKind.i64.wrap (n : Int) = (n : Int) := by rw [IntKind.wrap_i64]; omega
              have u3 : IntKind.i64.wrap ((n : Int) + 1 - 1) = (n : Int) := by rw [IntKind.wrap_i64]; omega
              have u4 : (0 : Int) ≤ (n : Int) := by omega
              have u5 : (n : Int) < (len : Int) := by omega
              have u6 : (0 : Int) ≤ (n : Int) + 1 := by omega
              have u7 : (n : Int) + 1 < (len : Int) := by omega
              have u8 : ((n : Int) + 1).toNat = n + 1 := by omega
              have u9 : (0 : Int) ≤ (i0 : Int) := by omega
              have u10 : (i0 : Int) < (len : Int) := by omega
              have u11 : (0 : Int) ≤ (k0 : Int) := by omega
              have u12 : (k0 : Int) < (len : Int) := by omega
              have u13 : (n : Int) + 1 ≤ (k0 : Int) := by omega
              rw [u1]
              clear hle hcm z1 z3 z5 h1
              go_wp2_with fail
              go_quiet (first | with_reducible exact HP.out _ | with_reducible exact HC.out _)
              go_wp2
              exact ⟨⟨n + 1 + 1, by omega, by omega, by go_num, below_drewS hbe _⟩, by simp [RowKit.intOf]; omega⟩
            · have g9 : ¬ (m : Int) ≤ (k0 : Int) := by omega
              have d3 := d2.trans (hbe.mono e2)
              have e3 := d3.size
              go_wp2_with fail
              refine (afawake_any _).mono ?_
              rintro e w9 ⟨rfl, hb9⟩
              have d9 := d3.trans (hb9.mono e3)
              go_wp2
              go_ret
              exact ⟨rfl, d9⟩
  · have g1 : ¬ 0 < z := by have := htr h1 h2; omega
    clear htr
    go_enter Try.func5, Try.ntmps5
    go_wp2_with fail
    refine HF.out.mono ?_
    rintro e w' ⟨rfl, hw⟩
    obtain rfl := hw.symm
    clear hw
    go_wp2_with fail
    rw [← HW0.out]
    refine H3.out.mono ?_
    rintro e w' ⟨rfl, hw⟩
    obtain rfl := hw
    clear H3
    go_wp2_with fail
    refine (HAB.out _).mono ?_
    rintro e w' ⟨rfl, rfl⟩
    go_wp2_with fail
    refine (HBC.out _).mono ?_
    rintro e w' ⟨rfl, rfl⟩
    go_wp2_with fail
    refine (HBA.out _).mono ?_
    rintro e w' ⟨rfl, rfl⟩
    go_wp2_with fail
    refine (HAC.out _).mono ?_
    rintro e w' ⟨rfl, rfl⟩
    go_wp2_with fail
    refine (sorted_len l len cap ws w' (by omega) (HR.out.below c1)).mono ?_
    rintro e w1 ⟨a1, cap1, rfl, T1, hb1⟩
    have d1 := c1.trans (hb1.mono s1)
    have e1 := d1.size
    clear c1 s1 hb1 HF HAB HBC HBA HAC HW0
    go_wp2_with fail
    refine (shared_len a1 len cap1 (srt ws) w1 (by omega) T1.out (srt_short (fun t ht => by have := HT.out t ht; omega))).mono ?_
    rintro e w2 ⟨a2, cap2, rfl, R2, hb2⟩
    have T2 := Lib.hid (T1.out.below hb2)
    have d2 := d1.trans (hb2.mono e1)
    have e2 := d2.size
    clear d1 e1 hb2 T1
    by_cases i1 : i < 0
    · go_wp2_with fail
      refine (afawake_any _).mono ?_
      rintro e w9 ⟨rfl, hb9⟩
      have d9 := d2.trans (hb9.mono e2)
      go_wp2
      go_ret
      exact ⟨rfl, d9⟩
    · by_cases i2 : k ≤ i
      · go_wp2_with fail
        refine (afawake_any _).mono ?_
        rintro e w9 ⟨rfl, hb9⟩
        have d9 := d2.trans (hb9.mono e2)
        go_wp2
        go_ret
        exact ⟨rfl, d9⟩
      · by_cases i3 : (len : Int) ≤ k
        · go_wp2_with fail
          refine (afawake_any _).mono ?_
          rintro e w9 ⟨rfl, hb9⟩
          have d9 := d2.trans (hb9.mono e2)
          go_wp2
          go_ret
          exact ⟨rfl, d9⟩
        · obtain ⟨i0, rfl⟩ : ∃ n : Nat, i = n := ⟨i.toNat, by omega⟩
          obtain ⟨k0, rfl⟩ : ∃ n : Nat, k = n := ⟨k.toNat, by omega⟩
          have hik : i0 < k0 := by omega
          have hkl : k0 < len := by omega
          have HSL : Hid ((srt ws).length = len) := Lib.hid (by rw [srt_length]; exact HL.out)
          have HTS := Lib.hid (srt_short HT.out)
          go_wp2_with fail
          go_loopw [17] (fun j wr => ∃ m : Nat, i0 < m ∧ m ≤ k0 + 1 ∧ j = .int .i64 m ∧ Below w2.heap.size w2 wr) (fun j _ => k0 + 1 - (RowKit.intOf j).toNat)
          case atStart => exact ⟨i0 + 1, by omega, by omega, by go_num, Below.refl _ _⟩
          case round =>
            obtain ⟨m, hm1, hm2, rfl, hbe⟩ := hrel
            by_cases hlt : m ≤ k0
            · obtain ⟨n, rfl⟩ : ∃ n, m = n + 1 := ⟨m - 1, by omega⟩
              obtain ⟨A, B, C, D, hA, hB, hC, hD, hN, hle, hcm⟩ := order_at (ws := ws) (i := i0) (m := n) (k := k0) (by omega) hlt (by rw [HSL.out]; omega)
              obtain ⟨bb, off, hab, tA, hA2, cA⟩ := str_at T2.out hbe i0 (by omega)
              obtain ⟨b4, o4, hab4, tB, hB2, cB⟩ := str_at T2.out hbe n (by omega)
              obtain ⟨b5, o5, hab5, tC, hC2, cC⟩ := str_at T2.out hbe (n + 1) (by omega)
              obtain ⟨b6, o6, hab6, tD, hD2, cD⟩ := str_at T2.out hbe k0 (by omega)
              obtain rfl : tA = A := Option.some.inj (hA2.symm.trans hA)
              obtain rfl : tB = B := Option.some.inj (hB2.symm.trans hB)
              obtain rfl : tC = C := Option.some.inj (hC2.symm.trans hC)
              obtain rfl : tD = D := Option.some.inj (hD2.symm.trans hD)
              cases hab
              cases hab4
              cases hab5
              cases hab6
              obtain h0 | ⟨b7, o7, rfl, _, _, _, cN⟩ := R2.out.below hbe
              · omega
              have cN1 := cN (n + 1) (by omega)
              rw [hN] at cN1
              have hlA := HTS.out tA (List.mem_of_getElem? hA)
              have hlD := HTS.out tD (List.mem_of_getElem? hD)
              have HP : Hid (∀ q, Calls Try.prog 9 #[.string ⟨tA.toArray⟩, .string ⟨tD.toArray⟩] (wr.drewN q) fun e w'' => e = .returned (.int .i64 (preL tA tD : Int)) ∧ ∃ m, w'' = wr.drewN m) := Lib.hid (fun q => Calls.quiet_of (prefix_draws tA tD (wr.drewN q) (by omega) (by omega)))
              have HC : Hid (∀ q, Calls Try.prog 13 #[.string ⟨tB.toArray⟩, .string ⟨tC.toArray⟩] (wr.drewN q) fun e w'' => e = .returned (.int .i64 (Lib.compareBytes tB tC)) ∧ ∃ m, w'' = wr.drewN m) := Lib.hid (fun q => Calls.quiet_of_same (compare_any tB tC (wr.drewN q)))
              clear cN hN hA hB hC hD hA2 hB2 hC2 hD2
              generalize preL tA tD = p at HP hle
              generalize preL tB tC = r at hle cN1
              generalize Lib.compareBytes tB tC = v at HC hcm
              have z1 : ¬ (r : Int) < (p : Int) := by omega
              have z2 : decide ((r : Int) < (p : Int)) = false := decide_eq_false z1
              have z3 : ¬ r < p := by omega
              have z4 : decide (r < p) = false := decide_eq_false z3
              have z5 : ¬ 0 < v := by omega
              have z6 : decide (0 < v) = false := decide_eq_false z5
              have u1 : ((n + 1 : Nat) : Int) = (n : Int) + 1 := by omega
              have u2 : IntKind.i64.wrap (n : Int) = (n : Int) := by rw [IntKind.wrap_i64]; omega
              have u3 : IntKind.i64.wrap ((n : Int) + 1 - 1) = (n : Int) := by rw [IntKind.wrap_i64]; omega
              have u4 : (0 : Int) ≤ (n : Int) := by omega
              have u5 : (n : Int) < (len : Int) := by omega
              have u6 : (0 : Int) ≤ (n : Int) + 1 := by omega
              have u7 : (n : Int) + 1 < (len : Int) := by omega
              have u8 : ((n : Int) + 1).toNat = n + 1 := by omega
              have u9 : (0 : Int) ≤ (i0 : Int) := by omega
              have u10 : (i0 : Int) < (len : Int) := by omega
              have u11 : (0 : Int) ≤ (k0 : Int) := by omega
              have u12 : (k0 : Int) < (len : Int) := by omega
              have u13 : (n : Int) + 1 ≤ (k0 : Int) := by omega
              rw [u1]
              clear hle hcm z1 z3 z5 h1
              go_wp2_with fail
              go_quiet (first | with_reducible exact HP.out _ | with_reducible exact HC.out _)
              go_wp2
              exact ⟨⟨n + 1 + 1, by omega, by omega, by go_num, below_drewS hbe _⟩, by simp [RowKit.intOf]; omega⟩
            · have g9 : ¬ (m : Int) ≤ (k0 : Int) := by omega
              have d3 := d2.trans (hbe.mono e2)
              have e3 := d3.size
              go_wp2_with fail
              refine (afawake_any _).mono ?_
              rintro e w9 ⟨rfl, hb9⟩
              have d9 := d3.trans (hb9.mono e3)
              go_wp2
              go_ret
              exact ⟨rfl, d9⟩
end Go.Proofs.Ytklogiingfkfnaa
