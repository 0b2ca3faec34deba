/-
  The document's own answers for layer 17: Longest, Fail, Out, Step: walked.
-/
import Derived.Test.YtkaldfcpcimacaaLkM
import Derived.Test.YtkaldfcpcimacaaTrF
set_option linter.unusedSimpArgs false
set_option linter.unusedVariables false
namespace Go.Proofs.Ytkaldfcpcimacaa
open Go.RowKit

theorem ix_nonneg {s : List UInt8} {ws : List (List UInt8)} (h : s ∈ ws) : 0 ≤ ixL s ws := by unfold ixL; rw [if_pos h]; omega
theorem tail_drop (s : List UInt8) (d : Nat) : (s.drop d).tail = s.drop (d + 1) := by rw [List.tail_drop]

set_option maxHeartbeats 1000000 in
theorem rlongest_any (a : Option Addr) (len cap : Nat) (S : List (List UInt8)) (s : List UInt8) (m : Nat) (w : World) (hlen : len ≤ 1000000000) (hr : IsStrs w a len S) (h0 : [] ∈ S) (hs : s.length ≤ 100000000) (hm : m ≤ s.length) :
    Calls Try.prog 23 #[.slice a len cap, .string ⟨s.toArray⟩, .int .i64 (m : Int)] w fun e w' => e = .returned (.int .i64 (ixL (lgL S (s.drop (s.length - m))) S)) ∧ w' = w := by
  have HF := Lib.hid (fun t => rfind16_any a len cap S t w hlen hr)
  have H0 := Lib.hid h0
  have HS := Lib.hid (bsize s)
  clear hr h0
  go_enter Try.func23, Try.ntmps23
  go_wp2
  go_loop [7, 8] (fun x _ => ∃ n : Nat, n ≤ s.length ∧ x = .int .i64 n ∧ Hid (lgL S (s.drop (s.length - m)) = lgL S (s.drop (s.length - min n m)))) (fun x _ => (RowKit.intOf x).toNat)
  case atStart => exact ⟨s.length, Nat.le_refl _, rfl, Lib.hid (by rw [Nat.min_eq_right hm])⟩
  case round =>
    obtain ⟨n, hn, rfl, HG⟩ := hrel
    have g0 : (0 : Int) ≤ (n : Int) := by omega
    by_cases hnm : m < n
    · have g1 : (m : Int) < (n : Int) := by omega
      have HG2 := Lib.hid (show lgL S (s.drop (s.length - m)) = lgL S (s.drop (s.length - min (n - 1) m)) by
        rw [HG.out, Nat.min_eq_right (by omega), Nat.min_eq_right (by omega)])
      have w1 : IntKind.i64.wrap ((n : Int) - 1) = ((n - 1 : Nat) : Int) := by rw [IntKind.wrap_i64]; omega
      clear HG
      go_wp2
      exact ⟨⟨n - 1, by omega, by first | rfl | go_num, HG2⟩, by simp [RowKit.intOf]; omega⟩
    · have g1 : ¬ (m : Int) < (n : Int) := by omega
      obtain ⟨d, hd⟩ : ∃ d, d + n = s.length := ⟨s.length - n, by omega⟩
      have w0 : IntKind.i64.wrap ((s.length : Int) - (n : Int)) = (d : Int) := by rw [IntKind.wrap_i64]; omega
      have g2 : (0 : Int) ≤ (d : Int) := by omega
      have g3 : (d : Int) ≤ (s.length : Int) := by omega
      have hx := ext_rest s d
      have HG1 := Lib.hid (show lgL S (s.drop (s.length - m)) = lgL S (s.drop d) by
        rw [HG.out, Nat.min_eq_left (by omega), show s.length - n = d by omega])
      have HC := Lib.hid (HF.out (s.drop d))
      by_cases hu : s.drop d ∈ S
      · have hz := ix_nonneg hu
        have HE := Lib.hid (show ixL (lgL S (s.drop (s.length - m))) S = ixL (s.drop d) S by rw [HG1.out, lg_hit hu])
        generalize ixL (s.drop d) S = z at hz HE HC
        have HD := Lib.hid hd
        clear HG HG1 hu hd
        go_wp2_with fail
        refine HC.out.mono ?_
        rintro e w' ⟨rfl, hw'⟩
        obtain rfl := hw'.symm
        clear hw' HC
        go_wp2
        go_ret
        exact ⟨by rw [HE.out]; rfl, rfl⟩
      · have hz := ix_miss hu
        rw [hz] at HC
        have hn0 : 1 ≤ n := by
          rcases Nat.eq_zero_or_pos n with h | h
          · exfalso
            rw [List.drop_eq_nil_of_le (by omega)] at hu
            exact hu H0.out
          · exact h
        have HG2 := Lib.hid (show lgL S (s.drop (s.length - m)) = lgL S (s.drop (s.length - min (n - 1) m)) by
          rw [HG1.out, lg_miss hu, tail_drop, Nat.min_eq_left (by omega), show s.length - (n - 1) = d + 1 by omega])
        have w1 : IntKind.i64.wrap ((n : Int) - 1) = ((n - 1 : Nat) : Int) := by rw [IntKind.wrap_i64]; omega
        have HD := Lib.hid hd
        clear HG HG1 hu hd hz
        go_wp2_with fail
        refine HC.out.mono ?_
        rintro e w' ⟨rfl, hw'⟩
        obtain rfl := hw'.symm
        clear hw' HC
        go_wp2
        exact ⟨⟨n - 1, by omega, by first | rfl | go_num, HG2⟩, by simp [RowKit.intOf]; omega⟩

set_option maxHeartbeats 1000000 in
theorem rlkfail_any (a : Option Addr) (len cap : Nat) (S : List (List UInt8)) (w : World) (hlen : len ≤ 1000000000) (hr : IsStrs w a len S) (h0 : S[0]? = some []) (hn : S.Nodup) (hl : ∀ t ∈ S, t.length ≤ 100000000) (i : Nat) {s : List UInt8} (hs : S[i]? = some s) :
    Calls Try.prog 15 #[.slice a len cap, .int .i64 (i : Int)] w fun e w' => e = .returned (.int .i64 (ixL (fbL S s) S)) ∧ Below w.heap.size w w' := by
  have hwl := hr.1
  have hil := (List.getElem?_eq_some_iff.1 hs).1
  by_cases hi : i = 0
  · subst hi
    rw [h0] at hs
    cases hs
    have HE := Lib.hid (show ixL (fbL S []) S = 0 by show ixL [] S = 0; rw [ix_is hn h0]; rfl)
    clear hr h0 hn hl
    go_enter Try.func15, Try.ntmps15
    go_wp2
    go_ret
    exact ⟨by rw [HE.out]; rfl, Below.refl _ _⟩
  · have hs0 : s ≠ [] := fun e => by
      subst e
      obtain ⟨a1, b1⟩ := List.getElem?_eq_some_iff.1 hs
      obtain ⟨a2, b2⟩ := List.getElem?_eq_some_iff.1 h0
      exact hi ((List.getElem_inj hn).1 (b1.trans b2.symm))
    have hsl := hl s (List.mem_of_getElem? hs)
    have hsp : 1 ≤ s.length := by cases s with | nil => exact absurd rfl hs0 | cons _ _ => simp
    have HL := Lib.hid (fun q => rlongest_any a len cap S s (s.length - 1) (w.drewN q) hlen (hr.below (below_drewS (Below.refl _ _) q)) (List.mem_of_getElem? h0) hsl (by omega))
    have HE := Lib.hid (show s.drop (s.length - (s.length - 1)) = s.tail by rw [show s.length - (s.length - 1) = 1 by omega, List.drop_one])
    rw [HE.out] at HL
    have HSt := Lib.hid hs
    obtain ⟨b, off, rfl, t, hf, hc⟩ := str_at hr (Below.refl _ _) i (by omega)
    obtain rfl : t = s := Option.some.inj (hf.symm.trans hs)
    have HS := Lib.hid (bsize t)
    have w0 : IntKind.i64.wrap ((t.length : Int) - 1) = ((t.length - 1 : Nat) : Int) := by rw [IntKind.wrap_i64]; omega
    have g0 : ((i : Int) == 0) = false := by simp; omega
    have g1 : ¬ (i : Int) = 0 := by omega
    have g2 : (0 : Int) ≤ (i : Int) := by omega
    have g3 : (i : Int) < (len : Int) := by omega
    clear hr h0 hn hl hs hf hs0 HE
    go_enter Try.func15, Try.ntmps15
    go_wp2_with fail
    go_quiet (first | with_reducible exact Calls.quiet_of_same (HL.out _))
    go_wp2
    go_ret
    exact ⟨rfl, below_drewS (Below.refl _ _) _⟩

set_option maxHeartbeats 1000000 in
theorem rlkout_any (al : Option Addr) (n1 cl : Nat) (us : List (List UInt8)) (a : Option Addr) (len cap : Nat) (S : List (List UInt8)) (w : World) (hn1 : n1 ≤ 1000000000) (hlen : len ≤ 1000000000) (hu : IsStrs w al n1 us) (hr : IsStrs w a len S) (he : [] ∉ us) (hl : ∀ t ∈ S, t.length ≤ 100000000) (i : Nat) {s : List UInt8} (hs : S[i]? = some s) :
    Calls Try.prog 13 #[.slice al n1 cl, .slice a len cap, .int .i64 (i : Int)] w fun e w' => e = .returned (.int .i64 (if fbL us s = [] then -1 else ixL (fbL us s) S)) ∧ w' = w := by
  have hwl := hr.1
  have hil := (List.getElem?_eq_some_iff.1 hs).1
  have hsl := hl s (List.mem_of_getElem? hs)
  have HF := Lib.hid (fun t => rfind16_any a len cap S t w hlen hr)
  have HG := Lib.hid (fun t => rfind10_any al n1 cl us t w hn1 hu)
  obtain ⟨b, off, rfl, t, hf, hc⟩ := str_at hr (Below.refl _ _) i (by omega)
  obtain rfl : t = s := Option.some.inj (hf.symm.trans hs)
  have HS := Lib.hid (bsize t)
  have H0 := Lib.hid he
  have g2 : (0 : Int) ≤ (i : Int) := by omega
  have g3 : (i : Int) < (len : Int) := by omega
  have wn : IntKind.i64.wrap ((t.length : Int) - 1) = (t.length : Int) - 1 := by rw [IntKind.wrap_i64]; omega
  clear hr hu hf hs he hl
  obtain ⟨R, hR⟩ : ∃ R : Int, (if fbL us t = [] then -1 else ixL (fbL us t) S) = R := ⟨_, rfl⟩
  rw [hR]
  have HR := Lib.hid hR
  clear hR
  go_enter Try.func13, Try.ntmps13
  go_wp2
  go_loop [8] (fun x => ∃ z : Int, -1 ≤ z ∧ z ≤ (t.length : Int) - 1 ∧ x = .int .i64 z ∧ Hid (fbL us t = lgL us (t.drop (t.length - z.toNat)))) (fun x => (RowKit.intOf x).toNat)
  case atStart => exact ⟨(t.length : Int) - 1, by omega, Int.le_refl _, rfl, Lib.hid (by
    unfold fbL
    cases t with
    | nil => rfl
    | cons c t => rw [show (c :: t).length - (((c :: t).length : Int) - 1).toNat = 1 by simp only [List.length_cons]; omega]; rfl)⟩
  case round =>
    obtain ⟨z, hz1, hz2, rfl, HZ⟩ := hrel
    by_cases hz : 0 < z
    · obtain ⟨n, rfl⟩ : ∃ n : Nat, z = (n : Int) := ⟨z.toNat, by omega⟩
      rw [Int.toNat_natCast] at HZ
      obtain ⟨d, hd⟩ : ∃ d, d + n = t.length := ⟨t.length - n, by omega⟩
      have w0 : IntKind.i64.wrap ((t.length : Int) - (n : Int)) = (d : Int) := by rw [IntKind.wrap_i64]; omega
      have w1 : IntKind.i64.wrap ((n : Int) - 1) = (n : Int) - 1 := by rw [IntKind.wrap_i64]; omega
      have k2 : (0 : Int) ≤ (d : Int) := by omega
      have k3 : (d : Int) ≤ (t.length : Int) := by omega
      have hx := ext_rest t d
      rw [show t.length - n = d by omega] at HZ
      have HC := Lib.hid (HG.out (t.drop d))
      by_cases hu : t.drop d ∈ us
      · have hz := ix_nonneg hu
        have HD := Lib.hid (HF.out (t.drop d))
        have HE := Lib.hid (show ixL (t.drop d) S = R by
          rw [← HR.out, HZ.out, lg_hit hu, if_neg (fun e => by rw [e] at hu; exact H0.out hu)])
        rw [HE.out] at HD
        generalize ixL (t.drop d) us = z at hz HC
        have hdH := Lib.hid hd
        clear HZ HE hu hd HR
        go_wp2_with fail
        refine HC.out.mono ?_
        rintro e w' ⟨rfl, hw'⟩
        obtain rfl := hw'.symm
        clear hw' HC
        go_wp2_with fail
        refine HD.out.mono ?_
        rintro e w' ⟨rfl, hw'⟩
        obtain rfl := hw'.symm
        clear hw' HD
        go_wp2
        go_ret
        exact ⟨rfl, rfl⟩
      · have hzm := ix_miss hu
        rw [hzm] at HC
        have HZ2 := Lib.hid (show fbL us t = lgL us (t.drop (t.length - ((n : Int) - 1).toNat)) by
          rw [HZ.out, lg_miss hu, tail_drop, show t.length - ((n : Int) - 1).toNat = d + 1 by omega])
        have hdH := Lib.hid hd
        clear HZ hu hd hzm HR
        go_wp2_with fail
        refine HC.out.mono ?_
        rintro e w' ⟨rfl, hw'⟩
        obtain rfl := hw'.symm
        clear hw' HC
        go_wp2
        exact ⟨⟨(n : Int) - 1, by omega, by omega, rfl, HZ2⟩, by simp [RowKit.intOf]; omega⟩
    · have hz' : ¬ (0 : Int) < z := hz
      have HE := Lib.hid (show R = -1 by
        rw [← HR.out, HZ.out, show t.length - z.toNat = t.length by omega, List.drop_length, lg_nil, if_pos rfl])
      clear HZ HR
      go_wp2
      go_ret
      exact ⟨by rw [HE.out]; rfl, rfl⟩
end Go.Proofs.Ytkaldfcpcimacaa
