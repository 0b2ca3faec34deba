/-
  The document's own answers for layer 14: Has, Far, Near: walked.
-/
import Derived.Test.YtcbaloacmbekkaaPrM
import Derived.Test.YtcbaloacmbekkaaPtRl
set_option linter.unusedSimpArgs false
set_option linter.unusedVariables false
namespace Go.Proofs.Ytcbaloacmbekkaa
open Go.RowKit

theorem has2_next {ws : List (List UInt8)} {k c d : Nat} {t : List UInt8} (h : ws[k]? = some t) (hk : has2 (ws.take k) c d = false) : has2 (ws.take (k + 1)) c d = at2 t c d := by
  have hlt := (List.getElem?_eq_some_iff.1 h).1
  have ht := (List.getElem?_eq_some_iff.1 h).2
  unfold has2 at *
  rw [List.take_succ_eq_append_getElem hlt, List.any_append, ht, hk]
  simp
theorem has2_hit {ws : List (List UInt8)} {k c d : Nat} {t : List UInt8} (h : ws[k]? = some t) (ha : at2 t c d = true) : has2 ws c d = true := List.any_eq_true.2 ⟨t, List.mem_of_getElem? h, ha⟩

set_option maxRecDepth 100000 in
set_option maxHeartbeats 4000000 in
theorem rhas2_any (a : Option Addr) (len cap x y d : Nat) (ws : List (List UInt8)) (w : World) (hlen : len ≤ 1000000) (hr : IsStrs w a len ws) (ht : ∀ t ∈ ws, t.length ≤ 1000000) (hd : d ≤ 1000000) (hx : x < 256) (hy : y < 256) :
    Calls Try.prog 28 #[.slice a len cap, .int .u8 (x : Int), .int .u8 (y : Int), .int .i64 (d : Int)] w fun e w' => e = .returned (.bool (has2 ws (two x y) d)) ∧ w' = w := by
  have hwl := hr.1
  have HT := Lib.hid ht
  have HR := Lib.hid hr
  clear ht hr
  obtain ⟨R, hR⟩ : ∃ R, has2 ws (two x y) d = R := ⟨_, rfl⟩
  rw [hR]
  have HRR := Lib.hid hR
  clear hR
  go_enter Try.func28, Try.ntmps28
  go_wp2
  go_loop [9, 10] (fun i z => ∃ k : Nat, k ≤ len ∧ i = .int .i64 k ∧ Hid (has2 (ws.take k) (two x y) d = false)) (fun i _ => len - (RowKit.intOf i).toNat)
  case atStart => exact ⟨0, Nat.zero_le _, rfl, Lib.hid rfl⟩
  case round =>
    obtain ⟨k, hk, rfl, HK⟩ := hrel
    by_cases hlt : k < len
    · obtain ⟨b, off, rfl, t, hf, hcell⟩ := str_at HR.out (Below.refl _ _) k hlt
      have htl := HT.out t (List.mem_of_getElem? hf)
      have S1 := Lib.hid (bsize t)
      have HN := Lib.hid (has2_next (c := two x y) (d := d) hf HK.out)
      have HH := Lib.hid (fun h => has2_hit (c := two x y) (d := d) hf h)
      have hlt2 : (k : Int) < (len : Int) := by omega
      have hlt3 : (0 : Int) ≤ (k : Int) := by omega
      have w0 : IntKind.i64.wrap ((d : Int) + 1) = (d : Int) + 1 := by rw [IntKind.wrap_i64]; omega
      clear hf HK
      by_cases hdl : d + 1 < t.length
      · obtain ⟨q, hq1⟩ : ∃ q, q + 1 = t.length := ⟨t.length - 1, by omega⟩
        obtain ⟨q2, hq2⟩ : ∃ q2, q2 + 2 = t.length := ⟨t.length - 2, by omega⟩
        obtain ⟨j, hj⟩ : ∃ j, j + 1 + d = t.length := ⟨t.length - 1 - d, by omega⟩
        obtain ⟨i, hi⟩ : ∃ i, i + 2 + d = t.length := ⟨t.length - 2 - d, by omega⟩
        have w1 : IntKind.i64.wrap ((t.length : Int) - 1) = (q : Int) := by rw [IntKind.wrap_i64]; omega
        have w2 : IntKind.i64.wrap ((q : Int) - (d : Int)) = (j : Int) := by rw [IntKind.wrap_i64]; omega
        have w3 : IntKind.i64.wrap ((t.length : Int) - 2) = (q2 : Int) := by rw [IntKind.wrap_i64]; omega
        have w4 : IntKind.i64.wrap ((q2 : Int) - (d : Int)) = (i : Int) := by rw [IntKind.wrap_i64]; omega
        have hjl : j < t.length := by omega
        have hil : i < t.length := by omega
        have hjz : j < (⟨t.toArray⟩ : ByteArray).size := by rw [bsize]; omega
        have hiz : i < (⟨t.toArray⟩ : ByteArray).size := by rw [bsize]; omega
        have gd : (d : Int) + 1 < (t.length : Int) := by omega
        obtain ⟨u, huu⟩ : ∃ u, (t[i]).toNat = u := ⟨_, rfl⟩
        obtain ⟨v, hvv⟩ : ∃ v, (t[j]).toNat = v := ⟨_, rfl⟩
        have hqv : ((⟨t.toArray⟩ : ByteArray)[j]'hjz).toNat = v := by rw [byteAt t j hjl hjz, hvv]
        have hqu : ((⟨t.toArray⟩ : ByteArray)[i]'hiz).toNat = u := by rw [byteAt t i hil hiz, huu]
        have hv : v < 256 := by rw [← hvv]; exact UInt8.toNat_lt _
        have hpr : prN t d = two u v := by
          unfold prN
          rw [show t.length - 1 - d = j by omega, show t.length - 2 - d = i by omega]
          simp only [List.getD, List.getElem?_eq_getElem hjl, List.getElem?_eq_getElem hil, Option.getD_some, huu, hvv]
        have HAT : Hid (at2 t (two x y) d = true ↔ u = x ∧ v = y) := Lib.hid (by
          rw [at2_iff hdl, hpr]
          exact ⟨fun h => two_inj hv hy h, fun h => by rw [h.1, h.2]⟩)
        have HQ := Lib.hid hq1
        have HQ2 := Lib.hid hq2
        have HJ := Lib.hid hj
        have HI := Lib.hid hi
        clear hpr huu hvv hq1 hq2 hj hi
        by_cases hvy : v = y
        · by_cases hux : u = x
          · have HE : Hid (R = true) := Lib.hid (by rw [← HRR.out]; exact HH.out (HAT.out.2 ⟨hux, hvy⟩))
            subst hvy
            subst hux
            clear HAT HN HH
            go_wp2
            go_ret
            exact ⟨by rw [HE.out]; rfl, rfl⟩
          · have HE : Hid (has2 (ws.take (k + 1)) (two x y) d = false) := Lib.hid (by
              rw [HN.out]
              cases h : at2 t (two x y) d with
              | false => rfl
              | true => exact absurd (HAT.out.1 h).1 hux)
            have g5 : ((u : Int) == (x : Int)) = false := by rw [beq_eq_false_iff_ne]; omega
            subst hvy
            clear HAT HN HH
            go_wp2
            exact ⟨⟨k + 1, by omega, by go_num, HE⟩, by simp [RowKit.intOf]; omega⟩
        · have HE : Hid (has2 (ws.take (k + 1)) (two x y) d = false) := Lib.hid (by
            rw [HN.out]
            cases h : at2 t (two x y) d with
            | false => rfl
            | true => exact absurd (HAT.out.1 h).2 hvy)
          have g5 : ((v : Int) == (y : Int)) = false := by rw [beq_eq_false_iff_ne]; omega
          clear HAT HN HH
          go_wp2
          exact ⟨⟨k + 1, by omega, by go_num, HE⟩, by simp [RowKit.intOf]; omega⟩
      · have gd : ¬ (d : Int) + 1 < (t.length : Int) := by omega
        have gd2 : decide ((d : Int) + 1 < (t.length : Int)) = false := decide_eq_false gd
        have HE : Hid (has2 (ws.take (k + 1)) (two x y) d = false) := Lib.hid (by rw [HN.out]; unfold at2; rw [decide_eq_false hdl]; rfl)
        go_wp2
        exact ⟨⟨k + 1, by omega, by go_num, HE⟩, by simp [RowKit.intOf]; omega⟩
    · obtain rfl : k = len := by omega
      have hz : ¬ (k : Int) < (k : Int) := by omega
      have HE : Hid (R = false) := Lib.hid (by rw [← HRR.out, ← HK.out, List.take_of_length_le (by omega)])
      clear HK
      go_wp2
      go_ret
      exact ⟨by rw [HE.out]; rfl, rfl⟩

theorem rfar_any (a : Option Addr) (len cap : Nat) (ws : List (List UInt8)) (w : World) (hlen : len ≤ 1000000) (hr : IsStrs w a len ws) (ht : ∀ t ∈ ws, t.length ≤ 65535) :
    Calls Try.prog 13 #[.slice a len cap] w fun e w' => e = .returned (.int .i64 (farL ws : Int)) ∧ w' = w := by
  have HL := Lib.hid (rptleast_any a len cap ws w hlen hr ht)
  have HM : Hid (farL ws = leastR ws - 1) := Lib.hid rfl
  have hml : leastR ws ≤ 65535 := by
    unfold leastR
    split
    · omega
    · exact least_le ws
  generalize farL ws = m at HM ⊢
  generalize leastR ws = l at HL HM hml
  clear hr ht
  by_cases h0 : l = 0
  · obtain rfl := h0
    have hm := HM.out
    obtain rfl : m = 0 := by omega
    clear hm HM
    go_enter Try.func13, Try.ntmps13
    go_wp2_with fail
    refine HL.out.mono ?_
    rintro e w' ⟨rfl, rfl⟩
    go_wp2
    go_ret
    exact ⟨rfl, rfl⟩
  · have w1 : IntKind.i64.wrap ((l : Int) - 1) = (m : Int) := by rw [IntKind.wrap_i64, HM.out]; omega
    have h1 : ((l : Int) == 0) = false := by rw [beq_eq_false_iff_ne]; omega
    go_enter Try.func13, Try.ntmps13
    go_wp2_with fail
    refine HL.out.mono ?_
    rintro e w' ⟨rfl, rfl⟩
    go_wp2
    go_ret
    exact ⟨rfl, rfl⟩

set_option maxRecDepth 100000 in
set_option maxHeartbeats 4000000 in
theorem rnear_any (a : Option Addr) (len cap x y : Nat) (ws : List (List UInt8)) (w : World) (hlen : len ≤ 1000000) (hr : IsStrs w a len ws) (ht : ∀ t ∈ ws, t.length ≤ 65535) (hx : x < 256) (hy : y < 256) :
    Calls Try.prog 10 #[.slice a len cap, .int .u8 (x : Int), .int .u8 (y : Int)] w fun e w' => e = .returned (.int .i64 (nearL ws (two x y) : Int)) ∧ w' = w := by
  have HFar := Lib.hid (rfar_any a len cap ws w hlen hr ht)
  have HHas := Lib.hid (fun (d : Nat) (hd : d ≤ 1000000) => rhas2_any a len cap x y d ws w hlen hr (fun t h => by have := ht t h; omega) hd hx hy)
  have hml : farL ws ≤ 65535 := by
    unfold farL leastR
    split
    · omega
    · have := least_le ws; omega
  have HF : Hid (∀ n, n ≤ farL ws → (∀ d, d < n → has2 ws (two x y) d = false) → (n < farL ws → has2 ws (two x y) n = true) → nearL ws (two x y) = n) := Lib.hid (fun n h1 h2 h3 => mn_is h1 h2 h3)
  generalize farL ws = m at HFar HF hml
  obtain ⟨R, hR⟩ : ∃ R, nearL ws (two x y) = R := ⟨_, rfl⟩
  rw [hR] at HF ⊢
  clear hR hr ht
  go_enter Try.func10, Try.ntmps10
  go_wp2
  go_loop [7] (fun i => ∃ k : Nat, k ≤ m ∧ i = .int .i64 k ∧ Hid (∀ d, d < k → has2 ws (two x y) d = false)) (fun i => m - (RowKit.intOf i).toNat)
  case atStart => exact ⟨0, Nat.zero_le _, rfl, Lib.hid (fun d h => by omega)⟩
  case round =>
    obtain ⟨k, hk, rfl, HK⟩ := hrel
    go_wp2_with fail
    refine HFar.out.mono ?_
    rintro e w' ⟨rfl, hw⟩
    obtain rfl := hw.symm
    clear hw
    by_cases hlt : k < m
    · have HC := Lib.hid (HHas.out k (by omega))
      cases hq : has2 ws (two x y) k with
      | true =>
        have HE : Hid (R = k) := Lib.hid (HF.out k hk HK.out (fun _ => hq))
        rw [hq] at HC
        clear HK hq
        go_wp2_with fail
        refine HC.out.mono ?_
        rintro e w3 ⟨rfl, rfl⟩
        go_wp2
        go_ret
        exact ⟨by rw [HE.out]; rfl, rfl⟩
      | false =>
        have HE : Hid (∀ d, d < k + 1 → has2 ws (two x y) d = false) := Lib.hid (fun d hd => by
          rcases Nat.lt_or_ge d k with h | h
          · exact HK.out d h
          · rw [show d = k by omega]; exact hq)
        rw [hq] at HC
        clear HK hq
        go_wp2_with fail
        refine HC.out.mono ?_
        rintro e w3 ⟨rfl, rfl⟩
        go_wp2
        exact ⟨⟨k + 1, by omega, by go_num, HE⟩, by simp [RowKit.intOf]; omega⟩
    · obtain rfl : k = m := by omega
      have hz : ¬ (k : Int) < (k : Int) := by omega
      have HE : Hid (R = k) := Lib.hid (HF.out k hk HK.out (fun h => by omega))
      clear HK
      go_wp2_with fail
      refine HFar.out.mono ?_
      rintro e w' ⟨rfl, hw⟩
      obtain rfl := hw.symm
      clear hw
      go_wp2
      go_ret
      exact ⟨by rw [HE.out]; rfl, rfl⟩
end Go.Proofs.Ytcbaloacmbekkaa
