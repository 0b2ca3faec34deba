/-
  Texts put together: PtRl, ShRf, PrR, PtRm, OcSt, OcRat, SameI.
-/
import Derived.Test.YtmgcdhcidojdhaaGreatBn2
import Derived.Test.YtmgcdhcidojdhaaGreatBn1
import Derived.Test.YtmgcdhcidojdhaaGreatBn3
import Derived.Test.YtmgcdhcidojdhaaGreatBn5
import Derived.Test.YtmgcdhcidojdhaaGreatBn4
set_option linter.unusedSimpArgs false
set_option linter.unusedVariables false
namespace Go.Proofs.YtmgcdhcidojdhaaGreat
open Go.RowKit

theorem leastR_first {ws : List (List UInt8)} {t : List UInt8} (h : ws[0]? = some t) (ht : t.length ≤ 65535) : leastR (ws.take (0 + 1)) = t.length := by
  have hlt := (List.getElem?_eq_some_iff.1 h).1
  unfold leastR
  rw [if_neg (by rw [List.length_take]; omega), least_snoc h, List.take_zero]
  show min 65535 t.length = _
  omega
theorem leastR_snoc {ws : List (List UInt8)} {k : Nat} {t : List UInt8} (hk : 0 < k) (h : ws[k]? = some t) : leastR (ws.take (k + 1)) = min (leastR (ws.take k)) t.length := by
  have hlt := (List.getElem?_eq_some_iff.1 h).1
  unfold leastR
  rw [if_neg (by rw [List.length_take]; omega), if_neg (by rw [List.length_take]; omega), least_snoc h]

set_option maxHeartbeats 1000000 in
theorem rptleast_any (a : Option Addr) (len cap : Nat) (ws : List (List UInt8)) (w : World) (hlen : len ≤ 1000000) (hr : IsStrs w a len ws) (ht : ∀ t ∈ ws, t.length ≤ 65535) :
    Calls Tryz.prog 34 #[.slice a len cap] w fun e w' => e = .returned (.int .i64 (leastR ws : Int)) ∧ w' = w := by
  have hwl := hr.1
  have HI := Lib.hid hr
  have HT := Lib.hid ht
  have HW : Hid (ws.take len = ws) := Lib.hid (List.take_of_length_le (by omega))
  clear hr ht
  go_enter Tryz.func34, Tryz.ntmps34
  go_wp2
  go_loop [3, 4] (fun x i => ∃ k n : Nat, k ≤ len ∧ i = .int .i64 k ∧ x = .int .i64 n ∧ n ≤ 65535 ∧ Hid (leastR (ws.take k) = n)) (fun _ i => len - (RowKit.intOf i).toNat)
  case atStart => exact ⟨0, 0, Nat.zero_le _, rfl, rfl, by omega, Lib.hid rfl⟩
  case round =>
    obtain ⟨k, n, hk, rfl, rfl, hn, HK⟩ := hrel
    by_cases hlt : k < len
    · obtain ⟨b, off, rfl, t, hf, hc⟩ := str_at HI.out (Below.refl _ _) k hlt
      have HS := Lib.hid (bsize t)
      have htl := HT.out t (List.mem_of_getElem? hf)
      by_cases h0 : k = 0
      · subst h0
        have HK2 := Lib.hid (leastR_first hf htl)
        rw [Nat.add_zero] at hc
        clear hf HK
        go_wp2
        exact ⟨⟨1, t.length, by omega, by go_num, rfl, htl, HK2⟩, by simp [RowKit.intOf]; omega⟩
      · have g0 : ¬ (k : Int) = 0 := by omega
        have g1 : ((k : Int) == 0) = false := by simp [h0]
        by_cases hq : t.length < n
        · have HK2 : Hid (leastR (ws.take (k + 1)) = t.length) := Lib.hid (by rw [leastR_snoc (by omega) hf, HK.out]; omega)
          clear hf HK
          go_wp2
          exact ⟨⟨k + 1, t.length, by omega, by go_num, rfl, htl, HK2⟩, by simp [RowKit.intOf]; omega⟩
        · have HK2 : Hid (leastR (ws.take (k + 1)) = n) := Lib.hid (by rw [leastR_snoc (by omega) hf, HK.out]; omega)
          clear hf HK
          go_wp2
          exact ⟨⟨k + 1, n, by omega, by go_num, rfl, hn, HK2⟩, by simp [RowKit.intOf]; omega⟩
    · obtain rfl : k = len := by omega
      have HE : Hid (leastR ws = n) := Lib.hid (by have := HK.out; rwa [HW.out] at this)
      clear HK
      go_wp2
      go_ret
      exact ⟨by rw [HE.out]; rfl, rfl⟩
end Go.Proofs.YtmgcdhcidojdhaaGreat

namespace Go.Proofs.YtmgcdhcidojdhaaGreat
open Go.RowKit

theorem has_next {ws : List (List UInt8)} {k c d : Nat} {t : List UInt8} (h : ws[k]? = some t) (hk : hasD (ws.take k) c d = false) : hasD (ws.take (k + 1)) c d = atD t c d := by
  have hlt := (List.getElem?_eq_some_iff.1 h).1
  have ht := (List.getElem?_eq_some_iff.1 h).2
  unfold hasD at *
  rw [List.take_succ_eq_append_getElem hlt, List.any_append, ht, hk]
  simp
theorem has_hit {ws : List (List UInt8)} {k c d : Nat} {t : List UInt8} (h : ws[k]? = some t) (ha : atD t c d = true) : hasD ws c d = true := List.any_eq_true.2 ⟨t, List.mem_of_getElem? h, ha⟩

set_option maxRecDepth 100000 in
set_option maxHeartbeats 4000000 in
theorem rhas_any (a : Option Addr) (len cap c d : Nat) (ws : List (List UInt8)) (w : World) (hlen : len ≤ 1000000) (hr : IsStrs w a len ws) (ht : ∀ t ∈ ws, t.length ≤ 1000000) (hd : d ≤ 1000000) :
    Calls Tryz.prog 58 #[.slice a len cap, .int .u8 (c : Int), .int .i64 (d : Int)] w fun e w' => e = .returned (.bool (hasD ws c d)) ∧ Below w.heap.size w w' := by
  have hwl := hr.1
  have HT := Lib.hid ht
  have HR := Lib.hid hr
  clear ht hr
  obtain ⟨R, hR⟩ : ∃ R, hasD ws c d = R := ⟨_, rfl⟩
  rw [hR]
  have HRR := Lib.hid hR
  clear hR
  go_enter Tryz.func58, Tryz.ntmps58
  go_wp2
  go_loopw [7] (fun i wr => ∃ k : Nat, k ≤ len ∧ i = .int .i64 k ∧ Hid (hasD (ws.take k) c d = false) ∧ Below w.heap.size w wr) (fun i _ => len - (RowKit.intOf i).toNat)
  case atStart => exact ⟨0, Nat.zero_le _, rfl, Lib.hid rfl, Below.refl _ _⟩
  case round =>
    obtain ⟨k, hk, rfl, HK, hbe⟩ := hrel
    by_cases hlt : k < len
    · obtain ⟨b, off, rfl, t, hf, hcell⟩ := str_at HR.out hbe k hlt
      have htl := HT.out t (List.mem_of_getElem? hf)
      have S1 := Lib.hid (bsize t)
      have HN := Lib.hid (has_next (c := c) (d := d) hf HK.out)
      have HH := Lib.hid (fun h => has_hit (c := c) (d := d) hf h)
      have hlt2 : (k : Int) < (len : Int) := by omega
      have hlt3 : (0 : Int) ≤ (k : Int) := by omega
      clear hf HK
      by_cases hdl : d < t.length
      · obtain ⟨q, hq1⟩ : ∃ q, q + 1 = t.length := ⟨t.length - 1, by omega⟩
        obtain ⟨j, hj⟩ : ∃ j, j + 1 + d = t.length := ⟨t.length - 1 - d, by omega⟩
        have w1 : IntKind.i64.wrap ((t.length : Int) - 1) = (q : Int) := by rw [IntKind.wrap_i64]; omega
        have w2 : IntKind.i64.wrap ((q : Int) - (d : Int)) = (j : Int) := by rw [IntKind.wrap_i64]; omega
        have hjl : j < t.length := by omega
        have hjz : j < (⟨t.toArray⟩ : ByteArray).size := by rw [bsize]; omega
        have gd : (d : Int) < (t.length : Int) := by omega
        have hat : atD t c d = ((((⟨t.toArray⟩ : ByteArray)[j]'hjz).toNat : Int) == (c : Int)) := by
          rw [byteAt t j hjl hjz]
          unfold atD
          rw [decide_eq_true hdl, Bool.true_and, show t.length - 1 - d = j by omega]
          simp only [List.getD, List.getElem?_eq_getElem hjl, Option.getD_some]
          by_cases e : (t[j]).toNat = c
          · rw [e]; simp
          · rw [beq_eq_false_iff_ne.2 e, eq_comm, beq_eq_false_iff_ne]; omega
        have HAT := Lib.hid hat
        have HQ := Lib.hid hq1
        have HJ := Lib.hid hj
        cases hq : ((((⟨t.toArray⟩ : ByteArray)[j]'hjz).toNat : Int) == (c : Int)) with
        | true =>
          have HE : Hid (R = true) := Lib.hid (by rw [← HRR.out]; exact HH.out (by rw [HAT.out]; exact hq))
          clear hat hq1 hj HAT
          go_wp2_with fail
          go_quiet (fail)
          go_wp2
          go_ret
          exact ⟨by rw [HE.out]; rfl, below_drewS hbe _⟩
        | false =>
          have HE : Hid (hasD (ws.take (k + 1)) c d = false) := Lib.hid (by rw [HN.out, HAT.out]; exact hq)
          clear hat hq1 hj HAT
          go_wp2_with fail
          go_quiet (fail)
          go_wp2
          exact ⟨⟨k + 1, by omega, by go_num, HE, below_drewS hbe _⟩, by simp [RowKit.intOf]; omega⟩
      · have gd : ¬ (d : Int) < (t.length : Int) := by omega
        have gd2 : decide ((d : Int) < (t.length : Int)) = false := decide_eq_false gd
        have HE : Hid (hasD (ws.take (k + 1)) c d = false) := Lib.hid (by rw [HN.out]; unfold atD; rw [decide_eq_false hdl]; rfl)
        go_wp2_with fail
        go_quiet (fail)
        go_wp2
        exact ⟨⟨k + 1, by omega, by go_num, HE, below_drewS hbe _⟩, by simp [RowKit.intOf]; omega⟩
    · obtain rfl : k = len := by omega
      have hz : ¬ (k : Int) < (k : Int) := by omega
      have HE : Hid (R = false) := Lib.hid (by rw [← HRR.out, ← HK.out, List.take_of_length_le (by omega)])
      clear HK
      go_wp2
      go_ret
      exact ⟨by rw [HE.out]; rfl, hbe⟩

set_option maxRecDepth 100000 in
set_option maxHeartbeats 4000000 in
theorem rshfirst_any (a : Option Addr) (len cap c : Nat) (ws : List (List UInt8)) (w : World) (hlen : len ≤ 1000000) (hr : IsStrs w a len ws) (ht : ∀ t ∈ ws, t.length ≤ 65535) :
    Calls Tryz.prog 36 #[.slice a len cap, .int .u8 (c : Int)] w fun e w' => e = .returned (.int .i64 (fstL ws c : Int)) ∧ Below w.heap.size w w' := by
  have HLe := Lib.hid (rptleast_any a len cap ws w hlen hr ht)
  have HHas := Lib.hid (fun (d : Nat) (W : World) (hW : Below w.heap.size w W) (hd : d ≤ 1000000) => rhas_any a len cap c d ws W hlen (hr.below hW) (fun t h => by have := ht t h; omega) hd)
  have hml : leastR ws ≤ 65535 := by
    unfold leastR
    split
    · omega
    · exact least_le ws
  have HF : Hid (∀ n, n ≤ leastR ws → (∀ d, d < n → hasD ws c d = false) → (n < leastR ws → hasD ws c n = true) → fstL ws c = n) := Lib.hid (fun n h1 h2 h3 => mn_is h1 h2 h3)
  generalize leastR ws = m at HLe HF hml
  obtain ⟨R, hR⟩ : ∃ R, fstL ws c = R := ⟨_, rfl⟩
  rw [hR] at HF ⊢
  clear hR hr ht
  go_enter Tryz.func36, Tryz.ntmps36
  go_wp2_with fail
  refine HLe.out.mono ?_
  rintro e w' ⟨rfl, hw⟩
  obtain rfl := hw.symm
  clear hw HLe
  go_wp2
  go_loopw [6] (fun i wr => ∃ k : Nat, k ≤ m ∧ i = .int .i64 k ∧ Hid (∀ d, d < k → hasD ws c d = false) ∧ Below w.heap.size w wr) (fun i _ => m - (RowKit.intOf i).toNat)
  case atStart => exact ⟨0, Nat.zero_le _, rfl, Lib.hid (fun d h => by omega), Below.refl _ _⟩
  case round =>
    obtain ⟨k, hk, rfl, HK, hbe⟩ := hrel
    by_cases hlt : k < m
    · have HC := Lib.hid (HHas.out k wr hbe (by omega))
      have hsz := hbe.size
      cases hq : hasD ws c k with
      | true =>
        have HE : Hid (R = k) := Lib.hid (HF.out k hk HK.out (fun _ => hq))
        rw [hq] at HC
        clear HK hq
        go_wp2_with fail
        refine HC.out.mono ?_
        rintro e w3 ⟨rfl, hb3⟩
        have d3 := hbe.trans (hb3.mono hsz)
        clear HC hb3
        go_wp2
        go_ret
        exact ⟨by rw [HE.out]; rfl, d3⟩
      | false =>
        have HE : Hid (∀ d, d < k + 1 → hasD ws c d = false) := Lib.hid (fun d hd => by
          rcases Nat.lt_or_ge d k with h | h
          · exact HK.out d h
          · rw [show d = k by omega]; exact hq)
        rw [hq] at HC
        clear HK hq
        go_wp2_with fail
        refine HC.out.mono ?_
        rintro e w3 ⟨rfl, hb3⟩
        have d3 := hbe.trans (hb3.mono hsz)
        clear HC hb3
        go_wp2
        exact ⟨⟨k + 1, by omega, by go_num, HE, d3⟩, by simp [RowKit.intOf]; omega⟩
    · obtain rfl : k = m := by omega
      have hz : ¬ (k : Int) < (k : Int) := by omega
      have HE : Hid (R = k) := Lib.hid (HF.out k hk HK.out (fun h => by omega))
      clear HK
      go_wp2
      go_ret
      exact ⟨by rw [HE.out]; rfl, hbe⟩
end Go.Proofs.YtmgcdhcidojdhaaGreat

namespace Go.Proofs.YtmgcdhcidojdhaaGreat
open Go.RowKit

theorem has2_next {ws : List (List UInt8)} {k c d : Nat} {t : List UInt8} (h : ws[k]? = some t) (hk : has2 (ws.take k) c d = false) : has2 (ws.take (k + 1)) c d = at2 t c d := by
  have hlt := (List.getElem?_eq_some_iff.1 h).1
  have ht := (List.getElem?_eq_some_iff.1 h).2
  unfold has2 at *
  rw [List.take_succ_eq_append_getElem hlt, List.any_append, ht, hk]
  simp
theorem has2_hit {ws : List (List UInt8)} {k c d : Nat} {t : List UInt8} (h : ws[k]? = some t) (ha : at2 t c d = true) : has2 ws c d = true := List.any_eq_true.2 ⟨t, List.mem_of_getElem? h, ha⟩

set_option maxRecDepth 100000 in
set_option maxHeartbeats 4000000 in
theorem rhas2_any (a : Option Addr) (len cap x y d : Nat) (ws : List (List UInt8)) (w : World) (hlen : len ≤ 1000000) (hr : IsStrs w a len ws) (ht : ∀ t ∈ ws, t.length ≤ 1000000) (hd : d ≤ 1000000) (hx : x < 256) (hy : y < 256) :
    Calls Tryz.prog 60 #[.slice a len cap, .int .u8 (x : Int), .int .u8 (y : Int), .int .i64 (d : Int)] w fun e w' => e = .returned (.bool (has2 ws (two x y) d)) ∧ w' = w := by
  have hwl := hr.1
  have HT := Lib.hid ht
  have HR := Lib.hid hr
  clear ht hr
  obtain ⟨R, hR⟩ : ∃ R, has2 ws (two x y) d = R := ⟨_, rfl⟩
  rw [hR]
  have HRR := Lib.hid hR
  clear hR
  go_enter Tryz.func60, Tryz.ntmps60
  go_wp2
  go_loop [9, 10] (fun i z => ∃ k : Nat, k ≤ len ∧ i = .int .i64 k ∧ Hid (has2 (ws.take k) (two x y) d = false)) (fun i _ => len - (RowKit.intOf i).toNat)
  case atStart => exact ⟨0, Nat.zero_le _, rfl, Lib.hid rfl⟩
  case round =>
    obtain ⟨k, hk, rfl, HK⟩ := hrel
    by_cases hlt : k < len
    · obtain ⟨b, off, rfl, t, hf, hcell⟩ := str_at HR.out (Below.refl _ _) k hlt
      have htl := HT.out t (List.mem_of_getElem? hf)
      have S1 := Lib.hid (bsize t)
      have HN := Lib.hid (has2_next (c := two x y) (d := d) hf HK.out)
      have HH := Lib.hid (fun h => has2_hit (c := two x y) (d := d) hf h)
      have hlt2 : (k : Int) < (len : Int) := by omega
      have hlt3 : (0 : Int) ≤ (k : Int) := by omega
      have w0 : IntKind.i64.wrap ((d : Int) + 1) = (d : Int) + 1 := by rw [IntKind.wrap_i64]; omega
      clear hf HK
      by_cases hdl : d + 1 < t.length
      · obtain ⟨q, hq1⟩ : ∃ q, q + 1 = t.length := ⟨t.length - 1, by omega⟩
        obtain ⟨q2, hq2⟩ : ∃ q2, q2 + 2 = t.length := ⟨t.length - 2, by omega⟩
        obtain ⟨j, hj⟩ : ∃ j, j + 1 + d = t.length := ⟨t.length - 1 - d, by omega⟩
        obtain ⟨i, hi⟩ : ∃ i, i + 2 + d = t.length := ⟨t.length - 2 - d, by omega⟩
        have w1 : IntKind.i64.wrap ((t.length : Int) - 1) = (q : Int) := by rw [IntKind.wrap_i64]; omega
        have w2 : IntKind.i64.wrap ((q : Int) - (d : Int)) = (j : Int) := by rw [IntKind.wrap_i64]; omega
        have w3 : IntKind.i64.wrap ((t.length : Int) - 2) = (q2 : Int) := by rw [IntKind.wrap_i64]; omega
        have w4 : IntKind.i64.wrap ((q2 : Int) - (d : Int)) = (i : Int) := by rw [IntKind.wrap_i64]; omega
        have hjl : j < t.length := by omega
        have hil : i < t.length := by omega
        have hjz : j < (⟨t.toArray⟩ : ByteArray).size := by rw [bsize]; omega
        have hiz : i < (⟨t.toArray⟩ : ByteArray).size := by rw [bsize]; omega
        have gd : (d : Int) + 1 < (t.length : Int) := by omega
        obtain ⟨u, huu⟩ : ∃ u, (t[i]).toNat = u := ⟨_, rfl⟩
        obtain ⟨v, hvv⟩ : ∃ v, (t[j]).toNat = v := ⟨_, rfl⟩
        have hqv : ((⟨t.toArray⟩ : ByteArray)[j]'hjz).toNat = v := by rw [byteAt t j hjl hjz, hvv]
        have hqu : ((⟨t.toArray⟩ : ByteArray)[i]'hiz).toNat = u := by rw [byteAt t i hil hiz, huu]
        have hv : v < 256 := by rw [← hvv]; exact UInt8.toNat_lt _
        have hpr : prN t d = two u v := by
          unfold prN
          rw [show t.length - 1 - d = j by omega, show t.length - 2 - d = i by omega]
          simp only [List.getD, List.getElem?_eq_getElem hjl, List.getElem?_eq_getElem hil, Option.getD_some, huu, hvv]
        have HAT : Hid (at2 t (two x y) d = true ↔ u = x ∧ v = y) := Lib.hid (by
          rw [at2_iff hdl, hpr]
          exact ⟨fun h => two_inj hv hy h, fun h => by rw [h.1, h.2]⟩)
        have HQ := Lib.hid hq1
        have HQ2 := Lib.hid hq2
        have HJ := Lib.hid hj
        have HI := Lib.hid hi
        clear hpr huu hvv hq1 hq2 hj hi
        by_cases hvy : v = y
        · by_cases hux : u = x
          · have HE : Hid (R = true) := Lib.hid (by rw [← HRR.out]; exact HH.out (HAT.out.2 ⟨hux, hvy⟩))
            subst hvy
            subst hux
            clear HAT HN HH
            go_wp2
            go_ret
            exact ⟨by rw [HE.out]; rfl, rfl⟩
          · have HE : Hid (has2 (ws.take (k + 1)) (two x y) d = false) := Lib.hid (by
              rw [HN.out]
              cases h : at2 t (two x y) d with
              | false => rfl
              | true => exact absurd (HAT.out.1 h).1 hux)
            have g5 : ((u : Int) == (x : Int)) = false := by rw [beq_eq_false_iff_ne]; omega
            subst hvy
            clear HAT HN HH
            go_wp2
            exact ⟨⟨k + 1, by omega, by go_num, HE⟩, by simp [RowKit.intOf]; omega⟩
        · have HE : Hid (has2 (ws.take (k + 1)) (two x y) d = false) := Lib.hid (by
            rw [HN.out]
            cases h : at2 t (two x y) d with
            | false => rfl
            | true => exact absurd (HAT.out.1 h).2 hvy)
          have g5 : ((v : Int) == (y : Int)) = false := by rw [beq_eq_false_iff_ne]; omega
          clear HAT HN HH
          go_wp2
          exact ⟨⟨k + 1, by omega, by go_num, HE⟩, by simp [RowKit.intOf]; omega⟩
      · have gd : ¬ (d : Int) + 1 < (t.length : Int) := by omega
        have gd2 : decide ((d : Int) + 1 < (t.length : Int)) = false := decide_eq_false gd
        have HE : Hid (has2 (ws.take (k + 1)) (two x y) d = false) := Lib.hid (by rw [HN.out]; unfold at2; rw [decide_eq_false hdl]; rfl)
        go_wp2
        exact ⟨⟨k + 1, by omega, by go_num, HE⟩, by simp [RowKit.intOf]; omega⟩
    · obtain rfl : k = len := by omega
      have hz : ¬ (k : Int) < (k : Int) := by omega
      have HE : Hid (R = false) := Lib.hid (by rw [← HRR.out, ← HK.out, List.take_of_length_le (by omega)])
      clear HK
      go_wp2
      go_ret
      exact ⟨by rw [HE.out]; rfl, rfl⟩

theorem rfar_any (a : Option Addr) (len cap : Nat) (ws : List (List UInt8)) (w : World) (hlen : len ≤ 1000000) (hr : IsStrs w a len ws) (ht : ∀ t ∈ ws, t.length ≤ 65535) :
    Calls Tryz.prog 59 #[.slice a len cap] w fun e w' => e = .returned (.int .i64 (farL ws : Int)) ∧ w' = w := by
  have HL := Lib.hid (rptleast_any a len cap ws w hlen hr ht)
  have HM : Hid (farL ws = leastR ws - 1) := Lib.hid rfl
  have hml : leastR ws ≤ 65535 := by
    unfold leastR
    split
    · omega
    · exact least_le ws
  generalize farL ws = m at HM ⊢
  generalize leastR ws = l at HL HM hml
  clear hr ht
  by_cases h0 : l = 0
  · obtain rfl := h0
    have hm := HM.out
    obtain rfl : m = 0 := by omega
    clear hm HM
    go_enter Tryz.func59, Tryz.ntmps59
    go_wp2_with fail
    refine HL.out.mono ?_
    rintro e w' ⟨rfl, rfl⟩
    go_wp2
    go_ret
    exact ⟨rfl, rfl⟩
  · have w1 : IntKind.i64.wrap ((l : Int) - 1) = (m : Int) := by rw [IntKind.wrap_i64, HM.out]; omega
    have h1 : ((l : Int) == 0) = false := by rw [beq_eq_false_iff_ne]; omega
    go_enter Tryz.func59, Tryz.ntmps59
    go_wp2_with fail
    refine HL.out.mono ?_
    rintro e w' ⟨rfl, rfl⟩
    go_wp2
    go_ret
    exact ⟨rfl, rfl⟩

set_option maxRecDepth 100000 in
set_option maxHeartbeats 4000000 in
theorem rnear_any (a : Option Addr) (len cap x y : Nat) (ws : List (List UInt8)) (w : World) (hlen : len ≤ 1000000) (hr : IsStrs w a len ws) (ht : ∀ t ∈ ws, t.length ≤ 65535) (hx : x < 256) (hy : y < 256) :
    Calls Tryz.prog 37 #[.slice a len cap, .int .u8 (x : Int), .int .u8 (y : Int)] w fun e w' => e = .returned (.int .i64 (nearL ws (two x y) : Int)) ∧ w' = w := by
  have HFar := Lib.hid (rfar_any a len cap ws w hlen hr ht)
  have HHas := Lib.hid (fun (d : Nat) (hd : d ≤ 1000000) => rhas2_any a len cap x y d ws w hlen hr (fun t h => by have := ht t h; omega) hd hx hy)
  have hml : farL ws ≤ 65535 := by
    unfold farL leastR
    split
    · omega
    · have := least_le ws; omega
  have HF : Hid (∀ n, n ≤ farL ws → (∀ d, d < n → has2 ws (two x y) d = false) → (n < farL ws → has2 ws (two x y) n = true) → nearL ws (two x y) = n) := Lib.hid (fun n h1 h2 h3 => mn_is h1 h2 h3)
  generalize farL ws = m at HFar HF hml
  obtain ⟨R, hR⟩ : ∃ R, nearL ws (two x y) = R := ⟨_, rfl⟩
  rw [hR] at HF ⊢
  clear hR hr ht
  go_enter Tryz.func37, Tryz.ntmps37
  go_wp2
  go_loop [7] (fun i => ∃ k : Nat, k ≤ m ∧ i = .int .i64 k ∧ Hid (∀ d, d < k → has2 ws (two x y) d = false)) (fun i => m - (RowKit.intOf i).toNat)
  case atStart => exact ⟨0, Nat.zero_le _, rfl, Lib.hid (fun d h => by omega)⟩
  case round =>
    obtain ⟨k, hk, rfl, HK⟩ := hrel
    go_wp2_with fail
    refine HFar.out.mono ?_
    rintro e w' ⟨rfl, hw⟩
    obtain rfl := hw.symm
    clear hw
    by_cases hlt : k < m
    · have HC := Lib.hid (HHas.out k (by omega))
      cases hq : has2 ws (two x y) k with
      | true =>
        have HE : Hid (R = k) := Lib.hid (HF.out k hk HK.out (fun _ => hq))
        rw [hq] at HC
        clear HK hq
        go_wp2_with fail
        refine HC.out.mono ?_
        rintro e w3 ⟨rfl, rfl⟩
        go_wp2
        go_ret
        exact ⟨by rw [HE.out]; rfl, rfl⟩
      | false =>
        have HE : Hid (∀ d, d < k + 1 → has2 ws (two x y) d = false) := Lib.hid (fun d hd => by
          rcases Nat.lt_or_ge d k with h | h
          · exact HK.out d h
          · rw [show d = k by omega]; exact hq)
        rw [hq] at HC
        clear HK hq
        go_wp2_with fail
        refine HC.out.mono ?_
        rintro e w3 ⟨rfl, rfl⟩
        go_wp2
        exact ⟨⟨k + 1, by omega, by go_num, HE⟩, by simp [RowKit.intOf]; omega⟩
    · obtain rfl : k = m := by omega
      have hz : ¬ (k : Int) < (k : Int) := by omega
      have HE : Hid (R = k) := Lib.hid (HF.out k hk HK.out (fun h => by omega))
      clear HK
      go_wp2_with fail
      refine HFar.out.mono ?_
      rintro e w' ⟨rfl, hw⟩
      obtain rfl := hw.symm
      clear hw
      go_wp2
      go_ret
      exact ⟨by rw [HE.out]; rfl, rfl⟩
end Go.Proofs.YtmgcdhcidojdhaaGreat

namespace Go.Proofs.YtmgcdhcidojdhaaGreat
open Go.RowKit


set_option maxHeartbeats 1000000 in
theorem rptmost_any (a : Option Addr) (len cap : Nat) (ws : List (List UInt8)) (w : World) (hlen : len ≤ 1000000) (hr : IsStrs w a len ws) (ht : ∀ t ∈ ws, t.length ≤ 65535) :
    Calls Tryz.prog 77 #[.slice a len cap] w fun e w' => e = .returned (.int .i64 (mostL ws : Int)) ∧ w' = w := by
  have hwl := hr.1
  have HI := Lib.hid hr
  have HT := Lib.hid ht
  have HW : Hid (ws.take len = ws) := Lib.hid (List.take_of_length_le (by omega))
  clear hr ht
  go_enter Tryz.func77, Tryz.ntmps77
  go_wp2
  go_loop [3, 4] (fun x i => ∃ k n : Nat, k ≤ len ∧ i = .int .i64 k ∧ x = .int .i64 n ∧ n ≤ 65535 ∧ Hid (mostL (ws.take k) = n)) (fun _ i => len - (RowKit.intOf i).toNat)
  case atStart => exact ⟨0, 0, Nat.zero_le _, rfl, rfl, by omega, Lib.hid rfl⟩
  case round =>
    obtain ⟨k, n, hk, rfl, rfl, hn, HK⟩ := hrel
    by_cases hlt : k < len
    · obtain ⟨b, off, rfl, t, hf, hc⟩ := str_at HI.out (Below.refl _ _) k hlt
      have HS := Lib.hid (bsize t)
      have htl := HT.out t (List.mem_of_getElem? hf)
      by_cases hq : n < t.length
      · have HK2 : Hid (mostL (ws.take (k + 1)) = t.length) := Lib.hid (by rw [most_snoc hf, HK.out]; omega)
        clear hf HK
        go_wp2
        exact ⟨⟨k + 1, t.length, by omega, by go_num, rfl, htl, HK2⟩, by simp [RowKit.intOf]; omega⟩
      · have HK2 : Hid (mostL (ws.take (k + 1)) = n) := Lib.hid (by rw [most_snoc hf, HK.out]; omega)
        clear hf HK
        go_wp2
        exact ⟨⟨k + 1, n, by omega, by go_num, rfl, hn, HK2⟩, by simp [RowKit.intOf]; omega⟩
    · obtain rfl : k = len := by omega
      have HE : Hid (mostL ws = n) := Lib.hid (by have := HK.out; rwa [HW.out] at this)
      clear HK
      go_wp2
      go_ret
      exact ⟨by rw [HE.out]; rfl, rfl⟩

end Go.Proofs.YtmgcdhcidojdhaaGreat

namespace Go.Proofs.YtmgcdhcidojdhaaGreat
open Go.RowKit

set_option maxHeartbeats 1000000 in
theorem rstands_any (p s : List UInt8) (e : Nat) (w : World) (hp : p.length ≤ 1000000) (hs : s.length ≤ 1000000) (he : e ≤ 9223372036854775807) :
    Calls Tryz.prog 41 #[.string ⟨p.toArray⟩, .string ⟨s.toArray⟩, .int .i64 (e : Int)] w fun en w' => en = .returned (.bool (stB p s e)) ∧ w = w' := by
  have S1 := Lib.hid (bsize p)
  have S2 := Lib.hid (bsize s)
  by_cases h1 : p.length ≤ e
  · by_cases h2 : e ≤ s.length
    · have x1 := ext_cut s (e - p.length) e
      have HQ := Lib.hid (st_cut h1 h2)
      have g1 : (p.length : Int) ≤ (e : Int) := by omega
      have g2 : (e : Int) ≤ (s.length : Int) := by omega
      have g3 : ((e : Int) - (p.length : Int)).toNat = e - p.length := by omega
      have g4 : (0 : Int) ≤ (e : Int) - (p.length : Int) := by omega
      have g5 : (e : Int) - (p.length : Int) ≤ (e : Int) := by omega
      have g6 : IntKind.i64.wrap ((e : Int) - (p.length : Int)) = (e : Int) - (p.length : Int) := by rw [IntKind.wrap_i64]; omega
      cases hq : ((s.take e).drop (e - p.length) == p) with
      | true =>
        rw [hq] at HQ
        generalize (s.take e).drop (e - p.length) = u at x1 hq
        go_enter Tryz.func41, Tryz.ntmps41
        go_wp2
        go_ret
        exact ⟨by rw [HQ.out]; rfl, rfl⟩
      | false =>
        rw [hq] at HQ
        generalize (s.take e).drop (e - p.length) = u at x1 hq
        go_enter Tryz.func41, Tryz.ntmps41
        go_wp2
        go_ret
        exact ⟨by rw [HQ.out]; rfl, rfl⟩
    · have HQ := Lib.hid (st_no (p := p) (s := s) (e := e) (.inr (by omega)))
      have g1 : (p.length : Int) ≤ (e : Int) := by omega
      have g2 : ¬ (e : Int) ≤ (s.length : Int) := by omega
      go_enter Tryz.func41, Tryz.ntmps41
      go_wp2
      go_ret
      exact ⟨by rw [HQ.out]; rfl, rfl⟩
  · have HQ := Lib.hid (st_no (p := p) (s := s) (e := e) (.inl (by omega)))
    have g1 : ¬ (p.length : Int) ≤ (e : Int) := by omega
    go_enter Tryz.func41, Tryz.ntmps41
    go_wp2
    go_ret
    exact ⟨by rw [HQ.out]; rfl, rfl⟩
end Go.Proofs.YtmgcdhcidojdhaaGreat

namespace Go.Proofs.YtmgcdhcidojdhaaGreat
open Go.RowKit

theorem atZ_if (us : List (List UInt8)) (s : List UInt8) (e : Int) : atZ us s e = if 0 ≤ e then idsK us s e.toNat us.length else [] := by
  unfold atZ
  by_cases h0 : 0 ≤ e
  · by_cases h1 : e ≤ (s.length : Int)
    · rw [if_pos ⟨h0, h1⟩, if_pos h0]
    · rw [if_neg (fun h => h1 h.2), if_pos h0, ids_none (by omega)]
  · rw [if_neg (fun h => h0 h.1), if_neg h0]

set_option maxRecDepth 100000 in
set_option maxHeartbeats 1000000 in
theorem rat_any (a : Option Addr) (len cap : Nat) (us : List (List UInt8)) (s : List UInt8) (e : Int) (w : World) (hlen : len ≤ 1000000) (hr : IsStrs w a len us) (hu : ∀ t ∈ us, t.length ≤ 1000000) (hs : s.length ≤ 1000000) (he : e ≤ 9223372036854775807) :
    Calls Tryz.prog 40 #[.slice a len cap, .string ⟨s.toArray⟩, .int .i64 e] w (RetN (atZ us s e) w) := by
  have hwl := hr.1
  have HH := Lib.hid hr
  have HU := Lib.hid hu
  obtain ⟨i0, hi, hz0, hz1, hz2⟩ := info_parts int_info
  rw [atZ_if]
  by_cases h0 : 0 ≤ e
  · rw [if_pos h0]
    obtain ⟨m, rfl⟩ : ∃ m : Nat, e = (m : Int) := ⟨e.toNat, by omega⟩
    rw [Int.toNat_natCast]
    clear hr hu
    go_enter Tryz.func40, Tryz.ntmps40
    go_wp2
    go_loopw [7, 8] (fun v i wr => ∃ (k : Nat) (acc : List Int), k ≤ len ∧ i = .int .i64 k ∧ acc.length ≤ k ∧ Hid (idsK us s m k = acc) ∧ wr.ownsRow w.heap.size 3 1 v acc.length (inCells acc) ∧ Below w.heap.size w wr) (fun _ i _ => len - (RowKit.intOf i).toNat)
    case atStart => exact ⟨0, [], Nat.zero_le _, rfl, Nat.le_refl _, Lib.hid rfl, World.ownsRow_made w #[] 0 (Nat.le_refl _) (by unfold maxLen; omega) rfl, (Below.refl _ _).alloc (Nat.le_refl _) _⟩
    case round =>
      obtain ⟨k, acc, hk, rfl, hac, HK, hown, hbe⟩ := hrel
      have hsz := hbe.size
      by_cases hlt : k < len
      · obtain ⟨b, off, rfl, t, hf, hc⟩ := str_at HH.out hbe k hlt
        have htl := HU.out t (List.mem_of_getElem? hf)
        have HC := Lib.hid (rstands_any t s m wr htl hs (by omega))
        have g0 : (0 : Int) ≤ (k : Int) := by omega
        have g1 : (k : Int) < (len : Int) := by omega
        have g2 : (0 : Int) ≤ (m : Int) := by omega
        cases hq : stB t s m with
        | true =>
          have HR : Hid (idsK us s m (k + 1) = acc ++ [(k : Int)]) := Lib.hid (by rw [ids_hit hf hq, HK.out])
          rw [hq] at HC
          clear hq hf HK
          go_wp2_with fail
          refine HC.out.mono ?_
          rintro en w' ⟨rfl, rfl⟩
          clear HC
          go_wp2_with (at_builtin; refine wpList_append_own _ rfl _ _ 43 rfl w.heap.size 3 i0 (.int .i64 0) 1 8 Tryz.underlying43 hi hz0 hz1 hz2 rfl (by decide) _ _ _ rfl (hown.alloc _) ⟨wr.heap.size, 0, none⟩ 1 1 [.int .i64 (k : Int)] rfl rfl (int_news (heap_alloc_new wr _)) int_one (by unfold maxLen; omega) (by omega) (by simp; omega) ?_)
          intro v' w3 hown3 hgrow _
          have h3 : Below w.heap.size w w3 := (hbe.alloc hsz _).grown hgrow (by simp; omega) (fun j hj => (hown.lt j hj).1)
          clear hgrow hown hbe
          go_wp2
          exact ⟨⟨k + 1, acc ++ [(k : Int)], by omega, by go_num, by rw [List.length_append, List.length_singleton]; omega, HR, by rw [inCells_snoc, List.length_append]; exact hown3, h3⟩, by simp [RowKit.intOf]; omega⟩
        | false =>
          have HR : Hid (idsK us s m (k + 1) = acc) := Lib.hid (by rw [ids_miss hf hq, HK.out])
          rw [hq] at HC
          clear hq hf HK
          go_wp2_with fail
          refine HC.out.mono ?_
          rintro en w' ⟨rfl, rfl⟩
          clear HC
          go_wp2
          exact ⟨⟨k + 1, acc, by omega, by go_num, by omega, HR, hown, hbe⟩, by simp [RowKit.intOf]; omega⟩
      · obtain rfl : k = len := by omega
        have hz : ¬ (k : Int) < (k : Int) := by omega
        have HO := Lib.hid hown
        clear hown
        go_wp2
        go_ret
        exact ⟨_, rfl, by rw [HK.out]; exact HO.out, hbe⟩
  · rw [if_neg h0]
    clear hr hu
    go_enter Tryz.func40, Tryz.ntmps40
    go_wp2
    go_loopw [7, 8] (fun v i wr => ∃ (k : Nat), k ≤ len ∧ i = .int .i64 k ∧ wr.ownsRow w.heap.size 3 1 v 0 [] ∧ Below w.heap.size w wr) (fun _ i _ => len - (RowKit.intOf i).toNat)
    case atStart => exact ⟨0, Nat.zero_le _, rfl, World.ownsRow_made w #[] 0 (Nat.le_refl _) (by unfold maxLen; omega) rfl, (Below.refl _ _).alloc (Nat.le_refl _) _⟩
    case round =>
      obtain ⟨k, hk, rfl, hown, hbe⟩ := hrel
      have hsz := hbe.size
      by_cases hlt : k < len
      · have g0 : (0 : Int) ≤ (k : Int) := by omega
        have g1 : (k : Int) < (len : Int) := by omega
        go_wp2
        exact ⟨⟨k + 1, by omega, by go_num, hown, hbe⟩, by simp [RowKit.intOf]; omega⟩
      · obtain rfl : k = len := by omega
        have hz : ¬ (k : Int) < (k : Int) := by omega
        have HO := Lib.hid hown
        clear hown
        go_wp2
        go_ret
        exact ⟨_, rfl, HO.out, hbe⟩
end Go.Proofs.YtmgcdhcidojdhaaGreat

namespace Go.Proofs.YtmgcdhcidojdhaaGreat
open Go.RowKit

set_option maxHeartbeats 2000000 in
theorem isame_any (a b : Option Addr) (len ca cb t1 t2 : Nat) (zs : List Int) (w : World) (hlen : len ≤ 1000000000) (ha : IsRow .i64 w a len t1 zs) (hb : IsRow .i64 w b len t2 zs) :
    Calls Tryz.prog 39 #[.slice a len ca, .slice b len cb] w fun e w' => e = .returned (.bool true) ∧ Below w.heap.size w w' := by
  go_enter Tryz.func39, Tryz.ntmps39
  go_wp2
  go_loopw [5] (fun i wr => ∃ k : Nat, k ≤ len ∧ i = .int .i64 k ∧ Below w.heap.size w wr) (fun i _ => len - (RowKit.intOf i).toNat)
  case atStart => exact ⟨0, Nat.zero_le _, rfl, Below.refl _ _⟩
  case round =>
    obtain ⟨k, hk, rfl, hbe⟩ := hrel
    by_cases hlt : k < len
    · obtain h0 | ⟨b1, off1, rfl, hl1, _, _, c1⟩ := ha.below hbe
      · omega
      obtain h0 | ⟨b2, off2, rfl, hl2, _, _, c2⟩ := hb.below hbe
      · omega
      have d1 := c1 k (by omega)
      have d2 := c2 k (by omega)
      clear c1 c2 ha hb
      generalize zs.getD k 0 = x at d1 d2
      have g0 : (0 : Int) ≤ (k : Int) := by omega
      have g1 : (k : Int) < (len : Int) := by omega
      go_wp2_with fail
      go_quiet (fail)
      go_wp2
      exact ⟨⟨k + 1, by omega, by go_num, below_drewS hbe _⟩, by simp [RowKit.intOf]; omega⟩
    · obtain rfl : k = len := by omega
      go_wp2
      go_ret
      exact ⟨rfl, hbe⟩
end Go.Proofs.YtmgcdhcidojdhaaGreat
