/-
  The document's own answers for layer 13: Has, First: walked.
-/
import Derived.Test.YtcbaloacmbekkaaShM
import Derived.Test.YtcbaloacmbekkaaInts
import Derived.Test.YtcbaloacmbekkaaPtRl
set_option linter.unusedSimpArgs false
set_option linter.unusedVariables false
namespace Go.Proofs.Ytcbaloacmbekkaa
open Go.RowKit

theorem has_next {ws : List (List UInt8)} {k c d : Nat} {t : List UInt8} (h : ws[k]? = some t) (hk : hasD (ws.take k) c d = false) : hasD (ws.take (k + 1)) c d = atD t c d := by
  have hlt := (List.getElem?_eq_some_iff.1 h).1
  have ht := (List.getElem?_eq_some_iff.1 h).2
  unfold hasD at *
  rw [List.take_succ_eq_append_getElem hlt, List.any_append, ht, hk]
  simp
theorem has_hit {ws : List (List UInt8)} {k c d : Nat} {t : List UInt8} (h : ws[k]? = some t) (ha : atD t c d = true) : hasD ws c d = true := List.any_eq_true.2 ⟨t, List.mem_of_getElem? h, ha⟩

set_option maxRecDepth 100000 in
set_option maxHeartbeats 4000000 in
theorem rhas_any (a : Option Addr) (len cap c d : Nat) (ws : List (List UInt8)) (w : World) (hlen : len ≤ 1000000) (hr : IsStrs w a len ws) (ht : ∀ t ∈ ws, t.length ≤ 1000000) (hd : d ≤ 1000000) :
    Calls Try.prog 30 #[.slice a len cap, .int .u8 (c : Int), .int .i64 (d : Int)] w fun e w' => e = .returned (.bool (hasD ws c d)) ∧ Below w.heap.size w w' := by
  have hwl := hr.1
  have HT := Lib.hid ht
  have HR := Lib.hid hr
  clear ht hr
  obtain ⟨R, hR⟩ : ∃ R, hasD ws c d = R := ⟨_, rfl⟩
  rw [hR]
  have HRR := Lib.hid hR
  clear hR
  go_enter Try.func30, Try.ntmps30
  go_wp2
  go_loopw [7] (fun i wr => ∃ k : Nat, k ≤ len ∧ i = .int .i64 k ∧ Hid (hasD (ws.take k) c d = false) ∧ Below w.heap.size w wr) (fun i _ => len - (RowKit.intOf i).toNat)
  case atStart => exact ⟨0, Nat.zero_le _, rfl, Lib.hid rfl, Below.refl _ _⟩
  case round =>
    obtain ⟨k, hk, rfl, HK, hbe⟩ := hrel
    by_cases hlt : k < len
    · obtain ⟨b, off, rfl, t, hf, hcell⟩ := str_at HR.out hbe k hlt
      have htl := HT.out t (List.mem_of_getElem? hf)
      have S1 := Lib.hid (bsize t)
      have HN := Lib.hid (has_next (c := c) (d := d) hf HK.out)
      have HH := Lib.hid (fun h => has_hit (c := c) (d := d) hf h)
      have hlt2 : (k : Int) < (len : Int) := by omega
      have hlt3 : (0 : Int) ≤ (k : Int) := by omega
      clear hf HK
      by_cases hdl : d < t.length
      · obtain ⟨q, hq1⟩ : ∃ q, q + 1 = t.length := ⟨t.length - 1, by omega⟩
        obtain ⟨j, hj⟩ : ∃ j, j + 1 + d = t.length := ⟨t.length - 1 - d, by omega⟩
        have w1 : IntKind.i64.wrap ((t.length : Int) - 1) = (q : Int) := by rw [IntKind.wrap_i64]; omega
        have w2 : IntKind.i64.wrap ((q : Int) - (d : Int)) = (j : Int) := by rw [IntKind.wrap_i64]; omega
        have hjl : j < t.length := by omega
        have hjz : j < (⟨t.toArray⟩ : ByteArray).size := by rw [bsize]; omega
        have gd : (d : Int) < (t.length : Int) := by omega
        have hat : atD t c d = ((((⟨t.toArray⟩ : ByteArray)[j]'hjz).toNat : Int) == (c : Int)) := by
          rw [byteAt t j hjl hjz]
          unfold atD
          rw [decide_eq_true hdl, Bool.true_and, show t.length - 1 - d = j by omega]
          simp only [List.getD, List.getElem?_eq_getElem hjl, Option.getD_some]
          by_cases e : (t[j]).toNat = c
          · rw [e]; simp
          · rw [beq_eq_false_iff_ne.2 e, eq_comm, beq_eq_false_iff_ne]; omega
        have HAT := Lib.hid hat
        have HQ := Lib.hid hq1
        have HJ := Lib.hid hj
        cases hq : ((((⟨t.toArray⟩ : ByteArray)[j]'hjz).toNat : Int) == (c : Int)) with
        | true =>
          have HE : Hid (R = true) := Lib.hid (by rw [← HRR.out]; exact HH.out (by rw [HAT.out]; exact hq))
          clear hat hq1 hj HAT
          go_wp2_with fail
          go_quiet (fail)
          go_wp2
          go_ret
          exact ⟨by rw [HE.out]; rfl, below_drewS hbe _⟩
        | false =>
          have HE : Hid (hasD (ws.take (k + 1)) c d = false) := Lib.hid (by rw [HN.out, HAT.out]; exact hq)
          clear hat hq1 hj HAT
          go_wp2_with fail
          go_quiet (fail)
          go_wp2
          exact ⟨⟨k + 1, by omega, by go_num, HE, below_drewS hbe _⟩, by simp [RowKit.intOf]; omega⟩
      · have gd : ¬ (d : Int) < (t.length : Int) := by omega
        have gd2 : decide ((d : Int) < (t.length : Int)) = false := decide_eq_false gd
        have HE : Hid (hasD (ws.take (k + 1)) c d = false) := Lib.hid (by rw [HN.out]; unfold atD; rw [decide_eq_false hdl]; rfl)
        go_wp2_with fail
        go_quiet (fail)
        go_wp2
        exact ⟨⟨k + 1, by omega, by go_num, HE, below_drewS hbe _⟩, by simp [RowKit.intOf]; omega⟩
    · obtain rfl : k = len := by omega
      have hz : ¬ (k : Int) < (k : Int) := by omega
      have HE : Hid (R = false) := Lib.hid (by rw [← HRR.out, ← HK.out, List.take_of_length_le (by omega)])
      clear HK
      go_wp2
      go_ret
      exact ⟨by rw [HE.out]; rfl, hbe⟩

set_option maxRecDepth 100000 in
set_option maxHeartbeats 4000000 in
theorem rshfirst_any (a : Option Addr) (len cap c : Nat) (ws : List (List UInt8)) (w : World) (hlen : len ≤ 1000000) (hr : IsStrs w a len ws) (ht : ∀ t ∈ ws, t.length ≤ 65535) :
    Calls Try.prog 17 #[.slice a len cap, .int .u8 (c : Int)] w fun e w' => e = .returned (.int .i64 (fstL ws c : Int)) ∧ Below w.heap.size w w' := by
  have HLe := Lib.hid (rptleast_any a len cap ws w hlen hr ht)
  have HHas := Lib.hid (fun (d : Nat) (W : World) (hW : Below w.heap.size w W) (hd : d ≤ 1000000) => rhas_any a len cap c d ws W hlen (hr.below hW) (fun t h => by have := ht t h; omega) hd)
  have hml : leastR ws ≤ 65535 := by
    unfold leastR
    split
    · omega
    · exact least_le ws
  have HF : Hid (∀ n, n ≤ leastR ws → (∀ d, d < n → hasD ws c d = false) → (n < leastR ws → hasD ws c n = true) → fstL ws c = n) := Lib.hid (fun n h1 h2 h3 => mn_is h1 h2 h3)
  generalize leastR ws = m at HLe HF hml
  obtain ⟨R, hR⟩ : ∃ R, fstL ws c = R := ⟨_, rfl⟩
  rw [hR] at HF ⊢
  clear hR hr ht
  go_enter Try.func17, Try.ntmps17
  go_wp2_with fail
  refine HLe.out.mono ?_
  rintro e w' ⟨rfl, hw⟩
  obtain rfl := hw.symm
  clear hw HLe
  go_wp2
  go_loopw [6] (fun i wr => ∃ k : Nat, k ≤ m ∧ i = .int .i64 k ∧ Hid (∀ d, d < k → hasD ws c d = false) ∧ Below w.heap.size w wr) (fun i _ => m - (RowKit.intOf i).toNat)
  case atStart => exact ⟨0, Nat.zero_le _, rfl, Lib.hid (fun d h => by omega), Below.refl _ _⟩
  case round =>
    obtain ⟨k, hk, rfl, HK, hbe⟩ := hrel
    by_cases hlt : k < m
    · have HC := Lib.hid (HHas.out k wr hbe (by omega))
      have hsz := hbe.size
      cases hq : hasD ws c k with
      | true =>
        have HE : Hid (R = k) := Lib.hid (HF.out k hk HK.out (fun _ => hq))
        rw [hq] at HC
        clear HK hq
        go_wp2_with fail
        refine HC.out.mono ?_
        rintro e w3 ⟨rfl, hb3⟩
        have d3 := hbe.trans (hb3.mono hsz)
        clear HC hb3
        go_wp2
        go_ret
        exact ⟨by rw [HE.out]; rfl, d3⟩
      | false =>
        have HE : Hid (∀ d, d < k + 1 → hasD ws c d = false) := Lib.hid (fun d hd => by
          rcases Nat.lt_or_ge d k with h | h
          · exact HK.out d h
          · rw [show d = k by omega]; exact hq)
        rw [hq] at HC
        clear HK hq
        go_wp2_with fail
        refine HC.out.mono ?_
        rintro e w3 ⟨rfl, hb3⟩
        have d3 := hbe.trans (hb3.mono hsz)
        clear HC hb3
        go_wp2
        exact ⟨⟨k + 1, by omega, by go_num, HE, d3⟩, by simp [RowKit.intOf]; omega⟩
    · obtain rfl : k = m := by omega
      have hz : ¬ (k : Int) < (k : Int) := by omega
      have HE : Hid (R = k) := Lib.hid (HF.out k hk HK.out (fun h => by omega))
      clear HK
      go_wp2
      go_ret
      exact ⟨by rw [HE.out]; rfl, hbe⟩
end Go.Proofs.Ytcbaloacmbekkaa
