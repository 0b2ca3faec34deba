/-
  The document's Least of a set of patterns: walked.
-/
import Derived.Test.YtcbaloacmbekkaaPtM
import Derived.Test.YtcbaloacmbekkaaStr
set_option linter.unusedSimpArgs false
set_option linter.unusedVariables false
namespace Go.Proofs.Ytcbaloacmbekkaa
open Go.RowKit

theorem leastR_first {ws : List (List UInt8)} {t : List UInt8} (h : ws[0]? = some t) (ht : t.length ≤ 65535) : leastR (ws.take (0 + 1)) = t.length := by
  have hlt := (List.getElem?_eq_some_iff.1 h).1
  unfold leastR
  rw [if_neg (by rw [List.length_take]; omega), least_snoc h, List.take_zero]
  show min 65535 t.length = _
  omega
theorem leastR_snoc {ws : List (List UInt8)} {k : Nat} {t : List UInt8} (hk : 0 < k) (h : ws[k]? = some t) : leastR (ws.take (k + 1)) = min (leastR (ws.take k)) t.length := by
  have hlt := (List.getElem?_eq_some_iff.1 h).1
  unfold leastR
  rw [if_neg (by rw [List.length_take]; omega), if_neg (by rw [List.length_take]; omega), least_snoc h]

set_option maxHeartbeats 1000000 in
theorem rptleast_any (a : Option Addr) (len cap : Nat) (ws : List (List UInt8)) (w : World) (hlen : len ≤ 1000000) (hr : IsStrs w a len ws) (ht : ∀ t ∈ ws, t.length ≤ 65535) :
    Calls Try.prog 29 #[.slice a len cap] w fun e w' => e = .returned (.int .i64 (leastR ws : Int)) ∧ w' = w := by
  have hwl := hr.1
  have HI := Lib.hid hr
  have HT := Lib.hid ht
  have HW : Hid (ws.take len = ws) := Lib.hid (List.take_of_length_le (by omega))
  clear hr ht
  go_enter Try.func29, Try.ntmps29
  go_wp2
  go_loop [3, 4] (fun x i => ∃ k n : Nat, k ≤ len ∧ i = .int .i64 k ∧ x = .int .i64 n ∧ n ≤ 65535 ∧ Hid (leastR (ws.take k) = n)) (fun _ i => len - (RowKit.intOf i).toNat)
  case atStart => exact ⟨0, 0, Nat.zero_le _, rfl, rfl, by omega, Lib.hid rfl⟩
  case round =>
    obtain ⟨k, n, hk, rfl, rfl, hn, HK⟩ := hrel
    by_cases hlt : k < len
    · obtain ⟨b, off, rfl, t, hf, hc⟩ := str_at HI.out (Below.refl _ _) k hlt
      have HS := Lib.hid (bsize t)
      have htl := HT.out t (List.mem_of_getElem? hf)
      by_cases h0 : k = 0
      · subst h0
        have HK2 := Lib.hid (leastR_first hf htl)
        rw [Nat.add_zero] at hc
        clear hf HK
        go_wp2
        exact ⟨⟨1, t.length, by omega, by go_num, rfl, htl, HK2⟩, by simp [RowKit.intOf]; omega⟩
      · have g0 : ¬ (k : Int) = 0 := by omega
        have g1 : ((k : Int) == 0) = false := by simp [h0]
        by_cases hq : t.length < n
        · have HK2 : Hid (leastR (ws.take (k + 1)) = t.length) := Lib.hid (by rw [leastR_snoc (by omega) hf, HK.out]; omega)
          clear hf HK
          go_wp2
          exact ⟨⟨k + 1, t.length, by omega, by go_num, rfl, htl, HK2⟩, by simp [RowKit.intOf]; omega⟩
        · have HK2 : Hid (leastR (ws.take (k + 1)) = n) := Lib.hid (by rw [leastR_snoc (by omega) hf, HK.out]; omega)
          clear hf HK
          go_wp2
          exact ⟨⟨k + 1, n, by omega, by go_num, rfl, hn, HK2⟩, by simp [RowKit.intOf]; omega⟩
    · obtain rfl : k = len := by omega
      have HE : Hid (leastR ws = n) := Lib.hid (by have := HK.out; rwa [HW.out] at this)
      clear HK
      go_wp2
      go_ret
      exact ⟨by rw [HE.out]; rfl, rfl⟩
end Go.Proofs.Ytcbaloacmbekkaa
