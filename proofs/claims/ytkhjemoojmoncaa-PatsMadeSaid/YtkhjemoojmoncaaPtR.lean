/-
  The document's own answers for layer 10: Least, Most, Total, Find: walked.
-/
import Derived.Test.YtkhjemoojmoncaaPtM
import Derived.Test.YtkhjemoojmoncaaStr
set_option linter.unusedSimpArgs false
set_option linter.unusedVariables false
namespace Go.Proofs.Ytkhjemoojmoncaa
open Go.RowKit

set_option maxHeartbeats 1000000 in
theorem rptmost_any (a : Option Addr) (len cap : Nat) (ws : List (List UInt8)) (w : World) (hlen : len ≤ 1000000) (hr : IsStrs w a len ws) (ht : ∀ t ∈ ws, t.length ≤ 65535) :
    Calls Try.prog 19 #[.slice a len cap] w fun e w' => e = .returned (.int .i64 (mostL ws : Int)) ∧ w' = w := by
  have hwl := hr.1
  have HI := Lib.hid hr
  have HT := Lib.hid ht
  have HW : Hid (ws.take len = ws) := Lib.hid (List.take_of_length_le (by omega))
  clear hr ht
  go_enter Try.func19, Try.ntmps19
  go_wp2
  go_loop [3, 4] (fun x i => ∃ k n : Nat, k ≤ len ∧ i = .int .i64 k ∧ x = .int .i64 n ∧ n ≤ 65535 ∧ Hid (mostL (ws.take k) = n)) (fun _ i => len - (RowKit.intOf i).toNat)
  case atStart => exact ⟨0, 0, Nat.zero_le _, rfl, rfl, by omega, Lib.hid rfl⟩
  case round =>
    obtain ⟨k, n, hk, rfl, rfl, hn, HK⟩ := hrel
    by_cases hlt : k < len
    · obtain ⟨b, off, rfl, t, hf, hc⟩ := str_at HI.out (Below.refl _ _) k hlt
      have HS := Lib.hid (bsize t)
      have htl := HT.out t (List.mem_of_getElem? hf)
      by_cases hq : n < t.length
      · have HK2 : Hid (mostL (ws.take (k + 1)) = t.length) := Lib.hid (by rw [most_snoc hf, HK.out]; omega)
        clear hf HK
        go_wp2
        exact ⟨⟨k + 1, t.length, by omega, by go_num, rfl, htl, HK2⟩, by simp [RowKit.intOf]; omega⟩
      · have HK2 : Hid (mostL (ws.take (k + 1)) = n) := Lib.hid (by rw [most_snoc hf, HK.out]; omega)
        clear hf HK
        go_wp2
        exact ⟨⟨k + 1, n, by omega, by go_num, rfl, hn, HK2⟩, by simp [RowKit.intOf]; omega⟩
    · obtain rfl : k = len := by omega
      have HE : Hid (mostL ws = n) := Lib.hid (by have := HK.out; rwa [HW.out] at this)
      clear HK
      go_wp2
      go_ret
      exact ⟨by rw [HE.out]; rfl, rfl⟩

set_option maxHeartbeats 1000000 in
theorem rpttotal_any (a : Option Addr) (len cap : Nat) (ws : List (List UInt8)) (w : World) (hlen : len ≤ 1000000) (hr : IsStrs w a len ws) (ht : ∀ t ∈ ws, t.length ≤ 65535) :
    Calls Try.prog 21 #[.slice a len cap] w fun e w' => e = .returned (.int .i64 (totalL ws : Int)) ∧ w' = w := by
  have hwl := hr.1
  have HI := Lib.hid hr
  have HT := Lib.hid ht
  have HW : Hid (ws.take len = ws) := Lib.hid (List.take_of_length_le (by omega))
  clear hr ht
  go_enter Try.func21, Try.ntmps21
  go_wp2
  go_loop [3, 4] (fun x i => ∃ k n : Nat, k ≤ len ∧ i = .int .i64 k ∧ x = .int .i64 n ∧ n ≤ k * 65535 ∧ Hid (totalL (ws.take k) = n)) (fun _ i => len - (RowKit.intOf i).toNat)
  case atStart => exact ⟨0, 0, Nat.zero_le _, rfl, rfl, by omega, Lib.hid rfl⟩
  case round =>
    obtain ⟨k, n, hk, rfl, rfl, hn, HK⟩ := hrel
    by_cases hlt : k < len
    · obtain ⟨b, off, rfl, t, hf, hc⟩ := str_at HI.out (Below.refl _ _) k hlt
      have HS := Lib.hid (bsize t)
      have htl := HT.out t (List.mem_of_getElem? hf)
      have HK2 : Hid (totalL (ws.take (k + 1)) = n + t.length) := Lib.hid (by rw [total_snoc hf, HK.out])
      clear hf HK
      go_wp2
      exact ⟨⟨k + 1, n + t.length, by omega, by go_num, by go_num, by omega, HK2⟩, by simp [RowKit.intOf]; omega⟩
    · obtain rfl : k = len := by omega
      have HE : Hid (totalL ws = n) := Lib.hid (by have := HK.out; rwa [HW.out] at this)
      clear HK
      go_wp2
      go_ret
      exact ⟨by rw [HE.out]; rfl, rfl⟩

theorem leastR_first {ws : List (List UInt8)} {t : List UInt8} (h : ws[0]? = some t) (ht : t.length ≤ 65535) : leastR (ws.take (0 + 1)) = t.length := by
  have hlt := (List.getElem?_eq_some_iff.1 h).1
  unfold leastR
  rw [if_neg (by rw [List.length_take]; omega), least_snoc h, List.take_zero]
  show min 65535 t.length = _
  omega
theorem leastR_snoc {ws : List (List UInt8)} {k : Nat} {t : List UInt8} (hk : 0 < k) (h : ws[k]? = some t) : leastR (ws.take (k + 1)) = min (leastR (ws.take k)) t.length := by
  have hlt := (List.getElem?_eq_some_iff.1 h).1
  unfold leastR
  rw [if_neg (by rw [List.length_take]; omega), if_neg (by rw [List.length_take]; omega), least_snoc h]

set_option maxHeartbeats 1000000 in
theorem rptleast_any (a : Option Addr) (len cap : Nat) (ws : List (List UInt8)) (w : World) (hlen : len ≤ 1000000) (hr : IsStrs w a len ws) (ht : ∀ t ∈ ws, t.length ≤ 65535) :
    Calls Try.prog 17 #[.slice a len cap] w fun e w' => e = .returned (.int .i64 (leastR ws : Int)) ∧ w' = w := by
  have hwl := hr.1
  have HI := Lib.hid hr
  have HT := Lib.hid ht
  have HW : Hid (ws.take len = ws) := Lib.hid (List.take_of_length_le (by omega))
  clear hr ht
  go_enter Try.func17, Try.ntmps17
  go_wp2
  go_loop [3, 4] (fun x i => ∃ k n : Nat, k ≤ len ∧ i = .int .i64 k ∧ x = .int .i64 n ∧ n ≤ 65535 ∧ Hid (leastR (ws.take k) = n)) (fun _ i => len - (RowKit.intOf i).toNat)
  case atStart => exact ⟨0, 0, Nat.zero_le _, rfl, rfl, by omega, Lib.hid rfl⟩
  case round =>
    obtain ⟨k, n, hk, rfl, rfl, hn, HK⟩ := hrel
    by_cases hlt : k < len
    · obtain ⟨b, off, rfl, t, hf, hc⟩ := str_at HI.out (Below.refl _ _) k hlt
      have HS := Lib.hid (bsize t)
      have htl := HT.out t (List.mem_of_getElem? hf)
      by_cases h0 : k = 0
      · subst h0
        have HK2 := Lib.hid (leastR_first hf htl)
        rw [Nat.add_zero] at hc
        clear hf HK
        go_wp2
        exact ⟨⟨1, t.length, by omega, by go_num, rfl, htl, HK2⟩, by simp [RowKit.intOf]; omega⟩
      · have g0 : ¬ (k : Int) = 0 := by omega
        have g1 : ((k : Int) == 0) = false := by simp [h0]
        by_cases hq : t.length < n
        · have HK2 : Hid (leastR (ws.take (k + 1)) = t.length) := Lib.hid (by rw [leastR_snoc (by omega) hf, HK.out]; omega)
          clear hf HK
          go_wp2
          exact ⟨⟨k + 1, t.length, by omega, by go_num, rfl, htl, HK2⟩, by simp [RowKit.intOf]; omega⟩
        · have HK2 : Hid (leastR (ws.take (k + 1)) = n) := Lib.hid (by rw [leastR_snoc (by omega) hf, HK.out]; omega)
          clear hf HK
          go_wp2
          exact ⟨⟨k + 1, n, by omega, by go_num, rfl, hn, HK2⟩, by simp [RowKit.intOf]; omega⟩
    · obtain rfl : k = len := by omega
      have HE : Hid (leastR ws = n) := Lib.hid (by have := HK.out; rwa [HW.out] at this)
      clear HK
      go_wp2
      go_ret
      exact ⟨by rw [HE.out]; rfl, rfl⟩

set_option maxHeartbeats 1000000 in
theorem rptfind_any (a : Option Addr) (len cap : Nat) (ws : List (List UInt8)) (s : List UInt8) (w : World) (hlen : len ≤ 1000000) (hr : IsStrs w a len ws) (ha : Asc ws) (hn : ws.Nodup) :
    Calls Try.prog 12 #[.slice a len cap, .string ⟨s.toArray⟩] w fun e w' => e = .returned (.int .i64 (fndP s ws)) ∧ w' = w := by
  have hwl := hr.1
  have HI := Lib.hid hr
  have HA := Lib.hid ha
  have HN := Lib.hid hn
  clear hr ha hn
  go_enter Try.func12, Try.ntmps12
  go_wp2
  go_loop [5] (fun i => ∃ k : Nat, k ≤ len ∧ i = .int .i64 k ∧ Hid (s ∉ ws.take k)) (fun i => len - (RowKit.intOf i).toNat)
  case atStart => exact ⟨0, Nat.zero_le _, rfl, Lib.hid (by simp)⟩
  case round =>
    obtain ⟨k, hk, rfl, HK⟩ := hrel
    by_cases hlt : k < len
    · obtain ⟨b, off, rfl, t, hf, hc⟩ := str_at HI.out (Below.refl _ _) k hlt
      cases hq : (t == s) with
      | true =>
        have e1 : t = s := by simpa using hq
        have HE : Hid (fndP s ws = k) := Lib.hid (fnd_hit HA.out HN.out (by rw [← e1]; exact hf))
        clear hf HK e1
        go_wp2
        go_ret
        exact ⟨by rw [HE.out]; rfl, rfl⟩
      | false =>
        have HK2 : Hid (s ∉ ws.take (k + 1)) := Lib.hid (fun hm => by
          obtain ⟨hk', e⟩ := List.getElem?_eq_some_iff.1 hf
          rw [List.take_succ_eq_append_getElem hk', List.mem_append, List.mem_singleton, e] at hm
          rcases hm with hm | hm
          · exact HK.out hm
          · subst hm; simp at hq)
        clear hf HK
        go_wp2
        exact ⟨⟨k + 1, by omega, by go_num, HK2⟩, by simp [RowKit.intOf]; omega⟩
    · obtain rfl : k = len := by omega
      have HE : Hid (fndP s ws = -1) := Lib.hid (fnd_miss (by have := HK.out; rwa [List.take_of_length_le (by omega)] at this))
      clear HK
      go_wp2
      go_ret
      exact ⟨by rw [HE.out]; rfl, rfl⟩
end Go.Proofs.Ytkhjemoojmoncaa
