/-
  The document's own answers for layer 9: Few, Twice: walked.
-/
import Derived.Test.YthmihhacfhjimaaAfM
import Derived.Test.YthmihhacfhjimaaStr
set_option linter.unusedSimpArgs false
set_option linter.unusedVariables false
namespace Go.Proofs.Ythmihhacfhjimaa
open Go.RowKit

/-- Are they few, and short? -/
def fewB (ws : List (List UInt8)) (m n : Nat) : Bool := decide (ws.length ≤ m) && ws.all fun t => decide (t.length ≤ n)
theorem few_iff (ws : List (List UInt8)) (m n : Nat) : fewB ws m n = true ↔ ws.length ≤ m ∧ ∀ t ∈ ws, t.length ≤ n := by
  unfold fewB
  simp only [Bool.and_eq_true, decide_eq_true_eq, List.all_eq_true]
theorem few_no {ws : List (List UInt8)} {m n : Nat} (h : ¬ (ws.length ≤ m ∧ ∀ t ∈ ws, t.length ≤ n)) : fewB ws m n = false := by
  rw [Bool.eq_false_iff]
  exact fun e => h ((few_iff ws m n).1 e)
theorem mem_take_snoc {ws : List (List UInt8)} {k : Nat} {t x : List UInt8} (h : ws[k]? = some t) (hx : x ∈ ws.take (k + 1)) : x ∈ ws.take k ∨ x = t := by
  obtain ⟨hk, rfl⟩ := List.getElem?_eq_some_iff.1 h
  rw [List.take_succ_eq_append_getElem hk, List.mem_append, List.mem_singleton] at hx
  exact hx
theorem mem_take_last {ws : List (List UInt8)} {k : Nat} {t : List UInt8} (h : ws[k]? = some t) : t ∈ ws.take (k + 1) := by
  obtain ⟨hk, rfl⟩ := List.getElem?_eq_some_iff.1 h
  rw [List.take_succ_eq_append_getElem hk]
  exact List.mem_append_right _ (List.mem_singleton.2 rfl)

set_option maxHeartbeats 1000000 in
theorem few_any (a : Option Addr) (len cap : Nat) (ws : List (List UInt8)) (m n : Nat) (w : World) (hlen : len ≤ 9223372036854775807) (hm : m ≤ 1000000) (hn : n ≤ 1000000) (hr : IsStrs w a len ws) (ht : ∀ t ∈ ws, t.length ≤ 9223372036854775807) :
    Calls Try.prog 4 #[.slice a len cap, .int .i64 (m : Int), .int .i64 (n : Int)] w fun e w' => e = .returned (.bool (fewB ws m n)) ∧ w' = w := by
  have hwl := hr.1
  by_cases hbig : m < len
  · have HE : Hid (fewB ws m n = false) := Lib.hid (few_no (fun h => by omega))
    clear hr ht hwl
    go_enter Try.func4, Try.ntmps4
    go_wp2
    go_ret
    exact ⟨by rw [HE.out]; rfl, rfl⟩
  · have HT := Lib.hid ht
    clear ht
    go_enter Try.func4, Try.ntmps4
    go_wp2
    go_loop [7] (fun i => ∃ k : Nat, k ≤ len ∧ i = .int .i64 k ∧ Hid (∀ t ∈ ws.take k, t.length ≤ n)) (fun i => len - (RowKit.intOf i).toNat)
    case atStart => exact ⟨0, Nat.zero_le _, rfl, Lib.hid (by simp)⟩
    case round =>
      obtain ⟨k, hk, rfl, HK⟩ := hrel
      by_cases hlt : k < len
      · obtain ⟨b, off, rfl, t, hf, hc⟩ := str_at hr (Below.refl _ _) k hlt
        have htl := HT.out t (List.mem_of_getElem? hf)
        have HS := Lib.hid (bsize t)
        by_cases hq : n < t.length
        · have HE : Hid (fewB ws m n = false) := Lib.hid (few_no (fun h => by have := h.2 t (List.mem_of_getElem? hf); omega))
          clear hf HK hr
          go_wp2
          go_ret
          exact ⟨by rw [HE.out]; rfl, rfl⟩
        · have HN : Hid (∀ t ∈ ws.take (k + 1), t.length ≤ n) := Lib.hid (fun x hx => by
            rcases mem_take_snoc hf hx with h | rfl
            · exact HK.out x h
            · omega)
          clear hf HK hr
          go_wp2
          exact ⟨⟨k + 1, by omega, by go_num, HN⟩, by simp [RowKit.intOf]; omega⟩
      · obtain rfl : k = len := by omega
        have HE : Hid (fewB ws m n = true) := Lib.hid ((few_iff ws m n).2 ⟨by omega, by have := HK.out; rwa [List.take_of_length_le (by omega)] at this⟩)
        clear HK hr
        go_wp2
        go_ret
        exact ⟨by rw [HE.out]; rfl, rfl⟩

theorem few_not (a : Option Addr) (len cap : Nat) (ws : List (List UInt8)) (w : World) (hlen : len ≤ 9223372036854775807) (hr : IsStrs w a len ws) (ht : ∀ t ∈ ws, t.length ≤ 9223372036854775807) (hq : fewB ws 20 50 = false) :
    Calls Try.prog 4 #[.slice a len cap, .int .i64 20, .int .i64 50] w fun e w' => e = .returned (.bool false) ∧ w' = w := by
  have := few_any a len cap ws 20 50 w hlen (by omega) (by omega) hr ht
  rw [hq] at this
  exact this
theorem few_yes (a : Option Addr) (len cap : Nat) (ws : List (List UInt8)) (w : World) (hlen : len ≤ 9223372036854775807) (hr : IsStrs w a len ws) (ht : ∀ t ∈ ws, t.length ≤ 9223372036854775807) (hq : fewB ws 20 50 = true) :
    Calls Try.prog 4 #[.slice a len cap, .int .i64 20, .int .i64 50] w fun e w' => e = .returned (.bool true) ∧ w' = w := by
  have := few_any a len cap ws 20 50 w hlen (by omega) (by omega) hr ht
  rw [hq] at this
  exact this

set_option maxHeartbeats 2000000 in
theorem rtwice_any (a : Option Addr) (len cap : Nat) (ws : List (List UInt8)) (w : World) (hlen : len ≤ 1000000) (hr : IsStrs w a len ws) :
    Calls Try.prog 16 #[.slice a len cap] w fun e w' => e = .returned (.int .i64 (twS [] ws 0)) ∧ Below w.heap.size w w' := by
  have hwl := hr.1
  obtain ⟨R, hR⟩ : ∃ R, twS [] ws 0 = R := ⟨_, rfl⟩
  have HR : Hid (twS (ws.take 0) (ws.drop 0) 0 = R) := Lib.hid hR
  rw [hR]
  have HI := Lib.hid hr
  clear hR hr
  go_enter Try.func16, Try.ntmps16
  go_wp2
  go_loopw [3, 4] (fun i y wr => ∃ k : Nat, k ≤ len ∧ i = .int .i64 k ∧ Hid (twS (ws.take k) (ws.drop k) k = R) ∧ Below w.heap.size w wr) (fun i _ _ => len - (RowKit.intOf i).toNat)
  case atStart => exact ⟨0, Nat.zero_le _, rfl, HR, Below.refl _ _⟩
  case round =>
    obtain ⟨k, hk, rfl, HK, hbe⟩ := hrel
    by_cases hlt : k < len
    · obtain ⟨W1, hW1⟩ : ∃ W1, W1 = wr := ⟨_, rfl⟩
      subst hW1
      go_wp2
      go_loopw [4] (fun j wr => ∃ m : Nat, m ≤ k ∧ j = .int .i64 m ∧ Hid (∀ x ∈ ws.take m, ws[k]? ≠ some x) ∧ Below w.heap.size w wr) (fun j _ => k - (RowKit.intOf j).toNat)
      case atStart => exact ⟨0, Nat.zero_le _, rfl, Lib.hid (by simp), hbe⟩
      case round =>
        obtain ⟨m, hm, rfl, HM, hbe2⟩ := hrel
        by_cases hlt2 : m < k
        · obtain ⟨b, off, rfl, t, hf, hc⟩ := str_at HI.out hbe2 k hlt
          obtain ⟨b2, off2, e2, u, hf2, hc2⟩ := str_at HI.out hbe2 m (by omega)
          cases e2
          have g1 : (0 : Int) ≤ (k : Int) := by omega
          have g2 : (k : Int) < (len : Int) := by omega
          have g3 : (0 : Int) ≤ (m : Int) := by omega
          have g4 : (m : Int) < (len : Int) := by omega
          cases hq : (u == t) with
          | true =>
            have HE : Hid (R = k) := Lib.hid (by
              rw [← HK.out]
              obtain rfl : u = t := by simpa using hq
              refine tw_hit hf ?_
              exact List.mem_of_getElem? (by rw [List.getElem?_take_of_lt hlt2]; exact hf2))
            clear hf hf2 HM HK
            go_wp2_with fail
            go_quiet (fail)
            go_wp2
            go_ret
            exact ⟨by rw [HE.out]; rfl, below_drewS hbe2 _⟩
          | false =>
            have HN : Hid (∀ x ∈ ws.take (m + 1), ws[k]? ≠ some x) := Lib.hid (fun x hx => by
              rcases mem_take_snoc hf2 hx with h | rfl
              · exact HM.out x h
              · rw [hf]; intro e; simp at e; subst e; simp at hq)
            clear hf hf2 HM
            go_wp2_with fail
            go_quiet (fail)
            go_wp2
            exact ⟨⟨m + 1, by omega, by go_num, HN, below_drewS hbe2 _⟩, by simp [RowKit.intOf]; omega⟩
        · obtain rfl : m = k := by omega
          have HE : Hid (twS (ws.take (m + 1)) (ws.drop (m + 1)) (m + 1) = R) := Lib.hid (by
            obtain ⟨b, off, rfl, t, hf, hc⟩ := str_at HI.out hbe2 m hlt
            rw [← HK.out]
            exact (tw_miss hf (fun hm => HM.out t hm hf)).symm)
          clear HM HK
          go_wp2
          exact ⟨⟨m + 1, by omega, by go_num, HE, hbe2⟩, by simp [RowKit.intOf]; omega⟩
    · obtain rfl : k = len := by omega
      have HE : Hid (R = -1) := Lib.hid (by rw [← HK.out, ← hwl]; exact tw_end ws)
      clear HK
      go_wp2
      go_ret
      exact ⟨by rw [HE.out]; rfl, hbe⟩
end Go.Proofs.Ythmihhacfhjimaa
