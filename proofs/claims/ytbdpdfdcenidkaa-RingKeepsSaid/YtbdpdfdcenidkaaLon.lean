/-
  The document's Longest (of a slice of strings), walked.
-/
import Derived.Test.YtbdpdfdcenidkaaStr
import Derived.Test.YtbdpdfdcenidkaaChM
set_option linter.unusedSimpArgs false
set_option linter.unusedVariables false
namespace Go.Proofs.Ytbdpdfdcenidkaa
open Go.RowKit

theorem take_snocT (ws : List (List UInt8)) (k : Nat) (t : List UInt8) (h : ws[k]? = some t) : ws.take (k + 1) = ws.take k ++ [t] := by
  obtain ⟨hk, rfl⟩ := List.getElem?_eq_some_iff.1 h
  rw [List.take_succ_eq_append_getElem hk]

theorem lon_next (ws : List (List UInt8)) (k : Nat) (t : List UInt8) (h : ws[k]? = some t) : lonL (ws.take (k + 1)) = max (lonL (ws.take k)) t.length := by
  rw [take_snocT ws k t h, lonL_snoc]

set_option maxHeartbeats 1000000 in
theorem rlongest_any (a : Option Addr) (len cap : Nat) (ws : List (List UInt8)) (w : World) (hl : len ≤ 1000000000) (hr : IsStrs w a len ws) :
    Calls Try.prog 6 #[.slice a len cap] w fun e w' => e = .returned (.int .i64 (lonL ws : Int)) ∧ Below w.heap.size w w' := by
  have hwl := hr.1
  go_enter Try.func6, Try.ntmps6
  go_wp2
  go_loopw [3, 4] (fun v i wr => ∃ (k m : Nat), k ≤ len ∧ i = .int .i64 k ∧ v = .int .i64 m ∧ Hid (m = lonL (ws.take k)) ∧ Below w.heap.size w wr) (fun _ i _ => len - (RowKit.intOf i).toNat)
  case atStart => exact ⟨0, 0, Nat.zero_le _, rfl, rfl, Lib.hid rfl, Below.refl _ _⟩
  case round =>
    obtain ⟨k, m, hk, rfl, rfl, HW, hbe⟩ := hrel
    by_cases hlt : k < len
    · obtain ⟨b, off, rfl, t, hf, hc⟩ := str_at hr hbe k hlt
      have HW2 : Hid (max m t.length = lonL (ws.take (k + 1))) := Lib.hid (by rw [lon_next ws k t hf, ← HW.out])
      have HS := Lib.hid (bsize t)
      clear hf HW hwl
      by_cases hm : m < t.length
      · have HM : Hid (max m t.length = t.length) := Lib.hid (by omega)
        go_wp2
        exact ⟨⟨k + 1, t.length, by omega, by go_num, rfl, Lib.hid (by rw [← HW2.out, HM.out]), hbe⟩, by simp [RowKit.intOf]; omega⟩
      · have HM : Hid (max m t.length = m) := Lib.hid (by omega)
        go_wp2
        exact ⟨⟨k + 1, m, by omega, by go_num, rfl, Lib.hid (by rw [← HW2.out, HM.out]), hbe⟩, by simp [RowKit.intOf]; omega⟩
    · obtain rfl : k = len := by omega
      obtain rfl : m = lonL ws := by rw [HW.out, List.take_of_length_le (by omega)]
      clear HW
      go_wp2
      go_ret
      exact ⟨rfl, hbe⟩
end Go.Proofs.Ytbdpdfdcenidkaa
