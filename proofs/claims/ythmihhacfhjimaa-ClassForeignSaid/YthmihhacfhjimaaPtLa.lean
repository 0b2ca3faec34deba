/-
  A set of patterns: Len, At: walked.
-/
import Derived.Test.YthmihhacfhjimaaPtIs
set_option linter.unusedSimpArgs false
set_option linter.unusedVariables false
namespace Go.Proofs.Ythmihhacfhjimaa
open Go.RowKit

theorem ptlen_nil (w : World) : Calls Try.prog 18 #[.pointer none] w fun e w' => e = .returned (.int .i64 0) ∧ w' = w := by
  go_enter Try.func18, Try.ntmps18
  go_wp2
  go_ret
  exact ⟨rfl, rfl⟩
theorem ptlen_any {w : World} {b : Nat} {ws : List (List UInt8)} (h : IsSet w b ws) : Calls Try.prog 18 #[.pointer (some ⟨b, 0, none⟩)] w fun e w' => e = .returned (.int .i64 (ws.length : Int)) ∧ w' = w := by
  obtain ⟨g, cap, c0, _⟩ := h.reads
  clear h
  go_enter Try.func18, Try.ntmps18
  go_wp2
  go_ret
  exact ⟨rfl, rfl⟩
theorem ptat_nil (n : Int) (w : World) : Calls Try.prog 19 #[.pointer none, .int .i64 n] w fun e w' => e = .returned (.tuple #[.string ByteArray.empty, .bool false]) ∧ w' = w := by
  by_cases h : n < 0
  · go_enter Try.func19, Try.ntmps19
    go_wp2
    go_ret2
    exact ⟨rfl, rfl⟩
  · go_enter Try.func19, Try.ntmps19
    go_wp2_with fail
    refine (ptlen_nil w).mono ?_
    rintro e w' ⟨rfl, rfl⟩
    go_wp2
    go_ret2
    exact ⟨rfl, rfl⟩
theorem ptat_out {w : World} {b : Nat} {ws : List (List UInt8)} (h : IsSet w b ws) (n : Int) (hn : n < 0 ∨ (ws.length : Int) ≤ n) : Calls Try.prog 19 #[.pointer (some ⟨b, 0, none⟩), .int .i64 n] w fun e w' => e = .returned (.tuple #[.string ByteArray.empty, .bool false]) ∧ w' = w := by
  have HL := Lib.hid (ptlen_any h)
  clear h
  by_cases h0 : n < 0
  · clear hn
    go_enter Try.func19, Try.ntmps19
    go_wp2
    go_ret2
    exact ⟨rfl, rfl⟩
  · have h1 : (ws.length : Int) ≤ n := by omega
    clear hn
    go_enter Try.func19, Try.ntmps19
    go_wp2_with fail
    refine HL.out.mono ?_
    rintro e w' ⟨rfl, rfl⟩
    go_wp2
    go_ret2
    exact ⟨rfl, rfl⟩
theorem ptat_in {w : World} {b : Nat} {ws : List (List UInt8)} (h : IsSet w b ws) (k : Nat) (t : List UInt8) (ht : ws[k]? = some t) : Calls Try.prog 19 #[.pointer (some ⟨b, 0, none⟩), .int .i64 (k : Int)] w fun e w' => e = .returned (.tuple #[.string ⟨t.toArray⟩, .bool true]) ∧ w' = w := by
  have HL := Lib.hid (ptlen_any h)
  obtain ⟨g, cap, c0, _, _, _, hown⟩ := h.reads
  have hk := (List.getElem?_eq_some_iff.1 ht).1
  have hc := own_strs hown
  obtain ⟨b', off, e, t', ht', hcell⟩ := str_at hc (Below.refl _ _) k hk
  cases e
  obtain rfl : t' = t := Option.some.inj (ht'.symm.trans ht)
  rw [Nat.zero_add] at hcell
  have g0 : ¬ (k : Int) < 0 := by omega
  have g1 : (k : Int) < (ws.length : Int) := by omega
  have g2 : (0 : Int) ≤ (k : Int) := by omega
  clear h ht ht' hown hc
  go_enter Try.func19, Try.ntmps19
  go_wp2_with fail
  refine HL.out.mono ?_
  rintro e w' ⟨rfl, rfl⟩
  go_wp2
  go_ret2
  exact ⟨rfl, rfl⟩
end Go.Proofs.Ythmihhacfhjimaa
