/-
  affix.Prefix, walked.
-/
import Derived.Test.YtgkpeehondmalaaAfM
import Derived.Test.YtgkpeehondmalaaStr
import Derived.Lib.MinMax
set_option linter.unusedSimpArgs false
set_option linter.unusedVariables false
namespace Go.Proofs.Ytgkpeehondmalaa
open Go.RowKit

/-- An answer; some draws. -/
def Drew (v : Value) (w : World) (e : Ending) (w' : World) : Prop := e = .returned v ∧ ∃ q, w' = w.drewN q
theorem Drew.below {v : Value} {w : World} {e : Ending} {w' : World} (h : Drew v w e w') : e = .returned v ∧ Below w.heap.size w w' := by
  obtain ⟨he, q, rfl⟩ := h
  exact ⟨he, below_drewS (Below.refl _ _) q⟩

theorem least_eq (a b : List UInt8) : ∃ m : Nat, min (a.length : Int) (b.length : Int) = (m : Int) ∧ m ≤ a.length ∧ m ≤ b.length ∧ (m = a.length ∨ m = b.length) :=
  ⟨min a.length b.length, by omega, by omega, by omega, by omega⟩

theorem drew_all (w : World) (n m : Nat) : (w.drewN n).drewN m = w.drewN (n + m) := by simp [World.drewN, Nat.add_assoc]

set_option maxHeartbeats 1000000 in
theorem prefix_draws (a b : List UInt8) (w : World) (ha : a.length ≤ 1000000000) (hb : b.length ≤ 1000000000) :
    Calls Try.prog 19 #[.string ⟨a.toArray⟩, .string ⟨b.toArray⟩] w (Drew (.int .i64 (preL a b : Int)) w) := by
  have S1 := Lib.hid (bsize a)
  have S2 := Lib.hid (bsize b)
  obtain ⟨m, hm, hma, hmb, hme⟩ := least_eq a b
  have HM := Lib.hid hme
  clear hme
  go_enter Try.func19, Try.ntmps19
  go_wp2
  go_loopw [13] (fun i wr => ∃ k : Nat, k ≤ m ∧ i = .int .i64 k ∧ Hid (∀ i, i < k → a[i]? = b[i]?) ∧ ∃ q, wr = w.drewN q) (fun i _ => m - (RowKit.intOf i).toNat)
  case atStart => exact ⟨0, Nat.zero_le _, rfl, Lib.hid (fun i h => absurd h (Nat.not_lt_zero _)), 0, rfl⟩
  case round =>
    obtain ⟨k, hk, rfl, HK, q, rfl⟩ := hrel
    by_cases hlt : k < m
    · have g1 : (k : Int) < (m : Int) := by omega
      have g2 : k < a.length := by omega
      have g3 : k < b.length := by omega
      have hza : k < (⟨a.toArray⟩ : ByteArray).size := by rw [bsize]; omega
      have hzb : k < (⟨b.toArray⟩ : ByteArray).size := by rw [bsize]; omega
      have HA := byteAt a k (by omega) hza
      have HB := byteAt b k (by omega) hzb
      have ea : a[k]? = some a[k] := List.getElem?_eq_getElem (by omega)
      have eb : b[k]? = some b[k] := List.getElem?_eq_getElem (by omega)
      by_cases hc : a[k] = b[k]
      · have HN : Hid (∀ i, i < k + 1 → a[i]? = b[i]?) := Lib.hid (fun i hi => by
          rcases Nat.lt_succ_iff_lt_or_eq.1 hi with h | h
          · exact HK.out i h
          · subst h; rw [ea, eb, hc])
        have hq : (((((⟨a.toArray⟩ : ByteArray)[k]'hza).toNat : Int)) = ((((⟨b.toArray⟩ : ByteArray)[k]'hzb).toNat : Int))) := by rw [HA, HB, hc]
        clear HA HB HK ea eb hc
        go_wp2_with fail
        go_quiet (fail)
        go_wp2
        exact ⟨⟨k + 1, by omega, by go_num, HN, _, rfl⟩, by simp [RowKit.intOf]; omega⟩
      · have HE : Hid (preL a b = k) := Lib.hid (preL_is a b k (by omega) (by omega) HK.out (.inr (.inr (by rw [ea, eb]; simpa using hc))))
        have hq : ¬ (((((⟨a.toArray⟩ : ByteArray)[k]'hza).toNat : Int)) = ((((⟨b.toArray⟩ : ByteArray)[k]'hzb).toNat : Int))) := by
          rw [HA, HB]
          exact fun e => hc (UInt8.toNat_inj.1 (by omega))
        clear HA HB HK ea eb hc
        go_wp2_with fail
        go_quiet (fail)
        go_wp2
        go_ret
        exact ⟨by rw [HE.out]; rfl, _, drew_all _ _ _⟩
    · obtain rfl : k = m := by omega
      have HE : Hid (preL a b = k) := Lib.hid (preL_is a b k hma hmb HK.out (by rcases HM.out with h | h; exact .inl h; exact .inr (.inl h)))
      clear HK
      go_wp2
      go_ret
      exact ⟨by rw [HE.out]; rfl, _, rfl⟩

theorem prefix_any (a b : List UInt8) (w : World) (ha : a.length ≤ 1000000000) (hb : b.length ≤ 1000000000) :
    Calls Try.prog 19 #[.string ⟨a.toArray⟩, .string ⟨b.toArray⟩] w fun e w' => e = .returned (.int .i64 (preL a b : Int)) ∧ Below w.heap.size w w' :=
  (prefix_draws a b w ha hb).mono fun _ _ h => h.below
end Go.Proofs.Ytgkpeehondmalaa
