/-
  The document's Prefix, walked.
-/
import Derived.Test.YtgkpeehondmalaaAfP
set_option linter.unusedSimpArgs false
set_option linter.unusedVariables false
namespace Go.Proofs.Ytgkpeehondmalaa
open Go.RowKit

set_option maxHeartbeats 1000000 in
theorem rprefix_draws (a b : List UInt8) (w : World) (ha : a.length ≤ 1000000000) (hb : b.length ≤ 1000000000) :
    Calls Try.prog 17 #[.string ⟨a.toArray⟩, .string ⟨b.toArray⟩] w (Drew (.int .i64 (preL a b : Int)) w) := by
  have S1 := Lib.hid (bsize a)
  have S2 := Lib.hid (bsize b)
  go_enter Try.func17, Try.ntmps17
  go_wp2
  go_loopw [5] (fun i wr => ∃ k : Nat, k ≤ a.length ∧ k ≤ b.length ∧ i = .int .i64 k ∧ Hid (∀ i, i < k → a[i]? = b[i]?) ∧ ∃ q, wr = w.drewN q) (fun i _ => a.length - (RowKit.intOf i).toNat)
  case atStart => exact ⟨0, Nat.zero_le _, Nat.zero_le _, rfl, Lib.hid (fun i h => absurd h (Nat.not_lt_zero _)), 0, rfl⟩
  case round =>
    obtain ⟨k, hk, hk2, rfl, HK, q, rfl⟩ := hrel
    by_cases hla : k < a.length
    · have d1 : decide (k < a.length) = true := decide_eq_true hla
      by_cases hlb : k < b.length
      · have d2 : decide (k < b.length) = true := decide_eq_true hlb
        have hza : k < (⟨a.toArray⟩ : ByteArray).size := by rw [bsize]; omega
        have hzb : k < (⟨b.toArray⟩ : ByteArray).size := by rw [bsize]; omega
        have HA := byteAt a k (by omega) hza
        have HB := byteAt b k (by omega) hzb
        have ea : a[k]? = some a[k] := List.getElem?_eq_getElem (by omega)
        have eb : b[k]? = some b[k] := List.getElem?_eq_getElem (by omega)
        by_cases hc : a[k] = b[k]
        · have HN : Hid (∀ i, i < k + 1 → a[i]? = b[i]?) := Lib.hid (fun i hi => by
            rcases Nat.lt_succ_iff_lt_or_eq.1 hi with h | h
            · exact HK.out i h
            · subst h; rw [ea, eb, hc])
          have hq : (((((⟨a.toArray⟩ : ByteArray)[k]'hza).toNat : Int)) == ((((⟨b.toArray⟩ : ByteArray)[k]'hzb).toNat : Int))) = true := by rw [HA, HB, hc]; simp
          clear HA HB HK ea eb hc
          go_wp2_with fail
          go_quiet (fail)
          go_wp2
          exact ⟨⟨k + 1, by omega, by omega, by go_num, HN, _, rfl⟩, by simp [RowKit.intOf]; omega⟩
        · have HE : Hid (preL a b = k) := Lib.hid (preL_is a b k (by omega) (by omega) HK.out (.inr (.inr (by rw [ea, eb]; simpa using hc))))
          have hq : (((((⟨a.toArray⟩ : ByteArray)[k]'hza).toNat : Int)) == ((((⟨b.toArray⟩ : ByteArray)[k]'hzb).toNat : Int))) = false := by
            rw [HA, HB]
            simp only [beq_eq_false_iff_ne, ne_eq]
            exact fun e => hc (UInt8.toNat_inj.1 (by omega))
          clear HA HB HK ea eb hc
          go_wp2_with fail
          go_quiet (fail)
          go_wp2
          go_ret
          exact ⟨by rw [HE.out]; rfl, _, drew_all _ _ _⟩
      · have d2 : decide (k < b.length) = false := decide_eq_false hlb
        have HE : Hid (preL a b = k) := Lib.hid (preL_is a b k (by omega) (by omega) HK.out (.inr (.inl (by omega))))
        clear HK
        go_wp2_with fail
        go_quiet (fail)
        go_wp2
        go_ret
        exact ⟨by rw [HE.out]; rfl, _, drew_all _ _ _⟩
    · have d1 : decide (k < a.length) = false := decide_eq_false hla
      have HE : Hid (preL a b = k) := Lib.hid (preL_is a b k (by omega) (by omega) HK.out (.inl (by omega)))
      clear HK
      go_wp2_with fail
      go_quiet (fail)
      go_wp2
      go_ret
      exact ⟨by rw [HE.out]; rfl, _, drew_all _ _ _⟩

theorem rprefix_any (a b : List UInt8) (w : World) (ha : a.length ≤ 1000000000) (hb : b.length ≤ 1000000000) :
    Calls Try.prog 17 #[.string ⟨a.toArray⟩, .string ⟨b.toArray⟩] w fun e w' => e = .returned (.int .i64 (preL a b : Int)) ∧ Below w.heap.size w w' :=
  (rprefix_draws a b w ha hb).mono fun _ _ h => h.below
end Go.Proofs.Ytgkpeehondmalaa
