/-
  The document's Stands: walked.
-/
import Derived.Test.YthmihhacfhjimaaOcG
set_option linter.unusedSimpArgs false
set_option linter.unusedVariables false
namespace Go.Proofs.Ythmihhacfhjimaa
open Go.RowKit

set_option maxHeartbeats 1000000 in
theorem rstands_any (p s : List UInt8) (e : Nat) (w : World) (hp : p.length ≤ 1000000) (hs : s.length ≤ 1000000) (he : e ≤ 9223372036854775807) :
    Calls Try.prog 20 #[.string ⟨p.toArray⟩, .string ⟨s.toArray⟩, .int .i64 (e : Int)] w fun en w' => en = .returned (.bool (stB p s e)) ∧ w = w' := by
  have S1 := Lib.hid (bsize p)
  have S2 := Lib.hid (bsize s)
  by_cases h1 : p.length ≤ e
  · by_cases h2 : e ≤ s.length
    · have x1 := ext_cut s (e - p.length) e
      have HQ := Lib.hid (st_cut h1 h2)
      have g1 : (p.length : Int) ≤ (e : Int) := by omega
      have g2 : (e : Int) ≤ (s.length : Int) := by omega
      have g3 : ((e : Int) - (p.length : Int)).toNat = e - p.length := by omega
      have g4 : (0 : Int) ≤ (e : Int) - (p.length : Int) := by omega
      have g5 : (e : Int) - (p.length : Int) ≤ (e : Int) := by omega
      have g6 : IntKind.i64.wrap ((e : Int) - (p.length : Int)) = (e : Int) - (p.length : Int) := by rw [IntKind.wrap_i64]; omega
      cases hq : ((s.take e).drop (e - p.length) == p) with
      | true =>
        rw [hq] at HQ
        generalize (s.take e).drop (e - p.length) = u at x1 hq
        go_enter Try.func20, Try.ntmps20
        go_wp2
        go_ret
        exact ⟨by rw [HQ.out]; rfl, rfl⟩
      | false =>
        rw [hq] at HQ
        generalize (s.take e).drop (e - p.length) = u at x1 hq
        go_enter Try.func20, Try.ntmps20
        go_wp2
        go_ret
        exact ⟨by rw [HQ.out]; rfl, rfl⟩
    · have HQ := Lib.hid (st_no (p := p) (s := s) (e := e) (.inr (by omega)))
      have g1 : (p.length : Int) ≤ (e : Int) := by omega
      have g2 : ¬ (e : Int) ≤ (s.length : Int) := by omega
      go_enter Try.func20, Try.ntmps20
      go_wp2
      go_ret
      exact ⟨by rw [HQ.out]; rfl, rfl⟩
  · have HQ := Lib.hid (st_no (p := p) (s := s) (e := e) (.inl (by omega)))
    have g1 : ¬ (p.length : Int) ≤ (e : Int) := by omega
    go_enter Try.func20, Try.ntmps20
    go_wp2
    go_ret
    exact ⟨by rw [HQ.out]; rfl, rfl⟩
end Go.Proofs.Ythmihhacfhjimaa
