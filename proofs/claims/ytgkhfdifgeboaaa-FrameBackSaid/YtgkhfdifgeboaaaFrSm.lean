/-
  The law's 'same' and 'awake' of layer 4, walked.
-/
import Derived.Test.YtgkhfdifgeboaaaFrS
import Derived.Test.YtgkhfdifgeboaaaFrJ
import Derived.Deep.QuietTactic
import Derived.BigQuiet
set_option linter.unusedSimpArgs false
set_option linter.unusedVariables false
namespace Go.Proofs.Ytgkhfdifgeboaaa
open Go.RowKit

theorem below_drewN {B : Nat} {a w : World} (h : Below B a w) (n : Nat) : Below B a (w.drewN n) := h.trans ⟨rfl, rfl, rfl, Nat.le_refl _, fun _ _ => rfl⟩

set_option maxHeartbeats 2000000 in
theorem same_any (a b : Option Addr) (len ca cb : Nat) (fs : List Fr) (w : World) (hlen : len ≤ 1000000) (ha : IsFrames w a len fs) (hb : IsFrames w b len fs) :
    Calls Try.prog 17 #[.slice a len ca, .slice b len cb] w fun e w' => e = .returned (.bool true) ∧ Below w.heap.size w w' := by
  go_enter Try.func17, Try.ntmps17
  go_wp2
  go_loopw [5] (fun i wr => ∃ k : Nat, k ≤ len ∧ i = .int .i64 k ∧ Below w.heap.size w wr) (fun i _ => len - (RowKit.intOf i).toNat)
  case atStart => exact ⟨0, Nat.zero_le _, rfl, Below.refl _ _⟩
  case round =>
    obtain ⟨k, hk, rfl, hbe⟩ := hrel
    by_cases hlt : k < len
    · obtain ⟨b1, off1, f, rfl, _, hf, c0, c1⟩ := frame_at ha hbe k hlt
      obtain ⟨b2, off2, f2, rfl, _, hf2, d0, d1⟩ := frame_at hb hbe k hlt
      have e : f2 = f := by rw [hf] at hf2; simpa using hf2.symm
      subst e
      clear hf hf2
      have g0 : (0 : Int) ≤ (k : Int) := by omega
      have g1 : (k : Int) < (len : Int) := by omega
      obtain ⟨kd, d⟩ := f2
      simp only at c0 c1 d0 d1
      go_wp2_with fail
      go_quiet (fail)
      go_wp2
      exact ⟨⟨k + 1, by omega, by go_num, below_drewN hbe _⟩, by simp [RowKit.intOf]; omega⟩
    · obtain rfl : k = len := by omega
      go_wp2
      go_ret
      exact ⟨rfl, hbe⟩

theorem put_ex (w : World) : Calls Try.prog 11 #[.agg #[.int .i64 7, .string ⟨#[97, 98]⟩]] w fun e w' => e = .returned (.tuple #[.string ⟨#[7, 2, 97, 98]⟩, .int .i64 0]) ∧ Below w.heap.size w w' := by
  have h := frput_any (7, ⟨#[97, 98]⟩) w (by decide)
  rw [show putB (7, ⟨#[97, 98]⟩) = [7, 2, 97, 98] from by decide +kernel, show frE (7, ⟨#[97, 98]⟩) = 0 from by decide +kernel] at h
  exact h
theorem split_ex (w : World) : Calls Try.prog 15 #[.string ⟨#[7, 2, 97]⟩] w fun e w' => ∃ (a : Option Addr) (cap : Nat), e = .returned (.tuple #[.slice a 0 cap, .int .i64 0, .int .i64 4]) ∧ Below w.heap.size w w' := by
  have h := fsplit_any [7, 2, 97] w (by decide)
  have hs : spl [7, 2, 97] = ([], 0, 4) := by decide +kernel
  refine h.mono ?_
  rintro e w' ⟨a, cap, he, _, hb⟩
  rw [hs] at he
  exact ⟨a, cap, he, hb⟩

set_option maxHeartbeats 400000 in
theorem awake_any (w : World) :
    Calls Try.prog 7 #[] w fun e w' => e = .returned (.bool true) ∧ Below w.heap.size w w' := by
  go_enter Try.func7, Try.ntmps7
  go_wp2_with fail
  refine (put_ex _).mono ?_
  rintro e w1 ⟨rfl, hb1⟩
  have hsz := hb1.size
  go_wp2_with fail
  refine (split_ex _).mono ?_
  rintro e w2 ⟨a, cap, rfl, hb2⟩
  go_wp2
  go_ret
  exact ⟨rfl, hb1.trans (hb2.mono hsz)⟩
end Go.Proofs.Ytgkhfdifgeboaaa
