/-
  book: reader's pattern as a whole, count, set: walked.
-/
import Derived.Test.YtoeakmpfkbmbcaaBkP
set_option linter.unusedSimpArgs false
set_option linter.unusedVariables false
namespace Go.Proofs.Ytoeakmpfkbmbcaa
open Go.RowKit

theorem pattern_bad {w : World} {B b : Nat} {L : List (List UInt8)} {s : List UInt8} (h : IsReader w B b L s) (hs : s.length ≤ 1000000000) (hl : L.length ≤ 1000000) (ha : (lastP L).length ≤ 65535) (hT : totalL L ≤ 16777216) (he : ¬ entE (totalL L) (lastP L) s = 0) :
    Calls Try.prog 42 #[.pointer (some ⟨b, 0, none⟩)] w fun e w' => e = .returned (.int .i64 (entE (totalL L) (lastP L) s)) ∧ Below B w w' := by
  unfold entE at he ⊢
  by_cases h1 : tE s = 0
  · rw [if_pos h1] at he ⊢
    by_cases h2 : tE (pastB s) = 0
    · rw [if_pos h2] at he ⊢
      unfold patE at he ⊢
      by_cases h3 : lenE (tN s) (tN (pastB s)) (lastP L).length (totalL L : Int) (pastB (pastB s)).length = 0
      · rw [if_pos h3] at he ⊢
        exact pat_nxt h hs hl ha h1 h2 h3 he
      · rw [if_neg h3] at he ⊢
        exact pat_len h hs hl ha hT h1 h2 h3
    · rw [if_neg h2] at he ⊢
      exact pat_two h hs h1 h2
  · rw [if_neg h1] at he ⊢
    exact pat_one h hs h1

theorem pattern_good {w : World} {B b : Nat} {L : List (List UInt8)} {s : List UInt8} (h : IsReader w B b L s) (hs : s.length ≤ 1000000000) (hl : L.length ≤ 1000000) (ha : (lastP L).length ≤ 65535) (he : entE (totalL L) (lastP L) s = 0) :
    Calls Try.prog 42 #[.pointer (some ⟨b, 0, none⟩)] w fun e w' => e = .returned (.int .i64 0) ∧ IsReader w' B b (L ++ [entP (lastP L) s]) (entR s) ∧ Below B w w' := by
  unfold entE at he
  by_cases h1 : tE s = 0
  · rw [if_pos h1] at he
    by_cases h2 : tE (pastB s) = 0
    · rw [if_pos h2] at he
      unfold patE at he
      by_cases h3 : lenE (tN s) (tN (pastB s)) (lastP L).length (totalL L : Int) (pastB (pastB s)).length = 0
      · rw [if_pos h3] at he
        exact pat_good h hs hl ha h1 h2 h3 he
      · rw [if_neg h3] at he
        exact absurd he h3
    · rw [if_neg h2] at he
      exact absurd he h2
  · rw [if_neg h1] at he
    exact absurd he h1

theorem entR_le (s : List UInt8) : (entR s).length ≤ s.length := by
  have h1 := past_le s
  have h2 := past_le (pastB s)
  unfold entR
  rw [List.length_drop]
  omega

/-- What count tells: the error, how many. -/
def cntE (s : List UInt8) : Int := if tE s = 0 then (if tN s = 0 then 14 else if 65535 < tN s then 6 else 0) else tE s

set_option maxHeartbeats 1000000 in
theorem count_bad {w : World} {B b : Nat} {L : List (List UInt8)} {s : List UInt8} (h : IsReader w B b L s) (hs : s.length ≤ 1000000000) (he : ¬ cntE s = 0) :
    Calls Try.prog 41 #[.pointer (some ⟨b, 0, none⟩)] w fun e w' => e = .returned (.tuple #[.int .i64 0, .int .i64 (cntE s)]) ∧ Below B w w' := by
  unfold cntE at he ⊢
  by_cases h1 : tE s = 0
  · rw [if_pos h1] at he ⊢
    have H1 := Lib.hid (number_good h hs h1)
    by_cases h2 : tN s = 0
    · rw [if_pos h2]
      rw [h2] at H1
      generalize pastB s = s2 at H1
      clear h he h1 h2
      go_enter Try.func41, Try.ntmps41
      go_wp2_with fail
      refine H1.out.mono ?_
      rintro e w2 ⟨rfl, hr2, hb2⟩
      go_wp2
      go_ret2
      exact ⟨rfl, hb2⟩
    · rw [if_neg h2] at he ⊢
      by_cases h3 : 65535 < tN s
      · rw [if_pos h3]
        generalize tN s = n at H1 h2 h3
        have g2 : (n == 0) = false := by simpa using h2
        generalize pastB s = s2 at H1
        clear h he h1
        go_enter Try.func41, Try.ntmps41
        go_wp2_with fail
        refine H1.out.mono ?_
        rintro e w2 ⟨rfl, hr2, hb2⟩
        go_wp2
        go_ret2
        exact ⟨rfl, hb2⟩
      · rw [if_neg h3] at he
        exact absurd rfl he
  · rw [if_neg h1] at he ⊢
    have H1 := Lib.hid (number_bad h hs h1)
    generalize tE s = x at H1 h1 ⊢
    have g2 : (x == 0) = false := by simpa using h1
    clear h he
    go_enter Try.func41, Try.ntmps41
    go_wp2_with fail
    refine H1.out.mono ?_
    rintro e w2 ⟨rfl, rfl⟩
    go_wp2
    go_ret2
    exact ⟨rfl, Below.refl _ _⟩

theorem cnt_ok {s : List UInt8} (h : cntE s = 0) : tE s = 0 ∧ ∃ n : Nat, tN s = ((n + 1 : Nat) : Int) ∧ n + 1 ≤ 65535 := by
  have h0 := (tN_bounds s).1
  unfold cntE at h
  by_cases h1 : tE s = 0
  · rw [if_pos h1] at h
    by_cases h2 : tN s = 0
    · rw [if_pos h2] at h; omega
    · rw [if_neg h2] at h
      by_cases h3 : 65535 < tN s
      · rw [if_pos h3] at h; omega
      · exact ⟨h1, (tN s).toNat - 1, by omega, by omega⟩
  · rw [if_neg h1] at h; exact absurd h h1

set_option maxHeartbeats 1000000 in
theorem count_good {w : World} {B b : Nat} {L : List (List UInt8)} {s : List UInt8} (h : IsReader w B b L s) (hs : s.length ≤ 1000000000) (he : cntE s = 0) :
    Calls Try.prog 41 #[.pointer (some ⟨b, 0, none⟩)] w fun e w' => e = .returned (.tuple #[.int .i64 (tN s), .int .i64 0]) ∧ IsReader w' B b L (pastB s) ∧ Below B w w' := by
  obtain ⟨h1, n, hn, hn2⟩ := cnt_ok he
  have H1 := Lib.hid (number_good h hs h1)
  rw [hn] at H1 ⊢
  generalize pastB s = s2 at H1 ⊢
  have g1 : (((n + 1 : Nat) : Int) == 0) = false := by simp; omega
  have g2 : ((n + 1 : Nat) : Int) ≤ 65535 := by omega
  generalize ((n + 1 : Nat) : Int) = x at H1 g1 g2 ⊢
  clear h he hn hn2
  go_enter Try.func41, Try.ntmps41
  go_wp2_with fail
  refine H1.out.mono ?_
  rintro e w2 ⟨rfl, hr2, hb2⟩
  have HR := Lib.hid hr2
  go_wp2
  go_ret2
  exact ⟨rfl, HR.out, hb2⟩
end Go.Proofs.Ytoeakmpfkbmbcaa
