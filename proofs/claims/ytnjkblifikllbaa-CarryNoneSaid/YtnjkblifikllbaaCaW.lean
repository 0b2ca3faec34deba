/-
  carry.New, Seen, Done, first, Held, between: walked.
-/
import Derived.Test.YtnjkblifikllbaaCaM
import Derived.Below
import Derived.WalkKit
import Derived.WalkSpells
import Derived.WalkLawsBesides
import Derived.Lib.Hide
import Derived.Lib.MinMax
import Derived.Lib.Strings
import Derived.Deep.QuietTactic
import Derived.BigQuiet
set_option linter.unusedSimpArgs false
set_option linter.unusedVariables false
namespace Go.Proofs.Ytnjkblifikllbaa
open Go.RowKit

set_option maxHeartbeats 1000000 in
theorem canew_bad (n : Int) (w : World) (h : n < 1 ∨ 65536 < n) :
    Calls Try.prog 6 #[.int .i64 n] w fun e w' => e = .returned (.tuple #[.pointer none, .int .i64 2]) ∧ w' = w := by
  by_cases h1 : n < 1
  · go_enter Try.func6, Try.ntmps6
    go_wp2
    go_ret2
    exact ⟨rfl, rfl⟩
  · have h2 : 65536 < n := by omega
    go_enter Try.func6, Try.ntmps6
    go_wp2
    go_ret2
    exact ⟨rfl, rfl⟩

set_option maxHeartbeats 1000000 in
theorem canew_w (n : Nat) (w : World) (h1 : 1 ≤ n) (h2 : n ≤ 65536) :
    Calls Try.prog 6 #[.int .i64 n] w fun e w' => e = .returned (.tuple #[.pointer (some ⟨w.heap.size, 0, none⟩), .int .i64 0]) ∧ w' = w.alloc (.cells #[.int .i64 n, .slice none 0 0, .int .i64 0, .int .i64 0] 38) := by
  go_enter Try.func6, Try.ntmps6
  go_wp2
  go_ret2
  exact ⟨rfl, rfl⟩
theorem canew_any (n : Nat) (w : World) (h1 : 1 ≤ n) (h2 : n ≤ 65536) :
    Calls Try.prog 6 #[.int .i64 n] w fun e w' => e = .returned (.tuple #[.pointer (some ⟨w.heap.size, 0, none⟩), .int .i64 0]) ∧ IsCarry w' (w.heap.size + 1) w.heap.size n [] 0 ∧ w'.heap.size = w.heap.size + 1 ∧ Below w.heap.size w w' := by
  refine (canew_w n w h1 h2).mono ?_
  rintro e w' ⟨rfl, rfl⟩
  exact ⟨rfl, carry_new h1 h2 (by omega) (by simp) (heap_alloc_new w _), by simp, (Below.refl _ _).alloc (Nat.le_refl _) _⟩

set_option maxHeartbeats 400000 in
theorem caseen_nil (w : World) : Calls Try.prog 12 #[.pointer none] w fun e w' => e = .returned (.int .i64 0) ∧ w' = w := by
  go_enter Try.func12, Try.ntmps12
  go_wp2
  go_ret
  exact ⟨rfl, rfl⟩
set_option maxHeartbeats 400000 in
theorem caseen_any {w : World} {base b keep done : Nat} {s : List UInt8} (h : IsCarry w base b keep s done) : Calls Try.prog 12 #[.pointer (some ⟨b, 0, none⟩)] w fun e w' => e = .returned (.int .i64 s.length) ∧ w' = w := by
  obtain ⟨_, _, _, _, _, gone, v, _, hh, _⟩ := h
  obtain ⟨⟨c0, c1, c2, c3⟩, _⟩ := carry_reads hh
  clear hh
  go_enter Try.func12, Try.ntmps12
  go_wp2
  go_ret
  exact ⟨rfl, rfl⟩
set_option maxHeartbeats 400000 in
theorem cadone_nil (w : World) : Calls Try.prog 13 #[.pointer none] w fun e w' => e = .returned (.int .i64 0) ∧ w' = w := by
  go_enter Try.func13, Try.ntmps13
  go_wp2
  go_ret
  exact ⟨rfl, rfl⟩
set_option maxHeartbeats 400000 in
theorem cadone_any {w : World} {base b keep done : Nat} {s : List UInt8} (h : IsCarry w base b keep s done) : Calls Try.prog 13 #[.pointer (some ⟨b, 0, none⟩)] w fun e w' => e = .returned (.int .i64 done) ∧ w' = w := by
  obtain ⟨_, _, _, _, _, gone, v, _, hh, _⟩ := h
  obtain ⟨⟨c0, c1, c2, c3⟩, _⟩ := carry_reads hh
  clear hh
  go_enter Try.func13, Try.ntmps13
  go_wp2
  go_ret
  exact ⟨rfl, rfl⟩

set_option maxHeartbeats 1000000 in
theorem cafirst_any {w : World} {base b keep done : Nat} {s : List UInt8} (h : IsCarry w base b keep s done) (hs : s.length ≤ 1000000000) : Calls Try.prog 15 #[.pointer (some ⟨b, 0, none⟩)] w fun e w' => e = .returned (.int .i64 ((done - keep : Nat) : Int)) ∧ ∃ q, w' = w.drewN q := by
  obtain ⟨_, _, h3, h4, h5, gone, v, _, hh, _⟩ := h
  obtain ⟨⟨c0, c1, c2, c3⟩, _⟩ := carry_reads hh
  have HM : Hid (max ((done : Int) - keep) 0 = ((done - keep : Nat) : Int)) := Lib.hid (by omega)
  clear hh
  go_enter Try.func15, Try.ntmps15
  go_wp2_with fail
  go_quiet (fail)
  go_wp2
  go_ret
  exact ⟨by rw [HM.out]; rfl, _, rfl⟩
set_option maxHeartbeats 400000 in
theorem caheld_nil (w : World) : Calls Try.prog 9 #[.pointer none] w fun e w' => e = .returned (.int .i64 0) ∧ w' = w := by
  go_enter Try.func9, Try.ntmps9
  go_wp2
  go_ret
  exact ⟨rfl, rfl⟩
set_option maxHeartbeats 1000000 in
theorem caheld_any {w : World} {base b keep done : Nat} {s : List UInt8} (h : IsCarry w base b keep s done) (hs : s.length ≤ 1000000000) : Calls Try.prog 9 #[.pointer (some ⟨b, 0, none⟩)] w fun e w' => e = .returned (.int .i64 ((s.length - (done - keep) : Nat) : Int)) ∧ ∃ q, w' = w.drewN q := by
  have HF := Lib.hid (fun q => Calls.quiet_of (cafirst_any (h.drewN q) hs))
  obtain ⟨_, _, h3, h4, h5, gone, v, _, hh, _⟩ := h
  obtain ⟨⟨c0, c1, c2, c3⟩, _⟩ := carry_reads hh
  obtain ⟨f, hf⟩ : ∃ f, done - keep = f := ⟨_, rfl⟩
  rw [hf] at HF ⊢
  have HM : Hid ((s.length : Int) - (f : Int) = ((s.length - f : Nat) : Int)) := Lib.hid (by omega)
  have hfl : f ≤ s.length := by omega
  clear hh hf
  go_enter Try.func9, Try.ntmps9
  go_wp2_with fail
  go_quiet (with_reducible exact HF.out _)
  go_wp2
  go_ret
  exact ⟨by rw [HM.out]; rfl, _, rfl⟩

set_option maxHeartbeats 1000000 in
theorem cabet_none {w : World} {base b keep done : Nat} {s : List UInt8} (h : IsCarry w base b keep s done) (hs : s.length ≤ 1000000000) (h0 : done ≤ keep) :
    ∃ v, Piece w v [] ∧ ∀ W : World, W.heap = w.heap → Calls Try.prog 16 #[.pointer (some ⟨b, 0, none⟩), .int .i64 0, .int .i64 0] W fun e w' => e = .returned v ∧ ∃ q, w' = W.drewN q := by
  obtain ⟨_, _, h3, h4, h5, gone, v, h6, hh, hown⟩ := h
  obtain rfl : gone = 0 := by omega
  obtain ⟨a, cap, rfl⟩ := owns_slice hown
  rw [Nat.sub_zero] at hh
  rcases hown.2 with ⟨ha, hn⟩ | ⟨g, cap', cur, ha, _⟩
  · simp only [Value.slice.injEq] at ha
    obtain ⟨rfl, _, rfl⟩ := ha
    rw [Nat.sub_zero] at hn
    rw [hn] at hh
    refine ⟨.slice none 0 0, ⟨none, 0, rfl, fun h => by simp at h⟩, fun W hW => ?_⟩
    rw [← hW] at hh
    obtain ⟨⟨c0, c1, c2, c3⟩, _⟩ := carry_reads hh
    clear hh hown hW
    go_enter Try.func16, Try.ntmps16
    go_wp2_with fail
    go_quiet (fail)
    go_wp2
    go_ret
    exact ⟨rfl, _, rfl⟩
  · simp only [Value.slice.injEq] at ha
    obtain ⟨rfl, _, rfl⟩ := ha
    refine ⟨.slice (some ⟨g, 0, none⟩) 0 cap, ⟨_, _, rfl, fun h => by simp at h⟩, fun W hW => ?_⟩
    rw [← hW] at hh
    obtain ⟨⟨c0, c1, c2, c3⟩, _⟩ := carry_reads hh
    clear hh hown hW
    go_enter Try.func16, Try.ntmps16
    go_wp2_with fail
    go_quiet (fail)
    go_wp2
    go_ret
    exact ⟨rfl, _, rfl⟩
end Go.Proofs.Ytnjkblifikllbaa
