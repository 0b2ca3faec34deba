/-
  The document's Find: walked.
-/
import Derived.Test.YtcbaloacmbekkaaBdM
import Derived.Test.YtcbaloacmbekkaaInts
set_option linter.unusedSimpArgs false
set_option linter.unusedVariables false
namespace Go.Proofs.Ytcbaloacmbekkaa
open Go.RowKit

/-- The places, as a list of numbers; of the empty text none. -/
def fndB (s t : List UInt8) : List Int := if t.isEmpty then [] else fnd s t s.length
theorem fndB_nil (s : List UInt8) : fndB s [] = [] := rfl
theorem fndB_full {s t : List UInt8} (h : t.isEmpty = false) : fndB s t = fnd s t s.length := by unfold fndB; rw [h]; rfl

set_option maxHeartbeats 1000000 in
theorem rfind_nil (s : List UInt8) (w : World) (hs : s.length ≤ 100000000) :
    Calls Try.prog 18 #[.string ⟨s.toArray⟩, .string ⟨#[]⟩] w (RetI (fndB s []) w) := by
  have S1 := Lib.hid (bsize s)
  go_enter Try.func18, Try.ntmps18
  go_wp2
  refine wp_loop_rounds 1 ?_; rw [rounds_succ]
  go_wp2
  go_ret
  exact ⟨_, _, rfl, .inl rfl, (Below.refl _ _).alloc (Nat.le_refl _) _⟩

set_option maxHeartbeats 1000000 in
theorem rfind_full (s t : List UInt8) (w : World) (hs : s.length ≤ 100000000) (ht : t.length ≤ 100000000) (h0 : t.isEmpty = false) :
    Calls Try.prog 18 #[.string ⟨s.toArray⟩, .string ⟨t.toArray⟩] w (RetI (fndB s t) w) := by
  have S1 := Lib.hid (bsize s)
  have S2 := Lib.hid (bsize t)
  have hp : 0 < t.length := by
    cases t with
    | nil => simp at h0
    | cons _ _ => simp
  have HF := Lib.hid (fndB_full (s := s) h0)
  obtain ⟨i0, hi, hz0, hz1, hz2⟩ := info_parts int_info
  go_enter Try.func18, Try.ntmps18
  go_wp2
  go_loopw [5, 6] (fun v x wr => ∃ (i : Nat) (acc : List Int), (i = 0 ∨ i + t.length ≤ s.length + 1) ∧ x = .int .i64 i ∧ Hid (fnd s t (i + t.length - 1) = acc) ∧ acc.length ≤ i ∧ wr.ownsRow w.heap.size 3 1 v acc.length (inCells acc) ∧ Below w.heap.size w wr) (fun _ x _ => s.length + 1 - (RowKit.intOf x).toNat)
  case atStart => exact ⟨0, [], .inl rfl, rfl, Lib.hid (fnd_short (by omega)), Nat.le_refl _, World.ownsRow_made w #[] 0 (Nat.le_refl _) (by unfold maxLen; omega) rfl, (Below.refl _ _).alloc (Nat.le_refl _) _⟩
  case round =>
    obtain ⟨i, acc, hi2, rfl, HW, hac, hown, hbe⟩ := hrel
    have hsz := hbe.size
    by_cases hlt : i + t.length ≤ s.length
    · have x1 := ext_cut s i (i + t.length)
      have g1 : (i : Int) + (t.length : Int) ≤ (s.length : Int) := by omega
      have g2 : ((i : Int) + (t.length : Int)).toNat = i + t.length := by omega
      have hnx : i + 1 + t.length - 1 = (i + t.length - 1) + 1 := by omega
      have hnx2 : i + t.length - 1 + 1 = i + t.length := by omega
      cases hq : ((s.take (i + t.length)).drop i == t) with
      | true =>
        have HR : Hid (fnd s t (i + 1 + t.length - 1) = acc ++ [(i : Int)]) := Lib.hid (by
          rw [hnx, fnd_hit (by rw [hnx2]; exact (stands_iff hlt).1 (by simpa using hq)), HW.out, hnx2, Nat.add_sub_cancel])
        clear HW HF
        go_wp2_with (at_builtin; refine wpList_append_own _ rfl _ _ 40 rfl w.heap.size 3 i0 (.int .i64 0) 1 8 Try.underlying40 hi hz0 hz1 hz2 rfl (by decide) _ _ _ rfl (hown.alloc _) ⟨wr.heap.size, 0, none⟩ 1 1 [.int .i64 (i : Int)] rfl rfl (int_news (heap_alloc_new wr _)) int_one (by unfold maxLen; omega) (by omega) (by simp; omega) ?_)
        intro v' w3 hown3 hgrow _
        have h3 : Below w.heap.size w w3 := (hbe.alloc (by omega) _).grown hgrow (by simp; omega) (fun k hk => (hown.lt k hk).1)
        clear hgrow
        go_wp2
        refine ⟨⟨i + 1, acc ++ [(i : Int)], by omega, by go_num, HR, by rw [List.length_append, List.length_singleton]; omega, ?_, h3⟩, by simp [RowKit.intOf]; omega⟩
        rw [inCells_snoc, List.length_append]
        exact hown3
      | false =>
        have HR : Hid (fnd s t (i + 1 + t.length - 1) = acc) := Lib.hid (by
          rw [hnx, fnd_miss (by
            rw [hnx2]
            intro hs
            have := (stands_iff hlt).2 hs
            rw [this] at hq
            simp at hq), HW.out])
        clear HW HF
        go_wp2
        exact ⟨⟨i + 1, acc, by omega, by go_num, HR, by omega, hown, hbe⟩, by simp [RowKit.intOf]; omega⟩
    · have HR : Hid (fndB s t = acc) := Lib.hid (by
        rw [HF.out, ← HW.out]
        rcases hi2 with h | h
        · subst h
          rw [fnd_short (by omega), fnd_short (by omega)]
        · congr 1; omega)
      have g1 : ¬ (i : Int) + (t.length : Int) ≤ (s.length : Int) := by omega
      have g2 : decide ((i : Int) + (t.length : Int) ≤ (s.length : Int)) = false := decide_eq_false g1
      have hlen : acc.length ≤ s.length := by
        rcases hi2 with h | h <;> omega
      have hib : i ≤ 100000000 := by
        rcases hi2 with h | h <;> omega
      obtain ⟨ao, cap', rfl, hR⟩ := RetI.of (w := w) HR.out hown (by unfold maxLen; omega) hbe
      have HV := Lib.hid hR
      clear hown HW HF hR
      go_wp2
      go_ret
      exact HV.out

theorem rfind_any (s t : List UInt8) (w : World) (hs : s.length ≤ 100000000) (ht : t.length ≤ 100000000) :
    Calls Try.prog 18 #[.string ⟨s.toArray⟩, .string ⟨t.toArray⟩] w (RetI (fndB s t) w) := by
  cases t with
  | nil => exact rfind_nil s w hs
  | cons c r => exact rfind_full s (c :: r) w hs ht rfl
end Go.Proofs.Ytcbaloacmbekkaa
