/-
  A nil ring; the law RingNone, walked.
-/
import Derived.Test.YtbdpdfdcenidkaaRgA
set_option linter.unusedSimpArgs false
set_option linter.unusedVariables false
namespace Go.Proofs.Ytbdpdfdcenidkaa
open Go.RowKit

set_option maxHeartbeats 1000000 in
theorem tail_nil (n : Int) (w : World) :
    Calls Try.prog 14 #[.pointer none, .int .i64 n] w fun e w' => e = .returned (.string ⟨#[]⟩) ∧ ∃ k, w' = w.drewN k := by
  have HQ : Hid (min (max n 0) 0 = 0) := Lib.hid (by omega)
  have HA := Lib.hid (last_zero (.pointer none) [] w)
  go_enter Try.func14, Try.ntmps14
  go_wp2_with fail
  refine (rglen_nil w).mono ?_
  rintro e w' ⟨rfl, rfl⟩
  go_wp2_with fail
  rw [HQ.out]
  refine HA.out.mono ?_
  rintro e w' ⟨u, v, A, B, rfl, hAB, ⟨a1, cap1, rfl, hA⟩, ⟨a2, cap2, rfl, hB⟩, k, rfl⟩
  rw [lastL_zero] at hAB
  obtain ⟨rfl, rfl⟩ := List.append_eq_nil_iff.1 hAB
  have cA : (convert 40 9 (.slice a1 0 cap1)).run Try.prog (w.drewN k) = .ok (.string ⟨#[]⟩) (w.drewN k) := hA _ rfl
  have cB : (convert 40 9 (.slice a2 0 cap2)).run Try.prog (w.drewN k) = .ok (.string ⟨#[]⟩) (w.drewN k) := hB _ rfl
  clear hA hB hAB
  go_wp2
  go_ret
  exact ⟨by simp; decide, k, rfl⟩

set_option maxHeartbeats 1000000 in
theorem ends_nil (t : List UInt8) (w : World) (ht : t.length ≤ 1000000000) :
    Calls Try.prog 13 #[.pointer none, .string ⟨t.toArray⟩] w fun e w' => e = .returned (.bool t.isEmpty) ∧ ∃ k, w' = w.drewN k := by
  have HS := Lib.hid (bsize t)
  cases t with
  | cons c r =>
    go_enter Try.func13, Try.ntmps13
    go_wp2_with fail
    refine (rglen_nil w).mono ?_
    rintro e w' ⟨rfl, rfl⟩
    go_wp2
    go_ret
    exact ⟨by simp, 0, rfl⟩
  | nil =>
    have HA := Lib.hid (last_zero (.pointer none) [] w)
    go_enter Try.func13, Try.ntmps13
    go_wp2_with fail
    refine (rglen_nil w).mono ?_
    rintro e w' ⟨rfl, rfl⟩
    go_wp2_with fail
    refine HA.out.mono ?_
    rintro e w' ⟨u, v, A, B, rfl, hAB, ⟨a1, cap1, rfl, hA⟩, ⟨a2, cap2, rfl, hB⟩, k, rfl⟩
    rw [lastL_zero] at hAB
    obtain ⟨rfl, rfl⟩ := List.append_eq_nil_iff.1 hAB
    obtain ⟨w1, HW⟩ : ∃ w1, Hid (w.drewN k = w1) := ⟨_, Lib.hid rfl⟩
    have cA : ∀ q, (convert 40 9 (.slice a1 0 cap1)).run Try.prog ((w.drewN k).drewN q) = .ok (.string ⟨#[]⟩) ((w.drewN k).drewN q) := fun q => hA _ rfl
    have cB : ∀ q, (convert 40 9 (.slice a2 0 cap2)).run Try.prog ((w.drewN k).drewN q) = .ok (.string ⟨#[]⟩) ((w.drewN k).drewN q) := fun q => hB _ rfl
    rw [HW.out] at cA cB ⊢
    have x1 : (⟨#[]⟩ : ByteArray).extract 0 0 = ⟨#[]⟩ := by decide
    clear hA hB hAB HA
    go_wp2_with fail
    go_quiet (fail)
    go_wp2
    go_ret
    exact ⟨by simp, k + nq, by rw [← HW.out, World.drewN_drewN]⟩

set_option maxHeartbeats 1000000 in
theorem none_long (s : ByteArray) (d n : Int) (w : World) (h : 500 < s.size) (hm : s.size ≤ 9223372036854775807) :
    Calls Try.prog 5 #[.string s, .int .i64 d, .int .i64 n] w fun e w' => e = .returned (.bool true) ∧ Below w.heap.size w w' := by
  go_enter Try.func5, Try.ntmps5
  go_wp2_with fail
  refine (rgawake_any _).mono ?_
  rintro e w' ⟨rfl, hb⟩
  go_wp2
  go_ret
  exact ⟨rfl, hb⟩

set_option maxHeartbeats 1000000 in
theorem none_short (s : List UInt8) (d n : Int) (w : World) (h : s.length ≤ 500) :
    Calls Try.prog 5 #[.string ⟨s.toArray⟩, .int .i64 d, .int .i64 n] w fun e w' => e = .returned (.bool true) ∧ Below w.heap.size w w' := by
  have HS := Lib.hid (bsize s)
  have HE := Lib.hid (fun w => ends_nil s w (by omega))
  go_enter Try.func5, Try.ntmps5
  go_wp2_with fail
  refine (write_nil _ w (by rw [bsize]; omega)).mono ?_
  rintro e w' ⟨rfl, rfl⟩
  go_wp2_with fail
  refine (push_nil _ w).mono ?_
  rintro e w' ⟨rfl, rfl⟩
  go_wp2_with fail
  refine (rgat_nil _ w).mono ?_
  rintro e w' ⟨rfl, rfl⟩
  go_wp2_with fail
  refine (rglen_nil w).mono ?_
  rintro e w' ⟨rfl, rfl⟩
  go_wp2_with fail
  refine (rgseen_nil w).mono ?_
  rintro e w' ⟨rfl, rfl⟩
  go_wp2_with fail
  refine (tail_nil _ w).mono ?_
  rintro e w' ⟨rfl, k, rfl⟩
  go_wp2_with fail
  refine (HE.out (w.drewN k)).mono ?_
  rintro e w' ⟨rfl, k2, rfl⟩
  have hbe := below_drewN (below_drewN (Below.refl w.heap.size w) k) k2
  have hsz := hbe.size
  generalize (w.drewN k).drewN k2 = w1 at hbe hsz ⊢
  go_wp2_with fail
  refine (rgawake_any w1).mono ?_
  rintro e w' ⟨rfl, hb⟩
  go_wp2
  go_ret
  exact ⟨rfl, hbe.trans (hb.mono hsz)⟩
end Go.Proofs.Ytbdpdfdcenidkaa
