/-
  The law's 'awake' of layer 11, walked.
-/
import Derived.Test.YtoeakmpfkbmbcaaBkG
import Derived.Test.YtoeakmpfkbmbcaaPtN
set_option linter.unusedSimpArgs false
set_option linter.unusedVariables false
namespace Go.Proofs.Ytoeakmpfkbmbcaa
open Go.RowKit

theorem bkex_good : faultL [[97, 98], [97]] = 0 := by decide +kernel
theorem bkex_srt : srt [[97, 98], [97]] = [[97], [97, 98]] := by
  rw [← ins_srt]; decide +kernel
theorem bkex_book : bookB [[97], [97, 98]] = [106, 117, 114, 97, 116, 1, 2, 0, 1, 97, 1, 1, 98] := by
  have e0 : preL [] [97] = 0 := by decide
  have e1 : preL [97] [97, 98] = 1 := by decide
  unfold bookB
  simp only [restB, entB, e0, e1]
  rw [if_neg (by decide)]
  rw [show ((([[97], [97, 98]] : List (List UInt8)).length : Nat) : Int) = 2 from rfl, vput_small 2 (by decide) (by decide), show ((0 : Nat) : Int) = 0 from rfl, vput_small 0 (by decide) (by decide), show ((([97] : List UInt8).length - 0 : Nat) : Int) = 1 from rfl, show ((1 : Nat) : Int) = 1 from rfl, show ((([97, 98] : List UInt8).length - 1 : Nat) : Int) = 1 from rfl, vput_small 1 (by decide) (by decide)]
  decide

set_option maxHeartbeats 2000000 in
theorem bkawake_any (w : World) :
    Calls Try.prog 7 #[] w fun e w' => e = .returned (.bool true) ∧ Below w.heap.size w w' := by
  have hA := strs_heap (ws := [[97, 98], [97]]) (heap_alloc_new w (.cells (txCells [[97, 98], [97]]).toArray 9)) rfl
  have H1 := Lib.hid (ptnew_good (some ⟨w.heap.size, 0, none⟩) 2 2 _ _ (by omega) hA bkex_good)
  rw [bkex_srt] at H1
  have c1 : Below w.heap.size w (w.alloc (.cells (txCells [[97, 98], [97]]).toArray 9)) := (Below.refl _ w).alloc (Nat.le_refl _) _
  have s1 := c1.size
  have hP : Pats [[97], [97, 98]] := by rw [← bkex_srt]; exact ((fault_zero _).1 bkex_good).srt
  have HPu : Hid (∀ (b : Nat) (w2 : World), IsSet w2 b [[97], [97, 98]] → Calls Try.prog 10 #[.pointer (some ⟨b, 0, none⟩)] w2 fun e w' => e = .returned (.string ⟨#[106, 117, 114, 97, 116, 1, 2, 0, 1, 97, 1, 1, 98]⟩) ∧ Below w2.heap.size w2 w') := Lib.hid (fun b w2 h => by
    have := bkput_any h hP
    rw [bkex_book] at this
    exact this)
  clear hA hP
  go_enter Try.func7, Try.ntmps7
  go_wp2_with fail
  refine H1.out.mono ?_
  rintro e w2 ⟨b, rfl, hbb, hs, hb2⟩
  have d2 := c1.trans (hb2.mono s1)
  have e2 := d2.size
  have P2 := Lib.hid (HPu.out b w2 hs)
  clear H1 hs hb2 c1 s1 HPu
  go_wp2_with fail
  refine P2.out.mono ?_
  rintro e w3 ⟨rfl, hb3⟩
  have d3 := d2.trans (hb3.mono e2)
  clear P2 d2 hb3
  go_wp2_with fail
  refine (bkput_nil _).mono ?_
  rintro e w4 ⟨rfl, rfl⟩
  go_wp2
  go_ret
  exact ⟨rfl, d3⟩
end Go.Proofs.Ytoeakmpfkbmbcaa
