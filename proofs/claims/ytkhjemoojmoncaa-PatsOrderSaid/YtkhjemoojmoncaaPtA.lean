/-
  The law's 'awake' of layer 10, walked.
-/
import Derived.Test.YtkhjemoojmoncaaPtN
set_option linter.unusedSimpArgs false
set_option linter.unusedVariables false
namespace Go.Proofs.Ytkhjemoojmoncaa
open Go.RowKit

theorem ptex_good : faultL [[98], [97, 98], [97]] = 0 := by decide +kernel
theorem ptex_srt : srt [[98], [97, 98], [97]] = [[97], [97, 98], [98]] := by
  rw [← ins_srt]; decide +kernel
theorem ptex_twice : faultL [[97], [98], [97]] = 8 := by decide +kernel
theorem ptex_empty : faultL [[97], []] = 7 := by decide +kernel
theorem ptex_num : numP [98] [[97], [97, 98], [98]] = 2 := by decide +kernel
theorem ptex_in : decide ([98] ∈ ([[97], [97, 98], [98]] : List (List UInt8))) = true := by decide +kernel

set_option maxHeartbeats 2000000 in
theorem ptawake_any (w : World) :
    Calls Try.prog 7 #[] w fun e w' => e = .returned (.bool true) ∧ Below w.heap.size w w' := by
  have hA := strs_heap (ws := [[98], [97, 98], [97]]) (heap_alloc_new w (.cells (txCells [[98], [97, 98], [97]]).toArray 9)) rfl
  have H1 := Lib.hid (ptnew_good (some ⟨w.heap.size, 0, none⟩) 3 3 _ _ (by omega) hA ptex_good)
  rw [ptex_srt] at H1
  have c1 : Below w.heap.size w (w.alloc (.cells (txCells [[98], [97, 98], [97]]).toArray 9)) := (Below.refl _ w).alloc (Nat.le_refl _) _
  have s1 := c1.size
  have HAt : Hid (∀ (b : Nat) (w2 : World), IsSet w2 b [[97], [97, 98], [98]] → Calls Try.prog 10 #[.pointer (some ⟨b, 0, none⟩), .int .i64 1] w2 fun e w' => e = .returned (.tuple #[.string ⟨#[97, 98]⟩, .bool true]) ∧ w' = w2) := Lib.hid (fun b w2 h => ptat_in h 1 [97, 98] rfl)
  have HFi : Hid (∀ (b : Nat) (w2 : World), IsSet w2 b [[97], [97, 98], [98]] → Calls Try.prog 11 #[.pointer (some ⟨b, 0, none⟩), .string ⟨#[98]⟩] w2 fun e w' => e = .returned (.tuple #[.int .i64 2, .bool true]) ∧ Below w2.heap.size w2 w') := Lib.hid (fun b w2 h => by
    have := ptfind_any h (by decide) (by rw [← ptex_srt]; exact srt_asc _) [98]
    rw [ptex_num, ptex_in] at this
    exact this)
  clear hA
  go_enter Try.func7, Try.ntmps7
  go_wp2_with fail
  refine H1.out.mono ?_
  rintro e w2 ⟨b, rfl, hbb, hs, hb2⟩
  have d2 := c1.trans (hb2.mono s1)
  have e2 := d2.size
  have A2 := Lib.hid (HAt.out b w2 hs)
  have F2 := Lib.hid (HFi.out b w2 hs)
  clear H1 hs hb2 c1 s1 HAt HFi
  go_wp2_with fail
  refine A2.out.mono ?_
  rintro e w3 ⟨rfl, rfl⟩
  go_wp2_with fail
  refine F2.out.mono ?_
  rintro e w3 ⟨rfl, hb3⟩
  have d3 := d2.trans (hb3.mono e2)
  have e3 := d3.size
  clear A2 F2 d2 hb3
  have hB := strs_heap (ws := [[97], [98], [97]]) (heap_alloc_new w3 (.cells (txCells [[97], [98], [97]]).toArray 9)) rfl
  have H4 := Lib.hid (ptnew_bad (some ⟨w3.heap.size, 0, none⟩) 3 3 _ _ (by omega) hB (by decide) (by rw [ptex_twice]; decide))
  rw [ptex_twice] at H4
  have d4 : Below w.heap.size w (w3.alloc (.cells (txCells [[97], [98], [97]]).toArray 9)) := d3.alloc e3 _
  have e4 := d4.size
  clear hB d3
  go_wp2_with fail
  refine H4.out.mono ?_
  rintro e w5 ⟨rfl, hb5⟩
  have d5 := d4.trans (hb5.mono e4)
  have e5 := d5.size
  clear H4 d4 hb5
  have hC := strs_heap (ws := [[97], []]) (heap_alloc_new w5 (.cells (txCells [[97], []]).toArray 9)) rfl
  have H6 := Lib.hid (ptnew_bad (some ⟨w5.heap.size, 0, none⟩) 2 2 _ _ (by omega) hC (by decide) (by rw [ptex_empty]; decide))
  rw [ptex_empty] at H6
  have d6 : Below w.heap.size w (w5.alloc (.cells (txCells [[97], []]).toArray 9)) := d5.alloc e5 _
  have e6 := d6.size
  clear hC d5
  go_wp2_with fail
  refine H6.out.mono ?_
  rintro e w7 ⟨rfl, hb7⟩
  have d7 := d6.trans (hb7.mono e6)
  clear H6 d6 hb7
  go_wp2
  go_ret
  exact ⟨rfl, d7⟩
end Go.Proofs.Ytkhjemoojmoncaa
