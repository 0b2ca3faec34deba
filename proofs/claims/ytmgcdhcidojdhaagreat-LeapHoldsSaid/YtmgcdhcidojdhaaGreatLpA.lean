/-
  The law's 'awake' of layer 26.
-/
import Derived.Test.YtmgcdhcidojdhaaGreatBn15
import Derived.Test.YtmgcdhcidojdhaaGreatBn16
import Derived.Test.YtmgcdhcidojdhaaGreatLpR
import Derived.Test.YtmgcdhcidojdhaaGreatLpS
import Derived.Test.YtmgcdhcidojdhaaGreatBn2
import Derived.WalkSmall
set_option linter.unusedSimpArgs false
set_option linter.unusedVariables false
namespace Go.Proofs.YtmgcdhcidojdhaaGreat
open Go.RowKit

theorem lpex_1 : ofR [[97, 98, 99], [98, 99]] [120, 97, 98, 99, 120] 1 true = ⟨1, 2, 1, []⟩ := EvR.eq (by decide +kernel) (by decide +kernel) (by decide +kernel) (by decide +kernel)
theorem lpex_3 : ofR [[97, 98, 99], [98, 99]] [120, 97, 98, 99, 120] 3 true = ⟨1, 1, 1, []⟩ := EvR.eq (by decide +kernel) (by decide +kernel) (by decide +kernel) (by decide +kernel)
theorem lpex_4 : ofR [[97, 98, 99], [98, 99]] [120, 97, 98, 99, 120] 4 true = ⟨4, 0, 0, [0, 1]⟩ := EvR.eq (by decide +kernel) (by decide +kernel) (by decide +kernel) (by decide +kernel)
theorem lpex_5 : ofR [[97, 98, 99], [98, 99]] [120, 97, 98, 99, 120] 5 true = ⟨1, 2, 1, []⟩ := EvR.eq (by decide +kernel) (by decide +kernel) (by decide +kernel) (by decide +kernel)
theorem lpex_goes : Goes [[97, 98, 99], [98, 99]] [120, 97, 98, 99, 120] true 0 [⟨1, 2, 1, []⟩, ⟨1, 1, 1, []⟩, ⟨4, 0, 0, [0, 1]⟩] 4 :=
  ⟨by decide, lpex_1.symm, by decide, by decide, lpex_3.symm, by decide, by decide, lpex_4.symm, by decide, rfl⟩
theorem lpex_rest : Rest [[97, 98, 99], [98, 99]] [120, 97, 98, 99, 120] true 4 := .inr (by rw [lpex_5]; decide)
theorem lpex_fin : finR [[97, 98, 99], [98, 99]] [120, 97, 98, 99, 120] true 4 = ⟨1, 1, 1, []⟩ := by
  unfold finR lastR
  rw [lpex_5]
  rfl
theorem lpex_most : max (mostL [[97, 98, 99], [98, 99]]) 2 = 3 := by decide

/-- Behind a call that writes but the carry's block: what was there ahead of the carry is. -/
theorem But.past {w0 w w' : World} {b : Nat} (h : But w.heap.size b w w') (hw : Below w0.heap.size w0 w) (hb : w0.heap.size ≤ b) (hbw : b ≤ w.heap.size) : Below w0.heap.size w0 w' := hw.trans ((h.below hbw).mono hb)

set_option maxRecDepth 100000 in
set_option maxHeartbeats 4000000 in
theorem lpawake_any (w : World) :
    Calls Tryz.prog 6 #[] w fun e w' => e = .returned (.bool true) ∧ Below w.heap.size w w' := by
  have hA := strs_heap (ws := [[97, 98, 99], [98, 99]]) (heap_alloc_new w (.cells (txCells [[97, 98, 99], [98, 99]]).toArray 9)) rfl
  have H1 := Lib.hid (ptnew_all (some ⟨w.heap.size, 0, none⟩) 2 2 _ _ (by omega) hA (by decide))
  rw [pbex_set, pbex_fault] at H1
  have c1 : Below w.heap.size w (w.alloc (.cells (txCells [[97, 98, 99], [98, 99]]).toArray 9)) := (Below.refl _ w).alloc (Nat.le_refl _) _
  have s1 := c1.size
  have HU : Hid (∀ t ∈ ([[97, 98, 99], [98, 99]] : List (List UInt8)), 0 < t.length ∧ t.length ≤ 1000000) := Lib.hid (by decide)
  clear hA
  go_enter Tryz.func6, Tryz.ntmps6
  go_wp2_with fail
  refine H1.out.mono ?_
  rintro e w2 ⟨p, rfl, hs, hb2⟩
  have d2 := c1.trans (hb2.mono s1)
  have e2 := d2.size
  obtain ⟨y, rfl, hys, hyp⟩ : ∃ y, p = some ⟨y, 0, none⟩ ∧ IsSet w2 y [[97, 98, 99], [98, 99]] ∧ Pats [[97, 98, 99], [98, 99]] := by
    rcases hs with ⟨_, h⟩ | ⟨y, h1, h2, h3⟩
    · cases h
    · exact ⟨y, h1, h2, h3⟩
  have N2 := Lib.hid (lpnew_any hys hyp true)
  clear H1 hs hb2 c1 s1 hys hyp
  go_wp2_with fail
  refine N2.out.mono ?_
  rintro e w3 ⟨bl, rfl, hL, hb3⟩
  have d3 := d2.trans (hb3.mono e2)
  have HL := Lib.hid hL
  have HD3 := Lib.hid d3
  have C3 := Lib.hid (canew_any 3 w3 (by omega) (by omega))
  clear N2 hL hb3 d2 e2 d3
  go_wp2_with fail
  refine C3.out.mono ?_
  rintro e w4 ⟨rfl, hc4, hs4, hb4⟩
  obtain ⟨b, hb⟩ : ∃ b, w3.heap.size = b := ⟨_, rfl⟩
  rw [hb] at hc4 hs4 hb4 ⊢
  have HB := Lib.hid hb
  have A4 := Lib.hid (caadd_any hc4 [120, 97, 98, 99, 120] (by simp))
  have HB4 := Lib.hid hb4
  have HS4 := Lib.hid hs4
  clear C3 hc4 hs4 hb4 hb
  go_wp2_with fail
  refine A4.out.mono ?_
  rintro e w5 ⟨rfl, hc5, hb5⟩
  rw [List.nil_append] at hc5
  have HB5 : Hid (Below w3.heap.size w3 w5) := Lib.hid (by
    have h := HB4.out
    have h5 := hb5.below (show b ≤ b + 1 by omega)
    rw [HB.out]
    exact h.trans h5)
  have R5 := Lib.hid (lprun_any HL.out HB5.out (by have := HB.out; omega) hc5 (by rw [lpex_most]; exact Nat.le_refl _) (by decide) HU.out (by decide) 0 (by omega) (by decide))
  clear A4 hc5 hb5 HB4
  go_wp2_with fail
  refine R5.out.mono ?_
  rintro e w6 ⟨v, rs, c, d, rfl, hown, _, hg, hr, _, _, hd, hc6, hb6⟩
  obtain ⟨hrs, rfl⟩ := hg.same hr lpex_goes lpex_rest
  have hrl : rs.length = 3 := by rw [← evs_length, hrs]; rfl
  rw [hrl] at hown
  obtain ⟨ao, cap, rfl⟩ := owns_form4 hown
  have hlt5 : b ≤ w5.heap.size := by have := HB5.out.size; rw [HB.out] at this; exact this
  have HB6 : Hid (Below w3.heap.size w3 w6) := Lib.hid (hb6.past HB5.out (by have := HB.out; omega) hlt5)
  have L6 := Lib.hid (lplast_any (HL.out.below HB6.out) hc6 (by rw [lpex_most]; exact Nat.le_refl _) (by decide) HU.out (by decide) 4 (by omega) (by decide))
  rw [lpex_fin] at L6
  clear R5 hown hg hr hd hc6 hb6 hrs HB5 hlt5 hrl
  go_wp2_with fail
  refine L6.out.mono ?_
  rintro e w7 ⟨⟨R, aa, cc⟩, rfl, hR, hid, hb7⟩
  dsimp only at hR
  subst hR
  dsimp only [Rc.val, Rc.sl, List.length_nil]
  have hone : ((1 : Nat) : Int) = 1 := rfl
  rw [hone]
  have HB7 := Lib.hid (HB6.out.trans (hb7.mono HB6.out.size))
  have hX := heap_alloc_new w7 (.cells #[.int .i64 1, .int .i64 1, .int .i64 1, .slice aa 0 cc] 45)
  have hB8 := (Below.refl w7.heap.size w7).alloc (Nat.le_refl _) (.cells #[.int .i64 1, .int .i64 1, .int .i64 1, .slice aa 0 cc] 45)
  obtain ⟨w8, hw8⟩ : ∃ w8, w7.alloc (.cells #[.int .i64 1, .int .i64 1, .int .i64 1, .slice aa 0 cc] 45) = w8 := ⟨_, rfl⟩
  rw [hw8] at hX hB8
  obtain ⟨k0, k1, k2, k3⟩ := rec_reads hX
  have HB8 := Lib.hid (HB7.out.trans (hB8.mono HB7.out.size))
  have S8 := Lib.hid (rsame_any ⟨1, 1, 1, []⟩ aa none cc 0 w8 (by decide) (.inl rfl) (.inl rfl))
  dsimp only [List.length_nil] at S8
  clear L6 hid hb7 hX hB8 HB6 HB7
  go_wp2_with fail
  try rw [hw8]
  refine S8.out.mono ?_
  rintro e w9 ⟨rfl, hb9⟩
  have HB9 := Lib.hid (HB8.out.trans (hb9.mono HB8.out.size))
  have K9 := Lib.hid (lpkeep_any (HL.out.below HB9.out))
  rw [lpex_most] at K9
  clear S8 hb9
  go_wp2_with fail
  refine K9.out.mono ?_
  rintro e w' ⟨rfl, hw⟩
  obtain rfl := hw.symm
  clear hw
  go_wp2
  go_ret
  exact ⟨rfl, HD3.out.trans (HB9.out.mono HD3.out.size)⟩
end Go.Proofs.YtmgcdhcidojdhaaGreat
