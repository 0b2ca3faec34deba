/-
  The law's 'awake' of layer 29: chapter 29's example, walked: true.
-/
import Derived.Test.YtgkpeehondmalaaHdP
import Derived.Test.YtgkpeehondmalaaHdN
set_option linter.unusedSimpArgs false
set_option linter.unusedVariables false
namespace Go.Proofs.Ytgkpeehondmalaa
open Go.RowKit

theorem hd_ex : hcB [97, 98] = [99, 101, 114, 116, 1, 1, 2, 97, 98] := by decide +kernel
theorem hd_put (w : World) : Calls Try.prog 6 #[.string ⟨#[97, 98]⟩] w fun e w' => e = .returned (.tuple #[.string ⟨#[99, 101, 114, 116, 1, 1, 2, 97, 98]⟩, .int .i64 0]) ∧ Below w.heap.size w w' := by
  have h : Calls Try.prog 6 #[.string ⟨#[97, 98]⟩] w fun e w' => e = .returned (.tuple #[.string ⟨(hcP [97, 98]).toArray⟩, .int .i64 (hcE [97, 98])]) ∧ Below w.heap.size w w' := hdput_any [97, 98] w (by decide)
  rw [hcP_ok _ (hcE_ok [97, 98] (by decide)), hd_ex, hcE_ok [97, 98] (by decide)] at h
  exact h
theorem hd_new (w : World) : Calls Try.prog 10 #[.string ⟨#[97, 98]⟩] w fun e w' => ∃ b, e = .returned (.tuple #[.pointer (some ⟨b, 0, none⟩), .int .i64 0]) ∧ w.heap.size ≤ b ∧ IsMt w' b [99, 101, 114, 116, 1, 1, 2, 97, 98] 0 false ∧ Below w.heap.size w w' := by
  have h := hdnew_any [97, 98] w (hcE_ok [97, 98] (by decide)) (by decide)
  rw [hd_ex] at h
  exact h
theorem hd_feed {w : World} {b : Nat} (h : IsMt w b [99, 101, 114, 116, 1, 1, 2, 97, 98] 0 false) : Calls Try.prog 11 #[.pointer (some ⟨b, 0, none⟩), .string ⟨#[99, 101, 114, 116, 1, 1, 2, 97, 98, 120, 121, 122]⟩] w fun e w' => e = .returned (.tuple #[.int .i64 9, .int .i64 0]) ∧ IsMt w' b [99, 101, 114, 116, 1, 1, 2, 97, 98] 9 false ∧ Into b w w' :=
  hdfeed_any h (by decide) (by decide) [99, 101, 114, 116, 1, 1, 2, 97, 98, 120, 121, 122] (by decide)

set_option maxHeartbeats 1000000 in
theorem hdawake_any (w : World) :
    Calls Try.prog 5 #[] w fun e w' => e = .returned (.bool true) ∧ Below w.heap.size w w' := by
  go_enter Try.func5, Try.ntmps5
  go_wp2_with fail
  refine (hd_put _).mono ?_
  rintro e w1 ⟨rfl, hb1⟩
  go_wp2_with fail
  refine (hd_new _).mono ?_
  rintro e w2 ⟨b, rfl, hb, hm, hb2⟩
  have HB2 := Lib.hid (hb1.trans (hb2.mono hb1.size))
  have hbl := Lib.hid (Nat.le_trans hb1.size hb)
  have HF := Lib.hid (hd_feed hm)
  clear hb hb1 hb2 hm
  go_wp2_with fail
  refine HF.out.mono ?_
  rintro e w3 ⟨rfl, hm, hi⟩
  have HB3 := Lib.hid (HB2.out.trans ((hi.belowTo hbl.out)))
  have HD : Hid (Calls Try.prog 12 #[.pointer (some ⟨b, 0, none⟩)] w3 (Drew (.bool true) w3)) := Lib.hid (hddone_draws hm (by decide) (by decide))
  clear hi hm HF hbl HB2
  go_wp2_with fail
  refine HD.out.mono ?_
  rintro e w4 ⟨rfl, k, rfl⟩
  have HB4 := Lib.hid (HB3.out.trans (below_drewS (Below.refl w3.heap.size w3) k |>.mono HB3.out.size))
  go_wp2
  go_ret
  exact ⟨rfl, HB4.out⟩
end Go.Proofs.Ytgkpeehondmalaa
