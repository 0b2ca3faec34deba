/-
  The law's awake of layer 25; the law CarryNone: walked.
-/
import Derived.Test.YtnjkblifikllbaaCaQ
import Derived.WalkSmall
set_option linter.unusedSimpArgs false
set_option linter.unusedVariables false
namespace Go.Proofs.Ytnjkblifikllbaa
open Go.RowKit

theorem ca_drewN {B : Nat} {w w' : World} (h : Below B w w') (q : Nat) : Below B w (w'.drewN q) := h.trans ⟨rfl, rfl, rfl, Nat.le_refl _, fun _ _ => rfl⟩
theorem caex_tail5 : cvR (tlR (tlK ([] ++ [97, 98, 99, 100, 101]) 4 2 5)) = .returned (.tuple #[.string ⟨#[100, 101]⟩, .bool true]) := by rfl
theorem caex_tail3 : cvR (tlR (tlK ([] ++ [97, 98, 99, 100, 101]) 4 2 3)) = .returned (.tuple #[.string ⟨#[]⟩, .bool false]) := by rfl
theorem caex_held : (((([] : List UInt8) ++ [97, 98, 99, 100, 101]).length - (4 - 2) : Nat) : Int) = 3 := by rfl

set_option maxHeartbeats 1000000 in
theorem caawake_any (w : World) :
    Calls Try.prog 5 #[] w fun e w' => e = .returned (.bool true) ∧ Below w.heap.size w w' := by
  have H1 := Lib.hid (canew_any 2 w (by omega) (by omega))
  have H2 := Lib.hid (fun (b : Nat) (w' : World) (h : IsCarry w' (b + 1) b 2 [] 0) => caadd_any h [97, 98, 99, 100, 101] (by simp))
  have H3 := Lib.hid (fun (b : Nat) (w' : World) (h : IsCarry w' (b + 1) b 2 ([] ++ [97, 98, 99, 100, 101]) 0) => capass_any h (by simp) 4 (by omega) (by simp))
  have H4 := Lib.hid (fun (b : Nat) (w' : World) (h : IsCarry w' (b + 1) b 2 ([] ++ [97, 98, 99, 100, 101]) 4) => by
    have h4 := fun k => catail_any (h.drewN k) (by simp) 5
    have h5 := fun k => catail_any (h.drewN k) (by simp) 3
    have h6 := fun k => caheld_any (h.drewN k) (by simp)
    have h7 := fun k => cadone_any (h.drewN k)
    rw [caex_tail5] at h4
    rw [caex_tail3] at h5
    rw [caex_held] at h6
    exact And.intro h4 (And.intro h5 (And.intro h6 h7)))
  go_enter Try.func5, Try.ntmps5
  go_wp2_with fail
  refine H1.out.mono ?_
  rintro e w1 ⟨rfl, hr, hsz, hb1⟩
  have HW := Lib.hid (H2.out _ w1 hr)
  obtain ⟨b, HB⟩ : ∃ b, Hid (w.heap.size = b) := ⟨_, Lib.hid rfl⟩
  rw [HB.out] at hb1 HW hsz ⊢
  clear hr H1 H2
  go_wp2_with fail
  refine HW.out.mono ?_
  rintro e w2 ⟨rfl, hr2, hb2⟩
  have HW2 := Lib.hid (H3.out _ w2 hr2)
  have hb := hb1.trans (hb2.below (by omega))
  clear hr2 hb1 hb2 HW H3
  go_wp2_with fail
  refine HW2.out.mono ?_
  rintro e w3 ⟨rfl, hr3, hb3⟩
  obtain ⟨h4, h5, h6, h7⟩ := H4.out _ w3 hr3
  have K4 := Lib.hid h4
  have K5 := Lib.hid h5
  have K6 := Lib.hid h6
  have K7 := Lib.hid h7
  have hbb : Below b w w3 := hb.trans (hb3.below (by have := hb.size; rw [HB.out] at this; exact this))
  clear h4 h5 h6 h7 H4 HW2 hr3 hb3 hb
  go_wp2_with fail
  refine (K4.out 0).mono ?_
  rintro e w' ⟨rfl, k, rfl⟩
  go_wp2_with fail
  refine (K5.out k).mono ?_
  rintro e w' ⟨rfl, k2, rfl⟩
  go_wp2_with fail
  refine (K6.out (k + k2)).mono ?_
  rintro e w' ⟨rfl, k3, rfl⟩
  go_wp2_with fail
  refine (K7.out (k + k2 + k3)).mono ?_
  rintro e w' ⟨rfl, hw⟩
  obtain rfl := hw.symm
  go_wp2
  go_ret
  refine ⟨rfl, ?_⟩
  rw [HB.out]
  exact ca_drewN hbb _
set_option maxHeartbeats 1000000 in
theorem carrynone_long (s : ByteArray) (e : Int) (w : World) (h : 50 < s.size) (hm : s.size ≤ 9223372036854775807) :
    Calls Try.prog 4 #[.string s, .int .i64 e] w fun e w' => e = .returned (.bool true) ∧ Below w.heap.size w w' := by
  go_enter Try.func4, Try.ntmps4
  go_wp2_with fail
  refine (caawake_any _).mono ?_
  rintro e w' ⟨rfl, hb⟩
  go_wp2
  go_ret
  exact ⟨rfl, hb⟩
set_option maxHeartbeats 1000000 in
theorem carrynone_short (s : ByteArray) (e : Int) (w : World) (h : s.size ≤ 50) :
    Calls Try.prog 4 #[.string s, .int .i64 e] w fun e w' => e = .returned (.bool true) ∧ Below w.heap.size w w' := by
  have H1 := Lib.hid (caadd_nil s w)
  have H2 := Lib.hid (capass_nil e w)
  have H3 := Lib.hid (catail_nil e w)
  have H4 := Lib.hid (cabyte_nil e w)
  have H5 := Lib.hid (caseen_nil w)
  have H6 := Lib.hid (cadone_nil w)
  have H7 := Lib.hid (caheld_nil w)
  have H8 := Lib.hid (caawake_any w)
  go_enter Try.func4, Try.ntmps4
  go_wp2_with fail
  refine H1.out.mono ?_
  rintro e' w' ⟨rfl, hw⟩
  obtain rfl := hw.symm
  go_wp2_with fail
  refine H2.out.mono ?_
  rintro e' w' ⟨rfl, hw⟩
  obtain rfl := hw.symm
  go_wp2_with fail
  refine H3.out.mono ?_
  rintro e' w' ⟨rfl, hw⟩
  obtain rfl := hw.symm
  go_wp2_with fail
  refine H4.out.mono ?_
  rintro e' w' ⟨rfl, hw⟩
  obtain rfl := hw.symm
  go_wp2_with fail
  refine H5.out.mono ?_
  rintro e' w' ⟨rfl, hw⟩
  obtain rfl := hw.symm
  go_wp2_with fail
  refine H6.out.mono ?_
  rintro e' w' ⟨rfl, hw⟩
  obtain rfl := hw.symm
  go_wp2_with fail
  refine H7.out.mono ?_
  rintro e' w' ⟨rfl, hw⟩
  obtain rfl := hw.symm
  go_wp2_with fail
  refine H8.out.mono ?_
  rintro e' w' ⟨rfl, hb⟩
  go_wp2
  go_ret
  exact ⟨rfl, hb⟩
end Go.Proofs.Ytnjkblifikllbaa
