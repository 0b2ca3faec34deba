/-
  digit.Text: the walk: the text of a number is its decimal numeral.
-/
import Derived.Test.YtgoidhlemmdjgaaDoorDigM
import Derived.Test.YtgoidhlemmdjgaaDoorRows
import Derived.WalkKit
import Derived.WalkSpells
import Derived.WalkLawsBesides
import Derived.Lib.Hide
import Derived.Lib.ItoaMem
set_option linter.unusedSimpArgs false
set_option linter.unusedVariables false
namespace Go.Proofs.YtgoidhlemmdjgaaDoor
open Go.RowKit Go.Lib

theorem wrap_u64 (n : Int) : IntKind.u64.wrap n = n % 18446744073709551616 := by simp [IntKind.wrap, IntKind.bits, IntKind.signed]

theorem abs_wrap (n : Int) (h1 : -9223372036854775808 ≤ n) (h : n < 0) : IntKind.u64.wrap (-IntKind.u64.wrap n) = (n.natAbs : Int) := by
  rw [wrap_u64, wrap_u64]; omega

set_option maxHeartbeats 400000 in
theorem distance_any (n : Int) (w : World) (h1 : -9223372036854775808 ≤ n) (h2 : n ≤ 9223372036854775807) :
    Calls Tryd.prog 17 #[.int .i64 n] w fun e w' => e = .returned (.int .u64 (n.natAbs : Int)) ∧ w = w' := by
  by_cases h : n < 0
  · have ha := Lib.hid (abs_wrap n h1 h)
    go_enter Tryd.func17, Tryd.ntmps17
    go_wp2
    go_ret
    exact ⟨congrArg (fun x => Ending.returned (.int .u64 x)) ha.out, rfl⟩
  · go_enter Tryd.func17, Tryd.ntmps17
    go_wp2
    go_ret
    exact ⟨by simp; omega, rfl⟩

theorem underlying_digits : Tryd.prog.underlying 40 = some (.array (Tryd.prog.arrayLen 40) (Tryd.prog.elem 40)) := by kernel_rfl
theorem arrayLen_digits : Tryd.prog.arrayLen 40 = 20 := by kernel_rfl
theorem sizeOf_digit (w : World) : (sizeOf (Tryd.prog.elem 40)).run Tryd.prog w = .ok 1 w := by kernel_rfl

theorem slice_digits (b k : Nat) (hk : k < 20) (w : World) :
    (Instr.sliceAt 40 (.pointer (some ⟨b, 0, none⟩)) (some (.int .i64 (k : Int))) none none).run Tryd.prog w = .ok (.slice (some ⟨b, k, none⟩) (20 - k) (20 - k)) w := by
  rw [run_sliceAt_array_l w 40 ⟨b, 0, none⟩ underlying_digits .i64 k (by omega) (by rw [arrayLen_digits]; omega), sizeOf_digit, arrayLen_digits]
  simp only [Result.andThen, slicedAt, Int.toNat_natCast]
  rw [if_neg (by omega), Lib.add_plain, Nat.mul_one, Nat.zero_add]

/-- 'string(digits[k:])' of an array that ends in the digits l. -/
theorem back_digits (w : World) (k m c : Nat) (l : List UInt8) (hl : m = l.length) :
    (convert 43 9 (.slice (some ⟨w.heap.size, k, none⟩) m c)).run Tryd.prog (w.alloc (.cells (arr k l) 40)) = .ok (.string ⟨l.toArray⟩) (w.alloc (.cells (arr k l) 40)) := by
  subst hl
  refine run_convert_bytes_back _ 43 9 5 _ _ l Tryd.underlying43 Tryd.underlying5 Tryd.underlying9 (fun j hj => ?_)
  rw [show (⟨w.heap.size, k, none⟩ : Addr).add j = ⟨w.heap.size, k + j, none⟩ from add_plain _ _ _, World.cell?_alloc_new, arr_digit k l j hj]

set_option maxHeartbeats 400000 in
theorem text_any (n : Int) (w : World) (h1 : -9223372036854775808 ≤ n) (h2 : n ≤ 9223372036854775807) :
    Calls Tryd.prog 11 #[.int .i64 n] w fun e w' => e = .returned (.string ⟨(itoa n).toArray⟩) ∧ Below w.heap.size w w' := by
  go_enter Tryd.func11, Tryd.ntmps11
  go_wp2_with (go_at_call 17; refine (distance_any _ _ (by omega) (by omega)).mono ?_; rintro e w' ⟨rfl, rfl⟩)
  go_loopw [4, 5] (fun a r wr => ∃ (k q : Nat) (ds : List UInt8), 1 ≤ k ∧ a = .int .i64 k ∧ r = .int .u64 q ∧ q < 10 ^ k ∧ k + ds.length = 19 ∧ decDigits n.natAbs = decDigits q ++ ds ∧ wr = w.alloc (.cells (arr (k + 1) ds) 40)) (fun a _ _ => (intOf a).toNat)
  case atStart => exact ⟨19, n.natAbs, [], by omega, rfl, rfl, by omega, rfl, by simp, rfl⟩
  case round =>
    obtain ⟨k, q, ds, hk1, rfl, rfl, hq, hl, hd, rfl⟩ := hrel
    have hk19 : k ≤ 19 := by omega
    have hqb : q ≤ 9999999999999999999 := by
      have := Nat.pow_le_pow_right (n := 10) (by decide) hk19
      omega
    obtain ⟨j, rfl⟩ : ∃ j, k = j + 1 := ⟨k - 1, by omega⟩
    have ha := arr_at (j + 1) ds
    by_cases h9 : 9 < q
    · obtain ⟨hk2, hq2⟩ := pow_step h9 hq hk1
      have hd' : decDigits n.natAbs = decDigits (q / 10) ++ (UInt8.ofNat (48 + q % 10) :: ds) := by rw [hd, decDigits_step h9]
      have hs := arr_set (j + 1) ds (UInt8.ofNat (48 + q % 10))
      have hv : ((UInt8.ofNat (48 + q % 10)).toNat : Int) = 48 + (q : Int) % 10 := by simp; omega
      rw [hv] at hs
      have HD := Lib.hid hd'
      have HS := Lib.hid hs
      clear hd hd' hs hv
      go_wp2
      refine ⟨⟨j, q / 10, UInt8.ofNat (48 + q % 10) :: ds, by omega, rfl, by simp, hq2, by simp; omega, HD.out, by rw [HS.out]⟩, ?_⟩
      simp [intOf]
    · have hd' : decDigits n.natAbs = UInt8.ofNat (48 + q) :: ds := by rw [hd, decDigits_end h9]
      have hv : ((UInt8.ofNat (48 + q)).toNat : Int) = 48 + (q : Int) := by simp; omega
      generalize UInt8.ofNat (48 + q) = c at hd' hv
      have hs := arr_set (j + 1) ds c
      rw [hv] at hs
      have HD := Lib.hid hd'
      clear hd hd' hv
      have ha' := arr_at j (c :: ds)
      have hs' : (arr (j + 1) (c :: ds)).setIfInBounds j (.int .u8 45) = arr j (45 :: c :: ds) := arr_set j (c :: ds) 45
      by_cases hn : n < 0
      · have hf : itoa n = 45 :: c :: ds := by unfold itoa; rw [if_pos hn, HD.out]
        have HF := Lib.hid hf
        clear hf
        go_wp2
        rw [slice_digits _ j (by omega)]
        simp only [Result.andThen]
        rw [Oper.upon_value]
        go_wp2
        rw [back_digits w j (20 - j) (20 - j) (45 :: c :: ds) (by simp; omega)]
        simp only [Result.andThen]
        rw [Oper.upon_value]
        go_wp2
        go_ret
        exact ⟨by rw [HF.out]; rfl, (Below.refl _ _).alloc (Nat.le_refl _) _⟩
      · have hf : itoa n = c :: ds := by unfold itoa; rw [if_neg hn, show n.toNat = n.natAbs by omega, HD.out]
        have HF := Lib.hid hf
        clear hf
        go_wp2
        rw [show ((j : Int) + 1) = ((j + 1 : Nat) : Int) from by omega, slice_digits _ (j + 1) (by omega)]
        simp only [Result.andThen]
        rw [Oper.upon_value]
        go_wp2
        rw [back_digits w (j + 1) (19 - j) (19 - j) (c :: ds) (by simp; omega)]
        simp only [Result.andThen]
        rw [Oper.upon_value]
        go_wp2
        go_ret
        exact ⟨by rw [HF.out]; rfl, (Below.refl _ _).alloc (Nat.le_refl _) _⟩
end Go.Proofs.YtgoidhlemmdjgaaDoor
