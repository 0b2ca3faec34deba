/-
  escape.take, walked.
-/
import Derived.Test.YtoedbolmajcgpaaEsP
import Derived.Deep.QuietTactic
import Derived.BigQuiet
set_option linter.unusedSimpArgs false
set_option linter.unusedVariables false
namespace Go.Proofs.Ytoedbolmajcgpaa
open Go.RowKit

theorem estk_plain (a : UInt8) (r : List UInt8) (h : pln a = true) : tak (a :: r) = (a, 1) := by simp [tak, h]
theorem estk_other (a : UInt8) (r : List UInt8) (h : pln a = false) (h2 : a.toNat ≠ 92) : tak (a :: r) = (0, 0) := by simp [tak, h, h2]
theorem pln_92 : pln 92 = false := by decide
theorem estk_alone : tak [92] = (0, 0) := by decide
theorem estk_back (r : List UInt8) : tak (92 :: 92 :: r) = (92, 2) := by simp [tak, pln_92]
theorem estk_no_x (b : UInt8) (r : List UInt8) (h : b.toNat ≠ 92) (h2 : b.toNat ≠ 120) : tak (92 :: b :: r) = (0, 0) := by simp [tak, pln_92, h, h2]
theorem estk_short (r : List UInt8) (h : r.length < 2) : tak (92 :: 120 :: r) = (0, 0) := by
  match r, h with
  | [], _ => decide
  | [x], _ => simp [tak, pln_92]
theorem estk_no_hex (x y : UInt8) (r : List UInt8) (h : hv x < 0 ∨ hv y < 0) : tak (92 :: 120 :: x :: y :: r) = (0, 0) := by simp [tak, pln_92, h]
theorem estk_hex (x y : UInt8) (r : List UInt8) (h : ¬ (hv x < 0 ∨ hv y < 0)) (c : UInt8) (hc : (c.toNat : Int) = hv x * 16 + hv y) :
    tak (92 :: 120 :: x :: y :: r) = if pln c = true ∨ c.toNat = 92 then (0, 0) else (c, 4) := by
  have e : (hv x * 16 + hv y).toNat = c.toNat := by omega
  simp only [tak, pln_92, h, e, UInt8.ofNat_toNat]
  simp

/-- take's answer. -/
def RetK (l : List UInt8) (w : World) (e : Ending) (w' : World) : Prop := e = .returned (.tuple #[.int .u8 ((tak l).1.toNat : Int), .int .i64 ((tak l).2 : Int)]) ∧ Below w.heap.size w w'
theorem RetK.mk {l : List UInt8} {c : UInt8} {n : Nat} {w w' : World} {e : Ending} (h : tak l = (c, n)) (he : e = .returned (.tuple #[.int .u8 (c.toNat : Int), .int .i64 (n : Int)])) (hb : Below w.heap.size w w') : RetK l w e w' := by
  unfold RetK; rw [h]; exact ⟨he, hb⟩

theorem below_drewE {B : Nat} {a w : World} (h : Below B a w) (n : Nat) : Below B a (w.drewN n) := h.trans ⟨rfl, rfl, rfl, Nat.le_refl _, fun _ _ => rfl⟩

theorem hex_or (i j : Nat) (hi : i < 16) (hj : j < 16) : bits .or .i64 ((i : Int) * 16) (j : Int) = ((i * 16 + j : Nat) : Int) := by
  have key : ∀ i : Nat, i < 16 → ∀ j : Nat, j < 16 → bits .or .i64 ((i : Int) * 16) (j : Int) = ((i * 16 + j : Nat) : Int) := by decide +kernel
  exact key i hi j hj

set_option maxHeartbeats 1000000 in
set_option maxRecDepth 100000 in
theorem estake_neg1 (l : List UInt8) (w : World) (hlen : l.length ≤ 9223372036854775807) (x y : UInt8) (r3 : List UInt8) (HL3 : Hid (l = 92 :: 120 :: x :: y :: r3))
    (vx vy : Int) (HX : Hid (∀ w, Calls Try.prog 24 #[.string ⟨#[48, 49, 50, 51, 52, 53, 54, 55, 56, 57, 97, 98, 99, 100, 101, 102]⟩, .int .u8 (x.toNat : Int)] w fun e w' => e = .returned (.int .i64 vx) ∧ w' = w))
    (HY : Hid (∀ w, Calls Try.prog 24 #[.string ⟨#[48, 49, 50, 51, 52, 53, 54, 55, 56, 57, 97, 98, 99, 100, 101, 102]⟩, .int .u8 (y.toNat : Int)] w fun e w' => e = .returned (.int .i64 vy) ∧ w' = w))
    (hn1 : vx < 0) (HT : Hid (tak l = (0, 0))) :
    Calls Try.prog 19 #[.string ⟨l.toArray⟩] w (RetK l w) := by
  have HS := Lib.hid (bsize l)
  have hl3 : 4 ≤ l.length := by rw [HL3.out]; simp
  have hz0 : 0 < (⟨l.toArray⟩ : ByteArray).size := by rw [HS.out]; omega
  have A0 : (⟨l.toArray⟩ : ByteArray)[0]'hz0 = 92 := by rw [byteAt l 0 (by omega) hz0]; simp [HL3.out]
  have hz1 : 1 < (⟨l.toArray⟩ : ByteArray).size := by rw [HS.out]; omega
  have A1 : (⟨l.toArray⟩ : ByteArray)[1]'hz1 = 120 := by rw [byteAt l 1 (by omega) hz1]; simp [HL3.out]
  have hz2 : 2 < (⟨l.toArray⟩ : ByteArray).size := by rw [HS.out]; omega
  have A2 : (⟨l.toArray⟩ : ByteArray)[2]'hz2 = x := by rw [byteAt l 2 (by omega) hz2]; simp [HL3.out]
  have hz3 : 3 < (⟨l.toArray⟩ : ByteArray).size := by rw [HS.out]; omega
  have A3 : (⟨l.toArray⟩ : ByteArray)[3]'hz3 = y := by rw [byteAt l 3 (by omega) hz3]; simp [HL3.out]
  have HP : Hid (∀ w, Calls Try.prog 9 #[.int .u8 (((92 : UInt8).toNat : Nat) : Int)] w fun e w' => e = .returned (.bool false) ∧ w = w') := Lib.hid (fun w => by have := plain_any 92 w; rwa [pln_92] at this)
  go_enter Try.func19, Try.ntmps19
  go_wp2_with fail
  refine (HP.out _).mono ?_
  rintro e w' ⟨rfl, rfl⟩
  go_wp2_with fail
  go_quiet (first | (go_at_call 24; exact Calls.quiet_of_same (HX.out _)) | (go_at_call 24; exact Calls.quiet_of_same (HY.out _)))
  go_wp2
  go_ret2
  exact RetK.mk HT.out rfl (below_drewE (Below.refl _ _) _)

set_option maxHeartbeats 1000000 in
set_option maxRecDepth 100000 in
theorem estake_neg2 (l : List UInt8) (w : World) (hlen : l.length ≤ 9223372036854775807) (x y : UInt8) (r3 : List UInt8) (HL3 : Hid (l = 92 :: 120 :: x :: y :: r3))
    (vx vy : Int) (HX : Hid (∀ w, Calls Try.prog 24 #[.string ⟨#[48, 49, 50, 51, 52, 53, 54, 55, 56, 57, 97, 98, 99, 100, 101, 102]⟩, .int .u8 (x.toNat : Int)] w fun e w' => e = .returned (.int .i64 vx) ∧ w' = w))
    (HY : Hid (∀ w, Calls Try.prog 24 #[.string ⟨#[48, 49, 50, 51, 52, 53, 54, 55, 56, 57, 97, 98, 99, 100, 101, 102]⟩, .int .u8 (y.toNat : Int)] w fun e w' => e = .returned (.int .i64 vy) ∧ w' = w))
    (hn1 : ¬ vx < 0) (hn2 : vy < 0) (HT : Hid (tak l = (0, 0))) :
    Calls Try.prog 19 #[.string ⟨l.toArray⟩] w (RetK l w) := by
  have HS := Lib.hid (bsize l)
  have hl3 : 4 ≤ l.length := by rw [HL3.out]; simp
  have hz0 : 0 < (⟨l.toArray⟩ : ByteArray).size := by rw [HS.out]; omega
  have A0 : (⟨l.toArray⟩ : ByteArray)[0]'hz0 = 92 := by rw [byteAt l 0 (by omega) hz0]; simp [HL3.out]
  have hz1 : 1 < (⟨l.toArray⟩ : ByteArray).size := by rw [HS.out]; omega
  have A1 : (⟨l.toArray⟩ : ByteArray)[1]'hz1 = 120 := by rw [byteAt l 1 (by omega) hz1]; simp [HL3.out]
  have hz2 : 2 < (⟨l.toArray⟩ : ByteArray).size := by rw [HS.out]; omega
  have A2 : (⟨l.toArray⟩ : ByteArray)[2]'hz2 = x := by rw [byteAt l 2 (by omega) hz2]; simp [HL3.out]
  have hz3 : 3 < (⟨l.toArray⟩ : ByteArray).size := by rw [HS.out]; omega
  have A3 : (⟨l.toArray⟩ : ByteArray)[3]'hz3 = y := by rw [byteAt l 3 (by omega) hz3]; simp [HL3.out]
  have HP : Hid (∀ w, Calls Try.prog 9 #[.int .u8 (((92 : UInt8).toNat : Nat) : Int)] w fun e w' => e = .returned (.bool false) ∧ w = w') := Lib.hid (fun w => by have := plain_any 92 w; rwa [pln_92] at this)
  go_enter Try.func19, Try.ntmps19
  go_wp2_with fail
  refine (HP.out _).mono ?_
  rintro e w' ⟨rfl, rfl⟩
  go_wp2_with fail
  go_quiet (first | (go_at_call 24; exact Calls.quiet_of_same (HX.out _)) | (go_at_call 24; exact Calls.quiet_of_same (HY.out _)))
  go_wp2
  go_ret2
  exact RetK.mk HT.out rfl (below_drewE (Below.refl _ _) _)

set_option maxHeartbeats 1000000 in
set_option maxRecDepth 100000 in
theorem estake_plain (l : List UInt8) (w : World) (hlen : l.length ≤ 9223372036854775807) (x y : UInt8) (r3 : List UInt8) (HL3 : Hid (l = 92 :: 120 :: x :: y :: r3))
    (i j : Nat) (HX : Hid (∀ w, Calls Try.prog 24 #[.string ⟨#[48, 49, 50, 51, 52, 53, 54, 55, 56, 57, 97, 98, 99, 100, 101, 102]⟩, .int .u8 (x.toNat : Int)] w fun e w' => e = .returned (.int .i64 (i : Int)) ∧ w' = w))
    (HY : Hid (∀ w, Calls Try.prog 24 #[.string ⟨#[48, 49, 50, 51, 52, 53, 54, 55, 56, 57, 97, 98, 99, 100, 101, 102]⟩, .int .u8 (y.toNat : Int)] w fun e w' => e = .returned (.int .i64 (j : Int)) ∧ w' = w))
    (hi16 : i < 16) (hj16 : j < 16) (c : UInt8) (HO : Hid (bits .or .i64 ((i : Int) * 16) (j : Int) % 256 = (c.toNat : Int)))
    (HQ : Hid (∀ w, Calls Try.prog 9 #[.int .u8 (c.toNat : Int)] w fun e w' => e = .returned (.bool true) ∧ w = w')) (HT : Hid (tak l = (0, 0))) :
    Calls Try.prog 19 #[.string ⟨l.toArray⟩] w (RetK l w) := by
  have HS := Lib.hid (bsize l)
  have hl3 : 4 ≤ l.length := by rw [HL3.out]; simp
  have hz0 : 0 < (⟨l.toArray⟩ : ByteArray).size := by rw [HS.out]; omega
  have A0 : (⟨l.toArray⟩ : ByteArray)[0]'hz0 = 92 := by rw [byteAt l 0 (by omega) hz0]; simp [HL3.out]
  have hz1 : 1 < (⟨l.toArray⟩ : ByteArray).size := by rw [HS.out]; omega
  have A1 : (⟨l.toArray⟩ : ByteArray)[1]'hz1 = 120 := by rw [byteAt l 1 (by omega) hz1]; simp [HL3.out]
  have hz2 : 2 < (⟨l.toArray⟩ : ByteArray).size := by rw [HS.out]; omega
  have A2 : (⟨l.toArray⟩ : ByteArray)[2]'hz2 = x := by rw [byteAt l 2 (by omega) hz2]; simp [HL3.out]
  have hz3 : 3 < (⟨l.toArray⟩ : ByteArray).size := by rw [HS.out]; omega
  have A3 : (⟨l.toArray⟩ : ByteArray)[3]'hz3 = y := by rw [byteAt l 3 (by omega) hz3]; simp [HL3.out]
  have HP : Hid (∀ w, Calls Try.prog 9 #[.int .u8 (((92 : UInt8).toNat : Nat) : Int)] w fun e w' => e = .returned (.bool false) ∧ w = w') := Lib.hid (fun w => by have := plain_any 92 w; rwa [pln_92] at this)
  have l1 := c.toNat_lt
  go_enter Try.func19, Try.ntmps19
  go_wp2_with fail
  refine (HP.out _).mono ?_
  rintro e w' ⟨rfl, rfl⟩
  go_wp2_with fail
  go_quiet (first | (go_at_call 24; exact Calls.quiet_of_same (HX.out _)) | (go_at_call 24; exact Calls.quiet_of_same (HY.out _)))
  go_wp2_with fail
  rw [HO.out]
  refine (HQ.out _).mono ?_
  rintro e w' ⟨rfl, rfl⟩
  go_wp2
  go_ret2
  exact RetK.mk HT.out rfl (below_drewE (Below.refl _ _) _)

set_option maxHeartbeats 1000000 in
set_option maxRecDepth 100000 in
theorem estake_back (l : List UInt8) (w : World) (hlen : l.length ≤ 9223372036854775807) (x y : UInt8) (r3 : List UInt8) (HL3 : Hid (l = 92 :: 120 :: x :: y :: r3))
    (i j : Nat) (HX : Hid (∀ w, Calls Try.prog 24 #[.string ⟨#[48, 49, 50, 51, 52, 53, 54, 55, 56, 57, 97, 98, 99, 100, 101, 102]⟩, .int .u8 (x.toNat : Int)] w fun e w' => e = .returned (.int .i64 (i : Int)) ∧ w' = w))
    (HY : Hid (∀ w, Calls Try.prog 24 #[.string ⟨#[48, 49, 50, 51, 52, 53, 54, 55, 56, 57, 97, 98, 99, 100, 101, 102]⟩, .int .u8 (y.toNat : Int)] w fun e w' => e = .returned (.int .i64 (j : Int)) ∧ w' = w))
    (hi16 : i < 16) (hj16 : j < 16) (c : UInt8) (HO : Hid (bits .or .i64 ((i : Int) * 16) (j : Int) % 256 = (c.toNat : Int)))
    (HQ : Hid (∀ w, Calls Try.prog 9 #[.int .u8 (c.toNat : Int)] w fun e w' => e = .returned (.bool false) ∧ w = w')) (HT : Hid (tak l = (0, 0))) (hc : ((c.toNat : Int) == 92) = true) :
    Calls Try.prog 19 #[.string ⟨l.toArray⟩] w (RetK l w) := by
  have HS := Lib.hid (bsize l)
  have hl3 : 4 ≤ l.length := by rw [HL3.out]; simp
  have hz0 : 0 < (⟨l.toArray⟩ : ByteArray).size := by rw [HS.out]; omega
  have A0 : (⟨l.toArray⟩ : ByteArray)[0]'hz0 = 92 := by rw [byteAt l 0 (by omega) hz0]; simp [HL3.out]
  have hz1 : 1 < (⟨l.toArray⟩ : ByteArray).size := by rw [HS.out]; omega
  have A1 : (⟨l.toArray⟩ : ByteArray)[1]'hz1 = 120 := by rw [byteAt l 1 (by omega) hz1]; simp [HL3.out]
  have hz2 : 2 < (⟨l.toArray⟩ : ByteArray).size := by rw [HS.out]; omega
  have A2 : (⟨l.toArray⟩ : ByteArray)[2]'hz2 = x := by rw [byteAt l 2 (by omega) hz2]; simp [HL3.out]
  have hz3 : 3 < (⟨l.toArray⟩ : ByteArray).size := by rw [HS.out]; omega
  have A3 : (⟨l.toArray⟩ : ByteArray)[3]'hz3 = y := by rw [byteAt l 3 (by omega) hz3]; simp [HL3.out]
  have HP : Hid (∀ w, Calls Try.prog 9 #[.int .u8 (((92 : UInt8).toNat : Nat) : Int)] w fun e w' => e = .returned (.bool false) ∧ w = w') := Lib.hid (fun w => by have := plain_any 92 w; rwa [pln_92] at this)
  have l1 := c.toNat_lt
  go_enter Try.func19, Try.ntmps19
  go_wp2_with fail
  refine (HP.out _).mono ?_
  rintro e w' ⟨rfl, rfl⟩
  go_wp2_with fail
  go_quiet (first | (go_at_call 24; exact Calls.quiet_of_same (HX.out _)) | (go_at_call 24; exact Calls.quiet_of_same (HY.out _)))
  go_wp2_with fail
  rw [HO.out]
  refine (HQ.out _).mono ?_
  rintro e w' ⟨rfl, rfl⟩
  go_wp2
  go_ret2
  exact RetK.mk HT.out rfl (below_drewE (Below.refl _ _) _)

set_option maxHeartbeats 1000000 in
set_option maxRecDepth 100000 in
theorem estake_good (l : List UInt8) (w : World) (hlen : l.length ≤ 9223372036854775807) (x y : UInt8) (r3 : List UInt8) (HL3 : Hid (l = 92 :: 120 :: x :: y :: r3))
    (i j : Nat) (HX : Hid (∀ w, Calls Try.prog 24 #[.string ⟨#[48, 49, 50, 51, 52, 53, 54, 55, 56, 57, 97, 98, 99, 100, 101, 102]⟩, .int .u8 (x.toNat : Int)] w fun e w' => e = .returned (.int .i64 (i : Int)) ∧ w' = w))
    (HY : Hid (∀ w, Calls Try.prog 24 #[.string ⟨#[48, 49, 50, 51, 52, 53, 54, 55, 56, 57, 97, 98, 99, 100, 101, 102]⟩, .int .u8 (y.toNat : Int)] w fun e w' => e = .returned (.int .i64 (j : Int)) ∧ w' = w))
    (hi16 : i < 16) (hj16 : j < 16) (c : UInt8) (HO : Hid (bits .or .i64 ((i : Int) * 16) (j : Int) % 256 = (c.toNat : Int)))
    (HQ : Hid (∀ w, Calls Try.prog 9 #[.int .u8 (c.toNat : Int)] w fun e w' => e = .returned (.bool false) ∧ w = w')) (HT : Hid (tak l = (c, 4))) (hc : ((c.toNat : Int) == 92) = false) :
    Calls Try.prog 19 #[.string ⟨l.toArray⟩] w (RetK l w) := by
  have HS := Lib.hid (bsize l)
  have hl3 : 4 ≤ l.length := by rw [HL3.out]; simp
  have hz0 : 0 < (⟨l.toArray⟩ : ByteArray).size := by rw [HS.out]; omega
  have A0 : (⟨l.toArray⟩ : ByteArray)[0]'hz0 = 92 := by rw [byteAt l 0 (by omega) hz0]; simp [HL3.out]
  have hz1 : 1 < (⟨l.toArray⟩ : ByteArray).size := by rw [HS.out]; omega
  have A1 : (⟨l.toArray⟩ : ByteArray)[1]'hz1 = 120 := by rw [byteAt l 1 (by omega) hz1]; simp [HL3.out]
  have hz2 : 2 < (⟨l.toArray⟩ : ByteArray).size := by rw [HS.out]; omega
  have A2 : (⟨l.toArray⟩ : ByteArray)[2]'hz2 = x := by rw [byteAt l 2 (by omega) hz2]; simp [HL3.out]
  have hz3 : 3 < (⟨l.toArray⟩ : ByteArray).size := by rw [HS.out]; omega
  have A3 : (⟨l.toArray⟩ : ByteArray)[3]'hz3 = y := by rw [byteAt l 3 (by omega) hz3]; simp [HL3.out]
  have HP : Hid (∀ w, Calls Try.prog 9 #[.int .u8 (((92 : UInt8).toNat : Nat) : Int)] w fun e w' => e = .returned (.bool false) ∧ w = w') := Lib.hid (fun w => by have := plain_any 92 w; rwa [pln_92] at this)
  have l1 := c.toNat_lt
  go_enter Try.func19, Try.ntmps19
  go_wp2_with fail
  refine (HP.out _).mono ?_
  rintro e w' ⟨rfl, rfl⟩
  go_wp2_with fail
  go_quiet (first | (go_at_call 24; exact Calls.quiet_of_same (HX.out _)) | (go_at_call 24; exact Calls.quiet_of_same (HY.out _)))
  go_wp2_with fail
  rw [HO.out]
  refine (HQ.out _).mono ?_
  rintro e w' ⟨rfl, rfl⟩
  go_wp2
  go_ret2
  exact RetK.mk HT.out rfl (below_drewE (Below.refl _ _) _)

theorem estake_digits (l : List UInt8) (w : World) (hlen : l.length ≤ 9223372036854775807) (x y : UInt8) (r3 : List UInt8) (HL3 : Hid (l = 92 :: 120 :: x :: y :: r3)) :
    Calls Try.prog 19 #[.string ⟨l.toArray⟩] w (RetK l w) := by
  have HX := Lib.hid (fun w => hexindex_any x w)
  have HY := Lib.hid (fun w => hexindex_any y w)
  by_cases hn : hv x < 0 ∨ hv y < 0
  · have HT : Hid (tak l = (0, 0)) := Lib.hid (by rw [HL3.out]; exact estk_no_hex x y r3 hn)
    by_cases hn1 : hv x < 0
    · exact estake_neg1 l w hlen x y r3 HL3 _ _ HX HY hn1 HT
    · exact estake_neg2 l w hlen x y r3 HL3 _ _ HX HY hn1 (by omega) HT
  · obtain ⟨x1, x2, _⟩ := hv_all x
    obtain ⟨y1, y2, _⟩ := hv_all y
    obtain ⟨c, hc⟩ : ∃ c : UInt8, (c.toNat : Int) = hv x * 16 + hv y := ⟨UInt8.ofNat (hv x * 16 + hv y).toNat, by simp; omega⟩
    have hT := estk_hex x y r3 hn c hc
    obtain ⟨i, hi⟩ : ∃ i : Nat, hv x = i := ⟨(hv x).toNat, by omega⟩
    obtain ⟨j, hj⟩ : ∃ j : Nat, hv y = j := ⟨(hv y).toNat, by omega⟩
    rw [hi] at HX hc x1
    rw [hj] at HY hc y1
    have HO := hex_or i j (by omega) (by omega)
    rw [show i * 16 + j = c.toNat by omega] at HO
    have HO := Lib.hid (show bits .or .i64 ((i : Int) * 16) (j : Int) % 256 = (c.toNat : Int) by rw [HO]; have := c.toNat_lt; omega)
    cases hq : pln c with
    | true => exact estake_plain l w hlen x y r3 HL3 i j HX HY (by omega) (by omega) c HO (Lib.hid (fun w => by have := plain_any c w; rwa [hq] at this)) (Lib.hid (by rw [HL3.out, hT]; simp [hq]))
    | false =>
      have HQ : Hid (∀ w, Calls Try.prog 9 #[.int .u8 (c.toNat : Int)] w fun e w' => e = .returned (.bool false) ∧ w = w') := Lib.hid (fun w => by have := plain_any c w; rwa [hq] at this)
      by_cases hc : c.toNat = 92
      · exact estake_back l w hlen x y r3 HL3 i j HX HY (by omega) (by omega) c HO HQ (Lib.hid (by rw [HL3.out, hT]; simp [hc])) (by simp; omega)
      · exact estake_good l w hlen x y r3 HL3 i j HX HY (by omega) (by omega) c HO HQ (Lib.hid (by rw [HL3.out, hT]; simp [hq, hc])) (by simp; omega)

set_option maxHeartbeats 1000000 in
set_option maxRecDepth 100000 in
theorem estake_any (l : List UInt8) (w : World) (h0 : l ≠ []) (hlen : l.length ≤ 9223372036854775807) :
    Calls Try.prog 19 #[.string ⟨l.toArray⟩] w (RetK l w) := by
  have HS := Lib.hid (bsize l)
  obtain ⟨a, r, HL⟩ : ∃ a r, Hid (l = a :: r) := by
    cases l with
    | nil => exact absurd rfl h0
    | cons a r => exact ⟨a, r, Lib.hid rfl⟩
  clear h0
  have hl0 : 0 < l.length := by rw [HL.out]; simp
  have hz0 : 0 < (⟨l.toArray⟩ : ByteArray).size := by rw [HS.out]; exact hl0
  have A0 : (⟨l.toArray⟩ : ByteArray)[0]'hz0 = a := by rw [byteAt l 0 hl0 hz0]; simp [HL.out]
  cases hp : pln a with
  | true =>
    have HP : Hid (∀ w, Calls Try.prog 9 #[.int .u8 (a.toNat : Int)] w fun e w' => e = .returned (.bool true) ∧ w = w') := Lib.hid (fun w => by have := plain_any a w; rwa [hp] at this)
    have HT : Hid (tak l = (a, 1)) := Lib.hid (by rw [HL.out]; exact estk_plain a r hp)
    clear hp
    go_enter Try.func19, Try.ntmps19
    go_wp2_with fail
    refine (HP.out _).mono ?_
    rintro e w' ⟨rfl, rfl⟩
    go_wp2
    go_ret2
    exact RetK.mk HT.out rfl (Below.refl _ _)
  | false =>
    have HP : Hid (∀ w, Calls Try.prog 9 #[.int .u8 (a.toNat : Int)] w fun e w' => e = .returned (.bool false) ∧ w = w') := Lib.hid (fun w => by have := plain_any a w; rwa [hp] at this)
    by_cases ha : a.toNat = 92
    · obtain rfl : a = 92 := u8_ext ha
      clear ha hp
      by_cases hl1 : l.length < 2
      · have HT : Hid (tak l = (0, 0)) := Lib.hid (by
          have := HL.out; rw [this] at hl1
          have : r = [] := List.length_eq_zero_iff.1 (by simp only [List.length_cons] at hl1; omega)
          rw [HL.out, this]; exact estk_alone)
        go_enter Try.func19, Try.ntmps19
        go_wp2_with fail
        refine (HP.out _).mono ?_
        rintro e w' ⟨rfl, rfl⟩
        go_wp2
        go_ret2
        exact RetK.mk HT.out rfl (Below.refl _ _)
      · obtain ⟨b, r1, HL1⟩ : ∃ b r1, Hid (l = 92 :: b :: r1) := by
          have := HL.out
          cases r with
          | nil => rw [this] at hl1; simp at hl1
          | cons b r1 => exact ⟨b, r1, Lib.hid this⟩
        have hz1 : 1 < (⟨l.toArray⟩ : ByteArray).size := by rw [HS.out]; omega
        have A1 : (⟨l.toArray⟩ : ByteArray)[1]'hz1 = b := by rw [byteAt l 1 (by omega) hz1]; simp [HL1.out]
        by_cases hb : b.toNat = 92
        · obtain rfl : b = 92 := u8_ext hb
          have HT : Hid (tak l = (92, 2)) := Lib.hid (by rw [HL1.out]; exact estk_back r1)
          clear hb
          go_enter Try.func19, Try.ntmps19
          go_wp2_with fail
          refine (HP.out _).mono ?_
          rintro e w' ⟨rfl, rfl⟩
          go_wp2
          go_ret2
          exact RetK.mk HT.out rfl (Below.refl _ _)
        · have hb' : ((b.toNat : Int) == 92) = false := by simp; omega
          by_cases hx : b.toNat = 120
          · obtain rfl : b = 120 := u8_ext hx
            clear hb hb' hx
            by_cases hl3 : l.length < 4
            · have HT : Hid (tak l = (0, 0)) := Lib.hid (by
                have := HL1.out; rw [this] at hl3
                rw [HL1.out]; exact estk_short r1 (by simp at hl3; omega))
              go_enter Try.func19, Try.ntmps19
              go_wp2_with fail
              refine (HP.out _).mono ?_
              rintro e w' ⟨rfl, rfl⟩
              go_wp2
              go_ret2
              exact RetK.mk HT.out rfl (Below.refl _ _)
            · obtain ⟨x, y, r3, HL3⟩ : ∃ x y r3, Hid (l = 92 :: 120 :: x :: y :: r3) := by
                have := HL1.out
                match r1, this with
                | [], this => rw [this] at hl3; simp at hl3
                | [x], this => rw [this] at hl3; simp at hl3
                | x :: y :: r3, this => exact ⟨x, y, r3, Lib.hid this⟩
              exact estake_digits l w hlen x y r3 HL3
          · have HT : Hid (tak l = (0, 0)) := Lib.hid (by rw [HL1.out]; exact estk_no_x b r1 hb hx)
            have hx' : ¬ (b.toNat : Int) = 120 := by omega
            clear hb hx
            go_enter Try.func19, Try.ntmps19
            go_wp2_with fail
            refine (HP.out _).mono ?_
            rintro e w' ⟨rfl, rfl⟩
            go_wp2
            go_ret2
            exact RetK.mk HT.out rfl (Below.refl _ _)
    · have HT : Hid (tak l = (0, 0)) := Lib.hid (by rw [HL.out]; exact estk_other a r hp ha)
      have ha' : ¬ (a.toNat : Int) = 92 := by omega
      clear hp ha
      go_enter Try.func19, Try.ntmps19
      go_wp2_with fail
      refine (HP.out _).mono ?_
      rintro e w' ⟨rfl, rfl⟩
      go_wp2
      go_ret2
      exact RetK.mk HT.out rfl (Below.refl _ _)

/-- .. of what stands from the a-th byte on. -/
theorem estake_from (l : List UInt8) (a : Nat) (w : World) (h : l.length ≤ 9223372036854775807) (ha : a < l.length) : Calls Try.prog 19 #[.string ((⟨l.toArray⟩ : ByteArray).extract a l.length)] w (RetK (l.drop a) w) := by
  have e : (⟨l.toArray⟩ : ByteArray).extract a l.length = ⟨(l.drop a).toArray⟩ := by
    rw [Lib.extract_eq]
    simp only [ByteArray.mk.injEq]
    rw [List.take_of_length_le (by rw [List.length_drop]; exact Nat.le_refl _)]
  rw [e]
  exact estake_any _ w (by intro h; have := congrArg List.length h; rw [List.length_drop] at this; simp at this; omega) (by rw [List.length_drop]; omega)
end Go.Proofs.Ytoedbolmajcgpaa
