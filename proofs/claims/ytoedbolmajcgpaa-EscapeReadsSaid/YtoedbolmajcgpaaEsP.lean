/-
  escape: Plain, the byte between words, strings.IndexByte; the document's Plain, digit and sign: walked.
-/
import Derived.Test.YtoedbolmajcgpaaEsM
import Derived.Test.YtoedbolmajcgpaaGen
import Derived.Test.YtoedbolmajcgpaaRows
import Derived.Lib.Bytealg
import Derived.WalkKit
import Derived.WalkSpells
import Derived.WalkLawsBesides
import Derived.Lib.Hide
import Derived.Outline
import Derived.IntWalk
set_option linter.unusedSimpArgs false
set_option linter.unusedVariables false
namespace Go.Proofs.Ytoedbolmajcgpaa
open Go.RowKit

theorem plain_any (c : UInt8) (w : World) :
    Calls Try.prog 9 #[.int .u8 (c.toNat : Int)] w fun e w' => e = .returned (.bool (pln c)) ∧ w = w' := by
  have l1 := c.toNat_lt
  have HP := Lib.hid (show pln c = decide (33 ≤ c.toNat ∧ c.toNat ≤ 126 ∧ c.toNat ≠ 92) from rfl)
  generalize c.toNat = n at l1 HP ⊢
  by_cases h1 : (32 : Int) < (n : Int)
  · by_cases h2 : (n : Int) ≤ 126
    · by_cases h3 : n = 92
      · subst h3
        go_enter Try.func9, Try.ntmps9
        go_wp2
        go_ret
        exact ⟨by rw [HP.out]; rfl, rfl⟩
      · have hd := Lib.hid (show ((n : Int) != 92) = true by simp; omega)
        have HR : Hid (pln c = true) := Lib.hid (by rw [HP.out]; simp; omega)
        go_enter Try.func9, Try.ntmps9
        go_wp2
        go_ret
        refine ⟨?_, rfl⟩
        show Ending.returned (.bool ((n : Int) != 92)) = _
        rw [HR.out, hd.out]
    · have hd : decide ((n : Int) ≤ 126) = false := by simp; omega
      have HR : Hid (pln c = false) := Lib.hid (by rw [HP.out]; simp; omega)
      go_enter Try.func9, Try.ntmps9
      go_wp2
      go_ret
      exact ⟨by rw [HR.out]; rfl, rfl⟩
  · have hd : decide ((32 : Int) < (n : Int)) = false := by simp; omega
    have HR : Hid (pln c = false) := Lib.hid (by rw [HP.out]; simp; omega)
    go_enter Try.func9, Try.ntmps9
    go_wp2
    go_ret
    exact ⟨by rw [HR.out]; rfl, rfl⟩

theorem rplain_any (c : UInt8) (w : World) :
    Calls Try.prog 10 #[.int .u8 (c.toNat : Int)] w fun e w' => e = .returned (.bool (pln c)) ∧ w = w' := by
  have l1 := c.toNat_lt
  have HP := Lib.hid (show pln c = decide (33 ≤ c.toNat ∧ c.toNat ≤ 126 ∧ c.toNat ≠ 92) from rfl)
  generalize c.toNat = n at l1 HP ⊢
  by_cases h1 : (33 : Int) ≤ (n : Int)
  · by_cases h2 : (n : Int) ≤ 126
    · by_cases h3 : n = 92
      · subst h3
        go_enter Try.func10, Try.ntmps10
        go_wp2
        go_ret
        exact ⟨by rw [HP.out]; rfl, rfl⟩
      · have hd := Lib.hid (show ((n : Int) != 92) = true by simp; omega)
        have HR : Hid (pln c = true) := Lib.hid (by rw [HP.out]; simp; omega)
        go_enter Try.func10, Try.ntmps10
        go_wp2
        go_ret
        refine ⟨?_, rfl⟩
        show Ending.returned (.bool ((n : Int) != 92)) = _
        rw [HR.out, hd.out]
    · have hd : decide ((n : Int) ≤ 126) = false := by simp; omega
      have HR : Hid (pln c = false) := Lib.hid (by rw [HP.out]; simp; omega)
      go_enter Try.func10, Try.ntmps10
      go_wp2
      go_ret
      exact ⟨by rw [HR.out]; rfl, rfl⟩
  · have hd : decide ((33 : Int) ≤ (n : Int)) = false := by simp; omega
    have HR : Hid (pln c = false) := Lib.hid (by rw [HP.out]; simp; omega)
    go_enter Try.func10, Try.ntmps10
    go_wp2
    go_ret
    exact ⟨by rw [HR.out]; rfl, rfl⟩

theorem blank_any (n : Int) (w : World) :
    Calls Try.prog 22 #[.int .u8 n] w fun e w' => e = .returned (.bool (n == 32)) ∧ w = w' := by
  go_enter Try.func22, Try.ntmps22
  go_wp2
  go_ret
  exact ⟨rfl, rfl⟩

set_option maxRecDepth 100000 in
theorem liteindex_any (s : ByteArray) (c : Int) (w : World) :
    Calls Try.prog 26 #[.string s, .int .u8 c] w fun e w' => e = .returned (.int .i64 (Lib.indexByte s.data.toList c.toNat.toUInt8)) ∧ w' = w := by
  go_enter Try.func26, Try.ntmps26
  go_wp2
  rw [run_callFunc_extern Try.func28 (by kernel_rfl) (by kernel_rfl) (by kernel_rfl) (e := Extern.BytealgIndexByte.indexByte) (by kernel_rfl), Lib.run_indexByteString]
  simp only [Result.andThen]
  rw [Oper.upon_value]
  go_wp2
  go_ret
  exact ⟨rfl, rfl⟩

theorem index_any (s : ByteArray) (c : Int) (w : World) :
    Calls Try.prog 24 #[.string s, .int .u8 c] w fun e w' => e = .returned (.int .i64 (Lib.indexByte s.data.toList c.toNat.toUInt8)) ∧ w' = w := by
  go_enter Try.func24, Try.ntmps24
  go_wp2_with fail
  refine (liteindex_any s c _).mono ?_
  rintro e w' ⟨rfl, rfl⟩
  go_wp2
  go_ret
  exact ⟨rfl, rfl⟩

/-- A digit's value. -/
theorem hexindex_any (c : UInt8) (w : World) :
    Calls Try.prog 24 #[.string ⟨#[48, 49, 50, 51, 52, 53, 54, 55, 56, 57, 97, 98, 99, 100, 101, 102]⟩, .int .u8 (c.toNat : Int)] w fun e w' => e = .returned (.int .i64 (hv c)) ∧ w' = w := by
  refine (index_any _ _ w).mono ?_
  rintro e w' ⟨rfl, rfl⟩
  exact ⟨by rw [show ((c.toNat : Int)).toNat.toUInt8 = c from by simp]; rfl, rfl⟩

theorem hex_at (n : Nat) (h : n < 16) : (⟨#[48, 49, 50, 51, 52, 53, 54, 55, 56, 57, 97, 98, 99, 100, 101, 102]⟩ : ByteArray).extract n (n + 1) = ⟨#[hx n]⟩ := by
  have key : ∀ n, n < 16 → (⟨#[48, 49, 50, 51, 52, 53, 54, 55, 56, 57, 97, 98, 99, 100, 101, 102]⟩ : ByteArray).extract n (n + 1) = ⟨#[hx n]⟩ := by decide +kernel
  exact key n h

theorem rdigit_any (n : Nat) (w : World) (h : n < 16) :
    Calls Try.prog 23 #[.int .i64 (n : Int)] w fun e w' => e = .returned (.string ⟨#[hx n]⟩) ∧ w = w' := by
  have ht := Lib.hid (hex_at n h)
  go_enter Try.func23, Try.ntmps23
  go_wp2
  go_ret
  exact ⟨congrArg (fun x => Ending.returned (.string x)) ht.out, rfl⟩

/-- 'string(b)' of a slice that holds one byte. -/
theorem byte_back (W : World) (b : Nat) (c : UInt8) (hc : W.cell? ⟨b, 0, none⟩ = some (.int .u8 (c.toNat : Int))) :
    (convert 35 9 (.slice (some ⟨b, 0, none⟩) 1 1)).run Try.prog W = .ok (.string ⟨#[c]⟩) W := by
  refine run_convert_bytes_back W 35 9 5 ⟨b, 0, none⟩ 1 [c] Try.underlying35 Try.underlying5 Try.underlying9 (fun j hj => ?_)
  obtain rfl : j = 0 := by simp at hj; omega
  rw [show (⟨b, 0, none⟩ : Addr).add 0 = ⟨b, 0, none⟩ from by simp [Addr.add]]
  simp only [List.getElem_cons_zero]
  exact hc

set_option maxHeartbeats 400000 in
theorem sign_any (c : UInt8) (w : World) :
    Calls Try.prog 18 #[.int .u8 (c.toNat : Int)] w fun e w' => e = .returned (.string ⟨(sgn c).toArray⟩) ∧ Below w.heap.size w w' := by
  have l1 := c.toNat_lt
  by_cases hc : c.toNat = 92
  · have HS := Lib.hid (sgn_back c hc)
    rw [hc]
    go_enter Try.func18, Try.ntmps18
    go_wp2
    go_ret
    exact ⟨by rw [HS.out]; rfl, Below.refl _ _⟩
  · have hd : ((c.toNat : Int) == 92) = false := by simp; omega
    cases hp : pln c with
    | true =>
      have HS := Lib.hid (sgn_plain c hp)
      have HP : Hid (∀ w, Calls Try.prog 10 #[.int .u8 (c.toNat : Int)] w fun e w' => e = .returned (.bool true) ∧ w = w') := Lib.hid (fun w => by have := rplain_any c w; rwa [hp] at this)
      clear hp hc
      have hconv := byte_back (w.alloc (.cells #[.int .u8 (c.toNat : Int)] 5)) w.heap.size c (by rw [World.cell?_alloc_new]; rfl)
      go_enter Try.func18, Try.ntmps18
      go_wp2_with fail
      refine (HP.out _).mono ?_
      rintro e w' ⟨rfl, rfl⟩
      go_wp2
      go_ret
      exact ⟨by rw [HS.out]; rfl, (Below.refl _ _).alloc (Nat.le_refl _) _⟩
    | false =>
      have HS := Lib.hid (sgn_hex c hp hc)
      have HP : Hid (∀ w, Calls Try.prog 10 #[.int .u8 (c.toNat : Int)] w fun e w' => e = .returned (.bool false) ∧ w = w') := Lib.hid (fun w => by have := rplain_any c w; rwa [hp] at this)
      clear hp hc
      have e1 : (c.toNat : Int).tdiv 16 = ((c.toNat / 16 : Nat) : Int) := by rw [Int.tdiv_eq_ediv_of_nonneg (by omega)]; omega
      have e2 : (c.toNat : Int).tmod 16 = ((c.toNat % 16 : Nat) : Int) := by rw [Int.tmod_eq_emod_of_nonneg (by omega)]; omega
      have H1 : Hid (∀ w, Calls Try.prog 23 #[.int .i64 ((c.toNat : Int) / 16)] w fun e w' => e = .returned (.string ⟨#[hx (c.toNat / 16)]⟩) ∧ w = w') := Lib.hid (fun w => by
        rw [show (c.toNat : Int) / 16 = ((c.toNat / 16 : Nat) : Int) by omega]; exact rdigit_any _ w (by omega))
      have H2 : Hid (∀ w, Calls Try.prog 23 #[.int .i64 ((c.toNat : Int) % 16)] w fun e w' => e = .returned (.string ⟨#[hx (c.toNat % 16)]⟩) ∧ w = w') := Lib.hid (fun w => by
        rw [show (c.toNat : Int) % 16 = ((c.toNat % 16 : Nat) : Int) by omega]; exact rdigit_any _ w (by omega))
      clear e1 e2
      generalize hx (c.toNat / 16) = x1 at HS H1
      generalize hx (c.toNat % 16) = x2 at HS H2
      go_enter Try.func18, Try.ntmps18
      go_wp2_with fail
      refine (HP.out _).mono ?_
      rintro e w' ⟨rfl, rfl⟩
      go_wp2_with fail
      refine (H1.out _).mono ?_
      rintro e w' ⟨rfl, rfl⟩
      go_wp2_with fail
      refine (H2.out _).mono ?_
      rintro e w' ⟨rfl, rfl⟩
      go_wp2
      go_ret
      exact ⟨by rw [HS.out]; simp [ByteArray.mk_append_mk], Below.refl _ _⟩
end Go.Proofs.Ytoedbolmajcgpaa
