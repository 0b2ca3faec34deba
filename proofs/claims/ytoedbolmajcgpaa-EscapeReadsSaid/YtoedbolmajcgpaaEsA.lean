/-
  The law's 'awake' of layer 5; the law EscapeQuotes, walked.
-/
import Derived.Test.YtoedbolmajcgpaaEsR
set_option linter.unusedSimpArgs false
set_option linter.unusedVariables false
namespace Go.Proofs.Ytoedbolmajcgpaa
open Go.RowKit

theorem unquote_ex (w : World) : Calls Try.prog 11 #[.string ⟨#[92, 120, 52, 49]⟩] w fun e w' => e = .returned (.tuple #[.string ⟨#[]⟩, .int .i64 3]) ∧ Below w.heap.size w w' := by
  have h := unquote_any [92, 120, 52, 49] w (by decide)
  have hu : unqU [92, 120, 52, 49] = [] ∧ unqE [92, 120, 52, 49] = 3 :=
    unq_stop (acc := []) (rest := [92, 120, 52, 49]) (by decide) (by decide) rfl (by decide) (tak_none (by decide +kernel))
  refine h.mono ?_
  rintro e w' ⟨he, hb⟩
  rw [hu.1, hu.2] at he
  exact ⟨he, hb⟩
theorem quote_ex (w : World) : Calls Try.prog 7 #[.string ⟨#[97, 32, 98, 92]⟩] w fun e w' => e = .returned (.string ⟨#[97, 92, 120, 50, 48, 98, 92, 92]⟩) ∧ Below w.heap.size w w' := by
  have h := quote_any [97, 32, 98, 92] w (by decide)
  rw [show quo [97, 32, 98, 92] = [97, 92, 120, 50, 48, 98, 92, 92] from by decide +kernel] at h
  exact h
theorem plain_ex1 (w : World) : Calls Try.prog 9 #[.int .u8 65] w fun e w' => e = .returned (.bool true) ∧ w = w' := by
  have h := plain_any 65 w
  rw [show pln 65 = true from by decide] at h
  exact h
theorem plain_ex2 (w : World) : Calls Try.prog 9 #[.int .u8 32] w fun e w' => e = .returned (.bool false) ∧ w = w' := by
  have h := plain_any 32 w
  rw [show pln 32 = false from by decide] at h
  exact h

set_option maxHeartbeats 400000 in
theorem awake_any (w : World) :
    Calls Try.prog 6 #[] w fun e w' => e = .returned (.bool true) ∧ Below w.heap.size w w' := by
  go_enter Try.func6, Try.ntmps6
  go_wp2_with fail
  refine (unquote_ex _).mono ?_
  rintro e w1 ⟨rfl, hb1⟩
  have hsz := hb1.size
  go_wp2_with fail
  refine (quote_ex _).mono ?_
  rintro e w2 ⟨rfl, hb2⟩
  go_wp2_with fail
  refine (plain_ex1 _).mono ?_
  rintro e w' ⟨rfl, rfl⟩
  go_wp2_with fail
  refine (plain_ex2 _).mono ?_
  rintro e w' ⟨rfl, rfl⟩
  go_wp2
  go_ret
  exact ⟨rfl, hb1.trans (hb2.mono hsz)⟩

theorem quotes_long (s : ByteArray) (n : Int) (w : World) (hs : 500 < s.size) (hm : s.size ≤ 9223372036854775807) :
    Calls Try.prog 3 #[.string s, .int .u8 n] w fun e w' => e = .returned (.bool true) ∧ Below w.heap.size w w' := by
  go_enter Try.func3, Try.ntmps3
  go_wp2_with fail
  refine (awake_any _).mono ?_
  rintro e w' ⟨rfl, hb⟩
  go_wp2
  go_ret
  exact ⟨rfl, hb⟩

set_option maxHeartbeats 1000000 in
theorem quotes_short (l : List UInt8) (c : UInt8) (w : World) (hl : l.length ≤ 500) :
    Calls Try.prog 3 #[.string ⟨l.toArray⟩, .int .u8 (c.toNat : Int)] w fun e w' => e = .returned (.bool true) ∧ Below w.heap.size w w' := by
  have H1 := Lib.hid (fun w => quote_any l w (by omega))
  have H2 := Lib.hid (fun w => rquote_any l w (by omega))
  have H3 := Lib.hid (fun w => plain_any c w)
  have H4 := Lib.hid (fun w => rplain_any c w)
  generalize quo l = q at H1 H2
  generalize pln c = p at H3 H4
  go_enter Try.func3, Try.ntmps3
  go_wp2_with fail
  refine (H1.out _).mono ?_
  rintro e w1 ⟨rfl, hb1⟩
  have hs1 := hb1.size
  go_wp2_with fail
  refine (H2.out _).mono ?_
  rintro e w2 ⟨rfl, hb2⟩
  have hb02 := hb1.trans (hb2.mono hs1)
  have hs2 := hb02.size
  go_wp2_with fail
  refine (H3.out _).mono ?_
  rintro e w' ⟨rfl, rfl⟩
  go_wp2_with fail
  refine (H4.out _).mono ?_
  rintro e w' ⟨rfl, rfl⟩
  go_wp2_with fail
  refine (awake_any _).mono ?_
  rintro e w3 ⟨rfl, hb3⟩
  go_wp2
  go_ret
  exact ⟨rfl, hb02.trans (hb3.mono hs2)⟩
end Go.Proofs.Ytoedbolmajcgpaa
