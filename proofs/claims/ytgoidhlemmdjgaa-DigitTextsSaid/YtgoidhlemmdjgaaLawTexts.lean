/-
  The law DigitTexts, walked: for every n and every slice of ints it returns true, and writes nothing that was there.
-/
import Derived.Test.YtgoidhlemmdjgaaAwake
import Derived.Test.YtgoidhlemmdjgaaDigRef
set_option linter.unusedSimpArgs false
set_option linter.unusedVariables false
namespace Go.Proofs.Ytgoidhlemmdjgaa
open Go.RowKit

theorem texts_long (n : Int) (a : Option Addr) (len cap : Nat) (w : World) (h : 100 < len) (hm : len ≤ 9223372036854775807) :
    Calls Try.prog 3 #[.int .i64 n, .slice a len cap] w fun e w' => e = .returned (.bool true) ∧ Below w.heap.size w w' := by
  go_enter Try.func3, Try.ntmps3
  go_wp2_with fail
  refine (awake_any _).mono ?_
  rintro e w' ⟨rfl, hb⟩
  go_wp2
  go_ret
  exact ⟨rfl, hb⟩

set_option maxHeartbeats 400000 in
theorem texts_nil (n : Int) (a : Option Addr) (cap : Nat) (w : World) (h1 : -9223372036854775808 ≤ n) (h2 : n ≤ 9223372036854775807) :
    Calls Try.prog 3 #[.int .i64 n, .slice a 0 cap] w fun e w' => e = .returned (.bool true) ∧ Below w.heap.size w w' := by
  go_enter Try.func3, Try.ntmps3
  go_wp2_with fail
  refine (text_any _ _ h1 h2).mono ?_
  rintro e w1 ⟨rfl, hb1⟩
  go_wp2_with fail
  refine (reftext_any _ _ _ (Nat.le_refl _) h1 h2).mono ?_
  rintro e w' ⟨rfl, rfl⟩
  go_wp2_with fail
  refine (row_nil _ _ _).mono ?_
  rintro e w2 ⟨rfl, hb2⟩
  go_wp2_with fail
  refine (refrow_nil _ _ _).mono ?_
  rintro e w' ⟨rfl, rfl⟩
  go_wp2_with fail
  refine (awake_any _).mono ?_
  rintro e w3 ⟨rfl, hb3⟩
  go_wp2
  go_ret
  exact ⟨rfl, (hb1.trans (hb2.mono hb1.size)).trans (hb3.mono (Nat.le_trans hb1.size hb2.size))⟩

set_option maxHeartbeats 400000 in
theorem texts_some (n : Int) (b off len cap : Nat) (zs : List Int) (w : World) (h1 : -9223372036854775808 ≤ n) (h2 : n ≤ 9223372036854775807)
    (h0 : 0 < len) (h100 : len ≤ 100) (hcap : len ≤ cap) (hz : zs.length = cap) (hm : cap ≤ maxLen)
    (hc : ∀ i, i < cap → w.cell? ⟨b, off + i, none⟩ = some (.int .i64 (zs.getD i 0))) (h64 : Int64s zs) :
    Calls Try.prog 3 #[.int .i64 n, .slice (some ⟨b, off, none⟩) len cap] w fun e w' => e = .returned (.bool true) ∧ Below w.heap.size w w' := by
  have HC := Lib.hid hc
  clear hc
  have HZ := Lib.hid hz
  clear hz
  go_enter Try.func3, Try.ntmps3
  go_wp2_with fail
  refine (text_any _ _ h1 h2).mono ?_
  rintro e w1 ⟨rfl, hb1⟩
  go_wp2_with fail
  refine (reftext_any _ _ _ (Nat.le_refl _) h1 h2).mono ?_
  rintro e w' ⟨rfl, rfl⟩
  have hc1 : Hid (∀ i, i < cap → w1.cell? ⟨b, off + i, none⟩ = some (.int .i64 (zs.getD i 0))) := Lib.hid (fun i hi => by
    have h := HC.out i hi
    rw [hb1.cell (p := ⟨b, off + i, none⟩) (World.block_lt_of_cell? w _ h)]
    exact h)
  go_wp2_with fail
  refine (row_some b off len cap zs _ h0 h100 hcap HZ.out hm hc1.out h64).mono ?_
  rintro e w2 ⟨rfl, hb2⟩
  have hc2 : Hid (∀ i, i < cap → w2.cell? ⟨b, off + i, none⟩ = some (.int .i64 (zs.getD i 0))) := Lib.hid (fun i hi => by
    have h := hc1.out i hi
    rw [hb2.cell (p := ⟨b, off + i, none⟩) (World.block_lt_of_cell? w1 _ h)]
    exact h)
  go_wp2_with fail
  refine (refrow_some b off len cap zs _ h0 h100 hcap HZ.out hm hc2.out h64).mono ?_
  rintro e w' ⟨rfl, rfl⟩
  go_wp2_with fail
  refine (awake_any _).mono ?_
  rintro e w3 ⟨rfl, hb3⟩
  go_wp2
  go_ret
  exact ⟨rfl, (hb1.trans (hb2.mono hb1.size)).trans (hb3.mono (Nat.le_trans hb1.size hb2.size))⟩

end Go.Proofs.Ytgoidhlemmdjgaa
