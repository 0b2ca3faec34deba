/-
  The law VarintPuts, walked: for every n and every slice of ints it returns true, and writes nothing that was there.
-/
import Derived.Test.YtenhhpkimjpomaaVarAw
set_option linter.unusedSimpArgs false
set_option linter.unusedVariables false
namespace Go.Proofs.Ytenhhpkimjpomaa
open Go.RowKit

theorem puts_long (n : Int) (a : Option Addr) (len cap : Nat) (w : World) (h : 100 < len) (hm : len ≤ 9223372036854775807) :
    Calls Try.prog 3 #[.int .i64 n, .slice a len cap] w fun e w' => e = .returned (.bool true) ∧ Below w.heap.size w w' := by
  go_enter Try.func3, Try.ntmps3
  go_wp2_with fail
  refine (awake_any _).mono ?_
  rintro e w' ⟨rfl, hb⟩
  go_wp2
  go_ret
  exact ⟨rfl, hb⟩

set_option maxHeartbeats 1000000 in
theorem puts_short (n : Int) (a : Option Addr) (len cap : Nat) (zs : List Int) (w : World) (h1 : -9223372036854775808 ≤ n) (h2 : n ≤ 9223372036854775807)
    (h100 : len ≤ 100) (hr : IsRow .i64 w a len cap zs) (h64 : Int64s zs) :
    Calls Try.prog 3 #[.int .i64 n, .slice a len cap] w fun e w' => e = .returned (.bool true) ∧ Below w.heap.size w w' := by
  go_enter Try.func3, Try.ntmps3
  go_wp2_with fail
  go_loopw [5, 6] (fun s i wr => ∃ k : Nat, k ≤ len ∧ i = .int .i64 k ∧ s = .string ⟨(vall (zs.take k)).toArray⟩ ∧ Below w.heap.size w wr) (fun _ i _ => len - (RowKit.intOf i).toNat)
  case atStart => exact ⟨0, Nat.zero_le _, rfl, rfl, Below.refl _ _⟩
  case round =>
    rename_i wr
    obtain ⟨k, hk, rfl, rfl, hbe⟩ := hrel
    have hlen := vall_length (zs.take k) (fun x hx => h64 x (List.mem_of_mem_take hx))
    have hlk : (zs.take k).length ≤ k := List.length_take_le _ _
    have hl9 : (vall (zs.take k)).length ≤ 1000000 := by omega
    clear hlen hlk
    by_cases hlt : k < len
    · obtain h0 | ⟨b, off, rfl, hcap, hm, hz, hc⟩ := hr
      · omega
      have hcell : wr.cell? ⟨b, off + k, none⟩ = some (.int .i64 (zs.getD k 0)) := by
        have h := hc k (by omega)
        rw [hbe.cell (p := ⟨b, off + k, none⟩) (World.block_lt_of_cell? w _ h)]
        exact h
      have hx := h64 (zs.getD k 0) (getD_in _ _ (by omega))
      have HS := Lib.hid (show vall (zs.take (k + 1)) = vall (zs.take k) ++ vput (zs.getD k 0) by rw [take_snoc zs k (by omega), vall_snoc])
      clear hc hz
      generalize zs.getD k 0 = x at hcell hx HS
      have hpl := vput_length x hx.2
      generalize vall (zs.take k) = acc at hl9 HS
      have hsz := hbe.size
      go_wp2_with fail
      refine (refput_any _ x _ (Nat.le_refl _) hx.2).mono ?_
      rintro e w2 ⟨rfl, hb2⟩
      go_wp2
      exact ⟨⟨k + 1, by omega, by go_num, by rw [HS.out]; simp [ByteArray.mk_append_mk], hbe.trans (hb2.mono hsz)⟩, by simp [RowKit.intOf]; omega⟩
    · obtain rfl : k = len := by omega
      have hr' := hr.below hbe
      have hsz := hbe.size
      generalize hacc : vall (zs.take k) = acc at hl9
      have HA := Lib.hid hacc
      clear hacc
      go_wp2_with fail
      refine (put_any n _ h1 h2).mono ?_
      rintro e w1 ⟨rfl, hb1⟩
      go_wp2_with fail
      refine (refput_any _ n _ (Nat.le_refl _) h2).mono ?_
      rintro e w2 ⟨rfl, hb2⟩
      go_wp2_with fail
      refine (size_any n _ h2).mono ?_
      rintro e w' ⟨rfl, rfl⟩
      go_wp2_with fail
      refine (refput_any _ n _ (Nat.le_refl _) h2).mono ?_
      rintro e w3 ⟨rfl, hb3⟩
      have hb13 : Below w.heap.size w w3 := ((hbe.trans (hb1.mono hsz)).trans (hb2.mono (Nat.le_trans hsz hb1.size))).trans (hb3.mono (Nat.le_trans (Nat.le_trans hsz hb1.size) hb2.size))
      go_wp2_with fail
      refine (all_any a k cap zs _ h100 (hr.below hb13) h64).mono ?_
      rintro e w4 ⟨rfl, hb4⟩
      have hb14 := hb13.trans (hb4.mono hb13.size)
      rw [HA.out]
      go_wp2_with fail
      refine (awake_any _).mono ?_
      rintro e w5 ⟨rfl, hb5⟩
      go_wp2
      go_ret
      exact ⟨rfl, hb14.trans (hb5.mono hb14.size)⟩
end Go.Proofs.Ytenhhpkimjpomaa
