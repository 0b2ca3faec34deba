/-
  The document's own answers for layer 1: Text and Row, walked.
-/
import Derived.Test.YtgoidhlemmdjgaaDigM
import Derived.Test.YtgoidhlemmdjgaaRows
import Derived.WalkKit
import Derived.WalkSpells
import Derived.WalkLawsBesides
import Derived.Lib.Hide
set_option linter.unusedSimpArgs false
set_option linter.unusedVariables false
namespace Go.Proofs.Ytgoidhlemmdjgaa
open Go.RowKit

set_option maxHeartbeats 400000 in
theorem one_any (n : Int) (w : World) (h0 : 0 ≤ n) (h1 : n < 10) :
    Calls Try.prog 11 #[.int .i64 n] w fun e w' => e = .returned (.string ⟨#[dch n]⟩) ∧ w = w' := by
  have ht := Lib.hid (ten_at n h0 h1)
  go_enter Try.func11, Try.ntmps11
  go_wp2
  go_ret
  exact ⟨congrArg (fun x => Ending.returned (.string x)) ht.out, rfl⟩

set_option maxHeartbeats 1000000 in
theorem reftext_any (k : Nat) : ∀ (n : Int) (w : World), n.natAbs ≤ k → -9223372036854775808 ≤ n → n ≤ 9223372036854775807 →
    Calls Try.prog 6 #[.int .i64 n] w fun e w' => e = .returned (.string ⟨(Lib.itoa n).toArray⟩) ∧ w = w' := by
  induction k with
  | zero =>
    intro n w hk h1 h2
    obtain rfl : n = 0 := by omega
    go_enter Try.func6, Try.ntmps6
    go_wp2_with (go_at_call 11; refine (one_any _ _ (by omega) (by omega)).mono ?_; rintro e w' ⟨rfl, rfl⟩)
    go_ret
    exact ⟨by rw [itoa_pos1 0 (by omega) (by omega)]; rfl, rfl⟩
  | succ k ih =>
    intro n w hk h1 h2
    have IH := Lib.hid ih
    clear ih
    by_cases hn : n < 0
    · by_cases h10 : -10 < n
      · have ht := Lib.hid (itoa_neg1 n h10 hn)
        go_enter Try.func6, Try.ntmps6
        go_wp2_with (go_at_call 11; refine (one_any _ _ (by omega) (by omega)).mono ?_; rintro e w' ⟨rfl, rfl⟩)
        go_ret
        exact ⟨by rw [ht.out]; rfl, rfl⟩
      · have ht := Lib.hid (itoa_neg2 n (by omega))
        obtain ⟨b1, b2, b3, b4, b5⟩ := quo_bounds n k (by omega) h1 hk
        have hl := Lib.itoa_length_le _ b1 b2
        go_enter Try.func6, Try.ntmps6
        go_wp2_with fail
        refine (IH.out _ _ b3 b1 b2).mono ?_
        rintro e w' ⟨rfl, rfl⟩
        go_wp2_with fail
        refine (one_any _ _ b4 b5).mono ?_
        rintro e w' ⟨rfl, rfl⟩
        go_wp2
        go_ret
        exact ⟨by rw [ht.out]; simp [ByteArray.mk_append_mk], rfl⟩
    · by_cases h10 : n < 10
      · have ht := Lib.hid (itoa_pos1 n (by omega) (by omega))
        go_enter Try.func6, Try.ntmps6
        go_wp2_with (go_at_call 11; refine (one_any _ _ (by omega) (by omega)).mono ?_; rintro e w' ⟨rfl, rfl⟩)
        go_ret
        exact ⟨by rw [ht.out]; rfl, rfl⟩
      · have ht := Lib.hid (itoa_pos2 n (by omega))
        have hl := Lib.itoa_length_le (n / 10) (by omega) (by omega)
        go_enter Try.func6, Try.ntmps6
        go_wp2_with fail
        refine (IH.out _ _ (by omega) (by omega) (by omega)).mono ?_
        rintro e w' ⟨rfl, rfl⟩
        go_wp2_with fail
        refine (one_any _ _ (by omega) (by omega)).mono ?_
        rintro e w' ⟨rfl, rfl⟩
        go_wp2
        go_ret
        exact ⟨by rw [ht.out]; simp [ByteArray.mk_append_mk], rfl⟩
theorem refrow_nil (a : Option Addr) (cap : Nat) (w : World) :
    Calls Try.prog 8 #[.slice a 0 cap] w fun e w' => e = .returned (.string ⟨([45] : List UInt8).toArray⟩) ∧ w = w' := by
  go_enter Try.func8, Try.ntmps8
  go_wp2
  refine wp_loop_rounds 1 ?_; rw [rounds_succ]
  go_wp2
  go_ret
  exact ⟨rfl, rfl⟩

set_option maxHeartbeats 1000000 in
theorem refrow_some (b off len cap : Nat) (zs : List Int) (w : World) (h0 : 0 < len) (h1 : len ≤ 100) (hcap : len ≤ cap) (hz : zs.length = cap) (hm : cap ≤ maxLen)
    (hc : ∀ i, i < cap → w.cell? ⟨b, off + i, none⟩ = some (.int .i64 (zs.getD i 0))) (h64 : Int64s zs) :
    Calls Try.prog 8 #[.slice (some ⟨b, off, none⟩) len cap] w fun e w' => e = .returned (.string ⟨(rowTo (zs.take len)).toArray⟩) ∧ w = w' := by
  have HC := Lib.hid hc
  clear hc
  go_enter Try.func8, Try.ntmps8
  go_wp2
  go_loop [3, 4] (fun s i => ∃ k : Nat, k ≤ len ∧ i = .int .i64 k ∧ s = .string ⟨(rowTo (zs.take k)).toArray⟩) (fun _ i => len - (RowKit.intOf i).toNat)
  case atStart => exact ⟨0, Nat.zero_le _, rfl, rfl⟩
  case round =>
    obtain ⟨k, hk, rfl, rfl⟩ := hrel
    have hlen := rowTo_length (zs.take k) (fun x hx => h64 x (List.mem_of_mem_take hx))
    have hlk : (zs.take k).length = k := by rw [List.length_take]; omega
    rw [hlk] at hlen
    by_cases hlt : k < len
    · have hcell := HC.out k (by omega)
      have hx := h64 (zs.getD k 0) (getD_in _ _ (by omega))
      have hsn := take_snoc zs k (by omega)
      generalize zs.getD k 0 = x at hcell hx hsn
      obtain ⟨hx1, hx2⟩ := hx
      have hil := Lib.itoa_length_le x hx1 hx2
      have HLK := Lib.hid hlk
      clear hlk
      by_cases hk0 : k = 0
      · subst hk0
        have hsn' : rowTo (zs.take (0 + 1)) = Lib.itoa x := by rw [hsn, List.take_zero, List.nil_append, rowTo_one]
        have HS := Lib.hid hsn'
        clear hsn hsn'
        have hcell0 : w.cell? ⟨b, off, none⟩ = some (.int .i64 x) := hcell
        clear hcell
        rw [show rowTo (List.take 0 zs) = [] from by simp [rowTo]]
        go_wp2_with fail
        refine (reftext_any _ x _ (Nat.le_refl _) hx1 hx2).mono ?_
        rintro e w1 ⟨rfl, rfl⟩
        go_wp2
        refine ⟨⟨1, by omega, rfl, by rw [HS.out]; simp [ByteArray.mk_append_mk]⟩, ?_⟩
        simp [RowKit.intOf]; omega
      · have hsn' : rowTo (zs.take (k + 1)) = rowTo (zs.take k) ++ 44 :: Lib.itoa x := by
          rw [hsn]
          refine rowTo_more _ _ (fun e => ?_)
          have := HLK.out
          rw [e] at this
          simp at this; omega
        have HS := Lib.hid hsn'
        clear hsn hsn'
        have hpos : 0 < k := by omega
        generalize rowTo (zs.take k) = acc at hlen HS
        go_wp2_with fail
        refine (reftext_any _ x _ (Nat.le_refl _) hx1 hx2).mono ?_
        rintro e w1 ⟨rfl, rfl⟩
        go_wp2
        refine ⟨⟨k + 1, by omega, by go_num, by rw [HS.out]; simp [ByteArray.mk_append_mk]⟩, ?_⟩
        simp [RowKit.intOf]; omega
    · have hkl : k = len := by omega
      subst hkl
      have hne : (rowTo (zs.take k)).isEmpty = false := rowTo_full _ (fun e => by rw [e] at hlk; simp at hlk; omega)
      obtain ⟨acc, hacc⟩ : ∃ acc, acc = rowTo (zs.take k) := ⟨_, rfl⟩
      rw [← hacc] at hlen hne ⊢
      have HA := Lib.hid hacc
      clear hacc
      go_wp2
      go_ret
      exact ⟨congrArg (fun l : List UInt8 => Ending.returned (.string ⟨l.toArray⟩)) HA.out, rfl⟩
end Go.Proofs.Ytgoidhlemmdjgaa
