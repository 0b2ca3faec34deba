/-
  The law's 'awake' of layer 9; the law AffixTells: walked.
-/
import Derived.Test.YtklogiingfkfnaaAfS
import Derived.Test.YtklogiingfkfnaaAfH
import Derived.Test.YtklogiingfkfnaaAfT
import Derived.Test.YtklogiingfkfnaaStrS
import Derived.Test.YtklogiingfkfnaaSameI
set_option linter.unusedSimpArgs false
set_option linter.unusedVariables false
namespace Go.Proofs.Ytklogiingfkfnaa
open Go.RowKit

/-- Texts in one block of their own. -/
theorem strs_heap {w : World} {g n : Nat} {ws : List (List UInt8)} {T : TypeId} (h : w.heap[g]? = some (.cells (txCells ws).toArray T (0, 0))) (hn : ws.length = n) : IsStrs w (some ⟨g, 0, none⟩) n ws := by
  refine ⟨hn, .inr ⟨g, 0, rfl, fun i hi => ?_⟩⟩
  rw [Nat.zero_add, Lib.cell_of_heap h]
  simp [txCells, List.getElem?_eq_getElem hi]

theorem cmp_ex : Lib.compareBytes [97, 98] [97, 98, 99] = -1 := by decide +kernel
theorem srt_ex : srt [[98], [97, 98], [97], [97, 98]] = [[97], [97, 98], [97, 98], [98]] := by
  rw [← ins_srt]; decide +kernel
theorem tw_ex : twS [] [[97], [98], [97]] 0 = 2 := by decide +kernel
theorem shr_ex : shr [[97, 98], [97, 98, 99], [98]] = [0, 2, 0] := by decide +kernel

theorem sorted_use (a : Option Addr) (len cap : Nat) (ws : List (List UInt8)) (w : World) (hl : len ≤ 1000000) (hr : IsStrs w a len ws) :
    Calls Try.prog 16 #[.slice a len cap] w (RetL (srt ws) w) := by
  refine (sorted_any a len cap ws w hl hr).mono ?_
  rintro e w' ⟨v, rfl, hown, hb⟩
  obtain ⟨ao, cap', rfl, hs⟩ := owns_strs hown
  exact ⟨ao, cap', rfl, hs, hb⟩

set_option maxHeartbeats 2000000 in
theorem afawake_any (w : World) :
    Calls Try.prog 6 #[] w fun e w' => e = .returned (.bool true) ∧ Below w.heap.size w w' := by
  have H1 : Hid (∀ w, Calls Try.prog 13 #[.string ⟨#[97, 98]⟩, .string ⟨#[97, 98, 99]⟩] w fun e w' => e = .returned (.int .i64 (-1)) ∧ w' = w) := Lib.hid (fun w => by
    have := compare_any [97, 98] [97, 98, 99] w
    rw [cmp_ex] at this
    exact this)
  have hA := strs_heap (ws := [[98], [97, 98], [97], [97, 98]]) (heap_alloc_new w (.cells (txCells [[98], [97, 98], [97], [97, 98]]).toArray 9)) rfl
  have H2 := Lib.hid (sorted_use (some ⟨w.heap.size, 0, none⟩) 4 4 _ _ (by omega) hA)
  rw [srt_ex] at H2
  have c1 : Below w.heap.size w (w.alloc (.cells (txCells [[98], [97, 98], [97], [97, 98]]).toArray 9)) := (Below.refl _ w).alloc (Nat.le_refl _) _
  have s1 := c1.size
  clear hA
  go_enter Try.func6, Try.ntmps6
  go_wp2_with fail
  refine (H1.out w).mono ?_
  rintro e w' ⟨rfl, rfl⟩
  go_wp2_with fail
  refine H2.out.mono ?_
  rintro e w2 ⟨a2, cap2, rfl, hs2, hb2⟩
  have d2 := c1.trans (hb2.mono s1)
  have e2 := d2.size
  have c3 : Below w2.heap.size w2 (w2.alloc (.cells (txCells [[97], [97, 98], [97, 98], [98]]).toArray 9)) := (Below.refl _ w2).alloc (Nat.le_refl _) _
  have hB := strs_heap (ws := [[97], [97, 98], [97, 98], [98]]) (heap_alloc_new w2 (.cells (txCells [[97], [97, 98], [97, 98], [98]]).toArray 9)) rfl
  have M3 := Lib.hid (essame_any a2 _ 4 cap2 4 _ _ (by omega) (hs2.below c3) hB)
  have d3 := d2.trans (c3.mono e2)
  have e3 := d3.size
  clear hs2 hB H2 H1 hb2 c1 s1 c3 d2
  go_wp2_with fail
  refine M3.out.mono ?_
  rintro e w3 ⟨rfl, hb3⟩
  have d4 := d3.trans (hb3.mono e3)
  have e4 := d4.size
  have c4 : Below w3.heap.size w3 (w3.alloc (.cells (txCells [[97], [98], [97]]).toArray 9)) := (Below.refl _ w3).alloc (Nat.le_refl _) _
  have hC := strs_heap (ws := [[97], [98], [97]]) (heap_alloc_new w3 (.cells (txCells [[97], [98], [97]]).toArray 9)) rfl
  have M4 := Lib.hid (twice_any _ 3 3 _ _ (by omega) hC (by unfold maxLen; decide))
  rw [tw_ex] at M4
  have d5 := d4.trans (c4.mono e4)
  have e5 := d5.size
  clear M3 d3 hb3 e3 e2 c4 hC d4
  go_wp2_with fail
  refine M4.out.mono ?_
  rintro e w4 ⟨rfl, hb4⟩
  have d6 := d5.trans (hb4.mono e5)
  have e6 := d6.size
  have c6 : Below w4.heap.size w4 (w4.alloc (.cells (txCells [[97, 98], [97, 98, 99], [98]]).toArray 9)) := (Below.refl _ w4).alloc (Nat.le_refl _) _
  have hD := strs_heap (ws := [[97, 98], [97, 98, 99], [98]]) (heap_alloc_new w4 (.cells (txCells [[97, 98], [97, 98, 99], [98]]).toArray 9)) rfl
  have M6 := Lib.hid (shared_any _ 3 3 _ _ (by omega) hD (by decide))
  rw [shr_ex] at M6
  have d7 := d6.trans (c6.mono e6)
  have e7 := d7.size
  clear M4 d5 e4 e5 d6 hD c6
  go_wp2_with fail
  refine M6.out.mono ?_
  rintro e w5 ⟨a5, cap5, rfl, hr5, hb5⟩
  have d8 := d7.trans (hb5.mono e7)
  have e8 := d8.size
  have c8 : Below w5.heap.size w5 (w5.alloc (.cells #[.int .i64 0, .int .i64 2, .int .i64 0] 3)) := (Below.refl _ w5).alloc (Nat.le_refl _) _
  have r8 : IsRow .i64 (w5.alloc (.cells #[.int .i64 0, .int .i64 2, .int .i64 0] 3)) (some ⟨w5.heap.size, 0, none⟩) 3 3 [0, 2, 0] := row_heap (heap_alloc_new w5 _) rfl (by unfold maxLen; omega)
  have M8 := Lib.hid (isame_any a5 _ 3 cap5 3 3 3 _ _ (by omega) (hr5.below c8) r8)
  have d9 := d8.trans (c8.mono e8)
  have e9 := d9.size
  clear M6 d7 e6 e7 hr5 r8 c8 d8 hb5
  go_wp2_with fail
  refine M8.out.mono ?_
  rintro e w7 ⟨rfl, hb7⟩
  have d10 := d9.trans (hb7.mono e9)
  clear M8 d9 hb7
  go_wp2
  go_ret
  exact ⟨rfl, d10⟩

theorem aftells_long (s t : ByteArray) (w : World) (h : 200 < s.size ∨ 200 < t.size) (hm : s.size ≤ 9223372036854775807) (hm2 : t.size ≤ 9223372036854775807) :
    Calls Try.prog 3 #[.string s, .string t] w fun e w' => e = .returned (.bool true) ∧ Below w.heap.size w w' := by
  by_cases h1 : 200 < s.size
  · go_enter Try.func3, Try.ntmps3
    go_wp2_with fail
    refine (afawake_any _).mono ?_
    rintro e w' ⟨rfl, hb⟩
    go_wp2
    go_ret
    exact ⟨rfl, hb⟩
  · have h2 : 200 < t.size := by omega
    go_enter Try.func3, Try.ntmps3
    go_wp2_with fail
    refine (afawake_any _).mono ?_
    rintro e w' ⟨rfl, hb⟩
    go_wp2
    go_ret
    exact ⟨rfl, hb⟩

set_option maxHeartbeats 2000000 in
theorem aftells_short (a b : List UInt8) (w : World) (ha : a.length ≤ 200) (hb : b.length ≤ 200) :
    Calls Try.prog 3 #[.string ⟨a.toArray⟩, .string ⟨b.toArray⟩] w fun e w' => e = .returned (.bool true) ∧ Below w.heap.size w w' := by
  have S1 := Lib.hid (bsize a)
  have S2 := Lib.hid (bsize b)
  have hP := fun w => prefix_any a b w (by omega) (by omega)
  have hP2 := fun w => rprefix_any a b w (by omega) (by omega)
  have hS := fun w => suffix_any a b w (by omega) (by omega)
  have hS2 := fun w => rsuffix_any a b w (by omega) (by omega)
  have hB := fun w => begins_any a b w
  have hE := fun w => ends_any a b w (by omega)
  have hC := fun w => compare_any a b w
  have hC2 := fun w => rcompare_any a b w
  rw [bool_pre] at hB
  rw [bool_suf] at hE
  generalize preL a b = p at hP hP2 hB
  generalize sufL a b = q at hS hS2 hE
  generalize Lib.compareBytes a b = r at hC hC2
  obtain ⟨β, hβ⟩ : ∃ β, decide ((p : Int) = (b.length : Int)) = β := ⟨_, rfl⟩
  obtain ⟨γ, hγ⟩ : ∃ γ, decide ((q : Int) = (b.length : Int)) = γ := ⟨_, rfl⟩
  rw [hβ] at hB
  rw [hγ] at hE
  have HP := Lib.hid hP
  have HP2 := Lib.hid hP2
  have HS := Lib.hid hS
  have HS2 := Lib.hid hS2
  have HB := Lib.hid hB
  have HE := Lib.hid hE
  have HC := Lib.hid hC
  have HC2 := Lib.hid hC2
  have HG := Lib.hid hβ
  have HG2 := Lib.hid hγ
  clear hP hP2 hS hS2 hB hE hC hC2 hβ hγ
  have hbβ : ((p : Int) == (b.length : Int)) = β := by rw [← HG.out]; rfl
  have hbγ : ((q : Int) == (b.length : Int)) = γ := by rw [← HG2.out]; rfl
  have HBB := Lib.hid hbβ
  have HBG := Lib.hid hbγ
  clear HG HG2 hbβ hbγ
  go_enter Try.func3, Try.ntmps3
  go_wp2_with fail
  refine (HP2.out w).mono ?_
  rintro e w1 ⟨rfl, d1⟩
  have e1 := d1.size
  go_wp2_with fail
  refine (HS2.out w1).mono ?_
  rintro e w2 ⟨rfl, hb2⟩
  have d2 := d1.trans (hb2.mono e1)
  have e2 := d2.size
  clear d1 e1 hb2
  go_wp2_with fail
  refine (HP.out w2).mono ?_
  rintro e w3 ⟨rfl, hb3⟩
  have d3 := d2.trans (hb3.mono e2)
  have e3 := d3.size
  clear d2 e2 hb3
  go_wp2_with fail
  refine (HS.out w3).mono ?_
  rintro e w4 ⟨rfl, hb4⟩
  have d4 := d3.trans (hb4.mono e3)
  have e4 := d4.size
  clear d3 e3 hb4
  go_wp2_with fail
  have q1 := HBB.out
  cases β with
  | true =>
    refine (HB.out w4).mono ?_
    rintro e w5 ⟨rfl, rfl⟩
    go_wp2_with fail
    have q2 := HBG.out
    cases γ with
    | true =>
      refine (HE.out _).mono ?_
      rintro e w6 ⟨rfl, rfl⟩
      go_wp2_with fail
      refine (HC.out _).mono ?_
      rintro e w7 ⟨rfl, rfl⟩
      go_wp2_with fail
      refine (HC2.out _).mono ?_
      rintro e w8 ⟨rfl, rfl⟩
      go_wp2_with fail
      refine (afawake_any _).mono ?_
      rintro e w9 ⟨rfl, hb9⟩
      have d9 := d4.trans (hb9.mono e4)
      go_wp2
      go_ret
      exact ⟨rfl, d9⟩
    | false =>
      refine (HE.out _).mono ?_
      rintro e w6 ⟨rfl, rfl⟩
      go_wp2_with fail
      refine (HC.out _).mono ?_
      rintro e w7 ⟨rfl, rfl⟩
      go_wp2_with fail
      refine (HC2.out _).mono ?_
      rintro e w8 ⟨rfl, rfl⟩
      go_wp2_with fail
      refine (afawake_any _).mono ?_
      rintro e w9 ⟨rfl, hb9⟩
      have d9 := d4.trans (hb9.mono e4)
      go_wp2
      go_ret
      exact ⟨rfl, d9⟩
  | false =>
    refine (HB.out w4).mono ?_
    rintro e w5 ⟨rfl, rfl⟩
    go_wp2_with fail
    have q2 := HBG.out
    cases γ with
    | true =>
      refine (HE.out _).mono ?_
      rintro e w6 ⟨rfl, rfl⟩
      go_wp2_with fail
      refine (HC.out _).mono ?_
      rintro e w7 ⟨rfl, rfl⟩
      go_wp2_with fail
      refine (HC2.out _).mono ?_
      rintro e w8 ⟨rfl, rfl⟩
      go_wp2_with fail
      refine (afawake_any _).mono ?_
      rintro e w9 ⟨rfl, hb9⟩
      have d9 := d4.trans (hb9.mono e4)
      go_wp2
      go_ret
      exact ⟨rfl, d9⟩
    | false =>
      refine (HE.out _).mono ?_
      rintro e w6 ⟨rfl, rfl⟩
      go_wp2_with fail
      refine (HC.out _).mono ?_
      rintro e w7 ⟨rfl, rfl⟩
      go_wp2_with fail
      refine (HC2.out _).mono ?_
      rintro e w8 ⟨rfl, rfl⟩
      go_wp2_with fail
      refine (afawake_any _).mono ?_
      rintro e w9 ⟨rfl, hb9⟩
      have d9 := d4.trans (hb9.mono e4)
      go_wp2
      go_ret
      exact ⟨rfl, d9⟩
end Go.Proofs.Ytklogiingfkfnaa
