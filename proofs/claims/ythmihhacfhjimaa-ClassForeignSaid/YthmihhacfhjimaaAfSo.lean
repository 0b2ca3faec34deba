/-
  affix: Sorted, walked over the library's contracts of Clone and SortFunc.
-/
import Derived.Test.YthmihhacfhjimaaAfCm
import Derived.Sort.OwnSorted
set_option linter.unusedSimpArgs false
set_option linter.unusedVariables false
namespace Go.Proofs.Ythmihhacfhjimaa
open Go.RowKit
open Go.Sort hiding Below

/-- A list of texts, owned. -/
def RetO (ws : List (List UInt8)) (w : World) (e : Ending) (w' : World) : Prop := ∃ v, e = .returned v ∧ w'.ownsRow w.heap.size 9 1 v ws.length (txCells ws) ∧ Below w.heap.size w w'

theorem clone_own (a : Option Addr) (len cap : Nat) (ws : List (List UInt8)) (w : World) (hl : len ≤ 1000000) (hr : IsStrs w a len ws) :
    Calls Try.prog 22 #[.slice a len cap] w (RetO ws w) := by
  have hwl := hr.1
  by_cases h0 : len = 0
  · subst h0
    obtain rfl : ws = [] := List.eq_nil_of_length_eq_zero hwl
    cases a with
    | none =>
      refine (Try.slices_Clone_string_nil 0 cap w).mono ?_
      rintro e w' ⟨rfl, rfl⟩
      exact ⟨_, rfl, World.ownsRow_nil _ _ _ _, Below.refl _ _⟩
    | some x =>
      refine (Try.slices_Clone_string_zero x cap w).mono ?_
      rintro e w' ⟨v, rfl, hown, hv, hb⟩
      exact ⟨v, rfl, hown, hb⟩
  · obtain ⟨b, off, rfl, _⟩ := str_at hr (Below.refl _ _) 0 (by omega)
    refine (Try.slices_Clone_string b off len cap (ws.map fun t => (⟨t.toArray⟩ : ByteArray)) w (by simp; omega) (by omega) ?_).mono ?_
    · intro j hj
      rw [List.length_map] at hj
      obtain ⟨b', off', e', t, hf, hc⟩ := str_at hr (Below.refl _ _) j (by omega)
      cases e'
      rw [hc]
      congr 2
      simp [List.getD, hf]
    · rintro e w' ⟨v, rfl, hown, hv, hb⟩
      have e1 : ((ws.map fun t => (⟨t.toArray⟩ : ByteArray)).take len).map Value.string = txCells ws := by
        rw [List.take_of_length_le (by simp; omega), List.map_map]; rfl
      rw [e1, ← hwl] at hown
      exact ⟨v, rfl, hown, hb⟩

theorem lt_of (x y : List UInt8) : ltOf Lib.compareBytes x y = decide (x < y) := by
  unfold ltOf
  rw [Bool.eq_iff_iff]
  simp only [decide_eq_true_eq]
  exact cmp_neg x y
theorem swoB : Sort.SWO (ltOf Lib.compareBytes) where
  irrefl x := by rw [lt_of]; simp [List.lt_irrefl]
  trans x y z h1 h2 := by rw [lt_of] at *; simp only [decide_eq_true_eq] at *; exact List.lt_trans h1 h2
  ntrans x y z h1 h2 := by
    rw [lt_of] at *
    simp only [decide_eq_false_iff_not, List.not_lt] at *
    exact List.le_trans h2 h1
theorem sort_is (ws : List (List UInt8)) : (ws.mergeSort fun x y => !(ltOf Lib.compareBytes) y x) = srt ws := by
  unfold srt
  congr 1
  funext x y
  rw [lt_of]
  by_cases h : x ≤ y
  · have h' : ¬ y < x := List.not_lt.2 h
    simp [h, h']
  · have h' : y < x := List.not_le.1 h
    simp [h, h']
theorem part_all (x y : List UInt8) (h1 : ltOf Lib.compareBytes x y = false) (h2 : ltOf Lib.compareBytes y x = false) : x = y := by
  rw [lt_of] at h1 h2
  simp only [decide_eq_false_iff_not, List.not_lt] at h1 h2
  exact List.le_antisymm h2 h1

theorem cmp_enters : ∀ args w, (callFunc 24 args).run Try.prog w = .ok (.enter 24 args) w := enters_of Try.func24 (by kernel_rfl) rfl
theorem cmp_reads (blk off size : Nat) (w : World) : CmpReads Try.prog 24 #[] encStr Lib.compareBytes blk off size w :=
  fun _ _ _ _ x y => (compare_any x y _).mono fun _ _ ⟨he, hw⟩ => ⟨he, 0, hw⟩

/-- The sort at a slice of the call's own. -/
theorem sort_own {base : Nat} (v : Value) (ws : List (List UInt8)) (w : World) (hl : ws.length ≤ 1000000) (hown : w.ownsRow base 9 1 v ws.length (txCells ws)) :
    Calls Try.prog 23 #[v, .func (.func 24) #[] #[]] w fun e w' => e = .returned (.tuple #[]) ∧ w'.ownsRow base 9 1 v ws.length (txCells (srt ws)) ∧ w.grownBy w' v.ownBlock := by
  rcases hown.2 with ⟨rfl, h0⟩ | ⟨g, cap, cur, rfl, hbase, hb, h1, h2, h3, h4⟩
  · obtain rfl : ws = [] := List.eq_nil_of_length_eq_zero h0
    refine (Try.slices_SortFunc_none (α := List UInt8) none 0 _ w).mono ?_
    rintro e w' ⟨rfl, rfl⟩
    exact ⟨rfl, by rw [show srt [] = [] from List.eq_nil_of_length_eq_zero (srt_length [])]; exact hown, ⟨rfl, rfl, rfl, Nat.le_refl _, fun _ _ _ => rfl⟩⟩
  · have hlt : g < w.heap.size := (Array.getElem?_eq_some_iff.1 hb).1
    have h := Try.slices_SortFunc_total encStr (fun _ => rfl) Lib.compareBytes swoB 24 #[] g 0 cap ws.toArray w cmp_enters (cmp_reads g 0 ws.toArray.size w).lays
      (holds_of_block hb (by rw [Nat.mul_one] at h4; exact h4)) hlt (by simp; omega) part_all
    simp only [List.size_toArray, List.toList_toArray] at h
    rw [sort_is] at h
    refine h.mono ?_
    rintro e w' ⟨rfl, n, os, rfl⟩
    exact ⟨rfl, ownsRow_sorted (srt_length ws) hbase hb h1 h2 h3, grownBy_sorted _⟩

set_option maxHeartbeats 1000000 in
theorem sorted_any (a : Option Addr) (len cap : Nat) (ws : List (List UInt8)) (w : World) (hl : len ≤ 1000000) (hr : IsStrs w a len ws) :
    Calls Try.prog 14 #[.slice a len cap] w (RetO (srt ws) w) := by
  have HC := Lib.hid (clone_own a len cap ws w hl hr)
  have hwl := hr.1
  clear hr
  go_enter Try.func14, Try.ntmps14
  go_wp2_with fail
  refine HC.out.mono ?_
  rintro e w1 ⟨v, rfl, hown, hb1⟩
  have HS := Lib.hid (sort_own v ws w1 (by omega) hown)
  go_wp2_with fail
  refine HS.out.mono ?_
  rintro e w2 ⟨rfl, hown2, hgrow⟩
  have h2 : Below w.heap.size w w2 := hb1.grown hgrow hb1.size (fun k hk => (hown.lt k hk).1)
  clear hgrow hown HC HS
  go_wp2
  go_ret
  exact ⟨v, rfl, by rw [srt_length]; exact hown2, h2⟩
end Go.Proofs.Ythmihhacfhjimaa
