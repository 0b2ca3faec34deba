/-
  frame's isKind, fault, write, Put and Join, walked.
-/
import Derived.Test.YtgkpeehondmalaaVarPu
import Derived.Test.YtgkpeehondmalaaFrG
import Derived.Test.YtgkpeehondmalaaVarW
import Derived.Test.YtgkpeehondmalaaBuild
import Derived.Deep.QuietTactic
import Derived.BigQuiet
set_option linter.unusedSimpArgs false
set_option linter.unusedVariables false
namespace Go.Proofs.Ytgkpeehondmalaa
open Go.RowKit

theorem kind_yes (n : Int) (w : World) (h0 : 1 ≤ n) (h1 : n ≤ 127) : Calls Try.prog 26 #[.int .i64 n] w fun e w' => e = .returned (.bool true) ∧ w = w' := by
  go_enter Try.func26, Try.ntmps26
  go_wp2
  go_ret
  exact ⟨rfl, rfl⟩

theorem kind_no (n : Int) (w : World) (h : n < 1 ∨ 127 < n) : Calls Try.prog 26 #[.int .i64 n] w fun e w' => e = .returned (.bool false) ∧ w = w' := by
  by_cases h1 : 1 ≤ n
  · have hd : decide (n ≤ 127) = false := by simp; omega
    go_enter Try.func26, Try.ntmps26
    go_wp2
    go_ret
    exact ⟨rfl, rfl⟩
  · go_enter Try.func26, Try.ntmps26
    go_wp2
    go_ret
    exact ⟨rfl, rfl⟩

set_option maxHeartbeats 400000 in
theorem fault_any (f : Fr) (w : World) (hs : f.2.size ≤ 9223372036854775807) :
    Calls Try.prog 21 #[.agg #[.int .i64 f.1, .string f.2]] w fun e w' => e = .returned (.int .i64 (frE f)) ∧ Below w.heap.size w w' := by
  by_cases h0 : f.1 < 1
  · have he := Lib.hid (frE_low f h0)
    obtain ⟨k, d⟩ := f
    simp only at h0 hs ⊢
    go_enter Try.func21, Try.ntmps21
    go_wp2_with fail
    refine (kind_no k _ (by omega)).mono ?_
    rintro e w' ⟨rfl, rfl⟩
    go_wp2
    go_ret
    exact ⟨by rw [he.out]; rfl, (Below.refl _ _).alloc (Nat.le_refl _) _⟩
  by_cases h1 : 127 < f.1
  · have he := Lib.hid (frE_high f h0 h1)
    obtain ⟨k, d⟩ := f
    simp only at h0 h1 hs ⊢
    go_enter Try.func21, Try.ntmps21
    go_wp2_with fail
    refine (kind_no k _ (by omega)).mono ?_
    rintro e w' ⟨rfl, rfl⟩
    go_wp2
    go_ret
    exact ⟨by rw [he.out]; rfl, (Below.refl _ _).alloc (Nat.le_refl _) _⟩
  by_cases h2 : 67108864 < f.2.size
  · have he := Lib.hid (frE_long f h0 h1 h2)
    obtain ⟨k, d⟩ := f
    simp only at h0 h1 h2 hs ⊢
    go_enter Try.func21, Try.ntmps21
    go_wp2_with fail
    refine (kind_yes k _ (by omega) (by omega)).mono ?_
    rintro e w' ⟨rfl, rfl⟩
    go_wp2
    go_ret
    exact ⟨by rw [he.out]; rfl, (Below.refl _ _).alloc (Nat.le_refl _) _⟩
  · have he := Lib.hid (frE_ok f h0 h1 h2)
    obtain ⟨k, d⟩ := f
    simp only at h0 h1 h2 hs ⊢
    go_enter Try.func21, Try.ntmps21
    go_wp2_with fail
    refine (kind_yes k _ (by omega) (by omega)).mono ?_
    rintro e w' ⟨rfl, rfl⟩
    go_wp2
    go_ret
    exact ⟨by rw [he.out]; rfl, (Below.refl _ _).alloc (Nat.le_refl _) _⟩

theorem strCells_eq (s : ByteArray) : Lib.strCells s = Lib.byteCells s.data.toList := rfl

set_option maxHeartbeats 1000000 in
theorem frwrite_any (B b : Nat) (l : List UInt8) (f : Fr) (w : World) (he : frE f = 0)
    (hbu : Lib.IsBuilder 53 5 B b (Lib.byteCells l) w) (hl : l.length ≤ 1000000000) (hBw : B ≤ w.heap.size) :
    Calls Try.prog 22 #[.pointer (some ⟨b, 0, none⟩), .agg #[.int .i64 f.1, .string f.2]] w fun e w' => e = .returned (.tuple #[]) ∧
      Lib.IsBuilder 53 5 B b (Lib.byteCells (l ++ frB f)) w' ∧ Below B w w' := by
  obtain ⟨h1, h2, h3⟩ := frE_parts f he
  clear he
  obtain ⟨k, d⟩ := f
  simp only at h1 h2 h3
  have hV := vput_length (d.size : Int) (by omega)
  have hvb := vb_toNat k (by omega) (by omega)
  go_enter Try.func22, Try.ntmps22
  go_wp2_with fail
  have hbo := Lib.hid (heap_alloc_new w (.cells #[.int .i64 k, .string d] 37))
  have hlt := IsBuilder.lt hbu
  refine (writeByteK B b (Lib.byteCells l) _ _ (IsBuilder.below hbu ((Below.refl _ _).alloc (Nat.le_refl _) _)) (by rw [Lib.byteCells_length]; omega) (by simp; omega)).mono ?_
  rintro e w1 ⟨rfl, hbu1, hb1, hk1⟩
  have hx1 := Lib.hid (hk1 _ _ _ _ (by omega) (by decide) hbo.out)
  have hsz1 := hb1.size
  have hc0 : w1.cell? ⟨w.heap.size, 0, none⟩ = some (.int .i64 k) := by rw [Lib.cell_of_heap hx1.out]; rfl
  have hc1 : w1.cell? ⟨w.heap.size, 1, none⟩ = some (.string d) := by rw [Lib.cell_of_heap hx1.out]; rfl
  go_wp2_with fail
  refine (put_any (d.size : Int) _ (by omega) (by omega)).mono ?_
  rintro e w2 ⟨rfl, hb2⟩
  have hx2 := Lib.hid (Kept.below (b := b) (e := 5) hb2 _ _ _ _ (by omega) (by decide) hx1.out)
  have hsz2 := hb2.size
  go_wp2_with fail
  refine (writeStringK B b _ _ _ (IsBuilder.below (Or.inr hbu1) hb2) ?_ ?_).mono ?_
  · rw [List.length_append, Lib.byteCells_length, bsize]; simp; omega
  · simp at hsz1; omega
  rintro e w3 ⟨rfl, hbu3, hb3, hk3⟩
  have hx3 := Lib.hid (hk3 _ _ _ _ (by omega) (by decide) hx2.out)
  have hd0 : w3.cell? ⟨w.heap.size, 0, none⟩ = some (.int .i64 k) := by rw [Lib.cell_of_heap hx3.out]; rfl
  have hd1 : w3.cell? ⟨w.heap.size, 1, none⟩ = some (.string d) := by rw [Lib.cell_of_heap hx3.out]; rfl
  go_wp2_with fail
  refine (writeString B b _ _ _ (Or.inr hbu3) ?_ ?_).mono ?_
  · rw [List.length_append, List.length_append, Lib.byteCells_length, Lib.strCells_length, bsize]; simp; omega
  · have := hb3.size; simp at hsz1; omega
  rintro e w4 ⟨rfl, hbu4, hb4⟩
  go_wp2
  go_end0
  refine ⟨rfl, ?_, ?_⟩
  · have hbu5 : Lib.IsBuilder 53 5 B b _ w4 := Or.inr hbu4
    simpa [frB, Lib.byteCells, Lib.strCells, Lib.IsBuilder, hvb] using hbu5
  · exact (((((Below.refl _ _).alloc hBw _).trans hb1).trans (hb2.mono (by simp at hsz1; omega))).trans hb3).trans hb4

set_option maxHeartbeats 1000000 in
theorem frput_any (f : Fr) (w : World) (hs : f.2.size ≤ 9223372036854775807) :
    Calls Try.prog 13 #[.agg #[.int .i64 f.1, .string f.2]] w fun e w' => e = .returned (.tuple #[.string ⟨(putB f).toArray⟩, .int .i64 (frE f)]) ∧ Below w.heap.size w w' := by
  have hF : Hid (∀ W, Calls Try.prog 21 #[.agg #[.int .i64 f.1, .string f.2]] W fun e w' => e = .returned (.int .i64 (frE f)) ∧ Below W.heap.size W w') := Lib.hid (fun W => fault_any f W hs)
  by_cases he : frE f = 0
  · have hp : Hid (putB f = frB f) := Lib.hid (by unfold putB; rw [if_pos he])
    have hW : Hid (∀ B b W, Lib.IsBuilder 53 5 B b (Lib.byteCells []) W → B ≤ W.heap.size → Calls Try.prog 22 #[.pointer (some ⟨b, 0, none⟩), .agg #[.int .i64 f.1, .string f.2]] W fun e w' => e = .returned (.tuple #[]) ∧
      Lib.IsBuilder 53 5 B b (Lib.byteCells (frB f)) w' ∧ Below B W w') := Lib.hid (fun B b W h1 h2 => frwrite_any B b [] f W he h1 (by simp) h2)
    rw [he] at hF ⊢
    rw [hp.out]
    clear he
    generalize frB f = bs at hW
    obtain ⟨k, d⟩ := f
    simp only at hs hF hW ⊢
    go_enter Try.func13, Try.ntmps13
    go_wp2_with fail
    refine (hF.out _).mono ?_
    rintro e w1 ⟨rfl, hb1⟩
    have hsz1 := hb1.size
    have hc0 : ∀ o, (w1.alloc o).cell? ⟨w.heap.size, 0, none⟩ = some (.int .i64 k) := fun o => cell_alloc (cell_below (Lib.cell_of_heap (heap_alloc_new w _) 0) hb1) o
    have hc1 : ∀ o, (w1.alloc o).cell? ⟨w.heap.size, 1, none⟩ = some (.string d) := fun o => cell_alloc (cell_below (Lib.cell_of_heap (heap_alloc_new w _) 1) hb1) o
    go_wp2_with fail
    refine (hW.out w1.heap.size _ _ ?_ ?_).mono ?_
    · exact Lib.fresh_isBuilder _ _ w1
    · simp
    rintro e w2 ⟨rfl, hbu2, hb2⟩
    have hsz2 := hb2.size
    have hbe : Below w1.heap.size w1 w2 := ((Below.refl _ _).alloc (Nat.le_refl _) _).trans hb2
    go_wp2_with (go_at_call 23; refine (Try.Builder_String_any _ _ _ _ hbu2 hbe.size).mono ?_; rintro e w3 ⟨rfl, hb3⟩)
    go_ret2
    exact ⟨rfl, ((Below.refl _ _).alloc (Nat.le_refl _) _).trans ((hb1.mono (by simp)).trans ((hbe.trans hb3).mono (by simp at hsz1; omega)))⟩
  · have hp : Hid (putB f = []) := Lib.hid (by unfold putB; rw [if_neg he])
    rw [hp.out]
    have he' : (frE f == 0) = false := by simpa using he
    generalize frE f = x at *
    obtain ⟨k, d⟩ := f
    simp only at hs hF ⊢
    clear he
    go_enter Try.func13, Try.ntmps13
    go_wp2_with fail
    refine (hF.out _).mono ?_
    rintro e w1 ⟨rfl, hb1⟩
    go_wp2
    go_ret2
    exact ⟨rfl, ((Below.refl _ _).alloc (Nat.le_refl _) _).trans (hb1.mono (by simp))⟩
end Go.Proofs.Ytgkpeehondmalaa
