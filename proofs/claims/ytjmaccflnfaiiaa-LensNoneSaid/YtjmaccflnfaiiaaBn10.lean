/-
  Texts put together: LnJ.
-/
import Derived.Test.YtjmaccflnfaiiaaLnI
set_option linter.unusedSimpArgs false
set_option linter.unusedVariables false
namespace Go.Proofs.Ytjmaccflnfaiiaa
open Go.RowKit

set_option maxRecDepth 100000 in
set_option maxHeartbeats 8000000 in
theorem lnread_raw {W : World} {B b : Nat} {l cm : List UInt8} {v : Value} {x : Rn} {y : Int} {cl : Bool} (h : LnRaw W B b l cm v 0 x y cl) (hlen : l.length + cm.length ≤ 1000000) (k n r : Int) (ids : List Int) (a : Option Addr) (len cap p : Nat) (hp : p ≤ l.length) :
    Calls Try.prog 27 #[.pointer (some ⟨b, 0, none⟩), .agg #[.int .i64 k, .int .i64 n, .int .i64 r, .slice a len cap], .int .i64 (p : Int)] W fun e W' => e = .returned (.tuple #[]) ∧
      (∃ v', (k = 6 ∧ LnRaw W' B b [] [] v' ((l.drop p).length + cm.length) ⟨k, n, r, ids⟩ y cl) ∨ (k ≠ 6 ∧ LnRaw W' B b (l.drop p) cm v' 0 ⟨k, n, r, ids⟩ y cl)) ∧ LnKp B W W' := by
  obtain ⟨w1, hw1⟩ : ∃ w1, W.alloc (.cells #[.int .i64 k, .int .i64 n, .int .i64 r, .slice a len cap] 34) = w1 := ⟨_, rfl⟩
  have hX1 : w1.heap[W.heap.size]? = some (.cells #[.int .i64 k, .int .i64 n, .int .i64 r, .slice a len cap] 34 (0, 0)) := by rw [← hw1]; exact heap_alloc_new W _
  have hB1 : Below W.heap.size W w1 := by rw [← hw1]; exact (Below.refl W.heap.size W).alloc (Nat.le_refl _) _
  have h1 := h.below hB1
  have HK1 := Lib.hid (LnKp.below h.le hB1)
  obtain ⟨c0, _, _, c3, c4, c5, c6, _, _⟩ := raw_reads h1
  have f0 := raw_free h1 0
  have f3 := raw_free h1 3
  have f4 := raw_free h1 4
  have f5 := raw_free h1 5
  have f6 := raw_free h1 6
  have hb0 : W.heap.size ≠ b := type_ne hX1 h1.cells (by decide)
  have hpl : (p : Int) ≤ (l.length : Int) := by omega
  have hp0 : (0 : Int) ≤ (p : Int) := by omega
  have x2 := ext_rest l p
  have S1 := Lib.hid (bsize l)
  have hdl : (l.drop p).length ≤ l.length := by rw [List.length_drop]; omega
  -- what is left
  have hI0 := (Into.refl b w1).set 0 (.string ⟨(l.drop p).toArray⟩)
  have h2 : LnRaw (w1.setCell ⟨b, 0, none⟩ (.string ⟨(l.drop p).toArray⟩)) B b (l.drop p) cm v 0 x y cl := ⟨h1.base, put_heap h1.cells (i := 0) _, raw_row h1 hI0⟩
  have hk2 := raw_kp h1 hI0
  have hX2 := (hI0.block _ hb0).trans hX1
  obtain ⟨w2, hw2⟩ : ∃ w2, w1.setCell ⟨b, 0, none⟩ (.string ⟨(l.drop p).toArray⟩) = w2 := ⟨_, rfl⟩
  rw [hw2] at h2 hk2 hX2
  obtain ⟨_, _, _, g3, g4, g5, g6, _, _⟩ := raw_reads h2
  have e3 := raw_free h2 3
  have e4 := raw_free h2 4
  have e5 := raw_free h2 5
  have e6 := raw_free h2 6
  obtain ⟨d0, d1, d2, d3⟩ := rec_reads hX2
  -- the last record
  have hI := ((((Into.refl b w2).set 3 (.int .i64 k)).set 4 (.int .i64 n)).set 5 (.int .i64 r)).set 6 (.slice none 0 0)
  have h3 : LnRaw ((((w2.setCell ⟨b, 3, none⟩ (.int .i64 k)).setCell ⟨b, 4, none⟩ (.int .i64 n)).setCell ⟨b, 5, none⟩ (.int .i64 r)).setCell ⟨b, 6, none⟩ (.slice none 0 0)) B b (l.drop p) cm v 0 ⟨k, n, r, ids⟩ y cl :=
    ⟨h2.base, put_heap (put_heap (put_heap (put_heap h2.cells (i := 3) _) (i := 4) _) (i := 5) _) (i := 6) _, raw_row h2 hI⟩
  have hk3 := raw_kp h2 hI
  obtain ⟨w3, hw3⟩ : ∃ w3, (((w2.setCell ⟨b, 3, none⟩ (.int .i64 k)).setCell ⟨b, 4, none⟩ (.int .i64 n)).setCell ⟨b, 5, none⟩ (.int .i64 r)).setCell ⟨b, 6, none⟩ (.slice none 0 0) = w3 := ⟨_, rfl⟩
  rw [hw3] at h3 hk3
  have HE := Lib.hid (lnended_raw h3)
  dsimp only at HE
  have HL3 := Lib.hid h3
  have HK3 := Lib.hid ((HK1.out.trans hk2).trans hk3)
  clear h h1 h2 h3 hX1 hX2 hI0 hI hk2 hk3 hB1
  by_cases h6 : k = 6
  · subst h6
    have hf := fun (w : World) (hb : Below w3.heap.size w3 w) => lnforget_raw (HL3.out.below hb) (by omega)
    have HF := Lib.hid hf
    clear hf
    go_enter Try.func27, Try.ntmps27
    go_wp2_with fail
    try rw [hw1]
    go_wp2_with fail
    try rw [hw2]
    go_wp2_with fail
    try rw [hw3]
    refine HE.out.mono ?_
    rintro e w4 ⟨rfl, hb⟩
    have HF4 := Lib.hid (HF.out w4 hb)
    have HK4 := Lib.hid (HK3.out.on HL3.out.le hb)
    clear hb HF HE
    go_wp2_with fail
    refine HF4.out.mono ?_
    rintro e w5 ⟨rfl, h5, hk5⟩
    have HL5 := Lib.hid h5
    have HK5 := Lib.hid (HK4.out.trans hk5)
    clear h5 hk5 HF4
    go_wp2
    go_end0
    exact ⟨rfl, ⟨_, .inl ⟨by first | trivial | rfl, HL5.out⟩⟩, HK5.out⟩
  · rw [decide_eq_false h6] at HE
    go_enter Try.func27, Try.ntmps27
    go_wp2_with fail
    try rw [hw1]
    go_wp2_with fail
    try rw [hw2]
    go_wp2_with fail
    try rw [hw3]
    refine HE.out.mono ?_
    rintro e w4 ⟨rfl, hb⟩
    have HL4 := Lib.hid (HL3.out.below hb)
    have HK4 := Lib.hid (HK3.out.on HL3.out.le hb)
    clear hb HE
    go_wp2
    go_end0
    exact ⟨rfl, ⟨_, .inr ⟨h6, HL4.out⟩⟩, HK4.out⟩
end Go.Proofs.Ytjmaccflnfaiiaa
