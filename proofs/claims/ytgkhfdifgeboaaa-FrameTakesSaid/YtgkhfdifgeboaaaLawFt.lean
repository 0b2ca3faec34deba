/-
  The law FrameTakes, walked: for every string it returns true, and writes nothing that was there.
-/
import Derived.Test.YtgkhfdifgeboaaaFrSm
import Derived.Test.YtgkhfdifgeboaaaFrRs
set_option linter.unusedSimpArgs false
set_option linter.unusedVariables false
namespace Go.Proofs.Ytgkhfdifgeboaaa
open Go.RowKit

theorem ftakes_long (s : ByteArray) (w : World) (h : 2000 < s.size) (hm : s.size ≤ maxLen) :
    Calls Try.prog 4 #[.string s] w fun e w' => e = .returned (.bool true) ∧ Below w.heap.size w w' := by
  unfold maxLen at hm
  go_enter Try.func4, Try.ntmps4
  go_wp2_with fail
  refine (awake_any _).mono ?_
  rintro e w' ⟨rfl, hb⟩
  go_wp2
  go_ret
  exact ⟨rfl, hb⟩

/-- Split's answer, by its parts. -/
def RetQ (fs : List Fr) (n x : Int) (w : World) (e : Ending) (w' : World) : Prop := ∃ (a : Option Addr) (cap : Nat), e = .returned (.tuple #[.slice a fs.length cap, .int .i64 n, .int .i64 x]) ∧ IsFrames w' a fs.length fs ∧ Below w.heap.size w w'

/-- One frame, in a block of its own. -/
theorem one_frame {w : World} {X : Nat} {T : TypeId} {f : Fr} (h : w.heap[X]? = some (.cells #[.int .i64 f.1, .string f.2] T (0, 0))) : IsFrames w (some ⟨X, 0, none⟩) 1 [f] := by
  refine ⟨rfl, .inr ⟨X, 0, rfl, fun i hi => ?_⟩⟩
  obtain rfl : i = 0 := by simpa using hi
  simp [World.cell?, h]

theorem heap_below {w w' : World} {X : Nat} {o : Obj} (h : w.heap[X]? = some o) (hb : Below w.heap.size w w') : w'.heap[X]? = some o := by rw [hb.block X (heap_lt h)]; exact h
theorem heap_alloc {w : World} {X : Nat} {o : Obj} (h : w.heap[X]? = some o) (p : Obj) : (w.alloc p).heap[X]? = some o := by rw [Lib.alloc_old w _ X (heap_lt h)]; exact h

set_option maxHeartbeats 2000000 in
theorem ftakes_short (l : List UInt8) (w : World) (h : l.length ≤ 2000) :
    Calls Try.prog 4 #[.string ⟨l.toArray⟩] w fun e w' => e = .returned (.bool true) ∧ Below w.heap.size w w' := by
  have HT : Hid (∀ w, Calls Try.prog 13 #[.string ⟨l.toArray⟩] w fun e w' => e = .returned (.tuple #[.agg #[.int .i64 (tkK l), .string (tkB l)], .int .i64 (tkS l), .int .i64 (tkE l)]) ∧ Below w.heap.size w w') := Lib.hid (fun w => ftake_any l w (by omega))
  have HR : Hid (∀ w, Calls Try.prog 14 #[.string ⟨l.toArray⟩] w fun e w' => e = .returned (.tuple #[.agg #[.int .i64 (tkK l), .string (tkB l)], .int .i64 (tkS l), .int .i64 (tkE l)]) ∧ Below w.heap.size w w') := Lib.hid (fun w => rftake_any l w (by omega))
  have HS : Hid (∀ w, Calls Try.prog 15 #[.string ⟨l.toArray⟩] w (RetQ (spl l).1 (spl l).2.1 (spl l).2.2 w)) := Lib.hid (fun w => fsplit_any l w (by omega))
  have HQ : Hid (∀ w, Calls Try.prog 16 #[.string ⟨l.toArray⟩] w (RetQ (spl l).1 (spl l).2.1 (spl l).2.2 w)) := Lib.hid (fun w => rfsplit_any l w (by omega))
  have hfew := spl_few l
  generalize tkK l = kk at HT HR
  generalize tkB l = bb at HT HR
  generalize tkS l = sz at HT HR
  generalize tkE l = x at HT HR
  generalize (spl l).2.1 = n2 at HS HQ
  generalize (spl l).2.2 = x2 at HS HQ
  generalize (spl l).1 = fs at HS HQ hfew
  go_enter Try.func4, Try.ntmps4
  go_wp2_with fail
  refine (HT.out _).mono ?_
  rintro e w1 ⟨rfl, hb1⟩
  go_wp2_with fail
  refine (HR.out _).mono ?_
  rintro e w2 ⟨rfl, hb2⟩
  go_wp2_with fail
  refine (HS.out _).mono ?_
  rintro e w3 ⟨a3, c3, rfl, hf3, hb3⟩
  go_wp2_with fail
  refine (HQ.out _).mono ?_
  rintro e w4 ⟨a4, c4, rfl, hf4, hb4⟩
  have hA := Lib.hid (heap_below (heap_below (heap_alloc (heap_below (heap_alloc_new w1 (.cells #[.int .i64 kk, .string bb] 33)) hb2) _) hb3) hb4)
  have hB := Lib.hid (heap_below (heap_below (heap_alloc_new w2 (.cells #[.int .i64 kk, .string bb] 35)) hb3) hb4)
  have hA0 : w4.cell? ⟨w1.heap.size, 0, none⟩ = some (.int .i64 kk) := by rw [Lib.cell_of_heap hA.out]; rfl
  have hA1 : w4.cell? ⟨w1.heap.size, 1, none⟩ = some (.string bb) := by rw [Lib.cell_of_heap hA.out]; rfl
  have hB0 : ∀ o, (w4.alloc o).cell? ⟨w2.heap.size, 0, none⟩ = some (.int .i64 kk) := cell_alloc (by rw [Lib.cell_of_heap hB.out]; rfl)
  have hB1 : ∀ o, (w4.alloc o).cell? ⟨w2.heap.size, 1, none⟩ = some (.string bb) := cell_alloc (by rw [Lib.cell_of_heap hB.out]; rfl)
  have hs1 := hb1.size
  have hs2 := hb2.size
  have hs3 := hb3.size
  have hs4 := hb4.size
  simp only [World.size_alloc] at hs2 hs3
  have hb04 : Below w.heap.size w w4 := (((hb1.alloc hs1 _).trans (hb2.mono (by simp; omega))).alloc (by omega) _).trans ((hb3.mono (by simp; omega)).trans (hb4.mono (by omega)))
  go_wp2_with fail
  refine (same_any _ _ 1 1 1 [(kk, bb)] _ (by omega) ?_ ?_).mono ?_
  · exact one_frame (f := (kk, bb)) (heap_alloc (heap_alloc_new w4 _) _)
  · exact one_frame (f := (kk, bb)) (by have := heap_alloc_new (w4.alloc (.cells #[.int .i64 kk, .string bb] 33)) (.cells #[.int .i64 kk, .string bb] 35); simpa using this)
  rintro e w5 ⟨rfl, hb5⟩
  have hb45 : Below w4.heap.size w4 w5 := (((Below.refl _ _).alloc (Nat.le_refl _) _).alloc (by simp) _).trans (hb5.mono (by simp; omega))
  have hs5 := hb45.size
  have hf3' := (hf3.below hb4).below hb45
  have hf4' := hf4.below hb45
  go_wp2_with fail
  refine (same_any _ _ fs.length c3 c4 fs _ (by omega) hf3' hf4').mono ?_
  rintro e w6 ⟨rfl, hb6⟩
  have hs6 := hb6.size
  go_wp2_with fail
  refine (awake_any _).mono ?_
  rintro e w7 ⟨rfl, hb7⟩
  go_wp2
  go_ret
  exact ⟨rfl, hb04.trans ((hb45.mono (by omega)).trans ((hb6.mono (by omega)).trans (hb7.mono (by omega))))⟩
end Go.Proofs.Ytgkhfdifgeboaaa
