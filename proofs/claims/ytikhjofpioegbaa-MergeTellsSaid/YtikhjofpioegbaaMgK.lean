/-
  The law's skip and awake: walked.
-/
import Derived.Test.YtikhjofpioegbaaMgL
import Derived.Test.YtikhjofpioegbaaMgS
set_option linter.unusedSimpArgs false
set_option linter.unusedVariables false
namespace Go.Proofs.Ytikhjofpioegbaa
open Go.RowKit

set_option maxRecDepth 100000 in
set_option maxHeartbeats 1000000 in
theorem mgskip_any (n r : Int) (w : World) :
    Calls Try.prog 22 #[.int .i64 n, .int .i64 r] w fun e w' => e = .returned (.agg #[.int .i64 1, .int .i64 n, .int .i64 r, .slice none 0 0]) ∧ Below w.heap.size w w' := by
  obtain ⟨w1, hw1⟩ : ∃ w1, w.alloc (.cells #[.int .i64 0, .int .i64 0, .int .i64 0, .slice none 0 0] 24) = w1 := ⟨_, rfl⟩
  have hX0 : w1.heap[w.heap.size]? = some (.cells #[.int .i64 0, .int .i64 0, .int .i64 0, .slice none 0 0] 24 (0, 0)) := by rw [← hw1]; exact heap_alloc_new w _
  have hB1 : Below w.heap.size w w1 := by rw [← hw1]; exact (Below.refl w.heap.size w).alloc (Nat.le_refl _) _
  obtain ⟨f0, f1, f2, f3⟩ := rec_free hX0
  obtain ⟨j0, j1, j2, j3⟩ := rec_reads hX0
  have HF := Lib.hid (put_rec hX0 (.int .i64 1) (.int .i64 n) (.int .i64 r) (.slice none 0 0))
  have HBe := Lib.hid (below_rec hB1 (Nat.le_refl _) (.int .i64 1) (.int .i64 n) (.int .i64 r) (.slice none 0 0))
  clear hX0 hB1
  go_enter Try.func22, Try.ntmps22
  go_wp2
  try rw [hw1]
  obtain ⟨i0, i1, i2, i3⟩ := rec_reads HF.out
  refine bodyPost_ret (v := .agg #[.int .i64 1, .int .i64 n, .int .i64 r, .slice none 0 0]) (by simp [results, Try.results22, go_sem, i0, i1, i2, i3]) rfl ?_
  exact ⟨rfl, HBe.out⟩

/-- A slice of records in a block of its own. -/
theorem recat_new {w : World} {X : Nat} {T : TypeId} {rs : List Rv} (h : w.heap[X]? = some (.cells (rvCells rs).toArray T (0, 0))) : RecAt w (some ⟨X, 0, none⟩) rs := by
  refine .inr ⟨X, 0, rfl, fun i x hx => ?_⟩
  have at' : ∀ j u, j < 4 → x.cells[j]? = some u → w.cell? ⟨X, 0 + i * 4 + j, none⟩ = some u := fun j u hj hu => by
    rw [Lib.cell_of_heap h, Nat.zero_add]
    have := (rvCells_at rs i x hx j hj).trans hu
    simpa using this
  exact ⟨at' 0 _ (by omega) rfl, at' 1 _ (by omega) rfl, at' 2 _ (by omega) rfl, at' 3 _ (by omega) rfl⟩

def skV (n r : Int) : Rv := ⟨1, n, r, none, 0, 0⟩
theorem sk_all : mgAll [skV 2 1, skV 2 1, skV 1 1] = [skV 2 2, skV 1 1] := by
  have h1 : mgAll [skV 2 1] = [] ++ [skV 2 1] := rfl
  have h2 : mgAll [skV 2 1, skV 2 1] = [] ++ [skV 2 2] := by
    rw [show [skV 2 1, skV 2 1] = [skV 2 1] ++ [skV 2 1] from rfl, mga_snoc, h1, mgs_hit (mg2_mk (by simp [skV]))]
    rfl
  rw [show [skV 2 1, skV 2 1, skV 1 1] = [skV 2 1, skV 2 1] ++ [skV 1 1] from rfl, mga_snoc, h2, mgs_miss (mg2_no (by simp [skV]))]
  rfl

set_option maxRecDepth 100000 in
set_option maxHeartbeats 2000000 in
theorem mgawake_any (w : World) : Calls Try.prog 7 #[] w fun e w' => e = .returned (.bool true) ∧ Below w.heap.size w w' := by
  go_enter Try.func7, Try.ntmps7
  go_wp2_with fail
  refine (mgskip_any 2 1 _).mono ?_
  rintro E w1 ⟨rfl, hb1⟩
  go_wp2_with fail
  refine (mgskip_any 2 1 _).mono ?_
  rintro E w2 ⟨rfl, hb2⟩
  go_wp2_with fail
  refine (mgskip_any 1 1 _).mono ?_
  rintro E w3 ⟨rfl, hb3⟩
  have h3 := hb1.trans ((hb2.trans (hb3.mono hb2.size)).mono hb1.size)
  clear hb1 hb2 hb3
  have hX := heap_alloc_new w3 (.cells (rvCells [skV 2 1, skV 2 1, skV 1 1]).toArray 24)
  have hB := (Below.refl w3.heap.size w3).alloc (Nat.le_refl _) (.cells (rvCells [skV 2 1, skV 2 1, skV 1 1]).toArray 24)
  have HALL := Lib.hid (mgall_any (some ⟨w3.heap.size, 0, none⟩) 3 3 [skV 2 1, skV 2 1, skV 1 1] (w3.alloc (.cells (rvCells [skV 2 1, skV 2 1, skV 1 1]).toArray 24)) rfl (by omega) (recat_new hX) (fun x hx => Rd.none (by simp at hx; rcases hx with rfl | rfl <;> exact fun _ => rfl) (by simp at hx; rcases hx with rfl | rfl <;> rfl)) (fun x hx => by simp at hx; rcases hx with rfl | rfl <;> simp [skV]))
  have HB4 := Lib.hid (h3.trans (hB.mono h3.size))
  clear hX hB h3
  go_wp2_with fail
  refine HALL.out.mono ?_
  rintro E w4 ⟨a4, c4, qs, rfl, hr4, hp4, hb4⟩
  have HR4 := Lib.hid hr4
  have HP4 := Lib.hid hp4
  have hlq : qs.length = 2 := by have := hp4.1; rw [sk_all] at this; exact this.symm
  have HLQ := Lib.hid hlq
  have HB5 := Lib.hid (HB4.out.trans (hb4.mono HB4.out.size))
  rw [hlq]
  clear hr4 hp4 hb4 hlq HALL
  go_wp2_with fail
  refine (mgskip_any 2 2 _).mono ?_
  rintro E w5 ⟨rfl, hb5⟩
  have HB6 := Lib.hid hb5
  clear hb5
  go_wp2_with fail
  refine (mgskip_any 1 1 _).mono ?_
  rintro E w6 ⟨rfl, hb6⟩
  have h46 := HB6.out.trans (hb6.mono HB6.out.size)
  have hX := heap_alloc_new w6 (.cells (rvCells [skV 2 2, skV 1 1]).toArray 24)
  have hB := (Below.refl w6.heap.size w6).alloc (Nat.le_refl _) (.cells (rvCells [skV 2 2, skV 1 1]).toArray 24)
  have h47 := h46.trans (hB.mono h46.size)
  have HS := Lib.hid (mgsames_any a4 (some ⟨w6.heap.size, 0, none⟩) 2 c4 2 qs [skV 2 2, skV 1 1] (w6.alloc (.cells (rvCells [skV 2 2, skV 1 1]).toArray 24)) HLQ.out (by omega) (fun x hx => by
      obtain ⟨i, hi, rfl⟩ := List.getElem_of_mem hx
      have hp := HP4.out
      rw [sk_all] at hp
      have hi2 : i < 2 := by rw [HLQ.out] at hi; exact hi
      have e := (hp.2 i _ _ (List.getElem?_eq_getElem (by simpa using hi2)) (List.getElem?_eq_getElem hi)).1.2.2.2
      rw [e]
      obtain rfl | rfl : i = 0 ∨ i = 1 := by omega
      · simp [skV]
      · simp [skV]) (HR4.out.below h47) (recat_new hX) (by
      have hp := HP4.out
      rw [sk_all] at hp
      exact hp.symm fun x y h => (h.sm.symm).below h47))
  have HB7 := Lib.hid (HB5.out.trans (h47.mono HB5.out.size))
  clear hX hB h47 h46 hb6 HB6
  go_wp2_with fail
  refine HS.out.mono ?_
  rintro E w8 ⟨rfl, hb8⟩
  have HB8 := Lib.hid (HB7.out.trans (hb8.mono HB7.out.size))
  clear hb8 HS
  go_wp2
  go_ret
  exact ⟨rfl, HB8.out⟩
end Go.Proofs.Ytikhjofpioegbaa
