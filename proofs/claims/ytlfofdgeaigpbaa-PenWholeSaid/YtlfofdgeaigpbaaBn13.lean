/-
  Texts put together: MgRn, PnK, MgFw.
-/
import Derived.Test.YtlfofdgeaigpbaaBn4
import Derived.Test.YtlfofdgeaigpbaaPnW
import Derived.Test.YtlfofdgeaigpbaaBn12
import Derived.Test.YtlfofdgeaigpbaaBn5
set_option linter.unusedSimpArgs false
set_option linter.unusedVariables false
namespace Go.Proofs.Ytlfofdgeaigpbaa
open Go.RowKit

/-- A slice of records in a block of its own. -/
theorem recat_new {w : World} {X : Nat} {T : TypeId} {rs : List Rv} (h : w.heap[X]? = some (.cells (rvCells rs).toArray T (0, 0))) : RecAt w (some ⟨X, 0, none⟩) rs := by
  refine .inr ⟨X, 0, rfl, fun i x hx => ?_⟩
  have at' : ∀ j u, j < 4 → x.cells[j]? = some u → w.cell? ⟨X, 0 + i * 4 + j, none⟩ = some u := fun j u hj hu => by
    rw [Lib.cell_of_heap h, Nat.zero_add]
    have := (rvCells_at rs i x hx j hj).trans hu
    simpa using this
  exact ⟨at' 0 _ (by omega) rfl, at' 1 _ (by omega) rfl, at' 2 _ (by omega) rfl, at' 3 _ (by omega) rfl⟩

end Go.Proofs.Ytlfofdgeaigpbaa

namespace Go.Proofs.Ytlfofdgeaigpbaa
open Go.RowKit

set_option maxRecDepth 100000 in
set_option maxHeartbeats 1000000 in
theorem pnskip_any (r : Int) (w : World) :
    Calls Try.prog 13 #[.int .i64 r] w fun e w' => e = .returned (.agg #[.int .i64 1, .int .i64 2, .int .i64 r, .slice none 0 0]) ∧ Below w.heap.size w w' := by
  obtain ⟨w1, hw1⟩ : ∃ w1, w.alloc (.cells #[.int .i64 0, .int .i64 0, .int .i64 0, .slice none 0 0] 34) = w1 := ⟨_, rfl⟩
  have hX0 : w1.heap[w.heap.size]? = some (.cells #[.int .i64 0, .int .i64 0, .int .i64 0, .slice none 0 0] 34 (0, 0)) := by rw [← hw1]; exact heap_alloc_new w _
  have hB1 : Below w.heap.size w w1 := by rw [← hw1]; exact (Below.refl w.heap.size w).alloc (Nat.le_refl _) _
  obtain ⟨f0, f1, f2, f3⟩ := rec_free hX0
  obtain ⟨j0, j1, j2, j3⟩ := rec_reads hX0
  have HF := Lib.hid (put_rec hX0 (.int .i64 1) (.int .i64 2) (.int .i64 r) (.slice none 0 0))
  have HBe := Lib.hid (below_rec hB1 (Nat.le_refl _) (.int .i64 1) (.int .i64 2) (.int .i64 r) (.slice none 0 0))
  clear hX0 hB1
  go_enter Try.func13, Try.ntmps13
  go_wp2
  try rw [hw1]
  obtain ⟨i0, i1, i2, i3⟩ := rec_reads HF.out
  refine bodyPost_ret (v := .agg #[.int .i64 1, .int .i64 2, .int .i64 r, .slice none 0 0]) (by simp [results, Try.results13, go_sem, i0, i1, i2, i3]) rfl ?_
  exact ⟨rfl, HBe.out⟩

/-- The example's records. -/
def exS : Rv := ⟨1, 2, 1, none, 0, 0⟩
def exE : Rv := ⟨6, 4, 0, none, 0, 0⟩
theorem rvB_none {w : World} {x : Rv} (h : x.len = 0) : rvOk w x = okK x.k x.n x.r [] ∧ rvB w x = if okK x.k x.n x.r [] = true then putK x.k x.n x.r [] else [] := by
  have e := rvi_none (w := w) h
  unfold rvB rvOk
  rw [e]
  exact ⟨rfl, rfl⟩
theorem ex_all : mgAll [exS, exS, exE] = [⟨1, 2, 2, none, 0, 0⟩, exE] := by
  have h1 : mgAll [exS] = [] ++ [exS] := rfl
  have h2 : mgAll [exS, exS] = [] ++ [⟨1, 2, 2, none, 0, 0⟩] := by
    rw [show [exS, exS] = [exS] ++ [exS] from rfl, mga_snoc, h1, mgs_hit (mg2_mk (by simp [exS]))]
    rfl
  rw [show [exS, exS, exE] = [exS, exS] ++ [exE] from rfl, mga_snoc, h2, mgs_miss (mg2_no (by simp [exE]))]
  rfl
theorem ex_wh (w : World) : whE (rvOk w) [exS, exS, exE] = 0 := by
  have oS : rvOk w exS = true := by rw [(rvB_none rfl).1]; decide
  have oE : rvOk w exE = true := by rw [(rvB_none rfl).1]; decide
  unfold whE
  have h : mayS (rvOk w) [] [exS, exS, exE] = 0 := by
    rw [mayS_good (may_ok (by decide) oS (by decide)), mayS_good (may_ok (by decide) oS (by decide)), mayS_good (may_ok (by decide) oE (by decide))]
    rfl
  rw [if_pos h]
  rfl
theorem ex_bytes (w : World) : whB w [] [exS, exS, exE] = [99, 101, 114, 116, 1, 1, 0, 1, 2, 2, 6, 4, 0] := by
  rw [whB_good (ex_wh w), ex_all, tdL_more, tdL_one, (rvB_none (w := w) (x := ⟨1, 2, 2, none, 0, 0⟩) rfl).2, (rvB_none (w := w) (x := exE) rfl).2]
  decide +kernel

set_option maxRecDepth 100000 in
set_option maxHeartbeats 2000000 in
theorem pnawake_any (w : World) : Calls Try.prog 6 #[] w fun e w' => e = .returned (.bool true) ∧ Below w.heap.size w w' := by
  go_enter Try.func6, Try.ntmps6
  go_wp2_with fail
  refine (pnskip_any 1 _).mono ?_
  rintro E w1 ⟨rfl, hb1⟩
  go_wp2_with fail
  refine (pnskip_any 1 _).mono ?_
  rintro E w2 ⟨rfl, hb2⟩
  have h2 := hb1.trans (hb2.mono hb1.size)
  clear hb1 hb2
  have hX := heap_alloc_new w2 (.cells (rvCells [exS, exS, exE]).toArray 34)
  have hB := (Below.refl w2.heap.size w2).alloc (Nat.le_refl _) (.cells (rvCells [exS, exS, exE]).toArray 34)
  have h3 := h2.trans (hB.mono h2.size)
  have HW : Hid (Calls Try.prog 14 #[.string ⟨#[]⟩, .slice (some ⟨w2.heap.size, 0, none⟩) 3 3] (w2.alloc (.cells (rvCells [exS, exS, exE]).toArray 34)) fun e W' => e = .returned (.tuple #[.string ⟨#[99, 101, 114, 116, 1, 1, 0, 1, 2, 2, 6, 4, 0]⟩, .int .i64 0]) ∧ Below (w2.alloc (.cells (rvCells [exS, exS, exE]).toArray 34)).heap.size (w2.alloc (.cells (rvCells [exS, exS, exE]).toArray 34)) W') := Lib.hid (by
    have h : Calls Try.prog 14 #[.string ⟨#[]⟩, .slice (some ⟨w2.heap.size, 0, none⟩) 3 3] (w2.alloc (.cells (rvCells [exS, exS, exE]).toArray 34)) fun e W' => e = .returned (.tuple #[.string ⟨(whB w [] [exS, exS, exE]).toArray⟩, .int .i64 (whE (rvOk w) [exS, exS, exE])]) ∧ Below (w2.alloc (.cells (rvCells [exS, exS, exE]).toArray 34)).heap.size (w2.alloc (.cells (rvCells [exS, exS, exE]).toArray 34)) W' :=
      pnwhole_any (w := w) (rs := [exS, exS, exE]) (m := 3) h3 rfl (by omega) (recat_new hX) (fun x hx => by simp at hx; rcases hx with rfl | rfl <;> exact ⟨Rd.none (fun _ => rfl) rfl, by decide⟩) [] (by decide)
    rw [ex_bytes, ex_wh] at h
    exact h)
  have H3 := Lib.hid h3
  clear hX hB h2 h3
  go_wp2_with fail
  refine HW.out.mono ?_
  rintro E w4 ⟨rfl, hb4⟩
  have HB4 := Lib.hid (H3.out.trans (hb4.mono H3.out.size))
  clear hb4 HW
  go_wp2
  go_ret
  exact ⟨rfl, HB4.out⟩
end Go.Proofs.Ytlfofdgeaigpbaa

namespace Go.Proofs.Ytlfofdgeaigpbaa
open Go.RowKit

/-- Few records, of few numbers. -/
def fewM (rs : List Rv) (most : Nat) : Bool := decide (rs.length ≤ most) && rs.all fun x => decide (x.len ≤ 30)
theorem fewM_yes {rs : List Rv} {most : Nat} (h : fewM rs most = true) : rs.length ≤ most ∧ ∀ x ∈ rs, x.len ≤ 30 := by
  unfold fewM at h
  simp at h
  exact ⟨h.1, fun x hx => h.2 x hx⟩

set_option maxRecDepth 100000 in
set_option maxHeartbeats 4000000 in
theorem mgfew_any (a : Option Addr) (m ca most : Nat) (rs : List Rv) (w : World) (hn : rs.length = m) (hm : most ≤ 1000) (ha : RecAt w a rs) (q : Bool) (hq : fewM rs most = q) :
    Calls Try.prog 5 #[.slice a m ca, .int .i64 (most : Int)] w fun e w' => e = .returned (.bool q) ∧ w' = w := by
  have HA := Lib.hid ha
  have HQ := Lib.hid hq
  clear ha hq
  by_cases hlm : most < m
  · obtain rfl : q = false := by
      rw [← HQ.out]
      unfold fewM
      rw [decide_eq_false (by omega)]
      rfl
    have g : (most : Int) < (m : Int) := by omega
    go_enter Try.func5, Try.ntmps5
    go_wp2
    go_ret
    exact ⟨rfl, rfl⟩
  · have g : ¬ (most : Int) < (m : Int) := by omega
    go_enter Try.func5, Try.ntmps5
    go_wp2
    go_loop [5] (fun i => ∃ k : Nat, k ≤ m ∧ i = .int .i64 (k : Int) ∧ Hid (∀ j x, j < k → rs[j]? = some x → x.len ≤ 30)) (fun i => m - (RowKit.intOf i).toNat)
    case atStart => exact ⟨0, Nat.zero_le _, rfl, Lib.hid (fun j x h => by omega)⟩
    case round =>
      obtain ⟨k, hk, rfl, HK⟩ := hrel
      by_cases hlt : k < m
      · obtain ⟨b1, off1, x, rfl, hx, c0, c1, c2, c3⟩ := HA.out.get (i := k) (by omega)
        have u0 : (0 : Int) ≤ (k : Int) := by omega
        have u1 : (k : Int) < (m : Int) := by omega
        have HX := Lib.hid hx
        clear hx c0 c1 c2
        by_cases hx30 : 30 < x.len
        · obtain rfl : q = false := by
            rw [← HQ.out]
            unfold fewM
            have : (rs.all fun x => decide (x.len ≤ 30)) = false := by
              rw [List.all_eq_false]
              exact ⟨x, List.mem_of_getElem? HX.out, by simp; omega⟩
            rw [this, Bool.and_false]
          have u2 : (30 : Int) < (x.len : Int) := by omega
          obtain ⟨xk, xn, xr, xa, xl, xc⟩ := x
          dsimp only at c3 u2
          go_wp2
          go_ret
          exact ⟨rfl, rfl⟩
        · have u2 : ¬ (30 : Int) < (x.len : Int) := by omega
          have HK2 : Hid (∀ j y, j < k + 1 → rs[j]? = some y → y.len ≤ 30) := Lib.hid fun j y hj hy => by
            rcases Nat.lt_or_ge j k with h | h
            · exact HK.out j y h hy
            · obtain rfl : j = k := by omega
              rw [HX.out] at hy
              injection hy with hy
              subst hy
              omega
          obtain ⟨xk, xn, xr, xa, xl, xc⟩ := x
          dsimp only at c3 u2
          go_wp2
          exact ⟨⟨k + 1, by omega, by go_num, HK2⟩, by simp [RowKit.intOf]; omega⟩
      · obtain rfl : k = m := by omega
        have u1 : ¬ (k : Int) < (k : Int) := by omega
        obtain rfl : q = true := by
          rw [← HQ.out]
          unfold fewM
          rw [decide_eq_true (by omega), Bool.true_and, List.all_eq_true]
          intro x hx
          obtain ⟨j, hj, rfl⟩ := List.getElem_of_mem hx
          exact decide_eq_true (HK.out j _ (by omega) (List.getElem?_eq_getElem hj))
        go_wp2
        go_ret
        exact ⟨rfl, rfl⟩
end Go.Proofs.Ytlfofdgeaigpbaa
