/-
  Where a state falls back to, out of the shorter ones: fallOf: walked.
-/
import Derived.Test.YtkaldfcpcimacaaLkS
set_option linter.unusedSimpArgs false
set_option linter.unusedVariables false
namespace Go.Proofs.Ytkaldfcpcimacaa
open Go.RowKit

/-- What fallOf tells of a state. -/
def RetFl (us S : List (List UInt8)) (s : List UInt8) (w : World) (e : Ending) (w' : World) : Prop :=
  ∃ a b : Nat, e = .returned (flV (a, b)) ∧ S[a]? = some (fbL S s) ∧ S[b]? = some (fbL us s) ∧ Below w.heap.size w w'

theorem put_two {w : World} {r : Nat} {T : TypeId} {u v : Value} (h : w.heap[r]? = some (.cells #[u, v] T (0, 0))) (x y : Value) : ((w.setCell ⟨r, 0, none⟩ x).setCell ⟨r, 1, none⟩ y).heap[r]? = some (.cells #[x, y] T (0, 0)) := by
  rw [put_heap (put_heap h x) y]; rfl

set_option maxHeartbeats 2000000 in
theorem lkfall_any {w : World} {k q p : Option Addr} {us S : List (List UInt8)} {m : Nat} {F : List (Nat × Nat)} (h : IsLink w k q p us S m F) {s : List UInt8} (hs : S[m]? = some s) :
    Calls Try.prog 32 #[.pointer k, .int .i64 (m : Int)] w (RetFl us S s w) := by
  have hil := (List.getElem?_eq_some_iff.1 hs).1
  obtain ⟨base, b, g, rfl, hk⟩ := h.has.some (i := m) (by rw [h.flen]; exact hil)
  have hfew := h.tr.few.2.2
  have HH := Lib.hid h
  have HK := Lib.hid hk
  have hB1 := (Below.refl w.heap.size w).alloc (Nat.le_refl _) (.cells #[.int .i32 0, .int .i32 0] 63)
  obtain ⟨a, hS, hle, hA⟩ := ts_above (h.tr.below hB1) m hs
  have HA := Lib.hid hA
  have c0 := (hk.below hB1).reads.1
  have hcell := heap_alloc_new w (.cells #[.int .i32 0, .int .i32 0] 63)
  have hrs : w.heap.size < (w.alloc (.cells #[.int .i32 0, .int .i32 0] 63)).heap.size := by simp
  clear h hk hA
  go_enter Try.func32, Try.ntmps32
  go_wp2_with fail
  refine HA.out.mono ?_
  rintro e w2 ⟨rfl, hb2⟩
  have hR2 : w2.heap[w.heap.size]? = some (.cells #[.int .i32 0, .int .i32 0] 63 (0, 0)) := (hb2.block _ hrs).trans hcell
  have d2 := hB1.trans (hb2.mono hB1.size)
  generalize hr : w.heap.size = r at *
  by_cases ha0 : a = 0
  · have e0 := (HH.out.zero hS).1 ha0
    subst ha0
    have hf : fbL S s = [] ∧ fbL us s = [] := by
      match s, e0 with
      | [], _ => exact ⟨rfl, rfl⟩
      | [x], _ => exact ⟨rfl, rfl⟩
    have HE : Hid (S[0]? = some (fbL S s) ∧ S[0]? = some (fbL us s)) := Lib.hid (by rw [hf.1, hf.2]; exact ⟨HH.out.root, HH.out.root⟩)
    have f0 := Lib.frozen_of_heap hR2 0
    have f1 := Lib.frozen_of_heap hR2 1
    have k0 : w2.cell? ⟨r, 0, none⟩ = some (.int .i32 0) := by rw [Lib.cell_of_heap hR2]; rfl
    have k1 : w2.cell? ⟨r, 1, none⟩ = some (.int .i32 0) := by rw [Lib.cell_of_heap hR2]; rfl
    clear HA hb2 hB1 hcell hrs hS hf e0 hs
    go_wp2
    have hfin := put_two hR2 (.int .i32 0) (.int .i32 0)
    have d3 : Below r w ((w2.setCell ⟨r, 0, none⟩ (.int .i32 0)).setCell ⟨r, 1, none⟩ (.int .i32 0)) := (d2.setCell (p := ⟨r, 0, none⟩) (Nat.le_refl _) _).setCell (p := ⟨r, 1, none⟩) (Nat.le_refl _) _
    generalize (w2.setCell ⟨r, 0, none⟩ (.int .i32 0)).setCell ⟨r, 1, none⟩ (.int .i32 0) = w3 at *
    have j0 : w3.cell? ⟨r, 0, none⟩ = some (.int .i32 0) := by rw [Lib.cell_of_heap hfin]; rfl
    have j1 : w3.cell? ⟨r, 1, none⟩ = some (.int .i32 0) := by rw [Lib.cell_of_heap hfin]; rfl
    refine bodyPost_ret (v := flV (0, 0)) (by simp [results, Try.results32, go_sem, flV, j0, j1]) rfl ?_
    exact ⟨0, 0, rfl, HE.out.1, HE.out.2, by rw [hr]; exact d3⟩
  · have e0 : s.dropLast ≠ [] := fun e => ha0 ((HH.out.zero hS).2 e)
    have hs0 : s ≠ [] := fun e => e0 (by rw [e]; rfl)
    have es : s.dropLast ++ [s.getLastD 0] = s := by
      rw [List.getLastD_eq_getLast?, List.getLast?_eq_some_getLast hs0]
      exact List.dropLast_concat_getLast hs0
    have ham : a < m := HH.out.less hS hs (by
      rw [List.length_dropLast]
      have : 0 < s.length := List.length_pos_iff.2 hs0
      omega)
    obtain ⟨f, f', hF, hf, _⟩ := HH.out.ok.at_ a _ ham hS
    have hfa := HH.out.less hf hS (fb_less e0)
    have H2 := HH.out.below (by rw [hr]; exact d2)
    have HF := Lib.hid (lkfail_any H2.has (a : Int))
    rw [flOf_in hF] at HF
    have g0 : ((a : Int) == 0) = false := by simp; omega
    have g1 : ¬ (a : Int) = 0 := by omega
    have HT := Lib.hid (fun W hb => lkstep_in (H2.below (w' := W) hb) f hf (show f < m by omega) (s.getLastD 0))
    have HES := Lib.hid (show lgL S (fbL S s.dropLast ++ [s.getLastD 0]) = fbL S s by
      have := fb_above HH.out.tr.st (s.getLastD 0) e0
      rw [es] at this
      exact this.symm)
    have HFS := Lib.hid (show (fbL S s).length < s.length from fb_less hs0)
    have HS := Lib.hid hs
    have hs2 : r < w2.heap.size := lt_of_heap hR2
    clear HA hb2 hB1 hcell hrs hS e0 hs0 es hs ha0 hF hf hfa H2
    generalize s.getLastD 0 = c at *
    go_wp2_with fail
    refine HF.out.mono ?_
    rintro e w3 ⟨rfl, hb3⟩
    have H3 := Lib.hid (HT.out w3 hb3)
    have hR3 := (hb3.block _ hs2).trans hR2
    have d3 := d2.trans (hb3.mono (by rw [← hr]; exact d2.size))
    clear HT HF hb3 hs2 hR2 d2
    go_wp2_with fail
    refine H3.out.mono ?_
    rintro e w4 ⟨n, rfl, hn, hb4⟩
    rw [HES.out] at hn
    have hs3 : r < w3.heap.size := lt_of_heap hR3
    have hR4 := (hb4.block _ hs3).trans hR3
    have d4 := d3.trans (hb4.mono (by rw [← hr]; exact d3.size))
    have H4 := HH.out.below (by rw [hr]; exact d4)
    have c4 := (HK.out.below (by rw [hr]; exact d4)).reads.1
    have hnm := H4.less hn HS.out HFS.out
    have hnl := (List.getElem?_eq_some_iff.1 hn).1
    have HN := Lib.hid (ts_ends H4.tr H4.asc n hn)
    have wn : IntKind.i32.wrap (n : Int) = (n : Int) := by rw [IntKind.wrap_i32]; omega
    clear H3 hb4 hs3 hR3 d3 HES HFS HS c0
    have hs4 : r < w4.heap.size := lt_of_heap hR4
    by_cases hu : fbL S s ∈ us
    · have HE : Hid (S[n]? = some (fbL S s) ∧ S[n]? = some (fbL us s)) := Lib.hid ⟨hn, by rw [out_hit HH.out.tr.st hu]; exact hn⟩
      clear H4 hn
      go_wp2_with fail
      refine HN.out.mono ?_
      rintro e w5 ⟨⟨h1, _⟩, hb5⟩
      obtain rfl := h1 hu
      have hR5 := (hb5.block _ hs4).trans hR4
      have d5 := d4.trans (hb5.mono (by rw [← hr]; exact d4.size))
      have f0 := Lib.frozen_of_heap hR5 0
      have f1 := Lib.frozen_of_heap hR5 1
      have k0 : w5.cell? ⟨r, 0, none⟩ = some (.int .i32 0) := by rw [Lib.cell_of_heap hR5]; rfl
      have k1 : w5.cell? ⟨r, 1, none⟩ = some (.int .i32 0) := by rw [Lib.cell_of_heap hR5]; rfl
      clear h1 hb5 hs4 hR4 d4 HN hu
      go_wp2
      have hfin := put_two hR5 (.int .i32 (n : Int)) (.int .i32 (n : Int))
      have d6 : Below r w ((w5.setCell ⟨r, 0, none⟩ (.int .i32 (n : Int))).setCell ⟨r, 1, none⟩ (.int .i32 (n : Int))) := (d5.setCell (p := ⟨r, 0, none⟩) (Nat.le_refl _) _).setCell (p := ⟨r, 1, none⟩) (Nat.le_refl _) _
      generalize (w5.setCell ⟨r, 0, none⟩ (.int .i32 (n : Int))).setCell ⟨r, 1, none⟩ (.int .i32 (n : Int)) = w6 at *
      have j0 : w6.cell? ⟨r, 0, none⟩ = some (.int .i32 (n : Int)) := by rw [Lib.cell_of_heap hfin]; rfl
      have j1 : w6.cell? ⟨r, 1, none⟩ = some (.int .i32 (n : Int)) := by rw [Lib.cell_of_heap hfin]; rfl
      refine bodyPost_ret (v := flV (n, n)) (by simp [results, Try.results32, go_sem, flV, j0, j1]) rfl ?_
      exact ⟨n, n, rfl, HE.out.1, HE.out.2, by rw [hr]; exact d6⟩
    · obtain ⟨x, y, hFn, _, hy⟩ := HH.out.ok.at_ n _ hnm hn
      have HE : Hid (S[n]? = some (fbL S s) ∧ S[y]? = some (fbL us s)) := Lib.hid ⟨hn, by rw [out_miss HH.out.tr.st hu]; exact hy⟩
      have HO := Lib.hid (fun W hb => lkof_in (H4.below (w' := W) hb).has n (x, y) hFn)
      have FD := flfield1 (.int .i32 (x : Int)) (.int .i32 (y : Int))
      clear H4 hn hy hFn
      go_wp2_with fail
      refine HN.out.mono ?_
      rintro e w5 ⟨⟨_, h1⟩, hb5⟩
      obtain rfl := h1 hu
      have HO2 := Lib.hid (HO.out w5 hb5)
      have hR5 := (hb5.block _ hs4).trans hR4
      have d5 := d4.trans (hb5.mono (by rw [← hr]; exact d4.size))
      have hs5 : r < w5.heap.size := lt_of_heap hR5
      clear h1 hb5 hs4 hR4 d4 HN hu HO
      go_wp2_with fail
      refine HO2.out.mono ?_
      rintro e w6 ⟨rfl, hb6⟩
      have hR6 := (hb6.block _ hs5).trans hR5
      have d6 := d5.trans (hb6.mono (by rw [← hr]; exact d5.size))
      have f0 := Lib.frozen_of_heap hR6 0
      have f1 := Lib.frozen_of_heap hR6 1
      have k0 : w6.cell? ⟨r, 0, none⟩ = some (.int .i32 0) := by rw [Lib.cell_of_heap hR6]; rfl
      have k1 : w6.cell? ⟨r, 1, none⟩ = some (.int .i32 0) := by rw [Lib.cell_of_heap hR6]; rfl
      clear HO2 hb6 hs5 hR5 d5
      unfold flV
      go_wp2
      have hfin := put_two hR6 (.int .i32 (n : Int)) (.int .i32 (y : Int))
      have d7 : Below r w ((w6.setCell ⟨r, 0, none⟩ (.int .i32 (n : Int))).setCell ⟨r, 1, none⟩ (.int .i32 (y : Int))) := (d6.setCell (p := ⟨r, 0, none⟩) (Nat.le_refl _) _).setCell (p := ⟨r, 1, none⟩) (Nat.le_refl _) _
      generalize (w6.setCell ⟨r, 0, none⟩ (.int .i32 (n : Int))).setCell ⟨r, 1, none⟩ (.int .i32 (y : Int)) = w7 at *
      have j0 : w7.cell? ⟨r, 0, none⟩ = some (.int .i32 (n : Int)) := by rw [Lib.cell_of_heap hfin]; rfl
      have j1 : w7.cell? ⟨r, 1, none⟩ = some (.int .i32 (y : Int)) := by rw [Lib.cell_of_heap hfin]; rfl
      refine bodyPost_ret (v := flV (n, y)) (by simp [results, Try.results32, go_sem, flV, j0, j1]) rfl ?_
      exact ⟨n, y, rfl, HE.out.1, HE.out.2, by rw [hr]; exact d7⟩
end Go.Proofs.Ytkaldfcpcimacaa
