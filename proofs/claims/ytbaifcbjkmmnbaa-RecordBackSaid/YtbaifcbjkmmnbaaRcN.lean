/-
  record.numbers: walked.
-/
import Derived.Test.YtbaifcbjkmmnbaaRcC
import Derived.Test.YtbaifcbjkmmnbaaRcI
import Derived.Test.YtbaifcbjkmmnbaaOwnBe
set_option linter.unusedSimpArgs false
set_option linter.unusedVariables false
namespace Go.Proofs.Ytbaifcbjkmmnbaa
open Go.RowKit

theorem ris_mem : ∀ (l : List Int) (a : Int), risF a l = true → ∀ x ∈ l, a < x ∧ x ≤ 65534
  | [], a, h, x, hx => by simp at hx
  | y :: r, a, h, x, hx => by
    obtain ⟨h1, h2, h3⟩ := ris_cons.1 h
    rcases List.mem_cons.1 hx with rfl | hx
    · exact ⟨h1, by omega⟩
    · have := ris_mem r y h3 x hx
      exact ⟨by omega, this.2⟩
theorem dif_mem : ∀ (l : List Int) (a : Int), 0 ≤ a → a ≤ 65534 → (∀ x ∈ l, 0 ≤ x ∧ x ≤ 65534) → ∀ y ∈ difL a l, -65534 ≤ y ∧ y ≤ 65534
  | [], a, h0, h1, h, y, hy => by simp [difL] at hy
  | x :: r, a, h0, h1, h, y, hy => by
    have hx := h x (by simp)
    rcases List.mem_cons.1 hy with rfl | hy
    · omega
    · exact dif_mem r x hx.1 hx.2 (fun z hz => h z (by simp [hz])) y hy
/-- What is told of it: few numbers, each one that a cell holds. -/
theorem nums_64 {k n r : Int} {ids : List Int} (h : okK k n r ids = true) : Int64s (numsL k n r ids) ∧ (numsL k n r ids).length ≤ 65536 ∧ 1 ≤ (numsL k n r ids).length := by
  unfold numsL
  by_cases h4 : k = 4
  · rw [if_pos h4]
    have h3 := ((ok_at h4).1 h).2.2
    have hl := ris_len ids (-1) (by omega) (by omega) h3
    have hm := ris_mem ids (-1) h3
    refine ⟨fun y hy => ?_, by rw [List.length_cons, dif_len]; omega, by simp⟩
    rcases List.mem_cons.1 hy with rfl | hy
    · omega
    · have := dif_mem ids 0 (by omega) (by omega) (fun x hx => by have := hm x hx; omega) y hy
      omega
  · rw [if_neg h4]
    obtain ⟨_, h1, h2, _⟩ := (ok_no h4).1 h
    have b1 := fit_bounds h1
    have b2 := fit_bounds h2
    refine ⟨fun y hy => ?_, by simp, by simp⟩
    simp at hy
    rcases hy with rfl | rfl <;> omega

/-- What numbers answers: a list, to be read. -/
def RetNm (L : List Int) (w : World) (e : Ending) (w' : World) : Prop := ∃ ao cap, e = .returned (.slice ao L.length cap) ∧ IsRow .i64 w' ao L.length L.length L ∧ Below w.heap.size w w'

set_option maxHeartbeats 1000000 in
theorem rcnums_no (k n r : Int) (a : Option Addr) (L c : Nat) (ids : List Int) (w : World) (h4 : ¬ k = 4) :
    Calls Try.prog 15 #[.agg #[.int .i64 k, .int .i64 n, .int .i64 r, .slice a L c]] w (RetNm (numsL k n r ids) w) := by
  have HN : Hid (numsL k n r ids = [n, r]) := Lib.hid (by unfold numsL; rw [if_neg h4])
  rw [HN.out]
  have hX1 := heap_alloc_new w (.cells #[.int .i64 k, .int .i64 n, .int .i64 r, .slice a L c] 24)
  have hB1 := (Below.refl w.heap.size w).alloc (Nat.le_refl _) (.cells #[.int .i64 k, .int .i64 n, .int .i64 r, .slice a L c] 24)
  obtain ⟨w1, hw1⟩ : ∃ w1, w.alloc (.cells #[.int .i64 k, .int .i64 n, .int .i64 r, .slice a L c] 24) = w1 := ⟨_, rfl⟩
  rw [hw1] at hX1 hB1
  obtain ⟨c0, c1, c2, c3⟩ := rec_reads hX1
  have HR : Hid (IsRow .i64 (w1.alloc (.cells #[.int .i64 n, .int .i64 r] 3)) (some ⟨w1.heap.size, 0, none⟩) 2 2 [n, r]) := Lib.hid (row2 w1 n r 3)
  have HB : Hid (Below w.heap.size w (w1.alloc (.cells #[.int .i64 n, .int .i64 r] 3))) := Lib.hid (hB1.alloc hB1.size _)
  have g4 : (k == 4) = false := by simpa using h4
  have HZ : Hid (w1.heap.size = w.heap.size + 1) := Lib.hid (by rw [← hw1]; simp)
  clear hX1 hB1 h4
  go_enter Try.func15, Try.ntmps15
  go_wp2
  go_ret
  try rw [hw1]
  exact ⟨_, 2, rfl, by first | exact HR.out | (rw [← HZ.out]; exact HR.out), HB.out⟩

set_option maxRecDepth 100000 in
set_option maxHeartbeats 4000000 in
theorem rcnums_at (a : Option Addr) (L c : Nat) (ids : List Int) (w : World) (hl : ids.length = L) (hr : IsRow .i64 w a L L ids) (hok : okK 4 0 0 ids = true) :
    Calls Try.prog 15 #[.agg #[.int .i64 4, .int .i64 0, .int .i64 0, .slice a L c]] w (RetNm (numsL 4 0 0 ids) w) := by
  have h3 := ((ok_at rfl).1 hok).2.2
  have hL := ris_len ids (-1) (by omega) (by omega) h3
  have hm := ris_mem ids (-1) h3
  have HM := Lib.hid (fun (x : Int) (hx : x ∈ ids) => And.intro (show 0 ≤ x by have := (hm x hx).1; omega) (hm x hx).2)
  have HN : Hid (numsL 4 0 0 ids = (L : Int) :: difL 0 ids) := Lib.hid (by unfold numsL; rw [if_pos rfl, hl])
  rw [HN.out]
  have hX1 := heap_alloc_new w (.cells #[.int .i64 4, .int .i64 0, .int .i64 0, .slice a L c] 24)
  have hB1 := (Below.refl w.heap.size w).alloc (Nat.le_refl _) (.cells #[.int .i64 4, .int .i64 0, .int .i64 0, .slice a L c] 24)
  obtain ⟨w1, hw1⟩ : ∃ w1, w.alloc (.cells #[.int .i64 4, .int .i64 0, .int .i64 0, .slice a L c] 24) = w1 := ⟨_, rfl⟩
  rw [hw1] at hX1 hB1
  obtain ⟨c0, c1, c2, c3⟩ := rec_reads hX1
  have hwL : IntKind.i64.wrap (1 + (L : Int)) = 1 + (L : Int) := by rw [IntKind.wrap_i64]; omega
  have hLb : L ≤ 65535 := by omega
  obtain ⟨w2, hmake, hown2, hb2, hz2⟩ := make_ints (1 + L) w1 (by omega)
  rw [show ((1 + L : Nat) : Int) = 1 + (L : Int) from by omega] at hmake
  obtain ⟨d0, d1, d2, d3⟩ := rec_reads ((hb2.block w.heap.size (heap_lt hX1)).trans hX1)
  have HX2 := Lib.hid ((hb2.block w.heap.size (heap_lt hX1)).trans hX1)
  have hB2 := hB1.trans (hb2.mono hB1.size)
  have HB2 := Lib.hid hB2
  have HR := Lib.hid hr
  have HL := Lib.hid hl
  have HZ1 : Hid (w1.heap.size = w.heap.size + 1) := Lib.hid (by rw [← hw1]; simp)
  have hs12 : w1.heap.size ≤ w2.heap.size := by omega
  obtain ⟨i0, hi, hz0, hz1, hz3⟩ := info_parts int_info
  have HS : Hid (w1.heap.size ≤ w2.heap.size ∧ w.heap.size < w1.heap.size) := Lib.hid ⟨hs12, by have := HZ1.out; omega⟩
  clear hX1 hB1 hB2 hb2 hz2 hr hl h3 hL hm hok hs12 HN
  go_enter Try.func15, Try.ntmps15
  go_wp2_with (at_builtin; refine wpList_append_own _ rfl _ _ 22 rfl w1.heap.size 3 i0 (.int .i64 0) 1 8 Try.underlying22 hi hz0 hz1 hz3 rfl (by decide) _ _ _ rfl (hown2.alloc _) ⟨w2.heap.size, 0, none⟩ 1 1 [.int .i64 (L : Int)] rfl rfl (one_news (heap_alloc_new _ _)) int_one (by unfold maxLen; omega) (by omega) (by simp; have := HS.out.1; omega) ?_)
  intro v3 w3 hown3 hg3 _
  have hX3 := (show w3.heap[w.heap.size]? = w2.heap[w.heap.size]? by rw [hg3.block w.heap.size (by simp; have := HS.out; omega) (fun e => by have := (hown2.lt _ e.symm).1; have := HS.out; omega), Lib.alloc_old _ _ _ (by have := HS.out; omega)]).trans HX2.out
  obtain ⟨e0, e1, e2, e3⟩ := rec_reads hX3
  have HB3 := Lib.hid (own_below HB2.out hown2 (by have := HS.out; omega) hg3)
  have HO3 : Hid (w3.ownsRow w1.heap.size 3 1 v3 [(L : Int)].length (inCells [(L : Int)])) := Lib.hid (by simpa [inCells] using hown3)
  have HE0 : Hid ((L : Int) :: difL 0 ids = [(L : Int)] ++ difL 0 (ids.drop 0)) := Lib.hid (by rw [List.drop_zero]; rfl)
  clear hown2 hown3 hg3 hX3 hmake d0 d1 d2 d3 c0 c1 c2 c3
  go_wp2_with fail
  go_loopw [3, 4, 29] (fun v p i wr => ∃ (j : Nat) (x : Int) (G : List Int), j ≤ L ∧ p = .int .i64 x ∧ i = .int .i64 j ∧ 0 ≤ x ∧ x ≤ 65534 ∧ G.length = j + 1 ∧ Hid (wr.ownsRow w1.heap.size 3 1 v G.length (inCells G)) ∧ Hid ((L : Int) :: difL 0 ids = G ++ difL x (ids.drop j)) ∧ Hid (Below w.heap.size w wr)) (fun _ _ i _ => L - (RowKit.intOf i).toNat)
  case atStart => exact ⟨0, 0, [(L : Int)], Nat.zero_le _, rfl, rfl, Int.le_refl _, by decide, rfl, HO3, HE0, HB3⟩
  case round =>
    rename_i wr
    clear HO3 HE0 HB3
    obtain ⟨j, x, G, hj, rfl, rfl, hx0, hx1, hG, HO, HE, HB⟩ := hrel
    obtain ⟨ao, cv, rfl⟩ := owns_slice HO.out
    by_cases hlt : j < L
    · have g0 : (j : Int) < (L : Int) := by omega
      have g1 : (0 : Int) ≤ (j : Int) := by omega
      obtain h0 | ⟨b, off, rfl, hcap, hmm, hz, hc⟩ := HR.out.below (by exact HB.out)
      · omega
      have hcell := hc j (by omega)
      have hjl : j < ids.length := by rw [HL.out]; exact hlt
      have hy := HM.out (ids.getD j 0) (getD_in ids j hjl)
      have hdrop : ids.drop j = ids.getD j 0 :: ids.drop (j + 1) := by rw [List.drop_eq_getElem_cons hjl, getD_at ids j hjl]
      obtain ⟨y, hyy⟩ : ∃ y, ids.getD j 0 = y := ⟨_, rfl⟩
      rw [hyy] at hcell hy hdrop
      have HE2 : Hid ((L : Int) :: difL 0 ids = (G ++ [y - x]) ++ difL y (ids.drop (j + 1))) := Lib.hid (by rw [HE.out, hdrop]; simp [difL])
      have hwy : IntKind.i64.wrap (y - x) = y - x := by rw [IntKind.wrap_i64]; omega
      have hown := HO.out
      have hGb : G.length + 1 ≤ 65537 := by omega
      have hBs : w1.heap.size ≤ wr.heap.size := by
        obtain ⟨g9, c9, _, _, he⟩ := owns_some HO.out (by omega)
        have := (HO.out.lt g9 (by rw [he]; rfl))
        omega
      have HGl := Lib.hid hG
      clear hc hz hyy hdrop hjl HE HO hG
      go_wp2_with (at_builtin; refine wpList_append_own _ rfl _ _ 22 rfl w1.heap.size 3 i0 (.int .i64 0) 1 8 Try.underlying22 hi hz0 hz1 hz3 rfl (by decide) _ _ _ rfl (hown.alloc _) ⟨wr.heap.size, 0, none⟩ 1 1 [.int .i64 (y - x)] rfl rfl (one_news (heap_alloc_new _ _)) int_one (by unfold maxLen; omega) (by omega) (by simp; omega) ?_)
      intro v' w12 hown12 hgrow _
      have HB12 := Lib.hid (own_below HB.out hown (by have := HS.out; omega) hgrow)
      have HO12 : Hid (w12.ownsRow w1.heap.size 3 1 v' (G ++ [y - x]).length (inCells (G ++ [y - x]))) := Lib.hid (by rw [inCells_snoc, List.length_append]; exact hown12)
      have hG2 : (G ++ [y - x]).length = j + 1 + 1 := by have := HGl.out; simp; omega
      generalize G ++ [y - x] = G2 at HO12 HE2 hG2
      clear hown hown12 hgrow hBs hGb HB HGl
      go_wp2
      exact ⟨⟨j + 1, y, G2, by omega, rfl, by go_num, hy.1, hy.2, hG2, HO12, HE2, HB12⟩, by simp [RowKit.intOf]; omega⟩
    · obtain rfl : j = L := by omega
      have g0 : ¬ (j : Int) < (j : Int) := by omega
      have HF : Hid ((j : Int) :: difL 0 ids = G) := Lib.hid (by rw [HE.out, List.drop_of_length_le (by rw [HL.out]; exact Nat.le_refl _)]; simp [difL])
      obtain ⟨a9, c9, he9, hrow⟩ := row_of_ints HO.out (by unfold maxLen; omega)
      simp only [Value.slice.injEq] at he9
      obtain ⟨rfl, _, rfl⟩ := he9
      have HRow := Lib.hid hrow
      clear hrow hlt hG
      go_wp2
      go_ret
      refine ⟨ao, cv, ?_, ?_, HB.out⟩
      · rw [HF.out]; rfl
      · rw [HF.out]; exact HRow.out

theorem rcnums_any (k n r : Int) (a : Option Addr) (L c : Nat) (ids : List Int) (w : World) (hl : ids.length = L) (hr : IsRow .i64 w a L L ids) (hok : okK k n r ids = true) :
    Calls Try.prog 15 #[.agg #[.int .i64 k, .int .i64 n, .int .i64 r, .slice a L c]] w (RetNm (numsL k n r ids) w) := by
  by_cases h4 : k = 4
  · subst h4
    obtain ⟨rfl, rfl, _⟩ := (ok_at rfl).1 hok
    exact rcnums_at a L c ids w hl hr hok
  · exact rcnums_no k n r a L c ids w h4
end Go.Proofs.Ytbaifcbjkmmnbaa
