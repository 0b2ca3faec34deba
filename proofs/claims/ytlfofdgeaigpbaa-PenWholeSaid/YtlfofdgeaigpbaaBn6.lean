/-
  Texts put together: OwnBe, RcN, CopyChk, WrByte, VarW.
-/
import Derived.Test.YtlfofdgeaigpbaaBn4
import Derived.Test.YtlfofdgeaigpbaaRcC
import Derived.Test.YtlfofdgeaigpbaaRows
import Derived.Test.YtlfofdgeaigpbaaBn1
import Derived.Shelf.Strings.Builder1
import Derived.WalkKit
import Derived.WalkSpells
import Derived.WalkLawsBesides
import Derived.Lib.Hide
import Derived.Test.YtlfofdgeaigpbaaVarM
import Derived.Test.YtlfofdgeaigpbaaShelf
import Derived.Outline
import Derived.IntWalk
set_option linter.unusedSimpArgs false
set_option linter.unusedVariables false
namespace Go.Proofs.Ytlfofdgeaigpbaa
open Go.RowKit

theorem own_below {base : Nat} {e : TypeId} {v : Value} {n : Nat} {xs : List Value} {w0 w w' : World} {o : Obj} (hb : Below w0.heap.size w0 w) (hown : w.ownsRow base e 1 v n xs) (hbase : w0.heap.size ≤ base) (hg : (w.alloc o).grownBy w' v.ownBlock) : Below w0.heap.size w0 w' :=
  hb.trans ⟨hg.os, hg.tape, hg.output, Nat.le_trans (by simp) hg.size, fun i hi => by
    rw [hg.block i (by have := hb.size; simp; omega) (fun e => by have := (hown.lt i e.symm).1; omega), Lib.alloc_old _ _ i (by have := hb.size; omega)]⟩
end Go.Proofs.Ytlfofdgeaigpbaa

namespace Go.Proofs.Ytlfofdgeaigpbaa
open Go.RowKit

theorem ris_mem : ∀ (l : List Int) (a : Int), risF a l = true → ∀ x ∈ l, a < x ∧ x ≤ 65534
  | [], a, h, x, hx => by simp at hx
  | y :: r, a, h, x, hx => by
    obtain ⟨h1, h2, h3⟩ := ris_cons.1 h
    rcases List.mem_cons.1 hx with rfl | hx
    · exact ⟨h1, by omega⟩
    · have := ris_mem r y h3 x hx
      exact ⟨by omega, this.2⟩
theorem dif_mem : ∀ (l : List Int) (a : Int), 0 ≤ a → a ≤ 65534 → (∀ x ∈ l, 0 ≤ x ∧ x ≤ 65534) → ∀ y ∈ difL a l, -65534 ≤ y ∧ y ≤ 65534
  | [], a, h0, h1, h, y, hy => by simp [difL] at hy
  | x :: r, a, h0, h1, h, y, hy => by
    have hx := h x (by simp)
    rcases List.mem_cons.1 hy with rfl | hy
    · omega
    · exact dif_mem r x hx.1 hx.2 (fun z hz => h z (by simp [hz])) y hy
/-- What is told of it: few numbers, each one that a cell holds. -/
theorem nums_64 {k n r : Int} {ids : List Int} (h : okK k n r ids = true) : Int64s (numsL k n r ids) ∧ (numsL k n r ids).length ≤ 65536 ∧ 1 ≤ (numsL k n r ids).length := by
  unfold numsL
  by_cases h4 : k = 4
  · rw [if_pos h4]
    have h3 := ((ok_at h4).1 h).2.2
    have hl := ris_len ids (-1) (by omega) (by omega) h3
    have hm := ris_mem ids (-1) h3
    refine ⟨fun y hy => ?_, by rw [List.length_cons, dif_len]; omega, by simp⟩
    rcases List.mem_cons.1 hy with rfl | hy
    · omega
    · have := dif_mem ids 0 (by omega) (by omega) (fun x hx => by have := hm x hx; omega) y hy
      omega
  · rw [if_neg h4]
    obtain ⟨_, h1, h2, _⟩ := (ok_no h4).1 h
    have b1 := fit_bounds h1
    have b2 := fit_bounds h2
    refine ⟨fun y hy => ?_, by simp, by simp⟩
    simp at hy
    rcases hy with rfl | rfl <;> omega

/-- What numbers answers: a list, to be read. -/
def RetNm (L : List Int) (w : World) (e : Ending) (w' : World) : Prop := ∃ ao cap, e = .returned (.slice ao L.length cap) ∧ IsRow .i64 w' ao L.length L.length L ∧ Below w.heap.size w w'

set_option maxHeartbeats 1000000 in
theorem rcnums_no (k n r : Int) (a : Option Addr) (L c : Nat) (ids : List Int) (w : World) (h4 : ¬ k = 4) :
    Calls Try.prog 40 #[.agg #[.int .i64 k, .int .i64 n, .int .i64 r, .slice a L c]] w (RetNm (numsL k n r ids) w) := by
  have HN : Hid (numsL k n r ids = [n, r]) := Lib.hid (by unfold numsL; rw [if_neg h4])
  rw [HN.out]
  have hX1 := heap_alloc_new w (.cells #[.int .i64 k, .int .i64 n, .int .i64 r, .slice a L c] 34)
  have hB1 := (Below.refl w.heap.size w).alloc (Nat.le_refl _) (.cells #[.int .i64 k, .int .i64 n, .int .i64 r, .slice a L c] 34)
  obtain ⟨w1, hw1⟩ : ∃ w1, w.alloc (.cells #[.int .i64 k, .int .i64 n, .int .i64 r, .slice a L c] 34) = w1 := ⟨_, rfl⟩
  rw [hw1] at hX1 hB1
  obtain ⟨c0, c1, c2, c3⟩ := rec_reads hX1
  have HR : Hid (IsRow .i64 (w1.alloc (.cells #[.int .i64 n, .int .i64 r] 3)) (some ⟨w1.heap.size, 0, none⟩) 2 2 [n, r]) := Lib.hid (row2 w1 n r 3)
  have HB : Hid (Below w.heap.size w (w1.alloc (.cells #[.int .i64 n, .int .i64 r] 3))) := Lib.hid (hB1.alloc hB1.size _)
  have g4 : (k == 4) = false := by simpa using h4
  have HZ : Hid (w1.heap.size = w.heap.size + 1) := Lib.hid (by rw [← hw1]; simp)
  clear hX1 hB1 h4
  go_enter Try.func40, Try.ntmps40
  go_wp2
  go_ret
  try rw [hw1]
  exact ⟨_, 2, rfl, by first | exact HR.out | (rw [← HZ.out]; exact HR.out), HB.out⟩

set_option maxRecDepth 100000 in
set_option maxHeartbeats 4000000 in
theorem rcnums_at (a : Option Addr) (L c : Nat) (ids : List Int) (w : World) (hl : ids.length = L) (hr : IsRow .i64 w a L L ids) (hok : okK 4 0 0 ids = true) :
    Calls Try.prog 40 #[.agg #[.int .i64 4, .int .i64 0, .int .i64 0, .slice a L c]] w (RetNm (numsL 4 0 0 ids) w) := by
  have h3 := ((ok_at rfl).1 hok).2.2
  have hL := ris_len ids (-1) (by omega) (by omega) h3
  have hm := ris_mem ids (-1) h3
  have HM := Lib.hid (fun (x : Int) (hx : x ∈ ids) => And.intro (show 0 ≤ x by have := (hm x hx).1; omega) (hm x hx).2)
  have HN : Hid (numsL 4 0 0 ids = (L : Int) :: difL 0 ids) := Lib.hid (by unfold numsL; rw [if_pos rfl, hl])
  rw [HN.out]
  have hX1 := heap_alloc_new w (.cells #[.int .i64 4, .int .i64 0, .int .i64 0, .slice a L c] 34)
  have hB1 := (Below.refl w.heap.size w).alloc (Nat.le_refl _) (.cells #[.int .i64 4, .int .i64 0, .int .i64 0, .slice a L c] 34)
  obtain ⟨w1, hw1⟩ : ∃ w1, w.alloc (.cells #[.int .i64 4, .int .i64 0, .int .i64 0, .slice a L c] 34) = w1 := ⟨_, rfl⟩
  rw [hw1] at hX1 hB1
  obtain ⟨c0, c1, c2, c3⟩ := rec_reads hX1
  have hwL : IntKind.i64.wrap (1 + (L : Int)) = 1 + (L : Int) := by rw [IntKind.wrap_i64]; omega
  have hLb : L ≤ 65535 := by omega
  obtain ⟨w2, hmake, hown2, hb2, hz2⟩ := make_ints (1 + L) w1 (by omega)
  rw [show ((1 + L : Nat) : Int) = 1 + (L : Int) from by omega] at hmake
  obtain ⟨d0, d1, d2, d3⟩ := rec_reads ((hb2.block w.heap.size (heap_lt hX1)).trans hX1)
  have HX2 := Lib.hid ((hb2.block w.heap.size (heap_lt hX1)).trans hX1)
  have hB2 := hB1.trans (hb2.mono hB1.size)
  have HB2 := Lib.hid hB2
  have HR := Lib.hid hr
  have HL := Lib.hid hl
  have HZ1 : Hid (w1.heap.size = w.heap.size + 1) := Lib.hid (by rw [← hw1]; simp)
  have hs12 : w1.heap.size ≤ w2.heap.size := by omega
  obtain ⟨i0, hi, hz0, hz1, hz3⟩ := info_parts int_info
  have HS : Hid (w1.heap.size ≤ w2.heap.size ∧ w.heap.size < w1.heap.size) := Lib.hid ⟨hs12, by have := HZ1.out; omega⟩
  clear hX1 hB1 hB2 hb2 hz2 hr hl h3 hL hm hok hs12 HN
  go_enter Try.func40, Try.ntmps40
  go_wp2_with (at_builtin; refine wpList_append_own _ rfl _ _ 32 rfl w1.heap.size 3 i0 (.int .i64 0) 1 8 Try.underlying32 hi hz0 hz1 hz3 rfl (by decide) _ _ _ rfl (hown2.alloc _) ⟨w2.heap.size, 0, none⟩ 1 1 [.int .i64 (L : Int)] rfl rfl (one_news (heap_alloc_new _ _)) int_one (by unfold maxLen; omega) (by omega) (by simp; have := HS.out.1; omega) ?_)
  intro v3 w3 hown3 hg3 _
  have hX3 := (show w3.heap[w.heap.size]? = w2.heap[w.heap.size]? by rw [hg3.block w.heap.size (by simp; have := HS.out; omega) (fun e => by have := (hown2.lt _ e.symm).1; have := HS.out; omega), Lib.alloc_old _ _ _ (by have := HS.out; omega)]).trans HX2.out
  obtain ⟨e0, e1, e2, e3⟩ := rec_reads hX3
  have HB3 := Lib.hid (own_below HB2.out hown2 (by have := HS.out; omega) hg3)
  have HO3 : Hid (w3.ownsRow w1.heap.size 3 1 v3 [(L : Int)].length (inCells [(L : Int)])) := Lib.hid (by simpa [inCells] using hown3)
  have HE0 : Hid ((L : Int) :: difL 0 ids = [(L : Int)] ++ difL 0 (ids.drop 0)) := Lib.hid (by rw [List.drop_zero]; rfl)
  clear hown2 hown3 hg3 hX3 hmake d0 d1 d2 d3 c0 c1 c2 c3
  go_wp2_with fail
  go_loopw [3, 4, 29] (fun v p i wr => ∃ (j : Nat) (x : Int) (G : List Int), j ≤ L ∧ p = .int .i64 x ∧ i = .int .i64 j ∧ 0 ≤ x ∧ x ≤ 65534 ∧ G.length = j + 1 ∧ Hid (wr.ownsRow w1.heap.size 3 1 v G.length (inCells G)) ∧ Hid ((L : Int) :: difL 0 ids = G ++ difL x (ids.drop j)) ∧ Hid (Below w.heap.size w wr)) (fun _ _ i _ => L - (RowKit.intOf i).toNat)
  case atStart => exact ⟨0, 0, [(L : Int)], Nat.zero_le _, rfl, rfl, Int.le_refl _, by decide, rfl, HO3, HE0, HB3⟩
  case round =>
    rename_i wr
    clear HO3 HE0 HB3
    obtain ⟨j, x, G, hj, rfl, rfl, hx0, hx1, hG, HO, HE, HB⟩ := hrel
    obtain ⟨ao, cv, rfl⟩ := owns_slice HO.out
    by_cases hlt : j < L
    · have g0 : (j : Int) < (L : Int) := by omega
      have g1 : (0 : Int) ≤ (j : Int) := by omega
      obtain h0 | ⟨b, off, rfl, hcap, hmm, hz, hc⟩ := HR.out.below (by exact HB.out)
      · omega
      have hcell := hc j (by omega)
      have hjl : j < ids.length := by rw [HL.out]; exact hlt
      have hy := HM.out (ids.getD j 0) (getD_in ids j hjl)
      have hdrop : ids.drop j = ids.getD j 0 :: ids.drop (j + 1) := by rw [List.drop_eq_getElem_cons hjl, getD_at ids j hjl]
      obtain ⟨y, hyy⟩ : ∃ y, ids.getD j 0 = y := ⟨_, rfl⟩
      rw [hyy] at hcell hy hdrop
      have HE2 : Hid ((L : Int) :: difL 0 ids = (G ++ [y - x]) ++ difL y (ids.drop (j + 1))) := Lib.hid (by rw [HE.out, hdrop]; simp [difL])
      have hwy : IntKind.i64.wrap (y - x) = y - x := by rw [IntKind.wrap_i64]; omega
      have hown := HO.out
      have hGb : G.length + 1 ≤ 65537 := by omega
      have hBs : w1.heap.size ≤ wr.heap.size := by
        obtain ⟨g9, c9, _, _, he⟩ := owns_some HO.out (by omega)
        have := (HO.out.lt g9 (by rw [he]; rfl))
        omega
      have HGl := Lib.hid hG
      clear hc hz hyy hdrop hjl HE HO hG
      go_wp2_with (at_builtin; refine wpList_append_own _ rfl _ _ 32 rfl w1.heap.size 3 i0 (.int .i64 0) 1 8 Try.underlying32 hi hz0 hz1 hz3 rfl (by decide) _ _ _ rfl (hown.alloc _) ⟨wr.heap.size, 0, none⟩ 1 1 [.int .i64 (y - x)] rfl rfl (one_news (heap_alloc_new _ _)) int_one (by unfold maxLen; omega) (by omega) (by simp; omega) ?_)
      intro v' w12 hown12 hgrow _
      have HB12 := Lib.hid (own_below HB.out hown (by have := HS.out; omega) hgrow)
      have HO12 : Hid (w12.ownsRow w1.heap.size 3 1 v' (G ++ [y - x]).length (inCells (G ++ [y - x]))) := Lib.hid (by rw [inCells_snoc, List.length_append]; exact hown12)
      have hG2 : (G ++ [y - x]).length = j + 1 + 1 := by have := HGl.out; simp; omega
      generalize G ++ [y - x] = G2 at HO12 HE2 hG2
      clear hown hown12 hgrow hBs hGb HB HGl
      go_wp2
      exact ⟨⟨j + 1, y, G2, by omega, rfl, by go_num, hy.1, hy.2, hG2, HO12, HE2, HB12⟩, by simp [RowKit.intOf]; omega⟩
    · obtain rfl : j = L := by omega
      have g0 : ¬ (j : Int) < (j : Int) := by omega
      have HF : Hid ((j : Int) :: difL 0 ids = G) := Lib.hid (by rw [HE.out, List.drop_of_length_le (by rw [HL.out]; exact Nat.le_refl _)]; simp [difL])
      obtain ⟨a9, c9, he9, hrow⟩ := row_of_ints HO.out (by unfold maxLen; omega)
      simp only [Value.slice.injEq] at he9
      obtain ⟨rfl, _, rfl⟩ := he9
      have HRow := Lib.hid hrow
      clear hrow hlt hG
      go_wp2
      go_ret
      refine ⟨ao, cv, ?_, ?_, HB.out⟩
      · rw [HF.out]; rfl
      · rw [HF.out]; exact HRow.out

theorem rcnums_any (k n r : Int) (a : Option Addr) (L c : Nat) (ids : List Int) (w : World) (hl : ids.length = L) (hr : IsRow .i64 w a L L ids) (hok : okK k n r ids = true) :
    Calls Try.prog 40 #[.agg #[.int .i64 k, .int .i64 n, .int .i64 r, .slice a L c]] w (RetNm (numsL k n r ids) w) := by
  by_cases h4 : k = 4
  · subst h4
    obtain ⟨rfl, rfl, _⟩ := (ok_at rfl).1 hok
    exact rcnums_at a L c ids w hl hr hok
  · exact rcnums_no k n r a L c ids w h4
end Go.Proofs.Ytlfofdgeaigpbaa

namespace Go.Proofs.Ytlfofdgeaigpbaa
open Go.RowKit

theorem builder_info : (Try.prog.info? 57).map (·.size) = some 2 := by kernel_rfl
theorem builder_lies : liesAt Try.prog Try.prog.depth 57 (2 / Try.prog.cellsOf 57) 0 57 1 = true := by kernel_rfl
theorem byte_info : (Try.prog.info? 5).map (fun i => (i.zero, i.size, i.bytes)) = some (some (.int .u8 0), 1, 1) := by kernel_rfl

set_option maxHeartbeats 1000000 in
set_option maxRecDepth 100000 in
theorem copyCheck_used (b : Nat) (w : World) (h0 : w.cell? ⟨b, 0, none⟩ = some (.pointer (some ⟨b, 0, none⟩))) :
    Calls Try.prog 34 #[.pointer (some ⟨b, 0, none⟩)] w fun e w' => e = .returned (.tuple #[]) ∧ w' = w := by
  obtain ⟨j, hj, _⟩ := Option.map_eq_some_iff.1 builder_info
  go_enter Try.func34, Try.ntmps34
  go_wp2
  rw [Lib.run_neq_ptr_same w _ Try.underlying54 hj]
  go_wp2
  go_end0
  exact ⟨rfl, rfl⟩

set_option maxHeartbeats 1000000 in
set_option maxRecDepth 100000 in
theorem copyCheck_fresh (b : Nat) (w : World) (h0 : w.cell? ⟨b, 0, none⟩ = some (.pointer none)) (hsh : w.shape? b = some (57, 2)) (hfz : w.frozen? ⟨b, 0, none⟩ = false) :
    Calls Try.prog 34 #[.pointer (some ⟨b, 0, none⟩)] w fun e w' => e = .returned (.tuple #[]) ∧ w' = w.setCell ⟨b, 0, none⟩ (.pointer (some ⟨b, 0, none⟩)) := by
  obtain ⟨j, hj, hjs⟩ := Option.map_eq_some_iff.1 builder_info
  go_enter Try.func34, Try.ntmps34
  go_wp2
  rw [Lib.run_to_unsafe w ⟨b, 0, none⟩ Try.underlying54 Try.underlying78 hj (by rw [hjs]; decide) hsh (Nat.zero_lt_succ 1)]
  simp only [Result.andThen]
  rw [Oper.upon_value]
  go_wp2
  rw [run_callFunc_extern Try.func43 (by kernel_rfl) (by kernel_rfl) (by kernel_rfl) (e := Extern.AbiNoEscape.same) (by kernel_rfl)]
  rw [Lib.run_noEscape]
  simp only [Result.andThen]
  rw [Oper.upon_value]
  go_wp2
  rw [Lib.run_from_unsafe w ⟨b, 0, none⟩ Try.underlying78 Try.underlying54 hj hsh builder_lies]
  simp only [Result.andThen]
  rw [Oper.upon_value]
  go_wp2
  go_end0
  exact ⟨rfl, rfl⟩

/-- All blocks but b, of elements of another type, are as they were. -/
def Kept (b : Nat) (e : TypeId) (w w' : World) : Prop := ∀ x cs T fr, x ≠ b → T ≠ e → w.heap[x]? = some (.cells cs T fr) → w'.heap[x]? = some (.cells cs T fr)

theorem Kept.refl (b : Nat) (e : TypeId) (w : World) : Kept b e w w := fun _ _ _ _ _ _ h => h
theorem Kept.trans {b : Nat} {e : TypeId} {w w' w2 : World} (h : Kept b e w w') (h2 : Kept b e w' w2) : Kept b e w w2 := fun x cs T fr hx hT hh => h2 x cs T fr hx hT (h x cs T fr hx hT hh)
theorem Kept.below {b : Nat} {e : TypeId} {w w' : World} (h : Below w.heap.size w w') : Kept b e w w' := fun x cs T fr _ _ hh => by
  rw [h.block x (heap_lt hh)]; exact hh
theorem Kept.setCell {b : Nat} {e : TypeId} {w w' : World} (h : Kept b e w w') (o : Nat) (v : Value) : Kept b e w (w'.setCell ⟨b, o, none⟩ v) := fun x cs T fr hx hT hh => by
  rw [Below.heap_setCell _ _ _ _ hx]; exact h x cs T fr hx hT hh
theorem Kept.grown {b : Nat} {e : TypeId} {w w1 w' : World} {B n : Nat} {v : Value} {xs : List Value} (h : Kept b e w w1) (hown : w1.ownsRow B e 1 v n xs) (hg : w1.grownBy w' v.ownBlock) : Kept b e w w' := fun x cs T fr hx hT hh => by
  have h1 := h x cs T fr hx hT hh
  have hne := Lib.ownBlock_ne hown h1 hT
  rw [hg.block x (heap_lt h1) (fun e => hne e.symm)]; exact h1
theorem Kept.alloc {b : Nat} {e : TypeId} {w w' : World} (h : Kept b e w w') (o : Obj) : Kept b e w (w'.alloc o) := fun x cs T fr hx hT hh => by
  have h1 := h x cs T fr hx hT hh
  rw [Lib.alloc_old w' _ x (heap_lt h1)]; exact h1

/-- A cell that is there, behind a new block. -/
theorem cell_alloc {w : World} {b j : Nat} {v : Value} (h : w.cell? ⟨b, j, none⟩ = some v) (o : Obj) : (w.alloc o).cell? ⟨b, j, none⟩ = some v := by
  rw [((Below.refl w.heap.size w).alloc (Nat.le_refl _) o).cell (p := ⟨b, j, none⟩) (World.block_lt_of_cell? w _ h)]; exact h
theorem cell_below {w w' : World} {b j : Nat} {v : Value} (h : w.cell? ⟨b, j, none⟩ = some v) (hb : Below w.heap.size w w') : w'.cell? ⟨b, j, none⟩ = some v := by
  rw [hb.cell (p := ⟨b, j, none⟩) (World.block_lt_of_cell? w _ h)]; exact h

theorem copyCheckK (B b : Nat) (bs : List Value) (w : World) (h : Lib.IsBuilder 57 5 B b bs w) :
    Calls Try.prog 34 #[.pointer (some ⟨b, 0, none⟩)] w fun e w' => e = .returned (.tuple #[]) ∧ (Lib.BuilderAt 57 5 B b (.pointer (some ⟨b, 0, none⟩)) bs w' ∧ Below B w w' ∧ Kept b 5 w w') := by
  rcases h with h | h
  · refine (copyCheck_fresh b w h.cell0 h.shape h.frozen0).mono ?_
    rintro e w' ⟨rfl, rfl⟩
    exact ⟨rfl, h.used _, (Below.refl B w).setCell (p := ⟨b, 0, none⟩) h.1 _, (Kept.refl _ _ _).setCell _ _⟩
  · refine (copyCheck_used b w h.cell0).mono ?_
    rintro e w' ⟨rfl, rfl⟩
    exact ⟨rfl, h, Below.refl B _, Kept.refl _ _ _⟩

theorem copyCheck (B b : Nat) (bs : List Value) (w : World) (h : Lib.IsBuilder 57 5 B b bs w) :
    Calls Try.prog 34 #[.pointer (some ⟨b, 0, none⟩)] w fun e w' => e = .returned (.tuple #[]) ∧ (Lib.BuilderAt 57 5 B b (.pointer (some ⟨b, 0, none⟩)) bs w' ∧ Below B w w') :=
  (copyCheckK B b bs w h).mono fun _ _ ⟨a, b, c, _⟩ => ⟨a, b, c⟩

end Go.Proofs.Ytlfofdgeaigpbaa

namespace Go.Proofs.Ytlfofdgeaigpbaa
open Go.RowKit

set_option maxHeartbeats 2000000 in
set_option maxRecDepth 100000 in
theorem writeByteK (B b : Nat) (bs : List Value) (c : Int) (w : World) (h : Lib.IsBuilder 57 5 B b bs w) (hlen : bs.length + 1 ≤ 140737488355328) (hBw : B ≤ w.heap.size) :
    Calls Try.prog 45 #[.pointer (some ⟨b, 0, none⟩), .int .u8 c] w fun e w' => e = .returned .nilIface ∧ (Lib.BuilderAt 57 5 B b (.pointer (some ⟨b, 0, none⟩)) (bs ++ [.int .u8 c]) w' ∧ Below B w w' ∧ Kept b 5 w w') := by
  obtain ⟨i0, hi, hz0, hz1, hz2⟩ := info_parts byte_info
  go_enter Try.func45, Try.ntmps45
  go_wp2_with (go_at_call 34; refine (copyCheckK B b bs _ h).mono ?_)
  rintro e w1 ⟨rfl, h1, hb1, hk1⟩
  obtain ⟨hB, v, hbk, hown, hne⟩ := h1
  have c0 : w1.cell? ⟨b, 0, none⟩ = some (.pointer (some ⟨b, 0, none⟩)) := by rw [Lib.cell_of_heap hbk]; rfl
  have c1 : w1.cell? ⟨b, 1, none⟩ = some v := by rw [Lib.cell_of_heap hbk]; rfl
  go_wp2_with (at_builtin; refine wpList_append_own _ rfl _ _ 55 rfl B 5 i0 (.int .u8 0) 1 1 Try.underlying55 hi hz0 hz1 hz2 rfl (by decide) _ _ _ rfl (hown.alloc _) ⟨w1.heap.size, 0, none⟩ 1 1 [.int .u8 c] rfl rfl ?c1 ?c2 ?c3 ?c4 ?c5 ?_)
  case c1 =>
    intro j u hj
    match j, hj with
    | 0, hj => simp at hj; subst hj; simp [Addr.add]
  case c2 => intro u hu; simp at hu; subst hu; rfl
  case c3 => unfold maxLen; omega
  case c4 => omega
  case c5 => have := hb1.size; simp; omega
  intro v' w2 hown' hgrow _
  have hlt : b < w1.heap.size := by
    rcases Nat.lt_or_ge b w1.heap.size with h' | h'
    · exact h'
    · simp [Array.getElem?_eq_none h'] at hbk
  have hb2 : w2.heap[b]? = some (.cells #[.pointer (some ⟨b, 0, none⟩), v] 57 (0, 0)) := by
    rw [hgrow.block b (by simp; omega) (fun e => hne e.symm), Lib.alloc_old w1 _ b hlt]
    exact hbk
  have d0 : w2.cell? ⟨b, 0, none⟩ = some (.pointer (some ⟨b, 0, none⟩)) := by rw [Lib.cell_of_heap hb2]; rfl
  have d1 : w2.cell? ⟨b, 1, none⟩ = some v := by rw [Lib.cell_of_heap hb2]; rfl
  have f1 : w2.frozen? ⟨b, 1, none⟩ = false := Lib.frozen_of_heap hb2 1
  obtain ⟨g, cap, rfl⟩ : ∃ g cap, v' = .slice (some ⟨g, 0, none⟩) (bs.length + 1) cap := by
    rcases hown'.2 with ⟨_, h0⟩ | ⟨g, cap, cur, hv, _⟩
    · omega
    · exact ⟨g, cap, hv⟩
  go_wp2
  go_ret
  refine ⟨rfl, ?_, ?_, ?_⟩
  · exact Lib.BuilderAt.put (T := 57) (e := 5) hB hb2 (bs' := bs ++ [.int .u8 c]) (by simpa using hown') (by decide)
  · exact ((hb1.alloc (by have := hb1.size; omega) _).grown hgrow (by have := hb1.size; simp; omega) (fun k hk => (hown.lt k hk).1)).setCell (p := ⟨b, 1, none⟩) hB _
  · exact ((hk1.alloc _).grown (hown.alloc _) hgrow).setCell _ _

theorem writeByte (B b : Nat) (bs : List Value) (c : Int) (w : World) (h : Lib.IsBuilder 57 5 B b bs w) (hlen : bs.length + 1 ≤ 140737488355328) (hBw : B ≤ w.heap.size) :
    Calls Try.prog 45 #[.pointer (some ⟨b, 0, none⟩), .int .u8 c] w fun e w' => e = .returned .nilIface ∧ (Lib.BuilderAt 57 5 B b (.pointer (some ⟨b, 0, none⟩)) (bs ++ [.int .u8 c]) w' ∧ Below B w w') :=
  (writeByteK B b bs c w h hlen hBw).mono fun _ _ ⟨a, b, c, _⟩ => ⟨a, b, c⟩

end Go.Proofs.Ytlfofdgeaigpbaa

namespace Go.Proofs.Ytlfofdgeaigpbaa
open Go.RowKit

set_option maxHeartbeats 1000000 in
theorem write_neg (b : Nat) (n : Int) (w : World) (hn : n < 0) :
    Calls Try.prog 49 #[.pointer (some ⟨b, 0, none⟩), .int .i64 n] w fun e w' => e = .returned (.tuple #[]) ∧ w = w' := by
  go_enter Try.func49, Try.ntmps49
  go_wp2_with fail
  refine bodyPost_ret (v := .tuple #[]) (results_none rfl _ _ _) rfl ?_
  exact ⟨rfl, rfl⟩

set_option maxHeartbeats 1000000 in
theorem write_pos (B b : Nat) (l : List UInt8) (n : Int) (w : World) (h0 : 0 ≤ n) (h1 : n ≤ 9223372036854775807)
    (hbu : Lib.IsBuilder 57 5 B b (Lib.byteCells l) w) (hl : l.length ≤ 1000000) (hBw : B ≤ w.heap.size) :
    Calls Try.prog 49 #[.pointer (some ⟨b, 0, none⟩), .int .i64 n] w fun e w' => e = .returned (.tuple #[]) ∧
      Lib.IsBuilder 57 5 B b (Lib.byteCells (l ++ vput n)) w' ∧ Below B w w' := by
  have hn9 := vput_length n h1
  go_enter Try.func49, Try.ntmps49
  go_wp2_with fail
  go_loopw [1] (fun x wr => ∃ (q : Int) (d : List UInt8), x = .int .i64 q ∧ 0 ≤ q ∧ q ≤ n ∧ Hid (vput n = d ++ vput q) ∧ Lib.IsBuilder 57 5 B b (Lib.byteCells (l ++ d)) wr ∧ Below B w wr) (fun x _ => (RowKit.intOf x).toNat)
  case atStart => exact ⟨n, [], rfl, h0, Int.le_refl _, Lib.hid rfl, by simpa using hbu, Below.refl _ _⟩
  case round =>
    rename_i wr
    obtain ⟨q, d, rfl, hq0, hqn, HQ, hb, hbe⟩ := hrel
    have hsz := hbe.size
    have hdl : d.length ≤ 9 := by have := congrArg List.length HQ.out; rw [List.length_append] at this; omega
    have hlb : (Lib.byteCells (l ++ d)).length + 1 ≤ 140737488355328 := by rw [Lib.byteCells_length, List.length_append]; omega
    by_cases hq : 128 ≤ q
    · have e1 := vb_toNat (q % 128 + 128) (by omega) (by omega)
      have HV := Lib.hid (vput_big q hq)
      generalize vb (q % 128 + 128) = c at e1 HV
      have E1 := Lib.hid e1
      clear e1
      go_wp2_with fail
      refine (writeByte _ _ _ _ _ hb hlb (by omega)).mono ?_
      rintro e w2 ⟨rfl, hbu2, hb2⟩
      go_wp2
      refine ⟨⟨q / 128, d ++ [c], rfl, by omega, by omega, Lib.hid (by rw [HQ.out, HV.out]; simp), ?_, hbe.trans hb2⟩, by simp [RowKit.intOf]; omega⟩
      have hbu3 := Or.inr (a := Lib.BuilderAt 57 5 B b (.pointer none) (Lib.byteCells (l ++ d) ++ [.int .u8 (q % 128 + 128)]) w2) hbu2
      rw [← E1.out] at hbu3
      simpa [Lib.byteCells, Lib.IsBuilder] using hbu3
    · have e1 := vb_toNat q hq0 (by omega)
      have HV := Lib.hid (vput_small q hq0 (by omega))
      generalize vb q = c at e1 HV
      have E1 := Lib.hid e1
      clear e1
      go_wp2_with fail
      refine (writeByte _ _ _ _ _ hb hlb (by omega)).mono ?_
      rintro e w2 ⟨rfl, hbu2, hb2⟩
      go_wp2
      go_end0
      refine ⟨rfl, ?_, hbe.trans hb2⟩
      rw [HQ.out, HV.out]
      have hbu3 := Or.inr (a := Lib.BuilderAt 57 5 B b (.pointer none) (Lib.byteCells (l ++ d) ++ [.int .u8 q]) w2) hbu2
      rw [← E1.out] at hbu3
      simpa [Lib.byteCells, Lib.IsBuilder] using hbu3

theorem write_any (B b : Nat) (l : List UInt8) (n : Int) (w : World) (h1 : n ≤ 9223372036854775807)
    (hbu : Lib.IsBuilder 57 5 B b (Lib.byteCells l) w) (hl : l.length ≤ 1000000) (hBw : B ≤ w.heap.size) :
    Calls Try.prog 49 #[.pointer (some ⟨b, 0, none⟩), .int .i64 n] w fun e w' => e = .returned (.tuple #[]) ∧
      Lib.IsBuilder 57 5 B b (Lib.byteCells (l ++ vput n)) w' ∧ Below B w w' := by
  by_cases hn : n < 0
  · refine (write_neg b n w hn).mono ?_
    rintro e w' ⟨rfl, rfl⟩
    exact ⟨rfl, by rw [vput_neg n hn]; simpa using hbu, Below.refl _ _⟩
  · exact write_pos B b l n w (by omega) h1 hbu hl hBw

set_option maxHeartbeats 1000000 in
theorem all_row (a : Option Addr) (len cap t : Nat) (zs : List Int) (w : World) (h1 : len ≤ 100000)
    (hr : IsRow .i64 w a len t zs) (h64 : Int64s zs) :
    Calls Try.prog 39 #[.slice a len cap] w fun e w' => e = .returned (.string ⟨(vall (zs.take len)).toArray⟩) ∧ Below w.heap.size w w' := by
  go_enter Try.func39, Try.ntmps39
  go_wp2
  go_loopw [8] (fun i wr => ∃ k : Nat, k ≤ len ∧ i = .int .i64 k ∧ Lib.IsBuilder 57 5 w.heap.size w.heap.size (Lib.byteCells (vall (zs.take k))) wr ∧ Below w.heap.size w wr) (fun i _ => len - (RowKit.intOf i).toNat)
  case atStart => exact ⟨0, Nat.zero_le _, rfl, Lib.fresh_isBuilder _ _ w, (Below.refl _ _).alloc (Nat.le_refl _) _⟩
  case round =>
    rename_i wr
    obtain ⟨k, hk, rfl, hbu, hbe⟩ := hrel
    by_cases hlt : k < len
    · obtain h0 | ⟨b, off, rfl, hcap, hm, hz, hc⟩ := hr
      · omega
      have hlen := vall_length (zs.take k) (fun x hx => h64 x (List.mem_of_mem_take hx))
      have hlk : (zs.take k).length ≤ k := List.length_take_le _ _
      have hcell : wr.cell? ⟨b, off + k, none⟩ = some (.int .i64 (zs.getD k 0)) := by
        have h := hc k (by omega)
        rw [hbe.cell (p := ⟨b, off + k, none⟩) (World.block_lt_of_cell? w _ h)]
        exact h
      have hx := h64 (zs.getD k 0) (getD_in _ _ (by omega))
      have HS := Lib.hid (show vall (zs.take (k + 1)) = vall (zs.take k) ++ vput (zs.getD k 0) by rw [take_snoc zs k (by omega), vall_snoc])
      have HC := Lib.hid hc
      have HZ := Lib.hid hz
      clear hc hz
      generalize zs.getD k 0 = x at hcell hx HS
      have hl9 : (vall (zs.take k)).length ≤ 1000000 := by omega
      generalize vall (zs.take k) = acc at hbu hl9 HS
      have hsz := hbe.size
      clear hlen hlk
      go_wp2_with fail
      refine (write_any _ _ _ x _ hx.2 hbu hl9 hsz).mono ?_
      rintro e w2 ⟨rfl, hbu2, hb2⟩
      go_wp2
      exact ⟨⟨k + 1, by omega, by go_num, by rw [HS.out]; exact hbu2, hbe.trans hb2⟩, by simp [RowKit.intOf]; omega⟩
    · obtain rfl : k = len := by omega
      go_wp2_with (go_at_call 26; refine (Try.Builder_String_any _ _ _ _ hbu hbe.size).mono ?_; rintro e w1 ⟨rfl, hb1⟩)
      go_ret
      exact ⟨rfl, hbe.trans hb1⟩

theorem all_any (a : Option Addr) (len cap : Nat) (zs : List Int) (w : World) (h1 : len ≤ 100000)
    (hr : IsRow .i64 w a len cap zs) (h64 : Int64s zs) :
    Calls Try.prog 39 #[.slice a len cap] w fun e w' => e = .returned (.string ⟨(vall (zs.take len)).toArray⟩) ∧ Below w.heap.size w w' := all_row a len cap cap zs w h1 hr h64

end Go.Proofs.Ytlfofdgeaigpbaa
