/-
  record.Take: walked.
-/
import Derived.Test.YtbaifcbjkmmnbaaRcT
set_option linter.unusedSimpArgs false
set_option linter.unusedVariables false
namespace Go.Proofs.Ytbaifcbjkmmnbaa
open Go.RowKit

/-- What Take answers: the record, its numbers to be read; how many bytes; what is wrong. -/
def RetTk (T : Tk) (l : Nat) (w : World) (e : Ending) (w' : World) : Prop :=
  ∃ ao cap, e = .returned (.tuple #[.agg #[.int .i64 T.k, .int .i64 T.n, .int .i64 T.r, .slice ao T.ids.length cap], .int .i64 ((l : Int) - (T.rest.length : Int)), .int .i64 T.e]) ∧ IsRow .i64 w' ao T.ids.length T.ids.length T.ids ∧ Below w.heap.size w w'

theorem tk_rest_le (s : List UInt8) : (tkR s).rest.length ≤ s.length := by
  by_cases h : (tkR s).e = 0
  · have := congrArg List.length (rtk_back h).2
    rw [List.length_append] at this
    omega
  · rw [tk_bad s h]; exact Nat.le_refl _

theorem tk_ids_le (s : List UInt8) : (tkR s).ids.length ≤ 65535 := by
  by_cases h : (tkR s).e = 0
  · have h1 := (rtk_back h).1
    by_cases h4 : (tkR s).k = 4
    · have := ris_len _ (-1) (by omega) (by omega) ((ok_at h4).1 h1).2.2
      omega
    · rw [((ok_no h4).1 h1).2.2.2]; simp
  · rw [tk_bad s h]; exact Nat.zero_le _

set_option maxRecDepth 100000 in
set_option maxHeartbeats 4000000 in
theorem rctake_any (s : List UInt8) (w : World) (hs : s.length ≤ 1000000000) :
    Calls Try.prog 11 #[.string ⟨s.toArray⟩] w (RetTk (tkR s) s.length w) := by
  obtain ⟨w1, hw1⟩ : ∃ w1, w.alloc (.cells #[.int .i64 0, .int .i64 0, .int .i64 0, .slice none 0 0] 24) = w1 := ⟨_, rfl⟩
  have hX1 : w1.heap[w.heap.size]? = some (.cells #[.int .i64 0, .int .i64 0, .int .i64 0, .slice none 0 0] 24 (0, 0)) := by rw [← hw1]; exact heap_alloc_new w _
  have hB1 : Below w.heap.size w w1 := by rw [← hw1]; exact (Below.refl w.heap.size w).alloc (Nat.le_refl _) _
  have hz1 : w1.heap.size = w.heap.size + 1 := by rw [← hw1]; simp
  have hR2 : IsRr (w1.alloc (.cells #[.string ⟨s.toArray⟩, .int .i64 0] 44)) w1.heap.size s 0 := heap_alloc_new w1 _
  have hb2 := (Below.refl w1.heap.size w1).alloc (Nat.le_refl _) (.cells #[.string ⟨s.toArray⟩, .int .i64 0] 44)
  obtain ⟨w2, hw2⟩ : ∃ w2, w1.alloc (.cells #[.string ⟨s.toArray⟩, .int .i64 0] 44) = w2 := ⟨_, rfl⟩
  have hz2 : w2.heap.size = w.heap.size + 2 := by rw [← hw2]; simp; omega
  rw [hw2] at hR2 hb2
  have hX2 := (hb2.block w.heap.size (by omega)).trans hX1
  have hB2 := hB1.trans (hb2.mono (by omega))
  rw [hz1] at hR2
  have H1 := Lib.hid (rcrec_any hR2 hs)
  have hle := tk_rest_le s
  have HMx : Hid ((tkR s).ids.length ≤ maxLen) := Lib.hid (Nat.le_trans (tk_ids_le s) (by unfold maxLen; omega))
  have HBad := Lib.hid (tk_bad s)
  generalize tkR s = T at H1 hle HBad HMx ⊢
  have Z1 := Lib.hid (bsize s)
  have HZ := Lib.hid (And.intro hz1 (And.intro hz2 (And.intro hw1 hw2)))
  clear hR2 hb2 hX1 hB1 hz1 hz2 hw1 hw2
  go_enter Try.func11, Try.ntmps11
  go_wp2_with fail
  rw [HZ.out.2.2.1, HZ.out.2.2.2]
  refine H1.out.mono ?_
  rintro e w3 ⟨k, n, r, ao, m, cap, t, rfl, hr3, ho3, hb3⟩
  obtain ⟨hz1, hz2, _⟩ := HZ.out
  have hX3 := (hb3.block w.heap.size (by omega) (by omega)).trans hX2
  have hB3 := hB2.trans ((hb3.below (by omega)).mono (by omega))
  have hX4 := put_rec hX3 (.int .i64 k) (.int .i64 n) (.int .i64 r) (.slice ao m cap)
  obtain ⟨d0, d1, d2, d3⟩ := rec_reads hX3
  obtain ⟨g0, g1, g2, g3⟩ := rec_free hX3
  obtain ⟨u0, u1, u2, u3⟩ := rec_reads hX4
  obtain ⟨v0, v1, v2, v3⟩ := rec_free hX4
  have hr4 : IsRr ((((w3.setCell ⟨w.heap.size, 0, none⟩ (.int .i64 k)).setCell ⟨w.heap.size, 1, none⟩ (.int .i64 n)).setCell ⟨w.heap.size, 2, none⟩ (.int .i64 r)).setCell ⟨w.heap.size, 3, none⟩ (.slice ao m cap)) (w.heap.size + 1) t T.e :=
    hr3.kept ((put_other (by omega) _).trans ((put_other (by omega) _).trans ((put_other (by omega) _).trans (put_other (by omega) _))))
  have hB4 := below_rec hB3 (Nat.le_refl _) (.int .i64 k) (.int .i64 n) (.int .i64 r) (.slice ao m cap)
  have HO4 : Hid (T.e = 0 → k = T.k ∧ n = T.n ∧ r = T.r ∧ t = T.rest ∧ m = T.ids.length ∧ ((((w3.setCell ⟨w.heap.size, 0, none⟩ (.int .i64 k)).setCell ⟨w.heap.size, 1, none⟩ (.int .i64 n)).setCell ⟨w.heap.size, 2, none⟩ (.int .i64 r)).setCell ⟨w.heap.size, 3, none⟩ (.slice ao m cap)).ownsRow w2.heap.size 3 1 (.slice ao m cap) m (inCells T.ids)) := Lib.hid (fun h0 => by
    obtain ⟨a1, a2, a3, a4, a5, a6⟩ := ho3 h0
    exact ⟨a1, a2, a3, a4, a5, own_putTo (own_putTo (own_putTo (own_putTo a6 (by omega)) (by omega)) (by omega)) (by omega)⟩)
  have HB4 := Lib.hid hB4
  have HLT : Hid (w.heap.size < w2.heap.size) := Lib.hid (by omega)
  have HM : Hid (T.ids.length ≤ maxLen) := Lib.hid HMx.out
  have HR4 := Lib.hid hr4
  obtain ⟨y0, y1, y2, y3⟩ := hr4.reads
  clear hr3 ho3 hb3 hX3 hB3 hB4 hr4 H1 hz1 hz2 hX2 hB2
  by_cases hT : T.e = 0
  · obtain ⟨rfl, rfl, rfl, rfl, rfl, ho⟩ := HO4.out hT
    rw [hT] at y1
    have hsub : IntKind.i64.wrap ((s.length : Int) - (T.rest.length : Int)) = (s.length : Int) - (T.rest.length : Int) := by rw [IntKind.wrap_i64]; omega
    have zr := bsize T.rest
    obtain ⟨i0', i1', i2', i3'⟩ := rec_reads hX4
    have HF := Lib.hid (put_rec hX4 (.int .i64 T.k) (.int .i64 T.n) (.int .i64 T.r) (.slice ao T.ids.length cap))
    have HO := Lib.hid ho
    clear HBad HO4 ho hX4
    go_wp2_with fail
    go_region
    all_goals go_wp2
    obtain ⟨j0, j1, j2, j3⟩ := rec_reads HF.out
    refine bodyPost_ret (v := .tuple #[.agg #[.int .i64 T.k, .int .i64 T.n, .int .i64 T.r, .slice ao T.ids.length cap], .int .i64 ((s.length : Int) - (T.rest.length : Int)), .int .i64 0]) (by simp [results, Try.results11, go_sem, j0, j1, j2, j3]) rfl ?_
    refine ⟨ao, cap, by rw [hT], ?_, (below_rec HB4.out (Nat.le_refl _) _ _ _ _).drew⟩
    have ho := own_putTo (r := w.heap.size) (i := 3) (u := .slice ao T.ids.length cap) (own_putTo (r := w.heap.size) (i := 2) (u := .int .i64 T.r) (own_putTo (r := w.heap.size) (i := 1) (u := .int .i64 T.n) (own_putTo (r := w.heap.size) (i := 0) (u := .int .i64 T.k) HO.out HLT.out) HLT.out) HLT.out) HLT.out
    obtain ⟨a9, c9, he, hrow⟩ := row_of_ints ho HM.out
    simp only [Value.slice.injEq] at he
    obtain ⟨rfl, _, _⟩ := he
    exact hrow.below (Below.refl _ _).drew
  · have hB := HBad.out hT
    have g1 : (T.e != 0) = true := by simpa using hT
    have g2 := congrArg Tk.k hB
    have g3 := congrArg Tk.n hB
    have g4 := congrArg Tk.r hB
    have g5 := congrArg Tk.ids hB
    have g6 := congrArg Tk.rest hB
    have HT : Hid (T.k = 0 ∧ T.n = 0 ∧ T.r = 0 ∧ T.ids = [] ∧ T.rest = s) := Lib.hid ⟨g2, g3, g4, g5, g6⟩
    have HF := Lib.hid (put_rec hX4 (.int .i64 0) (.int .i64 0) (.int .i64 0) (.slice none 0 0))
    obtain ⟨x, hx⟩ : ∃ x, T.e = x := ⟨_, rfl⟩
    rw [hx] at y1 g1
    have HX := Lib.hid hx
    clear HBad HO4 hX4 hB hT g2 g3 g4 g5 g6 hle HM hx HR4
    go_wp2_with fail
    go_region
    all_goals go_wp2
    obtain ⟨j0, j1, j2, j3⟩ := rec_reads HF.out
    refine bodyPost_ret (v := .tuple #[.agg #[.int .i64 0, .int .i64 0, .int .i64 0, .slice none 0 0], .int .i64 0, .int .i64 x]) (by simp [results, Try.results11, go_sem, j0, j1, j2, j3]) rfl ?_
    obtain ⟨g2, g3, g4, g5, g6⟩ := HT.out
    refine ⟨none, 0, by rw [HX.out, g2, g3, g4, g5, g6, Int.sub_self]; rfl, .inl (by rw [g5]; rfl), (below_rec HB4.out (Nat.le_refl _) _ _ _ _).drew⟩
end Go.Proofs.Ytbaifcbjkmmnbaa
