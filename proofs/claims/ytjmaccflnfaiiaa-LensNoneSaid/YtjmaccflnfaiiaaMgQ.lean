/-
  The document's All: walked.
-/
import Derived.Test.YtjmaccflnfaiiaaBn5
import Derived.Test.YtjmaccflnfaiiaaMgR
import Derived.Deep.RegionWith
import Derived.Deep.CutRange
set_option linter.unusedSimpArgs false
set_option linter.unusedVariables false
namespace Go.Proofs.Ytjmaccflnfaiiaa
open Go.RowKit

/-- The last record is another one. -/
theorem rvCells_set (o : List Rv) (y : Rv) (x0 x1 x2 : Int) (a : Option Addr) (l c : Nat) :
    ((((rvCells (o ++ [y])).set (o.length * 4) (.int .i64 x0)).set (o.length * 4 + 1) (.int .i64 x1)).set (o.length * 4 + 2) (.int .i64 x2)).set (o.length * 4 + 3) (.slice a l c) = rvCells (o ++ [⟨x0, x1, x2, a, l, c⟩]) := by
  rw [rvCells_app, rvCells_app, rvCells_one, rvCells_one]
  have h := rvCells_length o
  rw [← h]
  rw [List.set_append_right _ _ (Nat.le_refl _), Nat.sub_self]
  rw [List.set_append_right _ _ (by omega), List.set_append_right _ _ (by omega), List.set_append_right _ _ (by omega)]
  rw [show (rvCells o).length + 1 - (rvCells o).length = 1 by omega, show (rvCells o).length + 2 - (rvCells o).length = 2 by omega, show (rvCells o).length + 3 - (rvCells o).length = 3 by omega]
  rfl
theorem owns_rvc {w : World} {base : Nat} {v : Value} {rs : List Rv} {n : Nat} (h : w.ownsRow base 34 4 v n (rvCells rs)) (hn : rs.length = n) :
    ∃ ao cap, v = .slice ao n cap ∧ n ≤ cap ∧ RecAt w ao rs ∧ ∀ g off sp, ao = some ⟨g, off, sp⟩ → base ≤ g := by
  obtain ⟨ao, cap, hv, hr⟩ := owns_rv h hn
  rcases h.2 with ⟨hv2, h0⟩ | ⟨g, cap2, cur, hv2, hg, _, hnc, _⟩
  · refine ⟨ao, cap, hv, by omega, hr, fun g off sp e => ?_⟩
    rw [hv] at hv2
    injection hv2 with e2 _ _
    rw [e2] at e
    cases e
  · rw [hv] at hv2
    injection hv2 with e2 _ e3
    refine ⟨ao, cap, hv, by omega, hr, fun g off sp e => ?_⟩
    rw [e2] at e
    injection e with e
    injection e with e
    omega
/-- An own slice of some records: its block, its last record's cells. -/
theorem own_last {w : World} {base : Nat} {v : Value} {o : List Rv} {y : Rv} (h : w.ownsRow base 34 4 v (o ++ [y]).length (rvCells (o ++ [y]))) :
    ∃ g cap, base ≤ g ∧ v = .slice (some ⟨g, 0, none⟩) (o.length + 1) cap ∧ w.cell? ⟨g, o.length * 4, none⟩ = some (.int .i64 y.k) ∧ w.cell? ⟨g, o.length * 4 + 1, none⟩ = some (.int .i64 y.n) ∧ w.cell? ⟨g, o.length * 4 + 2, none⟩ = some (.int .i64 y.r) ∧ w.cell? ⟨g, o.length * 4 + 3, none⟩ = some (.slice y.a y.len y.cap) ∧
      w.frozen? ⟨g, o.length * 4, none⟩ = false ∧ w.frozen? ⟨g, o.length * 4 + 1, none⟩ = false ∧ w.frozen? ⟨g, o.length * 4 + 2, none⟩ = false ∧ w.frozen? ⟨g, o.length * 4 + 3, none⟩ = false := by
  rcases owns_form h with ⟨h0, _⟩ | ⟨g, cap, hv⟩
  · simp at h0
  · subst hv
    have hg := (h.lt g rfl).1
    have hc := h.cells (g := g) rfl
    have at' : ∀ j u, j < 4 → y.cells[j]? = some u → w.cell? ⟨g, o.length * 4 + j, none⟩ = some u := fun j u hj hu => by
      have := hc (o.length * 4 + j) u ((rvCells_at (o ++ [y]) o.length y (by simp) j hj).trans hu)
      rwa [addPlain, Nat.zero_add] at this
    refine ⟨g, cap, hg, by simp, at' 0 _ (by omega) rfl, at' 1 _ (by omega) rfl, at' 2 _ (by omega) rfl, at' 3 _ (by omega) rfl, h.frozenAt _, h.frozenAt _, h.frozenAt _, h.frozenAt _⟩

/-- Records, put together, as an answer: these very records. -/
def RetAllV (rs : List Rv) (w : World) (e : Ending) (w' : World) : Prop :=
  ∃ (a : Option Addr) (c : Nat), e = .returned (.slice a (mgAll rs).length c) ∧ (mgAll rs).length ≤ c ∧ RecAt w' a (mgAll rs) ∧ (∀ g off sp, a = some ⟨g, off, sp⟩ → w.heap.size ≤ g) ∧ Below w.heap.size w w'

set_option maxRecDepth 100000 in
set_option maxHeartbeats 4000000 in
theorem mgrall_any (a : Option Addr) (m ca : Nat) (rs : List Rv) (w : World) (hn : rs.length = m) (hm : m ≤ 1000) (ha : RecAt w a rs) :
    Calls Try.prog 46 #[.slice a m ca] w (RetAllV rs w) := by
  obtain ⟨i0, hi, hz0, hz1, hz2⟩ := info_parts rec_info
  have HA := Lib.hid ha
  have HN := Lib.hid hn
  have hmade := World.ownsRow_made (base := w.heap.size) (e := 34) (size := 4) w #[] 0 (Nat.le_refl _) (by unfold maxLen; omega) rfl
  have H0 : Hid ((w.alloc (.cells #[] 34)).ownsRow w.heap.size 34 4 (.slice (some ⟨w.heap.size, 0, none⟩) 0 0) (mgAll (rs.take 0)).length (rvCells (mgAll (rs.take 0))) ∧ Below w.heap.size w (w.alloc (.cells #[] 34))) := Lib.hid ⟨hmade, (Below.refl w.heap.size w).alloc (Nat.le_refl _) _⟩
  clear ha hmade
  go_enter Try.func46, Try.ntmps46
  go_wp2
  go_loopw [3, 4] (fun v i wr => ∃ k : Nat, k ≤ m ∧ i = .int .i64 (k : Int) ∧ Hid (wr.ownsRow w.heap.size 34 4 v (mgAll (rs.take k)).length (rvCells (mgAll (rs.take k))) ∧ Below w.heap.size w wr)) (fun _ i _ => m - (RowKit.intOf i).toNat)
  case atStart => exact ⟨0, Nat.zero_le _, rfl, H0⟩
  case round =>
    obtain ⟨k, hk, rfl, HM⟩ := hrel
    by_cases hlt : k < m
    · obtain ⟨b1, off1, x, rfl, hx, c0, c1, c2, c3⟩ := (HA.out.below HM.out.2).get (i := k) (by omega)
      have u0 : (0 : Int) ≤ (k : Int) := by omega
      have u1 : (k : Int) < (m : Int) := by omega
      have htk : mgAll (rs.take (k + 1)) = mgStep (mgAll (rs.take k)) x := by
        rw [List.take_add_one, hx]
        exact mga_snoc _ _
      have hpl : (mgAll (rs.take k)).length ≤ 1000 := by
        have := mga_len (rs.take k)
        have h2 : (rs.take k).length ≤ k := by simp; omega
        omega
      obtain ⟨out, hP⟩ : ∃ out, mgAll (rs.take k) = out := ⟨_, rfl⟩
      rw [hP] at HM htk hpl
      obtain ⟨xk, xn, xr, xa, xl, xc⟩ := x
      dsimp only at c0 c1 c2 c3
      clear hx hP
      rcases mg_cases out with rfl | ⟨o, y, rfl⟩
      · rw [mgs_nil] at htk
        have HTK := Lib.hid htk
        have hown := HM.out.1
        have HBB := Lib.hid HM.out.2
        have hrc0 := hown
        clear htk
        rcases owns_form hown with ⟨_, hv⟩ | ⟨g, cap, hv⟩
        · subst hv
          have hNew := heap_alloc_new wr (.cells #[.int .i64 xk, .int .i64 xn, .int .i64 xr, .slice xa xl xc] 34)
          have hB4 := (Below.refl wr.heap.size wr).alloc (Nat.le_refl _) (.cells #[.int .i64 xk, .int .i64 xn, .int .i64 xr, .slice xa xl xc] 34)
          have hrc := (Keep.below hB4 (T := 34)).owns hrc0
          have hbase : w.heap.size ≤ (wr.alloc (.cells #[.int .i64 xk, .int .i64 xn, .int .i64 xr, .slice xa xl xc] 34)).heap.size := Nat.le_trans HBB.out.size hB4.size
          have hrl3 : (0 : Nat) + 1 ≤ maxLen := by unfold maxLen; omega
          have hrl2 : ((0 : Nat) + 1) * 48 ≤ 140737488355328 := by omega
          have HB4 := Lib.hid (HBB.out.trans (hB4.mono HBB.out.size))
          clear hown hrc0 hB4 HM
          go_wp2_with (at_builtin; refine wpList_append_own _ rfl _ _ 28 rfl w.heap.size 34 i0 (.agg #[.int .i64 0, .int .i64 0, .int .i64 0, .slice none 0 0]) 4 48 Try.underlying28 hi hz0 hz1 hz2 rfl (by decide) _ _ _ rfl hrc ⟨wr.heap.size, 0, none⟩ 1 1 (Rv.cells ⟨xk, xn, xr, xa, xl, xc⟩) rfl rfl ?n1 ?n2 ?n3 ?n4 ?n5 ?_)
          case n1 => exact fun j u hj => by rw [addPlain, Nat.zero_add, Lib.cell_of_heap hNew]; simpa [Rv.cells, Rv.sl] using hj
          case n2 => exact rv_one1
          case n3 => exact hrl3
          case n4 => exact hrl2
          case n5 => exact hbase
          intro v' w4 hown' hgrow _
          rw [← rvCells_one, ← rvCells_app] at hown'
          have hF := HB4.out.trans ((grown_below hbase hrc hgrow).mono (Nat.le_refl _))
          have HM4 := Lib.hid (And.intro hown' hF)
          clear hown' hgrow hrc hNew hF
          go_wp2
          exact ⟨⟨k + 1, by omega, by go_num, by rw [HTK.out]; exact HM4⟩, by simp [RowKit.intOf]; omega⟩
        · subst hv
          have hNew := heap_alloc_new wr (.cells #[.int .i64 xk, .int .i64 xn, .int .i64 xr, .slice xa xl xc] 34)
          have hB4 := (Below.refl wr.heap.size wr).alloc (Nat.le_refl _) (.cells #[.int .i64 xk, .int .i64 xn, .int .i64 xr, .slice xa xl xc] 34)
          have hrc := (Keep.below hB4 (T := 34)).owns hrc0
          have hbase : w.heap.size ≤ (wr.alloc (.cells #[.int .i64 xk, .int .i64 xn, .int .i64 xr, .slice xa xl xc] 34)).heap.size := Nat.le_trans HBB.out.size hB4.size
          have hrl3 : (0 : Nat) + 1 ≤ maxLen := by unfold maxLen; omega
          have hrl2 : ((0 : Nat) + 1) * 48 ≤ 140737488355328 := by omega
          have HB4 := Lib.hid (HBB.out.trans (hB4.mono HBB.out.size))
          clear hown hrc0 hB4 HM
          go_wp2_with (at_builtin; refine wpList_append_own _ rfl _ _ 28 rfl w.heap.size 34 i0 (.agg #[.int .i64 0, .int .i64 0, .int .i64 0, .slice none 0 0]) 4 48 Try.underlying28 hi hz0 hz1 hz2 rfl (by decide) _ _ _ rfl hrc ⟨wr.heap.size, 0, none⟩ 1 1 (Rv.cells ⟨xk, xn, xr, xa, xl, xc⟩) rfl rfl ?q1 ?q2 ?q3 ?q4 ?q5 ?_)
          case q1 => exact fun j u hj => by rw [addPlain, Nat.zero_add, Lib.cell_of_heap hNew]; simpa [Rv.cells, Rv.sl] using hj
          case q2 => exact rv_one1
          case q3 => exact hrl3
          case q4 => exact hrl2
          case q5 => exact hbase
          intro v' w4 hown' hgrow _
          rw [← rvCells_one, ← rvCells_app] at hown'
          have hF := HB4.out.trans ((grown_below hbase hrc hgrow).mono (Nat.le_refl _))
          have HM4 := Lib.hid (And.intro hown' hF)
          clear hown' hgrow hrc hNew hF
          go_wp2
          exact ⟨⟨k + 1, by omega, by go_num, by rw [HTK.out]; exact HM4⟩, by simp [RowKit.intOf]; omega⟩
      · have hfr := HM.out.1
        obtain ⟨g, cap, hbg, rfl, d0, d1, d2, d3, _⟩ := own_last hfr
        have hlen : (o ++ [y]).length = o.length + 1 := by simp
        rw [hlen] at hpl
        have HTK := Lib.hid htk
        obtain ⟨p, hp⟩ : ∃ p, o.length = p := ⟨_, rfl⟩
        rw [hp] at d0 d1 d2 d3 hpl
        rw [hlen, hp] at HM
        obtain ⟨n, hnn⟩ : ∃ n, p + 1 = n := ⟨_, rfl⟩
        rw [hnn] at HM hpl
        have v0 : (0 : Int) < (n : Int) := by omega
        have v1 : IntKind.i64.wrap ((n : Int) - 1) = (p : Int) := by rw [IntKind.wrap_i64]; omega
        have v2 : (0 : Int) ≤ (p : Int) := by omega
        have v3 : (p : Int) < (n : Int) := by omega
        have HP := Lib.hid hp
        have HNN := Lib.hid hnn
        have HBB := Lib.hid HM.out.2
        have HBG := Lib.hid hbg
        rw [hp, hnn]
        clear htk hp hnn hlen hfr hbg
        obtain ⟨yk, yn, yr, ya, yl, yc⟩ := y
        dsimp only at d0 d1 d2 d3
        have kk := (Below.refl wr.heap.size wr).drew.alloc (Nat.le_refl _) (.cells #[.int .i64 0, .int .i64 0, .int .i64 0, .slice none 0 0] 34)
        have a0 := fun o => rv_alloc (w := wr.drew) (b := b1) c0 o
        have a0' := fun o => rv_alloc (w := wr) (b := b1) c0 o
        have e0 := fun o => rv_alloc (w := wr.drew) (b := g) d0 o
        have e0' := fun o => rv_alloc (w := wr) (b := g) d0 o
        have a1 := fun o => rv_alloc (w := wr.drew) (b := b1) c1 o
        have a1' := fun o => rv_alloc (w := wr) (b := b1) c1 o
        have e1 := fun o => rv_alloc (w := wr.drew) (b := g) d1 o
        have e1' := fun o => rv_alloc (w := wr) (b := g) d1 o
        have a2 := fun o => rv_alloc (w := wr.drew) (b := b1) c2 o
        have a2' := fun o => rv_alloc (w := wr) (b := b1) c2 o
        have e2 := fun o => rv_alloc (w := wr.drew) (b := g) d2 o
        have e2' := fun o => rv_alloc (w := wr) (b := g) d2 o
        have a3 := fun o => rv_alloc (w := wr.drew) (b := b1) c3 o
        have a3' := fun o => rv_alloc (w := wr) (b := b1) c3 o
        have e3 := fun o => rv_alloc (w := wr.drew) (b := g) d3 o
        have e3' := fun o => rv_alloc (w := wr) (b := g) d3 o
        have HT := Lib.hid (fun W => mgrtwo_any yk yn yr ya yl yc xk xn xr xa xl xc W)
        unfold RetTwo at HT
        have HTR := Lib.hid (fun h => mgr_yes (x := ⟨yk, yn, yr, ya, yl, yc⟩) (y := ⟨xk, xn, xr, xa, xl, xc⟩) h)
        generalize hB : twoB ⟨yk, yn, yr, ya, yl, yc⟩ ⟨xk, xn, xr, xa, xl, xc⟩ = B at HT HTR
        have HBT := Lib.hid hB
        generalize twoR ⟨yk, yn, yr, ya, yl, yc⟩ ⟨xk, xn, xr, xa, xl, xc⟩ = T at HT HTR
        obtain ⟨tk, tn, tr, ta, tl, tc⟩ := T
        dsimp only at HT
        clear hB
        go_upto_region 6 with fail
        go_cut [5, 6] from 8 to 44 (fun p5 q6 wx => ∃ rb : Nat, p5 = .pointer (some ⟨rb, 0, none⟩) ∧ q6 = .bool B ∧ Hid (wx.heap[rb]? = some (.cells #[.int .i64 tk, .int .i64 tn, .int .i64 tr, .slice ta tl tc] 34 (0, 0))) ∧ Hid (Below wr.heap.size wr wx))
        case first =>
          go_region_with (first
            | (go_at_call 30
               refine (HT.out _).mono ?_
               rintro E w2 ⟨rfl, hb⟩
               have HB2 : Hid (Below wr.heap.size wr w2) := Lib.hid (by first | exact (Below.refl _ _).drew.trans hb | exact kk.trans (hb.mono kk.size))
               (first
                 | (have X4 : w2.heap[wr.heap.size]? = some (.cells #[.int .i64 0, .int .i64 0, .int .i64 0, .slice none 0 0] 34 (0, 0)) := (hb.block _ (heap_lt (heap_alloc_new wr.drew (.cells #[.int .i64 0, .int .i64 0, .int .i64 0, .slice none 0 0] 34)))).trans (heap_alloc_new wr.drew (.cells #[.int .i64 0, .int .i64 0, .int .i64 0, .slice none 0 0] 34)); have HX4 := Lib.hid X4; obtain ⟨f0, f1, f2, f3⟩ := rec_free X4; obtain ⟨k0, k1, k2, k3⟩ := rec_reads X4; clear X4)
                 | skip)
               clear hb))
          all_goals first
            | (have q1 := Lib.hid (put_rec HX4.out (.int .i64 tk) (.int .i64 tn) (.int .i64 tr) (.slice ta tl tc))
               have q3 := Lib.hid (below_rec HB2.out (Nat.le_refl _) (.int .i64 tk) (.int .i64 tn) (.int .i64 tr) (.slice ta tl tc))
               go_wp2_with fail
               go_meet
               exact ⟨_, rfl, rfl, q1, q3⟩)
            | (have kA : Below w2.heap.size w2 (w2.alloc (.cells #[.int .i64 tk, .int .i64 tn, .int .i64 tr, .slice ta tl tc] 34)) := (Below.refl _ _).alloc (Nat.le_refl _) _
               have q1 := Lib.hid (heap_alloc_new w2 (.cells #[.int .i64 tk, .int .i64 tn, .int .i64 tr, .slice ta tl tc] 34))
               have q3 := Lib.hid (HB2.out.trans (kA.mono HB2.out.size))
               clear kA
               go_wp2_with fail
               go_meet
               exact ⟨_, rfl, rfl, q1, q3⟩)
        case rest =>
          obtain ⟨rb, rfl, rfl, HX, HBx⟩ := hcut
          clear a0 a1 a2 a3 e0 e1 e2 e3 a0' a1' a2' a3' e0' e1' e2' e3' kk HT
          have hownc := (Keep.below HBx.out (T := 34)).owns HM.out.1
          have HBC := Lib.hid (HBB.out.trans (HBx.out.mono HBB.out.size))
          have z0 := cells_below c0 HBx.out
          have z1 := cells_below c1 HBx.out
          have z2 := cells_below c2 HBx.out
          have z3 := cells_below c3 HBx.out
          clear c0 c1 c2 c3 d0 d1 d2 d3
          cases B with
          | true =>
            have hT := HTR.out rfl
            have hst : mgStep (o ++ [⟨yk, yn, yr, ya, yl, yc⟩]) ⟨xk, xn, xr, xa, xl, xc⟩ = o ++ [⟨tk, tn, tr, ta, tl, tc⟩] := by rw [mgs_hit HBT.out, hT]
            have HST := Lib.hid (HTK.out.trans hst)
            have hq := hownc
            rw [← HNN.out, ← HP.out] at hq
            have hq' : wc.ownsRow w.heap.size 34 4 (.slice (some ⟨g, 0, none⟩) (o.length + 1) cap) (o ++ [(⟨yk, yn, yr, ya, yl, yc⟩ : Rv)]).length (rvCells (o ++ [(⟨yk, yn, yr, ya, yl, yc⟩ : Rv)])) := by
              rw [List.length_append]; exact hq
            obtain ⟨g', cap', hbg', hv', d0, d1, d2, d3, f0, f1, f2, f3⟩ := own_last hq'
            injection hv' with hv1 hv2 hv3
            injection hv1 with hv1
            injection hv1 with hv1
            subst hv1 hv3
            have t0 := (hq.stored (o.length * 4) (.int .i64 tk)).1
            have t1 := (t0.stored (o.length * 4 + 1) (.int .i64 tn)).1
            have t2 := (t1.stored (o.length * 4 + 2) (.int .i64 tr)).1
            have t3 := (t2.stored (o.length * 4 + 3) (.slice ta tl tc)).1
            rw [rvCells_set] at t3
            rw [HP.out] at d0 d1 d2 d3 f0 f1 f2 f3 t3
            have HBG2 := HBG.out
            have hBe := (((HBC.out.setCell (p := ⟨g, p * 4, none⟩) HBG2 (.int .i64 tk)).setCell (p := ⟨g, p * 4 + 1, none⟩) HBG2 (.int .i64 tn)).setCell (p := ⟨g, p * 4 + 2, none⟩) HBG2 (.int .i64 tr)).setCell (p := ⟨g, p * 4 + 3, none⟩) HBG2 (.slice ta tl tc)
            have HFI := Lib.hid (And.intro t3 hBe)
            obtain ⟨k0, k1, k2, k3⟩ := rec_reads HX.out
            clear hq hq' t0 t1 t2 t3 hBe hst hT hv2 hownc z0 z1 z2 z3
            go_wp2
            refine ⟨⟨k + 1, by omega, by go_num, ?_⟩, by simp [RowKit.intOf]; omega⟩
            rw [HST.out, List.length_append, HP.out]
            have := HNN.out
            simp only [List.length_cons, List.length_nil, Nat.zero_add]
            rw [HNN.out] at HFI ⊢
            exact HFI
          | false =>
            have hst : mgStep (o ++ [⟨yk, yn, yr, ya, yl, yc⟩]) ⟨xk, xn, xr, xa, xl, xc⟩ = o ++ [⟨yk, yn, yr, ya, yl, yc⟩] ++ [⟨xk, xn, xr, xa, xl, xc⟩] := mgs_miss HBT.out
            have HST := Lib.hid (HTK.out.trans hst)
            have hNew := heap_alloc_new wc (.cells #[.int .i64 xk, .int .i64 xn, .int .i64 xr, .slice xa xl xc] 34)
            have hB4 := (Below.refl wc.heap.size wc).alloc (Nat.le_refl _) (.cells #[.int .i64 xk, .int .i64 xn, .int .i64 xr, .slice xa xl xc] 34)
            have hrc := (Keep.below hB4 (T := 34)).owns hownc
            have hbase : w.heap.size ≤ (wc.alloc (.cells #[.int .i64 xk, .int .i64 xn, .int .i64 xr, .slice xa xl xc] 34)).heap.size := Nat.le_trans HBC.out.size hB4.size
            have hrl3 : n + 1 ≤ maxLen := by unfold maxLen; omega
            have hrl2 : (n + 1) * 48 ≤ 140737488355328 := by omega
            have HB4 := Lib.hid (HBC.out.trans (hB4.mono HBC.out.size))
            clear hownc hB4 HM hst
            go_wp2_with (at_builtin; refine wpList_append_own _ rfl _ _ 28 rfl w.heap.size 34 i0 (.agg #[.int .i64 0, .int .i64 0, .int .i64 0, .slice none 0 0]) 4 48 Try.underlying28 hi hz0 hz1 hz2 rfl (by decide) _ _ _ rfl hrc ⟨wc.heap.size, 0, none⟩ 1 1 (Rv.cells ⟨xk, xn, xr, xa, xl, xc⟩) rfl rfl ?r1 ?r2 ?r3 ?r4 ?r5 ?_)
            case r1 => exact fun j u hj => by rw [addPlain, Nat.zero_add, Lib.cell_of_heap hNew]; simpa [Rv.cells, Rv.sl] using hj
            case r2 => exact rv_one1
            case r3 => exact hrl3
            case r4 => exact hrl2
            case r5 => exact hbase
            intro v' w4 hown' hgrow _
            rw [← rvCells_one, ← rvCells_app] at hown'
            have hF := HB4.out.trans ((grown_below hbase hrc hgrow).mono (Nat.le_refl _))
            have HM4 := Lib.hid (And.intro hown' hF)
            clear hown' hgrow hrc hNew hF
            go_wp2
            refine ⟨⟨k + 1, by omega, by go_num, ?_⟩, by simp [RowKit.intOf]; omega⟩
            rw [HST.out, List.length_append, List.length_append, HP.out]
            simp only [List.length_cons, List.length_nil, Nat.zero_add]
            rw [HNN.out]
            exact HM4
    · obtain rfl : k = m := by omega
      have u1 : ¬ (k : Int) < (k : Int) := by omega
      have htk : rs.take k = rs := List.take_of_length_le (by have := HN.out; omega)
      rw [htk] at HM
      obtain ⟨a1, c1, rfl, hle, hra, hbl⟩ := owns_rvc HM.out.1 rfl
      have HRA := Lib.hid (And.intro hle (And.intro hra hbl))
      clear hle hra htk hbl
      go_wp2
      go_ret
      exact ⟨a1, c1, rfl, HRA.out.1, HRA.out.2.1, HRA.out.2.2, HM.out.2⟩
end Go.Proofs.Ytjmaccflnfaiiaa
