/-
  Texts put together: TrW, TrX, TrB, TrC, TrT, TrN0.
-/
import Derived.Test.YtjmlabggocfikaaGreatBn5
import Derived.WalkMore
import Derived.Deep.LoopGhost
import Derived.Laws.MakeOwn
import Derived.StillTailTactics
import Derived.Shelf.Abstract
import Derived.Test.YtjmlabggocfikaaGreatBn2
import Derived.Lib.Builder
import Derived.Laws.IdiomStrings
import Derived.Test.YtjmlabggocfikaaGreatBn4
set_option linter.unusedSimpArgs false
set_option linter.unusedVariables false
namespace Go.Proofs.YtjmlabggocfikaaGreat
open Go.RowKit

/-- The states that stand while a state's patterns are gone through, up to m. -/
def midS (us S : List (List UInt8)) (q : List UInt8) (m : Nat) : List (List UInt8) := S ++ (kidsL (us.take m) q).map fun c => q ++ [c]
theorem mid_length (us S : List (List UInt8)) (q : List UInt8) (m : Nat) : S.length ≤ (midS us S q m).length ∧ (midS us S q m).length ≤ S.length + 256 := by
  unfold midS kidsL bytU
  rw [List.length_append, List.length_map]
  have := List.length_filter_le (fun c => begL (us.take m) (q ++ [c])) ((List.range 256).map UInt8.ofNat)
  rw [List.length_map, List.length_range] at this
  omega
theorem mid_start {us S : List (List UInt8)} {q : List UInt8} (ha : Asc us) : midS us S q (onL us q) = S := by
  unfold midS
  rw [kids_start ha]
  simp
theorem mid_end {us S : List (List UInt8)} {q : List UInt8} (ha : Asc us) : midS us S q (toL us q) = S ++ kidsP us q := by
  unfold midS kidsP
  rw [kids_end ha]
theorem mid_snoc {us S : List (List UInt8)} {q : List UInt8} {c : UInt8} {m k : Nat} (ha : Asc us) (h : Run us q c m k) (hm : Cut us q m) : midS us S q k = midS us S q m ++ [q ++ [c]] := by
  unfold midS
  rw [h.kids ha hm, List.map_append, ← List.append_assoc]; rfl

/-- What stands in the midst of grow. -/
structure Mid (us S : List (List UInt8)) (q : List UInt8) (k : Nat) (w0 : World) (b X : Nat) (p : Option Addr) (m : Nat) (v : Value) (w : World) : Prop where
  tr : ∃ R, IsTr w w0.heap.size b p R ∧ RecOk us (midS us S q m) (k + 1) R
  que : OwnQ w w0.heap.size 136 3 v ((midS us S q m).length - (k + 1)) (grCells (grL us (k + 1) ((midS us S q m).drop (k + 1))))
  box : w.heap[X]? = some (.cells #[.int .i64 (k : Int), .int .i64 (frL us q : Int), .int .i64 (toL us q : Int)] 136 (0, 0))
  apart : v.ownBlock ≠ some X
  old : Below w0.heap.size w0 w
  late : w0.heap.size ≤ X

/-- What grow answers. -/
def RetGr (us S : List (List UInt8)) (q : List UInt8) (k : Nat) (w0 : World) (b : Nat) (p : Option Addr) (e : Ending) (w : World) : Prop :=
  ∃ v, e = .returned v ∧ (∃ R, IsTr w w0.heap.size b p R ∧ RecOk us (S ++ kidsP us q) (k + 1) R) ∧ OwnQ w w0.heap.size 136 3 v ((S ++ kidsP us q).length - (k + 1)) (grCells (grL us (k + 1) ((S ++ kidsP us q).drop (k + 1)))) ∧ Below w0.heap.size w0 w

set_option maxRecDepth 100000 in
set_option maxHeartbeats 4000000 in
theorem trgrow_any {w0 w : World} {b k : Nat} {p : Option Addr} {us S : List (List UInt8)} {q : List UInt8} {R : List Rc} {v : Value} (hp : IsPats w0 p us) (ha : Asc us) (hn : us.Nodup) (hb0 : Below w0.heap.size w0 w) (hbfs : Bfs us k S) (hq : S[k]? = some q)
    (hT : IsTr w w0.heap.size b p R) (hR : RecOk us S k R) (hv : OwnQ w w0.heap.size 136 3 v (S.length - (k + 1)) (grCells (grL us (k + 1) (S.drop (k + 1))))) :
    Calls Tryz.prog 87 #[.pointer (some ⟨b, 0, none⟩), v, .agg #[.int .i64 (k : Int), .int .i64 (frL us q : Int), .int .i64 (toL us q : Int)]] w (RetGr us S q k w0 b p) := by
  obtain ⟨he, hl, ht⟩ := pats_each hp
  have hfew := hbfs.few
  have hkl := (List.getElem?_eq_some_iff.1 hq).1
  have hfl := fr_le us q
  have htl := to_le us q
  obtain ⟨r, hr, hr1, hr2, hr3, hr4, _⟩ := hR.at hq
  have hRl := hR.1
  -- the box
  have hX := heap_alloc_new w (.cells #[.int .i64 (k : Int), .int .i64 (frL us q : Int), .int .i64 (toL us q : Int)] 136)
  have hb1 : Below w0.heap.size w0 (w.alloc (.cells #[.int .i64 (k : Int), .int .i64 (frL us q : Int), .int .i64 (toL us q : Int)] 136)) := hb0.alloc hb0.size _
  have T1 : IsTr (w.alloc (.cells #[.int .i64 (k : Int), .int .i64 (frL us q : Int), .int .i64 (toL us q : Int)] 136)) w0.heap.size b p R := hT.below ((Below.refl _ _).alloc (Nat.le_refl _) _)
  have Q1 := hv.alloc (.cells #[.int .i64 (k : Int), .int .i64 (frL us q : Int), .int .i64 (toL us q : Int)] 136)
  have hap : v.ownBlock ≠ some w.heap.size := fun e => by have := (hv.lt _ e).2; omega
  have hXl : w0.heap.size ≤ w.heap.size := hb0.size
  obtain ⟨gv, ov, cv, rfl, _⟩ := hv.form
  have hmx : Tryz.prog.follows .mixedOrders = true := by kernel_rfl
  clear hT hv hb0
  go_enter Tryz.func87, Tryz.ntmps87
  go_wp2_with fail
  go_step3
  generalize w.alloc (.cells #[.int .i64 (k : Int), .int .i64 (frL us q : Int), .int .i64 (toL us q : Int)] 136) = w1 at *
  generalize w.heap.size = X at *
  have c0 : w1.cell? ⟨X, 0, none⟩ = some (.int .i64 (k : Int)) := by rw [Lib.cell_of_heap hX]; rfl
  have c1 : w1.cell? ⟨X, 1, none⟩ = some (.int .i64 (frL us q : Int)) := by rw [Lib.cell_of_heap hX]; rfl
  have G1 := trregrown (fun W hW => trdepth_any (.inr ⟨_, b, rfl, T1.below hW⟩ : HasTr W (some ⟨b, 0, none⟩) p R) (k : Int))
  rw [rcOf_in hr, hr3] at G1
  have x0 := cell_regrown c0
  have x1 := cell_regrown c1
  go_wp2_with fail
  refine wp_region_quiet_below hmx (by kernel_rfl) ?_
  repeat (go_big_quiet_step (first | with_reducible exact G1 _ _))
  refine wpQuiet_nil ?_
  intro W6 hw6
  obtain ⟨⟨dq, osq⟩, rfl⟩ := hw6
  have b6 := below_regrown w1 dq osq
  generalize Go.Sort.grow (redrawn w1 dq) osq = w2 at b6 ⊢
  have hX2 := (b6.block X (heap_lt hX)).trans hX
  have T2 := T1.below b6
  have Q2 := Q1.groups (Groups.of b6)
  have hb2 := hb1.trans (b6.mono hb1.size)
  clear c0 c1 x0 x1 G1 T1 Q1 hb1 hX b6
  have d0 : w2.cell? ⟨X, 0, none⟩ = some (.int .i64 (k : Int)) := by rw [Lib.cell_of_heap hX2]; rfl
  obtain ⟨g, cap, hh, hbase, hown, hfit, hfew2⟩ := T2
  have e1 : w2.cell? ⟨b, 1, none⟩ = some (.slice (some ⟨g, 0, none⟩) R.length cap) := by rw [Lib.cell_of_heap hh]; rfl
  have e2 := (own_rcs hown hr).c2
  have f2 : w2.frozen? ⟨g, k * 5 + 2, none⟩ = false := by
    obtain ⟨_, ⟨hx, _⟩ | ⟨g', cap', cur, hx, _, hg, _⟩⟩ := hown
    · cases hx
    · cases hx; exact Lib.frozen_of_heap hg _
  have HPut := Lib.hid (IsTr.put (w := w2) (m := S.length) (by omega) hr hh hbase hown hfit hfew2)
  have k0 : (0 : Int) ≤ (k : Int) := by omega
  have k1 : (k : Int) < (R.length : Int) := by omega
  have ww : IntKind.i32.wrap (R.length : Int) = (R.length : Int) := by rw [IntKind.wrap_i32]; omega
  go_wp2_with fail
  go_region
  have hb3 : Below w0.heap.size w0 ((w2.setCell ⟨g, k * 5 + 2, none⟩ (.int .i32 (S.length : Int))).drew) := (hb2.setCell (by show _ ≤ g; exact (hown.lt g rfl).1) _).drew
  have T3 : IsTr ((w2.setCell ⟨g, k * 5 + 2, none⟩ (.int .i32 (S.length : Int))).drew) w0.heap.size b p (R.set k { r with below := S.length }) := HPut.out.1.heap rfl
  have hX3 : ((w2.setCell ⟨g, k * 5 + 2, none⟩ (.int .i32 (S.length : Int))).drew).heap[X]? = _ := (HPut.out.2 X _ hX2).trans hX2
  have Q3 : OwnQ ((w2.setCell ⟨g, k * 5 + 2, none⟩ (.int .i32 (S.length : Int))).drew) _ _ _ _ _ _ := (Q2.groups HPut.out.2).heap rfl
  clear HPut hh hown hfit hfew2 e1 e2 f2 hb2 hX2 Q2 d0 k1 ww
  generalize (w2.setCell ⟨g, k * 5 + 2, none⟩ (.int .i32 (S.length : Int))).drew = w3 at *
  have d0 : w3.cell? ⟨X, 0, none⟩ = some (.int .i64 (k : Int)) := by rw [Lib.cell_of_heap hX3]; rfl
  have hr1' : (R.set k { r with below := S.length })[k]? = some { r with below := S.length } := List.getElem?_set_self (by omega)
  have HE := Lib.hid (trends_in (.inr ⟨_, b, rfl, T3⟩ : HasTr w3 (some ⟨b, 0, none⟩) p _) (hp.below hb3) k _ hr1' (by omega))
  have HI := endr_iff (us := us) (q := q) (r := { r with below := S.length }) ha (by
    rcases hbfs.old (List.mem_of_getElem? hq) with h | ⟨_, _, _, _, _, h, e⟩
    · exact .inl h
    · exact .inr (by rw [e]; exact h)) hr1 hr3
  have HOk := Lib.hid (hR.tell hbfs hr)
  have M1 : Hid (∀ W, Below w3.heap.size w3 W → Mid us S q k w0 b X p (onL us q) (.slice (some ⟨gv, ov, none⟩) (S.length - (k + 1)) cv) W) := Lib.hid fun W hW => by
    refine ⟨⟨_, T3.below hW, by rw [mid_start ha]; exact HOk.out⟩, by rw [mid_start ha]; exact Q3.groups (Groups.of hW), (hW.block X (heap_lt hX3)).trans hX3, hap, hb3.trans (hW.mono hb3.size), hXl⟩
  have HQS := Lib.hid hq
  obtain ⟨i1, hi1, hy0, hy1, hy2⟩ := info_parts gr_info
  have hrf : ({ r with below := S.length } : Rc).first = frL us q := hr1
  generalize ({ r with below := S.length } : Rc) = r1 at *
  clear T3 hX3 Q3 hb3 HOk hR hr hr1 hr2 hr3 hr4 hr1' hRl hq hbfs
  by_cases hmem : q ∈ us
  · have hon : onL us q = frL us q + 1 := if_pos hmem
    go_wp2_with fail
    refine HE.out.mono ?_
    rintro e w4 ⟨⟨h1, _⟩, hb4⟩
    obtain rfl := h1 (HI.2 hmem)
    have M0 := Lib.hid (M1.out w4 hb4)
    clear h1 hb4 HE M1 d0 HI
    go_wp2
    go_step3
    go_wp2
    go_loopw [1, 8] (fun y x wr => ∃ m : Nat, x = .int .i64 m ∧ Hid (Cut us q m) ∧ Hid (Mid us S q k w0 b X p m y wr)) (fun _ x _ => toL us q - (RowKit.intOf x).toNat)
    case atStart => exact ⟨onL us q, by first | (rw [hon]; done) | (rw [hon]; go_num), Lib.hid (Cut.start ha), M0⟩
    case round =>
      obtain ⟨m, rfl, HCut, HM⟩ := hrel
      have hcut := HCut.out
      obtain ⟨⟨R', hT', hR'⟩, hQ', hX', hA', hO', hL'⟩ := HM.out
      obtain ⟨gq, oq, cq, rfl, _⟩ := hQ'.form
      have c0 : wr.cell? ⟨X, 0, none⟩ = some (.int .i64 (k : Int)) := by rw [Lib.cell_of_heap hX']; rfl
      have c2 : wr.cell? ⟨X, 2, none⟩ = some (.int .i64 (toL us q : Int)) := by rw [Lib.cell_of_heap hX']; rfl
      have HT' := Lib.hid hT'
      have HR' := Lib.hid hR'
      have HQ' := Lib.hid hQ'
      have HX' := Lib.hid hX'
      have HA' := Lib.hid hA'
      have HO' := Lib.hid hO'
      have HL' := Lib.hid hL'
      have hml := mid_length us S q m
      have hRl' : R'.length ≤ 16777217 + 256 := by rw [hR'.1]; omega
      have hS' : (midS us S q m)[k]? = some q := by unfold midS; rw [List.getElem?_append_left hkl]; exact HQS.out
      have HS' := Lib.hid hS'
      obtain ⟨r', hr', _, _, hd', _⟩ := hR'.at hS'
      clear hT' hR' hQ' hX' hA' hO' hL' HM hS'
      by_cases hlt : m < toL us q
      · have hme : us[m]? = some us[m] := List.getElem?_eq_getElem (by omega)
        obtain ⟨c, hc1, hc2⟩ := on_byte ha hn hme hcut.1 hlt
        have hql : q.length + 1 ≤ 65535 := by
          have h1 := hc2.length_le
          have h2 := he us[m] (List.getElem_mem _)
          simp at h1; omega
        have HB := Lib.hid (trbyte_any HT'.out (hp.below HO'.out) m q.length hme hc1)
        have hrun0 := Run.start hlt hme hc2
        have g1 : (m : Int) < (toL us q : Int) := by omega
        generalize us[m] = t0 at hme hc1 hc2 HB
        clear hme hc1 hc2
        go_wp2_with fail
        refine HB.out.mono ?_
        rintro e w' ⟨rfl, hw'⟩
        obtain rfl := hw'.symm
        clear hw' HB
        go_wp2
        obtain ⟨WR, hWR⟩ : ∃ W, W = wr := ⟨_, rfl⟩
        subst hWR
        go_loopw [1, 8, 12] (fun y z x wr => y = .slice (some ⟨gq, oq, none⟩) ((midS us S q m).length - (k + 1)) cq ∧ z = .int .i64 m ∧ ∃ j : Nat, x = .int .i64 j ∧ Hid (Run us q c m j) ∧ wr = WR) (fun _ _ x _ => toL us q - (RowKit.intOf x).toNat)
        case atStart => exact ⟨rfl, rfl, m + 1, by go_num, Lib.hid hrun0, rfl⟩
        case round =>
          obtain ⟨rfl, rfl, j, rfl, HRun, hwr⟩ := hrel
          obtain rfl := hwr
          have hrun := HRun.out
          clear HRun hrun0
          by_cases hj : j < toL us q
          · have hje : us[j]? = some us[j] := List.getElem?_eq_getElem (by omega)
            obtain ⟨d, hd1, hd2⟩ := on_byte ha hn hje (by have := hcut.1; have := hrun.1; omega) hj
            have HB2 := Lib.hid (trbyte_any HT'.out (hp.below HO'.out) j q.length hje hd1)
            have g2 : ¬ (j : Int) = (toL us q : Int) := by omega
            by_cases hcd : d = c
            · subst hcd
              have hrun2 := Lib.hid (hrun.more hj hje hd2)
              generalize us[j] = t1 at hje hd1 hd2 HB2
              clear hje hd1 hd2 hrun
              go_wp2_with fail
              refine HB2.out.mono ?_
              rintro e w' ⟨rfl, hw'⟩
              obtain rfl := hw'.symm
              clear hw' HB2
              go_wp2
              exact ⟨⟨rfl, rfl, j + 1, by go_num, hrun2, trivial⟩, by simp [RowKit.intOf]; omega⟩
            · have hk : ∀ t, j < toL us q → us[j]? = some t → ¬ q ++ [c] <+: t := fun t _ ht hp => by
                rw [hje] at ht
                cases ht
                have := (snoc_pre.1 hp).2
                rw [hd1] at this
                exact hcd (Option.some.inj this)
              have hcd2 : ¬ (d.toNat : Int) = (c.toNat : Int) := fun h => hcd (UInt8.toNat_inj.1 (by omega))
              have hcd3 : ((d.toNat : Int) != (c.toNat : Int)) = true := by rw [bne_iff_ne]; exact hcd2
              have g3 : ((j : Int) == (toL us q : Int)) = false := by rw [beq_eq_false_iff_ne]; exact g2
              clear hcd2 g2
              generalize us[j] = t1 at hje hd1 hd2 HB2
              clear hje hd1 hd2 hcd
              go_wp2_with fail
              refine HB2.out.mono ?_
              rintro e w' ⟨rfl, hw'⟩
              obtain rfl := hw'.symm
              clear hw' HB2
              have hrange := hrun.range ha hcut hk
              have hcut2 := hrun.cut ha hcut hk
              have HM2 := Lib.hid (mid_snoc (S := S) ha hrun hcut)
              have hjm := hrun.1
              have hjt := hrun.2.1
              have HA := Lib.hid (tradd_any HT'.out k m j r' c hr' (by omega) (by omega) (by rw [hd']; omega) (by omega))
              rw [hd'] at HA
              have HC2 := Lib.hid hcut2
              have HR2 := Lib.hid hrange
              clear hrange hcut2 hk
              go_wp2_with fail
              refine HA.out.mono ?_
              rintro e w3 ⟨rfl, hT3, hb3, hG3⟩
              have HB3 := Lib.hid hb3
              have HG3 := Lib.hid hG3
              have HT3 := Lib.hid hT3
              have hQ3 := HQ'.out.groups hG3
              have hbs3 : w0.heap.size ≤ w3.heap.size := (HO'.out.trans hb3).size
              have hX3 := (hG3 X _ HX'.out).trans HX'.out
              have HX3 := Lib.hid hX3
              have hXl3 := heap_lt hX3
              clear HA hb3 hG3 hT3 hX3
              go_wp2_with (at_builtin; refine wpList_append_q _ rfl _ _ 137 rfl w0.heap.size 136 i1 (.agg #[.int .i64 0, .int .i64 0, .int .i64 0]) 3 24 Tryz.underlying137 hi1 hy0 hy1 hy2 rfl (by decide) _ _ _ rfl (hQ3.alloc _) ⟨w3.heap.size, 0, none⟩ 1 1 [.int .i64 (R'.length : Int), .int .i64 (m : Int), .int .i64 (j : Int)] rfl rfl (new_gr (heap_alloc_new _ _)) gr_one (by decide) (by unfold maxLen; omega) (by omega) (by simp; omega) ?_)
              intro v' w4 hown4 hgrow4 hat4
              have M' : Hid (Mid us S q k w0 b X p j v' w4) := Lib.hid (by
                have hT4 := HT3.out.below ((Below.refl _ _).alloc (Nat.le_refl _) (.cells #[.int .i64 (R'.length : Int), .int .i64 (m : Int), .int .i64 (j : Int)] 136))
                have hq4 := hQ3.alloc (.cells #[.int .i64 (R'.length : Int), .int .i64 (m : Int), .int .i64 (j : Int)] 136)
                have hT5 := hT4.grown hq4 hgrow4
                refine ⟨⟨_, hT5, ?_⟩, ?_, ?_, ?_, ?_, HL'.out⟩
                · rw [HM2.out]
                  have := HR'.out.snoc (by have := mid_length us S q m; omega) HS'.out (c := c)
                  rw [HR2.out.1] at this
                  exact this
                · rw [HM2.out, List.drop_append_of_le_length (by have := mid_length us S q m; omega), gr_snoc, grCells_snoc, List.length_append, List.length_drop, HR2.out.1, HR2.out.2]
                  have e1 : (midS us S q m).length + [q ++ [c]].length - (k + 1) = (midS us S q m).length - (k + 1) + 1 := by have := mid_length us S q m; simp; omega
                  have e2 : k + 1 + ((midS us S q m).length - (k + 1)) = R'.length := by have := mid_length us S q m; rw [HR'.out.1]; omega
                  rw [e1, e2]
                  exact hown4
                · rw [hgrow4.block X (by simp; omega) (fun ee => HA'.out ee.symm), Lib.alloc_old _ _ X hXl3]
                  exact HX3.out
                · rcases hat4 with h4 | h4
                  · rw [h4]; exact HA'.out
                  · rw [h4]
                    simp only [World.size_alloc, ne_eq, Option.some.injEq]
                    omega
                · refine ((HO'.out.trans HB3.out).alloc hbs3 _).trans ⟨hgrow4.os, hgrow4.tape, hgrow4.output, hgrow4.size, fun i hi => hgrow4.block i (by simp; omega) (fun ee => by have := (hq4.lt i ee.symm).1; omega)⟩)
              obtain ⟨g4, o4, c4, rfl, _⟩ := hown4.form
              clear hown4 hgrow4 hat4 hQ3 HT3 HX3 HB3 HG3
              go_wp2
              exact ⟨⟨j, rfl, HC2.out, M'⟩, by simp [RowKit.intOf]; omega⟩
          · obtain ⟨j', hje⟩ : ∃ j', j' = toL us q := ⟨_, rfl⟩
            obtain rfl : j = toL us q := by have := hrun.2.1; omega
            have hk : ∀ t, toL us q < toL us q → us[toL us q]? = some t → ¬ q ++ [c] <+: t := fun t h => absurd h hj
            clear hje hj
            have hrange := hrun.range ha hcut hk
            have hcut2 := hrun.cut ha hcut hk
            have HM2 := Lib.hid (mid_snoc (S := S) ha hrun hcut)
            have hjm := hrun.1
            have hjt := hrun.2.1
            have HA := Lib.hid (tradd_any HT'.out k m (toL us q) r' c hr' (by omega) (by omega) (by rw [hd']; omega) (by omega))
            rw [hd'] at HA
            have HC2 := Lib.hid hcut2
            have HR2 := Lib.hid hrange
            clear hrange hcut2 hk
            go_wp2_with fail
            refine HA.out.mono ?_
            rintro e w3 ⟨rfl, hT3, hb3, hG3⟩
            have HB3 := Lib.hid hb3
            have HG3 := Lib.hid hG3
            have HT3 := Lib.hid hT3
            have hQ3 := HQ'.out.groups hG3
            have hbs3 : w0.heap.size ≤ w3.heap.size := (HO'.out.trans hb3).size
            have hX3 := (hG3 X _ HX'.out).trans HX'.out
            have HX3 := Lib.hid hX3
            have hXl3 := heap_lt hX3
            clear HA hb3 hG3 hT3 hX3
            go_wp2_with (at_builtin; refine wpList_append_q _ rfl _ _ 137 rfl w0.heap.size 136 i1 (.agg #[.int .i64 0, .int .i64 0, .int .i64 0]) 3 24 Tryz.underlying137 hi1 hy0 hy1 hy2 rfl (by decide) _ _ _ rfl (hQ3.alloc _) ⟨w3.heap.size, 0, none⟩ 1 1 [.int .i64 (R'.length : Int), .int .i64 (m : Int), .int .i64 (toL us q : Int)] rfl rfl (new_gr (heap_alloc_new _ _)) gr_one (by decide) (by unfold maxLen; omega) (by omega) (by simp; omega) ?_)
            intro v' w4 hown4 hgrow4 hat4
            have M' : Hid (Mid us S q k w0 b X p (toL us q) v' w4) := Lib.hid (by
              have hT4 := HT3.out.below ((Below.refl _ _).alloc (Nat.le_refl _) (.cells #[.int .i64 (R'.length : Int), .int .i64 (m : Int), .int .i64 (toL us q : Int)] 136))
              have hq4 := hQ3.alloc (.cells #[.int .i64 (R'.length : Int), .int .i64 (m : Int), .int .i64 (toL us q : Int)] 136)
              have hT5 := hT4.grown hq4 hgrow4
              refine ⟨⟨_, hT5, ?_⟩, ?_, ?_, ?_, ?_, HL'.out⟩
              · rw [HM2.out]
                have := HR'.out.snoc (by have := mid_length us S q m; omega) HS'.out (c := c)
                rw [HR2.out.1] at this
                exact this
              · rw [HM2.out, List.drop_append_of_le_length (by have := mid_length us S q m; omega), gr_snoc, grCells_snoc, List.length_append, List.length_drop, HR2.out.1, HR2.out.2]
                have e1 : (midS us S q m).length + [q ++ [c]].length - (k + 1) = (midS us S q m).length - (k + 1) + 1 := by have := mid_length us S q m; simp; omega
                have e2 : k + 1 + ((midS us S q m).length - (k + 1)) = R'.length := by have := mid_length us S q m; rw [HR'.out.1]; omega
                rw [e1, e2]
                exact hown4
              · rw [hgrow4.block X (by simp; omega) (fun ee => HA'.out ee.symm), Lib.alloc_old _ _ X hXl3]
                exact HX3.out
              · rcases hat4 with h4 | h4
                · rw [h4]; exact HA'.out
                · rw [h4]
                  simp only [World.size_alloc, ne_eq, Option.some.injEq]
                  omega
              · refine ((HO'.out.trans HB3.out).alloc hbs3 _).trans ⟨hgrow4.os, hgrow4.tape, hgrow4.output, hgrow4.size, fun i hi => hgrow4.block i (by simp; omega) (fun ee => by have := (hq4.lt i ee.symm).1; omega)⟩)
            obtain ⟨g4, o4, c4, rfl, _⟩ := hown4.form
            clear hown4 hgrow4 hat4 hQ3 HT3 HX3 HB3 HG3
            go_wp2
            exact ⟨⟨toL us q, rfl, HC2.out, M'⟩, by simp [RowKit.intOf]; omega⟩
      · have hme : m = toL us q := by have := hcut.2.1; omega
        have HE : Hid (RetGr us S q k w0 b p (.returned (.slice (some ⟨gq, oq, none⟩) ((midS us S q m).length - (k + 1)) cq)) wr) := Lib.hid ⟨_, rfl, ⟨R', HT'.out, by rw [← mid_end ha, ← hme]; exact HR'.out⟩, by rw [← mid_end ha, ← hme]; exact HQ'.out, HO'.out⟩
        have g1 : ¬ (m : Int) < (toL us q : Int) := by omega
        clear HT' HR' HQ' HX' HA' HO' HL' HS' hme
        go_wp2
        go_ret
        exact HE.out
  · have hon : onL us q = frL us q := if_neg hmem
    go_wp2_with fail
    refine HE.out.mono ?_
    rintro e w4 ⟨⟨_, h1⟩, hb4⟩
    obtain rfl := h1 (fun h => hmem (HI.1 h))
    have M0 := Lib.hid (M1.out w4 hb4)
    clear h1 hb4 HE M1 d0 HI
    go_wp2
    go_step3
    go_wp2
    go_loopw [1, 8] (fun y x wr => ∃ m : Nat, x = .int .i64 m ∧ Hid (Cut us q m) ∧ Hid (Mid us S q k w0 b X p m y wr)) (fun _ x _ => toL us q - (RowKit.intOf x).toNat)
    case atStart => exact ⟨onL us q, by first | (rw [hon]; done) | (rw [hon]; go_num), Lib.hid (Cut.start ha), M0⟩
    case round =>
      obtain ⟨m, rfl, HCut, HM⟩ := hrel
      have hcut := HCut.out
      obtain ⟨⟨R', hT', hR'⟩, hQ', hX', hA', hO', hL'⟩ := HM.out
      obtain ⟨gq, oq, cq, rfl, _⟩ := hQ'.form
      have c0 : wr.cell? ⟨X, 0, none⟩ = some (.int .i64 (k : Int)) := by rw [Lib.cell_of_heap hX']; rfl
      have c2 : wr.cell? ⟨X, 2, none⟩ = some (.int .i64 (toL us q : Int)) := by rw [Lib.cell_of_heap hX']; rfl
      have HT' := Lib.hid hT'
      have HR' := Lib.hid hR'
      have HQ' := Lib.hid hQ'
      have HX' := Lib.hid hX'
      have HA' := Lib.hid hA'
      have HO' := Lib.hid hO'
      have HL' := Lib.hid hL'
      have hml := mid_length us S q m
      have hRl' : R'.length ≤ 16777217 + 256 := by rw [hR'.1]; omega
      have hS' : (midS us S q m)[k]? = some q := by unfold midS; rw [List.getElem?_append_left hkl]; exact HQS.out
      have HS' := Lib.hid hS'
      obtain ⟨r', hr', _, _, hd', _⟩ := hR'.at hS'
      clear hT' hR' hQ' hX' hA' hO' hL' HM hS'
      by_cases hlt : m < toL us q
      · have hme : us[m]? = some us[m] := List.getElem?_eq_getElem (by omega)
        obtain ⟨c, hc1, hc2⟩ := on_byte ha hn hme hcut.1 hlt
        have hql : q.length + 1 ≤ 65535 := by
          have h1 := hc2.length_le
          have h2 := he us[m] (List.getElem_mem _)
          simp at h1; omega
        have HB := Lib.hid (trbyte_any HT'.out (hp.below HO'.out) m q.length hme hc1)
        have hrun0 := Run.start hlt hme hc2
        have g1 : (m : Int) < (toL us q : Int) := by omega
        generalize us[m] = t0 at hme hc1 hc2 HB
        clear hme hc1 hc2
        go_wp2_with fail
        refine HB.out.mono ?_
        rintro e w' ⟨rfl, hw'⟩
        obtain rfl := hw'.symm
        clear hw' HB
        go_wp2
        obtain ⟨WR, hWR⟩ : ∃ W, W = wr := ⟨_, rfl⟩
        subst hWR
        go_loopw [1, 8, 12] (fun y z x wr => y = .slice (some ⟨gq, oq, none⟩) ((midS us S q m).length - (k + 1)) cq ∧ z = .int .i64 m ∧ ∃ j : Nat, x = .int .i64 j ∧ Hid (Run us q c m j) ∧ wr = WR) (fun _ _ x _ => toL us q - (RowKit.intOf x).toNat)
        case atStart => exact ⟨rfl, rfl, m + 1, by go_num, Lib.hid hrun0, rfl⟩
        case round =>
          obtain ⟨rfl, rfl, j, rfl, HRun, hwr⟩ := hrel
          obtain rfl := hwr
          have hrun := HRun.out
          clear HRun hrun0
          by_cases hj : j < toL us q
          · have hje : us[j]? = some us[j] := List.getElem?_eq_getElem (by omega)
            obtain ⟨d, hd1, hd2⟩ := on_byte ha hn hje (by have := hcut.1; have := hrun.1; omega) hj
            have HB2 := Lib.hid (trbyte_any HT'.out (hp.below HO'.out) j q.length hje hd1)
            have g2 : ¬ (j : Int) = (toL us q : Int) := by omega
            by_cases hcd : d = c
            · subst hcd
              have hrun2 := Lib.hid (hrun.more hj hje hd2)
              generalize us[j] = t1 at hje hd1 hd2 HB2
              clear hje hd1 hd2 hrun
              go_wp2_with fail
              refine HB2.out.mono ?_
              rintro e w' ⟨rfl, hw'⟩
              obtain rfl := hw'.symm
              clear hw' HB2
              go_wp2
              exact ⟨⟨rfl, rfl, j + 1, by go_num, hrun2, trivial⟩, by simp [RowKit.intOf]; omega⟩
            · have hk : ∀ t, j < toL us q → us[j]? = some t → ¬ q ++ [c] <+: t := fun t _ ht hp => by
                rw [hje] at ht
                cases ht
                have := (snoc_pre.1 hp).2
                rw [hd1] at this
                exact hcd (Option.some.inj this)
              have hcd2 : ¬ (d.toNat : Int) = (c.toNat : Int) := fun h => hcd (UInt8.toNat_inj.1 (by omega))
              have hcd3 : ((d.toNat : Int) != (c.toNat : Int)) = true := by rw [bne_iff_ne]; exact hcd2
              have g3 : ((j : Int) == (toL us q : Int)) = false := by rw [beq_eq_false_iff_ne]; exact g2
              clear hcd2 g2
              generalize us[j] = t1 at hje hd1 hd2 HB2
              clear hje hd1 hd2 hcd
              go_wp2_with fail
              refine HB2.out.mono ?_
              rintro e w' ⟨rfl, hw'⟩
              obtain rfl := hw'.symm
              clear hw' HB2
              have hrange := hrun.range ha hcut hk
              have hcut2 := hrun.cut ha hcut hk
              have HM2 := Lib.hid (mid_snoc (S := S) ha hrun hcut)
              have hjm := hrun.1
              have hjt := hrun.2.1
              have HA := Lib.hid (tradd_any HT'.out k m j r' c hr' (by omega) (by omega) (by rw [hd']; omega) (by omega))
              rw [hd'] at HA
              have HC2 := Lib.hid hcut2
              have HR2 := Lib.hid hrange
              clear hrange hcut2 hk
              go_wp2_with fail
              refine HA.out.mono ?_
              rintro e w3 ⟨rfl, hT3, hb3, hG3⟩
              have HB3 := Lib.hid hb3
              have HG3 := Lib.hid hG3
              have HT3 := Lib.hid hT3
              have hQ3 := HQ'.out.groups hG3
              have hbs3 : w0.heap.size ≤ w3.heap.size := (HO'.out.trans hb3).size
              have hX3 := (hG3 X _ HX'.out).trans HX'.out
              have HX3 := Lib.hid hX3
              have hXl3 := heap_lt hX3
              clear HA hb3 hG3 hT3 hX3
              go_wp2_with (at_builtin; refine wpList_append_q _ rfl _ _ 137 rfl w0.heap.size 136 i1 (.agg #[.int .i64 0, .int .i64 0, .int .i64 0]) 3 24 Tryz.underlying137 hi1 hy0 hy1 hy2 rfl (by decide) _ _ _ rfl (hQ3.alloc _) ⟨w3.heap.size, 0, none⟩ 1 1 [.int .i64 (R'.length : Int), .int .i64 (m : Int), .int .i64 (j : Int)] rfl rfl (new_gr (heap_alloc_new _ _)) gr_one (by decide) (by unfold maxLen; omega) (by omega) (by simp; omega) ?_)
              intro v' w4 hown4 hgrow4 hat4
              have M' : Hid (Mid us S q k w0 b X p j v' w4) := Lib.hid (by
                have hT4 := HT3.out.below ((Below.refl _ _).alloc (Nat.le_refl _) (.cells #[.int .i64 (R'.length : Int), .int .i64 (m : Int), .int .i64 (j : Int)] 136))
                have hq4 := hQ3.alloc (.cells #[.int .i64 (R'.length : Int), .int .i64 (m : Int), .int .i64 (j : Int)] 136)
                have hT5 := hT4.grown hq4 hgrow4
                refine ⟨⟨_, hT5, ?_⟩, ?_, ?_, ?_, ?_, HL'.out⟩
                · rw [HM2.out]
                  have := HR'.out.snoc (by have := mid_length us S q m; omega) HS'.out (c := c)
                  rw [HR2.out.1] at this
                  exact this
                · rw [HM2.out, List.drop_append_of_le_length (by have := mid_length us S q m; omega), gr_snoc, grCells_snoc, List.length_append, List.length_drop, HR2.out.1, HR2.out.2]
                  have e1 : (midS us S q m).length + [q ++ [c]].length - (k + 1) = (midS us S q m).length - (k + 1) + 1 := by have := mid_length us S q m; simp; omega
                  have e2 : k + 1 + ((midS us S q m).length - (k + 1)) = R'.length := by have := mid_length us S q m; rw [HR'.out.1]; omega
                  rw [e1, e2]
                  exact hown4
                · rw [hgrow4.block X (by simp; omega) (fun ee => HA'.out ee.symm), Lib.alloc_old _ _ X hXl3]
                  exact HX3.out
                · rcases hat4 with h4 | h4
                  · rw [h4]; exact HA'.out
                  · rw [h4]
                    simp only [World.size_alloc, ne_eq, Option.some.injEq]
                    omega
                · refine ((HO'.out.trans HB3.out).alloc hbs3 _).trans ⟨hgrow4.os, hgrow4.tape, hgrow4.output, hgrow4.size, fun i hi => hgrow4.block i (by simp; omega) (fun ee => by have := (hq4.lt i ee.symm).1; omega)⟩)
              obtain ⟨g4, o4, c4, rfl, _⟩ := hown4.form
              clear hown4 hgrow4 hat4 hQ3 HT3 HX3 HB3 HG3
              go_wp2
              exact ⟨⟨j, rfl, HC2.out, M'⟩, by simp [RowKit.intOf]; omega⟩
          · obtain ⟨j', hje⟩ : ∃ j', j' = toL us q := ⟨_, rfl⟩
            obtain rfl : j = toL us q := by have := hrun.2.1; omega
            have hk : ∀ t, toL us q < toL us q → us[toL us q]? = some t → ¬ q ++ [c] <+: t := fun t h => absurd h hj
            clear hje hj
            have hrange := hrun.range ha hcut hk
            have hcut2 := hrun.cut ha hcut hk
            have HM2 := Lib.hid (mid_snoc (S := S) ha hrun hcut)
            have hjm := hrun.1
            have hjt := hrun.2.1
            have HA := Lib.hid (tradd_any HT'.out k m (toL us q) r' c hr' (by omega) (by omega) (by rw [hd']; omega) (by omega))
            rw [hd'] at HA
            have HC2 := Lib.hid hcut2
            have HR2 := Lib.hid hrange
            clear hrange hcut2 hk
            go_wp2_with fail
            refine HA.out.mono ?_
            rintro e w3 ⟨rfl, hT3, hb3, hG3⟩
            have HB3 := Lib.hid hb3
            have HG3 := Lib.hid hG3
            have HT3 := Lib.hid hT3
            have hQ3 := HQ'.out.groups hG3
            have hbs3 : w0.heap.size ≤ w3.heap.size := (HO'.out.trans hb3).size
            have hX3 := (hG3 X _ HX'.out).trans HX'.out
            have HX3 := Lib.hid hX3
            have hXl3 := heap_lt hX3
            clear HA hb3 hG3 hT3 hX3
            go_wp2_with (at_builtin; refine wpList_append_q _ rfl _ _ 137 rfl w0.heap.size 136 i1 (.agg #[.int .i64 0, .int .i64 0, .int .i64 0]) 3 24 Tryz.underlying137 hi1 hy0 hy1 hy2 rfl (by decide) _ _ _ rfl (hQ3.alloc _) ⟨w3.heap.size, 0, none⟩ 1 1 [.int .i64 (R'.length : Int), .int .i64 (m : Int), .int .i64 (toL us q : Int)] rfl rfl (new_gr (heap_alloc_new _ _)) gr_one (by decide) (by unfold maxLen; omega) (by omega) (by simp; omega) ?_)
            intro v' w4 hown4 hgrow4 hat4
            have M' : Hid (Mid us S q k w0 b X p (toL us q) v' w4) := Lib.hid (by
              have hT4 := HT3.out.below ((Below.refl _ _).alloc (Nat.le_refl _) (.cells #[.int .i64 (R'.length : Int), .int .i64 (m : Int), .int .i64 (toL us q : Int)] 136))
              have hq4 := hQ3.alloc (.cells #[.int .i64 (R'.length : Int), .int .i64 (m : Int), .int .i64 (toL us q : Int)] 136)
              have hT5 := hT4.grown hq4 hgrow4
              refine ⟨⟨_, hT5, ?_⟩, ?_, ?_, ?_, ?_, HL'.out⟩
              · rw [HM2.out]
                have := HR'.out.snoc (by have := mid_length us S q m; omega) HS'.out (c := c)
                rw [HR2.out.1] at this
                exact this
              · rw [HM2.out, List.drop_append_of_le_length (by have := mid_length us S q m; omega), gr_snoc, grCells_snoc, List.length_append, List.length_drop, HR2.out.1, HR2.out.2]
                have e1 : (midS us S q m).length + [q ++ [c]].length - (k + 1) = (midS us S q m).length - (k + 1) + 1 := by have := mid_length us S q m; simp; omega
                have e2 : k + 1 + ((midS us S q m).length - (k + 1)) = R'.length := by have := mid_length us S q m; rw [HR'.out.1]; omega
                rw [e1, e2]
                exact hown4
              · rw [hgrow4.block X (by simp; omega) (fun ee => HA'.out ee.symm), Lib.alloc_old _ _ X hXl3]
                exact HX3.out
              · rcases hat4 with h4 | h4
                · rw [h4]; exact HA'.out
                · rw [h4]
                  simp only [World.size_alloc, ne_eq, Option.some.injEq]
                  omega
              · refine ((HO'.out.trans HB3.out).alloc hbs3 _).trans ⟨hgrow4.os, hgrow4.tape, hgrow4.output, hgrow4.size, fun i hi => hgrow4.block i (by simp; omega) (fun ee => by have := (hq4.lt i ee.symm).1; omega)⟩)
            obtain ⟨g4, o4, c4, rfl, _⟩ := hown4.form
            clear hown4 hgrow4 hat4 hQ3 HT3 HX3 HB3 HG3
            go_wp2
            exact ⟨⟨toL us q, rfl, HC2.out, M'⟩, by simp [RowKit.intOf]; omega⟩
      · have hme : m = toL us q := by have := hcut.2.1; omega
        have HE : Hid (RetGr us S q k w0 b p (.returned (.slice (some ⟨gq, oq, none⟩) ((midS us S q m).length - (k + 1)) cq)) wr) := Lib.hid ⟨_, rfl, ⟨R', HT'.out, by rw [← mid_end ha, ← hme]; exact HR'.out⟩, by rw [← mid_end ha, ← hme]; exact HQ'.out, HO'.out⟩
        have g1 : ¬ (m : Int) < (toL us q : Int) := by omega
        clear HT' HR' HQ' HX' HA' HO' HL' HS' hme
        go_wp2
        go_ret
        exact HE.out
end Go.Proofs.YtjmlabggocfikaaGreat

namespace Go.Proofs.YtjmlabggocfikaaGreat
open Go.RowKit

theorem made_first (n : Nat) (hn : 1 ≤ n) : (madeCells (Value.agg #[.int .i32 0, .int .i32 0, .int .i32 0, .int .u16 0, .int .u8 0]).cells (n * 5)).toList.take (1 * 5) = rcOne ⟨0, 0, 0, 0, 0⟩ := by
  have e : (Value.agg #[.int .i32 0, .int .i32 0, .int .i32 0, .int .u16 0, .int .u8 0]).cells = #[.int .i32 0, .int .i32 0, .int .i32 0, .int .u16 0, .int .u8 0] := by rfl
  rw [e]
  unfold madeCells
  rw [Array.toList_map, Array.toList_range, ← List.map_take, List.take_range, Nat.min_eq_left (by omega)]
  rfl
theorem make_states (n : Nat) (w : World) (h1 : 1 ≤ n) (hn : n ≤ 16777217) : ∃ w', (Instr.makeSlice 128 (.int .i64 1) (.int .i64 (n : Int))).run Tryz.prog w = .ok (.slice (some ⟨w.heap.size, 0, none⟩) 1 n) w' ∧
    w'.ownsRow w.heap.size 109 5 (.slice (some ⟨w.heap.size, 0, none⟩) 1 n) 1 (rcCells [⟨0, 0, 0, 0, 0⟩]) ∧ Below w.heap.size w w' ∧ w'.heap.size = w.heap.size + 1 := by
  obtain ⟨i0, hi, hz0, hz1, hz2⟩ := info_parts rc_info
  have h := run_make (P := Tryz.prog) w 128 109 i0 _ Tryz.underlying128 hi hz0 .i64 .i64 1 n (by omega) (by omega) (by rw [hz2]; omega) (by omega)
  rw [hz1, Int.toNat_natCast] at h
  refine ⟨_, h, ⟨rfl, .inr ⟨w.heap.size, n, _, rfl, Nat.le_refl _, heap_alloc_new w _, h1, by unfold maxLen; omega, size_madeCells _ _, ?_⟩⟩, (Below.refl _ _).alloc (Nat.le_refl _) _, by simp⟩
  rw [made_first n h1]
  rfl

/-- A trie of a set, behind a pointer: its states. -/
def IsTrie (w : World) (q p : Option Addr) (us S : List (List UInt8)) : Prop :=
  ∃ R, HasTr w q p R ∧ RecOk us S S.length R ∧ Bfs us S.length S ∧ IsPats w p us
/-- What stands while the states are gone through. -/
structure Made (us : List (List UInt8)) (w0 : World) (b : Nat) (p : Option Addr) (k : Nat) (S : List (List UInt8)) (v : Value) (w : World) : Prop where
  bfs : Bfs us k S
  tr : ∃ R, IsTr w w0.heap.size b p R ∧ RecOk us S k R
  que : OwnQ w w0.heap.size 136 3 v (S.length - k) (grCells (grL us k (S.drop k)))
  old : Below w0.heap.size w0 w

set_option maxRecDepth 100000 in
set_option maxHeartbeats 4000000 in
theorem trnew_any {w : World} {p : Option Addr} {us : List (List UInt8)} (hp : IsPats w p us) (ha : Asc us) (hn : us.Nodup) :
    Calls Tryz.prog 58 #[.pointer p] w fun e w' => ∃ q S, e = .returned (.pointer q) ∧ IsTrie w' q p us S ∧ Below w.heap.size w w' := by
  obtain ⟨he, hl, ht⟩ := pats_each hp
  have HC := Lib.hid (trcount_any hp)
  have HP := Lib.hid hp
  clear hp
  go_enter Tryz.func58, Tryz.ntmps58
  go_wp2_with fail
  refine HC.out.mono ?_
  rintro e w1 ⟨n, q1, rfl, hn1, hn2, rfl⟩
  obtain ⟨w2, hmake, hown2, hb2, hs2⟩ := make_states n (w.drewN q1) hn1 hn2
  have HL := Lib.hid (ptlen_all ((HP.out.heap (W := w.drewN q1) rfl).below hb2))
  clear HC
  go_wp2_with fail
  have hT0 : IsTr (w2.alloc (.cells #[.pointer p, .slice (some ⟨w.heap.size, 0, none⟩) 1 n] 130)) w.heap.size (w.heap.size + 1) p [⟨0, 0, 0, 0, 0⟩] := by
    have hx := heap_alloc_new w2 (.cells #[.pointer p, .slice (some ⟨w.heap.size, 0, none⟩) 1 n] 130)
    rw [hs2] at hx
    exact ⟨w.heap.size, n, hx, by omega, hown2.alloc _, fun r hr => by rw [List.mem_singleton] at hr; subst hr; unfold Rc.Fit; simp, by simp⟩
  have hb3 : Below w.heap.size w (w2.alloc (.cells #[.pointer p, .slice (some ⟨w.heap.size, 0, none⟩) 1 n] 130)) := ((below_drewS (Below.refl _ _) q1).trans hb2).alloc (by rw [hs2]; exact Nat.le_succ _) _
  have HL2 := Lib.hid (ptlen_all (HP.out.below hb3))
  have HT0 := Lib.hid hT0
  clear hT0 HL hown2 hb2 hs2 hmake
  generalize w2.alloc (.cells #[.pointer p, .slice (some ⟨w.heap.size, 0, none⟩) 1 n] 130) = w3 at *
  generalize w.heap.size + 1 = b at *
  have hs3 := hb3.size
  refine HL2.out.mono ?_
  rintro e w' ⟨rfl, hw'⟩
  obtain rfl := hw'.symm
  clear hw' HL2
  go_wp2
  have M0 : Hid (Made us w b p 0 [[]] (.slice (some ⟨w3.heap.size, 0, none⟩) 1 1) (w3.alloc (.cells #[.int .i64 0, .int .i64 0, .int .i64 (us.length : Int)] 136))) := Lib.hid
    ⟨.zero, ⟨_, HT0.out.below ((Below.refl _ _).alloc (Nat.le_refl _) _), RecOk.start us⟩, OwnQ.of (by
      refine ⟨rfl, .inr ⟨w3.heap.size, 1, _, rfl, hs3, heap_alloc_new w3 _, Nat.le_refl _, by decide, rfl, ?_⟩⟩
      show [Value.int .i64 0, .int .i64 0, .int .i64 (us.length : Int)] = grCells [(0, frL us [], toL us [])]
      rw [(root_range us).1, (root_range us).2]; rfl) (by simp), hb3.alloc hs3 _⟩
  clear HT0
  go_loopg [4] 16777300 (fun gx y wr => ∃ (k : Nat) (S : List (List UInt8)), gx = 16777300 - k ∧ Hid (Made us w b p k S y wr))
  case atStart => exact ⟨0, [[]], rfl, M0⟩
  case round =>
    clear M0
    obtain ⟨k, S, rfl, HM⟩ := hrel
    obtain ⟨hbfs, ⟨R, hT, hR⟩, hQ, hB⟩ := HM.out
    obtain ⟨gq, oq, cq, rfl, hgb, hgl, hnc, hcm⟩ := hQ.form
    have hkl := hbfs.le.1
    have hfew := hbfs.few
    by_cases hlt : k < S.length
    · obtain ⟨l, hl'⟩ : ∃ l, S.length - k = l + 1 := ⟨S.length - k - 1, by omega⟩
      obtain ⟨q, hq⟩ : ∃ q, S[k]? = some q := ⟨S[k], List.getElem?_eq_getElem hlt⟩
      have hdrop : S.drop k = q :: S.drop (k + 1) := by rw [List.drop_eq_getElem_cons hlt, (List.getElem?_eq_some_iff.1 hq).2]
      rw [hl', hdrop, grL, grCells_cons] at hQ
      rw [hl'] at hnc ⊢
      have d0 : wr.cell? ⟨gq, oq, none⟩ = some (.int .i64 (k : Int)) := hQ.cell 0 _ rfl
      have d1 : wr.cell? ⟨gq, oq + 1, none⟩ = some (.int .i64 (frL us q : Int)) := hQ.cell 1 _ rfl
      have d2 : wr.cell? ⟨gq, oq + 2, none⟩ = some (.int .i64 (toL us q : Int)) := hQ.cell 2 _ rfl
      have g1 : (1 : Int) ≤ (cq : Int) := by omega
      have g2 : (1 : Int) ≤ (l : Int) + 1 := by omega
      have g3 : (l : Int) + 1 ≤ (cq : Int) := by omega
      have g4 : (0 : Int) ≤ (l : Int) := by omega
      have HB := Lib.hid hB
      have hlen : S.length - (k + 1) = l := by omega
      have HR : ∀ v, OwnQ wr w.heap.size 136 3 v l (grCells (grL us (k + 1) (S.drop (k + 1)))) → Hid (Calls Tryz.prog 87 #[.pointer (some ⟨b, 0, none⟩), v, .agg #[.int .i64 (k : Int), .int .i64 (frL us q : Int), .int .i64 (toL us q : Int)]] wr.drew (RetGr us S q k w b p)) := fun v hv =>
        Lib.hid (trgrow_any (w := wr.drew) HP.out ha hn hB.drew hbfs hq (hT.heap rfl) hR (by rw [hlen]; exact hv.heap rfl))
      have HS := Lib.hid (Bfs.step hbfs hq)
      by_cases hc1 : cq = 1
      · have hl0 : l = 0 := by omega
        subst hl0
        subst hc1
        have HG := HR _ (by
          have h0 : S.drop (k + 1) = [] := List.drop_eq_nil_of_le (by omega)
          rw [h0]
          exact OwnQ.none hQ)
        clear HR hQ hT hR hB HM hdrop
        go_wp2_with fail
        go_still_tail 6, (by kernel_rfl)
        change wpList _ _ _ _ _ wr.drew
        generalize wr.drew = w5 at HG ⊢
        go_wp2_with fail
        refine HG.out.mono ?_
        rintro e w6 ⟨v, rfl, hR6, hQ6, hB6⟩
        generalize S ++ kidsP us q = T at hR6 hQ6 HS
        obtain ⟨g6, o6, c6, rfl, _⟩ := hQ6.form
        have M6 := Lib.hid (⟨HS.out, hR6, hQ6, hB6⟩ : Made us w b p (k + 1) T _ w6)
        clear hR6 hQ6 hB6 HG HS HB
        go_wp2
        go_roundg (16777300 - (k + 1))
        case measure => omega
        case rel => exact ⟨k + 1, _, rfl, M6⟩
      · have HG := HR _ (by
          have := OwnQ.rest hQ
          exact this)
        clear HR hQ hT hR hB HM hdrop
        go_wp2_with fail
        go_still_tail 6, (by kernel_rfl)
        change wpList _ _ _ _ _ wr.drew
        generalize wr.drew = w5 at HG ⊢
        go_wp2_with fail
        refine HG.out.mono ?_
        rintro e w6 ⟨v, rfl, hR6, hQ6, hB6⟩
        generalize S ++ kidsP us q = T at hR6 hQ6 HS
        obtain ⟨g6, o6, c6, rfl, _⟩ := hQ6.form
        have M6 := Lib.hid (⟨HS.out, hR6, hQ6, hB6⟩ : Made us w b p (k + 1) T _ w6)
        clear hR6 hQ6 hB6 HG HS HB
        go_wp2
        go_roundg (16777300 - (k + 1))
        case measure => omega
        case rel => exact ⟨k + 1, _, rfl, M6⟩
    · have hk : k = S.length := by omega
      subst hk
      have hz : S.length - S.length = 0 := Nat.sub_self _
      have HE : Hid (IsTrie wr (some ⟨b, 0, none⟩) p us S ∧ Below w.heap.size w wr) := Lib.hid ⟨⟨R, .inr ⟨_, b, rfl, hT⟩, hR, hbfs, HP.out.below hB⟩, hB⟩
      clear hT hR hQ hB HM
      go_wp2
      go_ret
      exact ⟨_, S, rfl, HE.out⟩
end Go.Proofs.YtjmlabggocfikaaGreat

namespace Go.Proofs.YtjmlabggocfikaaGreat
open Go.RowKit

set_option maxHeartbeats 1000000 in
theorem trbelow_out {w : World} {q p : Option Addr} {R : List Rc} (h : HasTr w q p R) (s : Int) (hs : s < 0 ∨ (R.length : Int) ≤ s + 1) : Calls Tryz.prog 84 #[.pointer q, .int .i64 s] w fun e w' => e = .returned (.slice none 0 0) ∧ w' = w := by
  have hm := h.few
  by_cases h1 : s < 0 ∨ (R.length : Int) ≤ s
  · have HS := Lib.hid (tris_out h s h1)
    clear h hs h1
    go_enter Tryz.func84, Tryz.ntmps84
    go_wp2_with fail
    refine HS.out.mono ?_
    rintro e w' ⟨rfl, rfl⟩
    go_wp2
    go_ret
    exact ⟨rfl, rfl⟩
  · obtain ⟨k, rfl⟩ : ∃ k : Nat, s = k := ⟨s.toNat, by omega⟩
    have HS := Lib.hid (tris_in h k (by omega))
    have HT := Lib.hid (tris_out h ((k : Int) + 1) (.inr (by omega)))
    have hw : IntKind.i64.wrap ((k : Int) + 1) = (k : Int) + 1 := by rw [IntKind.wrap_i64]; omega
    clear h hs h1
    go_enter Tryz.func84, Tryz.ntmps84
    go_wp2_with fail
    refine HS.out.mono ?_
    rintro e w' ⟨rfl, rfl⟩
    go_wp2_with fail
    refine HT.out.mono ?_
    rintro e w' ⟨rfl, rfl⟩
    go_wp2
    go_ret
    exact ⟨rfl, rfl⟩

/-- The states below one, as an answer: to be read. -/
def RetB (n : Nat) (L : List Rc) (w : World) (e : Ending) (w' : World) : Prop := (∃ a cap, e = .returned (.slice a n cap) ∧ IsRcs w a n L) ∧ ∃ m, w' = w.drewN m
set_option maxHeartbeats 2000000 in
theorem trbelow_in {w : World} {q p : Option Addr} {R : List Rc} (h : HasTr w q p R) (k : Nat) (r r' : Rc) (hr : R[k]? = some r) (hr' : R[k + 1]? = some r') (h1 : r.below ≤ r'.below) (h2 : r'.below ≤ R.length) :
    Calls Tryz.prog 84 #[.pointer q, .int .i64 (k : Int)] w (RetB (r'.below - r.below) ((R.drop r.below).take (r'.below - r.below)) w) := by
  have hk := (List.getElem?_eq_some_iff.1 hr').1
  have hm := h.few
  have HS := Lib.hid (tris_in h k (by omega))
  have HT := tris_in h (k + 1) hk
  rw [show ((k + 1 : Nat) : Int) = (k : Int) + 1 by omega] at HT
  have HT := Lib.hid HT
  obtain ⟨base, b, rfl, ht⟩ := h.some hk
  obtain ⟨g, cap, c0, c1, hcap, _, hg, hat⟩ := ht.reads
  have e2 := (hat k r hr).c2
  have e2' := (hat (k + 1) r' hr').c2
  have hw : IntKind.i64.wrap ((k : Int) + 1) = (k : Int) + 1 := by rw [IntKind.wrap_i64]; omega
  have g0 : (0 : Int) ≤ (k : Int) := by omega
  have g1 : (k : Int) < (R.length : Int) := by omega
  have g2 : (0 : Int) ≤ (k : Int) + 1 := by omega
  have g3 : (k : Int) + 1 < (R.length : Int) := by omega
  have g4 : (0 : Int) ≤ (r.below : Int) := by omega
  have g5 : (r.below : Int) ≤ (r'.below : Int) := by omega
  have g6 : (r'.below : Int) ≤ (cap : Int) := by omega
  have HI : Hid (∀ (i : Nat) x, ((R.drop r.below).take (r'.below - r.below))[i]? = some x → RcAt w g (r.below * 5 + i * 5) x) := Lib.hid fun i x hx => by
    rw [List.getElem?_take] at hx
    split at hx
    · rw [List.getElem?_drop] at hx
      have := hat _ _ hx
      rwa [show (r.below + i) * 5 = r.below * 5 + i * 5 by omega] at this
    · cases hx
  have HL : Hid (((R.drop r.below).take (r'.below - r.below)).length = r'.below - r.below) := Lib.hid (by rw [List.length_take, List.length_drop]; omega)
  have hn : ((k : Int) + 1).toNat = k + 1 := by omega
  generalize (R.drop r.below).take (r'.below - r.below) = L at *
  clear h ht hat hr hr'
  by_cases hcb : cap = r.below
  · have hz : r'.below - r.below = 0 := by omega
    go_enter Tryz.func84, Tryz.ntmps84
    go_wp2_with fail
    refine HS.out.mono ?_
    rintro e w' ⟨rfl, rfl⟩
    go_wp2_with fail
    refine HT.out.mono ?_
    rintro e w' ⟨rfl, rfl⟩
    go_wp2_with fail
    go_quiet (fail)
    go_wp2
    go_ret
    exact ⟨⟨some ⟨g, 0, none⟩, 0, by rw [hz]; rfl, HL.out, .inl hz⟩, nq, rfl⟩
  · go_enter Tryz.func84, Tryz.ntmps84
    go_wp2_with fail
    refine HS.out.mono ?_
    rintro e w' ⟨rfl, rfl⟩
    go_wp2_with fail
    refine HT.out.mono ?_
    rintro e w' ⟨rfl, rfl⟩
    go_wp2_with fail
    go_quiet (fail)
    go_wp2
    go_ret
    exact ⟨⟨_, _, rfl, HL.out, .inr ⟨g, _, rfl, HI.out⟩⟩, nq, rfl⟩

/-- The closure of the search: a state's byte less the one that is sought. -/
theorem trcmp_any (r : Rc) (c : UInt8) (w : World) : Calls Tryz.prog 93 #[rcV r, .int .u8 (c.toNat : Int)] w fun e w' => e = .returned (.int .i64 ((r.last.toNat : Int) - (c.toNat : Int))) ∧ Below w.heap.size w w' := by
  have h1 := UInt8.toNat_lt r.last
  have h2 := UInt8.toNat_lt c
  have w1 : IntKind.i64.wrap (r.last.toNat : Int) = (r.last.toNat : Int) := by rw [IntKind.wrap_i64]; omega
  have w2 : IntKind.i64.wrap (c.toNat : Int) = (c.toNat : Int) := by rw [IntKind.wrap_i64]; omega
  have w3 : IntKind.i64.wrap ((r.last.toNat : Int) - (c.toNat : Int)) = (r.last.toNat : Int) - (c.toNat : Int) := by rw [IntKind.wrap_i64]; omega
  unfold rcV
  go_enter Tryz.func93, Tryz.ntmps93
  go_wp2
  go_ret
  exact ⟨rfl, (Below.refl _ _).alloc (Nat.le_refl _) _⟩
theorem trcmp_enters : ∀ args w, (callFunc 93 args).run Tryz.prog w = .ok (.enter 93 args) w := enters_of Tryz.func93 (by kernel_rfl) rfl

/-- One of some states: where it lies. -/
theorem rc_at {w wr : World} {a : Option Addr} {len : Nat} {rs : List Rc} (h : IsRcs w a len rs) (hb : Below w.heap.size w wr) (k : Nat) (hk : k < len) : ∃ b off, a = some ⟨b, off, none⟩ ∧ ∃ r, rs[k]? = some r ∧ RcAt wr b (off + k * 5) r := by
  obtain ⟨hl, h⟩ := h.below hb
  rcases h with h | ⟨b, off, ha, hc⟩
  · omega
  · have hkl : k < rs.length := by omega
    exact ⟨b, off, ha, rs[k], List.getElem?_eq_getElem hkl, hc k _ (List.getElem?_eq_getElem hkl)⟩

/-- What a search for a byte tells of rising ones. -/
def Sought (bs : List UInt8) (c : UInt8) (n : Nat) (b : Bool) : Prop := b = decide (c ∈ bs) ∧ (c ∈ bs → bs[n]? = some c)
def RetSk (bs : List UInt8) (c : UInt8) (w : World) (e : Ending) (w' : World) : Prop := ∃ (n : Nat) (b : Bool), e = .returned (.tuple #[.int .i64 (n : Int), .bool b]) ∧ Sought bs c n b ∧ Below w.heap.size w w'
/-- All ahead of lo are less, all from hi on are not. -/
def Halves (bs : List UInt8) (c : UInt8) (lo hi : Nat) : Prop := (∀ (i : Nat) d, i < lo → bs[i]? = some d → d < c) ∧ (∀ (i : Nat) d, hi ≤ i → bs[i]? = some d → c ≤ d)
theorem rise_at {bs : List UInt8} (h : bs.Pairwise (· < ·)) {i j : Nat} {c d : UInt8} (hij : i ≤ j) (hc : bs[i]? = some c) (hd : bs[j]? = some d) : c ≤ d := by
  obtain ⟨hi, rfl⟩ := List.getElem?_eq_some_iff.1 hc
  obtain ⟨hj, rfl⟩ := List.getElem?_eq_some_iff.1 hd
  rcases Nat.lt_or_ge i j with h' | h'
  · exact UInt8.le_of_lt (List.pairwise_iff_getElem.1 h i j hi hj h')
  · obtain rfl : i = j := by omega
    exact UInt8.le_refl _
theorem Halves.up {bs : List UInt8} {c d : UInt8} {lo hi m : Nat} (hr : bs.Pairwise (· < ·)) (h : Halves bs c lo hi) (hm : bs[m]? = some d) (hd : d < c) : Halves bs c (m + 1) hi :=
  ⟨fun i e hi he => UInt8.lt_of_le_of_lt (rise_at hr (by omega) he hm) hd, h.2⟩
theorem Halves.down {bs : List UInt8} {c d : UInt8} {lo hi m : Nat} (hr : bs.Pairwise (· < ·)) (h : Halves bs c lo hi) (hm : bs[m]? = some d) (hd : ¬ d < c) : Halves bs c lo m :=
  ⟨h.1, fun i e hi he => UInt8.le_trans (UInt8.not_lt.1 hd) (rise_at hr hi hm he)⟩
theorem Halves.hit {bs : List UInt8} {c : UInt8} {n : Nat} (hm : bs[n]? = some c) : Sought bs c n true :=
  ⟨(decide_eq_true (List.mem_of_getElem? hm)).symm, fun _ => hm⟩
theorem Halves.miss {bs : List UInt8} {c : UInt8} {n : Nat} (hr : bs.Pairwise (· < ·)) (h : Halves bs c n n) (hm : bs[n]? ≠ some c) : Sought bs c n false := by
  have hn : c ∉ bs := fun hc => by
    obtain ⟨i, hi⟩ := List.mem_iff_getElem?.1 hc
    rcases Nat.lt_trichotomy i n with h1 | h1 | h1
    · exact UInt8.lt_irrefl _ (h.1 i c h1 hi)
    · subst h1; exact hm hi
    · have hl := (List.getElem?_eq_some_iff.1 hi).1
      have he : bs[n]? = some (bs[n]'(by omega)) := List.getElem?_eq_getElem (by omega)
      have h2 := h.2 n _ (Nat.le_refl _) he
      have h3 := rise_at hr (Nat.le_of_lt h1) he hi
      rw [UInt8.le_antisymm h3 h2] at he
      exact hm he
  exact ⟨(decide_eq_false hn).symm, fun hc => absurd hc hn⟩

set_option maxHeartbeats 2000000 in
set_option maxRecDepth 100000 in
theorem trseek_any {w : World} {a : Option Addr} {len cap : Nat} {rs : List Rc} (h : IsRcs w a len rs) (hlen : len ≤ 2147483647) (c : UInt8) (hr : (rs.map Rc.last).Pairwise (· < ·)) :
    Calls Tryz.prog 92 #[.slice a len cap, .int .u8 (c.toNat : Int), .func (.func 93) #[] #[]] w (RetSk (rs.map Rc.last) c w) := by
  have eg := trcmp_enters
  have hl := h.1
  have HH := Lib.hid h
  have HR := Lib.hid hr
  have HC := Lib.hid trcmp_any
  clear h hr
  go_enter Tryz.func92, Tryz.ntmps92
  go_wp2
  go_loopw [9, 10] (fun x y wr => ∃ lo hi : Nat, x = .int .i64 lo ∧ y = .int .i64 hi ∧ lo ≤ hi ∧ hi ≤ len ∧ Hid (Halves (rs.map Rc.last) c lo hi) ∧ Below w.heap.size w wr) (fun x y _ => (RowKit.intOf y).toNat - (RowKit.intOf x).toNat)
  case atStart => exact ⟨0, len, rfl, rfl, Nat.zero_le _, Nat.le_refl _, Lib.hid ⟨fun i d hi _ => by omega, fun i d hi hd => by have := (List.getElem?_eq_some_iff.1 hd).1; rw [List.length_map] at this; omega⟩, Below.refl _ _⟩
  case round =>
    obtain ⟨lo, hi, rfl, rfl, hlh, hin, HV, hbe⟩ := hrel
    have hsz := hbe.size
    by_cases hlt : lo < hi
    · obtain ⟨b, off, rfl, r, hf, hat⟩ := rc_at HH.out hbe ((lo + hi) / 2) (by omega)
      obtain ⟨e0, e1, e2, e3, e4⟩ := hat
      have HK := Lib.hid (HC.out r c wr)
      have hm : (rs.map Rc.last)[(lo + hi) / 2]? = some r.last := by rw [List.getElem?_map, hf]; rfl
      unfold rcV at HK
      by_cases hq : r.last < c
      · have HV2 := Lib.hid (HV.out.up HR.out hm hq)
        have hq2 : (r.last.toNat : Int) - (c.toNat : Int) < 0 := by rw [UInt8.lt_iff_toNat_lt] at hq; omega
        clear hf hm hq HV
        go_wp2_with fail
        refine HK.out.mono ?_
        rintro e w2 ⟨rfl, hb2⟩
        have d2 := Lib.hid (hbe.trans (hb2.mono hsz))
        clear HK hb2 e0 e1 e2 e3 e4 hbe
        go_wp2
        exact ⟨⟨(lo + hi) / 2 + 1, hi, by rw [show ((lo : Int) + (hi : Int)) / 2 + 1 = (((lo + hi) / 2 + 1 : Nat) : Int) by omega], rfl, by omega, hin, HV2, d2.out⟩, by simp [RowKit.intOf]; omega⟩
      · have HV2 := Lib.hid (HV.out.down HR.out hm hq)
        have hq2 : ¬ (r.last.toNat : Int) - (c.toNat : Int) < 0 := by rw [UInt8.lt_iff_toNat_lt] at hq; omega
        clear hf hm hq HV
        go_wp2_with fail
        refine HK.out.mono ?_
        rintro e w2 ⟨rfl, hb2⟩
        have d2 := Lib.hid (hbe.trans (hb2.mono hsz))
        clear HK hb2 e0 e1 e2 e3 e4 hbe
        go_wp2
        exact ⟨⟨lo, (lo + hi) / 2, rfl, by rw [show ((lo : Int) + (hi : Int)) / 2 = (((lo + hi) / 2 : Nat) : Int) by omega], by omega, by omega, HV2, d2.out⟩, by simp [RowKit.intOf]; omega⟩
    · obtain rfl : hi = lo := by omega
      by_cases hn : hi < len
      · obtain ⟨b, off, rfl, r, hf, hat⟩ := rc_at HH.out hbe hi hn
        obtain ⟨e0, e1, e2, e3, e4⟩ := hat
        have HK := Lib.hid (HC.out r c wr)
        have hm : (rs.map Rc.last)[hi]? = some r.last := by rw [List.getElem?_map, hf]; rfl
        unfold rcV at HK
        have g0 : (0 : Int) ≤ (hi : Int) := by omega
        have g1 : (hi : Int) < (len : Int) := by omega
        by_cases hq : r.last = c
        · have HS := Lib.hid (Halves.hit (c := c) (by rw [hm, hq]))
          have hq2 : (r.last.toNat : Int) - (c.toNat : Int) = 0 := by rw [hq]; omega
          clear hf hm hq HV
          go_wp2_with fail
          refine HK.out.mono ?_
          rintro e w2 ⟨rfl, hb2⟩
          have d2 := Lib.hid (hbe.trans (hb2.mono hsz))
          clear HK hb2 e0 e1 e2 e3 e4 hbe
          go_wp2
          go_ret2
          exact ⟨hi, true, rfl, HS.out, d2.out⟩
        · have HS := Lib.hid (HV.out.miss HR.out (by rw [hm]; simpa using hq))
          have hq2 : ¬ (r.last.toNat : Int) - (c.toNat : Int) = 0 := fun h0 => hq (UInt8.toNat_inj.1 (by omega))
          have hq3 : ((r.last.toNat : Int) - (c.toNat : Int) == 0) = false := by simpa using hq2
          clear hf hm hq HV
          go_wp2_with fail
          refine HK.out.mono ?_
          rintro e w2 ⟨rfl, hb2⟩
          have d2 := Lib.hid (hbe.trans (hb2.mono hsz))
          clear HK hb2 e0 e1 e2 e3 e4 hbe
          go_wp2
          go_ret2
          exact ⟨hi, false, rfl, HS.out, d2.out⟩
      · have HS := Lib.hid (HV.out.miss HR.out (by rw [List.getElem?_eq_none (by rw [List.length_map]; omega)]; simp))
        have g1 : ¬ (hi : Int) < (len : Int) := by omega
        clear HV
        go_wp2
        go_ret2
        exact ⟨hi, false, rfl, HS.out, hbe⟩

/-- What Next tells of a state's bytes. -/
def RetNx (bs : List UInt8) (o : Nat) (c : UInt8) (w : World) (e : Ending) (w' : World) : Prop :=
  ((c ∈ bs → ∃ n : Nat, e = .returned (.tuple #[.int .i64 ((o + n : Nat) : Int), .bool true]) ∧ bs[n]? = some c) ∧ (c ∉ bs → e = .returned (.tuple #[.int .i64 0, .bool false]))) ∧ Below w.heap.size w w'
set_option maxHeartbeats 1000000 in
theorem trnext_out {w : World} {q p : Option Addr} {R : List Rc} (h : HasTr w q p R) (s : Int) (hs : s < 0 ∨ (R.length : Int) ≤ s + 1) (c : UInt8) : Calls Tryz.prog 66 #[.pointer q, .int .i64 s, .int .u8 (c.toNat : Int)] w fun e w' => e = .returned (.tuple #[.int .i64 0, .bool false]) ∧ Below w.heap.size w w' := by
  have HS := Lib.hid (trbelow_out h s hs)
  have HK := Lib.hid (trseek_any (w := w) (a := none) (len := 0) (cap := 0) (rs := []) ⟨rfl, .inl rfl⟩ (by omega) c (by simp))
  clear h hs
  go_enter Tryz.func66, Tryz.ntmps66
  go_wp2_with fail
  refine HS.out.mono ?_
  rintro e w' ⟨rfl, rfl⟩
  go_wp2_with fail
  refine HK.out.mono ?_
  rintro e w2 ⟨n, β, rfl, ⟨hβ, _⟩, hb⟩
  simp only [List.map_nil, List.not_mem_nil, decide_false] at hβ
  subst hβ
  clear HK
  go_wp2
  go_ret2
  exact ⟨rfl, hb⟩
set_option maxHeartbeats 1000000 in
theorem trnext_in {w : World} {q p : Option Addr} {R : List Rc} (h : HasTr w q p R) (k : Nat) (r r' : Rc) (hr : R[k]? = some r) (hr' : R[k + 1]? = some r') (h1 : r.below ≤ r'.below) (h2 : r'.below ≤ R.length) (c : UInt8)
    (hrise : (((R.drop r.below).take (r'.below - r.below)).map Rc.last).Pairwise (· < ·)) :
    Calls Tryz.prog 66 #[.pointer q, .int .i64 (k : Int), .int .u8 (c.toNat : Int)] w (RetNx (((R.drop r.below).take (r'.below - r.below)).map Rc.last) r.below c w) := by
  have hm := h.few
  have HB := Lib.hid (trbelow_in h k r r' hr hr' h1 h2)
  have hk := (List.getElem?_eq_some_iff.1 hr).1
  obtain ⟨base, b, rfl, ht⟩ := h.some hk
  obtain ⟨g, cap, c0, c1, hcap, _, hg, hat⟩ := ht.reads
  have e2 := (hat k r hr).c2
  have hblt := ht.lt
  have g0 : (0 : Int) ≤ (k : Int) := by omega
  have g1 : (k : Int) < (R.length : Int) := by omega
  have HK : Hid (∀ (a : Option Addr) (cap : Nat) (W : World), IsRcs W a (r'.below - r.below) ((R.drop r.below).take (r'.below - r.below)) → _) := Lib.hid fun a cap W hW => trseek_any (cap := cap) hW (by omega) c hrise
  have hlen : ((R.drop r.below).take (r'.below - r.below)).length ≤ R.length := by rw [List.length_take, List.length_drop]; omega
  generalize (R.drop r.below).take (r'.below - r.below) = L at *
  generalize r'.below - r.below = n at *
  clear h ht hat hr hr' hrise
  go_enter Tryz.func66, Tryz.ntmps66
  go_wp2_with fail
  refine HB.out.mono ?_
  rintro e w' ⟨⟨a, cap', rfl, hL⟩, m, rfl⟩
  have HL := Lib.hid (HK.out a cap' (w.drewN m) (hL.below (below_drewS (Below.refl _ _) m)))
  clear HK HB hL
  go_wp2_with fail
  refine HL.out.mono ?_
  rintro e w2 ⟨i, β, rfl, ⟨hβ, hi⟩, hb⟩
  clear HL
  have hb' : Below w.heap.size w w2 := (below_drewS (Below.refl _ _) m).trans hb
  have d1 : w2.cell? ⟨b, 1, none⟩ = some (.slice (some ⟨g, 0, none⟩) R.length cap) := (hb'.cell (p := ⟨b, 1, none⟩) hblt).trans c1
  have d2 : w2.cell? ⟨g, k * 5 + 2, none⟩ = some (.int .i32 (r.below : Int)) := (hb'.cell (p := ⟨g, k * 5 + 2, none⟩) hg).trans e2
  have HB := Lib.hid hb'
  clear hb hb' c0 c1 e2
  by_cases hc : c ∈ L.map Rc.last
  · have hi2 := Lib.hid (hi hc)
    rw [decide_eq_true hc] at hβ
    subst hβ
    have hil := (List.getElem?_eq_some_iff.1 (hi hc)).1
    rw [List.length_map] at hil
    have hw : IntKind.i64.wrap (r.below : Int) = (r.below : Int) := by rw [IntKind.wrap_i64]; omega
    have hw2 : IntKind.i64.wrap ((r.below : Int) + (i : Int)) = (r.below : Int) + (i : Int) := by rw [IntKind.wrap_i64]; omega
    have HC := Lib.hid hc
    clear hc hi
    go_wp2
    go_ret2
    exact ⟨⟨fun _ => ⟨i, by rw [show ((r.below + i : Nat) : Int) = (r.below : Int) + (i : Int) by omega]; rfl, hi2.out⟩, fun hh => absurd HC.out hh⟩, HB.out⟩
  · rw [decide_eq_false hc] at hβ
    subst hβ
    have HC := Lib.hid hc
    clear hc hi
    go_wp2
    go_ret2
    exact ⟨⟨fun hh => absurd hh HC.out, fun _ => rfl⟩, HB.out⟩
end Go.Proofs.YtjmlabggocfikaaGreat

namespace Go.Proofs.YtjmlabggocfikaaGreat
open Go.RowKit

theorem trbyte_info : (Tryz.prog.info? 5).map (fun i => (i.zero, i.size, i.bytes)) = some (some (.int .u8 0), 1, 1) := by kernel_rfl
theorem trbyte_one {x : Int} : ∀ v ∈ [Value.int .u8 x], v.oneCell' = true := by
  intro v hv
  simp at hv
  subst hv; rfl
theorem trcells_snoc (l : List UInt8) (c : UInt8) : Lib.byteCells (l ++ [c]) = Lib.byteCells l ++ [.int .u8 (c.toNat : Int)] := by simp [Lib.byteCells]
/-- A slice of bytes of the call's own, as a string says it. -/
theorem trown_text {w : World} {base : Nat} {v : Value} {l : List UInt8} (h : w.ownsRow base 5 1 v l.length (Lib.byteCells l)) : (convert 79 9 v).run Tryz.prog w = .ok (.string ⟨l.toArray⟩) w := by
  rcases h.2 with ⟨rfl, h0⟩ | ⟨g, cap, cur, rfl, _⟩
  · obtain rfl := List.length_eq_zero_iff.1 h0
    rw [run_convert_bytes_string w 79 9 5 none 0 0 Tryz.underlying79 Tryz.underlying5 Tryz.underlying9]
    rfl
  · refine run_convert_bytes_back w 79 9 5 _ _ l Tryz.underlying79 Tryz.underlying5 Tryz.underlying9 (fun j hj => ?_)
    exact h.cells (g := g) rfl j _ (by simp [Lib.byteCells, List.getElem?_eq_getElem hj])
end Go.Proofs.YtjmlabggocfikaaGreat

namespace Go.Proofs.YtjmlabggocfikaaGreat
open Go.RowKit

theorem IsTrie.below {w w' : World} {q p : Option Addr} {us S : List (List UInt8)} (h : IsTrie w q p us S) (hb : Below w.heap.size w w') : IsTrie w' q p us S := by
  obtain ⟨R, h1, h2, h3, h4⟩ := h
  exact ⟨R, h1.below hb, h2, h3, h4.below hb⟩
theorem IsTrie.st {w : World} {q p : Option Addr} {us S : List (List UInt8)} (h : IsTrie w q p us S) : IsSt us S := by
  obtain ⟨R, h1, h2, h3, h4⟩ := h
  exact h3.done
theorem IsTrie.few {w : World} {q p : Option Addr} {us S : List (List UInt8)} (h : IsTrie w q p us S) : 1 ≤ S.length ∧ S.length ≤ totalL us + 1 ∧ S.length ≤ 16777217 := by
  obtain ⟨R, h1, h2, h3, h4⟩ := h
  have := (pats_each h4).2.2
  exact ⟨h3.le.2, h3.few, by have := h3.few; omega⟩
theorem ts_len {w : World} {q p : Option Addr} {us S : List (List UInt8)} (h : IsTrie w q p us S) : Calls Tryz.prog 51 #[.pointer q] w fun e w' => e = .returned (.int .i64 (S.length : Int)) ∧ w' = w := by
  obtain ⟨R, h1, h2, h3, h4⟩ := h
  rw [← h2.1]
  exact trlen_any h1
theorem ts_depth {w : World} {q p : Option Addr} {us S : List (List UInt8)} (h : IsTrie w q p us S) (k : Nat) {s : List UInt8} (hs : S[k]? = some s) : Calls Tryz.prog 46 #[.pointer q, .int .i64 (k : Int)] w fun e w' => e = .returned (.int .i64 (s.length : Int)) ∧ Below w.heap.size w w' := by
  obtain ⟨R, h1, h2, h3, h4⟩ := h
  obtain ⟨r, hr, _, _, hd, _⟩ := h2.at hs
  have := trdepth_any h1 (k : Int)
  rw [rcOf_in hr, hd] at this
  exact this
theorem ts_above {w : World} {q p : Option Addr} {us S : List (List UInt8)} (h : IsTrie w q p us S) (k : Nat) {s : List UInt8} (hs : S[k]? = some s) : ∃ a : Nat, S[a]? = some s.dropLast ∧ a ≤ k ∧
    Calls Tryz.prog 88 #[.pointer q, .int .i64 (k : Int)] w fun e w' => e = .returned (.tuple #[.int .i64 (a : Int), .int .u8 ((s.getLastD 0).toNat : Int), .bool (decide (0 < s.length))]) ∧ Below w.heap.size w w' := by
  obtain ⟨R, h1, h2, h3, h4⟩ := h
  obtain ⟨r, hr, _, _, hd, hl, ha, hk⟩ := h2.at hs
  have := trabove_any h1 (k : Int)
  rw [rcOf_in hr, hd, hl] at this
  exact ⟨_, ha, hk, this⟩
/-- The first pattern of a state begins with it. -/
theorem first_take {us S : List (List UInt8)} (ha : Asc us) (h : IsSt us S) {s : List UInt8} (hs : s ∈ S) : s.length ≤ (us.getD (frL us s) []).length ∧ (us.getD (frL us s) []).take s.length = s := by
  rcases (h.2 s).1 hs with rfl | hb
  · simp
  · have hr := range_pos ha hb
    have hl := to_le us s
    have e1 : us[frL us s]? = some (us[frL us s]'(by omega)) := List.getElem?_eq_getElem (by omega)
    have hp := (in_iff ha e1).2 ⟨Nat.le_refl _, hr⟩
    rw [List.getD_eq_getElem?_getD, e1]
    exact ⟨hp.length_le, (List.prefix_iff_eq_take.1 hp).symm⟩
theorem ts_ends {w : World} {q p : Option Addr} {us S : List (List UInt8)} (h : IsTrie w q p us S) (ha : Asc us) (k : Nat) {s : List UInt8} (hs : S[k]? = some s) : Calls Tryz.prog 68 #[.pointer q, .int .i64 (k : Int)] w fun e w' =>
    ((s ∈ us → e = .returned (.tuple #[.int .i64 (frL us s : Int), .bool true])) ∧ (s ∉ us → e = .returned (.tuple #[.int .i64 0, .bool false]))) ∧ Below w.heap.size w w' := by
  have hst := h.st
  obtain ⟨R, h1, h2, h3, h4⟩ := h
  obtain ⟨r, hr, hf, _, hd, _⟩ := h2.at hs
  have hi := endr_iff ha ((hst.2 s).1 (List.mem_of_getElem? hs)) hf hd
  refine (trends_in h1 h4 k r hr (by have := (pats_each h4).2.1; omega)).mono ?_
  rintro e w' ⟨⟨e1, e2⟩, hb⟩
  rw [hf] at e1
  exact ⟨⟨fun hm => e1 (hi.2 hm), fun hm => e2 fun he => hm (hi.1 he)⟩, hb⟩
/-- Where a pattern stands that a state is. -/
theorem ends_at {us : List (List UInt8)} (ha : Asc us) {s : List UInt8} (hs : s ∈ us) : us[frL us s]? = some s := by
  have hb : begL us s = true := beg_iff.2 ⟨s, hs, List.prefix_refl s⟩
  have hr := range_pos ha hb
  have hl := to_le us s
  have e1 : us[frL us s]? = some (us[frL us s]'(by omega)) := List.getElem?_eq_getElem (by omega)
  have hp := (in_iff ha e1).2 ⟨Nat.le_refl _, hr⟩
  exact e1.trans (congrArg some (hp.eq_of_length ((first_is ha e1 hp).2 hs).symm).symm)

/-- What is kept of the states below one. -/
theorem kids_kept {us S : List (List UInt8)} {R : List Rc} (hb : Bfs us S.length S) (hR : RecOk us S S.length R) {k : Nat} {s s' : List UInt8} (hs : S[k]? = some s) (hs' : S[k + 1]? = some s') : ∃ r r', R[k]? = some r ∧ R[k + 1]? = some r' ∧ r.below = offL us S k ∧
    r.below ≤ r'.below ∧ r'.below ≤ R.length ∧ ((R.drop r.below).take (r'.below - r.below)).map Rc.last = kidsL us s := by
  have hk := (List.getElem?_eq_some_iff.1 hs').1
  obtain ⟨r, hr, _, h2, _⟩ := hR.at hs
  obtain ⟨r', hr', _, h2', _⟩ := hR.at hs'
  rw [if_pos (by omega)] at h2 h2'
  have ho := off_snoc (us := us) hs
  have hle := off_le hb (i := k + 1) (by omega)
  refine ⟨r, r', hr, hr', h2, by omega, by rw [hR.1]; omega, ?_⟩
  rw [h2, h2', ho, Nat.add_sub_cancel_left]
  refine List.ext_getElem? fun j => ?_
  rw [List.getElem?_map, List.getElem?_take]
  by_cases hj : j < (kidsL us s).length
  · rw [if_pos hj, List.getElem?_drop]
    have hc : (kidsL us s)[j]? = some (kidsL us s)[j] := List.getElem?_eq_getElem hj
    obtain ⟨x, hx, _, _, _, hxl, _⟩ := hR.at (hb.at (by omega) hs hc)
    rw [hx, hc, Option.map_some, hxl]
    simp
  · rw [if_neg hj, List.getElem?_eq_none (by omega)]; rfl
theorem ts_next {w : World} {q p : Option Addr} {us S : List (List UInt8)} (h : IsTrie w q p us S) (k : Nat) {s : List UInt8} (hs : S[k]? = some s) (c : UInt8) : Calls Tryz.prog 66 #[.pointer q, .int .i64 (k : Int), .int .u8 (c.toNat : Int)] w fun e w' =>
    ((s ++ [c] ∈ S → ∃ n : Nat, e = .returned (.tuple #[.int .i64 (n : Int), .bool true]) ∧ S[n]? = some (s ++ [c])) ∧ (s ++ [c] ∉ S → e = .returned (.tuple #[.int .i64 0, .bool false]))) ∧ Below w.heap.size w w' := by
  have hst := h.st
  obtain ⟨R, h1, h2, h3, h4⟩ := h
  have hk := (List.getElem?_eq_some_iff.1 hs).1
  have hi : s ++ [c] ∈ S ↔ c ∈ kidsL us s := by
    rw [hst.2, kids_mem]
    simp
  by_cases hl : k + 1 < S.length
  · obtain ⟨r, r', hr, hr', ho, hle1, hle2, hm⟩ := kids_kept h3 h2 hs (List.getElem?_eq_getElem hl)
    refine (trnext_in h1 k r r' hr hr' hle1 hle2 c (by rw [hm]; exact kids_rise us s)).mono ?_
    rintro e w' ⟨⟨e1, e2⟩, hb⟩
    rw [hm] at e1 e2
    refine ⟨⟨fun hh => ?_, fun hh => e2 fun hx => hh (hi.2 hx)⟩, hb⟩
    obtain ⟨n, he, hn⟩ := e1 (hi.1 hh)
    rw [ho] at he
    exact ⟨_, he, h3.at hk hs hn⟩
  · have hkk : k = S.length - 1 := by omega
    have hn := last_none hst (by rw [← hkk]; exact hs)
    refine (trnext_out h1 (k : Int) (.inr (by rw [h2.1]; omega)) c).mono ?_
    rintro e w' ⟨he, hb⟩
    exact ⟨⟨fun hh => by rw [hi, hn] at hh; simp at hh, fun _ => he⟩, hb⟩
theorem st_take {us S : List (List UInt8)} (h : IsSt us S) {t : List UInt8} (ht : t ∈ S) (n : Nat) : t.take n ∈ S := by
  rcases (h.2 t).1 ht with rfl | hb
  · simpa using ht
  · exact (h.2 _).2 (.inr (beg_short hb (List.take_prefix n t)))
end Go.Proofs.YtjmlabggocfikaaGreat

namespace Go.Proofs.YtjmlabggocfikaaGreat
open Go.RowKit

theorem pats_nodup {w : World} {p : Option Addr} {us : List (List UInt8)} (h : IsPats w p us) : us.Nodup := by
  rcases h with ⟨_, rfl⟩ | ⟨b, _, _, h⟩
  · exact List.Pairwise.nil
  · exact h.once
/-- A new trie of a set that texts make. -/
theorem trnew_set {w : World} {p : Option Addr} {ws : List (List UInt8)} (h : IsPats w p (setL ws)) :
    Calls Tryz.prog 58 #[.pointer p] w fun e w' => ∃ q S, e = .returned (.pointer q) ∧ IsTrie w' q p (setL ws) S ∧ Below w.heap.size w w' := trnew_any h (set_asc ws) (pats_nodup h)
end Go.Proofs.YtjmlabggocfikaaGreat
