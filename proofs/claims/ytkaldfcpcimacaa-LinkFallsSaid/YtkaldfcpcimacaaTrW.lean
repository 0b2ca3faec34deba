/-
  A trie that is made: grow: walked.
-/
import Derived.Test.YtkaldfcpcimacaaTrV
import Derived.WalkMore
import Derived.Deep.LoopGhost
set_option linter.unusedSimpArgs false
set_option linter.unusedVariables false
namespace Go.Proofs.Ytkaldfcpcimacaa
open Go.RowKit

/-- The states that stand while a state's patterns are gone through, up to m. -/
def midS (us S : List (List UInt8)) (q : List UInt8) (m : Nat) : List (List UInt8) := S ++ (kidsL (us.take m) q).map fun c => q ++ [c]
theorem mid_length (us S : List (List UInt8)) (q : List UInt8) (m : Nat) : S.length ≤ (midS us S q m).length ∧ (midS us S q m).length ≤ S.length + 256 := by
  unfold midS kidsL bytU
  rw [List.length_append, List.length_map]
  have := List.length_filter_le (fun c => begL (us.take m) (q ++ [c])) ((List.range 256).map UInt8.ofNat)
  rw [List.length_map, List.length_range] at this
  omega
theorem mid_start {us S : List (List UInt8)} {q : List UInt8} (ha : Asc us) : midS us S q (onL us q) = S := by
  unfold midS
  rw [kids_start ha]
  simp
theorem mid_end {us S : List (List UInt8)} {q : List UInt8} (ha : Asc us) : midS us S q (toL us q) = S ++ kidsP us q := by
  unfold midS kidsP
  rw [kids_end ha]
theorem mid_snoc {us S : List (List UInt8)} {q : List UInt8} {c : UInt8} {m k : Nat} (ha : Asc us) (h : Run us q c m k) (hm : Cut us q m) : midS us S q k = midS us S q m ++ [q ++ [c]] := by
  unfold midS
  rw [h.kids ha hm, List.map_append, ← List.append_assoc]; rfl

/-- What stands in the midst of grow. -/
structure Mid (us S : List (List UInt8)) (q : List UInt8) (k : Nat) (w0 : World) (b X : Nat) (p : Option Addr) (m : Nat) (v : Value) (w : World) : Prop where
  tr : ∃ R, IsTr w w0.heap.size b p R ∧ RecOk us (midS us S q m) (k + 1) R
  que : OwnQ w w0.heap.size 81 3 v ((midS us S q m).length - (k + 1)) (grCells (grL us (k + 1) ((midS us S q m).drop (k + 1))))
  box : w.heap[X]? = some (.cells #[.int .i64 (k : Int), .int .i64 (frL us q : Int), .int .i64 (toL us q : Int)] 81 (0, 0))
  apart : v.ownBlock ≠ some X
  old : Below w0.heap.size w0 w
  late : w0.heap.size ≤ X

/-- What grow answers. -/
def RetGr (us S : List (List UInt8)) (q : List UInt8) (k : Nat) (w0 : World) (b : Nat) (p : Option Addr) (e : Ending) (w : World) : Prop :=
  ∃ v, e = .returned v ∧ (∃ R, IsTr w w0.heap.size b p R ∧ RecOk us (S ++ kidsP us q) (k + 1) R) ∧ OwnQ w w0.heap.size 81 3 v ((S ++ kidsP us q).length - (k + 1)) (grCells (grL us (k + 1) ((S ++ kidsP us q).drop (k + 1)))) ∧ Below w0.heap.size w0 w

set_option maxRecDepth 100000 in
set_option maxHeartbeats 4000000 in
theorem trgrow_any {w0 w : World} {b k : Nat} {p : Option Addr} {us S : List (List UInt8)} {q : List UInt8} {R : List Rc} {v : Value} (hp : IsPats w0 p us) (ha : Asc us) (hn : us.Nodup) (hb0 : Below w0.heap.size w0 w) (hbfs : Bfs us k S) (hq : S[k]? = some q)
    (hT : IsTr w w0.heap.size b p R) (hR : RecOk us S k R) (hv : OwnQ w w0.heap.size 81 3 v (S.length - (k + 1)) (grCells (grL us (k + 1) (S.drop (k + 1))))) :
    Calls Try.prog 49 #[.pointer (some ⟨b, 0, none⟩), v, .agg #[.int .i64 (k : Int), .int .i64 (frL us q : Int), .int .i64 (toL us q : Int)]] w (RetGr us S q k w0 b p) := by
  obtain ⟨he, hl, ht⟩ := pats_each hp
  have hfew := hbfs.few
  have hkl := (List.getElem?_eq_some_iff.1 hq).1
  have hfl := fr_le us q
  have htl := to_le us q
  obtain ⟨r, hr, hr1, hr2, hr3, hr4, _⟩ := hR.at hq
  have hRl := hR.1
  -- the box
  have hX := heap_alloc_new w (.cells #[.int .i64 (k : Int), .int .i64 (frL us q : Int), .int .i64 (toL us q : Int)] 81)
  have hb1 : Below w0.heap.size w0 (w.alloc (.cells #[.int .i64 (k : Int), .int .i64 (frL us q : Int), .int .i64 (toL us q : Int)] 81)) := hb0.alloc hb0.size _
  have T1 : IsTr (w.alloc (.cells #[.int .i64 (k : Int), .int .i64 (frL us q : Int), .int .i64 (toL us q : Int)] 81)) w0.heap.size b p R := hT.below ((Below.refl _ _).alloc (Nat.le_refl _) _)
  have Q1 := hv.alloc (.cells #[.int .i64 (k : Int), .int .i64 (frL us q : Int), .int .i64 (toL us q : Int)] 81)
  have hap : v.ownBlock ≠ some w.heap.size := fun e => by have := (hv.lt _ e).2; omega
  have hXl : w0.heap.size ≤ w.heap.size := hb0.size
  obtain ⟨gv, ov, cv, rfl, _⟩ := hv.form
  have hmx : Try.prog.follows .mixedOrders = true := by kernel_rfl
  clear hT hv hb0
  go_enter Try.func49, Try.ntmps49
  go_wp2_with fail
  go_step3
  generalize w.alloc (.cells #[.int .i64 (k : Int), .int .i64 (frL us q : Int), .int .i64 (toL us q : Int)] 81) = w1 at *
  generalize w.heap.size = X at *
  have c0 : w1.cell? ⟨X, 0, none⟩ = some (.int .i64 (k : Int)) := by rw [Lib.cell_of_heap hX]; rfl
  have c1 : w1.cell? ⟨X, 1, none⟩ = some (.int .i64 (frL us q : Int)) := by rw [Lib.cell_of_heap hX]; rfl
  have G1 := trregrown (fun W hW => trdepth_any (.inr ⟨_, b, rfl, T1.below hW⟩ : HasTr W (some ⟨b, 0, none⟩) p R) (k : Int))
  rw [rcOf_in hr, hr3] at G1
  have x0 := cell_regrown c0
  have x1 := cell_regrown c1
  go_wp2_with fail
  refine wp_region_quiet_below hmx (by kernel_rfl) ?_
  repeat (go_big_quiet_step (first | with_reducible exact G1 _ _))
  refine wpQuiet_nil ?_
  intro W6 hw6
  obtain ⟨⟨dq, osq⟩, rfl⟩ := hw6
  have b6 := below_regrown w1 dq osq
  generalize Go.Sort.grow (redrawn w1 dq) osq = w2 at b6 ⊢
  have hX2 := (b6.block X (heap_lt hX)).trans hX
  have T2 := T1.below b6
  have Q2 := Q1.groups (Groups.of b6)
  have hb2 := hb1.trans (b6.mono hb1.size)
  clear c0 c1 x0 x1 G1 T1 Q1 hb1 hX b6
  have d0 : w2.cell? ⟨X, 0, none⟩ = some (.int .i64 (k : Int)) := by rw [Lib.cell_of_heap hX2]; rfl
  obtain ⟨g, cap, hh, hbase, hown, hfit, hfew2⟩ := T2
  have e1 : w2.cell? ⟨b, 1, none⟩ = some (.slice (some ⟨g, 0, none⟩) R.length cap) := by rw [Lib.cell_of_heap hh]; rfl
  have e2 := (own_rcs hown hr).c2
  have f2 : w2.frozen? ⟨g, k * 5 + 2, none⟩ = false := by
    obtain ⟨_, ⟨hx, _⟩ | ⟨g', cap', cur, hx, _, hg, _⟩⟩ := hown
    · cases hx
    · cases hx; exact Lib.frozen_of_heap hg _
  have HPut := Lib.hid (IsTr.put (w := w2) (m := S.length) (by omega) hr hh hbase hown hfit hfew2)
  have k0 : (0 : Int) ≤ (k : Int) := by omega
  have k1 : (k : Int) < (R.length : Int) := by omega
  have ww : IntKind.i32.wrap (R.length : Int) = (R.length : Int) := by rw [IntKind.wrap_i32]; omega
  go_wp2_with fail
  go_region
  have hb3 : Below w0.heap.size w0 ((w2.setCell ⟨g, k * 5 + 2, none⟩ (.int .i32 (S.length : Int))).drew) := (hb2.setCell (by show _ ≤ g; exact (hown.lt g rfl).1) _).drew
  have T3 : IsTr ((w2.setCell ⟨g, k * 5 + 2, none⟩ (.int .i32 (S.length : Int))).drew) w0.heap.size b p (R.set k { r with below := S.length }) := HPut.out.1.heap rfl
  have hX3 : ((w2.setCell ⟨g, k * 5 + 2, none⟩ (.int .i32 (S.length : Int))).drew).heap[X]? = _ := (HPut.out.2 X _ hX2).trans hX2
  have Q3 : OwnQ ((w2.setCell ⟨g, k * 5 + 2, none⟩ (.int .i32 (S.length : Int))).drew) _ _ _ _ _ _ := (Q2.groups HPut.out.2).heap rfl
  clear HPut hh hown hfit hfew2 e1 e2 f2 hb2 hX2 Q2 d0 k1 ww
  generalize (w2.setCell ⟨g, k * 5 + 2, none⟩ (.int .i32 (S.length : Int))).drew = w3 at *
  have d0 : w3.cell? ⟨X, 0, none⟩ = some (.int .i64 (k : Int)) := by rw [Lib.cell_of_heap hX3]; rfl
  have hr1' : (R.set k { r with below := S.length })[k]? = some { r with below := S.length } := List.getElem?_set_self (by omega)
  have HE := Lib.hid (trends_in (.inr ⟨_, b, rfl, T3⟩ : HasTr w3 (some ⟨b, 0, none⟩) p _) (hp.below hb3) k _ hr1' (by omega))
  have HI := endr_iff (us := us) (q := q) (r := { r with below := S.length }) ha (by
    rcases hbfs.old (List.mem_of_getElem? hq) with h | ⟨_, _, _, _, _, h, e⟩
    · exact .inl h
    · exact .inr (by rw [e]; exact h)) hr1 hr3
  have HOk := Lib.hid (hR.tell hbfs hr)
  have M1 : Hid (∀ W, Below w3.heap.size w3 W → Mid us S q k w0 b X p (onL us q) (.slice (some ⟨gv, ov, none⟩) (S.length - (k + 1)) cv) W) := Lib.hid fun W hW => by
    refine ⟨⟨_, T3.below hW, by rw [mid_start ha]; exact HOk.out⟩, by rw [mid_start ha]; exact Q3.groups (Groups.of hW), (hW.block X (heap_lt hX3)).trans hX3, hap, hb3.trans (hW.mono hb3.size), hXl⟩
  have HQS := Lib.hid hq
  obtain ⟨i1, hi1, hy0, hy1, hy2⟩ := info_parts gr_info
  have hrf : ({ r with below := S.length } : Rc).first = frL us q := hr1
  generalize ({ r with below := S.length } : Rc) = r1 at *
  clear T3 hX3 Q3 hb3 HOk hR hr hr1 hr2 hr3 hr4 hr1' hRl hq hbfs
  by_cases hmem : q ∈ us
  · have hon : onL us q = frL us q + 1 := if_pos hmem
    go_wp2_with fail
    refine HE.out.mono ?_
    rintro e w4 ⟨⟨h1, _⟩, hb4⟩
    obtain rfl := h1 (HI.2 hmem)
    have M0 := Lib.hid (M1.out w4 hb4)
    clear h1 hb4 HE M1 d0 HI
    go_wp2
    go_step3
    go_wp2
    go_loopw [1, 8] (fun y x wr => ∃ m : Nat, x = .int .i64 m ∧ Hid (Cut us q m) ∧ Hid (Mid us S q k w0 b X p m y wr)) (fun _ x _ => toL us q - (RowKit.intOf x).toNat)
    case atStart => exact ⟨onL us q, by first | (rw [hon]; done) | (rw [hon]; go_num), Lib.hid (Cut.start ha), M0⟩
    case round =>
      obtain ⟨m, rfl, HCut, HM⟩ := hrel
      have hcut := HCut.out
      obtain ⟨⟨R', hT', hR'⟩, hQ', hX', hA', hO', hL'⟩ := HM.out
      obtain ⟨gq, oq, cq, rfl, _⟩ := hQ'.form
      have c0 : wr.cell? ⟨X, 0, none⟩ = some (.int .i64 (k : Int)) := by rw [Lib.cell_of_heap hX']; rfl
      have c2 : wr.cell? ⟨X, 2, none⟩ = some (.int .i64 (toL us q : Int)) := by rw [Lib.cell_of_heap hX']; rfl
      have HT' := Lib.hid hT'
      have HR' := Lib.hid hR'
      have HQ' := Lib.hid hQ'
      have HX' := Lib.hid hX'
      have HA' := Lib.hid hA'
      have HO' := Lib.hid hO'
      have HL' := Lib.hid hL'
      have hml := mid_length us S q m
      have hRl' : R'.length ≤ 16777217 + 256 := by rw [hR'.1]; omega
      have hS' : (midS us S q m)[k]? = some q := by unfold midS; rw [List.getElem?_append_left hkl]; exact HQS.out
      have HS' := Lib.hid hS'
      obtain ⟨r', hr', _, _, hd', _⟩ := hR'.at hS'
      clear hT' hR' hQ' hX' hA' hO' hL' HM hS'
      by_cases hlt : m < toL us q
      · have hme : us[m]? = some us[m] := List.getElem?_eq_getElem (by omega)
        obtain ⟨c, hc1, hc2⟩ := on_byte ha hn hme hcut.1 hlt
        have hql : q.length + 1 ≤ 65535 := by
          have h1 := hc2.length_le
          have h2 := he us[m] (List.getElem_mem _)
          simp at h1; omega
        have HB := Lib.hid (trbyte_any HT'.out (hp.below HO'.out) m q.length hme hc1)
        have hrun0 := Run.start hlt hme hc2
        have g1 : (m : Int) < (toL us q : Int) := by omega
        generalize us[m] = t0 at hme hc1 hc2 HB
        clear hme hc1 hc2
        go_wp2_with fail
        refine HB.out.mono ?_
        rintro e w' ⟨rfl, hw'⟩
        obtain rfl := hw'.symm
        clear hw' HB
        go_wp2
        obtain ⟨WR, hWR⟩ : ∃ W, W = wr := ⟨_, rfl⟩
        subst hWR
        go_loopw [1, 8, 12] (fun y z x wr => y = .slice (some ⟨gq, oq, none⟩) ((midS us S q m).length - (k + 1)) cq ∧ z = .int .i64 m ∧ ∃ j : Nat, x = .int .i64 j ∧ Hid (Run us q c m j) ∧ wr = WR) (fun _ _ x _ => toL us q - (RowKit.intOf x).toNat)
        case atStart => exact ⟨rfl, rfl, m + 1, by go_num, Lib.hid hrun0, rfl⟩
        case round =>
          obtain ⟨rfl, rfl, j, rfl, HRun, hwr⟩ := hrel
          obtain rfl := hwr
          have hrun := HRun.out
          clear HRun hrun0
          by_cases hj : j < toL us q
          · have hje : us[j]? = some us[j] := List.getElem?_eq_getElem (by omega)
            obtain ⟨d, hd1, hd2⟩ := on_byte ha hn hje (by have := hcut.1; have := hrun.1; omega) hj
            have HB2 := Lib.hid (trbyte_any HT'.out (hp.below HO'.out) j q.length hje hd1)
            have g2 : ¬ (j : Int) = (toL us q : Int) := by omega
            by_cases hcd : d = c
            · subst hcd
              have hrun2 := Lib.hid (hrun.more hj hje hd2)
              generalize us[j] = t1 at hje hd1 hd2 HB2
              clear hje hd1 hd2 hrun
              go_wp2_with fail
              refine HB2.out.mono ?_
              rintro e w' ⟨rfl, hw'⟩
              obtain rfl := hw'.symm
              clear hw' HB2
              go_wp2
              exact ⟨⟨rfl, rfl, j + 1, by go_num, hrun2, trivial⟩, by simp [RowKit.intOf]; omega⟩
            · have hk : ∀ t, j < toL us q → us[j]? = some t → ¬ q ++ [c] <+: t := fun t _ ht hp => by
                rw [hje] at ht
                cases ht
                have := (snoc_pre.1 hp).2
                rw [hd1] at this
                exact hcd (Option.some.inj this)
              have hcd2 : ¬ (d.toNat : Int) = (c.toNat : Int) := fun h => hcd (UInt8.toNat_inj.1 (by omega))
              have hcd3 : ((d.toNat : Int) != (c.toNat : Int)) = true := by rw [bne_iff_ne]; exact hcd2
              have g3 : ((j : Int) == (toL us q : Int)) = false := by rw [beq_eq_false_iff_ne]; exact g2
              clear hcd2 g2
              generalize us[j] = t1 at hje hd1 hd2 HB2
              clear hje hd1 hd2 hcd
              go_wp2_with fail
              refine HB2.out.mono ?_
              rintro e w' ⟨rfl, hw'⟩
              obtain rfl := hw'.symm
              clear hw' HB2
              have hrange := hrun.range ha hcut hk
              have hcut2 := hrun.cut ha hcut hk
              have HM2 := Lib.hid (mid_snoc (S := S) ha hrun hcut)
              have hjm := hrun.1
              have hjt := hrun.2.1
              have HA := Lib.hid (tradd_any HT'.out k m j r' c hr' (by omega) (by omega) (by rw [hd']; omega) (by omega))
              rw [hd'] at HA
              have HC2 := Lib.hid hcut2
              have HR2 := Lib.hid hrange
              clear hrange hcut2 hk
              go_wp2_with fail
              refine HA.out.mono ?_
              rintro e w3 ⟨rfl, hT3, hb3, hG3⟩
              have HB3 := Lib.hid hb3
              have HG3 := Lib.hid hG3
              have HT3 := Lib.hid hT3
              have hQ3 := HQ'.out.groups hG3
              have hbs3 : w0.heap.size ≤ w3.heap.size := (HO'.out.trans hb3).size
              have hX3 := (hG3 X _ HX'.out).trans HX'.out
              have HX3 := Lib.hid hX3
              have hXl3 := heap_lt hX3
              clear HA hb3 hG3 hT3 hX3
              go_wp2_with (at_builtin; refine wpList_append_q _ rfl _ _ 82 rfl w0.heap.size 81 i1 (.agg #[.int .i64 0, .int .i64 0, .int .i64 0]) 3 24 Try.underlying82 hi1 hy0 hy1 hy2 rfl (by decide) _ _ _ rfl (hQ3.alloc _) ⟨w3.heap.size, 0, none⟩ 1 1 [.int .i64 (R'.length : Int), .int .i64 (m : Int), .int .i64 (j : Int)] rfl rfl (new_gr (heap_alloc_new _ _)) gr_one (by decide) (by unfold maxLen; omega) (by omega) (by simp; omega) ?_)
              intro v' w4 hown4 hgrow4 hat4
              have M' : Hid (Mid us S q k w0 b X p j v' w4) := Lib.hid (by
                have hT4 := HT3.out.below ((Below.refl _ _).alloc (Nat.le_refl _) (.cells #[.int .i64 (R'.length : Int), .int .i64 (m : Int), .int .i64 (j : Int)] 81))
                have hq4 := hQ3.alloc (.cells #[.int .i64 (R'.length : Int), .int .i64 (m : Int), .int .i64 (j : Int)] 81)
                have hT5 := hT4.grown hq4 hgrow4
                refine ⟨⟨_, hT5, ?_⟩, ?_, ?_, ?_, ?_, HL'.out⟩
                · rw [HM2.out]
                  have := HR'.out.snoc (by have := mid_length us S q m; omega) HS'.out (c := c)
                  rw [HR2.out.1] at this
                  exact this
                · rw [HM2.out, List.drop_append_of_le_length (by have := mid_length us S q m; omega), gr_snoc, grCells_snoc, List.length_append, List.length_drop, HR2.out.1, HR2.out.2]
                  have e1 : (midS us S q m).length + [q ++ [c]].length - (k + 1) = (midS us S q m).length - (k + 1) + 1 := by have := mid_length us S q m; simp; omega
                  have e2 : k + 1 + ((midS us S q m).length - (k + 1)) = R'.length := by have := mid_length us S q m; rw [HR'.out.1]; omega
                  rw [e1, e2]
                  exact hown4
                · rw [hgrow4.block X (by simp; omega) (fun ee => HA'.out ee.symm), Lib.alloc_old _ _ X hXl3]
                  exact HX3.out
                · rcases hat4 with h4 | h4
                  · rw [h4]; exact HA'.out
                  · rw [h4]
                    simp only [World.size_alloc, ne_eq, Option.some.injEq]
                    omega
                · refine ((HO'.out.trans HB3.out).alloc hbs3 _).trans ⟨hgrow4.os, hgrow4.tape, hgrow4.output, hgrow4.size, fun i hi => hgrow4.block i (by simp; omega) (fun ee => by have := (hq4.lt i ee.symm).1; omega)⟩)
              obtain ⟨g4, o4, c4, rfl, _⟩ := hown4.form
              clear hown4 hgrow4 hat4 hQ3 HT3 HX3 HB3 HG3
              go_wp2
              exact ⟨⟨j, rfl, HC2.out, M'⟩, by simp [RowKit.intOf]; omega⟩
          · obtain ⟨j', hje⟩ : ∃ j', j' = toL us q := ⟨_, rfl⟩
            obtain rfl : j = toL us q := by have := hrun.2.1; omega
            have hk : ∀ t, toL us q < toL us q → us[toL us q]? = some t → ¬ q ++ [c] <+: t := fun t h => absurd h hj
            clear hje hj
            have hrange := hrun.range ha hcut hk
            have hcut2 := hrun.cut ha hcut hk
            have HM2 := Lib.hid (mid_snoc (S := S) ha hrun hcut)
            have hjm := hrun.1
            have hjt := hrun.2.1
            have HA := Lib.hid (tradd_any HT'.out k m (toL us q) r' c hr' (by omega) (by omega) (by rw [hd']; omega) (by omega))
            rw [hd'] at HA
            have HC2 := Lib.hid hcut2
            have HR2 := Lib.hid hrange
            clear hrange hcut2 hk
            go_wp2_with fail
            refine HA.out.mono ?_
            rintro e w3 ⟨rfl, hT3, hb3, hG3⟩
            have HB3 := Lib.hid hb3
            have HG3 := Lib.hid hG3
            have HT3 := Lib.hid hT3
            have hQ3 := HQ'.out.groups hG3
            have hbs3 : w0.heap.size ≤ w3.heap.size := (HO'.out.trans hb3).size
            have hX3 := (hG3 X _ HX'.out).trans HX'.out
            have HX3 := Lib.hid hX3
            have hXl3 := heap_lt hX3
            clear HA hb3 hG3 hT3 hX3
            go_wp2_with (at_builtin; refine wpList_append_q _ rfl _ _ 82 rfl w0.heap.size 81 i1 (.agg #[.int .i64 0, .int .i64 0, .int .i64 0]) 3 24 Try.underlying82 hi1 hy0 hy1 hy2 rfl (by decide) _ _ _ rfl (hQ3.alloc _) ⟨w3.heap.size, 0, none⟩ 1 1 [.int .i64 (R'.length : Int), .int .i64 (m : Int), .int .i64 (toL us q : Int)] rfl rfl (new_gr (heap_alloc_new _ _)) gr_one (by decide) (by unfold maxLen; omega) (by omega) (by simp; omega) ?_)
            intro v' w4 hown4 hgrow4 hat4
            have M' : Hid (Mid us S q k w0 b X p (toL us q) v' w4) := Lib.hid (by
              have hT4 := HT3.out.below ((Below.refl _ _).alloc (Nat.le_refl _) (.cells #[.int .i64 (R'.length : Int), .int .i64 (m : Int), .int .i64 (toL us q : Int)] 81))
              have hq4 := hQ3.alloc (.cells #[.int .i64 (R'.length : Int), .int .i64 (m : Int), .int .i64 (toL us q : Int)] 81)
              have hT5 := hT4.grown hq4 hgrow4
              refine ⟨⟨_, hT5, ?_⟩, ?_, ?_, ?_, ?_, HL'.out⟩
              · rw [HM2.out]
                have := HR'.out.snoc (by have := mid_length us S q m; omega) HS'.out (c := c)
                rw [HR2.out.1] at this
                exact this
              · rw [HM2.out, List.drop_append_of_le_length (by have := mid_length us S q m; omega), gr_snoc, grCells_snoc, List.length_append, List.length_drop, HR2.out.1, HR2.out.2]
                have e1 : (midS us S q m).length + [q ++ [c]].length - (k + 1) = (midS us S q m).length - (k + 1) + 1 := by have := mid_length us S q m; simp; omega
                have e2 : k + 1 + ((midS us S q m).length - (k + 1)) = R'.length := by have := mid_length us S q m; rw [HR'.out.1]; omega
                rw [e1, e2]
                exact hown4
              · rw [hgrow4.block X (by simp; omega) (fun ee => HA'.out ee.symm), Lib.alloc_old _ _ X hXl3]
                exact HX3.out
              · rcases hat4 with h4 | h4
                · rw [h4]; exact HA'.out
                · rw [h4]
                  simp only [World.size_alloc, ne_eq, Option.some.injEq]
                  omega
              · refine ((HO'.out.trans HB3.out).alloc hbs3 _).trans ⟨hgrow4.os, hgrow4.tape, hgrow4.output, hgrow4.size, fun i hi => hgrow4.block i (by simp; omega) (fun ee => by have := (hq4.lt i ee.symm).1; omega)⟩)
            obtain ⟨g4, o4, c4, rfl, _⟩ := hown4.form
            clear hown4 hgrow4 hat4 hQ3 HT3 HX3 HB3 HG3
            go_wp2
            exact ⟨⟨toL us q, rfl, HC2.out, M'⟩, by simp [RowKit.intOf]; omega⟩
      · have hme : m = toL us q := by have := hcut.2.1; omega
        have HE : Hid (RetGr us S q k w0 b p (.returned (.slice (some ⟨gq, oq, none⟩) ((midS us S q m).length - (k + 1)) cq)) wr) := Lib.hid ⟨_, rfl, ⟨R', HT'.out, by rw [← mid_end ha, ← hme]; exact HR'.out⟩, by rw [← mid_end ha, ← hme]; exact HQ'.out, HO'.out⟩
        have g1 : ¬ (m : Int) < (toL us q : Int) := by omega
        clear HT' HR' HQ' HX' HA' HO' HL' HS' hme
        go_wp2
        go_ret
        exact HE.out
  · have hon : onL us q = frL us q := if_neg hmem
    go_wp2_with fail
    refine HE.out.mono ?_
    rintro e w4 ⟨⟨_, h1⟩, hb4⟩
    obtain rfl := h1 (fun h => hmem (HI.1 h))
    have M0 := Lib.hid (M1.out w4 hb4)
    clear h1 hb4 HE M1 d0 HI
    go_wp2
    go_step3
    go_wp2
    go_loopw [1, 8] (fun y x wr => ∃ m : Nat, x = .int .i64 m ∧ Hid (Cut us q m) ∧ Hid (Mid us S q k w0 b X p m y wr)) (fun _ x _ => toL us q - (RowKit.intOf x).toNat)
    case atStart => exact ⟨onL us q, by first | (rw [hon]; done) | (rw [hon]; go_num), Lib.hid (Cut.start ha), M0⟩
    case round =>
      obtain ⟨m, rfl, HCut, HM⟩ := hrel
      have hcut := HCut.out
      obtain ⟨⟨R', hT', hR'⟩, hQ', hX', hA', hO', hL'⟩ := HM.out
      obtain ⟨gq, oq, cq, rfl, _⟩ := hQ'.form
      have c0 : wr.cell? ⟨X, 0, none⟩ = some (.int .i64 (k : Int)) := by rw [Lib.cell_of_heap hX']; rfl
      have c2 : wr.cell? ⟨X, 2, none⟩ = some (.int .i64 (toL us q : Int)) := by rw [Lib.cell_of_heap hX']; rfl
      have HT' := Lib.hid hT'
      have HR' := Lib.hid hR'
      have HQ' := Lib.hid hQ'
      have HX' := Lib.hid hX'
      have HA' := Lib.hid hA'
      have HO' := Lib.hid hO'
      have HL' := Lib.hid hL'
      have hml := mid_length us S q m
      have hRl' : R'.length ≤ 16777217 + 256 := by rw [hR'.1]; omega
      have hS' : (midS us S q m)[k]? = some q := by unfold midS; rw [List.getElem?_append_left hkl]; exact HQS.out
      have HS' := Lib.hid hS'
      obtain ⟨r', hr', _, _, hd', _⟩ := hR'.at hS'
      clear hT' hR' hQ' hX' hA' hO' hL' HM hS'
      by_cases hlt : m < toL us q
      · have hme : us[m]? = some us[m] := List.getElem?_eq_getElem (by omega)
        obtain ⟨c, hc1, hc2⟩ := on_byte ha hn hme hcut.1 hlt
        have hql : q.length + 1 ≤ 65535 := by
          have h1 := hc2.length_le
          have h2 := he us[m] (List.getElem_mem _)
          simp at h1; omega
        have HB := Lib.hid (trbyte_any HT'.out (hp.below HO'.out) m q.length hme hc1)
        have hrun0 := Run.start hlt hme hc2
        have g1 : (m : Int) < (toL us q : Int) := by omega
        generalize us[m] = t0 at hme hc1 hc2 HB
        clear hme hc1 hc2
        go_wp2_with fail
        refine HB.out.mono ?_
        rintro e w' ⟨rfl, hw'⟩
        obtain rfl := hw'.symm
        clear hw' HB
        go_wp2
        obtain ⟨WR, hWR⟩ : ∃ W, W = wr := ⟨_, rfl⟩
        subst hWR
        go_loopw [1, 8, 12] (fun y z x wr => y = .slice (some ⟨gq, oq, none⟩) ((midS us S q m).length - (k + 1)) cq ∧ z = .int .i64 m ∧ ∃ j : Nat, x = .int .i64 j ∧ Hid (Run us q c m j) ∧ wr = WR) (fun _ _ x _ => toL us q - (RowKit.intOf x).toNat)
        case atStart => exact ⟨rfl, rfl, m + 1, by go_num, Lib.hid hrun0, rfl⟩
        case round =>
          obtain ⟨rfl, rfl, j, rfl, HRun, hwr⟩ := hrel
          obtain rfl := hwr
          have hrun := HRun.out
          clear HRun hrun0
          by_cases hj : j < toL us q
          · have hje : us[j]? = some us[j] := List.getElem?_eq_getElem (by omega)
            obtain ⟨d, hd1, hd2⟩ := on_byte ha hn hje (by have := hcut.1; have := hrun.1; omega) hj
            have HB2 := Lib.hid (trbyte_any HT'.out (hp.below HO'.out) j q.length hje hd1)
            have g2 : ¬ (j : Int) = (toL us q : Int) := by omega
            by_cases hcd : d = c
            · subst hcd
              have hrun2 := Lib.hid (hrun.more hj hje hd2)
              generalize us[j] = t1 at hje hd1 hd2 HB2
              clear hje hd1 hd2 hrun
              go_wp2_with fail
              refine HB2.out.mono ?_
              rintro e w' ⟨rfl, hw'⟩
              obtain rfl := hw'.symm
              clear hw' HB2
              go_wp2
              exact ⟨⟨rfl, rfl, j + 1, by go_num, hrun2, trivial⟩, by simp [RowKit.intOf]; omega⟩
            · have hk : ∀ t, j < toL us q → us[j]? = some t → ¬ q ++ [c] <+: t := fun t _ ht hp => by
                rw [hje] at ht
                cases ht
                have := (snoc_pre.1 hp).2
                rw [hd1] at this
                exact hcd (Option.some.inj this)
              have hcd2 : ¬ (d.toNat : Int) = (c.toNat : Int) := fun h => hcd (UInt8.toNat_inj.1 (by omega))
              have hcd3 : ((d.toNat : Int) != (c.toNat : Int)) = true := by rw [bne_iff_ne]; exact hcd2
              have g3 : ((j : Int) == (toL us q : Int)) = false := by rw [beq_eq_false_iff_ne]; exact g2
              clear hcd2 g2
              generalize us[j] = t1 at hje hd1 hd2 HB2
              clear hje hd1 hd2 hcd
              go_wp2_with fail
              refine HB2.out.mono ?_
              rintro e w' ⟨rfl, hw'⟩
              obtain rfl := hw'.symm
              clear hw' HB2
              have hrange := hrun.range ha hcut hk
              have hcut2 := hrun.cut ha hcut hk
              have HM2 := Lib.hid (mid_snoc (S := S) ha hrun hcut)
              have hjm := hrun.1
              have hjt := hrun.2.1
              have HA := Lib.hid (tradd_any HT'.out k m j r' c hr' (by omega) (by omega) (by rw [hd']; omega) (by omega))
              rw [hd'] at HA
              have HC2 := Lib.hid hcut2
              have HR2 := Lib.hid hrange
              clear hrange hcut2 hk
              go_wp2_with fail
              refine HA.out.mono ?_
              rintro e w3 ⟨rfl, hT3, hb3, hG3⟩
              have HB3 := Lib.hid hb3
              have HG3 := Lib.hid hG3
              have HT3 := Lib.hid hT3
              have hQ3 := HQ'.out.groups hG3
              have hbs3 : w0.heap.size ≤ w3.heap.size := (HO'.out.trans hb3).size
              have hX3 := (hG3 X _ HX'.out).trans HX'.out
              have HX3 := Lib.hid hX3
              have hXl3 := heap_lt hX3
              clear HA hb3 hG3 hT3 hX3
              go_wp2_with (at_builtin; refine wpList_append_q _ rfl _ _ 82 rfl w0.heap.size 81 i1 (.agg #[.int .i64 0, .int .i64 0, .int .i64 0]) 3 24 Try.underlying82 hi1 hy0 hy1 hy2 rfl (by decide) _ _ _ rfl (hQ3.alloc _) ⟨w3.heap.size, 0, none⟩ 1 1 [.int .i64 (R'.length : Int), .int .i64 (m : Int), .int .i64 (j : Int)] rfl rfl (new_gr (heap_alloc_new _ _)) gr_one (by decide) (by unfold maxLen; omega) (by omega) (by simp; omega) ?_)
              intro v' w4 hown4 hgrow4 hat4
              have M' : Hid (Mid us S q k w0 b X p j v' w4) := Lib.hid (by
                have hT4 := HT3.out.below ((Below.refl _ _).alloc (Nat.le_refl _) (.cells #[.int .i64 (R'.length : Int), .int .i64 (m : Int), .int .i64 (j : Int)] 81))
                have hq4 := hQ3.alloc (.cells #[.int .i64 (R'.length : Int), .int .i64 (m : Int), .int .i64 (j : Int)] 81)
                have hT5 := hT4.grown hq4 hgrow4
                refine ⟨⟨_, hT5, ?_⟩, ?_, ?_, ?_, ?_, HL'.out⟩
                · rw [HM2.out]
                  have := HR'.out.snoc (by have := mid_length us S q m; omega) HS'.out (c := c)
                  rw [HR2.out.1] at this
                  exact this
                · rw [HM2.out, List.drop_append_of_le_length (by have := mid_length us S q m; omega), gr_snoc, grCells_snoc, List.length_append, List.length_drop, HR2.out.1, HR2.out.2]
                  have e1 : (midS us S q m).length + [q ++ [c]].length - (k + 1) = (midS us S q m).length - (k + 1) + 1 := by have := mid_length us S q m; simp; omega
                  have e2 : k + 1 + ((midS us S q m).length - (k + 1)) = R'.length := by have := mid_length us S q m; rw [HR'.out.1]; omega
                  rw [e1, e2]
                  exact hown4
                · rw [hgrow4.block X (by simp; omega) (fun ee => HA'.out ee.symm), Lib.alloc_old _ _ X hXl3]
                  exact HX3.out
                · rcases hat4 with h4 | h4
                  · rw [h4]; exact HA'.out
                  · rw [h4]
                    simp only [World.size_alloc, ne_eq, Option.some.injEq]
                    omega
                · refine ((HO'.out.trans HB3.out).alloc hbs3 _).trans ⟨hgrow4.os, hgrow4.tape, hgrow4.output, hgrow4.size, fun i hi => hgrow4.block i (by simp; omega) (fun ee => by have := (hq4.lt i ee.symm).1; omega)⟩)
              obtain ⟨g4, o4, c4, rfl, _⟩ := hown4.form
              clear hown4 hgrow4 hat4 hQ3 HT3 HX3 HB3 HG3
              go_wp2
              exact ⟨⟨j, rfl, HC2.out, M'⟩, by simp [RowKit.intOf]; omega⟩
          · obtain ⟨j', hje⟩ : ∃ j', j' = toL us q := ⟨_, rfl⟩
            obtain rfl : j = toL us q := by have := hrun.2.1; omega
            have hk : ∀ t, toL us q < toL us q → us[toL us q]? = some t → ¬ q ++ [c] <+: t := fun t h => absurd h hj
            clear hje hj
            have hrange := hrun.range ha hcut hk
            have hcut2 := hrun.cut ha hcut hk
            have HM2 := Lib.hid (mid_snoc (S := S) ha hrun hcut)
            have hjm := hrun.1
            have hjt := hrun.2.1
            have HA := Lib.hid (tradd_any HT'.out k m (toL us q) r' c hr' (by omega) (by omega) (by rw [hd']; omega) (by omega))
            rw [hd'] at HA
            have HC2 := Lib.hid hcut2
            have HR2 := Lib.hid hrange
            clear hrange hcut2 hk
            go_wp2_with fail
            refine HA.out.mono ?_
            rintro e w3 ⟨rfl, hT3, hb3, hG3⟩
            have HB3 := Lib.hid hb3
            have HG3 := Lib.hid hG3
            have HT3 := Lib.hid hT3
            have hQ3 := HQ'.out.groups hG3
            have hbs3 : w0.heap.size ≤ w3.heap.size := (HO'.out.trans hb3).size
            have hX3 := (hG3 X _ HX'.out).trans HX'.out
            have HX3 := Lib.hid hX3
            have hXl3 := heap_lt hX3
            clear HA hb3 hG3 hT3 hX3
            go_wp2_with (at_builtin; refine wpList_append_q _ rfl _ _ 82 rfl w0.heap.size 81 i1 (.agg #[.int .i64 0, .int .i64 0, .int .i64 0]) 3 24 Try.underlying82 hi1 hy0 hy1 hy2 rfl (by decide) _ _ _ rfl (hQ3.alloc _) ⟨w3.heap.size, 0, none⟩ 1 1 [.int .i64 (R'.length : Int), .int .i64 (m : Int), .int .i64 (toL us q : Int)] rfl rfl (new_gr (heap_alloc_new _ _)) gr_one (by decide) (by unfold maxLen; omega) (by omega) (by simp; omega) ?_)
            intro v' w4 hown4 hgrow4 hat4
            have M' : Hid (Mid us S q k w0 b X p (toL us q) v' w4) := Lib.hid (by
              have hT4 := HT3.out.below ((Below.refl _ _).alloc (Nat.le_refl _) (.cells #[.int .i64 (R'.length : Int), .int .i64 (m : Int), .int .i64 (toL us q : Int)] 81))
              have hq4 := hQ3.alloc (.cells #[.int .i64 (R'.length : Int), .int .i64 (m : Int), .int .i64 (toL us q : Int)] 81)
              have hT5 := hT4.grown hq4 hgrow4
              refine ⟨⟨_, hT5, ?_⟩, ?_, ?_, ?_, ?_, HL'.out⟩
              · rw [HM2.out]
                have := HR'.out.snoc (by have := mid_length us S q m; omega) HS'.out (c := c)
                rw [HR2.out.1] at this
                exact this
              · rw [HM2.out, List.drop_append_of_le_length (by have := mid_length us S q m; omega), gr_snoc, grCells_snoc, List.length_append, List.length_drop, HR2.out.1, HR2.out.2]
                have e1 : (midS us S q m).length + [q ++ [c]].length - (k + 1) = (midS us S q m).length - (k + 1) + 1 := by have := mid_length us S q m; simp; omega
                have e2 : k + 1 + ((midS us S q m).length - (k + 1)) = R'.length := by have := mid_length us S q m; rw [HR'.out.1]; omega
                rw [e1, e2]
                exact hown4
              · rw [hgrow4.block X (by simp; omega) (fun ee => HA'.out ee.symm), Lib.alloc_old _ _ X hXl3]
                exact HX3.out
              · rcases hat4 with h4 | h4
                · rw [h4]; exact HA'.out
                · rw [h4]
                  simp only [World.size_alloc, ne_eq, Option.some.injEq]
                  omega
              · refine ((HO'.out.trans HB3.out).alloc hbs3 _).trans ⟨hgrow4.os, hgrow4.tape, hgrow4.output, hgrow4.size, fun i hi => hgrow4.block i (by simp; omega) (fun ee => by have := (hq4.lt i ee.symm).1; omega)⟩)
            obtain ⟨g4, o4, c4, rfl, _⟩ := hown4.form
            clear hown4 hgrow4 hat4 hQ3 HT3 HX3 HB3 HG3
            go_wp2
            exact ⟨⟨toL us q, rfl, HC2.out, M'⟩, by simp [RowKit.intOf]; omega⟩
      · have hme : m = toL us q := by have := hcut.2.1; omega
        have HE : Hid (RetGr us S q k w0 b p (.returned (.slice (some ⟨gq, oq, none⟩) ((midS us S q m).length - (k + 1)) cq)) wr) := Lib.hid ⟨_, rfl, ⟨R', HT'.out, by rw [← mid_end ha, ← hme]; exact HR'.out⟩, by rw [← mid_end ha, ← hme]; exact HQ'.out, HO'.out⟩
        have g1 : ¬ (m : Int) < (toL us q : Int) := by omega
        clear HT' HR' HQ' HX' HA' HO' HL' HS' hme
        go_wp2
        go_ret
        exact HE.out
end Go.Proofs.Ytkaldfcpcimacaa
