/-
  Each: what one goes through: walked.
-/
import Derived.Test.YtnmehjgojedpnaaBuO
import Derived.RangeFuncNested
import Derived.RangeFuncBound
import Derived.RangeFuncCalls
import Derived.RangeFuncLeaves
import Derived.RangeFuncBox
import Derived.RangeFuncFrom
import Derived.Shelf.Abstract
import Derived.Shelf.RegionOpen
import Derived.WalkKit
import Derived.OwnWalkIn
import Derived.TacticsInMore
import Derived.LoopNIn
import Derived.LoopIn
import Derived.Maps.AppendAt
import Derived.Lib.Hide
set_option linter.unusedSimpArgs false
set_option linter.unusedVariables false
namespace Go.Proofs.Ytnmehjgojedpnaa
open Go.RowKit Go.Shelf

attribute [local go_sem] Oper.semAt_some

def eachFunc (b : Nat) : Value := .func (.func 27) #[] #[.pointer (some ⟨b, 0, none⟩), .pointer (some ⟨b + 1, 0, none⟩)]

/-- The two boxes that Each makes. -/
def eachWorld (p : Value) (c : Nat) (w : World) : World := (w.alloc (.cells #[p] 31)).alloc (.cells #[.int .u8 (c : Int)] 5)
theorem eachWorld_size (p : Value) (c : Nat) (w : World) : (eachWorld p c w).heap.size = w.heap.size + 2 := by simp [eachWorld]
theorem eachWorld_below (p : Value) (c : Nat) (w : World) : Below w.heap.size w (eachWorld p c w) := ((Below.refl _ w).alloc (Nat.le_refl _) _).alloc (by simp) _
theorem eachWorld_one (p : Value) (c : Nat) (w : World) : (eachWorld p c w).cell? ⟨w.heap.size, 0, none⟩ = some p := by
  unfold eachWorld
  rw [World.cell?_alloc_lt _ _ _ (by simp)]
  rw [Lib.cell_of_heap (heap_alloc_new w _)]
  rfl
theorem eachWorld_two (p : Value) (c : Nat) (w : World) : (eachWorld p c w).cell? ⟨w.heap.size + 1, 0, none⟩ = some (.int .u8 (c : Int)) := by
  unfold eachWorld
  have h := heap_alloc_new (w.alloc (.cells #[p] 31)) (.cells #[.int .u8 (c : Int)] 5)
  rw [show (w.alloc (.cells #[p] 31)).heap.size = w.heap.size + 1 by simp] at h
  rw [Lib.cell_of_heap h]
  rfl

theorem each_cells (b : Option Addr) : Value.cells (.pointer b) = #[.pointer b] := rfl

set_option maxHeartbeats 1000000 in
theorem each_any (b : Option Addr) (c : Nat) (w : World) : Calls Try.prog 19 #[.pointer b, .int .u8 (c : Int)] w fun e w' => e = .returned (eachFunc w.heap.size) ∧ w' = eachWorld (.pointer b) c w := by
  go_enter Try.func19, Try.ntmps19
  go_wp2
  go_ret
  exact ⟨rfl, rfl⟩

def encE (x : Int) : Array Value := #[.int .i64 x]

set_option maxRecDepth 100000 in
set_option maxHeartbeats 2000000 in
theorem each_stops (n : Nat) (hn : 2 ≤ n) (B : Nat) (p : Value) (I : Nat → List Int) (L : Nat → Nat) (c : Nat) (hc : c < 256) (w0 w : World) (hb0 : Below w0.heap.size w0 w) (hl : (I c).length ≤ 1000000)
    (hB : B + 1 < w.heap.size) (h1 : w.cell? ⟨B, 0, none⟩ = some p) (h2 : w.cell? ⟨B + 1, 0, none⟩ = some (.int .u8 (c : Int))) (h : HasBks w0 p I L) :
    SeqStopsK Fence.wide n Try.prog 27 #[.pointer (some ⟨B, 0, none⟩), .pointer (some ⟨B + 1, 0, none⟩)] encE (Below w0.heap.size) (fun ys => ys = I c) (fun pre => pre <+: I c) (I c).length w := by
  intro l J Jx W hW hJ hJx hY h0
  obtain ⟨a, cap, hown, hC⟩ := buof_at h c hc
  have hbW := hb0.trans (hW.mono hb0.size)
  have HC := Lib.hid (hC W hbW)
  obtain ⟨ao, cap', hv, hrow⟩ := row_of_ints hown (by unfold maxLen; omega)
  cases hv
  have HR := Lib.hid hrow
  have e1 : W.cell? ⟨B, 0, none⟩ = some p := (hW.cell (p := ⟨B, 0, none⟩) (by simp; omega)).trans h1
  have e2 : W.cell? ⟨B + 1, 0, none⟩ = some (.int .u8 (c : Int)) := (hW.cell (p := ⟨B + 1, 0, none⟩) (by simp; omega)).trans h2
  have hJ0 : ∀ o, J [] (W.alloc o) := fun o => hJ [] W (W.alloc o) none h0 (World.grownBy_alloc W o none) (fun r e => by cases e)
  clear hC hown hrow h h1 h2
  generalize I c = ids at *
  generalize L c = m at *
  refine callsIn_of_wp Try.func27 rfl trivial ?_ rfl
  simp only [Try.ntmps27, List.size_toArray, List.length_cons, List.length_nil, Nat.reduceAdd, Nat.reduceSub, Array.replicate_succ, Array.replicate_zero, List.push_toArray, List.append_toArray, List.nil_append, List.cons_append]
  have hfi := bufield_ids
  have hn1 : 1 ≤ n := by omega
  gi_wp2_with fail
  refine ⟨trivial, ?_⟩
  refine (callsIn_wide.2 HC.out).mono ?_
  rintro e w' ⟨rfl, rfl⟩
  gi_wp2
  gi_loopw [5, 11] (fun v i wr => ∃ k : Nat, k ≤ ids.length ∧ i = .int .i64 k ∧ Hid (J (ids.take k) wr) ∧ Below w0.heap.size w0 wr) (fun _ i _ => ids.length - (intOf i).toNat)
  case atStart => exact ⟨0, Nat.zero_le _, rfl, Lib.hid (hJ0 _), hbW.trans (((Below.refl _ W).alloc (Nat.le_refl _) _).mono hbW.size)⟩
  case round =>
    obtain ⟨k, hk, rfl, HJ, hbe⟩ := hrel
    by_cases hlt : k < ids.length
    · obtain h0' | ⟨b, off, rfl, _, _, _, hci⟩ := HR.out.below hbe
      · omega
      have hc2 := hci k hlt
      obtain ⟨x, hx⟩ : ∃ x, ids.getD k 0 = x := ⟨_, rfl⟩
      rw [hx] at hc2
      have HT : Hid (ids.take k ++ [x] = ids.take (k + 1)) := Lib.hid (by rw [← hx, take_snoc ids k hlt])
      obtain ⟨fn, tmps, assign, body, hy, hR⟩ := hY _ x wr HJ.out (by rw [List.length_take]; omega)
      dsimp only [encE] at hy
      have g0 : (0 : Int) ≤ (k : Int) := by omega
      have g1 : (k : Int) < (ids.length : Int) := by omega
      clear hci hx HJ
      gi_wp2
      refine hR.mono ?_
      rintro e W3 (⟨rfl, hJ3, hk3⟩ | ⟨rfl, hJx3⟩)
      · rw [HT.out] at hJ3
        have HJ3 := Lib.hid hJ3
        have hb3 := hbe.trans hk3
        clear hJ3 hk3 hR hy
        gi_wp2
        go_roundw
        case rel => exact ⟨k + 1, by omega, by go_num, HJ3, hb3⟩
        case measure => simp [intOf]; omega
      · rw [HT.out] at hJx3
        gi_wp2
        refine bodyPost_ret (results_none rfl _ _ _) rfl ?_
        exact ⟨⟨_, rfl⟩, .inr ⟨_, List.take_prefix _ _, hJx3⟩⟩
    · obtain rfl : k = ids.length := by omega
      have hJe := HJ.out
      rw [List.take_length] at hJe
      gi_wp2
      go_end0
      exact ⟨⟨_, rfl⟩, .inl ⟨_, rfl, hJe⟩⟩

set_option maxRecDepth 100000 in
set_option maxHeartbeats 2000000 in
theorem buofs_any {w : World} {b : Option Addr} {I : Nat → List Int} {L : Nat → Nat} (h : HasBks w (.pointer b) I L) (c : Nat) (hc : c < 256) (hl : (I c).length ≤ 1000000) :
    Calls Try.prog 11 #[.pointer b, .int .u8 (c : Int)] w (RetN (I c) w) := by
  obtain ⟨i0, hi, hz0, hz1, hz2⟩ := info_parts int_info
  refine callsIn_wide (n := 4) |>.1 ?_
  refine callsIn_of_wp_marks Try.func11 rfl trivial ?_ rfl
  simp only [Try.ntmps11, List.size_toArray, List.length_cons, List.length_nil, Nat.reduceAdd, Nat.reduceSub, Array.replicate_succ, Array.replicate_zero, List.push_toArray, List.append_toArray, List.nil_append, List.cons_append]
  have bO := Boxed.new w 34 (.slice none 0 0)
  have hB0 : Below w.heap.size w (w.alloc (.cells #[.slice none 0 0] 34)) := (Below.refl _ w).alloc (Nat.le_refl _) _
  gi_wp2_with fail
  refine ⟨trivial, ?_⟩
  refine (callsIn_wide.2 (each_any b c _)).mono ?_
  rintro e w' ⟨rfl, rfl⟩
  have hE := (eachWorld_below (.pointer b) c (w.alloc (.cells #[.slice none 0 0] 34)))
  have hB1 := hB0.trans (hE.mono hB0.size)
  have hz := eachWorld_size (.pointer b) c (w.alloc (.cells #[.slice none 0 0] 34))
  have hz1' : (w.alloc (.cells #[.slice none 0 0] 34)).heap.size = w.heap.size + 1 := by simp
  rw [hz1'] at hz
  have c1 := eachWorld_one (.pointer b) c (w.alloc (.cells #[.slice none 0 0] 34))
  have c2 := eachWorld_two (.pointer b) c (w.alloc (.cells #[.slice none 0 0] 34))
  rw [hz1'] at c1 c2
  have bO2 : Boxed (eachWorld (.pointer b) c (w.alloc (.cells #[.slice none 0 0] 34))) w.heap.size 34 (.slice none 0 0) := (bO.alloc _).alloc _
  have HM := Lib.hid (each_stops 3 (by omega) (w.heap.size + 1) (.pointer b) I L c hc w _ hB1 hl (by omega) c1 c2 h)
  gi_wp2
  generalize eachWorld (.pointer b) c (w.alloc (.cells #[.slice none 0 0] 34)) = W0 at *
  refine wpIn_rangeFunc_ownF (F := Fence.wide) (n := 4) rfl (by omega) (gf := 27) (lb := #[.pointer (some ⟨w.heap.size + 1, 0, none⟩), .pointer (some ⟨w.heap.size + 1 + 1, 0, none⟩)]) rfl trivial (enters_of Try.func27 (by kernel_rfl) rfl)
    HM.out belowK_t (belowK_b (by omega)) (Below.refl _ _) (fun _ => rfl)
    (fun pre W => (∃ v, Boxed W w.heap.size 34 v ∧ W.ownsRow w.heap.size 3 1 v pre.length (inCells pre) ∧ True) ∧ Below w.heap.size w W)
    (fun _ _ _ => False)
    (OwnFrom.and (Own.from (holdsRow_own w.heap.size w.heap.size 34 3 1 (fun pre : List Int => pre.length) (fun pre => inCells pre) (fun _ _ => True)) _) (ownFrom_below (Nat.le_refl _) (by omega)))
    (fun _ _ _ _ _ hs _ _ => hs)
    ⟨⟨_, bO2, World.ownsRow_nil _ _ _ _, trivial⟩, hB1⟩
    (fun x => { tmps := #[.pointer b, .int .u8 (c : Int), undef, undef, .slice none 0 0, .pointer (some ⟨w.heap.size, 0, none⟩), .int .i64 x, .pointer b, .int .u8 (c : Int), eachFunc (w.heap.size + 1), .int .i64 x, undef, undef, undef, undef, undef], defers := [] }) ?assign ?body ?done ?stop
  case assign =>
    intro l x W K hK
    dsimp only [encE]
    gi_wp2
    exact hK
  case body =>
    rintro l pre x W ⟨⟨v, hv, hrow, _⟩, hB⟩ hlt
    have hc := hv.cell
    gi_wp2_with (gi_at_builtin; refine wpListIn_append_own _ rfl _ _ 34 rfl w.heap.size 3 i0 (.int .i64 0) 1 8 Try.underlying34 hi hz0 hz1 hz2 rfl (by decide) _ _ _ rfl (hrow.alloc _) ⟨W.heap.size, 0, none⟩ 1 1 [.int .i64 x] rfl rfl (cell_one_new _ _ _) (by simp [Value.oneCell']) (by unfold maxLen; omega) (by omega) (by have := hB.size; simp; omega) ?_; intro v' w1 hown' hgrow _; obtain ⟨g', cap', rfl⟩ := ownsRow_succ hown'; obtain ⟨hv1, hv2, hr2, hk2, hb2⟩ := hv.appended (by decide) hrow hB.size (Nat.le_refl _) hown' hgrow; have hc1 := hv1.cell; have hf1 := hv1.frozen)
    exact ⟨hk2, hb2, ⟨_, hv2, by rw [inCells_snoc, List.length_append]; exact hr2, trivial⟩, hB.trans hb2⟩
  case done =>
    rintro D ys W hD rfl ⟨⟨v, hv, hrow, _⟩, hB⟩ hK
    have hc := hv.cell
    gi_wp2
    refine ⟨by simp, .inl ⟨_, _, rfl, run_takeDeferred hK, ?_⟩⟩
    exact ⟨_, results_tmp rfl _ _ _, v, rfl, ownsRow_putObj hrow _ hK rfl, hB.trans (belowK_b (w := w) (Nat.le_refl _) W D _ _ (by omega) hK rfl rfl)⟩
  case stop =>
    rintro D c pre W _ _ h _
    exact h.elim
end Go.Proofs.Ytnmehjgojedpnaa
