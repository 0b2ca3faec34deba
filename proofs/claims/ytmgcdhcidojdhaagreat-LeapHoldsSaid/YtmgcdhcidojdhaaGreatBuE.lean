/-
  Each: what one goes through: walked.
-/
import Derived.Test.YtmgcdhcidojdhaaGreatBn5
import Derived.RangeFuncNested
import Derived.RangeFuncBound
import Derived.RangeFuncCalls
import Derived.RangeFuncLeaves
import Derived.RangeFuncBox
import Derived.RangeFuncFrom
import Derived.Shelf.Abstract
import Derived.Shelf.RegionOpen
import Derived.WalkKit
import Derived.OwnWalkIn
import Derived.TacticsInMore
import Derived.LoopNIn
import Derived.LoopIn
import Derived.Maps.AppendAt
import Derived.Lib.Hide
set_option linter.unusedSimpArgs false
set_option linter.unusedVariables false
namespace Go.Proofs.YtmgcdhcidojdhaaGreat
open Go.RowKit Go.Shelf

attribute [local go_sem] Oper.semAt_some

def eachFunc (b : Nat) : Value := .func (.func 109) #[] #[.pointer (some ⟨b, 0, none⟩), .pointer (some ⟨b + 1, 0, none⟩)]

/-- The two boxes that Each makes. -/
def eachWorld (p : Value) (c : Nat) (w : World) : World := (w.alloc (.cells #[p] 99)).alloc (.cells #[.int .u8 (c : Int)] 5)
theorem eachWorld_size (p : Value) (c : Nat) (w : World) : (eachWorld p c w).heap.size = w.heap.size + 2 := by simp [eachWorld]
theorem eachWorld_below (p : Value) (c : Nat) (w : World) : Below w.heap.size w (eachWorld p c w) := ((Below.refl _ w).alloc (Nat.le_refl _) _).alloc (by simp) _
theorem eachWorld_one (p : Value) (c : Nat) (w : World) : (eachWorld p c w).cell? ⟨w.heap.size, 0, none⟩ = some p := by
  unfold eachWorld
  rw [World.cell?_alloc_lt _ _ _ (by simp)]
  rw [Lib.cell_of_heap (heap_alloc_new w _)]
  rfl
theorem eachWorld_two (p : Value) (c : Nat) (w : World) : (eachWorld p c w).cell? ⟨w.heap.size + 1, 0, none⟩ = some (.int .u8 (c : Int)) := by
  unfold eachWorld
  have h := heap_alloc_new (w.alloc (.cells #[p] 99)) (.cells #[.int .u8 (c : Int)] 5)
  rw [show (w.alloc (.cells #[p] 99)).heap.size = w.heap.size + 1 by simp] at h
  rw [Lib.cell_of_heap h]
  rfl

theorem each_cells (b : Option Addr) : Value.cells (.pointer b) = #[.pointer b] := rfl

set_option maxHeartbeats 1000000 in
theorem each_any (b : Option Addr) (c : Nat) (w : World) : Calls Tryz.prog 99 #[.pointer b, .int .u8 (c : Int)] w fun e w' => e = .returned (eachFunc w.heap.size) ∧ w' = eachWorld (.pointer b) c w := by
  go_enter Tryz.func99, Tryz.ntmps99
  go_wp2
  go_ret
  exact ⟨rfl, rfl⟩

def encE (x : Int) : Array Value := #[.int .i64 x]

set_option maxRecDepth 100000 in
set_option maxHeartbeats 2000000 in
theorem each_stops (n : Nat) (hn : 2 ≤ n) (B : Nat) (p : Value) (I : Nat → List Int) (L : Nat → Nat) (c : Nat) (hc : c < 256) (w0 w : World) (hb0 : Below w0.heap.size w0 w) (hl : (I c).length ≤ 1000000)
    (hB : B + 1 < w.heap.size) (h1 : w.cell? ⟨B, 0, none⟩ = some p) (h2 : w.cell? ⟨B + 1, 0, none⟩ = some (.int .u8 (c : Int))) (h : HasBks w0 p I L) :
    SeqStopsK Fence.wide n Tryz.prog 109 #[.pointer (some ⟨B, 0, none⟩), .pointer (some ⟨B + 1, 0, none⟩)] encE (Below w0.heap.size) (fun ys => ys = I c) (fun pre => pre <+: I c) (I c).length w := by
  intro l J Jx W hW hJ hJx hY h0
  obtain ⟨a, cap, hown, hC⟩ := buof_at h c hc
  have hbW := hb0.trans (hW.mono hb0.size)
  have HC := Lib.hid (hC W hbW)
  obtain ⟨ao, cap', hv, hrow⟩ := row_of_ints hown (by unfold maxLen; omega)
  cases hv
  have HR := Lib.hid hrow
  have e1 : W.cell? ⟨B, 0, none⟩ = some p := (hW.cell (p := ⟨B, 0, none⟩) (by simp; omega)).trans h1
  have e2 : W.cell? ⟨B + 1, 0, none⟩ = some (.int .u8 (c : Int)) := (hW.cell (p := ⟨B + 1, 0, none⟩) (by simp; omega)).trans h2
  have hJ0 : ∀ o, J [] (W.alloc o) := fun o => hJ [] W (W.alloc o) none h0 (World.grownBy_alloc W o none) (fun r e => by cases e)
  clear hC hown hrow h h1 h2
  generalize I c = ids at *
  generalize L c = m at *
  refine callsIn_of_wp Tryz.func109 rfl trivial ?_ rfl
  simp only [Tryz.ntmps109, List.size_toArray, List.length_cons, List.length_nil, Nat.reduceAdd, Nat.reduceSub, Array.replicate_succ, Array.replicate_zero, List.push_toArray, List.append_toArray, List.nil_append, List.cons_append]
  have hfi := bufield_ids
  have hn1 : 1 ≤ n := by omega
  gi_wp2_with fail
  refine ⟨trivial, ?_⟩
  refine (callsIn_wide.2 HC.out).mono ?_
  rintro e w' ⟨rfl, rfl⟩
  gi_wp2
  gi_loopw [5, 11] (fun v i wr => ∃ k : Nat, k ≤ ids.length ∧ i = .int .i64 k ∧ Hid (J (ids.take k) wr) ∧ Below w0.heap.size w0 wr) (fun _ i _ => ids.length - (intOf i).toNat)
  case atStart => exact ⟨0, Nat.zero_le _, rfl, Lib.hid (hJ0 _), hbW.trans (((Below.refl _ W).alloc (Nat.le_refl _) _).mono hbW.size)⟩
  case round =>
    obtain ⟨k, hk, rfl, HJ, hbe⟩ := hrel
    by_cases hlt : k < ids.length
    · obtain h0' | ⟨b, off, rfl, _, _, _, hci⟩ := HR.out.below hbe
      · omega
      have hc2 := hci k hlt
      obtain ⟨x, hx⟩ : ∃ x, ids.getD k 0 = x := ⟨_, rfl⟩
      rw [hx] at hc2
      have HT : Hid (ids.take k ++ [x] = ids.take (k + 1)) := Lib.hid (by rw [← hx, take_snoc ids k hlt])
      obtain ⟨fn, tmps, assign, body, hy, hR⟩ := hY _ x wr HJ.out (by rw [List.length_take]; omega)
      dsimp only [encE] at hy
      have g0 : (0 : Int) ≤ (k : Int) := by omega
      have g1 : (k : Int) < (ids.length : Int) := by omega
      clear hci hx HJ
      gi_wp2
      refine hR.mono ?_
      rintro e W3 (⟨rfl, hJ3, hk3⟩ | ⟨rfl, hJx3⟩)
      · rw [HT.out] at hJ3
        have HJ3 := Lib.hid hJ3
        have hb3 := hbe.trans hk3
        clear hJ3 hk3 hR hy
        gi_wp2
        go_roundw
        case rel => exact ⟨k + 1, by omega, by go_num, HJ3, hb3⟩
        case measure => simp [intOf]; omega
      · rw [HT.out] at hJx3
        gi_wp2
        refine bodyPost_ret (results_none rfl _ _ _) rfl ?_
        exact ⟨⟨_, rfl⟩, .inr ⟨_, List.take_prefix _ _, hJx3⟩⟩
    · obtain rfl : k = ids.length := by omega
      have hJe := HJ.out
      rw [List.take_length] at hJe
      gi_wp2
      go_end0
      exact ⟨⟨_, rfl⟩, .inl ⟨_, rfl, hJe⟩⟩

end Go.Proofs.YtmgcdhcidojdhaaGreat
