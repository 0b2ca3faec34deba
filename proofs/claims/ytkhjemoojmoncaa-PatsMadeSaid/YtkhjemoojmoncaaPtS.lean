/-
  A set of patterns in memory; Len, Least, Most, Total, At, List: walked.
-/
import Derived.Test.YtkhjemoojmoncaaPtM
import Derived.Test.YtkhjemoojmoncaaAfS
set_option linter.unusedSimpArgs false
set_option linter.unusedVariables false
namespace Go.Proofs.Ytkhjemoojmoncaa
open Go.RowKit

/-- A set of these patterns lies in block b. -/
def IsSet (w : World) (b : Nat) (ws : List (List UInt8)) : Prop :=
  ∃ g cap, w.heap[b]? = some (.cells #[.slice (some ⟨g, 0, none⟩) ws.length cap, .int .i64 (leastL ws : Int), .int .i64 (mostL ws : Int), .int .i64 (totalL ws : Int)] 47 (0, 0)) ∧
    w.ownsRow 0 9 1 (.slice (some ⟨g, 0, none⟩) ws.length cap) ws.length (txCells ws)

theorem heap_lt {w : World} {b : Nat} {o : Obj} (h : w.heap[b]? = some o) : b < w.heap.size := (Array.getElem?_eq_some_iff.1 h).1

theorem IsSet.lt {w : World} {b : Nat} {ws : List (List UInt8)} (h : IsSet w b ws) : b < w.heap.size := by
  obtain ⟨g, cap, h1, _⟩ := h
  exact heap_lt h1
theorem IsSet.below {w w' : World} {b : Nat} {ws : List (List UInt8)} (h : IsSet w b ws) (hb : Below w.heap.size w w') : IsSet w' b ws := by
  obtain ⟨g, cap, h1, h2⟩ := h
  exact ⟨g, cap, (hb.block b (heap_lt h1)).trans h1, tx_below h2 hb⟩
theorem IsSet.drewN {w : World} {b : Nat} {ws : List (List UInt8)} (h : IsSet w b ws) (n : Nat) : IsSet (w.drewN n) b ws := h
theorem own_strs {w : World} {base : Nat} {g n cap : Nat} {ws : List (List UInt8)} (h : w.ownsRow base 9 1 (.slice (some ⟨g, 0, none⟩) n cap) n (txCells ws)) : IsStrs w (some ⟨g, 0, none⟩) n ws := by
  have e : ws.length = n := by have := h.1; rw [txCells, List.length_map] at this; omega
  refine ⟨e, .inr ⟨g, 0, rfl, fun i hi => ?_⟩⟩
  have hc := h.cells (g := g) rfl i (.string ⟨(ws[i]'hi).toArray⟩) (by simp [txCells, List.getElem?_eq_getElem hi])
  rwa [addPlain] at hc

/-- What is read of a set. -/
theorem IsSet.reads {w : World} {b : Nat} {ws : List (List UInt8)} (h : IsSet w b ws) : ∃ g cap, w.cell? ⟨b, 0, none⟩ = some (.slice (some ⟨g, 0, none⟩) ws.length cap) ∧ w.cell? ⟨b, 1, none⟩ = some (.int .i64 (leastL ws : Int)) ∧
    w.cell? ⟨b, 2, none⟩ = some (.int .i64 (mostL ws : Int)) ∧ w.cell? ⟨b, 3, none⟩ = some (.int .i64 (totalL ws : Int)) ∧ w.ownsRow 0 9 1 (.slice (some ⟨g, 0, none⟩) ws.length cap) ws.length (txCells ws) := by
  obtain ⟨g, cap, h1, h2⟩ := h
  refine ⟨g, cap, ?_, ?_, ?_, ?_, h2⟩ <;> rw [Lib.cell_of_heap h1] <;> rfl

theorem ptlen_nil (w : World) : Calls Try.prog 15 #[.pointer none] w fun e w' => e = .returned (.int .i64 0) ∧ w' = w := by
  go_enter Try.func15, Try.ntmps15
  go_wp2
  go_ret
  exact ⟨rfl, rfl⟩
theorem ptlen_any {w : World} {b : Nat} {ws : List (List UInt8)} (h : IsSet w b ws) : Calls Try.prog 15 #[.pointer (some ⟨b, 0, none⟩)] w fun e w' => e = .returned (.int .i64 (ws.length : Int)) ∧ w' = w := by
  obtain ⟨g, cap, c0, _⟩ := h.reads
  clear h
  go_enter Try.func15, Try.ntmps15
  go_wp2
  go_ret
  exact ⟨rfl, rfl⟩
theorem ptleast_nil (w : World) : Calls Try.prog 16 #[.pointer none] w fun e w' => e = .returned (.int .i64 0) ∧ w' = w := by
  go_enter Try.func16, Try.ntmps16
  go_wp2
  go_ret
  exact ⟨rfl, rfl⟩
theorem ptleast_any {w : World} {b : Nat} {ws : List (List UInt8)} (h : IsSet w b ws) : Calls Try.prog 16 #[.pointer (some ⟨b, 0, none⟩)] w fun e w' => e = .returned (.int .i64 (leastL ws : Int)) ∧ w' = w := by
  obtain ⟨g, cap, _, c1, _⟩ := h.reads
  clear h
  generalize leastL ws = n at c1 ⊢
  go_enter Try.func16, Try.ntmps16
  go_wp2
  go_ret
  exact ⟨rfl, rfl⟩
theorem ptmost_nil (w : World) : Calls Try.prog 18 #[.pointer none] w fun e w' => e = .returned (.int .i64 0) ∧ w' = w := by
  go_enter Try.func18, Try.ntmps18
  go_wp2
  go_ret
  exact ⟨rfl, rfl⟩
theorem ptmost_any {w : World} {b : Nat} {ws : List (List UInt8)} (h : IsSet w b ws) : Calls Try.prog 18 #[.pointer (some ⟨b, 0, none⟩)] w fun e w' => e = .returned (.int .i64 (mostL ws : Int)) ∧ w' = w := by
  obtain ⟨g, cap, _, _, c2, _⟩ := h.reads
  clear h
  generalize mostL ws = n at c2 ⊢
  go_enter Try.func18, Try.ntmps18
  go_wp2
  go_ret
  exact ⟨rfl, rfl⟩
theorem pttotal_nil (w : World) : Calls Try.prog 20 #[.pointer none] w fun e w' => e = .returned (.int .i64 0) ∧ w' = w := by
  go_enter Try.func20, Try.ntmps20
  go_wp2
  go_ret
  exact ⟨rfl, rfl⟩
theorem pttotal_any {w : World} {b : Nat} {ws : List (List UInt8)} (h : IsSet w b ws) : Calls Try.prog 20 #[.pointer (some ⟨b, 0, none⟩)] w fun e w' => e = .returned (.int .i64 (totalL ws : Int)) ∧ w' = w := by
  obtain ⟨g, cap, _, _, _, c3, _⟩ := h.reads
  clear h
  generalize totalL ws = n at c3 ⊢
  go_enter Try.func20, Try.ntmps20
  go_wp2
  go_ret
  exact ⟨rfl, rfl⟩

theorem ptat_nil (n : Int) (w : World) : Calls Try.prog 10 #[.pointer none, .int .i64 n] w fun e w' => e = .returned (.tuple #[.string ByteArray.empty, .bool false]) ∧ w' = w := by
  by_cases h : n < 0
  · go_enter Try.func10, Try.ntmps10
    go_wp2
    go_ret2
    exact ⟨rfl, rfl⟩
  · go_enter Try.func10, Try.ntmps10
    go_wp2_with fail
    refine (ptlen_nil w).mono ?_
    rintro e w' ⟨rfl, rfl⟩
    go_wp2
    go_ret2
    exact ⟨rfl, rfl⟩
theorem ptat_out {w : World} {b : Nat} {ws : List (List UInt8)} (h : IsSet w b ws) (n : Int) (hn : n < 0 ∨ (ws.length : Int) ≤ n) : Calls Try.prog 10 #[.pointer (some ⟨b, 0, none⟩), .int .i64 n] w fun e w' => e = .returned (.tuple #[.string ByteArray.empty, .bool false]) ∧ w' = w := by
  have HL := Lib.hid (ptlen_any h)
  clear h
  by_cases h0 : n < 0
  · clear hn
    go_enter Try.func10, Try.ntmps10
    go_wp2
    go_ret2
    exact ⟨rfl, rfl⟩
  · have h1 : (ws.length : Int) ≤ n := by omega
    clear hn
    go_enter Try.func10, Try.ntmps10
    go_wp2_with fail
    refine HL.out.mono ?_
    rintro e w' ⟨rfl, rfl⟩
    go_wp2
    go_ret2
    exact ⟨rfl, rfl⟩
theorem ptat_in {w : World} {b : Nat} {ws : List (List UInt8)} (h : IsSet w b ws) (k : Nat) (t : List UInt8) (ht : ws[k]? = some t) : Calls Try.prog 10 #[.pointer (some ⟨b, 0, none⟩), .int .i64 (k : Int)] w fun e w' => e = .returned (.tuple #[.string ⟨t.toArray⟩, .bool true]) ∧ w' = w := by
  have HL := Lib.hid (ptlen_any h)
  obtain ⟨g, cap, c0, _, _, _, hown⟩ := h.reads
  have hk := (List.getElem?_eq_some_iff.1 ht).1
  have hc := own_strs hown
  obtain ⟨b', off, e, t', ht', hcell⟩ := str_at hc (Below.refl _ _) k hk
  cases e
  obtain rfl : t' = t := Option.some.inj (ht'.symm.trans ht)
  rw [Nat.zero_add] at hcell
  have g0 : ¬ (k : Int) < 0 := by omega
  have g1 : (k : Int) < (ws.length : Int) := by omega
  have g2 : (0 : Int) ≤ (k : Int) := by omega
  clear h ht ht' hown hc
  go_enter Try.func10, Try.ntmps10
  go_wp2_with fail
  refine HL.out.mono ?_
  rintro e w' ⟨rfl, rfl⟩
  go_wp2
  go_ret2
  exact ⟨rfl, rfl⟩

theorem ptlist_nil (w : World) : Calls Try.prog 14 #[.pointer none] w fun e w' => e = .returned (.slice none 0 0) ∧ w' = w := by
  go_enter Try.func14, Try.ntmps14
  go_wp2
  go_ret
  exact ⟨rfl, rfl⟩
theorem ptlist_any {w : World} {b : Nat} {ws : List (List UInt8)} (h : IsSet w b ws) (hl : ws.length ≤ 1000000) : Calls Try.prog 14 #[.pointer (some ⟨b, 0, none⟩)] w (RetO ws w) := by
  obtain ⟨g, cap, c0, _, _, _, hown⟩ := h.reads
  have HC := Lib.hid (clone_own (some ⟨g, 0, none⟩) ws.length cap ws w hl (own_strs hown))
  clear h hown
  go_enter Try.func14, Try.ntmps14
  go_wp2_with fail
  refine HC.out.mono ?_
  rintro e w' ⟨v, rfl, hown, hb⟩
  have HO := Lib.hid hown
  clear hown HC
  go_wp2
  go_ret
  exact ⟨v, rfl, HO.out, hb⟩

/-- What Find tells. -/
def numP (s : List UInt8) (ws : List (List UInt8)) : Int := if s ∈ ws then (ahdS s ws : Int) else 0
theorem ptfind_nil (s : ByteArray) (w : World) : Calls Try.prog 11 #[.pointer none, .string s] w fun e w' => e = .returned (.tuple #[.int .i64 0, .bool false]) ∧ w' = w := by
  go_enter Try.func11, Try.ntmps11
  go_wp2
  go_ret2
  exact ⟨rfl, rfl⟩
theorem ptfind_any {w : World} {b : Nat} {ws : List (List UInt8)} (h : IsSet w b ws) (hl : ws.length ≤ 1000000) (ha : Asc ws) (s : List UInt8) :
    Calls Try.prog 11 #[.pointer (some ⟨b, 0, none⟩), .string ⟨s.toArray⟩] w fun e w' => e = .returned (.tuple #[.int .i64 (numP s ws), .bool (decide (s ∈ ws))]) ∧ Below w.heap.size w w' := by
  obtain ⟨g, cap, c0, _, _, _, hown⟩ := h.reads
  have HP := Lib.hid (place_any _ ws s w hl ha hown)
  by_cases hm : s ∈ ws
  · have e1 : numP s ws = (ahdS s ws : Int) := if_pos hm
    have e2 : decide (s ∈ ws) = true := decide_eq_true hm
    rw [e1, e2]
    rw [e2] at HP
    generalize ahdS s ws = n at HP ⊢
    clear h hown ha hm e1 e2
    go_enter Try.func11, Try.ntmps11
    go_wp2_with fail
    refine HP.out.mono ?_
    rintro e w' ⟨rfl, hb⟩
    go_wp2
    go_ret2
    exact ⟨rfl, hb⟩
  · have e1 : numP s ws = 0 := if_neg hm
    have e2 : decide (s ∈ ws) = false := decide_eq_false hm
    rw [e1, e2]
    rw [e2] at HP
    generalize ahdS s ws = n at HP
    clear h hown ha hm e1 e2
    go_enter Try.func11, Try.ntmps11
    go_wp2_with fail
    refine HP.out.mono ?_
    rintro e w' ⟨rfl, hb⟩
    go_wp2
    go_ret2
    exact ⟨rfl, hb⟩
end Go.Proofs.Ytkhjemoojmoncaa
