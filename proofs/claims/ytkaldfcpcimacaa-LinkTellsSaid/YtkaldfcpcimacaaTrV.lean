/-
  A trie that is made: what is laid behind a state's own pieces. No walk here.
-/
import Derived.Test.YtkaldfcpcimacaaTrN
import Derived.Test.YtkaldfcpcimacaaOwnQ
import Derived.Lib.QuietBelow
set_option linter.unusedSimpArgs false
set_option linter.unusedVariables false
namespace Go.Proofs.Ytkaldfcpcimacaa
open Go.RowKit
open Go.Sort (grow)

/-- The cells of groups. -/
def grCells (l : List (Nat × Nat × Nat)) : List Value := l.flatMap fun g => [.int .i64 (g.1 : Int), .int .i64 (g.2.1 : Int), .int .i64 (g.2.2 : Int)]
theorem grCells_snoc (l : List (Nat × Nat × Nat)) (g : Nat × Nat × Nat) : grCells (l ++ [g]) = grCells l ++ [.int .i64 (g.1 : Int), .int .i64 (g.2.1 : Int), .int .i64 (g.2.2 : Int)] := by simp [grCells]
theorem grCells_cons (g : Nat × Nat × Nat) (l : List (Nat × Nat × Nat)) : grCells (g :: l) = [.int .i64 (g.1 : Int), .int .i64 (g.2.1 : Int), .int .i64 (g.2.2 : Int)] ++ grCells l := by simp [grCells]
theorem gr_info : (Try.prog.info? 81).map (fun i => (i.zero, i.size, i.bytes)) = some (some (.agg #[.int .i64 0, .int .i64 0, .int .i64 0]), 3, 24) := by kernel_rfl
theorem gr_one {a b c : Int} : ∀ u ∈ [Value.int .i64 a, .int .i64 b, .int .i64 c], u.oneCell' = true := by
  intro u hu
  simp at hu
  rcases hu with rfl | rfl | rfl <;> rfl
theorem new_gr {w : World} {X : Nat} {T : TypeId} {a b c : Value} (h : w.heap[X]? = some (.cells #[a, b, c] T (0, 0))) : ∀ j x, [a, b, c][j]? = some x → w.cell? ((⟨X, 0, none⟩ : Addr).add j) = some x := by
  intro j x hj
  rw [addPlain, Nat.zero_add, Lib.cell_of_heap h, ← hj]
  simp

/-- A trie stays one where a row of groups grows. -/
theorem IsTr.grown {w w' : World} {base base' b n : Nat} {p : Option Addr} {R : List Rc} {v : Value} {xs : List Value} (h : IsTr w base b p R) (hq : OwnQ w base' 81 3 v n xs) (hg : w.grownBy w' v.ownBlock) : IsTr w' base b p R := by
  obtain ⟨g, cap, h1, h2, h3, h4⟩ := h
  obtain ⟨_, gq, off, capq, curq, rfl, _, hgq, _⟩ := hq
  refine ⟨g, cap, (hg.block b (heap_lt h1) fun e => ?_).trans h1, h2, h3.kept hg (.inr fun e => ?_), h4⟩
  · simp only [Value.ownBlock, Option.some.injEq] at e
    subst e; rw [hgq] at h1; simp at h1
  · obtain ⟨_, ⟨hx, _⟩ | ⟨g', cap', cur, hv, _, hh, r⟩⟩ := h3
    · cases hx
    · cases hv
      simp only [Value.ownBlock, Option.some.injEq] at e
      subst e; rw [hgq] at hh; simp at hh
/-- A queue stays where all groups are as they were. -/
theorem OwnQ.groups {w w' : World} {base n : Nat} {v : Value} {xs : List Value} (h : OwnQ w base 81 3 v n xs) (hg : Groups w w') : OwnQ w' base 81 3 v n xs := h.kept hg

/-- One of a trie's states with its first one below told. -/
theorem IsTr.put {w : World} {base b k g cap : Nat} {p : Option Addr} {R : List Rc} {r : Rc} {m : Nat} (hm : m ≤ 2147483647) (hr : R[k]? = some r)
    (h : w.heap[b]? = some (.cells #[.pointer p, .slice (some ⟨g, 0, none⟩) R.length cap] 72 (0, 0))) (hb : base ≤ b) (hown : w.ownsRow base 75 5 (.slice (some ⟨g, 0, none⟩) R.length cap) R.length (rcCells R)) (hf : ∀ r ∈ R, r.Fit) (hl : R.length ≤ 2147483647) :
    IsTr (w.setCell ⟨g, k * 5 + 2, none⟩ (.int .i32 (m : Int))) base b p (R.set k { r with below := m }) ∧ Groups w (w.setCell ⟨g, k * 5 + 2, none⟩ (.int .i32 (m : Int))) := by
  obtain ⟨hx, ⟨he, _⟩ | ⟨g', cap', cur, he, hbg, hg, hc, hmx, hs, ht⟩⟩ := hown
  · cases he
  · cases he
    have hbg' : b ≠ g := fun e => by subst e; rw [hg] at h; simp at h
    refine ⟨⟨g, cap, ?_, hb, ⟨?_, .inr ⟨g, cap, cur.setIfInBounds (k * 5 + 2) (.int .i32 (m : Int)), ?_, hbg, put_heap hg _, ?_, hmx, ?_, ?_⟩⟩, ?_, ?_⟩, ?_⟩
    · rw [List.length_set]; exact (put_other hbg' _).trans h
    · rw [rcCells_length]
    · rw [List.length_set]
    · rw [List.length_set]; exact hc
    · rw [Array.size_setIfInBounds]; exact hs
    · rw [List.length_set, Array.toList_setIfInBounds, List.take_set, ht, rc_set R k m hr]
    · intro x hxm
      rcases List.mem_or_eq_of_mem_set hxm with h1 | rfl
      · exact hf x h1
      · have := hf r (List.mem_of_getElem? hr)
        exact ⟨this.1, this.2.1, hm, this.2.2.2⟩
    · rw [List.length_set]; exact hl
    · intro i cs hi
      exact put_other (fun e => by subst e; rw [hg] at hi; simp at hi) _

theorem trregrown {f : FuncId} {args : Array Value} {v : Value} {w : World} (h : ∀ W, Below w.heap.size w W → Calls Try.prog f args W fun e w' => e = .returned v ∧ Below W.heap.size W w') (d : Nat) (os : Array Obj) :
    Calls Try.prog f args (grow (redrawn w d) os) fun e w'' => e = .returned v ∧ ∃ q : Regrown, w'' = grow (redrawn w q.d) q.os := Calls.regrown_of (h _ (below_regrown w d os))

/-- Is the first pattern it? -/
theorem endr_iff {us : List (List UInt8)} {q : List UInt8} {r : Rc} (ha : Asc us) (hq : q = [] ∨ begL us q = true) (h1 : r.first = frL us q) (h2 : r.depth = q.length) : EndR us r ↔ q ∈ us := by
  unfold EndR
  rw [h1, h2]
  by_cases h0 : us = []
  · subst h0
    simp
  · have hb : begL us q = true := by
      rcases hq with rfl | hq
      · cases us with
        | nil => exact absurd rfl h0
        | cons t r => exact beg_iff.2 ⟨t, List.mem_cons_self, List.nil_prefix⟩
      · exact hq
    have hr := range_pos ha hb
    have hl := to_le us q
    have hlt : frL us q < us.length := by omega
    have e1 : us[frL us q]? = some us[frL us q] := List.getElem?_eq_getElem hlt
    have hp := (in_iff ha e1).2 ⟨Nat.le_refl _, hr⟩
    have hg : us.getD (frL us q) [] = us[frL us q] := by rw [List.getD_eq_getElem?_getD, e1]; rfl
    rw [hg]
    exact ⟨fun h => (first_is ha e1 hp).1 h.2, fun h => ⟨hlt, (first_is ha e1 hp).2 h⟩⟩
end Go.Proofs.Ytkaldfcpcimacaa
