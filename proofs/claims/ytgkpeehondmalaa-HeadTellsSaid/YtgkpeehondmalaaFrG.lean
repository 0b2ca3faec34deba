/-
  Slices of frames in memory: two cells a frame. No program here.
-/
import Derived.Test.YtgkpeehondmalaaFrM
import Derived.Below
import Derived.Laws.AppendOwn
set_option linter.unusedSimpArgs false
set_option linter.unusedVariables false
namespace Go.Proofs.Ytgkpeehondmalaa
open Go.RowKit

/-- A slice that holds these frames. -/
def IsFrames (w : World) (a : Option Addr) (len : Nat) (fs : List Fr) : Prop :=
  fs.length = len ∧ (len = 0 ∨ ∃ b off, a = some ⟨b, off, none⟩ ∧ ∀ i (h : i < fs.length), w.cell? ⟨b, off + i * 2, none⟩ = some (.int .i64 (fs[i]'h).1) ∧ w.cell? ⟨b, off + i * 2 + 1, none⟩ = some (.string (fs[i]'h).2))

theorem IsFrames.below {w w' : World} {a : Option Addr} {len : Nat} {fs : List Fr} (h : IsFrames w a len fs) (hb : Below w.heap.size w w') : IsFrames w' a len fs := by
  obtain ⟨hl, h⟩ := h
  refine ⟨hl, ?_⟩
  rcases h with h | ⟨b, off, ha, hc⟩
  · exact .inl h
  · refine .inr ⟨b, off, ha, fun i hi => ?_⟩
    obtain ⟨h1, h2⟩ := hc i hi
    rw [hb.cell (p := ⟨b, off + i * 2, none⟩) (World.block_lt_of_cell? w _ h1), hb.cell (p := ⟨b, off + i * 2 + 1, none⟩) (World.block_lt_of_cell? w _ h2)]
    exact ⟨h1, h2⟩

/-- One of them: where it lies. -/
theorem IsFrames.get {w : World} {a : Option Addr} {len : Nat} {fs : List Fr} (h : IsFrames w a len fs) (k : Nat) (hk : k < len) :
    ∃ b off, a = some ⟨b, off, none⟩ ∧ ∃ f, fs[k]? = some f ∧ w.cell? ⟨b, off + k * 2, none⟩ = some (.int .i64 f.1) ∧ w.cell? ⟨b, off + k * 2 + 1, none⟩ = some (.string f.2) := by
  obtain ⟨hl, h⟩ := h
  rcases h with h | ⟨b, off, ha, hc⟩
  · omega
  · have hkl : k < fs.length := by omega
    obtain ⟨h1, h2⟩ := hc k hkl
    exact ⟨b, off, ha, fs[k], List.getElem?_eq_getElem hkl, h1, h2⟩

/-- The cells of frames. -/
def frCells (fs : List Fr) : List Value := fs.flatMap fun f => [.int .i64 f.1, .string f.2]

theorem frCells_snoc (fs : List Fr) (f : Fr) : frCells (fs ++ [f]) = frCells fs ++ [.int .i64 f.1, .string f.2] := by simp [frCells]

theorem frCells_at : ∀ (fs : List Fr) (i : Nat) (h : i < fs.length), (frCells fs)[i * 2]? = some (.int .i64 (fs[i]'h).1) ∧ (frCells fs)[i * 2 + 1]? = some (.string (fs[i]'h).2)
  | f :: r, 0, _ => by simp [frCells]
  | f :: r, i + 1, h => by
    have ih := frCells_at r i (by simpa using h)
    have e : frCells (f :: r) = .int .i64 f.1 :: .string f.2 :: frCells r := by simp [frCells]
    rw [e, show (i + 1) * 2 = i * 2 + 1 + 1 by omega]
    simpa using ih

theorem owns_frames {w : World} {base : Nat} {e : TypeId} {v : Value} {n : Nat} {fs : List Fr} (h : w.ownsRow base e 2 v n (frCells fs)) (hn : fs.length = n) :
    ∃ ao cap, v = .slice ao n cap ∧ IsFrames w ao n fs := by
  rcases h.2 with ⟨hv, h0⟩ | ⟨g, cap, cur, hv, _⟩
  · have h0' : n = 0 := h0
    subst h0'
    exact ⟨none, 0, hv, hn, .inl rfl⟩
  · refine ⟨some ⟨g, 0, none⟩, cap, hv, hn, .inr ⟨g, 0, rfl, fun i hi => ?_⟩⟩
    have hc := h.cells (g := g) (by rw [hv]; rfl)
    obtain ⟨h1, h2⟩ := frCells_at fs i hi
    have c1 := hc _ _ h1
    have c2 := hc _ _ h2
    rw [addPlain] at c1 c2
    simpa using And.intro c1 c2

theorem owns_below {w w' : World} {base : Nat} {e : TypeId} {size : Nat} {v : Value} {n : Nat} {xs : List Value} (h : w.ownsRow base e size v n xs) (hb : Below w.heap.size w w') : w'.ownsRow base e size v n xs :=
  h.kept (row := none) ⟨hb.os, hb.tape, hb.output, hb.size, fun k hk _ => hb.block k hk⟩ (Classical.em _)

/-- A frame's two cells, in a block of their own. -/
theorem pair_news {w : World} {X : Nat} {T : TypeId} {u v : Value} (h : w.heap[X]? = some (.cells #[u, v] T (0, 0))) : ∀ j x, [u, v][j]? = some x → w.cell? ((⟨X, 0, none⟩ : Addr).add j) = some x := by
  intro j x hj
  match j, hj with
  | 0, hj => simp at hj; subst hj; simp [Addr.add, World.cell?, h]
  | 1, hj => simp at hj; subst hj; simp [Addr.add, World.cell?, h]
theorem pair_one {k : Int} {d : ByteArray} : ∀ x ∈ [Value.int .i64 k, .string d], x.oneCell' = true := by
  intro x hx
  simp at hx
  rcases hx with rfl | rfl <;> rfl
end Go.Proofs.Ytgkpeehondmalaa
