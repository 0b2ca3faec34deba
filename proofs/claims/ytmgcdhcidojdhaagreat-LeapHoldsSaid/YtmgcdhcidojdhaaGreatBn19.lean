/-
  Texts put together: OcG.
-/
import Derived.Test.YtmgcdhcidojdhaaGreatBn4
import Derived.Laws.StructEq
import Derived.Sort.Grow
set_option linter.unusedSimpArgs false
set_option linter.unusedVariables false
namespace Go.Proofs.YtmgcdhcidojdhaaGreat
open Go.RowKit

/-- A slice that holds these hits. -/
def IsHits (w : World) (a : Option Addr) (len : Nat) (hs : List Ht) : Prop :=
  hs.length = len ∧ (len = 0 ∨ ∃ b off, a = some ⟨b, off, none⟩ ∧ ∀ i (h : i < hs.length), w.cell? ⟨b, off + i * 2, none⟩ = some (.int .i64 (hs[i]'h).1) ∧ w.cell? ⟨b, off + i * 2 + 1, none⟩ = some (.int .i64 (hs[i]'h).2))

theorem IsHits.below {w w' : World} {a : Option Addr} {len : Nat} {hs : List Ht} (h : IsHits w a len hs) (hb : Below w.heap.size w w') : IsHits w' a len hs := by
  obtain ⟨hl, h⟩ := h
  refine ⟨hl, ?_⟩
  rcases h with h | ⟨b, off, ha, hc⟩
  · exact .inl h
  · refine .inr ⟨b, off, ha, fun i hi => ?_⟩
    obtain ⟨h1, h2⟩ := hc i hi
    rw [hb.cell (p := ⟨b, off + i * 2, none⟩) (World.block_lt_of_cell? w _ h1), hb.cell (p := ⟨b, off + i * 2 + 1, none⟩) (World.block_lt_of_cell? w _ h2)]
    exact ⟨h1, h2⟩

/-- One of them: where it lies. -/
theorem hit_at {w wr : World} {a : Option Addr} {len : Nat} {hs : List Ht} (h : IsHits w a len hs) (hb : Below w.heap.size w wr) (k : Nat) (hk : k < len) :
    ∃ b off, a = some ⟨b, off, none⟩ ∧ ∃ x : Ht, hs[k]? = some x ∧ wr.cell? ⟨b, off + k * 2, none⟩ = some (.int .i64 x.1) ∧ wr.cell? ⟨b, off + k * 2 + 1, none⟩ = some (.int .i64 x.2) := by
  obtain ⟨hl, h⟩ := h.below hb
  rcases h with h | ⟨b, off, ha, hc⟩
  · omega
  · have hkl : k < hs.length := by omega
    obtain ⟨h1, h2⟩ := hc k hkl
    exact ⟨b, off, ha, hs[k], List.getElem?_eq_getElem hkl, h1, h2⟩
theorem hit_lt {w : World} {b off len k : Nat} {hs : List Ht} (h : IsHits w (some ⟨b, off, none⟩) len hs) (hk : k < len) : b < w.heap.size := by
  obtain ⟨b', off', ha, x, _, h1, _⟩ := hit_at h (Below.refl _ _) k hk
  cases ha
  exact World.block_lt_of_cell? w _ h1

/-- The cells of hits. -/
def hiCells (hs : List Ht) : List Value := hs.flatMap fun h => [.int .i64 h.1, .int .i64 h.2]
theorem hiCells_snoc (hs : List Ht) (h : Ht) : hiCells (hs ++ [h]) = hiCells hs ++ [.int .i64 h.1, .int .i64 h.2] := by simp [hiCells]
theorem hiCells_length : ∀ hs : List Ht, (hiCells hs).length = hs.length * 2
  | [] => rfl
  | h :: r => by
    have ih := hiCells_length r
    have e : hiCells (h :: r) = .int .i64 h.1 :: .int .i64 h.2 :: hiCells r := by simp [hiCells]
    rw [e]; simp only [List.length_cons, ih]; omega
theorem hiCells_at : ∀ (hs : List Ht) (i : Nat) (h : i < hs.length), (hiCells hs)[i * 2]? = some (.int .i64 (hs[i]'h).1) ∧ (hiCells hs)[i * 2 + 1]? = some (.int .i64 (hs[i]'h).2)
  | f :: r, 0, _ => by simp [hiCells]
  | f :: r, i + 1, h => by
    have ih := hiCells_at r i (by simpa using h)
    have e : hiCells (f :: r) = .int .i64 f.1 :: .int .i64 f.2 :: hiCells r := by simp [hiCells]
    rw [e, show (i + 1) * 2 = i * 2 + 1 + 1 by omega]
    simpa using ih

theorem owns_hits {w : World} {base : Nat} {e : TypeId} {v : Value} {n : Nat} {hs : List Ht} (h : w.ownsRow base e 2 v n (hiCells hs)) (hn : hs.length = n) :
    ∃ ao cap, v = .slice ao n cap ∧ IsHits w ao n hs := by
  rcases h.2 with ⟨hv, h0⟩ | ⟨g, cap, cur, hv, _⟩
  · have h0' : n = 0 := h0
    subst h0'
    exact ⟨none, 0, hv, hn, .inl rfl⟩
  · refine ⟨some ⟨g, 0, none⟩, cap, hv, hn, .inr ⟨g, 0, rfl, fun i hi => ?_⟩⟩
    have hc := h.cells (g := g) (by rw [hv]; rfl)
    obtain ⟨h1, h2⟩ := hiCells_at hs i hi
    have c1 := hc _ _ h1
    have c2 := hc _ _ h2
    rw [addPlain] at c1 c2
    simpa using And.intro c1 c2

/-- A hit's two cells, in a block of their own. -/
theorem hit_news {w : World} {X : Nat} {T : TypeId} {u v : Value} (h : w.heap[X]? = some (.cells #[u, v] T (0, 0))) : ∀ j x, [u, v][j]? = some x → w.cell? ((⟨X, 0, none⟩ : Addr).add j) = some x := by
  intro j x hj
  match j, hj with
  | 0, hj => simp at hj; subst hj; simp [Addr.add, World.cell?, h]
  | 1, hj => simp at hj; subst hj; simp [Addr.add, World.cell?, h]
theorem hit_one {k d : Int} : ∀ x ∈ [Value.int .i64 k, .int .i64 d], x.oneCell' = true := by
  intro x hx
  simp at hx
  rcases hx with rfl | rfl <;> rfl
theorem hit_info : (Tryz.prog.info? 78).map (fun i => (i.zero, i.size, i.bytes)) = some (some (.agg #[.int .i64 0, .int .i64 0]), 2, 16) := by kernel_rfl

/-- Hits in one block of their own. -/
theorem hits_heap {w : World} {g n : Nat} {hs : List Ht} {T : TypeId} (h : w.heap[g]? = some (.cells (hiCells hs).toArray T (0, 0))) (hn : hs.length = n) : IsHits w (some ⟨g, 0, none⟩) n hs := by
  refine ⟨hn, .inr ⟨g, 0, rfl, fun i hi => ?_⟩⟩
  obtain ⟨h1, h2⟩ := hiCells_at hs i hi
  rw [Nat.zero_add, Lib.cell_of_heap h, Lib.cell_of_heap h]
  simp [h1, h2]

/-- A list of hits, as an answer: owned. -/
def RetH (hs : List Ht) (w : World) (e : Ending) (w' : World) : Prop := ∃ (v : Value), e = .returned v ∧ w'.ownsRow w.heap.size 78 2 v hs.length (hiCells hs) ∧ Below w.heap.size w w'
/-- .. to be read. -/
def RetG (hs : List Ht) (w : World) (e : Ending) (w' : World) : Prop := ∃ (a : Option Addr) (cap : Nat), e = .returned (.slice a hs.length cap) ∧ IsHits w' a hs.length hs ∧ Below w.heap.size w w'
theorem RetH.use {hs : List Ht} {w w' : World} {e : Ending} (h : RetH hs w e w') : RetG hs w e w' := by
  obtain ⟨v, rfl, hown, hb⟩ := h
  obtain ⟨ao, cap, rfl, hh⟩ := owns_hits hown rfl
  exact ⟨ao, cap, rfl, hh, hb⟩

/-- Two hits are one, as the model compares them. -/
theorem run_eq_hit (a b c d : Int) (w : World) : Sem.run Tryz.prog (binOp .eql 78 (.agg #[.int .i64 a, .int .i64 b]) (.agg #[.int .i64 c, .int .i64 d])) w = .ok (.bool (decide ((a, b) = (c, d)))) w := by
  have u3 := Tryz.underlying3
  have a3 := Tryz.isAgg3
  have z3 := Tryz.sizeOf3
  have hS : Tryz.prog.underlying 78 = some (.struct (Tryz.prog.fieldsOf 78)) := by kernel_rfl
  have hp : Tryz.prog.stoodInHeld 78 = false := by kernel_rfl
  rw [run_eql_struct, show (10000 : Nat) = 9999 + 1 from rfl, run_equalIn_agg w 9999 78 _ _ hS hp]
  simp only [Program.fieldsOf, Tryz.underlying78]
  go_simp
  by_cases h1 : a = c <;> by_cases h2 : b = d <;> simp [h1, h2]
end Go.Proofs.YtmgcdhcidojdhaaGreat
