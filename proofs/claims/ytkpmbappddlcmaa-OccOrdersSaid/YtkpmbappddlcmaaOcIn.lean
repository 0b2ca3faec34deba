/-
  A hit, and a slice of hits, that came in: what is known of them.
-/
import Derived.Test.YtkpmbappddlcmaaOcG
import Derived.Test.YtkpmbappddlcmaaRows
import Derived.Deep.SlicePairs
import Derived.Lib.SmallJoins
import Derived.ChangeArms
import Derived.KernelRfl
set_option linter.unusedSimpArgs false
set_option linter.unusedVariables false
namespace Go.Proofs.Ytkpmbappddlcmaa
open Go.ChangeShapes Go.WideShapes Go.Deep Go.RowKit

theorem hit_cells : Try.prog.cellsOf 44 = 2 := by kernel_rfl
set_option maxRecDepth 100000 in
theorem open_hit {H : Type} {enc : TypeId × Value → H} {w : World} {base : Nat} {spare : Nat → Bool} {held : Bool} {r : Reach} {b0 : Nat} {v : Value} {d : DataW H} {p : List MemPlace}
    (hv : Value.okWide Try.prog w r b0 44 v) (h : DataW.Trod enc Try.prog w base spare held 44 v d p) :
    ∃ a : Ht, v = .agg #[.int .i64 a.1, .int .i64 a.2] ∧ d = .agg [.lit (.int .i64 a.1), .lit (.int .i64 a.2)] ∧ p = [] ∧ (Lit.int .i64 a.1).wf = true ∧ (Lit.int .i64 a.2).wf = true := by
  obtain ⟨c0, c1, y0, y1, m, rfl, rfl, rfl, hy0, hy1⟩ := Go.Joins.open_agg2 Try.underlying44 (by kernel_rfl) hit_cells hv h
  obtain ⟨a, e0, rfl, wa⟩ := DataW.trod_int Try.underlying3 hy0
  obtain ⟨b, e1, rfl, wb⟩ := DataW.trod_int Try.underlying3 hy1
  simp at e0 e1
  subst e0 e1
  exact ⟨(a, b), rfl, rfl, rfl, wa, wb⟩
set_option maxRecDepth 100000 in
theorem shut_hit {H : Type} {enc : TypeId × Value → H} {w : World} {base : Nat} {spare : Nat → Bool} {held : Bool} {a : Ht} (h : (Lit.int .i64 a.1).wf = true ∧ (Lit.int .i64 a.2).wf = true) :
    DataW.Trod enc Try.prog w base spare held 44 (.agg #[.int .i64 a.1, .int .i64 a.2]) (.agg [.lit (.int .i64 a.1), .lit (.int .i64 a.2)]) [] :=
  Go.Joins.shut_agg2 (y0 := (.lit (.int .i64 a.1), [])) (y1 := (.lit (.int .i64 a.2), [])) Try.underlying44 (by kernel_rfl) hit_cells ⟨1, by simp [DataW.trod, Try.underlying3, h.1]⟩ ⟨1, by simp [DataW.trod, Try.underlying3, h.2]⟩

/-- What came in: hits. -/
def CameH (w : World) (a : Option Addr) (len cap : Nat) (hs : List Ht) : Prop := IsHits w a len hs ∧ len ≤ cap ∧ cap ≤ maxLen

theorem came_hits {H : Type} {enc : TypeId × Value → H} {W : World} {a : Option Addr} {len cap : Nat} {d : DataW H} {p : List MemPlace} (h : DataW.Trod enc Try.prog W 0 (fun _ => true) true 31 (.slice a len cap) d p) :
    ∃ hs, CameH W a len cap hs := by
  obtain ⟨fuel, hf⟩ := h
  rcases open_slice_pairs Try.underlying31 Try.underlying44 (by kernel_rfl) rfl rfl (by kernel_rfl) (by kernel_rfl) hf with ⟨hcs, _⟩ | ⟨x, l, c, m, n, V0, V1, D0, D1, P0, P1, hcs, _, hl, hm, hmm, _, hc⟩
  · simp [Value.cells] at hcs
    obtain ⟨rfl, rfl, rfl⟩ := hcs
    exact ⟨[], ⟨rfl, .inl rfl⟩, Nat.zero_le _, Nat.zero_le _⟩
  · simp [Value.cells] at hcs
    obtain ⟨rfl, rfl, rfl⟩ := hcs
    have hmc : m = cap := by rw [hmm]; rfl
    subst hmc
    have each : ∀ i, i < len → ∃ f : Ht, V0 i = .int .i64 f.1 ∧ V1 i = .int .i64 f.2 := by
      intro i hi
      obtain ⟨_, _, h0, h1⟩ := hc i (by omega)
      obtain ⟨k, e0, _, _⟩ := DataW.trod_int Try.underlying3 h0
      obtain ⟨s, e1, _, _⟩ := DataW.trod_int Try.underlying3 h1
      exact ⟨(k, s), by simpa using e0, by simpa using e1⟩
    obtain ⟨F, hF⟩ := choose_lt each
    refine ⟨(List.range len).map F, ⟨by simp, ?_⟩, hl, hm⟩
    rcases Nat.eq_zero_or_pos len with h0 | h0
    · exact .inl h0
    · right
      obtain ⟨b, off, spot⟩ := x
      have hc0 := (hc 0 (by omega)).1
      have hspot : spot = none := by simpa [Addr.add] using World.cell?_spot hc0
      subst hspot
      refine ⟨b, off, rfl, fun i hi => ?_⟩
      simp only [List.length_map, List.length_range] at hi
      obtain ⟨h1, h2, _, _⟩ := hc i (by omega)
      obtain ⟨e0, e1⟩ := hF i hi
      rw [addPlain] at h1 h2
      simp only [List.getElem_map, List.getElem_range]
      rw [h1, Nat.add_assoc, h2, e0, e1]
      exact ⟨rfl, rfl⟩
end Go.Proofs.Ytkpmbappddlcmaa
