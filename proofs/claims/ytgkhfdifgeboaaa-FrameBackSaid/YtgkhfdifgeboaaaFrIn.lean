/-
  A slice of the document's frames that came in: what is known of it.
-/
import Derived.Test.YtgkhfdifgeboaaaFrG
import Derived.Test.YtgkhfdifgeboaaaRows
import Derived.Deep.SlicePairs
import Derived.ChangeArms
import Derived.KernelRfl
set_option linter.unusedSimpArgs false
set_option linter.unusedVariables false
namespace Go.Proofs.Ytgkhfdifgeboaaa
open Go.ChangeShapes Go.WideShapes Go.Deep Go.RowKit

/-- What came in: frames, each of a length that can be. -/
def Came (w : World) (a : Option Addr) (len : Nat) (fs : List Fr) : Prop := IsFrames w a len fs ∧ len ≤ maxLen ∧ ∀ f ∈ fs, f.2.size ≤ maxLen

theorem came_in {H : Type} {enc : TypeId × Value → H} {W : World} {a : Option Addr} {len cap : Nat} {d : DataW H} {p : List MemPlace} (h : DataW.Trod enc Try.prog W 0 (fun _ => true) true 22 (.slice a len cap) d p) :
    ∃ fs, Came W a len fs := by
  obtain ⟨fuel, hf⟩ := h
  rcases open_slice_pairs Try.underlying22 Try.underlying35 (by kernel_rfl) rfl rfl (by kernel_rfl) (by kernel_rfl) hf with ⟨hcs, _⟩ | ⟨x, l, c, m, n, V0, V1, D0, D1, P0, P1, hcs, _, hl, hm, hmm, _, hc⟩
  · simp [Value.cells] at hcs
    obtain ⟨rfl, rfl, rfl⟩ := hcs
    exact ⟨[], ⟨rfl, .inl rfl⟩, Nat.zero_le _, by simp⟩
  · simp [Value.cells] at hcs
    obtain ⟨rfl, rfl, rfl⟩ := hcs
    have hmc : m = cap := by rw [hmm]; rfl
    subst hmc
    have each : ∀ i, i < len → ∃ f : Fr, V0 i = .int .i64 f.1 ∧ V1 i = .string f.2 ∧ f.2.size ≤ maxLen := by
      intro i hi
      obtain ⟨_, _, h0, h1⟩ := hc i (by omega)
      obtain ⟨k, e0, _, _⟩ := DataW.trod_int Try.underlying3 h0
      obtain ⟨s, e1, _, hs⟩ := DataW.trod_string Try.underlying9 h1
      exact ⟨(k, s), by simpa using e0, by simpa using e1, hs⟩
    obtain ⟨F, hF⟩ := choose_lt each
    refine ⟨(List.range len).map F, ⟨by simp, ?_⟩, by omega, ?_⟩
    · rcases Nat.eq_zero_or_pos len with h0 | h0
      · exact .inl h0
      · right
        obtain ⟨b, off, spot⟩ := x
        have hc0 := (hc 0 (by omega)).1
        have hspot : spot = none := by simpa [Addr.add] using World.cell?_spot hc0
        subst hspot
        refine ⟨b, off, rfl, fun i hi => ?_⟩
        simp only [List.length_map, List.length_range] at hi
        obtain ⟨h1, h2, _, _⟩ := hc i (by omega)
        obtain ⟨e0, e1, _⟩ := hF i hi
        rw [addPlain] at h1 h2
        simp only [List.getElem_map, List.getElem_range]
        rw [h1, Nat.add_assoc, h2, e0, e1]
        exact ⟨rfl, rfl⟩
    · intro f hf
      simp only [List.mem_map, List.mem_range] at hf
      obtain ⟨i, hi, rfl⟩ := hf
      exact (hF i hi).2.2
end Go.Proofs.Ytgkhfdifgeboaaa
