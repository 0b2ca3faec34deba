/-
  Texts put together: StrIn.
-/
import Derived.Test.YtjmaccflnfaiiaaBn4
import Derived.Deep.Strs
import Derived.ChangeArms
import Derived.KernelRfl
set_option linter.unusedSimpArgs false
set_option linter.unusedVariables false
namespace Go.Proofs.Ytjmaccflnfaiiaa
open Go.ChangeShapes Go.WideShapes Go.Deep Go.RowKit

abbrev Tx := List UInt8

/-- What came in: texts, each of a length that can be. -/
def CameS (w : World) (a : Option Addr) (len cap : Nat) (ws : List Tx) : Prop := IsStrs w a len ws ∧ len ≤ cap ∧ cap ≤ maxLen ∧ ∀ t ∈ ws, t.length ≤ maxLen

theorem came_strs {H : Type} {enc : TypeId × Value → H} {W : World} {a : Option Addr} {len cap : Nat} {d : DataW H} {p : List MemPlace} (h : DataW.Trod enc Try.prog W 0 (fun _ => true) true 22 (.slice a len cap) d p) :
    ∃ ws, CameS W a len cap ws := by
  obtain ⟨fuel, hf⟩ := h
  rcases open_strs Try.underlying22 Try.underlying9 (by kernel_rfl) hf with ⟨hcs, _⟩ | ⟨x, l, c, m, Sx, hcs, _, hl, hm, hmm, _, hc⟩
  · simp [Value.cells] at hcs
    obtain ⟨rfl, rfl, rfl⟩ := hcs
    exact ⟨[], ⟨rfl, .inl rfl⟩, Nat.zero_le _, Nat.zero_le _, by simp⟩
  · simp [Value.cells] at hcs
    obtain ⟨rfl, rfl, rfl⟩ := hcs
    have hmc : m = cap := by rw [hmm]; rfl
    subst hmc
    refine ⟨(List.range len).map fun i => (Sx i).data.toList, ⟨by simp, ?_⟩, hl, hm, ?_⟩
    · rcases Nat.eq_zero_or_pos len with h0 | h0
      · exact .inl h0
      · right
        obtain ⟨b, off, spot⟩ := x
        have hc0 := (hc 0 (by omega)).1
        have hspot : spot = none := by simpa [Addr.add] using World.cell?_spot hc0
        subst hspot
        refine ⟨b, off, rfl, fun i hi => ?_⟩
        simp only [List.length_map, List.length_range] at hi
        have h1 := (hc i (by omega)).1
        rw [addPlain] at h1
        simp only [List.getElem_map, List.getElem_range]
        rw [h1]
    · intro t ht
      simp only [List.mem_map, List.mem_range] at ht
      obtain ⟨i, hi, rfl⟩ := ht
      rw [← Lib.size_eq]
      exact (hc i (by omega)).2
end Go.Proofs.Ytjmaccflnfaiiaa
