/-
  Stores into blocks of one type leave what lies in blocks of other types. No program here.
-/
import Derived.Test.YtbaifcbjkmmnbaaBut
set_option linter.unusedSimpArgs false
set_option linter.unusedVariables false
namespace Go.Proofs.Ytbaifcbjkmmnbaa
open Go.RowKit

/-- All blocks of cells of other types than T are as they were. -/
def Other (T : TypeId) (w w' : World) : Prop := ∀ (k : Nat) (cs : Array Value) (U : TypeId) (m : Nat × Nat), U ≠ T → w.heap[k]? = some (.cells cs U m) → w'.heap[k]? = some (.cells cs U m)
theorem Other.refl (T : TypeId) (w : World) : Other T w w := fun _ _ _ _ _ h => h
theorem Other.trans {T : TypeId} {u v w : World} (h : Other T u v) (k : Other T v w) : Other T u w := fun i cs U m hU hh => k i cs U m hU (h i cs U m hU hh)
theorem Other.set {T : TypeId} {w : World} {b i : Nat} {cs : Array Value} {m : Nat × Nat} (h : w.heap[b]? = some (.cells cs T m)) (u : Value) : Other T w (w.setCell ⟨b, i, none⟩ u) := fun k ds U m' hU hk => by
  have hne : k ≠ b := fun e => by
    subst e
    rw [h] at hk
    injection hk with hk
    injection hk with h1 h2 h3
    exact hU h2.symm
  rw [put_other hne]
  exact hk
theorem Other.heap {T : TypeId} {w w' : World} (e : w'.heap = w.heap) : Other T w w' := fun k cs U m hU hk => by rw [e]; exact hk
theorem Other.owns {T : TypeId} {w w' : World} (h : Other T w w') {base n : Nat} {size : Nat} {e : TypeId} {v : Value} {xs : List Value} (he : e ≠ T) (ho : w.ownsRow base e size v n xs) : w'.ownsRow base e size v n xs := by
  obtain ⟨hl, hx⟩ := ho
  refine ⟨hl, ?_⟩
  rcases hx with hx | ⟨g, cap, cur, hv, hg, hh, r⟩
  · exact .inl hx
  · exact .inr ⟨g, cap, cur, hv, hg, h g _ _ _ he hh, r⟩
end Go.Proofs.Ytbaifcbjkmmnbaa
