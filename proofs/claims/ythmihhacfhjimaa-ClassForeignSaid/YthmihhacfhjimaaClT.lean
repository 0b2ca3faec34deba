/-
  An array of 256 booleans in a block of the call's own: which bytes stand in texts. No function of the program here.
-/
import Derived.Test.YthmihhacfhjimaaClM
import Derived.Test.YthmihhacfhjimaaBut
import Derived.Test.YthmihhacfhjimaaStr
import Derived.Deep.WholeRow
set_option linter.unusedSimpArgs false
set_option linter.unusedVariables false
namespace Go.Proofs.Ythmihhacfhjimaa
open Go.RowKit

/-- An array that says this of each byte. -/
def SayAt (cs : Array Value) (T : Nat → Bool) : Prop := cs.size = 256 ∧ ∀ c, c < 256 → cs[c]? = some (.bool (T c))
/-- .. in block b. -/
def IsSay (w : World) (b : Nat) (T : Nat → Bool) : Prop := ∃ cs : Array Value, w.heap[b]? = some (.cells cs 47 (0, 0)) ∧ SayAt cs T
theorem IsSay.lt {w : World} {b : Nat} {T : Nat → Bool} (h : IsSay w b T) : b < w.heap.size := by
  obtain ⟨cs, h, _⟩ := h
  exact heap_lt h
theorem IsSay.heap {w W : World} {b : Nat} {T : Nat → Bool} (h : IsSay w b T) (e : W.heap = w.heap) : IsSay W b T := by
  unfold IsSay at *
  rw [e]
  exact h
theorem IsSay.congr {w : World} {b : Nat} {T U : Nat → Bool} (h : IsSay w b T) (e : ∀ c, c < 256 → T c = U c) : IsSay w b U := by
  obtain ⟨cs, h1, h2, h3⟩ := h
  exact ⟨cs, h1, h2, fun c hc => by rw [← e c hc]; exact h3 c hc⟩
theorem IsSay.put {w : World} {b c : Nat} {T : Nat → Bool} (h : IsSay w b T) (hc : c < 256) : IsSay (w.setCell ⟨b, c, none⟩ (.bool true)) b (fun d => T d || c == d) := by
  obtain ⟨cs, h1, h2, h3⟩ := h
  refine ⟨_, put_heap h1 _, by rw [Array.size_setIfInBounds]; exact h2, fun d hd => ?_⟩
  by_cases e : c = d
  · subst e
    rw [Array.getElem?_setIfInBounds_self_of_lt (by omega)]
    simp
  · rw [Array.getElem?_setIfInBounds_ne (by omega), h3 d hd]
    simp [e]
theorem IsSay.cell {w : World} {b c : Nat} {T : Nat → Bool} (h : IsSay w b T) (hc : c < 256) : w.cell? ⟨b, c, none⟩ = some (.bool (T c)) := by
  obtain ⟨cs, h1, _, h2⟩ := h
  rw [Lib.cell_of_heap h1]
  exact h2 c hc
theorem IsSay.free {w : World} {b i : Nat} {T : Nat → Bool} (h : IsSay w b T) : w.frozen? ⟨b, i, none⟩ = false := by
  obtain ⟨cs, h1, _⟩ := h
  exact Lib.frozen_of_heap h1 _

/-- One of its cells, where the array is a value. -/
theorem say_index {cs : Array Value} {T : Nat → Bool} (h : SayAt cs T) (m : Nat) (hm : m < 256) (w : World) : (Instr.index 47 (.agg cs) (.int .i64 (m : Int))).run Try.prog w = .ok (.bool (T m)) w := by
  have hc := h.2 m hm
  have hs := h.1
  have hn : (0 : Int) ≤ (m : Int) ∧ (m : Int) < ((256 : Nat) : Int) := by omega
  have a4 := Try.isAgg4
  have z4 := Try.sizeOf4
  simp [Instr.index, run_underlying Try.underlying47, asIntOf, hn, part, a4, z4, hc, go_sem]
  intro h'
  omega

/-- A new array. -/
def sayZero : Array Value := Array.replicate 256 (.bool false)
theorem say_info : (Try.prog.info? 47).map (fun i => (i.zero, i.size)) = some (some (.agg sayZero), 256) := by kernel_rfl
theorem say_zero : SayAt sayZero (fun _ => false) := by
  unfold sayZero
  exact ⟨Array.size_replicate .., fun c hc => by rw [Array.getElem?_replicate, if_pos hc]⟩

/-- The cells of new classes. -/
def clZero : Array Value := (List.replicate 256 (Value.int .i64 0) ++ [Value.string ByteArray.empty]).toArray
theorem cl_built : Try.prog.built 52 [] = some clZero := by kernel_rfl
end Go.Proofs.Ythmihhacfhjimaa
