/-
  Texts put together: PrT.
-/
import Derived.Test.YtmgcdhcidojdhaaGreatBn5
import Derived.Test.YtmgcdhcidojdhaaGreatBn1
import Derived.Lib.MinMax
import Derived.Lib.Hide
set_option linter.unusedSimpArgs false
set_option linter.unusedVariables false
namespace Go.Proofs.YtmgcdhcidojdhaaGreat
open Go.RowKit Go.Maps

/-- What a map of two bytes' shifts says. -/
def Says (D : DataW Unit) (F : Nat → Nat) (m : Nat) : Prop := (∀ x y, x < 256 → y < 256 → Maps.has D (keyL x y) = decide (F (two x y) < m) ∧ (F (two x y) < m → ∀ z, D.atKey (keyL x y) z = .lit (.int .i64 (F (two x y) : Int)))) ∧ IsCount (fun c => F c < m) (Maps.size D)
/-- A table in block b, its map in block g. -/
def IsPt (w : World) (b g n m : Nat) (D : DataW Unit) : Prop := w.heap[b]? = some (.cells #[.map (some g), .int .i64 (m : Int)] 132 (0, 0)) ∧ w.ownsMap Tryz.prog 153 (plainElem Tryz.prog 3) g n D

set_option maxRecDepth 100000 in
theorem IsPt.cell0 {w : World} {b g n m : Nat} {D : DataW Unit} (h : IsPt w b g n m D) : w.cell? ⟨b, 0, none⟩ = some (.map (some g)) := by rw [Lib.cell_of_heap h.1]; rfl
set_option maxRecDepth 100000 in
theorem IsPt.cell1 {w : World} {b g n m : Nat} {D : DataW Unit} (h : IsPt w b g n m D) : w.cell? ⟨b, 1, none⟩ = some (.int .i64 (m : Int)) := by rw [Lib.cell_of_heap h.1]; rfl
set_option maxRecDepth 100000 in
theorem IsPt.ne {w : World} {b g n m : Nat} {D : DataW Unit} (h : IsPt w b g n m D) : g ≠ b := by
  rintro rfl
  obtain ⟨h1, es, clock, h2, _⟩ := h
  rw [h1] at h2
  cases h2
set_option maxRecDepth 100000 in
theorem IsPt.kept {w w' : World} {b g n m : Nat} {D : DataW Unit} (h : IsPt w b g n m D) (hg : w.grownBy w' none) : IsPt w' b g n m D :=
  ⟨(hg.block b (heap_lt h.1) (by simp)).trans h.1, h.2.kept hg (by simp)⟩
set_option maxRecDepth 100000 in
theorem IsPt.below {w w' : World} {b g n m : Nat} {D : DataW Unit} (h : IsPt w b g n m D) (hb : Below w.heap.size w w') : IsPt w' b g n m D :=
  h.kept ⟨hb.os, hb.tape, hb.output, hb.size, fun i hi _ => hb.block i hi⟩

set_option maxRecDepth 100000 in
theorem says_put {D : DataW Unit} {F : Nat → Nat} {m x y j : Nat} (hT : Tidy D) (h : Says D F m) (hx : x < 256) (hy : y < 256) (hj : j < m) (hle : ∀ c, F c ≤ m) (hlt : j < F (two x y)) :
    Says (D.put (keyL x y) (.lit (.int .i64 (j : Int)))) (fun c => if c = two x y then j else F c) m := by
  obtain ⟨h1, h2⟩ := h
  refine ⟨fun u v hu hv => ?_, ?_⟩
  · by_cases e : two u v = two x y
    · obtain ⟨rfl, rfl⟩ := two_inj hv hy e
      simp only [↓reduceIte]
      rw [has_put_same hT.isMap (keyL_lit hx hy), decide_eq_true hj]
      exact ⟨rfl, fun _ z => atKey_put_same hT.isMap (keyL_lit hx hy) _ _⟩
    · have ne : keyL u v ≠ keyL x y := fun h => e (keyL_inj hu hv hx hy h)
      simp only [if_neg e]
      rw [has_put_other ne]
      refine ⟨(h1 u v hu hv).1, fun hl z => ?_⟩
      rw [atKey_put_other ne]
      exact (h1 u v hu hv).2 hl z
  · rw [size_put hT]
    by_cases hf : F (two x y) < m
    · rw [(h1 x y hx hy).1, decide_eq_true hf, if_pos rfl]
      refine h2.congr fun c => ?_
      by_cases e : c = two x y
      · subst e
        simp only [↓reduceIte]
        exact ⟨fun _ => hj, fun _ => hf⟩
      · simp only [if_neg e]
    · rw [(h1 x y hx hy).1, decide_eq_false hf, if_neg (by simp)]
      refine (h2.snoc hf).congr fun c => ?_
      by_cases e : c = two x y
      · subst e
        simp only [↓reduceIte]
        exact ⟨fun _ => hj, fun _ => .inr trivial⟩
      · simp only [if_neg e]
        exact ⟨fun h => h.elim id fun h => absurd h e, .inl⟩
set_option maxRecDepth 100000 in
theorem Says.congr {D : DataW Unit} {F G : Nat → Nat} {m : Nat} (h : Says D F m) (e : ∀ c, F c = G c) : Says D G m := by
  rwa [show F = G from funext e] at h
set_option maxRecDepth 100000 in
theorem says_none (m : Nat) : Says (.map []) (fun _ => m) m := by
  refine ⟨fun x y _ _ => ⟨?_, fun h => absurd h (Nat.lt_irrefl m)⟩, ?_⟩
  · rw [decide_eq_false (Nat.lt_irrefl m)]; rfl
  · exact IsCount.none.congr fun c => ⟨fun h => False.elim h, fun h => (Nat.lt_irrefl m h).elim⟩

set_option maxRecDepth 100000 in
/-- The lookup of two bytes. -/
theorem look_two {w : World} {g n m : Nat} {D : DataW Unit} {F : Nat → Nat} (h : w.ownsMap Tryz.prog 153 (plainElem Tryz.prog 3) g n D) (hS : Says D F m) {x y : Nat} (hx : x < 256) (hy : y < 256) :
    ∃ c : Int, (Instr.lookup 130 (.map (some g)) (.agg #[.int .u8 (x : Int), .int .u8 (y : Int)]) true).run Tryz.prog w = .ok (.tuple #[.int .i64 c, .bool (decide (F (two x y) < m))]) w ∧ (F (two x y) < m → c = (F (two x y) : Int)) := by
  obtain ⟨v, ps, hrun, hv⟩ := h.look_ok keyP Tryz.underlying130 (zeroP w) (plainElem_int Tryz.underlying3 (by decide)) (key_two hx hy)
  obtain ⟨c, rfl, hc, _⟩ := plainElem_int_inv Tryz.underlying3 hv
  obtain ⟨h1, h2⟩ := hS.1 x y hx hy
  rw [h1] at hrun
  refine ⟨c, hrun, fun hl => ?_⟩
  have := (Prod.mk.inj hc).1
  rw [h2 hl] at this
  cases this
  rfl
set_option maxRecDepth 100000 in
/-- The store at two bytes. -/
theorem put_two {w : World} {g n : Nat} {D : DataW Unit} (h : w.ownsMap Tryz.prog 153 (plainElem Tryz.prog 3) g n D) (hn : n < maxLen) {x y : Nat} (hx : x < 256) (hy : y < 256) {j : Nat} (hj : j < 1000000) :
    ∃ w', (Instr.mapUpdate 130 (.map (some g)) (.agg #[.int .u8 (x : Int), .int .u8 (y : Int)]) (.int .i64 (j : Int))).run Tryz.prog w = .ok () w' ∧
      w'.ownsMap Tryz.prog 153 (plainElem Tryz.prog 3) g (n + 1) (D.put (keyL x y) (.lit (.int .i64 (j : Int)))) ∧ w.grownBy w' (some g) :=
  h.update keyP Tryz.underlying130 hn (key_two hx hy) (plainElem_int Tryz.underlying3 (by simp [Lit.wf, IntKind.min, IntKind.max, IntKind.bits, IntKind.signed]; omega))
end Go.Proofs.YtmgcdhcidojdhaaGreat
