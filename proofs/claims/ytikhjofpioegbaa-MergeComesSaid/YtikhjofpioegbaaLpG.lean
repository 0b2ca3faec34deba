/-
  Slices of records in memory: four cells a record, its numbers in a block of their own.
-/
import Derived.Test.YtikhjofpioegbaaPbM
import Derived.Test.YtikhjofpioegbaaIntsB
import Derived.Test.YtikhjofpioegbaaBut
import Derived.Test.YtikhjofpioegbaaGen
set_option linter.unusedSimpArgs false
set_option linter.unusedVariables false
namespace Go.Proofs.Ytikhjofpioegbaa
open Go.RowKit

/-- All blocks of cells of a type are as they were. -/
def Keep (T : TypeId) (w w' : World) : Prop := ∀ (k : Nat) (cs : Array Value) (m : Nat × Nat), w.heap[k]? = some (.cells cs T m) → w'.heap[k]? = some (.cells cs T m)
theorem Keep.refl (T : TypeId) (w : World) : Keep T w w := fun _ _ _ h => h
theorem Keep.trans {T : TypeId} {u v w : World} (h : Keep T u v) (k : Keep T v w) : Keep T u w := fun i cs m hh => k i cs m (h i cs m hh)
theorem Keep.below {T : TypeId} {w w' : World} (h : Below w.heap.size w w') : Keep T w w' := fun i cs m hh => (h.block i (heap_lt hh)).trans hh
theorem Keep.heap {T : TypeId} {w w' : World} (e : w'.heap = w.heap) : Keep T w w' := fun i cs m hh => by rw [e]; exact hh
/-- A block of another type. -/
theorem type_ne {w : World} {k b : Nat} {cs ds : Array Value} {T U : TypeId} {m n : Nat × Nat} (h : w.heap[k]? = some (.cells cs T m)) (hb : w.heap[b]? = some (.cells ds U n)) (hT : T ≠ U) : k ≠ b := by
  rintro rfl
  rw [h] at hb
  injection hb with hb
  injection hb with h1 h2 h3
  exact hT h2
theorem Keep.but {T U : TypeId} {b : Nat} {w w' : World} (h : But w.heap.size b w w') {ds : Array Value} {n : Nat × Nat} (hb : w.heap[b]? = some (.cells ds U n)) (hT : T ≠ U) : Keep T w w' := fun i cs m hh =>
  (h.block i (heap_lt hh) (type_ne hh hb hT)).trans hh
theorem Keep.grown {T e : TypeId} {w w' : World} {base size n : Nat} {v : Value} {xs : List Value} (hown : w.ownsRow base e size v n xs) (hg : w.grownBy w' v.ownBlock) (hT : T ≠ e) : Keep T w w' := fun i cs m hh => by
  rw [hg.block i (heap_lt hh) (fun h => ?_)]
  · exact hh
  · rcases hown.2 with ⟨rfl, _⟩ | ⟨g, cap, cur, rfl, _, hb, _⟩
    · simp [Value.ownBlock] at h
    · simp only [Value.ownBlock, Option.some.injEq] at h
      exact type_ne hh hb hT h
theorem Keep.into {T U : TypeId} {b : Nat} {w w' : World} (h : Into b w w') {ds : Array Value} {n : Nat × Nat} (hb : w.heap[b]? = some (.cells ds U n)) (hT : T ≠ U) : Keep T w w' := fun i cs m hh =>
  (h.block i (type_ne hh hb hT)).trans hh
theorem Keep.owns {T : TypeId} {w w' : World} (h : Keep T w w') {base n size : Nat} {v : Value} {xs : List Value} (ho : w.ownsRow base T size v n xs) : w'.ownsRow base T size v n xs := by
  obtain ⟨hl, hx⟩ := ho
  refine ⟨hl, ?_⟩
  rcases hx with hx | ⟨g, cap, cur, hv, hg, hh, r⟩
  · exact .inl hx
  · exact .inr ⟨g, cap, cur, hv, hg, h g _ _ hh, r⟩

/-- A record as it lies: what it is, its slice of numbers. -/
structure Rc where
  R : EvR
  a : Option Addr
  c : Nat
def Rc.sl (x : Rc) : Value := .slice x.a x.R.ids.length x.c
def Rc.val (x : Rc) : Value := .agg #[.int .i64 (x.R.k : Int), .int .i64 (x.R.n : Int), .int .i64 (x.R.r : Int), x.sl]
def Rc.cells (x : Rc) : List Value := [.int .i64 (x.R.k : Int), .int .i64 (x.R.n : Int), .int .i64 (x.R.r : Int), x.sl]
/-- Its numbers. -/
def IdsAt (w : World) (x : Rc) : Prop := x.R.ids.length = 0 ∨ ∃ base, w.ownsRow base 3 1 x.sl x.R.ids.length (inCells x.R.ids)
theorem IdsAt.keep {w w' : World} {x : Rc} (h : IdsAt w x) (hk : Keep 3 w w') : IdsAt w' x := h.elim .inl fun ⟨b, h⟩ => .inr ⟨b, hk.owns h⟩
theorem IdsAt.row {w : World} {x : Rc} (h : IdsAt w x) (hm : x.R.ids.length ≤ maxLen) : IsRow .i64 w x.a x.R.ids.length x.R.ids.length x.R.ids := by
  rcases h with h | ⟨b, h⟩
  · exact .inl h
  · obtain ⟨ao, cap, hv, hr⟩ := row_of_ints h hm
    obtain ⟨R, a, c⟩ := x
    simp only [Rc.sl, Value.slice.injEq] at hv
    obtain ⟨rfl, _, _⟩ := hv
    exact hr

/-- The cells of records. -/
def rcCells (rs : List Rc) : List Value := rs.flatMap Rc.cells
theorem rcCells_app (l k : List Rc) : rcCells (l ++ k) = rcCells l ++ rcCells k := by simp [rcCells]
theorem rcCells_one (x : Rc) : rcCells [x] = x.cells := by simp [rcCells]
theorem rcCells_length : ∀ rs : List Rc, (rcCells rs).length = rs.length * 4
  | [] => rfl
  | x :: l => by
    have e : rcCells (x :: l) = x.cells ++ rcCells l := by simp [rcCells]
    rw [e, List.length_append, rcCells_length l, List.length_cons]
    simp [Rc.cells]
    omega
theorem rcCells_at : ∀ (rs : List Rc) (i : Nat) (x : Rc), rs[i]? = some x → ∀ j, j < 4 → (rcCells rs)[i * 4 + j]? = x.cells[j]?
  | [], i, x, h, _, _ => by simp at h
  | y :: l, 0, x, h, j, hj => by
    simp at h
    subst h
    have e : rcCells (y :: l) = y.cells ++ rcCells l := by simp [rcCells]
    rw [e, List.getElem?_append_left (by simp [Rc.cells]; omega), Nat.zero_mul, Nat.zero_add]
  | y :: l, i + 1, x, h, j, hj => by
    have e : rcCells (y :: l) = y.cells ++ rcCells l := by simp [rcCells]
    rw [e, List.getElem?_append_right (by simp [Rc.cells]; omega)]
    have hl : y.cells.length = 4 := rfl
    rw [hl, show (i + 1) * 4 + j - 4 = i * 4 + j by omega]
    exact rcCells_at l i x (by simpa using h) j hj
theorem rc_one {rs : List Rc} : ∀ u ∈ rcCells rs, u.oneCell' = true := by
  intro u hu
  simp only [rcCells, List.mem_flatMap] at hu
  obtain ⟨x, _, hx⟩ := hu
  simp [Rc.cells, Rc.sl] at hx
  rcases hx with rfl | rfl | rfl | rfl <;> rfl

/-- A slice that holds these records, to be read. -/
def IsRecs (w : World) (a : Option Addr) (rs : List Rc) : Prop :=
  (rs.length = 0 ∨ ∃ b, a = some ⟨b, 0, none⟩ ∧ ∀ j u, (rcCells rs)[j]? = some u → w.cell? ⟨b, j, none⟩ = some u) ∧ ∀ x ∈ rs, IdsAt w x
theorem cells_below {w w' : World} {b j : Nat} {u : Value} (h : w.cell? ⟨b, j, none⟩ = some u) (hb : Below w.heap.size w w') : w'.cell? ⟨b, j, none⟩ = some u := by
  rw [hb.cell (p := ⟨b, j, none⟩) (World.block_lt_of_cell? w _ h)]; exact h
theorem IsRecs.below {w w' : World} {a : Option Addr} {rs : List Rc} (h : IsRecs w a rs) (hb : Below w.heap.size w w') : IsRecs w' a rs := by
  obtain ⟨h1, h2⟩ := h
  refine ⟨?_, fun x hx => (h2 x hx).keep (.below hb)⟩
  rcases h1 with h1 | ⟨b, ha, hc⟩
  · exact .inl h1
  · exact .inr ⟨b, ha, fun j u hu => cells_below (hc j u hu) hb⟩
/-- One of them. -/
theorem IsRecs.get {w : World} {a : Option Addr} {rs : List Rc} (h : IsRecs w a rs) {i : Nat} (hi : i < rs.length) : ∃ b x, a = some ⟨b, 0, none⟩ ∧ rs[i]? = some x ∧ IdsAt w x ∧
    w.cell? ⟨b, i * 4, none⟩ = some (.int .i64 (x.R.k : Int)) ∧ w.cell? ⟨b, i * 4 + 1, none⟩ = some (.int .i64 (x.R.n : Int)) ∧ w.cell? ⟨b, i * 4 + 2, none⟩ = some (.int .i64 (x.R.r : Int)) ∧ w.cell? ⟨b, i * 4 + 3, none⟩ = some (.slice x.a x.R.ids.length x.c) := by
  obtain ⟨h1, h2⟩ := h
  rcases h1 with h1 | ⟨b, ha, hc⟩
  · omega
  · obtain ⟨x, hx⟩ : ∃ x, rs[i]? = some x := ⟨_, List.getElem?_eq_getElem hi⟩
    have hm := rcCells_at rs i x hx
    refine ⟨b, x, ha, hx, h2 x (List.mem_of_getElem? hx), ?_, ?_, ?_, ?_⟩
    · exact hc _ _ (hm 0 (by omega))
    · exact hc _ _ (hm 1 (by omega))
    · exact hc _ _ (hm 2 (by omega))
    · exact hc _ _ (hm 3 (by omega))
/-- Records that are owned, as ones that are read. -/
theorem owns_recs {w : World} {base : Nat} {v : Value} {rs : List Rc} (h : w.ownsRow base 24 4 v rs.length (rcCells rs)) (hi : ∀ x ∈ rs, IdsAt w x) :
    ∃ ao cap, v = .slice ao rs.length cap ∧ IsRecs w ao rs := by
  rcases h.2 with ⟨hv, h0⟩ | ⟨g, cap, cur, hv, _⟩
  · exact ⟨none, 0, by rw [h0]; exact hv, .inl h0, hi⟩
  · refine ⟨some ⟨g, 0, none⟩, cap, hv, .inr ⟨g, rfl, fun j u hu => ?_⟩, hi⟩
    have hc := h.cells (g := g) (by rw [hv]; rfl) j u hu
    rw [addPlain, Nat.zero_add] at hc
    exact hc
theorem owns_form4 {w : World} {base n : Nat} {e : TypeId} {size : Nat} {v : Value} {xs : List Value} (h : w.ownsRow base e size v n xs) : ∃ ao cap, v = .slice ao n cap := by
  rcases h.2 with ⟨hv, h0⟩ | ⟨g, cap, cur, hv, _⟩
  · exact ⟨none, 0, by rw [h0]; exact hv⟩
  · exact ⟨_, _, hv⟩
theorem rec_info : (Try.prog.info? 24).map (fun i => (i.zero, i.size, i.bytes)) = some (some (.agg #[.int .i64 0, .int .i64 0, .int .i64 0, .slice none 0 0]), 4, 48) := by kernel_rfl
/-- A record's four cells, in a block of their own. -/
theorem rec_news {w : World} {X : Nat} {T : TypeId} {x : Rc} (h : w.heap[X]? = some (.cells x.cells.toArray T (0, 0))) : ∀ j u, x.cells[j]? = some u → w.cell? ((⟨X, 0, none⟩ : Addr).add j) = some u := by
  intro j u hj
  rw [addPlain, Nat.zero_add, Lib.cell_of_heap h]
  simpa using hj

/-- The list of what they are. -/
def evs (rs : List Rc) : List EvR := rs.map Rc.R
theorem evs_app (l k : List Rc) : evs (l ++ k) = evs l ++ evs k := by simp [evs]
theorem evs_length (l : List Rc) : (evs l).length = l.length := by simp [evs]
theorem evs_at {l : List Rc} {i : Nat} {x : Rc} (h : l[i]? = some x) : (evs l)[i]? = some x.R := by simp [evs, h]
end Go.Proofs.Ytikhjofpioegbaa
