/-
  Records as values, in memory: slices of them, their numbers, copies of those.
-/
import Derived.Test.YtikhjofpioegbaaMgM
import Derived.Test.YtikhjofpioegbaaLpG
import Derived.Test.YtikhjofpioegbaaRecM
import Derived.Test.YtikhjofpioegbaaRecsIn
import Derived.Test.YtikhjofpioegbaaOwnNo
set_option linter.unusedSimpArgs false
set_option linter.unusedVariables false
namespace Go.Proofs.Ytikhjofpioegbaa
open Go.RowKit

/-- The cells of records. -/
def rvCells (rs : List Rv) : List Value := rs.flatMap Rv.cells
theorem rvCells_app (l k : List Rv) : rvCells (l ++ k) = rvCells l ++ rvCells k := by simp [rvCells]
theorem rvCells_one (x : Rv) : rvCells [x] = x.cells := by simp [rvCells]
theorem rvCells_length : ∀ rs : List Rv, (rvCells rs).length = rs.length * 4
  | [] => rfl
  | x :: l => by
    have e : rvCells (x :: l) = x.cells ++ rvCells l := by simp [rvCells]
    rw [e, List.length_append, rvCells_length l, List.length_cons]
    simp [Rv.cells]
    omega
theorem rvCells_at : ∀ (rs : List Rv) (i : Nat) (x : Rv), rs[i]? = some x → ∀ j, j < 4 → (rvCells rs)[i * 4 + j]? = x.cells[j]?
  | [], i, x, h, _, _ => by simp at h
  | y :: l, 0, x, h, j, hj => by
    simp at h
    subst h
    have e : rvCells (y :: l) = y.cells ++ rvCells l := by simp [rvCells]
    rw [e, List.getElem?_append_left (by simp [Rv.cells]; omega), Nat.zero_mul, Nat.zero_add]
  | y :: l, i + 1, x, h, j, hj => by
    have e : rvCells (y :: l) = y.cells ++ rvCells l := by simp [rvCells]
    rw [e, List.getElem?_append_right (by simp [Rv.cells]; omega)]
    have hl : y.cells.length = 4 := rfl
    rw [hl, show (i + 1) * 4 + j - 4 = i * 4 + j by omega]
    exact rvCells_at l i x (by simpa using h) j hj
theorem rv_one {rs : List Rv} : ∀ u ∈ rvCells rs, u.oneCell' = true := by
  intro u hu
  simp only [rvCells, List.mem_flatMap] at hu
  obtain ⟨x, _, hx⟩ := hu
  simp [Rv.cells, Rv.sl] at hx
  rcases hx with rfl | rfl | rfl | rfl <;> rfl
theorem rv_one1 {x : Rv} : ∀ u ∈ x.cells, u.oneCell' = true := by
  intro u hu
  simp [Rv.cells, Rv.sl] at hu
  rcases hu with rfl | rfl | rfl | rfl <;> rfl

/-- A slice of records, to be read. -/
def RecAt (w : World) (a : Option Addr) (rs : List Rv) : Prop :=
  rs.length = 0 ∨ ∃ b off, a = some ⟨b, off, none⟩ ∧ ∀ i x, rs[i]? = some x → w.cell? ⟨b, off + i * 4, none⟩ = some (.int .i64 x.k) ∧ w.cell? ⟨b, off + i * 4 + 1, none⟩ = some (.int .i64 x.n) ∧ w.cell? ⟨b, off + i * 4 + 2, none⟩ = some (.int .i64 x.r) ∧ w.cell? ⟨b, off + i * 4 + 3, none⟩ = some (.slice x.a x.len x.cap)
theorem RecAt.below {w w' : World} {a : Option Addr} {rs : List Rv} (h : RecAt w a rs) (hb : Below w.heap.size w w') : RecAt w' a rs := by
  rcases h with h | ⟨b, off, ha, hc⟩
  · exact .inl h
  · refine .inr ⟨b, off, ha, fun i x hx => ?_⟩
    obtain ⟨c0, c1, c2, c3⟩ := hc i x hx
    exact ⟨cells_below c0 hb, cells_below c1 hb, cells_below c2 hb, cells_below c3 hb⟩
/-- One of them. -/
theorem RecAt.get {w : World} {a : Option Addr} {rs : List Rv} (h : RecAt w a rs) {i : Nat} (hi : i < rs.length) : ∃ b off x, a = some ⟨b, off, none⟩ ∧ rs[i]? = some x ∧ w.cell? ⟨b, off + i * 4, none⟩ = some (.int .i64 x.k) ∧ w.cell? ⟨b, off + i * 4 + 1, none⟩ = some (.int .i64 x.n) ∧ w.cell? ⟨b, off + i * 4 + 2, none⟩ = some (.int .i64 x.r) ∧ w.cell? ⟨b, off + i * 4 + 3, none⟩ = some (.slice x.a x.len x.cap) := by
  rcases h with h | ⟨b, off, ha, hc⟩
  · omega
  · obtain ⟨x, hx⟩ : ∃ x, rs[i]? = some x := ⟨_, List.getElem?_eq_getElem hi⟩
    exact ⟨b, off, x, ha, hx, hc i x hx⟩
/-- Records that are owned, as ones that are read. -/
theorem owns_rv {w : World} {base : Nat} {v : Value} {rs : List Rv} {n : Nat} (h : w.ownsRow base 24 4 v n (rvCells rs)) (hn : rs.length = n) :
    ∃ ao cap, v = .slice ao n cap ∧ RecAt w ao rs := by
  rcases h.2 with ⟨hv, h0⟩ | ⟨g, cap, cur, hv, _⟩
  · exact ⟨none, 0, by rw [h0]; exact hv, .inl (by omega)⟩
  · refine ⟨some ⟨g, 0, none⟩, cap, hv, .inr ⟨g, 0, rfl, fun i x hx => ?_⟩⟩
    have hc := h.cells (g := g) (by rw [hv]; rfl)
    have at' : ∀ j u, j < 4 → x.cells[j]? = some u → w.cell? ⟨g, 0 + i * 4 + j, none⟩ = some u := fun j u hj hu => by
      have := hc (i * 4 + j) u ((rvCells_at rs i x hx j hj).trans hu)
      rwa [addPlain, ← Nat.add_assoc] at this
    exact ⟨at' 0 _ (by omega) rfl, at' 1 _ (by omega) rfl, at' 2 _ (by omega) rfl, at' 3 _ (by omega) rfl⟩
theorem owns_form {w : World} {base n size : Nat} {e : TypeId} {v : Value} {xs : List Value} (h : w.ownsRow base e size v n xs) : (n = 0 ∧ v = .slice none 0 0) ∨ ∃ g cap, v = .slice (some ⟨g, 0, none⟩) n cap := by
  rcases h.2 with ⟨hv, h0⟩ | ⟨g, cap, cur, hv, _⟩
  · exact .inl ⟨h0, hv⟩
  · exact .inr ⟨g, cap, hv⟩

theorem rv_alloc {w : World} {b j : Nat} {v : Value} (h : w.cell? ⟨b, j, none⟩ = some v) (o : Obj) : (w.alloc o).cell? ⟨b, j, none⟩ = some v := cells_below h ((Below.refl _ _).alloc (Nat.le_refl _) _)
/-- A record's numbers, to be read. -/
def Rd (w : World) (x : Rv) : Prop := (x.a = none → x.cap = 0) ∧ ∃ zs : List Int, zs.length = x.len ∧ IsRow .i64 w x.a x.len x.len zs
theorem Rd.below {w w' : World} {x : Rv} (h : Rd w x) (hb : Below w.heap.size w w') : Rd w' x := ⟨h.1, h.2.elim fun zs h => ⟨zs, h.1, h.2.below hb⟩⟩
theorem Rd.none {w : World} {x : Rv} (hn : x.a = none → x.cap = 0) (h : x.len = 0) : Rd w x := ⟨hn, [], by rw [h]; rfl, .inl h⟩
/-- Two records that say the same. -/
def Eqv (w : World) (x y : Rv) : Prop := Alike x y ∧ (y.a = none → y.cap = 0) ∧ ∃ zs : List Int, zs.length = x.len ∧ IsRow .i64 w x.a x.len x.len zs ∧ IsRow .i64 w y.a x.len x.len zs
theorem Eqv.below {w w' : World} {x y : Rv} (h : Eqv w x y) (hb : Below w.heap.size w w') : Eqv w' x y := ⟨h.1, h.2.1, h.2.2.elim fun zs h => ⟨zs, h.1, h.2.1.below hb, h.2.2.below hb⟩⟩
theorem Eqv.none {w : World} {x y : Rv} (h : Alike x y) (hn : y.a = none → y.cap = 0) (h0 : x.len = 0) : Eqv w x y := ⟨h, hn, [], by rw [h0]; rfl, .inl h0, .inl h0⟩
theorem Eqv.same {w : World} {x : Rv} (h : Rd w x) : Eqv w x x := ⟨.refl x, h.1, h.2.elim fun zs h => ⟨zs, h.1, h.2, h.2⟩⟩
theorem Eqv.rd {w : World} {x y : Rv} (h : Eqv w x y) : Rd w y := ⟨h.2.1, h.2.2.elim fun zs hz => ⟨zs, by rw [h.1.2.2.2]; exact hz.1, by rw [h.1.2.2.2]; exact hz.2.2⟩⟩
/-- A copy: the one's numbers lie where they lay, the other's are owned. -/
def Cp (w0 w : World) (x y : Rv) : Prop := Alike x y ∧ (y.a = none → y.cap = 0) ∧ ∃ zs : List Int, zs.length = x.len ∧ IsRow .i64 w0 x.a x.len x.len zs ∧ (x.len = 0 ∨ ∃ base, w.ownsRow base 3 1 y.sl x.len (inCells zs))
theorem Cp.keep {w0 w w' : World} {x y : Rv} (h : Cp w0 w x y) (hk : Keep 3 w w') : Cp w0 w' x y :=
  ⟨h.1, h.2.1, h.2.2.elim fun zs h => ⟨zs, h.1, h.2.1, h.2.2.elim .inl fun h => .inr (h.elim fun b h => ⟨b, hk.owns h⟩)⟩⟩
theorem Cp.up {w0 w1 w : World} {x y : Rv} (h : Cp w0 w x y) (hb : Below w0.heap.size w0 w1) : Cp w1 w x y :=
  ⟨h.1, h.2.1, h.2.2.elim fun zs h => ⟨zs, h.1, h.2.1.below hb, h.2.2⟩⟩
theorem Cp.none {w0 w : World} {x y : Rv} (h : Alike x y) (hn : y.a = none → y.cap = 0) (h0 : x.len = 0) : Cp w0 w x y := ⟨h, hn, [], by rw [h0]; rfl, .inl h0, .inl h0⟩
theorem Cp.eqv {w0 w : World} {x y : Rv} (h : Cp w0 w x y) (hb : Below w0.heap.size w0 w) (hm : x.len ≤ maxLen) : Eqv w x y := by
  obtain ⟨ha, hn, zs, hz, hr, ho⟩ := h
  refine ⟨ha, hn, zs, hz, hr.below hb, ?_⟩
  rcases ho with ho | ⟨b, ho⟩
  · exact .inl ho
  · rw [← hz] at ho hm
    obtain ⟨ao, cap, hv, hrow⟩ := row_of_ints ho hm
    simp only [Rv.sl, Value.slice.injEq] at hv
    obtain ⟨rfl, _, _⟩ := hv
    rw [← hz]
    exact hrow

/-- What came in, as values. -/
def rvOf (x : Ri) : Rv := ⟨x.k, x.n, x.r, x.a, x.len, x.cap⟩
theorem CameR.at {w : World} {a : Option Addr} {len cap : Nat} {rs : List Ri} (h : CameR w a len cap rs) : (rs.map rvOf).length = len ∧ RecAt w a (rs.map rvOf) ∧ ∀ x ∈ rs.map rvOf, Rd w x := by
  obtain ⟨h1, h2, h3, h4, h5⟩ := h
  refine ⟨by simpa using h1, ?_, fun x hx => ?_⟩
  · rcases h4 with h4 | ⟨b, off, ha, hc⟩
    · exact .inl (by rw [List.length_map]; omega)
    · refine .inr ⟨b, off, ha, fun i x hx => ?_⟩
      rw [List.getElem?_map] at hx
      obtain ⟨y, hy, rfl⟩ := Option.map_eq_some_iff.1 hx
      obtain ⟨hi, rfl⟩ := List.getElem?_eq_some_iff.1 hy
      exact hc i hi
  · obtain ⟨y, hy, rfl⟩ := List.mem_map.1 hx
    obtain ⟨hr, hl, hm, hn, _⟩ := h5 y hy
    rcases hr with h0 | ⟨b, off, ha, _, _, hz, hc⟩
    · exact Rd.none hn h0
    · refine ⟨hn, y.zs.take y.len, by simp [rvOf]; omega, .inr ⟨b, off, ha, Nat.le_refl _, by show y.len ≤ maxLen; omega, by simp [rvOf]; omega, fun i hi => ?_⟩⟩
      have hi' : i < y.len := hi
      have := hc i (by omega)
      rw [this]
      congr 2
      simp [List.getD, List.getElem?_take, hi']

/-- An append of numbers to nil: a copy of them. -/
theorem wpList_append_cp (w : World) {ops : Array Oper} {rest : List Oper} {o : Oper} {a : Act} {Q : Exit → Act → World → Prop} (hgd : o.guard = none) (s x : Operand)
    (ho : o.op = .call { callee := .builtin .append, args := #[s, x], argTypes := #[22, 22] })
    (ao : Option Addr) (m c : Nat) (zs : List Int) (hs : a.eval s = .slice none 0 0) (hx : a.eval x = .slice ao m c) (hz : zs.length = m) (hrow : IsRow .i64 w ao m m zs) (hn : ao = none → c = 0) (hm : m ≤ 1000000)
    (h : ∀ a' c' w', w'.ownsRow w.heap.size 3 1 (.slice a' m c') m (inCells zs) → Below w.heap.size w w' → (a' = none → c' = 0) → wpList Try.prog ops Q rest (a.put o.dst (.slice a' m c')) w') : wpList Try.prog ops Q (o :: rest) a w := by
  obtain ⟨i0, hi, hz0, hz1, hz2⟩ := info_parts int_info
  have hown := World.ownsRow_nil w w.heap.size 3 1
  cases ao with
  | none =>
    have h0 : m = 0 := by
      rcases hrow with h | ⟨b, off, h, _⟩
      · exact h
      · cases h
    subst h0
    obtain rfl : c = 0 := hn rfl
    obtain rfl : zs = [] := List.eq_nil_of_length_eq_zero hz
    exact wpList_append_no w hgd s x _ ho w.heap.size 3 i0 1 Try.underlying22 hi hz1 _ 0 [] hs hown hx (h none 0 w hown (Below.refl _ _) (fun _ => rfl))
  | some ad =>
    refine wpList_append_own (w := w) hgd s x _ ho w.heap.size 3 i0 (.int .i64 0) 1 8 Try.underlying22 hi hz0 hz1 hz2 rfl (by decide) _ 0 [] hs hown ad m c (inCells zs) hx (by simp [inCells, hz]) (fun j u hu => ?_) (fun u hu => ?_) (by unfold maxLen; omega) (by omega) (Nat.le_refl _) (fun v' w' hown' hg _ => ?_)
    · have hj : j < m := by
        rcases Nat.lt_or_ge j m with h | h
        · exact h
        · rw [List.getElem?_eq_none (by simp [inCells, hz]; exact h)] at hu; cases hu
      rcases hrow with h | ⟨b, off, h, _, _, _, hc⟩
      · omega
      · injection h with h
        subst h
        rw [addPlain, hc j hj]
        rw [← hu]
        simp [inCells, List.getD, List.getElem?_eq_getElem (show j < zs.length by omega)]
    · simp only [inCells, List.mem_map] at hu
      obtain ⟨z, _, rfl⟩ := hu
      rfl
    · rw [Nat.zero_add, List.nil_append] at hown'
      obtain ⟨rfl, rfl⟩ | ⟨g', c', rfl⟩ := owns_form hown'
      · exact h none 0 w' hown' (grown_below (Nat.le_refl _) hown hg) (fun _ => rfl)
      · exact h (some ⟨g', 0, none⟩) c' w' hown' (grown_below (Nat.le_refl _) hown hg) (fun e => by cases e)
end Go.Proofs.Ytikhjofpioegbaa
