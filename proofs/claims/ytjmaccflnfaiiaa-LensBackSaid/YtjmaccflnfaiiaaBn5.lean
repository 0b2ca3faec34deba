/-
  Texts put together: RecsIn, MgG, PnG, RcRm, OwnBe, RcNn, VarRef, RcRd, RkIs, IntoB, RcLf, RecC, RkRis.
-/
import Derived.Test.YtjmaccflnfaiiaaBn4
import Derived.Deep.SlicePairs
import Derived.ChangeSlices
import Derived.Test.YtjmaccflnfaiiaaBn3
import Derived.Test.YtjmaccflnfaiiaaRcM
import Derived.Test.YtjmaccflnfaiiaaBn1
import Derived.Test.YtjmaccflnfaiiaaVarM
import Derived.Test.YtjmaccflnfaiiaaRows
import Derived.WalkKit
import Derived.WalkSpells
import Derived.WalkLawsBesides
import Derived.Lib.Hide
import Derived.Outline
import Derived.IntWalk
import Derived.Lib.UnsafeStr
import Derived.Deep.RegionWith
import Derived.BigQuiet
import Derived.Deep.QuietTactic
set_option linter.unusedSimpArgs false
set_option linter.unusedVariables false
namespace Go.Proofs.Ytjmaccflnfaiiaa
open Go.ChangeShapes Go.WideShapes Go.Deep Go.RowKit

/-- A record that came in: its numbers, its slice, what can be read there. -/
structure Ri where
  k : Int
  n : Int
  r : Int
  a : Option Addr
  len : Nat
  cap : Nat
  zs : List Int
/-- What came in: records, each with a slice of its own, or with one that others have, too. -/
def CameR (w : World) (a : Option Addr) (len cap : Nat) (rs : List Ri) : Prop :=
  rs.length = len ∧ len ≤ cap ∧ cap ≤ maxLen ∧
    (len = 0 ∨ ∃ b off, a = some ⟨b, off, none⟩ ∧ ∀ i (h : i < rs.length), w.cell? ⟨b, off + i * 4, none⟩ = some (.int .i64 (rs[i]'h).k) ∧ w.cell? ⟨b, off + i * 4 + 1, none⟩ = some (.int .i64 (rs[i]'h).n) ∧ w.cell? ⟨b, off + i * 4 + 2, none⟩ = some (.int .i64 (rs[i]'h).r) ∧ w.cell? ⟨b, off + i * 4 + 3, none⟩ = some (.slice (rs[i]'h).a (rs[i]'h).len (rs[i]'h).cap)) ∧
    ∀ x ∈ rs, IsRow .i64 w x.a x.len x.cap x.zs ∧ x.len ≤ x.cap ∧ x.cap ≤ maxLen ∧ (x.a = none → x.cap = 0) ∧ (Lit.int .i64 x.k).wf = true ∧ (Lit.int .i64 x.n).wf = true ∧ (Lit.int .i64 x.r).wf = true

set_option maxRecDepth 100000 in
set_option maxHeartbeats 1000000 in
theorem came_recs {H : Type} {enc : TypeId × Value → H} {W : World} {a : Option Addr} {len cap : Nat} {d : DataW H} {p : List MemPlace} (h : DataW.Trod enc Try.prog W 0 (fun _ => true) true 28 (.slice a len cap) d p) :
    ∃ rs, CameR W a len cap rs := by
  obtain ⟨fuel, hf⟩ := h
  rcases open_slice Try.underlying28 hf with ⟨hcs, _⟩ | ⟨x, l, c, m, n, D, Pl, hcs, _, hl, hm, hmm, _, hc⟩
  · simp [Value.cells] at hcs
    obtain ⟨rfl, rfl, rfl⟩ := hcs
    exact ⟨[], rfl, Nat.zero_le _, Nat.zero_le _, .inl rfl, fun x hx => (by cases hx)⟩
  · simp [Value.cells] at hcs
    obtain ⟨rfl, rfl, rfl⟩ := hcs
    have hmc : m = cap := by rw [hmm]; rfl
    subst hmc
    have each : ∀ i, i < len → ∃ f : Ri, (W.cell? (x.add (i * 4)) = some (.int .i64 f.k) ∧ W.cell? (x.add (i * 4 + 1)) = some (.int .i64 f.n) ∧ W.cell? (x.add (i * 4 + 2)) = some (.int .i64 f.r) ∧ W.cell? (x.add (i * 4 + 3)) = some (.slice f.a f.len f.cap)) ∧
        (IsRow .i64 W f.a f.len f.cap f.zs ∧ f.len ≤ f.cap ∧ f.cap ≤ maxLen ∧ (f.a = none → f.cap = 0) ∧ (Lit.int .i64 f.k).wf = true ∧ (Lit.int .i64 f.n).wf = true ∧ (Lit.int .i64 f.r).wf = true) := by
      intro i hi
      obtain ⟨cs', h1, h2⟩ := hc i (by omega)
      rw [rec_cells4] at h1
      obtain ⟨_, hlen, hcell⟩ := World.cells?_some h1
      obtain ⟨y0, y1, y2, y3, q, _, _, g0, g1, g2, g3⟩ := Go.Joins.trod_struct4 Try.underlying34 h2
      match cs', hlen with
      | [v0, v1, v2, v3], _ =>
        have e0 := hcell 0 (by omega)
        have e1 := hcell 1 (by omega)
        have e2 := hcell 2 (by omega)
        have e3 := hcell 3 (by omega)
        rw [add_add] at e0 e1 e2 e3
        obtain ⟨k, k0, _, k1⟩ := DataW.trod_int Try.underlying3 (cs := [v0]) g0
        obtain ⟨n', n0, _, n1⟩ := DataW.trod_int Try.underlying3 (cs := [v1]) g1
        obtain ⟨r, r0, _, r1⟩ := DataW.trod_int Try.underlying3 (cs := [v2]) g2
        obtain ⟨a', len', cap', zs, hv, hrow, hle, hmx, hnn⟩ := came_ints (v := v3) g3
        simp at k0 n0 r0
        subst k0 n0 r0 hv
        exact ⟨⟨k, n', r, a', len', cap', zs⟩, ⟨by simpa using e0, by simpa using e1, by simpa using e2, by simpa using e3⟩, hrow, hle, hmx, hnn, k1, n1, r1⟩
    haveI : Inhabited Ri := ⟨⟨0, 0, 0, none, 0, 0, []⟩⟩
    obtain ⟨F, hF⟩ := choose_lt each
    refine ⟨(List.range len).map F, by simp, hl, hm, ?_, fun y hy => ?_⟩
    · rcases Nat.eq_zero_or_pos len with h0 | h0
      · exact .inl h0
      · right
        obtain ⟨b, off, spot⟩ := x
        have hc0 := (hF 0 h0).1.1
        have hspot : spot = none := by simpa [Addr.add] using World.cell?_spot hc0
        subst hspot
        refine ⟨b, off, rfl, fun i hi => ?_⟩
        simp only [List.length_map, List.length_range] at hi
        obtain ⟨⟨h1, h2, h3, h4⟩, _⟩ := hF i hi
        rw [addPlain] at h1 h2 h3 h4
        simp only [List.getElem_map, List.getElem_range]
        rw [Nat.add_assoc, Nat.add_assoc, Nat.add_assoc]
        exact ⟨h1, h2, h3, h4⟩
    · obtain ⟨i, hi, rfl⟩ := List.mem_map.1 hy
      exact (hF i (List.mem_range.1 hi)).2

theorem CameR.below {w w' : World} {a : Option Addr} {len cap : Nat} {rs : List Ri} (h : CameR w a len cap rs) (hb : Below w.heap.size w w') : CameR w' a len cap rs := by
  obtain ⟨h1, h2, h3, h4, h5⟩ := h
  refine ⟨h1, h2, h3, ?_, fun x hx => ⟨(h5 x hx).1.below hb, (h5 x hx).2⟩⟩
  rcases h4 with h4 | ⟨b, off, ha, hc⟩
  · exact .inl h4
  · refine .inr ⟨b, off, ha, fun i hi => ?_⟩
    obtain ⟨c0, c1, c2, c3⟩ := hc i hi
    have up : ∀ {j : Nat} {u : Value}, w.cell? ⟨b, j, none⟩ = some u → w'.cell? ⟨b, j, none⟩ = some u := fun {j u} h => by
      rw [hb.cell (p := ⟨b, j, none⟩) (World.block_lt_of_cell? w _ h)]
      exact h
    exact ⟨up c0, up c1, up c2, up c3⟩
end Go.Proofs.Ytjmaccflnfaiiaa

namespace Go.Proofs.Ytjmaccflnfaiiaa
open Go.RowKit

/-- The cells of records. -/
def rvCells (rs : List Rv) : List Value := rs.flatMap Rv.cells
theorem rvCells_app (l k : List Rv) : rvCells (l ++ k) = rvCells l ++ rvCells k := by simp [rvCells]
theorem rvCells_one (x : Rv) : rvCells [x] = x.cells := by simp [rvCells]
theorem rvCells_length : ∀ rs : List Rv, (rvCells rs).length = rs.length * 4
  | [] => rfl
  | x :: l => by
    have e : rvCells (x :: l) = x.cells ++ rvCells l := by simp [rvCells]
    rw [e, List.length_append, rvCells_length l, List.length_cons]
    simp [Rv.cells]
    omega
theorem rvCells_at : ∀ (rs : List Rv) (i : Nat) (x : Rv), rs[i]? = some x → ∀ j, j < 4 → (rvCells rs)[i * 4 + j]? = x.cells[j]?
  | [], i, x, h, _, _ => by simp at h
  | y :: l, 0, x, h, j, hj => by
    simp at h
    subst h
    have e : rvCells (y :: l) = y.cells ++ rvCells l := by simp [rvCells]
    rw [e, List.getElem?_append_left (by simp [Rv.cells]; omega), Nat.zero_mul, Nat.zero_add]
  | y :: l, i + 1, x, h, j, hj => by
    have e : rvCells (y :: l) = y.cells ++ rvCells l := by simp [rvCells]
    rw [e, List.getElem?_append_right (by simp [Rv.cells]; omega)]
    have hl : y.cells.length = 4 := rfl
    rw [hl, show (i + 1) * 4 + j - 4 = i * 4 + j by omega]
    exact rvCells_at l i x (by simpa using h) j hj
theorem rv_one {rs : List Rv} : ∀ u ∈ rvCells rs, u.oneCell' = true := by
  intro u hu
  simp only [rvCells, List.mem_flatMap] at hu
  obtain ⟨x, _, hx⟩ := hu
  simp [Rv.cells, Rv.sl] at hx
  rcases hx with rfl | rfl | rfl | rfl <;> rfl
theorem rv_one1 {x : Rv} : ∀ u ∈ x.cells, u.oneCell' = true := by
  intro u hu
  simp [Rv.cells, Rv.sl] at hu
  rcases hu with rfl | rfl | rfl | rfl <;> rfl

/-- A slice of records, to be read. -/
def RecAt (w : World) (a : Option Addr) (rs : List Rv) : Prop :=
  rs.length = 0 ∨ ∃ b off, a = some ⟨b, off, none⟩ ∧ ∀ i x, rs[i]? = some x → w.cell? ⟨b, off + i * 4, none⟩ = some (.int .i64 x.k) ∧ w.cell? ⟨b, off + i * 4 + 1, none⟩ = some (.int .i64 x.n) ∧ w.cell? ⟨b, off + i * 4 + 2, none⟩ = some (.int .i64 x.r) ∧ w.cell? ⟨b, off + i * 4 + 3, none⟩ = some (.slice x.a x.len x.cap)
theorem RecAt.below {w w' : World} {a : Option Addr} {rs : List Rv} (h : RecAt w a rs) (hb : Below w.heap.size w w') : RecAt w' a rs := by
  rcases h with h | ⟨b, off, ha, hc⟩
  · exact .inl h
  · refine .inr ⟨b, off, ha, fun i x hx => ?_⟩
    obtain ⟨c0, c1, c2, c3⟩ := hc i x hx
    exact ⟨cells_below c0 hb, cells_below c1 hb, cells_below c2 hb, cells_below c3 hb⟩
/-- One of them. -/
theorem RecAt.get {w : World} {a : Option Addr} {rs : List Rv} (h : RecAt w a rs) {i : Nat} (hi : i < rs.length) : ∃ b off x, a = some ⟨b, off, none⟩ ∧ rs[i]? = some x ∧ w.cell? ⟨b, off + i * 4, none⟩ = some (.int .i64 x.k) ∧ w.cell? ⟨b, off + i * 4 + 1, none⟩ = some (.int .i64 x.n) ∧ w.cell? ⟨b, off + i * 4 + 2, none⟩ = some (.int .i64 x.r) ∧ w.cell? ⟨b, off + i * 4 + 3, none⟩ = some (.slice x.a x.len x.cap) := by
  rcases h with h | ⟨b, off, ha, hc⟩
  · omega
  · obtain ⟨x, hx⟩ : ∃ x, rs[i]? = some x := ⟨_, List.getElem?_eq_getElem hi⟩
    exact ⟨b, off, x, ha, hx, hc i x hx⟩
/-- Records that are owned, as ones that are read. -/
theorem owns_rv {w : World} {base : Nat} {v : Value} {rs : List Rv} {n : Nat} (h : w.ownsRow base 34 4 v n (rvCells rs)) (hn : rs.length = n) :
    ∃ ao cap, v = .slice ao n cap ∧ RecAt w ao rs := by
  rcases h.2 with ⟨hv, h0⟩ | ⟨g, cap, cur, hv, _⟩
  · exact ⟨none, 0, by rw [h0]; exact hv, .inl (by omega)⟩
  · refine ⟨some ⟨g, 0, none⟩, cap, hv, .inr ⟨g, 0, rfl, fun i x hx => ?_⟩⟩
    have hc := h.cells (g := g) (by rw [hv]; rfl)
    have at' : ∀ j u, j < 4 → x.cells[j]? = some u → w.cell? ⟨g, 0 + i * 4 + j, none⟩ = some u := fun j u hj hu => by
      have := hc (i * 4 + j) u ((rvCells_at rs i x hx j hj).trans hu)
      rwa [addPlain, ← Nat.add_assoc] at this
    exact ⟨at' 0 _ (by omega) rfl, at' 1 _ (by omega) rfl, at' 2 _ (by omega) rfl, at' 3 _ (by omega) rfl⟩
theorem owns_form {w : World} {base n size : Nat} {e : TypeId} {v : Value} {xs : List Value} (h : w.ownsRow base e size v n xs) : (n = 0 ∧ v = .slice none 0 0) ∨ ∃ g cap, v = .slice (some ⟨g, 0, none⟩) n cap := by
  rcases h.2 with ⟨hv, h0⟩ | ⟨g, cap, cur, hv, _⟩
  · exact .inl ⟨h0, hv⟩
  · exact .inr ⟨g, cap, hv⟩

theorem rv_alloc {w : World} {b j : Nat} {v : Value} (h : w.cell? ⟨b, j, none⟩ = some v) (o : Obj) : (w.alloc o).cell? ⟨b, j, none⟩ = some v := cells_below h ((Below.refl _ _).alloc (Nat.le_refl _) _)
/-- A record's numbers, to be read. -/
def Rd (w : World) (x : Rv) : Prop := (x.a = none → x.cap = 0) ∧ ∃ zs : List Int, zs.length = x.len ∧ IsRow .i64 w x.a x.len x.len zs
theorem Rd.below {w w' : World} {x : Rv} (h : Rd w x) (hb : Below w.heap.size w w') : Rd w' x := ⟨h.1, h.2.elim fun zs h => ⟨zs, h.1, h.2.below hb⟩⟩
theorem Rd.none {w : World} {x : Rv} (hn : x.a = none → x.cap = 0) (h : x.len = 0) : Rd w x := ⟨hn, [], by rw [h]; rfl, .inl h⟩
/-- Two records that say the same. -/
def Eqv (w : World) (x y : Rv) : Prop := Alike x y ∧ (y.a = none → y.cap = 0) ∧ ∃ zs : List Int, zs.length = x.len ∧ IsRow .i64 w x.a x.len x.len zs ∧ IsRow .i64 w y.a x.len x.len zs
theorem Eqv.below {w w' : World} {x y : Rv} (h : Eqv w x y) (hb : Below w.heap.size w w') : Eqv w' x y := ⟨h.1, h.2.1, h.2.2.elim fun zs h => ⟨zs, h.1, h.2.1.below hb, h.2.2.below hb⟩⟩
theorem Eqv.none {w : World} {x y : Rv} (h : Alike x y) (hn : y.a = none → y.cap = 0) (h0 : x.len = 0) : Eqv w x y := ⟨h, hn, [], by rw [h0]; rfl, .inl h0, .inl h0⟩
theorem Eqv.same {w : World} {x : Rv} (h : Rd w x) : Eqv w x x := ⟨.refl x, h.1, h.2.elim fun zs h => ⟨zs, h.1, h.2, h.2⟩⟩
theorem Eqv.rd {w : World} {x y : Rv} (h : Eqv w x y) : Rd w y := ⟨h.2.1, h.2.2.elim fun zs hz => ⟨zs, by rw [h.1.2.2.2]; exact hz.1, by rw [h.1.2.2.2]; exact hz.2.2⟩⟩
/-- A copy: the one's numbers lie where they lay, the other's are owned. -/
def Cp (w0 w : World) (x y : Rv) : Prop := Alike x y ∧ (y.a = none → y.cap = 0) ∧ ∃ zs : List Int, zs.length = x.len ∧ IsRow .i64 w0 x.a x.len x.len zs ∧ (x.len = 0 ∨ ∃ base, w.ownsRow base 3 1 y.sl x.len (inCells zs))
theorem Cp.keep {w0 w w' : World} {x y : Rv} (h : Cp w0 w x y) (hk : Keep 3 w w') : Cp w0 w' x y :=
  ⟨h.1, h.2.1, h.2.2.elim fun zs h => ⟨zs, h.1, h.2.1, h.2.2.elim .inl fun h => .inr (h.elim fun b h => ⟨b, hk.owns h⟩)⟩⟩
theorem Cp.up {w0 w1 w : World} {x y : Rv} (h : Cp w0 w x y) (hb : Below w0.heap.size w0 w1) : Cp w1 w x y :=
  ⟨h.1, h.2.1, h.2.2.elim fun zs h => ⟨zs, h.1, h.2.1.below hb, h.2.2⟩⟩
theorem Cp.none {w0 w : World} {x y : Rv} (h : Alike x y) (hn : y.a = none → y.cap = 0) (h0 : x.len = 0) : Cp w0 w x y := ⟨h, hn, [], by rw [h0]; rfl, .inl h0, .inl h0⟩
theorem Cp.eqv {w0 w : World} {x y : Rv} (h : Cp w0 w x y) (hb : Below w0.heap.size w0 w) (hm : x.len ≤ maxLen) : Eqv w x y := by
  obtain ⟨ha, hn, zs, hz, hr, ho⟩ := h
  refine ⟨ha, hn, zs, hz, hr.below hb, ?_⟩
  rcases ho with ho | ⟨b, ho⟩
  · exact .inl ho
  · rw [← hz] at ho hm
    obtain ⟨ao, cap, hv, hrow⟩ := row_of_ints ho hm
    simp only [Rv.sl, Value.slice.injEq] at hv
    obtain ⟨rfl, _, _⟩ := hv
    rw [← hz]
    exact hrow

/-- What came in, as values. -/
def rvOf (x : Ri) : Rv := ⟨x.k, x.n, x.r, x.a, x.len, x.cap⟩
theorem CameR.at {w : World} {a : Option Addr} {len cap : Nat} {rs : List Ri} (h : CameR w a len cap rs) : (rs.map rvOf).length = len ∧ RecAt w a (rs.map rvOf) ∧ ∀ x ∈ rs.map rvOf, Rd w x := by
  obtain ⟨h1, h2, h3, h4, h5⟩ := h
  refine ⟨by simpa using h1, ?_, fun x hx => ?_⟩
  · rcases h4 with h4 | ⟨b, off, ha, hc⟩
    · exact .inl (by rw [List.length_map]; omega)
    · refine .inr ⟨b, off, ha, fun i x hx => ?_⟩
      rw [List.getElem?_map] at hx
      obtain ⟨y, hy, rfl⟩ := Option.map_eq_some_iff.1 hx
      obtain ⟨hi, rfl⟩ := List.getElem?_eq_some_iff.1 hy
      exact hc i hi
  · obtain ⟨y, hy, rfl⟩ := List.mem_map.1 hx
    obtain ⟨hr, hl, hm, hn, _⟩ := h5 y hy
    rcases hr with h0 | ⟨b, off, ha, _, _, hz, hc⟩
    · exact Rd.none hn h0
    · refine ⟨hn, y.zs.take y.len, by simp [rvOf]; omega, .inr ⟨b, off, ha, Nat.le_refl _, by show y.len ≤ maxLen; omega, by simp [rvOf]; omega, fun i hi => ?_⟩⟩
      have hi' : i < y.len := hi
      have := hc i (by omega)
      rw [this]
      congr 2
      simp [List.getD, List.getElem?_take, hi']

/-- An append of numbers to nil: a copy of them. -/
theorem wpList_append_cp (w : World) {ops : Array Oper} {rest : List Oper} {o : Oper} {a : Act} {Q : Exit → Act → World → Prop} (hgd : o.guard = none) (s x : Operand)
    (ho : o.op = .call { callee := .builtin .append, args := #[s, x], argTypes := #[23, 23] })
    (ao : Option Addr) (m c : Nat) (zs : List Int) (hs : a.eval s = .slice none 0 0) (hx : a.eval x = .slice ao m c) (hz : zs.length = m) (hrow : IsRow .i64 w ao m m zs) (hn : ao = none → c = 0) (hm : m ≤ 1000000)
    (h : ∀ a' c' w', w'.ownsRow w.heap.size 3 1 (.slice a' m c') m (inCells zs) → Below w.heap.size w w' → (a' = none → c' = 0) → wpList Try.prog ops Q rest (a.put o.dst (.slice a' m c')) w') : wpList Try.prog ops Q (o :: rest) a w := by
  obtain ⟨i0, hi, hz0, hz1, hz2⟩ := info_parts int_info
  have hown := World.ownsRow_nil w w.heap.size 3 1
  cases ao with
  | none =>
    have h0 : m = 0 := by
      rcases hrow with h | ⟨b, off, h, _⟩
      · exact h
      · cases h
    subst h0
    obtain rfl : c = 0 := hn rfl
    obtain rfl : zs = [] := List.eq_nil_of_length_eq_zero hz
    exact wpList_append_no w hgd s x _ ho w.heap.size 3 i0 1 Try.underlying23 hi hz1 _ 0 [] hs hown hx (h none 0 w hown (Below.refl _ _) (fun _ => rfl))
  | some ad =>
    refine wpList_append_own (w := w) hgd s x _ ho w.heap.size 3 i0 (.int .i64 0) 1 8 Try.underlying23 hi hz0 hz1 hz2 rfl (by decide) _ 0 [] hs hown ad m c (inCells zs) hx (by simp [inCells, hz]) (fun j u hu => ?_) (fun u hu => ?_) (by unfold maxLen; omega) (by omega) (Nat.le_refl _) (fun v' w' hown' hg _ => ?_)
    · have hj : j < m := by
        rcases Nat.lt_or_ge j m with h | h
        · exact h
        · rw [List.getElem?_eq_none (by simp [inCells, hz]; exact h)] at hu; cases hu
      rcases hrow with h | ⟨b, off, h, _, _, _, hc⟩
      · omega
      · injection h with h
        subst h
        rw [addPlain, hc j hj]
        rw [← hu]
        simp [inCells, List.getD, List.getElem?_eq_getElem (show j < zs.length by omega)]
    · simp only [inCells, List.mem_map] at hu
      obtain ⟨z, _, rfl⟩ := hu
      rfl
    · rw [Nat.zero_add, List.nil_append] at hown'
      obtain ⟨rfl, rfl⟩ | ⟨g', c', rfl⟩ := owns_form hown'
      · exact h none 0 w' hown' (grown_below (Nat.le_refl _) hown hg) (fun _ => rfl)
      · exact h (some ⟨g', 0, none⟩) c' w' hown' (grown_below (Nat.le_refl _) hown hg) (fun e => by cases e)
end Go.Proofs.Ytjmaccflnfaiiaa

namespace Go.Proofs.Ytjmaccflnfaiiaa
open Go.RowKit

/-- The numbers of a row are just these. -/
theorem row_one {w : World} {a : Option Addr} {n : Nat} {zs ys : List Int} (h1 : zs.length = n) (h2 : ys.length = n) (hz : IsRow .i64 w a n n zs) (hy : IsRow .i64 w a n n ys) : zs = ys := by
  refine List.ext_getElem (by omega) fun i hi hi' => ?_
  rcases hz with hz | ⟨b, off, ha, _, _, _, hc⟩
  · omega
  rcases hy with hy | ⟨b', off', ha', _, _, _, hc'⟩
  · omega
  rw [ha] at ha'
  injection ha' with ha'
  injection ha' with hb ho _
  subst hb ho
  have e := hc i (by omega)
  rw [hc' i (by omega)] at e
  rw [getD_at zs i hi, getD_at ys i hi'] at e
  injection e with e
  injection e with _ e
  exact e.symm
open Classical in
/-- The numbers of a record, as they lie. -/
noncomputable def rvI (w : World) (x : Rv) : List Int := if h : ∃ zs : List Int, zs.length = x.len ∧ IsRow .i64 w x.a x.len x.len zs then Classical.choose h else []
theorem rvi_row {w : World} {x : Rv} (h : Rd w x) : (rvI w x).length = x.len ∧ IsRow .i64 w x.a x.len x.len (rvI w x) := by
  unfold rvI
  rw [dif_pos h.2]
  exact Classical.choose_spec h.2
theorem rvi_is {w : World} {x : Rv} {zs : List Int} (h1 : zs.length = x.len) (h2 : IsRow .i64 w x.a x.len x.len zs) : rvI w x = zs := by
  have h : ∃ zs : List Int, zs.length = x.len ∧ IsRow .i64 w x.a x.len x.len zs := ⟨zs, h1, h2⟩
  have e := Classical.choose_spec h
  unfold rvI
  rw [dif_pos h]
  exact row_one e.1 h1 e.2 h2
theorem rvi_none {w : World} {x : Rv} (h : x.len = 0) : rvI w x = [] := rvi_is (by rw [h]; rfl) (.inl h)
theorem rvi_below {w w' : World} {x : Rv} (h : Rd w x) (hb : Below w.heap.size w w') : rvI w' x = rvI w x := rvi_is (rvi_row h).1 ((rvi_row h).2.below hb)
/-- A copy has the same numbers. -/
theorem rvi_copy {w w' : World} {x y : Rv} (h : Cp w w' x y) (hm : x.len ≤ maxLen) : (rvI w x).length = y.len ∧ IsRow .i64 w' y.a y.len y.len (rvI w x) := by
  obtain ⟨ha, hn, zs, hz, hr, ho⟩ := h
  have e := rvi_is hz hr
  rw [e, ha.2.2.2]
  refine ⟨hz, ?_⟩
  rcases ho with ho | ⟨b, ho⟩
  · exact .inl ho
  · rw [← hz] at ho hm
    obtain ⟨ao, cap, hv, hrow⟩ := row_of_ints ho hm
    simp only [Rv.sl, Value.slice.injEq] at hv
    obtain ⟨rfl, _, _⟩ := hv
    rw [← hz]
    exact hrow

/-- May it be written; its bytes. -/
noncomputable def rvOk (w : World) (x : Rv) : Bool := okK x.k x.n x.r (rvI w x)
noncomputable def rvB (w : World) (x : Rv) : List UInt8 := if rvOk w x = true then putK x.k x.n x.r (rvI w x) else []
theorem rvOk_plus {w : World} (y x : Rv) (hy : rvOk w y = true) (hx : rvOk w x = true) (ht : twoB y x = true) : rvOk w (plusR y x) = true := by
  unfold rvOk
  rw [rvi_none (x := plusR y x) rfl]
  exact okK_plus hy hx ht
theorem rvB_len {w : World} {x : Rv} (h : Rd w x) (hl : x.len ≤ 300) : (rvB w x).length ≤ 3000 := by
  unfold rvB
  by_cases hk : rvOk w x = true
  · rw [if_pos hk]
    exact putK_len hk (by rw [(rvi_row h).1]; exact hl)
  · rw [if_neg hk]; simp
theorem rvB_alike {w : World} {x y : Rv} (h : Alike x y) (hi : rvI w y = rvI w x) : rvOk w y = rvOk w x ∧ rvB w y = rvB w x := by
  obtain ⟨a, b, c, d⟩ := h
  have e : rvOk w y = rvOk w x := by unfold rvOk; rw [a, b, c, hi]
  exact ⟨e, by unfold rvB; rw [e, a, b, c, hi]⟩
end Go.Proofs.Ytjmaccflnfaiiaa

namespace Go.Proofs.Ytjmaccflnfaiiaa
open Go.RowKit


theorem ris_mem : ∀ (l : List Int) (a : Int), risF a l = true → ∀ x ∈ l, a < x ∧ x ≤ 65534
  | [], a, h, x, hx => by simp at hx
  | y :: r, a, h, x, hx => by
    obtain ⟨h1, h2, h3⟩ := ris_cons.1 h
    rcases List.mem_cons.1 hx with rfl | hx
    · exact ⟨h1, by omega⟩
    · have := ris_mem r y h3 x hx
      exact ⟨by omega, this.2⟩
end Go.Proofs.Ytjmaccflnfaiiaa

namespace Go.Proofs.Ytjmaccflnfaiiaa
open Go.RowKit

theorem own_below {base : Nat} {e : TypeId} {v : Value} {n : Nat} {xs : List Value} {w0 w w' : World} {o : Obj} (hb : Below w0.heap.size w0 w) (hown : w.ownsRow base e 1 v n xs) (hbase : w0.heap.size ≤ base) (hg : (w.alloc o).grownBy w' v.ownBlock) : Below w0.heap.size w0 w' :=
  hb.trans ⟨hg.os, hg.tape, hg.output, Nat.le_trans (by simp) hg.size, fun i hi => by
    rw [hg.block i (by have := hb.size; simp; omega) (fun e => by have := (hown.lt i e.symm).1; omega), Lib.alloc_old _ _ i (by have := hb.size; omega)]⟩
end Go.Proofs.Ytjmaccflnfaiiaa

namespace Go.Proofs.Ytjmaccflnfaiiaa
open Go.RowKit

theorem dif_mem : ∀ (l : List Int) (a : Int), 0 ≤ a → a ≤ 65534 → (∀ x ∈ l, 0 ≤ x ∧ x ≤ 65534) → ∀ y ∈ difL a l, -65534 ≤ y ∧ y ≤ 65534
  | [], a, h0, h1, h, y, hy => by simp [difL] at hy
  | x :: r, a, h0, h1, h, y, hy => by
    have hx := h x (by simp)
    rcases List.mem_cons.1 hy with rfl | hy
    · omega
    · exact dif_mem r x hx.1 hx.2 (fun z hz => h z (by simp [hz])) y hy
/-- What is told of it: few numbers, each one that a cell holds. -/
theorem nums_64 {k n r : Int} {ids : List Int} (h : okK k n r ids = true) : Int64s (numsL k n r ids) ∧ (numsL k n r ids).length ≤ 65536 ∧ 1 ≤ (numsL k n r ids).length := by
  unfold numsL
  by_cases h4 : k = 4
  · rw [if_pos h4]
    have h3 := ((ok_at h4).1 h).2.2
    have hl := ris_len ids (-1) (by omega) (by omega) h3
    have hm := ris_mem ids (-1) h3
    refine ⟨fun y hy => ?_, by rw [List.length_cons, dif_len]; omega, by simp⟩
    rcases List.mem_cons.1 hy with rfl | hy
    · omega
    · have := dif_mem ids 0 (by omega) (by omega) (fun x hx => by have := hm x hx; omega) y hy
      omega
  · rw [if_neg h4]
    obtain ⟨_, h1, h2, _⟩ := (ok_no h4).1 h
    have b1 := fit_bounds h1
    have b2 := fit_bounds h2
    refine ⟨fun y hy => ?_, by simp, by simp⟩
    simp at hy
    rcases hy with rfl | rfl <;> omega

end Go.Proofs.Ytjmaccflnfaiiaa

namespace Go.Proofs.Ytjmaccflnfaiiaa
open Go.RowKit

/-- 'string(b)' of a slice that holds one byte. -/
theorem one_back (W : World) (b : Nat) (n : Int) (h0 : 0 ≤ n) (h : n < 256) (hc : W.cell? ⟨b, 0, none⟩ = some (.int .u8 n)) :
    (convert 50 9 (.slice (some ⟨b, 0, none⟩) 1 1)).run Try.prog W = .ok (.string ⟨#[vb n]⟩) W := by
  refine run_convert_bytes_back W 50 9 5 ⟨b, 0, none⟩ 1 [vb n] Try.underlying50 Try.underlying5 Try.underlying9 (fun j hj => ?_)
  obtain rfl : j = 0 := by simp at hj; omega
  rw [show (⟨b, 0, none⟩ : Addr).add 0 = ⟨b, 0, none⟩ from by simp [Addr.add]]
  simp only [List.getElem_cons_zero]
  rw [vb_toNat n h0 h]
  exact hc

theorem bcell {W w1 : World} (hb : Below W.heap.size W w1) : (∀ b o, b < W.heap.size → w1.cell? ⟨b, o, none⟩ = W.cell? ⟨b, o, none⟩) ∧ (∀ b o, b < W.heap.size → w1.frozen? ⟨b, o, none⟩ = W.frozen? ⟨b, o, none⟩) :=
  ⟨fun b o h => hb.cell (p := ⟨b, o, none⟩) h, fun b o h => hb.frozen (p := ⟨b, o, none⟩) h⟩

theorem below_o1 {w w1 : World} {o : Obj} (hb : Below (w.alloc o).drew.heap.size (w.alloc o).drew w1) : Below w.heap.size w w1 :=
  ((Below.refl _ _).alloc (Nat.le_refl _) _).drew.trans (hb.mono (by simp))
theorem below_o3 {w w1 : World} (hb : Below w.drew.heap.size w.drew w1) (o : Obj) : Below w.heap.size w (w1.alloc o) :=
  ((Below.refl _ _).drew.trans hb).alloc (by have := hb.size; simpa using this) _

set_option maxHeartbeats 400000 in
set_option maxRecDepth 100000 in
theorem refput_neg (n : Int) (w : World) (hn : n < 0) :
    Calls Try.prog 51 #[.int .i64 n] w fun e w' => e = .returned (.string ⟨(vput n).toArray⟩) ∧ Below w.heap.size w w' := by
  have hv := Lib.hid (vput_neg n hn)
  go_enter Try.func51, Try.ntmps51
  go_wp2_with fail
  go_ret
  exact ⟨by rw [hv.out]; rfl, Below.refl _ _⟩

set_option maxHeartbeats 400000 in
set_option maxRecDepth 100000 in
theorem refput_small (n : Int) (w : World) (h0 : 0 ≤ n) (hn : n < 128) :
    Calls Try.prog 51 #[.int .i64 n] w fun e w' => e = .returned (.string ⟨(vput n).toArray⟩) ∧ Below w.heap.size w w' := by
  have hv := Lib.hid (vput_small n h0 hn)
  go_enter Try.func51, Try.ntmps51
  go_wp2_with fail
  rw [one_back (w.alloc (.cells #[.int .u8 n] 5)) w.heap.size n h0 (by omega) (by rw [World.cell?_alloc_new]; rfl)]
  simp only [Result.andThen]
  rw [Oper.upon_value]
  go_wp2
  go_ret
  exact ⟨by rw [hv.out]; rfl, (Below.refl _ _).alloc (Nat.le_refl _) _⟩

set_option maxHeartbeats 1000000 in
set_option maxRecDepth 100000 in
theorem refput_any (k : Nat) : ∀ (n : Int) (w : World), n.toNat ≤ k → n ≤ 9223372036854775807 →
    Calls Try.prog 51 #[.int .i64 n] w fun e w' => e = .returned (.string ⟨(vput n).toArray⟩) ∧ Below w.heap.size w w' := by
  induction k with
  | zero =>
    intro n w hk h1
    by_cases hn : n < 0
    · exact refput_neg n w hn
    · exact refput_small n w (by omega) (by omega)
  | succ k ih =>
    intro n w hk h1
    by_cases hn : n < 0
    · exact refput_neg n w hn
    · by_cases h128 : n < 128
      · exact refput_small n w (by omega) h128
      · have IH := Lib.hid (fun w => ih (n / 128) w (by omega) (by omega))
        clear ih
        have hv := Lib.hid (vput_big n (by omega))
        have hlen := vput_length (n / 128) (by omega)
        have e1 : n.tmod 128 = n % 128 := Int.tmod_eq_emod_of_nonneg (by omega)
        have e2 : n.tdiv 128 = n / 128 := Int.tdiv_eq_ediv_of_nonneg (by omega)
        have e3 : IntKind.i64.wrap (n % 128 + 128) = n % 128 + 128 := IntWalk.i64_in _ (by omega)
        have e4 : IntKind.u8.wrap (n % 128 + 128) = n % 128 + 128 := by rw [IntKind.wrap_u8]; omega
        have e5 : IntKind.i64.wrap (n / 128) = n / 128 := IntWalk.i64_in _ (by omega)
        have hconv : ∀ (W : World) (b : Nat), W.cell? ⟨b, 0, none⟩ = some (.int .u8 (n % 128 + 128)) → (convert 50 9 (.slice (some ⟨b, 0, none⟩) 1 1)).run Try.prog W = .ok (.string ⟨#[vb (n % 128 + 128)]⟩) W :=
          fun W b hc => one_back W b _ (by omega) (by omega) hc
        go_enter Try.func51, Try.ntmps51
        go_wp2_with fail
        go_region_with (go_at_call 51; refine (IH.out _).mono ?_; rintro e w1 ⟨rfl, hb1⟩; obtain ⟨hc, hf⟩ := bcell hb1)
        all_goals go_wp2
        all_goals go_ret
        all_goals refine ⟨by rw [hv.out]; simp [ByteArray.mk_append_mk]; rfl, ?_⟩
        all_goals first | exact below_o1 hb1 | exact below_o3 hb1 _

/-- Take's answer: number, size, error; the world as it was. -/
def RetT (n s x : Int) (w : World) (e : Ending) (w' : World) : Prop := e = .returned (.tuple #[.int .i64 n, .int .i64 s, .int .i64 x]) ∧ w = w'

theorem RetT.mk {n s x : Int} {w : World} {e : Ending} (h : e = .returned (.tuple #[.int .i64 n, .int .i64 s, .int .i64 x])) : RetT n s x w e w := ⟨h, rfl⟩

end Go.Proofs.Ytjmaccflnfaiiaa

namespace Go.Proofs.Ytjmaccflnfaiiaa
open Go.RowKit


theorem ris_drop {ids : List Int} {k : Nat} (h : k < ids.length) (a : Int) : risF a (ids.drop k) = (decide (a < ids.getD k 0) && (decide (ids.getD k 0 < 65535) && risF (ids.getD k 0) (ids.drop (k + 1)))) := by
  rw [List.drop_eq_getElem_cons h, risF, getD_at ids k h]

end Go.Proofs.Ytjmaccflnfaiiaa

namespace Go.Proofs.Ytjmaccflnfaiiaa
open Go.RowKit


theorem all_take_succ (zs : List Int) (k : Nat) (h : k < zs.length) : (zs.take (k + 1)).all ofs = ((zs.take k).all ofs && ofs (zs.getD k 0)) := by
  rw [take_snoc zs k h, List.all_append]; simp

theorem all_take_bad (zs : List Int) (k len : Nat) (h : k < zs.length) (hk : k < len) (hb : ofs (zs.getD k 0) = false) : (zs.take len).all ofs = false := by
  rw [List.all_eq_false]
  refine ⟨zs.getD k 0, ?_, by rw [hb]; simp⟩
  rw [getD_at zs k h]
  rw [List.mem_take_iff_getElem]
  exact ⟨k, by omega, rfl⟩

set_option maxHeartbeats 400000 in
theorem off_any (a : Option Addr) (len cap : Nat) (zs : List Int) (w : World) (r : Bool) (h1 : len ≤ 100)
    (hr : IsRow .i64 w a len cap zs) (hall : (zs.take len).all ofs = r) :
    Calls Try.prog 56 #[.slice a len cap] w fun e w' => e = .returned (.bool r) ∧ w = w' := by
  go_enter Try.func56, Try.ntmps56
  go_wp2
  go_loop [7] (fun i => ∃ k : Nat, k ≤ len ∧ i = .int .i64 k ∧ Hid ((zs.take k).all ofs = true)) (fun i => len - (RowKit.intOf i).toNat)
  case atStart => exact ⟨0, Nat.zero_le _, rfl, Lib.hid rfl⟩
  case round =>
    obtain ⟨k, hk, rfl, HK⟩ := hrel
    by_cases hlt : k < len
    · obtain h0 | ⟨b, off, rfl, hcap, hm, hz, hc⟩ := hr
      · omega
      have hcell := hc k (by omega)
      have HS := Lib.hid (all_take_succ zs k (by omega))
      have HB := Lib.hid (all_take_bad zs k len (by omega) hlt)
      clear hc hz
      generalize zs.getD k 0 = x at hcell HS HB
      by_cases hx0 : x < 0
      · have hf := HB.out (ofs_low hx0)
        rw [hall] at hf
        subst hf
        go_wp2
        go_ret
        exact ⟨rfl, rfl⟩
      · by_cases hx1 : 4611686018427387903 < x
        · have hf := HB.out (ofs_high hx1)
          rw [hall] at hf
          subst hf
          go_wp2
          go_ret
          exact ⟨rfl, rfl⟩
        · have hx := ofs_mk (n := x) (by omega) (by omega)
          go_wp2
          exact ⟨⟨k + 1, by omega, by go_num, Lib.hid (by rw [HS.out, HK.out, hx]; rfl)⟩, by simp [RowKit.intOf]; omega⟩
    · obtain rfl : k = len := by omega
      have hf := HK.out
      rw [hall] at hf
      subst hf
      go_wp2
      go_ret
      exact ⟨rfl, rfl⟩

theorem row1 (w : World) (a : Int) (T : TypeId) : IsRow .i64 (w.alloc (.cells #[.int .i64 a] T)) (some ⟨w.heap.size, 0, none⟩) 1 1 [a] := by
  refine .inr ⟨w.heap.size, 0, rfl, by omega, by unfold maxLen; omega, rfl, fun i hi => ?_⟩
  obtain rfl : i = 0 := by omega
  rw [Nat.zero_add, World.cell?_alloc_new]
  rfl
theorem row2 (w : World) (a b : Int) (T : TypeId) : IsRow .i64 (w.alloc (.cells #[.int .i64 a, .int .i64 b] T)) (some ⟨w.heap.size, 0, none⟩) 2 2 [a, b] := by
  refine .inr ⟨w.heap.size, 0, rfl, by omega, by unfold maxLen; omega, rfl, fun i hi => ?_⟩
  rw [Nat.zero_add, World.cell?_alloc_new]
  obtain rfl | rfl : i = 0 ∨ i = 1 := by omega
  all_goals rfl
theorem row3 (w : World) (a b c : Int) (T : TypeId) : IsRow .i64 (w.alloc (.cells #[.int .i64 a, .int .i64 b, .int .i64 c] T)) (some ⟨w.heap.size, 0, none⟩) 3 3 [a, b, c] := by
  refine .inr ⟨w.heap.size, 0, rfl, by omega, by unfold maxLen; omega, rfl, fun i hi => ?_⟩
  rw [Nat.zero_add, World.cell?_alloc_new]
  obtain rfl | rfl | rfl : i = 0 ∨ i = 1 ∨ i = 2 := by omega
  all_goals rfl

theorem below_new (w : World) (o : Obj) : Below w.heap.size w (w.alloc o) := (Below.refl _ _).alloc (Nat.le_refl _) _

set_option maxHeartbeats 400000 in
theorem is_any (n : Int) (w : World) (r : Bool) (hr : ofs n = r) :
    Calls Try.prog 61 #[.int .i64 n] w fun e w' => e = .returned (.bool r) ∧ Below w.heap.size w w' := by
  go_enter Try.func61, Try.ntmps61
  go_wp2_with fail
  refine (off_any _ 1 1 [n] _ r (by omega) (row1 _ _ _) (by simpa using hr)).mono ?_
  rintro e w' ⟨rfl, rfl⟩
  go_wp2
  go_ret
  exact ⟨rfl, below_new _ _⟩

end Go.Proofs.Ytjmaccflnfaiiaa

namespace Go.Proofs.Ytjmaccflnfaiiaa
open Go.RowKit

theorem Into.trans {b : Nat} {u v w : World} (h : Into b u v) (k : Into b v w) : Into b u w := ⟨k.os.trans h.os, k.tape.trans h.tape, k.output.trans h.output, k.size.trans h.size, fun i hi => (k.block i hi).trans (h.block i hi)⟩
theorem Into.belowTo {b B : Nat} {w w' : World} (h : Into b w w') (hB : B ≤ b) : Below B w w' := ⟨h.os, h.tape, h.output, Nat.le_of_eq h.size.symm, fun k hk => h.block k (by omega)⟩
theorem But.into {base b : Nat} {w w' : World} (h : Into b w w') : But base b w w' := ⟨h.os, h.tape, h.output, Nat.le_of_eq h.size.symm, fun k _ hk => h.block k hk⟩
theorem But.less {B B' c : Nat} {w w' : World} (h : But B c w w') (hB : B' ≤ B) : But B' c w w' := ⟨h.os, h.tape, h.output, h.size, fun k hk => h.block k (by omega)⟩
end Go.Proofs.Ytjmaccflnfaiiaa

namespace Go.Proofs.Ytjmaccflnfaiiaa
open Go.RowKit

set_option maxHeartbeats 1000000 in
theorem rcleast_any (k : Int) (w : World) :
    Calls Try.prog 62 #[.int .i64 k] w fun e w' => e = .returned (.int .i64 (leastK k)) ∧ w' = w := by
  unfold leastK
  by_cases h5 : k = 5
  · subst h5
    rw [if_pos (.inl rfl)]
    go_enter Try.func62, Try.ntmps62
    go_wp2
    go_ret
    exact ⟨rfl, rfl⟩
  · by_cases h6 : k = 6
    · subst h6
      rw [if_pos (.inr rfl)]
      go_enter Try.func62, Try.ntmps62
      go_wp2
      go_ret
      exact ⟨rfl, rfl⟩
    · rw [if_neg (by omega)]
      have g5 : (k == 5) = false := by simpa using h5
      have g6 : (k == 6) = false := by simpa using h6
      clear h5 h6
      go_enter Try.func62, Try.ntmps62
      go_wp2
      go_ret
      exact ⟨rfl, rfl⟩

set_option maxHeartbeats 1000000 in
theorem rcfits_any (k n : Int) (w : World) (q : Bool) (hq : fitK k n = q) :
    Calls Try.prog 59 #[.int .i64 k, .int .i64 n] w fun e w' => e = .returned (.bool q) ∧ Below w.heap.size w w' := by
  unfold fitK at hq
  cases ho : ofs n with
  | false =>
    rw [ho] at hq
    subst hq
    have HI := Lib.hid (is_any n w false ho)
    clear ho
    go_enter Try.func59, Try.ntmps59
    go_wp2_with fail
    refine HI.out.mono ?_
    rintro e w1 ⟨rfl, hb1⟩
    go_wp2
    go_ret
    exact ⟨rfl, hb1⟩
  | true =>
    rw [ho, Bool.true_and] at hq
    have HI := Lib.hid (is_any n w true ho)
    have HL := Lib.hid (fun W => rcleast_any k W)
    generalize leastK k = m at hq HL
    clear ho
    go_enter Try.func59, Try.ntmps59
    go_wp2_with fail
    refine HI.out.mono ?_
    rintro e w1 ⟨rfl, hb1⟩
    have HB := Lib.hid hb1
    clear hb1 HI
    go_wp2_with fail
    refine (HL.out _).mono ?_
    rintro e w2 ⟨rfl, hw⟩
    obtain rfl := hw.symm
    clear hw
    go_wp2
    go_ret
    exact ⟨rfl, HB.out⟩

end Go.Proofs.Ytjmaccflnfaiiaa

namespace Go.Proofs.Ytjmaccflnfaiiaa
open Go.RowKit

/-- A record's cells. -/
theorem put_rec {w : World} {r : Nat} {T : TypeId} {u0 u1 u2 u3 : Value} (h : w.heap[r]? = some (.cells #[u0, u1, u2, u3] T (0, 0))) (x0 x1 x2 x3 : Value) :
    ((((w.setCell ⟨r, 0, none⟩ x0).setCell ⟨r, 1, none⟩ x1).setCell ⟨r, 2, none⟩ x2).setCell ⟨r, 3, none⟩ x3).heap[r]? = some (.cells #[x0, x1, x2, x3] T (0, 0)) := by
  rw [put_heap (put_heap (put_heap (put_heap h x0) x1) x2) x3]; rfl
theorem rec_reads {w : World} {r : Nat} {T : TypeId} {x0 x1 x2 x3 : Value} (h : w.heap[r]? = some (.cells #[x0, x1, x2, x3] T (0, 0))) :
    w.cell? ⟨r, 0, none⟩ = some x0 ∧ w.cell? ⟨r, 1, none⟩ = some x1 ∧ w.cell? ⟨r, 2, none⟩ = some x2 ∧ w.cell? ⟨r, 3, none⟩ = some x3 := by
  refine ⟨?_, ?_, ?_, ?_⟩ <;> rw [Lib.cell_of_heap h] <;> rfl
theorem rec_free {w : World} {r : Nat} {T : TypeId} {x0 x1 x2 x3 : Value} (h : w.heap[r]? = some (.cells #[x0, x1, x2, x3] T (0, 0))) :
    w.frozen? ⟨r, 0, none⟩ = false ∧ w.frozen? ⟨r, 1, none⟩ = false ∧ w.frozen? ⟨r, 2, none⟩ = false ∧ w.frozen? ⟨r, 3, none⟩ = false :=
  ⟨Lib.frozen_of_heap h 0, Lib.frozen_of_heap h 1, Lib.frozen_of_heap h 2, Lib.frozen_of_heap h 3⟩
theorem below_rec {B : Nat} {w w' : World} {r : Nat} (h : Below B w w') (hr : B ≤ r) (x0 x1 x2 x3 : Value) :
    Below B w ((((w'.setCell ⟨r, 0, none⟩ x0).setCell ⟨r, 1, none⟩ x1).setCell ⟨r, 2, none⟩ x2).setCell ⟨r, 3, none⟩ x3) :=
  (((h.setCell (p := ⟨r, 0, none⟩) hr _).setCell (p := ⟨r, 1, none⟩) hr _).setCell (p := ⟨r, 2, none⟩) hr _).setCell (p := ⟨r, 3, none⟩) hr _
end Go.Proofs.Ytjmaccflnfaiiaa

namespace Go.Proofs.Ytjmaccflnfaiiaa
open Go.RowKit

set_option maxHeartbeats 400000 in
theorem ris_any (n : Int) (w : World) (r : Bool) (hr : ofs n = r) :
    Calls Try.prog 43 #[.int .i64 n] w fun e w' => e = .returned (.bool r) ∧ w = w' := by
  subst hr
  by_cases h0 : n < 0
  · rw [ofs_low h0]
    have h1 : ¬ 0 ≤ n := by omega
    go_enter Try.func43, Try.ntmps43
    go_wp2
    go_ret
    exact ⟨rfl, rfl⟩
  · have h1 : 0 ≤ n := by omega
    by_cases h2 : n ≤ 4611686018427387903
    · rw [ofs_mk h1 h2]
      go_enter Try.func43, Try.ntmps43
      go_wp2
      go_ret
      exact ⟨rfl, rfl⟩
    · rw [ofs_high (by omega)]
      go_enter Try.func43, Try.ntmps43
      go_wp2
      go_ret
      exact ⟨rfl, rfl⟩

end Go.Proofs.Ytjmaccflnfaiiaa
