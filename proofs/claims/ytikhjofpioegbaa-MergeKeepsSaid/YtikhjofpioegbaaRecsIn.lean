/-
  A slice of records that came in: what is known of them.
-/
import Derived.Test.YtikhjofpioegbaaRecIn
import Derived.Deep.SlicePairs
import Derived.ChangeSlices
set_option linter.unusedSimpArgs false
set_option linter.unusedVariables false
namespace Go.Proofs.Ytikhjofpioegbaa
open Go.ChangeShapes Go.WideShapes Go.Deep Go.RowKit

/-- A record that came in: its numbers, its slice, what can be read there. -/
structure Ri where
  k : Int
  n : Int
  r : Int
  a : Option Addr
  len : Nat
  cap : Nat
  zs : List Int
/-- What came in: records, each with a slice of its own, or with one that others have, too. -/
def CameR (w : World) (a : Option Addr) (len cap : Nat) (rs : List Ri) : Prop :=
  rs.length = len ∧ len ≤ cap ∧ cap ≤ maxLen ∧
    (len = 0 ∨ ∃ b off, a = some ⟨b, off, none⟩ ∧ ∀ i (h : i < rs.length), w.cell? ⟨b, off + i * 4, none⟩ = some (.int .i64 (rs[i]'h).k) ∧ w.cell? ⟨b, off + i * 4 + 1, none⟩ = some (.int .i64 (rs[i]'h).n) ∧ w.cell? ⟨b, off + i * 4 + 2, none⟩ = some (.int .i64 (rs[i]'h).r) ∧ w.cell? ⟨b, off + i * 4 + 3, none⟩ = some (.slice (rs[i]'h).a (rs[i]'h).len (rs[i]'h).cap)) ∧
    ∀ x ∈ rs, IsRow .i64 w x.a x.len x.cap x.zs ∧ x.len ≤ x.cap ∧ x.cap ≤ maxLen ∧ (x.a = none → x.cap = 0) ∧ (Lit.int .i64 x.k).wf = true ∧ (Lit.int .i64 x.n).wf = true ∧ (Lit.int .i64 x.r).wf = true

set_option maxRecDepth 100000 in
set_option maxHeartbeats 1000000 in
/-- A slice of numbers inside what came in. -/
theorem came_ints {H : Type} {enc : TypeId × Value → H} {W : World} {n : Nat} {v : Value} {y : DataW H × List MemPlace} (h : DataW.trod enc Try.prog W 0 (fun _ => true) true n 22 [v] = some y) :
    ∃ (a : Option Addr) (len cap : Nat) (zs : List Int), v = .slice a len cap ∧ IsRow .i64 W a len cap zs ∧ len ≤ cap ∧ cap ≤ maxLen ∧ (a = none → cap = 0) := by
  rcases open_ints Try.underlying22 Try.underlying3 (by kernel_rfl) h with ⟨hcs, _⟩ | ⟨x, len, cap, zs, hcs, _, hl, hm, hz, _, hc, _⟩
  · simp at hcs
    exact ⟨none, 0, 0, [], hcs, .inl rfl, Nat.le_refl _, Nat.zero_le _, fun _ => rfl⟩
  · simp at hcs hz
    rcases Nat.eq_zero_or_pos cap with h0 | h0
    · exact ⟨some x, len, cap, zs, hcs, .inl (by omega), hl, hm, fun e => by cases e⟩
    · obtain ⟨b, off, spot⟩ := x
      have hc0 := hc 0 (by omega)
      have hspot : spot = none := by simpa [Addr.add] using World.cell?_spot hc0
      subst hspot
      exact ⟨_, len, cap, zs, hcs, .inr ⟨b, off, rfl, hl, hm, hz, fun i hi => by rw [← addPlain]; exact hc i (by omega)⟩, hl, hm, fun e => by cases e⟩

set_option maxRecDepth 100000 in
set_option maxHeartbeats 1000000 in
theorem came_recs {H : Type} {enc : TypeId × Value → H} {W : World} {a : Option Addr} {len cap : Nat} {d : DataW H} {p : List MemPlace} (h : DataW.Trod enc Try.prog W 0 (fun _ => true) true 25 (.slice a len cap) d p) :
    ∃ rs, CameR W a len cap rs := by
  obtain ⟨fuel, hf⟩ := h
  rcases open_slice Try.underlying25 hf with ⟨hcs, _⟩ | ⟨x, l, c, m, n, D, Pl, hcs, _, hl, hm, hmm, _, hc⟩
  · simp [Value.cells] at hcs
    obtain ⟨rfl, rfl, rfl⟩ := hcs
    exact ⟨[], rfl, Nat.zero_le _, Nat.zero_le _, .inl rfl, fun x hx => (by cases hx)⟩
  · simp [Value.cells] at hcs
    obtain ⟨rfl, rfl, rfl⟩ := hcs
    have hmc : m = cap := by rw [hmm]; rfl
    subst hmc
    have each : ∀ i, i < len → ∃ f : Ri, (W.cell? (x.add (i * 4)) = some (.int .i64 f.k) ∧ W.cell? (x.add (i * 4 + 1)) = some (.int .i64 f.n) ∧ W.cell? (x.add (i * 4 + 2)) = some (.int .i64 f.r) ∧ W.cell? (x.add (i * 4 + 3)) = some (.slice f.a f.len f.cap)) ∧
        (IsRow .i64 W f.a f.len f.cap f.zs ∧ f.len ≤ f.cap ∧ f.cap ≤ maxLen ∧ (f.a = none → f.cap = 0) ∧ (Lit.int .i64 f.k).wf = true ∧ (Lit.int .i64 f.n).wf = true ∧ (Lit.int .i64 f.r).wf = true) := by
      intro i hi
      obtain ⟨cs', h1, h2⟩ := hc i (by omega)
      rw [rec_cells4] at h1
      obtain ⟨_, hlen, hcell⟩ := World.cells?_some h1
      obtain ⟨y0, y1, y2, y3, q, _, _, g0, g1, g2, g3⟩ := Go.Joins.trod_struct4 Try.underlying24 h2
      match cs', hlen with
      | [v0, v1, v2, v3], _ =>
        have e0 := hcell 0 (by omega)
        have e1 := hcell 1 (by omega)
        have e2 := hcell 2 (by omega)
        have e3 := hcell 3 (by omega)
        rw [add_add] at e0 e1 e2 e3
        obtain ⟨k, k0, _, k1⟩ := DataW.trod_int Try.underlying3 (cs := [v0]) g0
        obtain ⟨n', n0, _, n1⟩ := DataW.trod_int Try.underlying3 (cs := [v1]) g1
        obtain ⟨r, r0, _, r1⟩ := DataW.trod_int Try.underlying3 (cs := [v2]) g2
        obtain ⟨a', len', cap', zs, hv, hrow, hle, hmx, hnn⟩ := came_ints (v := v3) g3
        simp at k0 n0 r0
        subst k0 n0 r0 hv
        exact ⟨⟨k, n', r, a', len', cap', zs⟩, ⟨by simpa using e0, by simpa using e1, by simpa using e2, by simpa using e3⟩, hrow, hle, hmx, hnn, k1, n1, r1⟩
    haveI : Inhabited Ri := ⟨⟨0, 0, 0, none, 0, 0, []⟩⟩
    obtain ⟨F, hF⟩ := choose_lt each
    refine ⟨(List.range len).map F, by simp, hl, hm, ?_, fun y hy => ?_⟩
    · rcases Nat.eq_zero_or_pos len with h0 | h0
      · exact .inl h0
      · right
        obtain ⟨b, off, spot⟩ := x
        have hc0 := (hF 0 h0).1.1
        have hspot : spot = none := by simpa [Addr.add] using World.cell?_spot hc0
        subst hspot
        refine ⟨b, off, rfl, fun i hi => ?_⟩
        simp only [List.length_map, List.length_range] at hi
        obtain ⟨⟨h1, h2, h3, h4⟩, _⟩ := hF i hi
        rw [addPlain] at h1 h2 h3 h4
        simp only [List.getElem_map, List.getElem_range]
        rw [Nat.add_assoc, Nat.add_assoc, Nat.add_assoc]
        exact ⟨h1, h2, h3, h4⟩
    · obtain ⟨i, hi, rfl⟩ := List.mem_map.1 hy
      exact (hF i (List.mem_range.1 hi)).2

theorem CameR.below {w w' : World} {a : Option Addr} {len cap : Nat} {rs : List Ri} (h : CameR w a len cap rs) (hb : Below w.heap.size w w') : CameR w' a len cap rs := by
  obtain ⟨h1, h2, h3, h4, h5⟩ := h
  refine ⟨h1, h2, h3, ?_, fun x hx => ⟨(h5 x hx).1.below hb, (h5 x hx).2⟩⟩
  rcases h4 with h4 | ⟨b, off, ha, hc⟩
  · exact .inl h4
  · refine .inr ⟨b, off, ha, fun i hi => ?_⟩
    obtain ⟨c0, c1, c2, c3⟩ := hc i hi
    have up : ∀ {j : Nat} {u : Value}, w.cell? ⟨b, j, none⟩ = some u → w'.cell? ⟨b, j, none⟩ = some u := fun {j u} h => by
      rw [hb.cell (p := ⟨b, j, none⟩) (World.block_lt_of_cell? w _ h)]
      exact h
    exact ⟨up c0, up c1, up c2, up c3⟩
end Go.Proofs.Ytikhjofpioegbaa
