/-
  The midst of the law MergeComes: a merger and what is held of it by the document; an append of nil in a drawn region.
-/
import Derived.Test.YtikhjofpioegbaaMgK
import Derived.Test.YtikhjofpioegbaaMgQ
import Derived.Deep.AppendLies
import Derived.Deep.RegionLaw
set_option linter.unusedSimpArgs false
set_option linter.unusedVariables false
namespace Go.Proofs.Ytikhjofpioegbaa
open Go.RowKit

/-- An append of nil, as a step of a region that draws its order. -/
theorem step_append_no {P : Program} {w : World} {ops : Array Oper} {o : Oper} {a : Act} {K : Act → World → Prop} {Q : Exit → Act → World → Prop} {E : Prop} (hgd : o.guard = none) (s x : Operand) (t : TypeId)
    (ho : o.op = .call { callee := .builtin .append, args := #[s, x], argTypes := #[t, t] })
    (base : Nat) (e : TypeId) (i : TypeInfo) (size : Nat) (ht : P.underlying t = some (.slice e)) (hi : P.info? e = some i) (hsize : i.size = size)
    (v : Value) (n : Nat) (xs : List Value) (hs : a.eval s = v) (hown : w.ownsRow base e size v n xs) (hx : a.eval x = .slice none 0 0)
    (h : K (a.put o.dst v) w) :
    if Region.wanted o (yielded ops a.tmps) = true then Oper.wp P o a w K Q else E := by
  have hw : Region.wanted o (yielded ops a.tmps) = true := by simp [Region.wanted, hgd]
  rw [if_pos hw]
  have hr := run_append_owned_none (P := P) w base t o.type e i size ht hi v n xs hown
  unfold Oper.wp execOp
  simp only [ho, resolve, invoke, builtin, Sem.run_bind, Sem.run_pure, Result.andThen_ok, List.map_toArray, List.map_cons, List.map_nil, hs, hx, hr]
  exact h

/-- One record's four cells. -/
def Cells4 (w : World) (g off : Nat) (h : Rv) : Prop := w.cell? ⟨g, off, none⟩ = some (.int .i64 h.k) ∧ w.cell? ⟨g, off + 1, none⟩ = some (.int .i64 h.n) ∧ w.cell? ⟨g, off + 2, none⟩ = some (.int .i64 h.r) ∧ w.cell? ⟨g, off + 3, none⟩ = some (.slice h.a h.len h.cap)
theorem Cells4.below {w w' : World} {g off : Nat} {h : Rv} (c : Cells4 w g off h) (hb : Below w.heap.size w w') : Cells4 w' g off h := ⟨cells_below c.1 hb, cells_below c.2.1 hb, cells_below c.2.2.1 hb, cells_below c.2.2.2 hb⟩
theorem cells_but {w w' : World} {g j M : Nat} {u : Value} (h : w.cell? ⟨g, j, none⟩ = some u) (hb : But w.heap.size M w w') (hne : g ≠ M) : w'.cell? ⟨g, j, none⟩ = some u := by
  rw [World.cell?_of_block (hb.block g (World.block_lt_of_cell? w _ h) hne)]
  exact h
theorem Cells4.but {w w' : World} {g off M : Nat} {h : Rv} (c : Cells4 w g off h) (hb : But w.heap.size M w w') (hne : g ≠ M) : Cells4 w' g off h := ⟨cells_but c.1 hb hne, cells_but c.2.1 hb hne, cells_but c.2.2.1 hb hne, cells_but c.2.2.2 hb hne⟩
theorem Cells4.news {w : World} {g off : Nat} {h : Rv} (c : Cells4 w g off h) : ∀ j u, h.cells[j]? = some u → w.cell? ((⟨g, off, none⟩ : Addr).add j) = some u := by
  intro j u hj
  rw [addPlain]
  obtain ⟨c0, c1, c2, c3⟩ := c
  match j, hj with
  | 0, hj => simp [Rv.cells, Rv.sl] at hj; subst hj; exact c0
  | 1, hj => simp [Rv.cells, Rv.sl] at hj; subst hj; exact c1
  | 2, hj => simp [Rv.cells, Rv.sl] at hj; subst hj; exact c2
  | 3, hj => simp [Rv.cells, Rv.sl] at hj; subst hj; exact c3
  | j + 4, hj => simp [Rv.cells, Rv.sl] at hj

/-- The midst of the law: a merger in block M holds y, or nothing; the document holds h, or nothing. -/
structure HAt (w wr : World) (M : Nat) (v : Value) (hs : List Rv) (y : Rv) (s : Bool) : Prop where
  below : Below w.heap.size w wr
  ism : IsM wr M y s
  held : (s = false ∧ hs = [] ∧ y = rv0 ∧ v = .slice none 0 0) ∨ (s = true ∧ ∃ h g off c, hs = [h] ∧ v = .slice (some ⟨g, off, none⟩) 1 c ∧ g ≠ M ∧ Cells4 wr g off h ∧ Cp w wr h y)
theorem HAt.same {w wr w' : World} {M : Nat} {v : Value} {hs : List Rv} {y : Rv} {s : Bool} (h : HAt w wr M v hs y s) (hb : Below wr.heap.size wr w') : HAt w w' M v hs y s := by
  refine ⟨h.below.trans (hb.mono h.below.size), h.ism.below hb, ?_⟩
  rcases h.held with h1 | ⟨h1, x, g, off, c, h2, h3, h4, h5, h6⟩
  · exact .inl h1
  · exact .inr ⟨h1, x, g, off, c, h2, h3, h4, h5.below hb, h6.keep (.below hb)⟩
/-- Behind Add: what it told, R and B; what the merger holds now, y'; what the document's records are then. -/
structure Aft (w wx : World) (M : Nat) (v : Value) (hs pre : List Rv) (x h' y' R : Rv) (B : Bool) : Prop where
  below : Below w.heap.size w wx
  ism : IsM wx M y' true
  all : mgAll (hs ++ [x]) = pre ++ [h']
  cp : Cp w wx h' y'
  told : (B = true ∧ ∃ h0, pre = [h0] ∧ Cp w wx h0 R) ∨ (B = false ∧ pre = [] ∧ R = rv0)
  held : (hs = [] ∧ v = .slice none 0 0) ∨ (∃ h g off c, hs = [h] ∧ v = .slice (some ⟨g, off, none⟩) 1 c ∧ Cells4 wx g off h)
theorem Aft.same {w wr w' : World} {M : Nat} {v : Value} {hs pre : List Rv} {x h' y' R : Rv} {B : Bool} (h : Aft w wr M v hs pre x h' y' R B) (hb : Below wr.heap.size wr w') : Aft w w' M v hs pre x h' y' R B := by
  refine ⟨h.below.trans (hb.mono h.below.size), h.ism.below hb, h.all, h.cp.keep (.below hb), ?_, ?_⟩
  · rcases h.told with ⟨h1, h0, h2, h3⟩ | h1
    · exact .inl ⟨h1, h0, h2, h3.keep (.below hb)⟩
    · exact .inr h1
  · rcases h.held with h1 | ⟨x, g, off, c, h2, h3, h4⟩
    · exact .inl h1
    · exact .inr ⟨x, g, off, c, h2, h3, h4.below hb⟩
theorem HAt.hit {w wr w2 : World} {M : Nat} {v : Value} {hs : List Rv} {y x : Rv} {s : Bool} (h : HAt w wr M v hs y s) (hM : w.heap.size ≤ M) (hb : But wr.heap.size M wr w2) (ht : twoB y x = true) (hi : IsM w2 M (plusR y x) s) : Aft w w2 M v hs [] x (plusR y x) (plusR y x) rv0 false := by
  rcases h.held with ⟨_, _, rfl, _⟩ | ⟨rfl, z, g, off, c, rfl, h3, h4, h5, h6⟩
  · rw [mg2_zero] at ht
    cases ht
  · refine ⟨h.below.trans (hb.belowM h.below.size hM), hi, ?_, Cp.none (Alike.refl _) (fun _ => rfl) rfl, .inr ⟨rfl, rfl, rfl⟩, .inr ⟨z, g, off, c, rfl, h3, h5.but hb h4⟩⟩
    have hz : twoB z x = true := (h6.1.two (Alike.refl x)).symm.trans ht
    rw [mga_snoc, show mgAll [z] = [] ++ [z] from rfl, mgs_hit hz, h6.1.plus x]
theorem HAt.miss {w wr w2 : World} {M : Nat} {v : Value} {hs : List Rv} {y x z : Rv} {s : Bool} (h : HAt w wr M v hs y s) (hM : w.heap.size ≤ M) (hb : But wr.heap.size M wr w2) (ht : twoB y x = false) (hi : IsM w2 M z true) (hc : Cp w w2 x z) : Aft w w2 M v hs hs x x z y s := by
  have hki : Keep 3 wr w2 := Keep.but hb h.ism (by decide)
  rcases h.held with ⟨rfl, rfl, rfl, hv⟩ | ⟨rfl, q, g, off, c, rfl, h3, h4, h5, h6⟩
  · exact ⟨h.below.trans (hb.belowM h.below.size hM), hi, rfl, hc, .inr ⟨rfl, rfl, rfl⟩, .inl ⟨rfl, hv⟩⟩
  · refine ⟨h.below.trans (hb.belowM h.below.size hM), hi, ?_, hc, .inl ⟨rfl, q, rfl, h6.keep hki⟩, .inr ⟨q, g, off, c, rfl, h3, h5.but hb h4⟩⟩
    have hz : twoB q x = false := (h6.1.two (Alike.refl x)).symm.trans ht
    rw [mga_snoc, show mgAll [q] = [] ++ [q] from rfl, mgs_miss hz]
    rfl
end Go.Proofs.Ytikhjofpioegbaa
