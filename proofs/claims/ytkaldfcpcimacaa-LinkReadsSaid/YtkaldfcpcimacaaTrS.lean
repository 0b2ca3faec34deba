/-
  A trie in memory: its block, and five cells a state.
-/
import Derived.Test.YtkaldfcpcimacaaTrR
import Derived.Test.YtkaldfcpcimacaaPtU
import Derived.Laws.ResultCell
import Derived.Sort.Grow
set_option linter.unusedSimpArgs false
set_option linter.unusedVariables false
namespace Go.Proofs.Ytkaldfcpcimacaa
open Go.RowKit

/-- The five cells of a state. -/
def rcOne (r : Rc) : List Value := [.int .i32 (r.first : Int), .int .i32 (r.above : Int), .int .i32 (r.below : Int), .int .u16 (r.depth : Int), .int .u8 (r.last.toNat : Int)]
def rcCells (rs : List Rc) : List Value := rs.flatMap rcOne
theorem rc_cons (r : Rc) (rs : List Rc) : rcCells (r :: rs) = rcOne r ++ rcCells rs := rfl
theorem rc_snoc (rs : List Rc) (r : Rc) : rcCells (rs ++ [r]) = rcCells rs ++ rcOne r := by simp [rcCells]
theorem rcOne_length (r : Rc) : (rcOne r).length = 5 := rfl
theorem rcCells_length : ∀ rs : List Rc, (rcCells rs).length = rs.length * 5
  | [] => rfl
  | r :: rs => by rw [rc_cons, List.length_append, rcCells_length rs, List.length_cons, rcOne_length]; omega
theorem rcCells_at : ∀ (rs : List Rc) (i j : Nat) {r : Rc}, rs[i]? = some r → j < 5 → (rcCells rs)[i * 5 + j]? = (rcOne r)[j]?
  | q :: rs, 0, j, r, h, hj => by
    simp at h; subst h
    rw [rc_cons, List.getElem?_append_left (by rw [rcOne_length]; omega)]; congr 1; omega
  | q :: rs, i + 1, j, r, h, hj => by
    rw [rc_cons, List.getElem?_append_right (by rw [rcOne_length]; omega), rcOne_length, show (i + 1) * 5 + j - 5 = i * 5 + j by omega]
    exact rcCells_at rs i j (by simpa using h) hj
theorem rc_set : ∀ (rs : List Rc) (i : Nat) {r : Rc} (b : Nat), rs[i]? = some r → (rcCells rs).set (i * 5 + 2) (.int .i32 (b : Int)) = rcCells (rs.set i { r with below := b })
  | q :: rs, 0, r, b, h => by simp at h; subst h; rfl
  | q :: rs, i + 1, r, b, h => by
    rw [rc_cons, List.set_cons_succ, rc_cons, ← rc_set rs i b (by simpa using h), List.set_append_right _ _ (by rw [rcOne_length]; omega), rcOne_length, show (i + 1) * 5 + 2 - 5 = i * 5 + 2 by omega]
theorem rc_one {r : Rc} : ∀ u ∈ rcOne r, u.oneCell' = true := by
  intro u hu
  simp [rcOne] at hu
  rcases hu with rfl | rfl | rfl | rfl | rfl <;> rfl
theorem rc_info : (Try.prog.info? 75).map (fun i => (i.zero, i.size, i.bytes)) = some (some (.agg #[.int .i32 0, .int .i32 0, .int .i32 0, .int .u16 0, .int .u8 0]), 5, 16) := by kernel_rfl

/-- A state's cells lie there. -/
structure RcAt (w : World) (b o : Nat) (r : Rc) : Prop where
  c0 : w.cell? ⟨b, o, none⟩ = some (.int .i32 (r.first : Int))
  c1 : w.cell? ⟨b, o + 1, none⟩ = some (.int .i32 (r.above : Int))
  c2 : w.cell? ⟨b, o + 2, none⟩ = some (.int .i32 (r.below : Int))
  c3 : w.cell? ⟨b, o + 3, none⟩ = some (.int .u16 (r.depth : Int))
  c4 : w.cell? ⟨b, o + 4, none⟩ = some (.int .u8 (r.last.toNat : Int))
theorem RcAt.below {w w' : World} {b o : Nat} {r : Rc} (h : RcAt w b o r) (hb : Below w.heap.size w w') : RcAt w' b o r := by
  have hlt := World.block_lt_of_cell? w _ h.c0
  have g : ∀ k v, w.cell? ⟨b, k, none⟩ = some v → w'.cell? ⟨b, k, none⟩ = some v := fun k v hk => (hb.cell (p := ⟨b, k, none⟩) hlt).trans hk
  exact ⟨g _ _ h.c0, g _ _ h.c1, g _ _ h.c2, g _ _ h.c3, g _ _ h.c4⟩

/-- A slice that holds these states. -/
def IsRcs (w : World) (a : Option Addr) (len : Nat) (rs : List Rc) : Prop :=
  rs.length = len ∧ (len = 0 ∨ ∃ b off, a = some ⟨b, off, none⟩ ∧ ∀ (i : Nat) r, rs[i]? = some r → RcAt w b (off + i * 5) r)
theorem IsRcs.below {w w' : World} {a : Option Addr} {len : Nat} {rs : List Rc} (h : IsRcs w a len rs) (hb : Below w.heap.size w w') : IsRcs w' a len rs := by
  obtain ⟨hl, h⟩ := h
  refine ⟨hl, ?_⟩
  rcases h with h | ⟨b, off, ha, hc⟩
  · exact .inl h
  · exact .inr ⟨b, off, ha, fun i r hi => (hc i r hi).below hb⟩

/-- A trie lies in block b: of the set behind p, with these states. What it owns lies from 'base' on. -/
def IsTr (w : World) (base b : Nat) (p : Option Addr) (R : List Rc) : Prop :=
  ∃ g cap, w.heap[b]? = some (.cells #[.pointer p, .slice (some ⟨g, 0, none⟩) R.length cap] 72 (0, 0)) ∧ base ≤ b ∧
    w.ownsRow base 75 5 (.slice (some ⟨g, 0, none⟩) R.length cap) R.length (rcCells R) ∧ (∀ r ∈ R, r.Fit) ∧ R.length ≤ 2147483647
theorem IsTr.lt {w : World} {base b : Nat} {p : Option Addr} {R : List Rc} (h : IsTr w base b p R) : b < w.heap.size := by
  obtain ⟨g, cap, h1, _⟩ := h
  exact heap_lt h1
theorem IsTr.below {w w' : World} {base b : Nat} {p : Option Addr} {R : List Rc} (h : IsTr w base b p R) (hb : Below w.heap.size w w') : IsTr w' base b p R := by
  obtain ⟨g, cap, h1, h2, h3, h4⟩ := h
  exact ⟨g, cap, (hb.block b (heap_lt h1)).trans h1, h2, tx_below h3 hb, h4⟩
theorem IsTr.heap {w W : World} {base b : Nat} {p : Option Addr} {R : List Rc} (h : IsTr w base b p R) (e : W.heap = w.heap) : IsTr W base b p R := by
  unfold IsTr World.ownsRow at *
  rw [e]; exact h
theorem own_less {w : World} {base base' : Nat} {e : TypeId} {size : Nat} {v : Value} {n : Nat} {xs : List Value} (h : w.ownsRow base e size v n xs) (hb : base' ≤ base) : w.ownsRow base' e size v n xs := by
  obtain ⟨h1, h2⟩ := h
  refine ⟨h1, h2.imp id ?_⟩
  rintro ⟨g, cap, cur, hv, hg, r⟩
  exact ⟨g, cap, cur, hv, by omega, r⟩
theorem IsTr.less {w : World} {base base' b : Nat} {p : Option Addr} {R : List Rc} (h : IsTr w base b p R) (hb : base' ≤ base) : IsTr w base' b p R := by
  obtain ⟨g, cap, h1, h2, h3, h4⟩ := h
  exact ⟨g, cap, h1, by omega, own_less h3 hb, h4⟩
theorem own_rcs {w : World} {base g n cap : Nat} {R : List Rc} (h : w.ownsRow base 75 5 (.slice (some ⟨g, 0, none⟩) n cap) n (rcCells R)) {i : Nat} {r : Rc} (hi : R[i]? = some r) : RcAt w g (i * 5) r := by
  have hc := h.cells (g := g) rfl
  have c : ∀ j v, j < 5 → (rcOne r)[j]? = some v → w.cell? ⟨g, i * 5 + j, none⟩ = some v := fun j v hj hv => by
    have := hc (i * 5 + j) v (by rw [rcCells_at R i j hi hj]; exact hv)
    rwa [addPlain, Nat.zero_add] at this
  exact ⟨c 0 _ (by omega) rfl, c 1 _ (by omega) rfl, c 2 _ (by omega) rfl, c 3 _ (by omega) rfl, c 4 _ (by omega) rfl⟩
/-- What is read of a trie. -/
theorem IsTr.reads {w : World} {base b : Nat} {p : Option Addr} {R : List Rc} (h : IsTr w base b p R) : ∃ g cap, w.cell? ⟨b, 0, none⟩ = some (.pointer p) ∧ w.cell? ⟨b, 1, none⟩ = some (.slice (some ⟨g, 0, none⟩) R.length cap) ∧
    R.length ≤ cap ∧ cap ≤ maxLen ∧ g < w.heap.size ∧ ∀ (i : Nat) r, R[i]? = some r → RcAt w g (i * 5) r := by
  obtain ⟨g, cap, h1, h2, h3, h4⟩ := h
  have h5 := h3
  obtain ⟨_, ⟨he, _⟩ | ⟨g', cap', cur, he, _, hg, hc, hm, _⟩⟩ := h3
  · cases he
  · cases he
    exact ⟨g, cap, by rw [Lib.cell_of_heap h1]; rfl, by rw [Lib.cell_of_heap h1]; rfl, hc, hm, heap_lt hg, fun i r hi => own_rcs h5 hi⟩
theorem IsTr.fit {w : World} {base b : Nat} {p : Option Addr} {R : List Rc} (h : IsTr w base b p R) {i : Nat} {r : Rc} (hi : R[i]? = some r) : r.Fit := by
  obtain ⟨g, cap, _, _, _, h4, _⟩ := h
  exact h4 r (List.mem_of_getElem? hi)
theorem IsTr.few {w : World} {base b : Nat} {p : Option Addr} {R : List Rc} (h : IsTr w base b p R) : R.length ≤ 2147483647 := by
  obtain ⟨g, cap, _, _, _, _, h5⟩ := h
  exact h5

/-- A trie behind a pointer, or none: then it has no states. -/
def HasTr (w : World) (q : Option Addr) (p : Option Addr) (R : List Rc) : Prop := (q = none ∧ R = []) ∨ ∃ base b, q = some ⟨b, 0, none⟩ ∧ IsTr w base b p R
theorem HasTr.below {w w' : World} {q p : Option Addr} {R : List Rc} (h : HasTr w q p R) (hb : Below w.heap.size w w') : HasTr w' q p R :=
  h.elim .inl (fun ⟨base, b, h1, h2⟩ => .inr ⟨base, b, h1, h2.below hb⟩)
theorem HasTr.heap {w W : World} {q p : Option Addr} {R : List Rc} (h : HasTr w q p R) (e : W.heap = w.heap) : HasTr W q p R :=
  h.elim .inl (fun ⟨base, b, h1, h2⟩ => .inr ⟨base, b, h1, h2.heap e⟩)
theorem HasTr.few {w : World} {q p : Option Addr} {R : List Rc} (h : HasTr w q p R) : R.length ≤ 2147483647 := by
  rcases h with ⟨_, rfl⟩ | ⟨_, _, _, h⟩
  · simp
  · exact h.few
theorem HasTr.some {w : World} {q p : Option Addr} {R : List Rc} (h : HasTr w q p R) {k : Nat} (hk : k < R.length) : ∃ base b, q = some ⟨b, 0, none⟩ ∧ IsTr w base b p R := by
  rcases h with ⟨_, rfl⟩ | h
  · simp at hk
  · exact h
end Go.Proofs.Ytkaldfcpcimacaa
