/-
  A stream that comes in parts, of which a few last bytes are carried over: as data, and in memory.
-/
import Derived.Test.YtnjkblifikllbaaBut
import Derived.Test.YtnjkblifikllbaaRows
import Derived.Laws.OwnMore
import Derived.Lib.UnsafeStr
set_option linter.unusedSimpArgs false
set_option linter.unusedVariables false
namespace Go.Proofs.Ytnjkblifikllbaa
open Go.RowKit

/-- What stands of a text behind one end, up to another one. -/
def midL (s : List UInt8) (f t : Nat) : List UInt8 := (s.take t).drop f
theorem midL_length (s : List UInt8) (f t : Nat) (ht : t ≤ s.length) : (midL s f t).length = t - f := by
  unfold midL
  rw [List.length_drop, List.length_take]
  omega
theorem midL_none (s : List UInt8) (f : Nat) : midL s f f = [] := List.eq_nil_of_length_eq_zero (by unfold midL; rw [List.length_drop, List.length_take]; omega)
theorem midL_whole (s : List UInt8) (f : Nat) : midL s f s.length = s.drop f := by unfold midL; rw [List.take_length]
theorem midL_get (s : List UInt8) (f t j : Nat) (ht : t ≤ s.length) (hj : j < t - f) : (midL s f t)[j]? = s[f + j]? := by
  unfold midL
  rw [List.getElem?_drop, List.getElem?_take, if_pos (by omega)]

/-- The byte of an end, if it is kept. -/
def byK (s : List UInt8) (done keep : Nat) (e : Int) : Option UInt8 := if (done : Int) - keep < e ∧ 0 < e ∧ e ≤ s.length then s[(e - 1).toNat]? else none
/-- The last bytes up to an end, if they are told. -/
def tlK (s : List UInt8) (done keep : Nat) (e : Int) : Option (List UInt8) := if (done : Int) ≤ e ∧ e ≤ s.length then some (midL s (e.toNat - keep) e.toNat) else none
/-- These, as an answer. -/
def byR : Option UInt8 → Value × Bool
  | none => (.int .u8 0, false)
  | some x => (.int .u8 (x.toNat : Int), true)
def tlR : Option (List UInt8) → Value × Bool
  | none => (.string ⟨#[]⟩, false)
  | some l => (.string ⟨l.toArray⟩, true)
def cvR (p : Value × Bool) : Ending := .returned (.tuple #[p.1, .bool p.2])

/-- A carry that lies in block b; its bytes lie in a block from 'base' on, if there are any. -/
def IsCarry (w : World) (base b keep : Nat) (s : List UInt8) (done : Nat) : Prop :=
  b < base ∧ base ≤ w.heap.size ∧ 1 ≤ keep ∧ keep ≤ 65536 ∧ done ≤ s.length ∧ ∃ (gone : Nat) (v : Value), gone ≤ done - keep ∧
    w.heap[b]? = some (.cells #[.int .i64 keep, v, .int .i64 s.length, .int .i64 done] 38 (0, 0)) ∧
    w.ownsRow base 5 1 v (s.length - gone) (Lib.byteCells (s.drop gone))

theorem IsCarry.drewN {w : World} {base b keep done : Nat} {s : List UInt8} (h : IsCarry w base b keep s done) (n : Nat) : IsCarry (w.drewN n) base b keep s done := h
theorem IsCarry.drew {w : World} {base b keep done : Nat} {s : List UInt8} (h : IsCarry w base b keep s done) : IsCarry w.drew base b keep s done := h
theorem IsCarry.lt {w : World} {base b keep done : Nat} {s : List UInt8} (h : IsCarry w base b keep s done) : b < w.heap.size := by
  obtain ⟨h1, h2, _⟩ := h
  omega
/-- Where its own blocks are as they were it is one still. -/
theorem IsCarry.same {w w' : World} {base b keep done : Nat} {s : List UInt8} (h : IsCarry w base b keep s done) (hs : w.heap.size ≤ w'.heap.size) (hb : w'.heap[b]? = w.heap[b]?) (hk : ∀ k, base ≤ k → k < w.heap.size → w'.heap[k]? = w.heap[k]?) : IsCarry w' base b keep s done := by
  obtain ⟨h1, h2, h3, h4, h5, gone, v, h6, h7, hl, hx⟩ := h
  refine ⟨h1, by omega, h3, h4, h5, gone, v, h6, hb.trans h7, hl, ?_⟩
  rcases hx with hx | ⟨g, cap, cur, hv, hg, hh, r⟩
  · exact .inl hx
  · exact .inr ⟨g, cap, cur, hv, hg, (hk g hg (lt_of_heap hh)).trans hh, r⟩
theorem IsCarry.below {w w' : World} {base b keep done : Nat} {s : List UInt8} (h : IsCarry w base b keep s done) (hb : Below w.heap.size w w') : IsCarry w' base b keep s done :=
  h.same hb.size (hb.block b h.lt) (fun k _ hk => hb.block k hk)
/-- .. and where another block is written, ahead of its bytes. -/
theorem IsCarry.apart {w w' : World} {base b keep done B c : Nat} {s : List UInt8} (h : IsCarry w base b keep s done) (hk : But B c w w') (hB : w.heap.size ≤ B) (hc : c < base) (hcb : c ≠ b) : IsCarry w' base b keep s done :=
  h.same hk.size (hk.block b (by have := h.lt; omega) (fun e => hcb e.symm)) (fun k h1 h2 => hk.block k (by omega) (by omega))

/-- What its cells hold. -/
theorem carry_reads {w : World} {b keep seen done : Nat} {v : Value} (h : w.heap[b]? = some (.cells #[.int .i64 keep, v, .int .i64 seen, .int .i64 done] 38 (0, 0))) :
    (w.cell? ⟨b, 0, none⟩ = some (.int .i64 keep) ∧ w.cell? ⟨b, 1, none⟩ = some v ∧ w.cell? ⟨b, 2, none⟩ = some (.int .i64 seen) ∧ w.cell? ⟨b, 3, none⟩ = some (.int .i64 done)) ∧
    w.frozen? ⟨b, 1, none⟩ = false ∧ w.frozen? ⟨b, 2, none⟩ = false ∧ w.frozen? ⟨b, 3, none⟩ = false := by
  refine ⟨⟨?_, ?_, ?_, ?_⟩, Lib.frozen_of_heap h 1, Lib.frozen_of_heap h 2, Lib.frozen_of_heap h 3⟩ <;> rw [Lib.cell_of_heap h] <;> rfl

/-- A carry to which nothing came. -/
theorem carry_new {w : World} {base b keep : Nat} (h1 : 1 ≤ keep) (h2 : keep ≤ 65536) (hb : b < base) (hB : base ≤ w.heap.size) (hh : w.heap[b]? = some (.cells #[.int .i64 keep, .slice none 0 0, .int .i64 0, .int .i64 0] 38 (0, 0))) : IsCarry w base b keep [] 0 :=
  ⟨hb, hB, h1, h2, Nat.le_refl _, 0, .slice none 0 0, by omega, hh, World.ownsRow_nil _ _ _ _⟩

/-- A slice of bytes, in memory. -/
def Piece (w : World) (v : Value) (l : List UInt8) : Prop :=
  ∃ (a : Option Addr) (cap : Nat), v = .slice a l.length cap ∧ (0 < l.length → ∃ g off, a = some ⟨g, off, none⟩ ∧ l.length ≤ cap ∧ ∀ j (hj : j < l.length), w.cell? ⟨g, off + j, none⟩ = some (.int .u8 ((l[j]'hj).toNat : Int)))
theorem Piece.heap {w w' : World} {v : Value} {l : List UInt8} (h : Piece w v l) (hw : w'.heap = w.heap) : Piece w' v l := by
  obtain ⟨a, cap, rfl, h1⟩ := h
  refine ⟨a, cap, rfl, fun hl => ?_⟩
  obtain ⟨g, off, rfl, h2, h3⟩ := h1 hl
  exact ⟨g, off, rfl, h2, fun j hj => (World.cell?_of_block (w := w) (by rw [hw])).trans (h3 j hj)⟩
/-- Its cells. -/
theorem Piece.cells {w : World} {v : Value} {l : List UInt8} (h : Piece w v l) : ∃ (a : Option Addr) (cap : Nat), v = .slice a l.length cap ∧ (0 < l.length → ∃ g off, a = some ⟨g, off, none⟩ ∧ l.length ≤ cap ∧ ∀ j u, (Lib.byteCells l)[j]? = some u → w.cell? ((⟨g, off, none⟩ : Addr).add j) = some u) := by
  obtain ⟨a, cap, rfl, h1⟩ := h
  refine ⟨a, cap, rfl, fun hl => ?_⟩
  obtain ⟨g, off, rfl, h2, h3⟩ := h1 hl
  refine ⟨g, off, rfl, h2, fun j u hu => ?_⟩
  have hj : j < l.length := by
    rcases Nat.lt_or_ge j l.length with h | h
    · exact h
    · simp [Lib.byteCells, h] at hu
  rw [addPlain, h3 j hj]
  simp only [Lib.byteCells, List.getElem?_map, List.getElem?_eq_getElem hj, Option.map_some] at hu
  exact hu
/-- .. as a string says it. -/
theorem Piece.text {w : World} {v : Value} {l : List UInt8} (h : Piece w v l) : (convert 36 9 v).run Try.prog w = .ok (.string ⟨l.toArray⟩) w := by
  obtain ⟨a, cap, rfl, h1⟩ := h
  rcases Nat.eq_zero_or_pos l.length with h0 | h0
  · obtain rfl := List.eq_nil_of_length_eq_zero h0
    cases a with
    | none =>
      rw [run_convert_bytes_string w 36 9 5 none _ cap Try.underlying36 Try.underlying5 Try.underlying9]
      rfl
    | some p => exact run_convert_bytes_back w 36 9 5 p cap [] Try.underlying36 Try.underlying5 Try.underlying9 (fun j hj => by simp at hj)
  · obtain ⟨g, off, rfl, _, h3⟩ := h1 h0
    exact run_convert_bytes_back w 36 9 5 _ cap l Try.underlying36 Try.underlying5 Try.underlying9 (fun j hj => by rw [addPlain]; exact h3 j hj)
end Go.Proofs.Ytnjkblifikllbaa
