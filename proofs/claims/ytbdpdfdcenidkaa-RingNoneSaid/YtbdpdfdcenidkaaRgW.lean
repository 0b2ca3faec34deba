/-
  ring.New and Push, walked: a ring in memory that the call itself has made.
-/
import Derived.Test.YtbdpdfdcenidkaaRgM
import Derived.Test.YtbdpdfdcenidkaaRows
import Derived.Below
import Derived.Laws.AppendOwn
import Derived.WalkKit
import Derived.WalkSpells
import Derived.WalkLawsBesides
import Derived.Lib.Hide
import Derived.Lib.Strings
import Derived.Deep.QuietTactic
import Derived.BigQuiet
set_option linter.unusedSimpArgs false
set_option linter.unusedVariables false
namespace Go.Proofs.Ytbdpdfdcenidkaa
open Go.RowKit

/-- Behind a call that writes one block of its own: all others below 'base' are as they were. -/
structure But (base b : Nat) (w w' : World) : Prop where
  os : w'.os = w.os
  tape : w'.tape = w.tape
  output : w'.output = w.output
  size : w.heap.size ≤ w'.heap.size
  block : ∀ k, k < base → k ≠ b → w'.heap[k]? = w.heap[k]?

theorem But.refl (base b : Nat) (w : World) : But base b w w := ⟨rfl, rfl, rfl, Nat.le_refl _, fun _ _ _ => rfl⟩
theorem But.trans {base b : Nat} {u v w : World} (h : But base b u v) (k : But base b v w) : But base b u w :=
  ⟨k.os.trans h.os, k.tape.trans h.tape, k.output.trans h.output, Nat.le_trans h.size k.size, fun i hi hb => (k.block i hi hb).trans (h.block i hi hb)⟩
theorem But.below {base b : Nat} {w w' : World} (h : But base b w w') (hb : b ≤ base) : Below b w w' :=
  ⟨h.os, h.tape, h.output, h.size, fun k hk => h.block k (by omega) (by omega)⟩
theorem But.of {base b : Nat} {w w' : World} (h : Below base w w') : But base b w w' := ⟨h.os, h.tape, h.output, h.size, fun k hk _ => h.block k hk⟩

/-- A ring that lies in block b, and keeps of the bytes s; its room lies in a block from 'base' on, if there is one. -/
def IsRing (w : World) (base b size : Nat) (s : List UInt8) : Prop :=
  b < base ∧ base ≤ w.heap.size ∧ ∃ (room : List UInt8) (next : Nat) (v : Value), RingM size s room next ∧
    w.heap[b]? = some (.cells #[.int .i64 size, v, .int .i64 next, .int .i64 s.length] 42 (0, 0)) ∧
    w.ownsRow base 5 1 v room.length (Lib.byteCells room)

theorem IsRing.drewN {w : World} {base b size : Nat} {s : List UInt8} (h : IsRing w base b size s) (n : Nat) : IsRing (w.drewN n) base b size s := h

/-- A ring is one still where its own blocks are as they were. -/
theorem IsRing.kept {w w' : World} {base b size : Nat} {s : List UInt8} (h : IsRing w base b size s) (hs : w.heap.size ≤ w'.heap.size) (hk : ∀ k, k < w.heap.size → w'.heap[k]? = w.heap[k]?) : IsRing w' base b size s := by
  obtain ⟨h1, h2, room, next, v, hm, hb, hown⟩ := h
  refine ⟨h1, by omega, room, next, v, hm, (hk b (by omega)).trans hb, ?_⟩
  obtain ⟨hl, hx⟩ := hown
  refine ⟨hl, ?_⟩
  rcases hx with hx | ⟨g, cap, cur, hv, hg, hh, r⟩
  · exact .inl hx
  · have hlt : g < w.heap.size := by
      rcases Nat.lt_or_ge g w.heap.size with h' | h'
      · exact h'
      · simp [Array.getElem?_eq_none h'] at hh
    exact .inr ⟨g, cap, cur, hv, hg, (hk g hlt).trans hh, r⟩

theorem owns_slice {w : World} {base : Nat} {e : TypeId} {v : Value} {n : Nat} {xs : List Value} (h : w.ownsRow base e 1 v n xs) : ∃ a cap, v = .slice a n cap := by
  rcases h.2 with ⟨rfl, rfl⟩ | ⟨g, cap, cur, rfl, _⟩
  · exact ⟨_, _, rfl⟩
  · exact ⟨_, _, rfl⟩

theorem owns_some {w : World} {base : Nat} {e : TypeId} {v : Value} {n : Nat} {xs : List Value} (h : w.ownsRow base e 1 v n xs) (hn : 0 < n) : ∃ g cap, base ≤ g ∧ n ≤ cap ∧ v = .slice (some ⟨g, 0, none⟩) n cap := by
  rcases h.2 with ⟨rfl, rfl⟩ | ⟨g, cap, cur, rfl, hg, _, hc, _⟩
  · omega
  · exact ⟨g, cap, hg, hc, rfl⟩

theorem rbyte_info : (Try.prog.info? 5).map (fun i => (i.zero, i.size, i.bytes)) = some (some (.int .u8 0), 1, 1) := by kernel_rfl

theorem put_heap {w : World} {b i : Nat} {cs : Array Value} {T : TypeId} (h : w.heap[b]? = some (.cells cs T (0, 0))) (u : Value) : (w.setCell ⟨b, i, none⟩ u).heap[b]? = some (.cells (cs.setIfInBounds i u) T (0, 0)) := by
  simp [World.setCell, Array.getElem?_modify, h]

theorem put_other {w : World} {b i k : Nat} (h : k ≠ b) (u : Value) : (w.setCell ⟨b, i, none⟩ u).heap[k]? = w.heap[k]? := Below.heap_setCell _ _ _ _ h

theorem lt_of_heap {w : World} {b : Nat} {o : Obj} (h : w.heap[b]? = some o) : b < w.heap.size := by
  rcases Nat.lt_or_ge b w.heap.size with h' | h'
  · exact h'
  · simp [Array.getElem?_eq_none h'] at h

/-- One cell, in a new block. -/
theorem rone_new {w : World} {X : Nat} {T : TypeId} {u : Value} (h : w.heap[X]? = some (.cells #[u] T (0, 0))) : ∀ j x, [u][j]? = some x → w.cell? ((⟨X, 0, none⟩ : Addr).add j) = some x := by
  intro j x hj
  match j, hj with
  | 0, hj => simp at hj; subst hj; simp [Addr.add, World.cell?, h]

/-- All that was stored was stored into block b. -/
structure Into (b : Nat) (w w' : World) : Prop where
  os : w'.os = w.os
  tape : w'.tape = w.tape
  output : w'.output = w.output
  size : w'.heap.size = w.heap.size
  block : ∀ k, k ≠ b → w'.heap[k]? = w.heap[k]?
theorem Into.refl (b : Nat) (w : World) : Into b w w := ⟨rfl, rfl, rfl, rfl, fun _ _ => rfl⟩
theorem Into.set {b : Nat} {w v : World} (h : Into b w v) (i : Nat) (u : Value) : Into b w (v.setCell ⟨b, i, none⟩ u) :=
  ⟨h.os, h.tape, h.output, by rw [← h.size]; simp [World.setCell], fun k hk => (put_other hk u).trans (h.block k hk)⟩
theorem Into.drewN {b : Nat} {w v : World} (h : Into b w v) (n : Nat) : Into b w (v.drewN n) := ⟨h.os, h.tape, h.output, h.size, h.block⟩

theorem Into.owns {base b : Nat} {w w' : World} {e : TypeId} {v : Value} {n : Nat} {xs : List Value} (h : Into b w w') (hb : b < base) (hown : w.ownsRow base e 1 v n xs) : w'.ownsRow base e 1 v n xs := by
  obtain ⟨hl, hx⟩ := hown
  refine ⟨hl, ?_⟩
  rcases hx with hx | ⟨g, cap, cur, hv, hg, hh, r⟩
  · exact .inl hx
  · exact .inr ⟨g, cap, cur, hv, hg, (h.block g (by omega)).trans hh, r⟩

/-- A ring whose cells were all laid anew. -/
theorem ring_done {base b size next : Nat} {s room : List UInt8} {v : Value} {w w' W : World} (hb : b < base) (hB : base ≤ w.heap.size) (hbut : But base b w w') (hin : Into b w' W) (hm : RingM size s room next)
    (hh : W.heap[b]? = some (.cells #[.int .i64 size, v, .int .i64 next, .int .i64 s.length] 42 (0, 0))) (hown : w'.ownsRow base 5 1 v room.length (Lib.byteCells room)) :
    IsRing W base b size s ∧ But base b w W :=
  ⟨⟨hb, by have := hbut.size; have := hin.size; omega, room, next, v, hm, hh, hin.owns hb hown⟩,
    hin.os.trans hbut.os, hin.tape.trans hbut.tape, hin.output.trans hbut.output, by have := hbut.size; have := hin.size; omega, fun k hk hkb => (hin.block k hkb).trans (hbut.block k hk hkb)⟩

theorem cells_snoc (l : List UInt8) (c : UInt8) : Lib.byteCells (l ++ [c]) = Lib.byteCells l ++ [.int .u8 (c.toNat : Int)] := by simp [Lib.byteCells]

set_option maxHeartbeats 1000000 in
theorem rgnew_bad (n : Int) (w : World) (h : n < 1 ∨ 65536 < n) :
    Calls Try.prog 8 #[.int .i64 n] w fun e w' => e = .returned (.tuple #[.pointer none, .int .i64 2]) ∧ w = w' := by
  by_cases h1 : n < 1
  · go_enter Try.func8, Try.ntmps8
    go_wp2
    go_ret2
    exact ⟨rfl, rfl⟩
  · have h2 : 65536 < n := by omega
    go_enter Try.func8, Try.ntmps8
    go_wp2
    go_ret2
    exact ⟨rfl, rfl⟩

theorem fresh_ring (w : World) (size base : Nat) (h : 1 ≤ size) : IsRing (w.alloc (.cells #[.int .i64 size, .slice none 0 0, .int .i64 0, .int .i64 0] 42)) (w.heap.size + 1) w.heap.size size [] :=
  ⟨by omega, by simp, [], 0, .slice none 0 0, RingM.none h, heap_alloc_new w _, World.ownsRow_nil _ _ _ _⟩

set_option maxHeartbeats 1000000 in
theorem rgnew_good (n : Int) (w : World) (h1 : 1 ≤ n) (h2 : n ≤ 65536) :
    Calls Try.prog 8 #[.int .i64 n] w fun e w' => e = .returned (.tuple #[.pointer (some ⟨w.heap.size, 0, none⟩), .int .i64 0]) ∧ IsRing w' (w.heap.size + 1) w.heap.size n.toNat [] ∧ w'.heap.size = w.heap.size + 1 ∧ Below w.heap.size w w' := by
  obtain ⟨m, rfl⟩ : ∃ m : Nat, n = m := ⟨n.toNat, by omega⟩
  go_enter Try.func8, Try.ntmps8
  go_wp2
  go_ret2
  exact ⟨rfl, fresh_ring w m 0 (by omega), by simp, (Below.refl _ _).alloc (Nat.le_refl _) _⟩

set_option maxHeartbeats 2000000 in
theorem push_grow (base b size : Nat) (s room : List UInt8) (next : Nat) (v : Value) (c : UInt8) (w : World) (hs : s.length ≤ 1000000000) (hb : b < base) (hB : base ≤ w.heap.size) (hm : RingM size s room next)
    (hh : w.heap[b]? = some (.cells #[.int .i64 size, v, .int .i64 next, .int .i64 s.length] 42 (0, 0))) (hown : w.ownsRow base 5 1 v room.length (Lib.byteCells room)) (hlt : s.length < size) :
    Calls Try.prog 9 #[.pointer (some ⟨b, 0, none⟩), .int .u8 (c.toNat : Int)] w fun e w' => e = .returned (.tuple #[]) ∧ IsRing w' base b size (s ++ [c]) ∧ But base b w w' := by
  obtain ⟨rfl, e2⟩ := hm.low hlt
  obtain ⟨i0, hi, hz0, hz1, hz2⟩ := info_parts rbyte_info
  have hgrow := hm.grow hlt c
  obtain ⟨a, cap, rfl⟩ := owns_slice hown
  rw [e2] at hown hh
  have HL := Lib.hid e2
  have HG := Lib.hid hgrow
  clear hgrow hm e2
  have c0 : w.cell? ⟨b, 0, none⟩ = some (.int .i64 size) := by rw [Lib.cell_of_heap hh]; rfl
  have c1 : w.cell? ⟨b, 1, none⟩ = some (.slice a s.length cap) := by rw [Lib.cell_of_heap hh]; rfl
  have c2 : w.cell? ⟨b, 2, none⟩ = some (.int .i64 s.length) := by rw [Lib.cell_of_heap hh]; rfl
  have c3 : w.cell? ⟨b, 3, none⟩ = some (.int .i64 s.length) := by rw [Lib.cell_of_heap hh]; rfl
  go_enter Try.func9, Try.ntmps9
  go_wp2_with fail
  go_quiet (fail)
  go_wp2_with (at_builtin; refine wpList_append_own _ rfl _ _ 40 rfl base 5 i0 (.int .u8 0) 1 1 Try.underlying40 hi hz0 hz1 hz2 rfl (by decide) _ _ _ rfl (hown.alloc _) ⟨w.heap.size, 0, none⟩ 1 1 [.int .u8 (c.toNat : Int)] rfl rfl ?c1 ?c2 ?c3 ?c4 ?c5 ?_)
  case c1 => exact rone_new (heap_alloc_new _ _)
  case c2 => intro u hu; simp at hu; subst hu; rfl
  case c3 => unfold maxLen; omega
  case c4 => omega
  case c5 => simp; omega
  intro v' w2 hown' hgrow _
  have hbw : b < w.heap.size := lt_of_heap hh
  have hne : ∀ k, k < base → some k ≠ (Value.slice a s.length cap).ownBlock := fun k hk e => by have := (hown.lt k e.symm).1; omega
  have hh2 : w2.heap[b]? = some (.cells #[.int .i64 size, .slice a s.length cap, .int .i64 s.length, .int .i64 s.length] 42 (0, 0)) := by
    rw [hgrow.block b (by simp; omega) (hne b hb), Lib.alloc_old _ _ b (by simpa using hbw)]
    exact hh
  have hb2 : But base b w w2 := by
    refine ⟨hgrow.os, hgrow.tape, hgrow.output, Nat.le_trans (by simp) hgrow.size, fun k hk hkb => ?_⟩
    rw [hgrow.block k (by simp; omega) (hne k hk), Lib.alloc_old _ _ k (by simp; omega)]
    rfl
  clear hgrow hne hown hh c0 c1 c2 c3
  have c0 : w2.cell? ⟨b, 0, none⟩ = some (.int .i64 size) := by rw [Lib.cell_of_heap hh2]; rfl
  have c1 : w2.cell? ⟨b, 1, none⟩ = some (.slice a s.length cap) := by rw [Lib.cell_of_heap hh2]; rfl
  have c2 : w2.cell? ⟨b, 2, none⟩ = some (.int .i64 s.length) := by rw [Lib.cell_of_heap hh2]; rfl
  have c3 : w2.cell? ⟨b, 3, none⟩ = some (.int .i64 s.length) := by rw [Lib.cell_of_heap hh2]; rfl
  have f1 : w2.frozen? ⟨b, 1, none⟩ = false := Lib.frozen_of_heap hh2 1
  have f2 : w2.frozen? ⟨b, 2, none⟩ = false := Lib.frozen_of_heap hh2 2
  have f3 : w2.frozen? ⟨b, 3, none⟩ = false := Lib.frozen_of_heap hh2 3
  obtain ⟨a', cap', rfl⟩ := owns_slice hown'
  have hown3 : w2.ownsRow base 5 1 (.slice a' (s.length + 1) cap') (room ++ [c]).length (Lib.byteCells (room ++ [c])) := by
    rw [cells_snoc, List.length_append, HL.out]; exact hown'
  by_cases hw : s.length + 1 = size
  · subst hw
    go_wp2_with fail
    go_quiet (fail)
    go_wp2
    go_end0
    refine ⟨rfl, ring_done hb hB hb2 ((((((Into.refl b w2).set 1 _).set 2 _).drewN nq).set 2 _).set 3 _) HG.out ?_ hown3⟩
    refine (put_heap (put_heap (w := World.drewN _ nq) (put_heap (put_heap hh2 _) _) _) _).trans ?_
    simp [nx]
  · go_wp2_with fail
    go_quiet (fail)
    go_wp2
    go_end0
    refine ⟨rfl, ring_done hb hB hb2 (((((Into.refl b w2).set 1 _).set 2 _).drewN nq).set 3 _) HG.out ?_ hown3⟩
    refine (put_heap (w := World.drewN _ nq) (put_heap (put_heap hh2 _) _) _).trans ?_
    simp [nx, hw]
set_option maxHeartbeats 2000000 in
theorem push_turn (base b size : Nat) (s room : List UInt8) (next : Nat) (v : Value) (c : UInt8) (w : World) (hs : s.length ≤ 1000000000) (hb : b < base) (hB : base ≤ w.heap.size) (hm : RingM size s room next)
    (hh : w.heap[b]? = some (.cells #[.int .i64 size, v, .int .i64 next, .int .i64 s.length] 42 (0, 0))) (hown : w.ownsRow base 5 1 v room.length (Lib.byteCells room)) (hlt : size ≤ s.length) :
    Calls Try.prog 9 #[.pointer (some ⟨b, 0, none⟩), .int .u8 (c.toNat : Int)] w fun e w' => e = .returned (.tuple #[]) ∧ IsRing w' base b size (s ++ [c]) ∧ But base b w w' := by
  have hf := hm.full hlt
  have hp := hm.pos
  have hnl := hm.lt
  have HG := Lib.hid (hm.turn hlt c)
  obtain ⟨g, cap, hg, hcap, rfl⟩ := owns_some hown (by omega)
  have hst := hown.stored next (.int .u8 (c.toNat : Int))
  have fz : w.frozen? ⟨g, next, none⟩ = false := hown.frozenAt next
  have hbyte : w.cell? ⟨g, next, none⟩ = some (.int .u8 ((room[next]'(by omega)).toNat : Int)) := by
    rw [hown.cellAt next (by omega)]
    simp [Lib.byteCells, List.getElem?_eq_getElem (show next < room.length by omega)]
  generalize ((room[next]'(by omega)).toNat : Int) = old at hbyte
  rw [hf] at hst hown hh
  obtain ⟨hown2, hgr⟩ := hst
  have hbut : ∀ n, But base b w ((w.drewN n).setCell ⟨g, next, none⟩ (.int .u8 (c.toNat : Int))) := fun n => ⟨rfl, rfl, rfl, by simp [World.setCell], fun k hk _ => put_other (by omega) _⟩
  have hh2 : ∀ n, ((w.drewN n).setCell ⟨g, next, none⟩ (.int .u8 (c.toNat : Int))).heap[b]? = some (.cells #[.int .i64 size, .slice (some ⟨g, 0, none⟩) size cap, .int .i64 next, .int .i64 s.length] 42 (0, 0)) :=
    fun n => (put_other (w := w.drewN n) (by omega) _).trans hh
  have HH := Lib.hid hh2
  have HB := Lib.hid hbut
  have hown3 : w.ownsRow base 5 1 (.slice (some ⟨g, 0, none⟩) size cap) size (Lib.byteCells room) → (w.setCell ⟨g, next, none⟩ (.int .u8 (c.toNat : Int))).ownsRow base 5 1 (.slice (some ⟨g, 0, none⟩) size cap) (room.set next c).length (Lib.byteCells (room.set next c)) := fun _ => by
    rw [List.length_set, hf, show Lib.byteCells (room.set next c) = (Lib.byteCells room).set next (.int .u8 (c.toNat : Int)) by simp [Lib.byteCells, List.map_set]]
    exact hown2
  have HO : Hid (∀ n, ((w.drewN n).setCell ⟨g, next, none⟩ (.int .u8 (c.toNat : Int))).ownsRow base 5 1 (.slice (some ⟨g, 0, none⟩) size cap) (room.set next c).length (Lib.byteCells (room.set next c))) := Lib.hid (fun n => hown3 hown)
  clear hown3 hown2 hgr hbut hh2
  have HF := Lib.hid hf
  clear hm hf
  have c0 : w.cell? ⟨b, 0, none⟩ = some (.int .i64 size) := by rw [Lib.cell_of_heap hh]; rfl
  have c1 : w.cell? ⟨b, 1, none⟩ = some (.slice (some ⟨g, 0, none⟩) size cap) := by rw [Lib.cell_of_heap hh]; rfl
  have c2 : w.cell? ⟨b, 2, none⟩ = some (.int .i64 next) := by rw [Lib.cell_of_heap hh]; rfl
  have c3 : w.cell? ⟨b, 3, none⟩ = some (.int .i64 s.length) := by rw [Lib.cell_of_heap hh]; rfl
  have hne : ((next : Int) == (size : Int)) = false := by simp; omega
  have hi0 : (0 : Int) ≤ (next : Int) := by omega
  have hi1 : (next : Int) < (size : Int) := by omega
  go_enter Try.func9, Try.ntmps9
  go_wp2_with fail
  go_quiet (fail)
  go_wp2_with fail
  go_region
  have hgb : ¬ g = b := by omega
  have hbg : ¬ b = g := by omega
  have f2 : w.frozen? ⟨b, 2, none⟩ = false := Lib.frozen_of_heap hh 2
  have f3 : w.frozen? ⟨b, 3, none⟩ = false := Lib.frozen_of_heap hh 3
  clear fz hbyte hne hi0 hi1
  by_cases hw : next + 1 = size
  · subst hw
    go_wp2_with fail
    go_quiet (fail)
    go_wp2
    go_end0
    refine ⟨rfl, ring_done hb hB (HB.out _) (((((Into.refl b _).set 2 _).drewN nq).set 2 _).set 3 _) HG.out ?_ (HO.out _)⟩
    refine (put_heap (put_heap (w := World.drewN _ nq) (put_heap (HH.out _) _) _) _).trans ?_
    simp [nx]
  · go_wp2_with fail
    go_quiet (fail)
    go_wp2
    go_end0
    refine ⟨rfl, ring_done hb hB (HB.out _) ((((Into.refl b _).set 2 _).drewN nq).set 3 _) HG.out ?_ (HO.out _)⟩
    refine (put_heap (w := World.drewN _ nq) (put_heap (HH.out _) _) _).trans ?_
    simp [nx, hw]

theorem push_any (base b size : Nat) (s : List UInt8) (c : UInt8) (w : World) (hs : s.length ≤ 1000000000) (h : IsRing w base b size s) :
    Calls Try.prog 9 #[.pointer (some ⟨b, 0, none⟩), .int .u8 (c.toNat : Int)] w fun e w' => e = .returned (.tuple #[]) ∧ IsRing w' base b size (s ++ [c]) ∧ But base b w w' := by
  obtain ⟨hb, hB, room, next, v, hm, hh, hown⟩ := h
  rcases Nat.lt_or_ge s.length size with hl | hl
  · exact push_grow base b size s room next v c w hs hb hB hm hh hown hl
  · exact push_turn base b size s room next v c w hs hb hB hm hh hown hl

set_option maxHeartbeats 400000 in
theorem push_nil (c : Int) (w : World) :
    Calls Try.prog 9 #[.pointer none, .int .u8 c] w fun e w' => e = .returned (.tuple #[]) ∧ w = w' := by
  go_enter Try.func9, Try.ntmps9
  go_wp2_with fail
  refine bodyPost_ret (v := .tuple #[]) (results_none rfl _ _ _) rfl ?_
  exact ⟨rfl, rfl⟩

set_option maxHeartbeats 1000000 in
theorem write_any (base b size : Nat) (s l : List UInt8) (w : World) (hs : s.length + l.length ≤ 1000000000) (h : IsRing w base b size s) :
    Calls Try.prog 10 #[.pointer (some ⟨b, 0, none⟩), .string ⟨l.toArray⟩] w fun e w' => e = .returned (.tuple #[]) ∧ IsRing w' base b size (s ++ l) ∧ But base b w w' := by
  have HS := Lib.hid (bsize l)
  go_enter Try.func10, Try.ntmps10
  go_wp2
  go_loopw [4, 7] (fun x i wr => ∃ k : Nat, k ≤ l.length ∧ i = .int .i64 k ∧ Hid (IsRing wr base b size (s ++ l.take k)) ∧ But base b w wr) (fun _ i _ => l.length - (RowKit.intOf i).toNat)
  case atStart => exact ⟨0, Nat.zero_le _, rfl, Lib.hid (by simpa using h), But.refl _ _ _⟩
  case round =>
    obtain ⟨k, hk, rfl, hr, hbe⟩ := hrel
    by_cases hlt : k < l.length
    · have HB := Lib.hid (byteAt l k hlt (by rw [bsize]; exact hlt))
      have HP := Lib.hid (push_any base b size (s ++ l.take k) l[k] wr (by simp; omega) hr.out)
      have HT := Lib.hid (List.take_succ_eq_append_getElem hlt)
      go_wp2_with fail
      rw [HB.out]
      refine HP.out.mono ?_
      rintro e w2 ⟨rfl, hr2, hb2⟩
      go_wp2
      exact ⟨⟨k + 1, by omega, by go_num, Lib.hid (by rw [HT.out, ← List.append_assoc]; exact hr2), hbe.trans hb2⟩, by simp [RowKit.intOf]; omega⟩
    · obtain rfl : k = l.length := by omega
      go_wp2
      go_end0
      exact ⟨rfl, by simpa using hr.out, hbe⟩

set_option maxHeartbeats 1000000 in
theorem write_nil (s : ByteArray) (w : World) (hs : s.size ≤ 1000000000) :
    Calls Try.prog 10 #[.pointer none, .string s] w fun e w' => e = .returned (.tuple #[]) ∧ w = w' := by
  go_enter Try.func10, Try.ntmps10
  go_wp2
  go_loopw [4, 7] (fun x i wr => ∃ k : Nat, k ≤ s.size ∧ i = .int .i64 k ∧ w = wr) (fun _ i _ => s.size - (RowKit.intOf i).toNat)
  case atStart => exact ⟨0, Nat.zero_le _, rfl, rfl⟩
  case round =>
    obtain ⟨k, hk, rfl, rfl⟩ := hrel
    by_cases hlt : k < s.size
    · go_wp2_with fail
      refine (push_nil _ _).mono ?_
      rintro e w2 ⟨rfl, rfl⟩
      go_wp2
      exact ⟨⟨k + 1, by omega, by go_num, trivial⟩, by simp [RowKit.intOf]; omega⟩
    · obtain rfl : k = s.size := by omega
      go_wp2
      go_end0
      exact ⟨rfl, rfl⟩
end Go.Proofs.Ytbdpdfdcenidkaa
