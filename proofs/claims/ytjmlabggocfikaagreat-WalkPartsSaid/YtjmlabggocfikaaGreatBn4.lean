/-
  Texts put together: ClW, IntsB, Ints, OwnBe, DnW, LkF, PtIs, PtLa, PtIp, AfFw, PtFew, FewN, TrS, TrD.
-/
import Derived.Test.YtjmlabggocfikaaGreatBn3
import Derived.Test.YtjmlabggocfikaaGreatBn2
import Derived.Lib.Hide
import Derived.Laws.CopyOwn
import Derived.Laws.ResultCell
import Derived.Test.YtjmlabggocfikaaGreatBn1
import Derived.Sort.Grow
set_option linter.unusedSimpArgs false
set_option linter.unusedVariables false
namespace Go.Proofs.YtjmlabggocfikaaGreat
open Go.RowKit

/-- The cells of classes: each byte's class, and the bytes that have one. -/
def ClsAt (cs : Array Value) (F : Nat → Nat) (B : List UInt8) : Prop := (∀ c, c < 256 → cs[c]? = some (.int .i64 (F c : Int))) ∧ cs[256]? = some (.string ⟨B.toArray⟩)
/-- Classes in block b. -/
def IsCls (w : World) (b : Nat) (F : Nat → Nat) (B : List UInt8) : Prop := ∃ cs : Array Value, w.heap[b]? = some (.cells cs 127 (0, 0)) ∧ ClsAt cs F B
theorem IsCls.lt {w : World} {b : Nat} {F : Nat → Nat} {B : List UInt8} (h : IsCls w b F B) : b < w.heap.size := by
  obtain ⟨cs, h, _⟩ := h
  exact heap_lt h
theorem IsCls.below {w w' : World} {b : Nat} {F : Nat → Nat} {B : List UInt8} (h : IsCls w b F B) (hb : Below w.heap.size w w') : IsCls w' b F B := by
  have hlt := h.lt
  obtain ⟨cs, h1, h2⟩ := h
  exact ⟨cs, (hb.block b hlt).trans h1, h2⟩
theorem IsCls.heap {w W : World} {b : Nat} {F : Nat → Nat} {B : List UInt8} (h : IsCls w b F B) (e : W.heap = w.heap) : IsCls W b F B := by
  unfold IsCls at *
  rw [e]
  exact h
theorem IsCls.congr {w : World} {b : Nat} {F G : Nat → Nat} {B : List UInt8} (h : IsCls w b F B) (e : ∀ c, c < 256 → F c = G c) : IsCls w b G B := by
  obtain ⟨cs, h1, h2, h3⟩ := h
  exact ⟨cs, h1, fun c hc => by rw [← e c hc]; exact h2 c hc, h3⟩
theorem IsCls.put {w : World} {b c n : Nat} {F : Nat → Nat} {B : List UInt8} (h : IsCls w b F B) (hc : c < 256) : IsCls (w.setCell ⟨b, c, none⟩ (.int .i64 (n : Int))) b (fun d => if d = c then n else F d) B := by
  obtain ⟨cs, h1, h2, h3⟩ := h
  refine ⟨_, put_heap h1 _, fun d hd => ?_, ?_⟩
  · have hl := (Array.getElem?_eq_some_iff.1 (h2 d hd)).1
    by_cases e : d = c
    · subst e
      simp only [↓reduceIte]
      rw [Array.getElem?_setIfInBounds_self_of_lt hl]
    · simp only [if_neg e]
      rw [Array.getElem?_setIfInBounds_ne (by omega)]
      exact h2 d hd
  · rw [Array.getElem?_setIfInBounds_ne (by omega)]
    exact h3
theorem IsCls.putB {w : World} {b : Nat} {F : Nat → Nat} {B : List UInt8} (h : IsCls w b F B) (L : List UInt8) : IsCls (w.setCell ⟨b, 256, none⟩ (.string ⟨L.toArray⟩)) b F L := by
  obtain ⟨cs, h1, h2, h3⟩ := h
  have hl := (Array.getElem?_eq_some_iff.1 h3).1
  refine ⟨_, put_heap h1 _, fun d hd => ?_, ?_⟩
  · rw [Array.getElem?_setIfInBounds_ne (by omega)]
    exact h2 d hd
  · rw [Array.getElem?_setIfInBounds_self_of_lt hl]
theorem IsCls.cell {w : World} {b c : Nat} {F : Nat → Nat} {B : List UInt8} (h : IsCls w b F B) (hc : c < 256) : w.cell? ⟨b, c, none⟩ = some (.int .i64 (F c : Int)) := by
  obtain ⟨cs, h1, h2, _⟩ := h
  rw [Lib.cell_of_heap h1]
  exact h2 c hc
theorem IsCls.last {w : World} {b : Nat} {F : Nat → Nat} {B : List UInt8} (h : IsCls w b F B) : w.cell? ⟨b, 256, none⟩ = some (.string ⟨B.toArray⟩) := by
  obtain ⟨cs, h1, _, h3⟩ := h
  rw [Lib.cell_of_heap h1]
  exact h3
theorem IsCls.free {w : World} {b i : Nat} {F : Nat → Nat} {B : List UInt8} (h : IsCls w b F B) : w.frozen? ⟨b, i, none⟩ = false := by
  obtain ⟨cs, h1, _⟩ := h
  exact Lib.frozen_of_heap h1 _

/-- Classes behind a pointer, or none: then all bytes are foreign; how many there are. -/
def HasCls (w : World) (p : Option Addr) (F : Nat → Nat) (B : List UInt8) (n : Nat) : Prop := (p = none ∧ (∀ c, F c = 0) ∧ B = [] ∧ n = 0) ∨ ∃ b, p = some ⟨b, 0, none⟩ ∧ IsCls w b F B ∧ n = B.length + 1
theorem HasCls.below {w w' : World} {p : Option Addr} {F : Nat → Nat} {B : List UInt8} {n : Nat} (h : HasCls w p F B n) (hb : Below w.heap.size w w') : HasCls w' p F B n :=
  h.elim .inl (fun ⟨b, h1, h2, h3⟩ => .inr ⟨b, h1, h2.below hb, h3⟩)
theorem HasCls.heap {w W : World} {p : Option Addr} {F : Nat → Nat} {B : List UInt8} {n : Nat} (h : HasCls w p F B n) (e : W.heap = w.heap) : HasCls W p F B n :=
  h.elim .inl (fun ⟨b, h1, h2, h3⟩ => .inr ⟨b, h1, h2.heap e, h3⟩)

theorem clof_any {w : World} {p : Option Addr} {F : Nat → Nat} {B : List UInt8} {n : Nat} (h : HasCls w p F B n) (c : Nat) (hc : c < 256) :
    Calls Tryz.prog 61 #[.pointer p, .int .u8 (c : Int)] w fun e w' => e = .returned (.int .i64 (F c : Int)) ∧ w' = w := by
  rcases h with ⟨rfl, h, _⟩ | ⟨b, rfl, h, _⟩
  · rw [h c]
    clear h
    go_enter Tryz.func61, Tryz.ntmps61
    go_wp2
    go_ret
    exact ⟨rfl, rfl⟩
  · have c0 := h.cell hc
    clear h
    have g0 : (0 : Int) ≤ (c : Int) := by omega
    have g1 : (c : Int) < 256 := by omega
    go_enter Tryz.func61, Tryz.ntmps61
    go_wp2
    go_ret
    exact ⟨rfl, rfl⟩
theorem cllen_any {w : World} {p : Option Addr} {F : Nat → Nat} {B : List UInt8} {n : Nat} (h : HasCls w p F B n) (hB : B.length ≤ 1000000) :
    Calls Tryz.prog 52 #[.pointer p] w fun e w' => e = .returned (.int .i64 (n : Int)) ∧ w' = w := by
  rcases h with ⟨rfl, _, _, rfl⟩ | ⟨b, rfl, h, rfl⟩
  · go_enter Tryz.func52, Tryz.ntmps52
    go_wp2
    go_ret
    exact ⟨rfl, rfl⟩
  · have c0 := h.last
    have S1 := Lib.hid (bsize B)
    clear h
    have hs := bsize B
    have g0 : IntKind.i64.wrap (1 + (B.length : Int)) = ((B.length + 1 : Nat) : Int) := by rw [IntKind.wrap_i64]; omega
    go_enter Tryz.func52, Tryz.ntmps52
    go_wp2
    go_ret
    refine ⟨?_, rfl⟩
    try go_num
    try rfl

end Go.Proofs.YtjmlabggocfikaaGreat

namespace Go.Proofs.YtjmlabggocfikaaGreat
open Go.RowKit

theorem int_info : (Tryz.prog.info? 3).map (fun i => (i.zero, i.size, i.bytes)) = some (some (.int .i64 0), 1, 8) := by kernel_rfl

/-- The cells of numbers. -/
def inCells (zs : List Int) : List Value := zs.map (Value.int .i64)
theorem inCells_snoc (zs : List Int) (x : Int) : inCells (zs ++ [x]) = inCells zs ++ [.int .i64 x] := by simp [inCells]

theorem owns_ints {w : World} {base : Nat} {e : TypeId} {v : Value} {zs : List Int} (h : w.ownsRow base e 1 v zs.length (inCells zs)) :
    ∃ ao cap, v = .slice ao zs.length cap ∧ (zs.length = 0 ∨ ∃ g, ao = some ⟨g, 0, none⟩ ∧ base ≤ g ∧ g < w.heap.size ∧ ∀ i, i < zs.length → w.cell? ⟨g, 0 + i, none⟩ = some (.int .i64 (zs.getD i 0))) := by
  rcases h.2 with ⟨hv, h0⟩ | ⟨g, cap, cur, hv, hg, _⟩
  · have h0' : zs.length = 0 := h0
    exact ⟨none, 0, by rw [h0']; exact hv, .inl h0'⟩
  · have hlt := h.lt (k := g) (by rw [hv]; rfl)
    refine ⟨some ⟨g, 0, none⟩, cap, hv, .inr ⟨g, rfl, hlt.1, hlt.2, fun i hi => ?_⟩⟩
    have hc := h.cells (g := g) (by rw [hv]; rfl) i (.int .i64 (zs.getD i 0)) (by simp [inCells, List.getD, List.getElem?_eq_getElem hi])
    rwa [addPlain] at hc

/-- Numbers in memory: all cells, not just those of a slice that came in. -/
theorem row_of_ints {w : World} {base : Nat} {e : TypeId} {v : Value} {zs : List Int} (h : w.ownsRow base e 1 v zs.length (inCells zs)) (hm : zs.length ≤ maxLen) :
    ∃ ao cap, v = .slice ao zs.length cap ∧ IsRow .i64 w ao zs.length zs.length zs := by
  obtain ⟨ao, cap, hv, h0 | ⟨g, hao, _, _, hc⟩⟩ := owns_ints h
  · exact ⟨ao, cap, hv, .inl h0⟩
  · exact ⟨ao, cap, hv, .inr ⟨g, 0, hao, Nat.le_refl _, hm, rfl, hc⟩⟩

/-- A number's one cell, in a block of its own. -/
theorem int_news {w : World} {X : Nat} {T : TypeId} {u : Value} (h : w.heap[X]? = some (.cells #[u] T (0, 0))) : ∀ j x, [u][j]? = some x → w.cell? ((⟨X, 0, none⟩ : Addr).add j) = some x := one_news h
theorem int_one {x : Int} : ∀ v ∈ [Value.int .i64 x], v.oneCell' = true := by
  intro v hv
  simp at hv
  subst hv; rfl

/-- A list of numbers, as an answer: a slice of the call's own; nothing that was there is written. -/
def RetN (zs : List Int) (w : World) (e : Ending) (w' : World) : Prop := ∃ (v : Value), e = .returned v ∧ w'.ownsRow w.heap.size 3 1 v zs.length (inCells zs) ∧ Below w.heap.size w w'

/-- A list of numbers, to be read: a slice; nothing that was there is written. -/
def RetI (zs : List Int) (w : World) (e : Ending) (w' : World) : Prop := ∃ (a : Option Addr) (cap : Nat), e = .returned (.slice a zs.length cap) ∧ IsRow .i64 w' a zs.length zs.length zs ∧ Below w.heap.size w w'
theorem RetI.of {zs L : List Int} {w0 w w' : World} {v : Value} (e : zs = L) (h : w'.ownsRow w0.heap.size 3 1 v L.length (inCells L)) (hm : L.length ≤ maxLen) (hb : Below w.heap.size w w') : ∃ a cap, v = .slice a L.length cap ∧ RetI zs w (.returned (.slice a L.length cap)) w' := by
  obtain ⟨ao, cap, hv, hr⟩ := row_of_ints h hm
  subst e
  exact ⟨ao, cap, hv, ao, cap, rfl, hr, hb⟩

/-- A row in one block of its own. -/
theorem row_heap {w : World} {g n : Nat} {zs : List Int} {T : TypeId} (h : w.heap[g]? = some (.cells (inCells zs).toArray T (0, 0))) (hn : zs.length = n) (hm : n ≤ maxLen) : IsRow .i64 w (some ⟨g, 0, none⟩) n n zs := by
  refine .inr ⟨g, 0, rfl, Nat.le_refl _, hm, hn, fun i hi => ?_⟩
  rw [Nat.zero_add, Lib.cell_of_heap h]
  simp [inCells, List.getD, List.getElem?_eq_getElem (show i < zs.length by omega)]
end Go.Proofs.YtjmlabggocfikaaGreat

namespace Go.Proofs.YtjmlabggocfikaaGreat
open Go.RowKit

set_option maxRecDepth 100000 in
theorem make_row (c : Nat) (w : World) (hc : c ≤ 1000000000) : (Instr.makeSlice 42 (.int .i64 (c : Int)) (.int .i64 (c : Int))).run Tryz.prog w = .ok (.slice (some ⟨w.heap.size, 0, none⟩) c c) (w.alloc (.cells (inCells (List.replicate c 0)).toArray 3)) := by
  obtain ⟨i0, hi, hz0, hz1, hz2⟩ := info_parts int_info
  have h := run_make (P := Tryz.prog) w 42 3 i0 (.int .i64 0) Tryz.underlying42 hi hz0 .i64 .i64 c c (by omega) (Int.le_refl _) (by rw [hz2]; omega) (by omega)
  rw [h, hz1, Nat.mul_one, Int.toNat_natCast, show inCells (List.replicate c 0) = List.replicate c (Value.int .i64 0) by simp [inCells]]
  congr 3
  show madeCells #[Value.int .i64 0] c = _
  rw [← toList_madeCells_one]
end Go.Proofs.YtjmlabggocfikaaGreat

namespace Go.Proofs.YtjmlabggocfikaaGreat
open Go.RowKit

theorem own_below {base : Nat} {e : TypeId} {v : Value} {n : Nat} {xs : List Value} {w0 w w' : World} {o : Obj} (hb : Below w0.heap.size w0 w) (hown : w.ownsRow base e 1 v n xs) (hbase : w0.heap.size ≤ base) (hg : (w.alloc o).grownBy w' v.ownBlock) : Below w0.heap.size w0 w' :=
  hb.trans ⟨hg.os, hg.tape, hg.output, Nat.le_trans (by simp) hg.size, fun i hi => by
    rw [hg.block i (by have := hb.size; simp; omega) (fun e => by have := (hown.lt i e.symm).1; omega), Lib.alloc_old _ _ i (by have := hb.size; omega)]⟩
end Go.Proofs.YtjmlabggocfikaaGreat

namespace Go.Proofs.YtjmlabggocfikaaGreat
open Go.RowKit

/-- The cells of rows. -/
def dnV (n : Nat) : Value := .int .i32 (n : Int)
def dnCells (L : List Nat) : List Value := L.map dnV
theorem dnCells_length (L : List Nat) : (dnCells L).length = L.length := List.length_map _
/-- A table in block b, its rows in block g. -/
structure IsTb (w : World) (b g : Nat) (pc : Option Addr) (n W : Nat) (L : List Nat) : Prop where
  head : w.heap[b]? = some (.cells #[.pointer pc, .int .i64 (n : Int), .slice (some ⟨g, 0, none⟩) L.length L.length] 85 (0, 0))
  row : w.heap[g]? = some (.cells (dnCells L).toArray 21 (0, 0))
  len : L.length = n * W
  fn : n ≤ 16777217
  fw : W ≤ 257
  wp : 0 < W
  fit : ∀ x ∈ L, x ≤ 16777217
theorem IsTb.lt {w : World} {b g : Nat} {pc : Option Addr} {n W : Nat} {L : List Nat} (h : IsTb w b g pc n W L) : b < w.heap.size := heap_lt h.head
theorem IsTb.ltg {w : World} {b g : Nat} {pc : Option Addr} {n W : Nat} {L : List Nat} (h : IsTb w b g pc n W L) : g < w.heap.size := heap_lt h.row
theorem IsTb.below {w w' : World} {b g : Nat} {pc : Option Addr} {n W : Nat} {L : List Nat} (h : IsTb w b g pc n W L) (hb : Below w.heap.size w w') : IsTb w' b g pc n W L :=
  ⟨(hb.block b h.lt).trans h.head, (hb.block g h.ltg).trans h.row, h.len, h.fn, h.fw, h.wp, h.fit⟩
theorem IsTb.heap {w w' : World} {b g : Nat} {pc : Option Addr} {n W : Nat} {L : List Nat} (h : IsTb w b g pc n W L) (e : w'.heap = w.heap) : IsTb w' b g pc n W L :=
  ⟨by rw [e]; exact h.head, by rw [e]; exact h.row, h.len, h.fn, h.fw, h.wp, h.fit⟩
theorem IsTb.most {w : World} {b g : Nat} {pc : Option Addr} {n W : Nat} {L : List Nat} (h : IsTb w b g pc n W L) : L.length ≤ 4311744769 := by
  have h1 := h.fn
  have h2 := h.fw
  have := Nat.mul_le_mul h1 h2
  rw [h.len]; omega
theorem IsTb.reads {w : World} {b g : Nat} {pc : Option Addr} {n W : Nat} {L : List Nat} (h : IsTb w b g pc n W L) : w.cell? ⟨b, 0, none⟩ = some (.pointer pc) ∧ w.cell? ⟨b, 1, none⟩ = some (.int .i64 (n : Int)) ∧ w.cell? ⟨b, 2, none⟩ = some (.slice (some ⟨g, 0, none⟩) L.length L.length) := by
  refine ⟨?_, ?_, ?_⟩ <;> rw [Lib.cell_of_heap h.head] <;> rfl
theorem IsTb.cell {w : World} {b g : Nat} {pc : Option Addr} {n W : Nat} {L : List Nat} (h : IsTb w b g pc n W L) {j x : Nat} (hx : L[j]? = some x) : w.cell? ⟨g, j, none⟩ = some (.int .i32 (x : Int)) := by
  rw [Lib.cell_of_heap h.row]
  simp [dnCells, hx, dnV]
theorem IsTb.free {w : World} {b g : Nat} {pc : Option Addr} {n W : Nat} {L : List Nat} (h : IsTb w b g pc n W L) (j : Nat) : w.frozen? ⟨g, j, none⟩ = false := Lib.frozen_of_heap h.row _
theorem IsTb.seg_cell {w : World} {b g : Nat} {pc : Option Addr} {n W : Nat} {L : List Nat} (h : IsTb w b g pc n W L) {i k x : Nat} (hx : (seg L W i)[k]? = some x) : k < W ∧ x ≤ 16777217 ∧ w.cell? ⟨g, i * W + k, none⟩ = some (.int .i32 (x : Int)) := by
  rw [seg_at] at hx
  by_cases hk : k < W
  · rw [if_pos hk] at hx
    exact ⟨hk, h.fit x (List.mem_of_getElem? hx), h.cell hx⟩
  · rw [if_neg hk] at hx; cases hx
/-- A table and its classes. -/
structure IsDn (w : World) (b g : Nat) (pc : Option Addr) (n W : Nat) (L : List Nat) (F : Nat → Nat) (B : List UInt8) : Prop where
  tb : IsTb w b g pc n W L
  cl : HasCls w pc F B W
  fb : B.length ≤ 1000
theorem IsDn.below {w w' : World} {b g : Nat} {pc : Option Addr} {n W : Nat} {L : List Nat} {F : Nat → Nat} {B : List UInt8} (h : IsDn w b g pc n W L F B) (hb : Below w.heap.size w w') : IsDn w' b g pc n W L F B := ⟨h.tb.below hb, h.cl.below hb, h.fb⟩

theorem dnnil_eq (w : World) (a : Option Addr) (n c n' c' : Nat) : (binOp .eql 83 (.slice a n c) (.slice none n' c')).run Tryz.prog w = .ok (.bool a.isNone) w := Lib.run_eql_slice_nil w _ _ a n c n' c' Tryz.underlying83
theorem dnlen_any {w : World} {b g : Nat} {pc : Option Addr} {n W : Nat} {L : List Nat} (h : IsTb w b g pc n W L) : Calls Tryz.prog 90 #[.pointer (some ⟨b, 0, none⟩)] w fun e w' => e = .returned (.int .i64 (n : Int)) ∧ w' = w := by
  have c1 := h.reads.2.1
  clear h
  go_enter Tryz.func90, Tryz.ntmps90
  go_wp2
  go_ret
  exact ⟨rfl, rfl⟩
theorem dncls_any {w : World} {b g : Nat} {pc : Option Addr} {n W : Nat} {L : List Nat} (h : IsTb w b g pc n W L) : Calls Tryz.prog 105 #[.pointer (some ⟨b, 0, none⟩)] w fun e w' => e = .returned (.pointer pc) ∧ w' = w := by
  have c1 := h.reads.1
  clear h
  go_enter Tryz.func105, Tryz.ntmps105
  go_wp2
  go_ret
  exact ⟨rfl, rfl⟩
theorem dnwid_any {w : World} {b g : Nat} {pc : Option Addr} {n W : Nat} {L : List Nat} {F : Nat → Nat} {B : List UInt8} (h : IsDn w b g pc n W L F B) : Calls Tryz.prog 91 #[.pointer (some ⟨b, 0, none⟩)] w fun e w' => e = .returned (.int .i64 (W : Int)) ∧ w' = w := by
  have HC := Lib.hid (dncls_any h.tb)
  have HL := Lib.hid (cllen_any h.cl (by have := h.fb; omega))
  clear h
  go_enter Tryz.func91, Tryz.ntmps91
  go_wp2_with fail
  refine HC.out.mono ?_
  rintro e w' ⟨rfl, rfl⟩
  go_wp2_with fail
  refine HL.out.mono ?_
  rintro e w' ⟨rfl, rfl⟩
  go_wp2
  go_ret
  exact ⟨rfl, rfl⟩
/-- A nil table. -/
theorem dnlen_nil (w : World) : Calls Tryz.prog 90 #[.pointer none] w fun e w' => e = .returned (.int .i64 0) ∧ w' = w := by
  go_enter Tryz.func90, Tryz.ntmps90
  go_wp2
  go_ret
  exact ⟨rfl, rfl⟩
theorem dncls_nil (w : World) : Calls Tryz.prog 105 #[.pointer none] w fun e w' => e = .returned (.pointer none) ∧ w' = w := by
  go_enter Tryz.func105, Tryz.ntmps105
  go_wp2
  go_ret
  exact ⟨rfl, rfl⟩
theorem dnwid_nil (w : World) : Calls Tryz.prog 91 #[.pointer none] w fun e w' => e = .returned (.int .i64 0) ∧ w' = w := by
  have HC := Lib.hid (dncls_nil w)
  have HL := Lib.hid (cllen_any (w := w) (p := none) (F := fun _ => 0) (B := []) (n := 0) (.inl ⟨rfl, fun _ => rfl, rfl, rfl⟩) (by simp))
  go_enter Tryz.func91, Tryz.ntmps91
  go_wp2_with fail
  refine HC.out.mono ?_
  rintro e w' ⟨rfl, rfl⟩
  go_wp2_with fail
  refine HL.out.mono ?_
  rintro e w' ⟨rfl, rfl⟩
  go_wp2
  go_ret
  exact ⟨rfl, rfl⟩

set_option maxHeartbeats 1000000 in
theorem dnrow_in {w : World} {b g : Nat} {pc : Option Addr} {n W : Nat} {L : List Nat} {F : Nat → Nat} {B : List UInt8} (h : IsDn w b g pc n W L F B) (i : Nat) (hi : i < n) : Calls Tryz.prog 60 #[.pointer (some ⟨b, 0, none⟩), .int .i64 (i : Int)] w fun e w' => e = .returned (.slice (some ⟨g, i * W, none⟩) W W) ∧ w' = w := by
  have HL := Lib.hid (dnlen_any h.tb)
  have HW := Lib.hid (dnwid_any h)
  have c2 := h.tb.reads.2.2
  have hm := h.tb.most
  have hin := seg_in (W := W) hi
  rw [← h.tb.len] at hin
  have hfw := h.tb.fw
  have hfn := h.tb.fn
  have hwp := h.tb.wp
  clear h
  have hmul : (i : Int) * (W : Int) = ((i * W : Nat) : Int) := by simp
  generalize i * W = q at *
  generalize L.length = m at *
  have w0 : IntKind.i64.wrap ((i : Int) * (W : Int)) = (q : Int) := by rw [hmul, IntKind.wrap_i64]; omega
  have w1 : IntKind.i64.wrap ((q : Int) + (W : Int)) = ((q + W : Nat) : Int) := by rw [IntKind.wrap_i64]; omega
  have g0 : ¬ (i : Int) < 0 := by omega
  have g1 : decide ((i : Int) < 0) = false := decide_eq_false g0
  have g2 : ¬ (n : Int) ≤ (i : Int) := by omega
  have g3 : decide ((n : Int) ≤ (i : Int)) = false := decide_eq_false g2
  have g4 : (q : Int) ≤ ((q + W : Nat) : Int) := by omega
  have g5 : ((q + W : Nat) : Int) ≤ (m : Int) := by omega
  have g6 : (0 : Int) ≤ (q : Int) := by omega
  have g7 : ¬ W = 0 := by omega
  have g8 : ¬ q + W = q := by omega
  clear hmul
  go_enter Tryz.func60, Tryz.ntmps60
  go_wp2_with fail
  refine HL.out.mono ?_
  rintro e w' ⟨rfl, hw'⟩
  obtain rfl := hw'.symm
  clear hw'
  go_wp2_with fail
  refine HW.out.mono ?_
  rintro e w' ⟨rfl, hw'⟩
  obtain rfl := hw'.symm
  clear hw'
  go_wp2_with fail
  refine HW.out.mono ?_
  rintro e w' ⟨rfl, hw'⟩
  obtain rfl := hw'.symm
  clear hw'
  go_wp2
  go_ret
  refine ⟨?_, rfl⟩
  show Ending.returned (Value.slice (some ⟨g, q, none⟩) (q + W - q) (q + W - q)) = _
  rw [Nat.add_sub_cancel_left]
set_option maxRecDepth 100000 in
theorem dnrow_out {w : World} {b g : Nat} {pc : Option Addr} {n W : Nat} {L : List Nat} (h : IsTb w b g pc n W L) (s : Int) (hs : s < 0 ∨ (n : Int) ≤ s) : Calls Tryz.prog 60 #[.pointer (some ⟨b, 0, none⟩), .int .i64 s] w fun e w' => e = .returned (.slice none 0 0) ∧ w' = w := by
  have HL := Lib.hid (dnlen_any h)
  clear h
  go_enter Tryz.func60, Tryz.ntmps60
  by_cases g0 : s < 0
  · have g1 : decide (s < 0) = true := decide_eq_true g0
    go_wp2
    go_ret
    exact ⟨rfl, rfl⟩
  · have g1 : decide (s < 0) = false := decide_eq_false g0
    have g2 : (n : Int) ≤ s := by omega
    have g3 : decide ((n : Int) ≤ s) = true := decide_eq_true g2
    go_wp2_with fail
    refine HL.out.mono ?_
    rintro e w' ⟨rfl, rfl⟩
    go_wp2
    go_ret
    exact ⟨rfl, rfl⟩
set_option maxRecDepth 100000 in
theorem dnrow_nil (s : Int) (w : World) : Calls Tryz.prog 60 #[.pointer none, .int .i64 s] w fun e w' => e = .returned (.slice none 0 0) ∧ w' = w := by
  have HL := Lib.hid (dnlen_nil w)
  go_enter Tryz.func60, Tryz.ntmps60
  by_cases g0 : s < 0
  · have g1 : decide (s < 0) = true := decide_eq_true g0
    go_wp2
    go_ret
    exact ⟨rfl, rfl⟩
  · have g1 : decide (s < 0) = false := decide_eq_false g0
    have g2 : (0 : Int) ≤ s := by omega
    have g3 : decide ((0 : Int) ≤ s) = true := decide_eq_true g2
    go_wp2_with fail
    refine HL.out.mono ?_
    rintro e w' ⟨rfl, rfl⟩
    go_wp2
    go_ret
    exact ⟨rfl, rfl⟩

/-- Of what is no state nothing is told. -/
def NoRow (w : World) (p : Option Addr) (s : Int) : Prop := ∀ W, W.heap = w.heap → Calls Tryz.prog 60 #[.pointer p, .int .i64 s] W fun e w' => e = .returned (.slice none 0 0) ∧ w' = W
set_option maxRecDepth 100000 in
theorem dnstep_none {w : World} {p : Option Addr} {s : Int} (h : NoRow w p s) (c : UInt8) : Calls Tryz.prog 40 #[.pointer p, .int .i64 s, .int .u8 (c.toNat : Int)] w fun e w' => e = .returned (.int .i64 0) ∧ w' = w := by
  have HR := Lib.hid (h w rfl)
  have hnil := dnnil_eq (n' := 0) (c' := 0)
  clear h
  go_enter Tryz.func40, Tryz.ntmps40
  go_wp2_with fail
  refine HR.out.mono ?_
  rintro e w' ⟨rfl, rfl⟩
  go_wp2
  go_ret
  exact ⟨rfl, rfl⟩
set_option maxRecDepth 100000 in
set_option maxHeartbeats 1000000 in
theorem dnstep_in {w : World} {b g : Nat} {pc : Option Addr} {n W : Nat} {L : List Nat} {F : Nat → Nat} {B : List UInt8} (h : IsDn w b g pc n W L F B) (i : Nat) (hi : i < n) (c : UInt8) {x : Nat} (hx : (seg L W i)[F c.toNat]? = some x) : Calls Tryz.prog 40 #[.pointer (some ⟨b, 0, none⟩), .int .i64 (i : Int), .int .u8 (c.toNat : Int)] w fun e w' => e = .returned (.int .i64 (x : Int)) ∧ w' = w := by
  have HR := Lib.hid (dnrow_in h i hi)
  have HO := Lib.hid (clof_any h.cl c.toNat c.toNat_lt)
  have c0 := h.tb.reads.1
  obtain ⟨hk, hxl, cx⟩ := h.tb.seg_cell hx
  clear h hx
  generalize i * W = q at *
  generalize F c.toNat = k at *
  have g0 : (0 : Int) ≤ (k : Int) := by omega
  have g1 : (k : Int) < (W : Int) := by omega
  have w0 : IntKind.i64.wrap (x : Int) = (x : Int) := by rw [IntKind.wrap_i64]; omega
  have hnil := dnnil_eq (n' := 0) (c' := 0)
  go_enter Tryz.func40, Tryz.ntmps40
  go_wp2_with fail
  refine HR.out.mono ?_
  rintro e w' ⟨rfl, hw'⟩
  obtain rfl := hw'.symm
  clear hw'
  go_wp2_with fail
  refine HO.out.mono ?_
  rintro e w' ⟨rfl, hw'⟩
  obtain rfl := hw'.symm
  clear hw'
  go_wp2
  go_ret
  exact ⟨rfl, rfl⟩
end Go.Proofs.YtjmlabggocfikaaGreat

namespace Go.Proofs.YtjmlabggocfikaaGreat
open Go.RowKit

/-- The two cells of where a state falls back to. -/
def flOne (r : Nat × Nat) : List Value := [.int .i32 (r.1 : Int), .int .i32 (r.2 : Int)]
def flCells (F : List (Nat × Nat)) : List Value := F.flatMap flOne
theorem fl_cons (r : Nat × Nat) (F : List (Nat × Nat)) : flCells (r :: F) = flOne r ++ flCells F := rfl
theorem flOne_length (r : Nat × Nat) : (flOne r).length = 2 := rfl
theorem flCells_length : ∀ F : List (Nat × Nat), (flCells F).length = F.length * 2
  | [] => rfl
  | r :: F => by rw [fl_cons, List.length_append, flCells_length F, List.length_cons, flOne_length]; omega
theorem flCells_at : ∀ (F : List (Nat × Nat)) (i j : Nat) {r : Nat × Nat}, F[i]? = some r → j < 2 → (flCells F)[i * 2 + j]? = (flOne r)[j]?
  | q :: F, 0, j, r, h, hj => by
    simp at h; subst h
    rw [fl_cons, List.getElem?_append_left (by rw [flOne_length]; omega)]; congr 1; omega
  | q :: F, i + 1, j, r, h, hj => by
    rw [fl_cons, List.getElem?_append_right (by rw [flOne_length]; omega), flOne_length, show (i + 1) * 2 + j - 2 = i * 2 + j by omega]
    exact flCells_at F i j (by simpa using h) hj
theorem fl_set : ∀ (F : List (Nat × Nat)) (i : Nat) {r : Nat × Nat} (a b : Nat), F[i]? = some r → ((flCells F).set (i * 2) (.int .i32 (a : Int))).set (i * 2 + 1) (.int .i32 (b : Int)) = flCells (F.set i (a, b))
  | q :: F, 0, r, a, b, h => by rfl
  | q :: F, i + 1, r, a, b, h => by
    rw [fl_cons, List.set_cons_succ, fl_cons, ← fl_set F i a b (by simpa using h), List.set_append_right _ _ (by rw [flOne_length]; omega), List.set_append_right _ _ (by rw [flOne_length]; omega), flOne_length, show (i + 1) * 2 - 2 = i * 2 by omega, show (i + 1) * 2 + 1 - 2 = i * 2 + 1 by omega]
theorem fl_rep : ∀ n : Nat, flCells (List.replicate n (0, 0)) = List.replicate (n * 2) (.int .i32 0)
  | 0 => rfl
  | n + 1 => by rw [List.replicate_succ, fl_cons, fl_rep n, show (n + 1) * 2 = n * 2 + 1 + 1 by omega, List.replicate_succ, List.replicate_succ]; rfl
theorem fl_info : (Tryz.prog.info? 98).map (fun i => (i.zero, i.size, i.bytes)) = some (some (.agg #[.int .i32 0, .int .i32 0]), 2, 8) := by kernel_rfl

/-- Links lie in block b: of the trie behind q, with where its states fall back to in block g. What they own lies from 'base' on. -/
structure IsLk (w : World) (base b g : Nat) (q : Option Addr) (F : List (Nat × Nat)) : Prop where
  head : w.heap[b]? = some (.cells #[.pointer q, .slice (some ⟨g, 0, none⟩) F.length F.length] 96 (0, 0))
  row : w.heap[g]? = some (.cells (flCells F).toArray 98 (0, 0))
  bb : base ≤ b
  gg : base ≤ g
  few : F.length ≤ 16777217
  fit : ∀ r ∈ F, r.1 ≤ 16777217 ∧ r.2 ≤ 16777217
theorem IsLk.lt {w : World} {base b g : Nat} {q : Option Addr} {F : List (Nat × Nat)} (h : IsLk w base b g q F) : b < w.heap.size := lt_of_heap h.head
theorem IsLk.ltg {w : World} {base b g : Nat} {q : Option Addr} {F : List (Nat × Nat)} (h : IsLk w base b g q F) : g < w.heap.size := lt_of_heap h.row
theorem IsLk.below {w w' : World} {base b g : Nat} {q : Option Addr} {F : List (Nat × Nat)} (h : IsLk w base b g q F) (hb : Below w.heap.size w w') : IsLk w' base b g q F :=
  ⟨(hb.block b h.lt).trans h.head, (hb.block g h.ltg).trans h.row, h.bb, h.gg, h.few, h.fit⟩
theorem IsLk.heap {w W : World} {base b g : Nat} {q : Option Addr} {F : List (Nat × Nat)} (h : IsLk w base b g q F) (e : W.heap = w.heap) : IsLk W base b g q F :=
  ⟨by rw [e]; exact h.head, by rw [e]; exact h.row, h.bb, h.gg, h.few, h.fit⟩
theorem IsLk.reads {w : World} {base b g : Nat} {q : Option Addr} {F : List (Nat × Nat)} (h : IsLk w base b g q F) : w.cell? ⟨b, 0, none⟩ = some (.pointer q) ∧ w.cell? ⟨b, 1, none⟩ = some (.slice (some ⟨g, 0, none⟩) F.length F.length) ∧
    ∀ (i : Nat) r, F[i]? = some r → w.cell? ⟨g, i * 2, none⟩ = some (.int .i32 (r.1 : Int)) ∧ w.cell? ⟨g, i * 2 + 1, none⟩ = some (.int .i32 (r.2 : Int)) := by
  refine ⟨by rw [Lib.cell_of_heap h.head]; rfl, by rw [Lib.cell_of_heap h.head]; rfl, fun i r hi => ⟨?_, ?_⟩⟩
  · rw [Lib.cell_of_heap h.row, List.getElem?_toArray]
    exact flCells_at F i 0 hi (by omega)
  · rw [Lib.cell_of_heap h.row, List.getElem?_toArray]
    exact flCells_at F i 1 hi (by omega)

/-- Links behind a pointer, or none: then they know of no state, and have no trie. -/
def HasLk (w : World) (k q : Option Addr) (F : List (Nat × Nat)) : Prop := (k = none ∧ q = none ∧ F = []) ∨ ∃ base b g, k = some ⟨b, 0, none⟩ ∧ IsLk w base b g q F
theorem HasLk.below {w w' : World} {k q : Option Addr} {F : List (Nat × Nat)} (h : HasLk w k q F) (hb : Below w.heap.size w w') : HasLk w' k q F :=
  h.elim .inl (fun ⟨base, b, g, h1, h2⟩ => .inr ⟨base, b, g, h1, h2.below hb⟩)
theorem HasLk.heap {w W : World} {k q : Option Addr} {F : List (Nat × Nat)} (h : HasLk w k q F) (e : W.heap = w.heap) : HasLk W k q F :=
  h.elim .inl (fun ⟨base, b, g, h1, h2⟩ => .inr ⟨base, b, g, h1, h2.heap e⟩)
theorem HasLk.some {w : World} {k q : Option Addr} {F : List (Nat × Nat)} (h : HasLk w k q F) {i : Nat} (hk : i < F.length) : ∃ base b g, k = some ⟨b, 0, none⟩ ∧ IsLk w base b g q F := by
  rcases h with ⟨_, _, rfl⟩ | h
  · simp at hk
  · exact h
theorem HasLk.nil (w : World) : HasLk w none none [] := .inl ⟨rfl, rfl, rfl⟩

theorem lktrie_any {w : World} {k q : Option Addr} {F : List (Nat × Nat)} (h : HasLk w k q F) : Calls Tryz.prog 45 #[.pointer k] w fun e w' => e = .returned (.pointer q) ∧ w' = w := by
  rcases h with ⟨rfl, rfl, _⟩ | ⟨base, b, g, rfl, h⟩
  · go_enter Tryz.func45, Tryz.ntmps45
    go_wp2
    go_ret
    exact ⟨rfl, rfl⟩
  · obtain ⟨c0, _, _⟩ := h.reads
    clear h
    go_enter Tryz.func45, Tryz.ntmps45
    go_wp2
    go_ret
    exact ⟨rfl, rfl⟩
set_option maxHeartbeats 1000000 in
theorem lkis_in {w : World} {k q : Option Addr} {F : List (Nat × Nat)} (h : HasLk w k q F) (i : Nat) (hi : i < F.length) : Calls Tryz.prog 65 #[.pointer k, .int .i64 (i : Int)] w fun e w' => e = .returned (.bool true) ∧ w' = w := by
  obtain ⟨base, b, g, rfl, ht⟩ := h.some hi
  obtain ⟨_, c1, _⟩ := ht.reads
  have g0 : (0 : Int) ≤ (i : Int) := by omega
  have g1 : (i : Int) < (F.length : Int) := by omega
  clear h ht
  go_enter Tryz.func65, Tryz.ntmps65
  go_wp2
  go_ret
  exact ⟨rfl, rfl⟩
set_option maxHeartbeats 1000000 in
theorem lkis_out {w : World} {k q : Option Addr} {F : List (Nat × Nat)} (h : HasLk w k q F) (s : Int) (hs : s < 0 ∨ (F.length : Int) ≤ s) : Calls Tryz.prog 65 #[.pointer k, .int .i64 s] w fun e w' => e = .returned (.bool false) ∧ w' = w := by
  rcases h with ⟨rfl, _, rfl⟩ | ⟨base, b, g, rfl, h⟩
  · clear hs
    go_enter Tryz.func65, Tryz.ntmps65
    go_wp2
    go_ret
    exact ⟨rfl, rfl⟩
  · obtain ⟨_, c1, _⟩ := h.reads
    clear h
    by_cases h0 : s < 0
    · have g0 : ¬ (0 : Int) ≤ s := by omega
      clear hs
      go_enter Tryz.func65, Tryz.ntmps65
      go_wp2
      go_ret
      exact ⟨rfl, rfl⟩
    · have g0 : (0 : Int) ≤ s := by omega
      have g1 : ¬ s < (F.length : Int) := by omega
      have g2 : decide (s < (F.length : Int)) = false := decide_eq_false g1
      clear hs
      go_enter Tryz.func65, Tryz.ntmps65
      go_wp2
      go_ret
      exact ⟨rfl, rfl⟩

/-- Where a state falls back to, as a value. -/
def flV (r : Nat × Nat) : Value := .agg #[.int .i32 (r.1 : Int), .int .i32 (r.2 : Int)]
/-- What is known of any number: of a state's, and of one that is none. -/
def flOf (F : List (Nat × Nat)) (s : Int) : Nat × Nat := if 0 ≤ s then F.getD s.toNat (0, 0) else (0, 0)
theorem flOf_in {F : List (Nat × Nat)} {i : Nat} {r : Nat × Nat} (h : F[i]? = some r) : flOf F i = r := by
  unfold flOf
  rw [if_pos (by omega), Int.toNat_natCast, List.getD_eq_getElem?_getD, h]; rfl
theorem flOf_out {F : List (Nat × Nat)} {s : Int} (h : s < 0 ∨ (F.length : Int) ≤ s) : flOf F s = (0, 0) := by
  unfold flOf
  split
  · rw [List.getD_eq_getElem?_getD, List.getElem?_eq_none (by omega)]; rfl
  · rfl
theorem fl_in_out (F : List (Nat × Nat)) (s : Int) : (∃ i : Nat, s = i ∧ ∃ r, F[i]? = some r) ∨ (s < 0 ∨ (F.length : Int) ≤ s) := by
  by_cases h : s < 0 ∨ (F.length : Int) ≤ s
  · exact .inr h
  · refine .inl ⟨s.toNat, by omega, ?_⟩
    have hk : s.toNat < F.length := by omega
    exact ⟨F[s.toNat], List.getElem?_eq_getElem hk⟩
theorem flOf_fit {w : World} {k q : Option Addr} {F : List (Nat × Nat)} (h : HasLk w k q F) (s : Int) : (flOf F s).1 ≤ 16777217 ∧ (flOf F s).2 ≤ 16777217 := by
  rcases fl_in_out F s with ⟨i, rfl, r, hr⟩ | hs
  · rw [flOf_in hr]
    obtain ⟨base, b, g, rfl, ht⟩ := h.some (List.getElem?_eq_some_iff.1 hr).1
    exact ht.fit r (List.mem_of_getElem? hr)
  · rw [flOf_out hs]; simp

set_option maxHeartbeats 1000000 in
theorem lkof_in {w : World} {k q : Option Addr} {F : List (Nat × Nat)} (h : HasLk w k q F) (i : Nat) (r : Nat × Nat) (hr : F[i]? = some r) : Calls Tryz.prog 89 #[.pointer k, .int .i64 (i : Int)] w fun e w' => e = .returned (flV r) ∧ Below w.heap.size w w' := by
  have hi := (List.getElem?_eq_some_iff.1 hr).1
  have HS := Lib.hid (fun o => lkis_in (h.below ((Below.refl _ _).alloc (Nat.le_refl _) o)) i hi)
  obtain ⟨base, b, g, rfl, ht⟩ := h.some hi
  have d1 := fun o => (ht.below ((Below.refl _ _).alloc (Nat.le_refl _) o)).reads.2.1
  have e0 := fun o => ((ht.below ((Below.refl _ _).alloc (Nat.le_refl _) o)).reads.2.2 i r hr).1
  have e1 := fun o => ((ht.below ((Below.refl _ _).alloc (Nat.le_refl _) o)).reads.2.2 i r hr).2
  have g0 : (0 : Int) ≤ (i : Int) := by omega
  have g1 : (i : Int) < (F.length : Int) := by omega
  clear h ht hr
  go_enter Tryz.func89, Tryz.ntmps89
  go_wp2_with fail
  refine (HS.out _).mono ?_
  rintro e w' ⟨rfl, rfl⟩
  go_wp2
  refine bodyPost_ret (v := flV r) (by simp [results, Tryz.results89, go_sem, flV]) rfl ?_
  exact ⟨rfl, (Below.refl _ _).alloc (Nat.le_refl _) _⟩
set_option maxHeartbeats 1000000 in
theorem lkof_out {w : World} {k q : Option Addr} {F : List (Nat × Nat)} (h : HasLk w k q F) (s : Int) (hs : s < 0 ∨ (F.length : Int) ≤ s) : Calls Tryz.prog 89 #[.pointer k, .int .i64 s] w fun e w' => e = .returned (flV (0, 0)) ∧ Below w.heap.size w w' := by
  have HS := Lib.hid (fun o => lkis_out (h.below ((Below.refl _ _).alloc (Nat.le_refl _) o)) s hs)
  clear h hs
  go_enter Tryz.func89, Tryz.ntmps89
  go_wp2_with fail
  refine (HS.out _).mono ?_
  rintro e w' ⟨rfl, rfl⟩
  go_wp2
  refine bodyPost_ret (v := flV (0, 0)) (by simp [results, Tryz.results89, go_sem, flV]) rfl ?_
  exact ⟨rfl, (Below.refl _ _).alloc (Nat.le_refl _) _⟩
theorem lkof_any {w : World} {k q : Option Addr} {F : List (Nat × Nat)} (h : HasLk w k q F) (s : Int) : Calls Tryz.prog 89 #[.pointer k, .int .i64 s] w fun e w' => e = .returned (flV (flOf F s)) ∧ Below w.heap.size w w' := by
  rcases fl_in_out F s with ⟨i, rfl, r, hr⟩ | hs
  · rw [flOf_in hr]; exact lkof_in h i r hr
  · rw [flOf_out hs]; exact lkof_out h s hs
theorem flfield0 (a b : Value) (w : World) : (Instr.field 98 (.agg #[a, b]) 0).run Tryz.prog w = .ok a w := by
  simp [Instr.field, go_sem, part, asAgg, Tryz.underlying98, isAgg, Tryz.underlying21]
theorem flfield1 (a b : Value) (w : World) : (Instr.field 98 (.agg #[a, b]) 1).run Tryz.prog w = .ok b w := by
  simp [Instr.field, go_sem, part, asAgg, Tryz.underlying98, isAgg, Tryz.underlying21]

set_option maxHeartbeats 1000000 in
theorem lkfail_any {w : World} {k q : Option Addr} {F : List (Nat × Nat)} (h : HasLk w k q F) (s : Int) : Calls Tryz.prog 64 #[.pointer k, .int .i64 s] w fun e w' => e = .returned (.int .i64 ((flOf F s).1 : Int)) ∧ Below w.heap.size w w' := by
  have HO := Lib.hid (lkof_any h s)
  have hf := flOf_fit h s
  generalize flOf F s = r at *
  obtain ⟨h1, _⟩ := hf
  have FD := flfield0 (.int .i32 (r.1 : Int)) (.int .i32 (r.2 : Int))
  have hw : IntKind.i64.wrap (r.1 : Int) = (r.1 : Int) := by rw [IntKind.wrap_i64]; omega
  clear h
  go_enter Tryz.func64, Tryz.ntmps64
  go_wp2_with fail
  refine HO.out.mono ?_
  rintro e w' ⟨rfl, hb⟩
  unfold flV
  go_wp2
  go_ret
  exact ⟨rfl, hb⟩
end Go.Proofs.YtjmlabggocfikaaGreat

namespace Go.Proofs.YtjmlabggocfikaaGreat
open Go.RowKit

/-- A set of these patterns lies in block b. -/
def IsSet (w : World) (b : Nat) (ws : List (List UInt8)) : Prop :=
  ∃ g cap, w.heap[b]? = some (.cells #[.slice (some ⟨g, 0, none⟩) ws.length cap, .int .i64 (leastL ws : Int), .int .i64 (mostL ws : Int), .int .i64 (totalL ws : Int)] 52 (0, 0)) ∧
    w.ownsRow 0 9 1 (.slice (some ⟨g, 0, none⟩) ws.length cap) ws.length (txCells ws)

theorem IsSet.lt {w : World} {b : Nat} {ws : List (List UInt8)} (h : IsSet w b ws) : b < w.heap.size := by
  obtain ⟨g, cap, h1, _⟩ := h
  exact heap_lt h1
theorem IsSet.below {w w' : World} {b : Nat} {ws : List (List UInt8)} (h : IsSet w b ws) (hb : Below w.heap.size w w') : IsSet w' b ws := by
  obtain ⟨g, cap, h1, h2⟩ := h
  exact ⟨g, cap, (hb.block b (heap_lt h1)).trans h1, tx_below h2 hb⟩
theorem IsSet.drewN {w : World} {b : Nat} {ws : List (List UInt8)} (h : IsSet w b ws) (n : Nat) : IsSet (w.drewN n) b ws := h
theorem own_strs {w : World} {base : Nat} {g n cap : Nat} {ws : List (List UInt8)} (h : w.ownsRow base 9 1 (.slice (some ⟨g, 0, none⟩) n cap) n (txCells ws)) : IsStrs w (some ⟨g, 0, none⟩) n ws := by
  have e : ws.length = n := by have := h.1; rw [txCells, List.length_map] at this; omega
  refine ⟨e, .inr ⟨g, 0, rfl, fun i hi => ?_⟩⟩
  have hc := h.cells (g := g) rfl i (.string ⟨(ws[i]'hi).toArray⟩) (by simp [txCells, List.getElem?_eq_getElem hi])
  rwa [addPlain] at hc

/-- What is read of a set. -/
theorem IsSet.reads {w : World} {b : Nat} {ws : List (List UInt8)} (h : IsSet w b ws) : ∃ g cap, w.cell? ⟨b, 0, none⟩ = some (.slice (some ⟨g, 0, none⟩) ws.length cap) ∧ w.cell? ⟨b, 1, none⟩ = some (.int .i64 (leastL ws : Int)) ∧
    w.cell? ⟨b, 2, none⟩ = some (.int .i64 (mostL ws : Int)) ∧ w.cell? ⟨b, 3, none⟩ = some (.int .i64 (totalL ws : Int)) ∧ w.ownsRow 0 9 1 (.slice (some ⟨g, 0, none⟩) ws.length cap) ws.length (txCells ws) := by
  obtain ⟨g, cap, h1, h2⟩ := h
  refine ⟨g, cap, ?_, ?_, ?_, ?_, h2⟩ <;> rw [Lib.cell_of_heap h1] <;> rfl
end Go.Proofs.YtjmlabggocfikaaGreat

namespace Go.Proofs.YtjmlabggocfikaaGreat
open Go.RowKit

theorem ptlen_nil (w : World) : Calls Tryz.prog 82 #[.pointer none] w fun e w' => e = .returned (.int .i64 0) ∧ w' = w := by
  go_enter Tryz.func82, Tryz.ntmps82
  go_wp2
  go_ret
  exact ⟨rfl, rfl⟩
theorem ptlen_any {w : World} {b : Nat} {ws : List (List UInt8)} (h : IsSet w b ws) : Calls Tryz.prog 82 #[.pointer (some ⟨b, 0, none⟩)] w fun e w' => e = .returned (.int .i64 (ws.length : Int)) ∧ w' = w := by
  obtain ⟨g, cap, c0, _⟩ := h.reads
  clear h
  go_enter Tryz.func82, Tryz.ntmps82
  go_wp2
  go_ret
  exact ⟨rfl, rfl⟩
theorem ptat_nil (n : Int) (w : World) : Calls Tryz.prog 83 #[.pointer none, .int .i64 n] w fun e w' => e = .returned (.tuple #[.string ByteArray.empty, .bool false]) ∧ w' = w := by
  by_cases h : n < 0
  · go_enter Tryz.func83, Tryz.ntmps83
    go_wp2
    go_ret2
    exact ⟨rfl, rfl⟩
  · go_enter Tryz.func83, Tryz.ntmps83
    go_wp2_with fail
    refine (ptlen_nil w).mono ?_
    rintro e w' ⟨rfl, rfl⟩
    go_wp2
    go_ret2
    exact ⟨rfl, rfl⟩
theorem ptat_out {w : World} {b : Nat} {ws : List (List UInt8)} (h : IsSet w b ws) (n : Int) (hn : n < 0 ∨ (ws.length : Int) ≤ n) : Calls Tryz.prog 83 #[.pointer (some ⟨b, 0, none⟩), .int .i64 n] w fun e w' => e = .returned (.tuple #[.string ByteArray.empty, .bool false]) ∧ w' = w := by
  have HL := Lib.hid (ptlen_any h)
  clear h
  by_cases h0 : n < 0
  · clear hn
    go_enter Tryz.func83, Tryz.ntmps83
    go_wp2
    go_ret2
    exact ⟨rfl, rfl⟩
  · have h1 : (ws.length : Int) ≤ n := by omega
    clear hn
    go_enter Tryz.func83, Tryz.ntmps83
    go_wp2_with fail
    refine HL.out.mono ?_
    rintro e w' ⟨rfl, rfl⟩
    go_wp2
    go_ret2
    exact ⟨rfl, rfl⟩
theorem ptat_in {w : World} {b : Nat} {ws : List (List UInt8)} (h : IsSet w b ws) (k : Nat) (t : List UInt8) (ht : ws[k]? = some t) : Calls Tryz.prog 83 #[.pointer (some ⟨b, 0, none⟩), .int .i64 (k : Int)] w fun e w' => e = .returned (.tuple #[.string ⟨t.toArray⟩, .bool true]) ∧ w' = w := by
  have HL := Lib.hid (ptlen_any h)
  obtain ⟨g, cap, c0, _, _, _, hown⟩ := h.reads
  have hk := (List.getElem?_eq_some_iff.1 ht).1
  have hc := own_strs hown
  obtain ⟨b', off, e, t', ht', hcell⟩ := str_at hc (Below.refl _ _) k hk
  cases e
  obtain rfl : t' = t := Option.some.inj (ht'.symm.trans ht)
  rw [Nat.zero_add] at hcell
  have g0 : ¬ (k : Int) < 0 := by omega
  have g1 : (k : Int) < (ws.length : Int) := by omega
  have g2 : (0 : Int) ≤ (k : Int) := by omega
  clear h ht ht' hown hc
  go_enter Tryz.func83, Tryz.ntmps83
  go_wp2_with fail
  refine HL.out.mono ?_
  rintro e w' ⟨rfl, rfl⟩
  go_wp2
  go_ret2
  exact ⟨rfl, rfl⟩
end Go.Proofs.YtjmlabggocfikaaGreat

namespace Go.Proofs.YtjmlabggocfikaaGreat
open Go.RowKit


/-- The patterns of the set that texts make; none, if they make none. -/
def setL (ws : List (List UInt8)) : List (List UInt8) := if faultL ws = 0 then srt ws else []
theorem set_good {ws : List (List UInt8)} (h : faultL ws = 0) : setL ws = srt ws := if_pos h
theorem set_bad {ws : List (List UInt8)} (h : ¬ faultL ws = 0) : setL ws = [] := if_neg h
theorem set_length (ws : List (List UInt8)) : (setL ws).length ≤ ws.length := by
  unfold setL
  split
  · rw [srt_length]; exact Nat.le_refl _
  · exact Nat.zero_le _
theorem set_mem {ws : List (List UInt8)} {t : List UInt8} (h : t ∈ setL ws) : t ∈ ws ∧ 1 ≤ t.length ∧ t.length ≤ 65535 := by
  by_cases hf : faultL ws = 0
  · rw [set_good hf] at h
    have hm := (srt_perm ws).mem_iff.1 h
    exact ⟨hm, ((fault_zero ws).1 hf).each t hm⟩
  · rw [set_bad hf] at h; cases h
theorem set_asc (ws : List (List UInt8)) : Asc (setL ws) := by
  by_cases hf : faultL ws = 0
  · rw [set_good hf]; exact srt_asc ws
  · rw [set_bad hf]; exact List.Pairwise.nil

/-- A set behind a pointer, or none. -/
def IsPats (w : World) (p : Option Addr) (us : List (List UInt8)) : Prop := (p = none ∧ us = []) ∨ ∃ b, p = some ⟨b, 0, none⟩ ∧ IsSet w b us ∧ Pats us
theorem IsPats.below {w w' : World} {p : Option Addr} {us : List (List UInt8)} (h : IsPats w p us) (hb : Below w.heap.size w w') : IsPats w' p us :=
  h.elim .inl (fun ⟨b, h1, h2, h3⟩ => .inr ⟨b, h1, h2.below hb, h3⟩)

theorem IsPats.heap {w W : World} {p : Option Addr} {us : List (List UInt8)} (h : IsPats w p us) (e : W.heap = w.heap) : IsPats W p us := by
  unfold IsPats IsSet World.ownsRow at *
  rw [e]
  exact h

theorem ptlen_all {w : World} {p : Option Addr} {us : List (List UInt8)} (h : IsPats w p us) : Calls Tryz.prog 82 #[.pointer p] w fun e w' => e = .returned (.int .i64 (us.length : Int)) ∧ w' = w := by
  rcases h with ⟨rfl, rfl⟩ | ⟨b, rfl, h, _⟩
  · exact ptlen_nil w
  · exact ptlen_any h
theorem ptat_all {w : World} {p : Option Addr} {us : List (List UInt8)} (h : IsPats w p us) (k : Nat) (t : List UInt8) (ht : us[k]? = some t) : Calls Tryz.prog 83 #[.pointer p, .int .i64 (k : Int)] w fun e w' => e = .returned (.tuple #[.string ⟨t.toArray⟩, .bool true]) ∧ w' = w := by
  rcases h with ⟨rfl, rfl⟩ | ⟨b, rfl, h, _⟩
  · simp at ht
  · exact ptat_in h k t ht
end Go.Proofs.YtjmlabggocfikaaGreat

namespace Go.Proofs.YtjmlabggocfikaaGreat
open Go.RowKit

/-- Are they few, and short? -/
def fewB (ws : List (List UInt8)) (m n : Nat) : Bool := decide (ws.length ≤ m) && ws.all fun t => decide (t.length ≤ n)
theorem few_iff (ws : List (List UInt8)) (m n : Nat) : fewB ws m n = true ↔ ws.length ≤ m ∧ ∀ t ∈ ws, t.length ≤ n := by
  unfold fewB
  simp only [Bool.and_eq_true, decide_eq_true_eq, List.all_eq_true]
theorem few_no {ws : List (List UInt8)} {m n : Nat} (h : ¬ (ws.length ≤ m ∧ ∀ t ∈ ws, t.length ≤ n)) : fewB ws m n = false := by
  rw [Bool.eq_false_iff]
  exact fun e => h ((few_iff ws m n).1 e)
theorem mem_take_snoc {ws : List (List UInt8)} {k : Nat} {t x : List UInt8} (h : ws[k]? = some t) (hx : x ∈ ws.take (k + 1)) : x ∈ ws.take k ∨ x = t := by
  obtain ⟨hk, rfl⟩ := List.getElem?_eq_some_iff.1 h
  rw [List.take_succ_eq_append_getElem hk, List.mem_append, List.mem_singleton] at hx
  exact hx
theorem mem_take_last {ws : List (List UInt8)} {k : Nat} {t : List UInt8} (h : ws[k]? = some t) : t ∈ ws.take (k + 1) := by
  obtain ⟨hk, rfl⟩ := List.getElem?_eq_some_iff.1 h
  rw [List.take_succ_eq_append_getElem hk]
  exact List.mem_append_right _ (List.mem_singleton.2 rfl)

set_option maxHeartbeats 1000000 in
theorem few_any (a : Option Addr) (len cap : Nat) (ws : List (List UInt8)) (m n : Nat) (w : World) (hlen : len ≤ 9223372036854775807) (hm : m ≤ 1000000) (hn : n ≤ 1000000) (hr : IsStrs w a len ws) (ht : ∀ t ∈ ws, t.length ≤ 9223372036854775807) :
    Calls Tryz.prog 5 #[.slice a len cap, .int .i64 (m : Int), .int .i64 (n : Int)] w fun e w' => e = .returned (.bool (fewB ws m n)) ∧ w' = w := by
  have hwl := hr.1
  by_cases hbig : m < len
  · have HE : Hid (fewB ws m n = false) := Lib.hid (few_no (fun h => by omega))
    clear hr ht hwl
    go_enter Tryz.func5, Tryz.ntmps5
    go_wp2
    go_ret
    exact ⟨by rw [HE.out]; rfl, rfl⟩
  · have HT := Lib.hid ht
    clear ht
    go_enter Tryz.func5, Tryz.ntmps5
    go_wp2
    go_loop [7] (fun i => ∃ k : Nat, k ≤ len ∧ i = .int .i64 k ∧ Hid (∀ t ∈ ws.take k, t.length ≤ n)) (fun i => len - (RowKit.intOf i).toNat)
    case atStart => exact ⟨0, Nat.zero_le _, rfl, Lib.hid (by simp)⟩
    case round =>
      obtain ⟨k, hk, rfl, HK⟩ := hrel
      by_cases hlt : k < len
      · obtain ⟨b, off, rfl, t, hf, hc⟩ := str_at hr (Below.refl _ _) k hlt
        have htl := HT.out t (List.mem_of_getElem? hf)
        have HS := Lib.hid (bsize t)
        by_cases hq : n < t.length
        · have HE : Hid (fewB ws m n = false) := Lib.hid (few_no (fun h => by have := h.2 t (List.mem_of_getElem? hf); omega))
          clear hf HK hr
          go_wp2
          go_ret
          exact ⟨by rw [HE.out]; rfl, rfl⟩
        · have HN : Hid (∀ t ∈ ws.take (k + 1), t.length ≤ n) := Lib.hid (fun x hx => by
            rcases mem_take_snoc hf hx with h | rfl
            · exact HK.out x h
            · omega)
          clear hf HK hr
          go_wp2
          exact ⟨⟨k + 1, by omega, by go_num, HN⟩, by simp [RowKit.intOf]; omega⟩
      · obtain rfl : k = len := by omega
        have HE : Hid (fewB ws m n = true) := Lib.hid ((few_iff ws m n).2 ⟨by omega, by have := HK.out; rwa [List.take_of_length_le (by omega)] at this⟩)
        clear HK hr
        go_wp2
        go_ret
        exact ⟨by rw [HE.out]; rfl, rfl⟩

theorem few_not (a : Option Addr) (len cap : Nat) (ws : List (List UInt8)) (w : World) (hlen : len ≤ 9223372036854775807) (hr : IsStrs w a len ws) (ht : ∀ t ∈ ws, t.length ≤ 9223372036854775807) (hq : fewB ws 20 50 = false) :
    Calls Tryz.prog 5 #[.slice a len cap, .int .i64 20, .int .i64 50] w fun e w' => e = .returned (.bool false) ∧ w' = w := by
  have := few_any a len cap ws 20 50 w hlen (by omega) (by omega) hr ht
  rw [hq] at this
  exact this
theorem few_yes (a : Option Addr) (len cap : Nat) (ws : List (List UInt8)) (w : World) (hlen : len ≤ 9223372036854775807) (hr : IsStrs w a len ws) (ht : ∀ t ∈ ws, t.length ≤ 9223372036854775807) (hq : fewB ws 20 50 = true) :
    Calls Tryz.prog 5 #[.slice a len cap, .int .i64 20, .int .i64 50] w fun e w' => e = .returned (.bool true) ∧ w' = w := by
  have := few_any a len cap ws 20 50 w hlen (by omega) (by omega) hr ht
  rw [hq] at this
  exact this

end Go.Proofs.YtjmlabggocfikaaGreat

namespace Go.Proofs.YtjmlabggocfikaaGreat

theorem few_set {ws : List (List UInt8)} (hq : fewB ws 20 50 = true) : (setL ws).length ≤ 20 ∧ ∀ t ∈ setL ws, t.length ≤ 50 := by
  have hfw := (few_iff ws 20 50).1 hq
  refine ⟨Nat.le_trans (set_length ws) hfw.1, fun t h => hfw.2 t (set_mem h).1⟩
theorem few_setN {ws : List (List UInt8)} {m n : Nat} (hq : fewB ws m n = true) : (setL ws).length ≤ m ∧ ∀ t ∈ setL ws, t.length ≤ n := by
  have hfw := (few_iff ws m n).1 hq
  refine ⟨Nat.le_trans (set_length ws) hfw.1, fun t h => hfw.2 t (set_mem h).1⟩
end Go.Proofs.YtjmlabggocfikaaGreat

namespace Go.Proofs.YtjmlabggocfikaaGreat
open Go.RowKit

theorem strs_heap_of {w W : World} {a : Option Addr} {len : Nat} {ws : List (List UInt8)} (h : IsStrs w a len ws) (e : W.heap = w.heap) : IsStrs W a len ws := by
  unfold IsStrs World.cell? at *
  rw [e]
  exact h
theorem few_noN (a : Option Addr) (len cap : Nat) (ws : List (List UInt8)) (w : World) (hlen : len ≤ 9223372036854775807) (hr : IsStrs w a len ws) (ht : ∀ t ∈ ws, t.length ≤ 9223372036854775807) (β : Bool) (hq : fewB ws 12 20 = β) :
    Calls Tryz.prog 5 #[.slice a len cap, .int .i64 12, .int .i64 20] w fun e w' => e = .returned (.bool β) ∧ w' = w := by
  have := few_any a len cap ws 12 20 w hlen (by omega) (by omega) hr ht
  rw [hq] at this
  exact this
end Go.Proofs.YtjmlabggocfikaaGreat

namespace Go.Proofs.YtjmlabggocfikaaGreat
open Go.RowKit

/-- The five cells of a state. -/
def rcOne (r : Rc) : List Value := [.int .i32 (r.first : Int), .int .i32 (r.above : Int), .int .i32 (r.below : Int), .int .u16 (r.depth : Int), .int .u8 (r.last.toNat : Int)]
def rcCells (rs : List Rc) : List Value := rs.flatMap rcOne
theorem rc_cons (r : Rc) (rs : List Rc) : rcCells (r :: rs) = rcOne r ++ rcCells rs := rfl
theorem rc_snoc (rs : List Rc) (r : Rc) : rcCells (rs ++ [r]) = rcCells rs ++ rcOne r := by simp [rcCells]
theorem rcOne_length (r : Rc) : (rcOne r).length = 5 := rfl
theorem rcCells_length : ∀ rs : List Rc, (rcCells rs).length = rs.length * 5
  | [] => rfl
  | r :: rs => by rw [rc_cons, List.length_append, rcCells_length rs, List.length_cons, rcOne_length]; omega
theorem rcCells_at : ∀ (rs : List Rc) (i j : Nat) {r : Rc}, rs[i]? = some r → j < 5 → (rcCells rs)[i * 5 + j]? = (rcOne r)[j]?
  | q :: rs, 0, j, r, h, hj => by
    simp at h; subst h
    rw [rc_cons, List.getElem?_append_left (by rw [rcOne_length]; omega)]; congr 1; omega
  | q :: rs, i + 1, j, r, h, hj => by
    rw [rc_cons, List.getElem?_append_right (by rw [rcOne_length]; omega), rcOne_length, show (i + 1) * 5 + j - 5 = i * 5 + j by omega]
    exact rcCells_at rs i j (by simpa using h) hj
theorem rc_set : ∀ (rs : List Rc) (i : Nat) {r : Rc} (b : Nat), rs[i]? = some r → (rcCells rs).set (i * 5 + 2) (.int .i32 (b : Int)) = rcCells (rs.set i { r with below := b })
  | q :: rs, 0, r, b, h => by simp at h; subst h; rfl
  | q :: rs, i + 1, r, b, h => by
    rw [rc_cons, List.set_cons_succ, rc_cons, ← rc_set rs i b (by simpa using h), List.set_append_right _ _ (by rw [rcOne_length]; omega), rcOne_length, show (i + 1) * 5 + 2 - 5 = i * 5 + 2 by omega]
theorem rc_one {r : Rc} : ∀ u ∈ rcOne r, u.oneCell' = true := by
  intro u hu
  simp [rcOne] at hu
  rcases hu with rfl | rfl | rfl | rfl | rfl <;> rfl
theorem rc_info : (Tryz.prog.info? 109).map (fun i => (i.zero, i.size, i.bytes)) = some (some (.agg #[.int .i32 0, .int .i32 0, .int .i32 0, .int .u16 0, .int .u8 0]), 5, 16) := by kernel_rfl

/-- A state's cells lie there. -/
structure RcAt (w : World) (b o : Nat) (r : Rc) : Prop where
  c0 : w.cell? ⟨b, o, none⟩ = some (.int .i32 (r.first : Int))
  c1 : w.cell? ⟨b, o + 1, none⟩ = some (.int .i32 (r.above : Int))
  c2 : w.cell? ⟨b, o + 2, none⟩ = some (.int .i32 (r.below : Int))
  c3 : w.cell? ⟨b, o + 3, none⟩ = some (.int .u16 (r.depth : Int))
  c4 : w.cell? ⟨b, o + 4, none⟩ = some (.int .u8 (r.last.toNat : Int))
theorem RcAt.below {w w' : World} {b o : Nat} {r : Rc} (h : RcAt w b o r) (hb : Below w.heap.size w w') : RcAt w' b o r := by
  have hlt := World.block_lt_of_cell? w _ h.c0
  have g : ∀ k v, w.cell? ⟨b, k, none⟩ = some v → w'.cell? ⟨b, k, none⟩ = some v := fun k v hk => (hb.cell (p := ⟨b, k, none⟩) hlt).trans hk
  exact ⟨g _ _ h.c0, g _ _ h.c1, g _ _ h.c2, g _ _ h.c3, g _ _ h.c4⟩

/-- A slice that holds these states. -/
def IsRcs (w : World) (a : Option Addr) (len : Nat) (rs : List Rc) : Prop :=
  rs.length = len ∧ (len = 0 ∨ ∃ b off, a = some ⟨b, off, none⟩ ∧ ∀ (i : Nat) r, rs[i]? = some r → RcAt w b (off + i * 5) r)
theorem IsRcs.below {w w' : World} {a : Option Addr} {len : Nat} {rs : List Rc} (h : IsRcs w a len rs) (hb : Below w.heap.size w w') : IsRcs w' a len rs := by
  obtain ⟨hl, h⟩ := h
  refine ⟨hl, ?_⟩
  rcases h with h | ⟨b, off, ha, hc⟩
  · exact .inl h
  · exact .inr ⟨b, off, ha, fun i r hi => (hc i r hi).below hb⟩

/-- A trie lies in block b: of the set behind p, with these states. What it owns lies from 'base' on. -/
def IsTr (w : World) (base b : Nat) (p : Option Addr) (R : List Rc) : Prop :=
  ∃ g cap, w.heap[b]? = some (.cells #[.pointer p, .slice (some ⟨g, 0, none⟩) R.length cap] 130 (0, 0)) ∧ base ≤ b ∧
    w.ownsRow base 109 5 (.slice (some ⟨g, 0, none⟩) R.length cap) R.length (rcCells R) ∧ (∀ r ∈ R, r.Fit) ∧ R.length ≤ 2147483647
theorem IsTr.lt {w : World} {base b : Nat} {p : Option Addr} {R : List Rc} (h : IsTr w base b p R) : b < w.heap.size := by
  obtain ⟨g, cap, h1, _⟩ := h
  exact heap_lt h1
theorem IsTr.below {w w' : World} {base b : Nat} {p : Option Addr} {R : List Rc} (h : IsTr w base b p R) (hb : Below w.heap.size w w') : IsTr w' base b p R := by
  obtain ⟨g, cap, h1, h2, h3, h4⟩ := h
  exact ⟨g, cap, (hb.block b (heap_lt h1)).trans h1, h2, tx_below h3 hb, h4⟩
theorem IsTr.heap {w W : World} {base b : Nat} {p : Option Addr} {R : List Rc} (h : IsTr w base b p R) (e : W.heap = w.heap) : IsTr W base b p R := by
  unfold IsTr World.ownsRow at *
  rw [e]; exact h
theorem own_less {w : World} {base base' : Nat} {e : TypeId} {size : Nat} {v : Value} {n : Nat} {xs : List Value} (h : w.ownsRow base e size v n xs) (hb : base' ≤ base) : w.ownsRow base' e size v n xs := by
  obtain ⟨h1, h2⟩ := h
  refine ⟨h1, h2.imp id ?_⟩
  rintro ⟨g, cap, cur, hv, hg, r⟩
  exact ⟨g, cap, cur, hv, by omega, r⟩
theorem IsTr.less {w : World} {base base' b : Nat} {p : Option Addr} {R : List Rc} (h : IsTr w base b p R) (hb : base' ≤ base) : IsTr w base' b p R := by
  obtain ⟨g, cap, h1, h2, h3, h4⟩ := h
  exact ⟨g, cap, h1, by omega, own_less h3 hb, h4⟩
theorem own_rcs {w : World} {base g n cap : Nat} {R : List Rc} (h : w.ownsRow base 109 5 (.slice (some ⟨g, 0, none⟩) n cap) n (rcCells R)) {i : Nat} {r : Rc} (hi : R[i]? = some r) : RcAt w g (i * 5) r := by
  have hc := h.cells (g := g) rfl
  have c : ∀ j v, j < 5 → (rcOne r)[j]? = some v → w.cell? ⟨g, i * 5 + j, none⟩ = some v := fun j v hj hv => by
    have := hc (i * 5 + j) v (by rw [rcCells_at R i j hi hj]; exact hv)
    rwa [addPlain, Nat.zero_add] at this
  exact ⟨c 0 _ (by omega) rfl, c 1 _ (by omega) rfl, c 2 _ (by omega) rfl, c 3 _ (by omega) rfl, c 4 _ (by omega) rfl⟩
/-- What is read of a trie. -/
theorem IsTr.reads {w : World} {base b : Nat} {p : Option Addr} {R : List Rc} (h : IsTr w base b p R) : ∃ g cap, w.cell? ⟨b, 0, none⟩ = some (.pointer p) ∧ w.cell? ⟨b, 1, none⟩ = some (.slice (some ⟨g, 0, none⟩) R.length cap) ∧
    R.length ≤ cap ∧ cap ≤ maxLen ∧ g < w.heap.size ∧ ∀ (i : Nat) r, R[i]? = some r → RcAt w g (i * 5) r := by
  obtain ⟨g, cap, h1, h2, h3, h4⟩ := h
  have h5 := h3
  obtain ⟨_, ⟨he, _⟩ | ⟨g', cap', cur, he, _, hg, hc, hm, _⟩⟩ := h3
  · cases he
  · cases he
    exact ⟨g, cap, by rw [Lib.cell_of_heap h1]; rfl, by rw [Lib.cell_of_heap h1]; rfl, hc, hm, heap_lt hg, fun i r hi => own_rcs h5 hi⟩
theorem IsTr.fit {w : World} {base b : Nat} {p : Option Addr} {R : List Rc} (h : IsTr w base b p R) {i : Nat} {r : Rc} (hi : R[i]? = some r) : r.Fit := by
  obtain ⟨g, cap, _, _, _, h4, _⟩ := h
  exact h4 r (List.mem_of_getElem? hi)
theorem IsTr.few {w : World} {base b : Nat} {p : Option Addr} {R : List Rc} (h : IsTr w base b p R) : R.length ≤ 2147483647 := by
  obtain ⟨g, cap, _, _, _, _, h5⟩ := h
  exact h5

/-- A trie behind a pointer, or none: then it has no states. -/
def HasTr (w : World) (q : Option Addr) (p : Option Addr) (R : List Rc) : Prop := (q = none ∧ R = []) ∨ ∃ base b, q = some ⟨b, 0, none⟩ ∧ IsTr w base b p R
theorem HasTr.below {w w' : World} {q p : Option Addr} {R : List Rc} (h : HasTr w q p R) (hb : Below w.heap.size w w') : HasTr w' q p R :=
  h.elim .inl (fun ⟨base, b, h1, h2⟩ => .inr ⟨base, b, h1, h2.below hb⟩)
theorem HasTr.heap {w W : World} {q p : Option Addr} {R : List Rc} (h : HasTr w q p R) (e : W.heap = w.heap) : HasTr W q p R :=
  h.elim .inl (fun ⟨base, b, h1, h2⟩ => .inr ⟨base, b, h1, h2.heap e⟩)
theorem HasTr.few {w : World} {q p : Option Addr} {R : List Rc} (h : HasTr w q p R) : R.length ≤ 2147483647 := by
  rcases h with ⟨_, rfl⟩ | ⟨_, _, _, h⟩
  · simp
  · exact h.few
theorem HasTr.some {w : World} {q p : Option Addr} {R : List Rc} (h : HasTr w q p R) {k : Nat} (hk : k < R.length) : ∃ base b, q = some ⟨b, 0, none⟩ ∧ IsTr w base b p R := by
  rcases h with ⟨_, rfl⟩ | h
  · simp at hk
  · exact h
end Go.Proofs.YtjmlabggocfikaaGreat

namespace Go.Proofs.YtjmlabggocfikaaGreat
open Go.RowKit

theorem trlen_any {w : World} {q p : Option Addr} {R : List Rc} (h : HasTr w q p R) : Calls Tryz.prog 51 #[.pointer q] w fun e w' => e = .returned (.int .i64 (R.length : Int)) ∧ w' = w := by
  rcases h with ⟨rfl, rfl⟩ | ⟨base, b, rfl, h⟩
  · go_enter Tryz.func51, Tryz.ntmps51
    go_wp2
    go_ret
    exact ⟨rfl, rfl⟩
  · obtain ⟨g, cap, _, c1, _⟩ := h.reads
    clear h
    go_enter Tryz.func51, Tryz.ntmps51
    go_wp2
    go_ret
    exact ⟨rfl, rfl⟩
theorem tris_in {w : World} {q p : Option Addr} {R : List Rc} (h : HasTr w q p R) (k : Nat) (hk : k < R.length) : Calls Tryz.prog 94 #[.pointer q, .int .i64 (k : Int)] w fun e w' => e = .returned (.bool true) ∧ w' = w := by
  have HL := Lib.hid (trlen_any h)
  have g0 : (0 : Int) ≤ (k : Int) := by omega
  have g1 : (k : Int) < (R.length : Int) := by omega
  clear h
  go_enter Tryz.func94, Tryz.ntmps94
  go_wp2_with fail
  refine HL.out.mono ?_
  rintro e w' ⟨rfl, rfl⟩
  go_wp2
  go_ret
  exact ⟨rfl, rfl⟩
theorem tris_out {w : World} {q p : Option Addr} {R : List Rc} (h : HasTr w q p R) (s : Int) (hs : s < 0 ∨ (R.length : Int) ≤ s) : Calls Tryz.prog 94 #[.pointer q, .int .i64 s] w fun e w' => e = .returned (.bool false) ∧ w' = w := by
  have HL := Lib.hid (trlen_any h)
  clear h
  by_cases h0 : s < 0
  · have g0 : ¬ (0 : Int) ≤ s := by omega
    clear hs
    go_enter Tryz.func94, Tryz.ntmps94
    go_wp2
    go_ret
    exact ⟨rfl, rfl⟩
  · have g0 : (0 : Int) ≤ s := by omega
    have g1 : ¬ s < (R.length : Int) := by omega
    have g2 : decide (s < (R.length : Int)) = false := decide_eq_false g1
    clear hs
    go_enter Tryz.func94, Tryz.ntmps94
    go_wp2_with fail
    refine HL.out.mono ?_
    rintro e w' ⟨rfl, rfl⟩
    go_wp2
    go_ret
    exact ⟨rfl, rfl⟩

/-- A state's value. -/
def rcV (r : Rc) : Value := .agg #[.int .i32 (r.first : Int), .int .i32 (r.above : Int), .int .i32 (r.below : Int), .int .u16 (r.depth : Int), .int .u8 (r.last.toNat : Int)]
theorem RcAt.alloc {w : World} {b o : Nat} {r : Rc} (h : RcAt w b o r) (x : Obj) : RcAt (w.alloc x) b o r := h.below ((Below.refl _ _).alloc (Nat.le_refl _) x)

set_option maxHeartbeats 1000000 in
theorem trof_in {w : World} {q p : Option Addr} {R : List Rc} (h : HasTr w q p R) (k : Nat) (r : Rc) (hr : R[k]? = some r) : Calls Tryz.prog 70 #[.pointer q, .int .i64 (k : Int)] w fun e w' => e = .returned (rcV r) ∧ Below w.heap.size w w' := by
  have hk := (List.getElem?_eq_some_iff.1 hr).1
  have HS := Lib.hid (fun o => tris_in (h.below ((Below.refl _ _).alloc (Nat.le_refl _) o)) k hk)
  obtain ⟨base, b, rfl, ht⟩ := h.some hk
  obtain ⟨g, cap, _, c1, hcap, _, hg, hat⟩ := ht.reads
  have ha := hat k r hr
  have d1 : ∀ o, (w.alloc o).cell? ⟨b, 1, none⟩ = some (.slice (some ⟨g, 0, none⟩) R.length cap) := fun o => by rw [World.cell?_alloc_lt _ _ _ ht.lt]; exact c1
  have e0 := fun o => (ha.alloc o).c0
  have e1 := fun o => (ha.alloc o).c1
  have e2 := fun o => (ha.alloc o).c2
  have e3 := fun o => (ha.alloc o).c3
  have e4 := fun o => (ha.alloc o).c4
  have g0 : (0 : Int) ≤ (k : Int) := by omega
  have g1 : (k : Int) < (R.length : Int) := by omega
  clear h ht hat ha hr c1
  go_enter Tryz.func70, Tryz.ntmps70
  go_wp2_with fail
  refine (HS.out _).mono ?_
  rintro e w' ⟨rfl, rfl⟩
  go_wp2
  refine bodyPost_ret (v := rcV r) (by simp [results, Tryz.results70, go_sem, rcV]) rfl ?_
  exact ⟨rfl, (Below.refl _ _).alloc (Nat.le_refl _) _⟩
/-- Nothing of a state. -/
def rcZ : Rc := ⟨0, 0, 0, 0, 0⟩
set_option maxHeartbeats 1000000 in
theorem trof_out {w : World} {q p : Option Addr} {R : List Rc} (h : HasTr w q p R) (s : Int) (hs : s < 0 ∨ (R.length : Int) ≤ s) : Calls Tryz.prog 70 #[.pointer q, .int .i64 s] w fun e w' => e = .returned (rcV rcZ) ∧ Below w.heap.size w w' := by
  have HS := Lib.hid (fun o => tris_out (h.below ((Below.refl _ _).alloc (Nat.le_refl _) o)) s hs)
  clear h hs
  go_enter Tryz.func70, Tryz.ntmps70
  go_wp2_with fail
  refine (HS.out _).mono ?_
  rintro e w' ⟨rfl, rfl⟩
  go_wp2
  refine bodyPost_ret (v := rcV rcZ) (by simp [results, Tryz.results70, go_sem, rcV, rcZ]) rfl ?_
  exact ⟨rfl, (Below.refl _ _).alloc (Nat.le_refl _) _⟩
/-- What is known of any number: of a state's, and of one that is none. -/
def rcOf (R : List Rc) (s : Int) : Rc := if 0 ≤ s then R.getD s.toNat rcZ else rcZ
theorem rcOf_in {R : List Rc} {k : Nat} {r : Rc} (h : R[k]? = some r) : rcOf R k = r := by
  unfold rcOf
  rw [if_pos (by omega), Int.toNat_natCast, List.getD_eq_getElem?_getD, h]; rfl
theorem rcOf_out {R : List Rc} {s : Int} (h : s < 0 ∨ (R.length : Int) ≤ s) : rcOf R s = rcZ := by
  unfold rcOf
  split
  · rw [List.getD_eq_getElem?_getD, List.getElem?_eq_none (by omega)]; rfl
  · rfl
theorem in_out (R : List Rc) (s : Int) : (∃ k : Nat, s = k ∧ ∃ r, R[k]? = some r) ∨ (s < 0 ∨ (R.length : Int) ≤ s) := by
  by_cases h : s < 0 ∨ (R.length : Int) ≤ s
  · exact .inr h
  · refine .inl ⟨s.toNat, by omega, ?_⟩
    have hk : s.toNat < R.length := by omega
    exact ⟨R[s.toNat], List.getElem?_eq_getElem hk⟩
theorem trof_any {w : World} {q p : Option Addr} {R : List Rc} (h : HasTr w q p R) (s : Int) : Calls Tryz.prog 70 #[.pointer q, .int .i64 s] w fun e w' => e = .returned (rcV (rcOf R s)) ∧ Below w.heap.size w w' := by
  rcases in_out R s with ⟨k, rfl, r, hr⟩ | hs
  · rw [rcOf_in hr]; exact trof_in h k r hr
  · rw [rcOf_out hs]; exact trof_out h s hs
theorem rcOf_fit {w : World} {q p : Option Addr} {R : List Rc} (h : HasTr w q p R) (s : Int) : (rcOf R s).Fit := by
  rcases in_out R s with ⟨k, rfl, r, hr⟩ | hs
  · rw [rcOf_in hr]
    obtain ⟨base, b, rfl, ht⟩ := h.some (List.getElem?_eq_some_iff.1 hr).1
    exact ht.fit hr
  · rw [rcOf_out hs]; unfold Rc.Fit rcZ; simp
theorem rcfield_depth (a b c d e : Value) (w : World) : (Instr.field 109 (.agg #[a, b, c, d, e]) 3).run Tryz.prog w = .ok d w := by
  simp [Instr.field, go_sem, part, asAgg, Tryz.underlying109, isAgg, Tryz.underlying107]

set_option maxHeartbeats 1000000 in
theorem trdepth_any {w : World} {q p : Option Addr} {R : List Rc} (h : HasTr w q p R) (s : Int) : Calls Tryz.prog 46 #[.pointer q, .int .i64 s] w fun e w' => e = .returned (.int .i64 ((rcOf R s).depth : Int)) ∧ Below w.heap.size w w' := by
  have HO := Lib.hid (trof_any h s)
  have hf := rcOf_fit h s
  generalize rcOf R s = r at *
  have hd := hf.2.2.2
  have F := rcfield_depth (.int .i32 (r.first : Int)) (.int .i32 (r.above : Int)) (.int .i32 (r.below : Int)) (.int .u16 (r.depth : Int)) (.int .u8 (r.last.toNat : Int))
  clear h hf
  go_enter Tryz.func46, Tryz.ntmps46
  go_wp2_with fail
  refine HO.out.mono ?_
  rintro e w' ⟨rfl, hb⟩
  unfold rcV
  go_wp2
  go_ret
  exact ⟨rfl, hb⟩
set_option maxHeartbeats 1000000 in
theorem trabove_any {w : World} {q p : Option Addr} {R : List Rc} (h : HasTr w q p R) (s : Int) : Calls Tryz.prog 88 #[.pointer q, .int .i64 s] w fun e w' =>
    e = .returned (.tuple #[.int .i64 ((rcOf R s).above : Int), .int .u8 ((rcOf R s).last.toNat : Int), .bool (decide (0 < (rcOf R s).depth))]) ∧ Below w.heap.size w w' := by
  have HO := Lib.hid (trof_any h s)
  have hf := rcOf_fit h s
  generalize rcOf R s = r at *
  obtain ⟨_, hd, _, _⟩ := hf
  have hw : IntKind.i64.wrap (r.above : Int) = (r.above : Int) := by rw [IntKind.wrap_i64]; omega
  clear h
  go_enter Tryz.func88, Tryz.ntmps88
  go_wp2_with fail
  refine HO.out.mono ?_
  rintro e w' ⟨rfl, hb⟩
  unfold rcV
  go_wp2_with fail
  go_quiet (fail)
  go_wp2
  refine bodyPost_ret (v := .tuple #[.int .i64 (r.above : Int), .int .u8 (r.last.toNat : Int), .bool (decide (0 < r.depth))]) (by simp [results, Tryz.results88, go_sem]) rfl ?_
  exact ⟨rfl, below_drewS (hb.alloc hb.size _) nq⟩
end Go.Proofs.YtjmlabggocfikaaGreat
