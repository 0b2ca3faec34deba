/-
  strings.SplitSeq at a comma: the iterator hands over the parts of a text, one by one.
-/
import Derived.Test.YtgoidhlemmdjgaaDoorSeqBox
import Derived.Test.YtgoidhlemmdjgaaDoorPieces
import Derived.Test.YtgoidhlemmdjgaaDoorShelf
import Derived.Test.YtgoidhlemmdjgaaDoorRows
import Derived.RangeFuncBox
import Derived.RangeFuncNested
import Derived.RangeFuncBound
import Derived.RangeFuncCalls
import Derived.RangeFuncLeaves
import Derived.Shelf.Abstract
import Derived.Shelf.RegionOpen
import Derived.WalkKit
import Derived.OwnWalkIn
import Derived.TacticsInMore
import Derived.LoopNIn
import Derived.LoopIn
import Derived.Maps.AppendAt
import Derived.Lib.Hide
set_option linter.unusedSimpArgs false
set_option linter.unusedVariables false
namespace Go.Proofs.YtgoidhlemmdjgaaDoor
open Go.RowKit Go.Shelf

attribute [local go_sem] Oper.semAt_some

/-- The world behind splitSeq: the three captured variables' boxes. -/
def splitWorld (l : List UInt8) (w : World) : World := ((w.alloc (.cells #[.string ⟨l.toArray⟩] 9)).alloc (.cells #[.string ⟨#[44]⟩] 9)).alloc (.cells #[.int .i64 0] 3)

def splitFunc (b : Nat) : Value := .func (.func 26) #[] #[.pointer (some ⟨b + 1, 0, none⟩), .pointer (some ⟨b, 0, none⟩), .pointer (some ⟨b + 1 + 1, 0, none⟩)]

set_option maxHeartbeats 400000 in
theorem splitSeq_in (F : Fence) (n : Nat) (h : F.fn 22) (hro : F.round = none) (l : List UInt8) (w : World) :
    CallsIn F n Tryd.prog 22 #[.string ⟨l.toArray⟩, .string ⟨#[44]⟩, .int .i64 0] w fun e w' => e = .returned (splitFunc w.heap.size) ∧ w' = splitWorld l w := by
  refine callsIn_of_wp Tryd.func22 rfl h ?_ hro
  simp only [Tryd.ntmps22, List.size_toArray, List.length_cons, List.length_nil, Nat.reduceAdd, Nat.reduceSub, Array.replicate_succ, Array.replicate_zero, List.push_toArray, List.append_toArray, List.nil_append, List.cons_append]
  gi_wp2
  go_ret
  exact ⟨rfl, rfl⟩

set_option maxHeartbeats 400000 in
theorem SplitSeq_in (F : Fence) (n : Nat) (h : F.fn 16) (h' : F.fn 22) (hro : F.round = none) (hn : 1 ≤ n) (l : List UInt8) (w : World) :
    CallsIn F n Tryd.prog 16 #[.string ⟨l.toArray⟩, .string ⟨#[44]⟩] w fun e w' => e = .returned (splitFunc w.heap.size) ∧ w' = splitWorld l w := by
  refine callsIn_of_wp Tryd.func16 rfl h ?_ hro
  simp only [Tryd.ntmps16, List.size_toArray, List.length_cons, List.length_nil, Nat.reduceAdd, Nat.reduceSub, Array.replicate_succ, Array.replicate_zero, List.push_toArray, List.append_toArray, List.nil_append, List.cons_append]
  gi_wp2_with (gi_at_call 22; refine (splitSeq_in F (n - 1) h' hro _ _).mono ?_; rintro e w' ⟨rfl, rfl⟩)
  go_ret
  exact ⟨rfl, rfl⟩

/-- What a round is asked to keep: the three boxes. -/
def KeepBoxes (b : Nat) (A B : World) : Prop := ∀ k, b ≤ k → k < b + 3 → B.heap[k]? = A.heap[k]?
/-- The iterator's own step: a store into the text's box. -/
def MoveBox (b : Nat) (A B : World) : Prop := ∃ v u, B = A.setCell ⟨b, 0, none⟩ v ∧ Boxed A b 9 u

/-- How long the text in a box is. -/
def leftIn (b : Nat) (W : World) : Nat := match W.cell? ⟨b, 0, none⟩ with
  | some (.string s) => s.size + 1
  | _ => 0

theorem leftIn_eq {b : Nat} {W : World} {l : List UInt8} (h : Boxed W b 9 (.string ⟨l.toArray⟩)) : leftIn b W = l.length + 1 := by
  unfold leftIn
  rw [h.cell]
  exact congrArg (· + 1) (bsize l)

set_option maxRecDepth 100000 in
set_option maxHeartbeats 1000000 in
theorem split_moves (F : Fence) (n : Nat) (hF : F.fn 26) (hI : F.fn 28) (hro : F.round = none) (hn : 1 ≤ n) (hwide : ∀ (c : UInt8) (s : ByteArray) (w : World), CallsIn F (n - 1) Tryd.prog 28 #[.string s, .string ⟨#[c]⟩] w fun e w' => e = .returned (.int .i64 (Lib.indexByte s.data.toList c)) ∧ w' = w)
    (b : Nat) (l : List UInt8) (w : World) (hb : b + 2 < w.heap.size) (hlen : l.length ≤ 9223372036854775000)
    (h0 : Boxed w b 9 (.string ⟨l.toArray⟩)) (h1 : Boxed w (b + 1) 9 (.string ⟨#[44]⟩)) (h2 : Boxed w (b + 2) 3 (.int .i64 0)) :
    SeqMoves F n Tryd.prog 26 #[.pointer (some ⟨b + 1, 0, none⟩), .pointer (some ⟨b, 0, none⟩), .pointer (some ⟨b + 1 + 1, 0, none⟩)] (fun x : List UInt8 => #[Value.string ⟨x.toArray⟩]) (KeepBoxes b) (MoveBox b) (fun x => x.length ≤ l.length) (fun ys => ys = pieces l) (fun pre => pre <+: pieces l) (pieces l).length w := by
  intro lp J Jx W hW hJm hY hJ0
  have b0 : Boxed W b 9 (.string ⟨l.toArray⟩) := (hW.block b (by omega)).trans h0
  have b1 : Boxed W (b + 1) 9 (.string ⟨#[44]⟩) := (hW.block (b + 1) (by omega)).trans h1
  have b2 : Boxed W (b + 1 + 1) 3 (.int .i64 0) := (hW.block (b + 1 + 1) (by omega)).trans h2
  have c0 := b0.cell
  have c1 := b1.cell
  refine callsIn_of_wp Tryd.func26 rfl hF ?_ hro
  simp only [Tryd.ntmps26, List.size_toArray, List.length_cons, List.length_nil, Nat.reduceAdd, Nat.reduceSub, Array.replicate_succ, Array.replicate_zero, List.push_toArray, List.append_toArray, List.nil_append, List.cons_append]
  gi_wp2
  gi_loopw [] (fun wr => ∃ (pre : List (List UInt8)) (cur : List UInt8), Boxed wr b 9 (.string ⟨cur.toArray⟩) ∧ Boxed wr (b + 1) 9 (.string ⟨#[44]⟩) ∧ Boxed wr (b + 1 + 1) 3 (.int .i64 0) ∧ Hid (pieces l = pre ++ pieces cur) ∧ cur.length ≤ l.length ∧ Hid (J pre wr)) (fun wr => leftIn b wr)
  case atStart => exact ⟨[], l, b0, b1, b2, Lib.hid rfl, Nat.le_refl _, Lib.hid hJ0⟩
  case round =>
    obtain ⟨pre, cur, d0, d1, d2, hp, hcl, hJw⟩ := hrel
    have hlt := d0.lt
    have c0 := d0.cell
    have c1 := d1.cell
    have c2 := d2.cell
    have f0 := d0.frozen
    have hge := Lib.indexByte_ge cur 44
    by_cases hneg : Lib.indexByte cur 44 < 0
    · have hnone := pieces_none cur (Lib.indexByte_none (by omega))
      have HP := Lib.hid (hp.out.trans (by rw [hnone]))
      have hpre : pre.length < (pieces l).length := by rw [HP.out]; simp
      obtain ⟨fn, tmps, assign, body, hy, hR⟩ := hY pre cur wr hJw.out hpre hcl
      clear hnone hp hpre
      gi_wp2_with (gi_at_call 28; refine (hwide _ _ _).mono ?_; rintro e w' ⟨rfl, rfl⟩)
      refine hR.mono ?_
      rintro e W3 (⟨rfl, hJ3, hk3⟩ | ⟨rfl, hJx3⟩)
      · gi_wp2
        go_end0
        exact ⟨⟨_, rfl⟩, .inl ⟨pre ++ [cur], HP.out.symm, hJ3⟩⟩
      · gi_wp2
        go_end0
        exact ⟨⟨_, rfl⟩, .inr ⟨pre ++ [cur], by rw [HP.out]; exact List.prefix_refl _, hJx3⟩⟩
    · obtain ⟨i, hi⟩ : ∃ i : Nat, Lib.indexByte cur 44 = i := ⟨(Lib.indexByte cur 44).toNat, by omega⟩
      obtain ⟨hi1, hi2⟩ := Lib.indexByte_some hi
      have hil : i < cur.length := (List.getElem?_eq_some_iff.1 hi1).1
      have hsome := pieces_some cur i hi1 hi2
      have HP := Lib.hid (hp.out.trans (by rw [hsome]))
      have hpre : pre.length < (pieces l).length := by rw [HP.out]; simp
      have hwi : ∀ w, CallsIn F (n - 1) Tryd.prog 28 #[.string ⟨cur.toArray⟩, .string ⟨#[44]⟩] w fun e w' => e = .returned (.int .i64 (i : Int)) ∧ w' = w := by
        intro w
        have := hwide 44 ⟨cur.toArray⟩ w
        rw [← hi]
        exact this
      have hszc := bsize cur
      have hsz : i < (⟨cur.toArray⟩ : ByteArray).size := by rw [hszc]; exact hil
      have hsz2 : (⟨cur.toArray⟩ : ByteArray).size ≤ 9223372036854775000 := by rw [hszc]; omega
      obtain ⟨fn, tmps, assign, body, hy, hR⟩ := hY pre (cur.take i) wr hJw.out hpre (by rw [List.length_take]; omega)
      rw [ext_take] at hy
      clear hsome hp hpre hneg hge hi hi1 hi2 hszc
      have HWI := Lib.hid hwi
      clear hwi
      gi_wp2_with (gi_at_call 28; refine (HWI.out _).mono ?_; rintro e w' ⟨rfl, rfl⟩)
      clear hy
      refine hR.mono ?_
      rintro e W3 (⟨rfl, hJ3, hk3⟩ | ⟨rfl, hJx3⟩)
      · have g0 : Boxed W3 b 9 (.string ⟨cur.toArray⟩) := (hk3 b (by omega) (by omega)).trans d0
        have g1 : Boxed W3 (b + 1) 9 (.string ⟨#[44]⟩) := (hk3 (b + 1) (by omega) (by omega)).trans d1
        have g2 : Boxed W3 (b + 1 + 1) 3 (.int .i64 0) := (hk3 (b + 1 + 1) (by omega) (by omega)).trans d2
        have k0 := g0.cell
        have k1 := g1.cell
        have k2 := g2.cell
        have m0 := g0.frozen
        have HK := Lib.hid hk3
        have HJ := Lib.hid hJ3
        clear hk3 hJ3 c0 c1 c2 f0
        gi_wp2
        rw [ext_drop']
        have s0 := g0.set (.string ⟨(cur.drop (i + 1)).toArray⟩)
        refine ⟨⟨pre ++ [cur.take i], cur.drop (i + 1), s0, ?_, ?_, Lib.hid (by rw [HP.out]; simp), by simp; omega, Lib.hid (hJm _ _ _ HJ.out ⟨_, _, rfl, g0⟩)⟩, ?_⟩
        · exact (Below.heap_setCell _ _ _ _ (by simp)).trans g1
        · exact (Below.heap_setCell _ _ _ _ (by simp; omega)).trans g2
        · rw [leftIn_eq s0, leftIn_eq d0, List.length_drop]; omega
      · gi_wp2
        refine bodyPost_ret (results_none rfl _ _ _) rfl ?_
        exact ⟨⟨_, rfl⟩, .inr ⟨pre ++ [cur.take i], by rw [HP.out]; exact ⟨pieces (cur.drop (i + 1)), by simp⟩, hJx3⟩⟩
end Go.Proofs.YtgoidhlemmdjgaaDoor
