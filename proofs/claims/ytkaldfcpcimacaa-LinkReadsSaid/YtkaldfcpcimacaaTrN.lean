/-
  A trie that is made: add: walked.
-/
import Derived.Test.YtkaldfcpcimacaaTrK
import Derived.Test.YtkaldfcpcimacaaBut
import Derived.Test.YtkaldfcpcimacaaStepAp
import Derived.BigRegion
import Derived.Laws.BitsLemmas
import Derived.Laws.BitsAllLaws
set_option linter.unusedSimpArgs false
set_option linter.unusedVariables false
namespace Go.Proofs.Ytkaldfcpcimacaa
open Go.RowKit

/-- All blocks of groups are as they were. -/
def Groups (w w' : World) : Prop := ∀ (k : Nat) (cur : Array Value), w.heap[k]? = some (Obj.cells cur 81 (0, 0)) → w'.heap[k]? = w.heap[k]?
theorem Groups.refl (w : World) : Groups w w := fun _ _ _ => rfl
theorem Groups.trans {u v w : World} (h : Groups u v) (k : Groups v w) : Groups u w := fun i cur hi => (k i cur ((h i cur hi).trans hi)).trans (h i cur hi)
theorem Groups.of {w w' : World} (h : Below w.heap.size w w') : Groups w w' := fun k _ hk => h.block k (heap_lt hk)

/-- A trie stays one where a block of a group is written. -/
theorem IsTr.others {w w' : World} {base b X : Nat} {p : Option Addr} {R : List Rc} {cs : Array Value} (h : IsTr w base b p R) (hX : w.heap[X]? = some (.cells cs 81 (0, 0))) (hk : ∀ k, k ≠ X → w'.heap[k]? = w.heap[k]?) : IsTr w' base b p R := by
  obtain ⟨g, cap, h1, h2, h3, h4⟩ := h
  refine ⟨g, cap, (hk b fun e => ?_).trans h1, h2, ?_, h4⟩
  · subst e; rw [hX] at h1; simp at h1
  · obtain ⟨hl, hx⟩ := h3
    refine ⟨hl, ?_⟩
    rcases hx with hx | ⟨g', cap', cur, hv, hg, hh, r⟩
    · exact .inl hx
    · exact .inr ⟨g', cap', cur, hv, hg, (hk g' fun e => by subst e; rw [hX] at hh; simp at hh).trans hh, r⟩

theorem new_rc {w : World} {X : Nat} {T : TypeId} {r : Rc} (h : w.heap[X]? = some (.cells (rcOne r).toArray T (0, 0))) : ∀ j x, (rcOne r)[j]? = some x → w.cell? ((⟨X, 0, none⟩ : Addr).add j) = some x := by
  intro j x hj
  rw [addPlain, Nat.zero_add, Lib.cell_of_heap h, List.getElem?_toArray]
  exact hj

set_option maxRecDepth 100000 in
set_option maxHeartbeats 4000000 in
theorem tradd_any {w : World} {base b : Nat} {p : Option Addr} {R : List Rc} (h : IsTr w base b p R) (s f e : Nat) (r : Rc) (c : UInt8) (hr : R[s]? = some r) (hf : f ≤ 65535) (he : e ≤ 65535) (hd : r.depth + 1 ≤ 65535) (hR : R.length + 1 ≤ 2147483647) :
    Calls Try.prog 61 #[.pointer (some ⟨b, 0, none⟩), .int .i64 (s : Int), .int .u8 (c.toNat : Int), .int .i64 (f : Int), .int .i64 (e : Int)] w fun en w' =>
      en = .returned (.agg #[.int .i64 (R.length : Int), .int .i64 (f : Int), .int .i64 (e : Int)]) ∧ IsTr w' base b p (R ++ [⟨f, s, 0, r.depth + 1, c⟩]) ∧ Below base w w' ∧ Groups w w' := by
  obtain ⟨i0, hi, hz0, hz1, hz2⟩ := info_parts rc_info
  have hs := (List.getElem?_eq_some_iff.1 hr).1
  obtain ⟨g0, cap0, hh, hbase, hown, hfit, hfew⟩ := h
  have hblt := heap_lt hh
  have e3 := (own_rcs hown hr).c3
  have hglt := (hown.lt g0 rfl).2
  have c1 : w.cell? ⟨b, 1, none⟩ = some (.slice (some ⟨g0, 0, none⟩) R.length cap0) := by rw [Lib.cell_of_heap hh]; rfl
  have d1 : ∀ o, (w.alloc o).cell? ⟨b, 1, none⟩ = some (.slice (some ⟨g0, 0, none⟩) R.length cap0) := fun o => by rw [World.cell?_alloc_lt _ _ _ hblt]; exact c1
  have d3 : ∀ o, (w.alloc o).cell? ⟨g0, s * 5 + 3, none⟩ = some (.int .u16 (r.depth : Int)) := fun o => by rw [World.cell?_alloc_lt _ _ _ hglt]; exact e3
  have x1 : ∀ o o', ((w.alloc o).alloc o').cell? ⟨b, 1, none⟩ = some (.slice (some ⟨g0, 0, none⟩) R.length cap0) := fun o o' => by rw [World.cell?_alloc_lt _ _ _ (by simp; omega)]; exact d1 o
  have x3 : ∀ o o', ((w.alloc o).alloc o').cell? ⟨g0, s * 5 + 3, none⟩ = some (.int .u16 (r.depth : Int)) := fun o o' => by rw [World.cell?_alloc_lt _ _ _ (by simp; omega)]; exact d3 o
  have w1 : IntKind.i32.wrap (f : Int) = (f : Int) := by rw [IntKind.wrap_i32]; omega
  have w2 : IntKind.i32.wrap (s : Int) = (s : Int) := by rw [IntKind.wrap_i32]; omega
  have w3 : IntKind.u16.wrap ((r.depth : Int) + 1) = (r.depth : Int) + 1 := by rw [IntKind.wrap_u16]; omega
  have k0 : (0 : Int) ≤ (s : Int) := by omega
  have k1 : (s : Int) < (R.length : Int) := by omega
  go_enter Try.func61, Try.ntmps61
  go_wp2_with fail
  have hX : ∀ (o : Obj), ((w.alloc o).alloc (.cells (rcOne ⟨f, s, 0, r.depth + 1, c⟩).toArray 75)).drew.heap[w.heap.size + 1]? = some (.cells (rcOne ⟨f, s, 0, r.depth + 1, c⟩).toArray 75 (0, 0)) := fun o => by
    have := heap_alloc_new (w.alloc o) (.cells (rcOne ⟨f, s, 0, r.depth + 1, c⟩).toArray 75)
    rwa [show (w.alloc o).heap.size = w.heap.size + 1 by simp] at this
  have hne : (Value.slice (some ⟨g0, 0, none⟩) R.length cap0).ownBlock ≠ some b := fun e => by
    obtain ⟨_, ⟨hx, _⟩ | ⟨g, cap, cur, hx, _, hg, _⟩⟩ := hown
    · cases hx
    · cases hx
      simp only [Value.ownBlock, Option.some.injEq] at e
      subst e
      rw [hg] at hh
      simp at hh
  have HO := Lib.hid hown
  have HH := Lib.hid hh
  go_region_law (first
    | (refine step_append_any rfl (.tmp 21) (.tmp 37) _ rfl base 75 i0 (.agg #[.int .i32 0, .int .i32 0, .int .i32 0, .int .u16 0, .int .u8 0]) 5 16 Try.underlying70 hi hz0 hz1 hz2 rfl (by omega) (.slice (some ⟨g0, 0, none⟩) R.length cap0) R.length (rcCells R) (by simp [Act.eval, Act.put]) (((hown.alloc _).alloc _).drew) ⟨w.heap.size + 1, 0, none⟩ 1 1 (rcOne ⟨f, s, 0, r.depth + 1, c⟩) (by simp [Act.eval, Act.put]) rfl (new_rc (hX _)) rc_one (by unfold maxLen; omega) (by omega) (by simp; omega) ?_
       intro v3 w3 own3 grow3
       have V3 : w3.heap[b]? = some (.cells #[.pointer p, .slice (some ⟨g0, 0, none⟩) R.length cap0] 72 (0, 0)) := by
         rw [grow3.block b (by simp; omega) (fun ee => hne ee.symm)]
         show ((w.alloc _).alloc _).heap[b]? = _
         rw [Lib.alloc_old _ _ b (by simp; omega), Lib.alloc_old _ _ b hblt]
         exact HH.out
       have N3 : w3.heap[w.heap.size]? = some (.cells #[.int .i64 0, .int .i64 0, .int .i64 0] 81 (0, 0)) := by
         rw [grow3.block w.heap.size (by simp; omega) (fun ee => by simp only [Value.ownBlock, Option.some.injEq] at ee; omega)]
         show ((w.alloc _).alloc _).heap[w.heap.size]? = _
         rw [Lib.alloc_old _ _ w.heap.size (by simp)]
         exact heap_alloc_new w _
       have C3 : w3.cell? ⟨b, 1, none⟩ = some (.slice (some ⟨g0, 0, none⟩) R.length cap0) := by rw [Lib.cell_of_heap V3]; rfl
       have F3 := Lib.frozen_of_heap V3 1
       obtain ⟨g3, cap3, rfl, hb3, hg3⟩ := World.ownsRow.form own3 (by omega)))
  all_goals
    have hB3 : Below base w w3 := (((Below.refl base w).alloc (by omega) _).alloc (by simp; omega) _).drew.grown grow3 (by simp; omega) (fun j hj => (hown.lt j hj).1)
    have hG3 : Groups w w3 := fun k cur hk => by
      have hkl := heap_lt hk
      have hkb : some k ≠ (Value.slice (some ⟨g0, 0, none⟩) R.length cap0).ownBlock := fun ee => by
        obtain ⟨_, ⟨hx, _⟩ | ⟨g, cap, cur', hx, _, hg, _⟩⟩ := HO.out
        · cases hx
        · cases hx
          simp only [Value.ownBlock, Option.some.injEq] at ee
          subst ee
          rw [hk] at hg
          simp at hg
      rw [grow3.block k (by simp; omega) hkb]
      show ((w.alloc _).alloc _).heap[k]? = _
      rw [Lib.alloc_old _ _ k (by simp; omega), Lib.alloc_old _ _ k hkl]
    have hbg : b ≠ g3 := fun ee => by
      subst ee
      obtain ⟨_, ⟨hx, _⟩ | ⟨g, cap, cur', hx, _, hg, _⟩⟩ := own3
      · cases hx
      · cases hx
        rw [V3] at hg
        simp at hg
    have HT : IsTr (w3.setCell ⟨b, 1, none⟩ (.slice (some ⟨g3, 0, none⟩) (R.length + 1) cap3)) base b p (R ++ [⟨f, s, 0, r.depth + 1, c⟩]) := by
      refine ⟨g3, cap3, by rw [put_heap V3, List.length_append]; rfl, hbase, ?_, ?_, by rw [List.length_append]; simpa using hR⟩
      · rw [List.length_append, rc_snoc]
        refine own3.kept (row := some b) ⟨rfl, rfl, rfl, by simp [World.setCell], fun k hk hkb => put_other (fun ee => hkb (by rw [ee])) _⟩ (.inr ?_)
        simp only [Value.ownBlock, ne_eq, Option.some.injEq]
        exact fun ee => hbg ee.symm
      · intro x hx
        rcases List.mem_append.1 hx with hx | hx
        · exact hfit x hx
        · rw [List.mem_singleton] at hx
          subst hx
          exact ⟨by show f ≤ _; omega, by show s ≤ _; omega, by show 0 ≤ _; omega, hd⟩
    have N4 : (w3.setCell ⟨b, 1, none⟩ (.slice (some ⟨g3, 0, none⟩) (R.length + 1) cap3)).heap[w.heap.size]? = some (.cells #[.int .i64 0, .int .i64 0, .int .i64 0] 81 (0, 0)) := (put_other (by omega) _).trans N3
    have B4 : Below base w (w3.setCell ⟨b, 1, none⟩ (.slice (some ⟨g3, 0, none⟩) (R.length + 1) cap3)) := hB3.setCell hbase _
    have G4 : Groups w (w3.setCell ⟨b, 1, none⟩ (.slice (some ⟨g3, 0, none⟩) (R.length + 1) cap3)) := fun k cur hk => (put_other (fun ee => by subst ee; rw [hk] at hh; simp at hh) _).trans (hG3 k cur hk)
    clear hB3 hG3 N3 V3 own3 grow3 C3 F3 HO HH hX hh hown hfit c1 d1 d3 x1 x3 e3 hbg hne
    generalize w3.setCell ⟨b, 1, none⟩ (.slice (some ⟨g3, 0, none⟩) (R.length + 1) cap3) = w4 at *
    have n0 : w4.cell? ⟨w.heap.size, 0, none⟩ = some (.int .i64 0) := by rw [Lib.cell_of_heap N4]; rfl
    have n1 : w4.cell? ⟨w.heap.size, 1, none⟩ = some (.int .i64 0) := by rw [Lib.cell_of_heap N4]; rfl
    have n2 : w4.cell? ⟨w.heap.size, 2, none⟩ = some (.int .i64 0) := by rw [Lib.cell_of_heap N4]; rfl
    have z0 : w4.frozen? ⟨w.heap.size, 0, none⟩ = false := Lib.frozen_of_heap N4 0
    have z1 : w4.frozen? ⟨w.heap.size, 1, none⟩ = false := Lib.frozen_of_heap N4 1
    have z2 : w4.frozen? ⟨w.heap.size, 2, none⟩ = false := Lib.frozen_of_heap N4 2
    go_wp2
    have N5 := put_heap (put_heap (put_heap N4 (i := 0) (.int .i64 (R.length : Int))) (i := 1) (.int .i64 (f : Int))) (i := 2) (.int .i64 (e : Int))
    have O5 : ∀ k, k ≠ w.heap.size → (((w4.setCell ⟨w.heap.size, 0, none⟩ (.int .i64 (R.length : Int))).setCell ⟨w.heap.size, 1, none⟩ (.int .i64 (f : Int))).setCell ⟨w.heap.size, 2, none⟩ (.int .i64 (e : Int))).heap[k]? = w4.heap[k]? := fun k hk => by
      rw [put_other hk, put_other hk, put_other hk]
    have B5 := ((B4.setCell (p := ⟨w.heap.size, 0, none⟩) (by show base ≤ w.heap.size; omega) (.int .i64 (R.length : Int))).setCell (p := ⟨w.heap.size, 1, none⟩) (by show base ≤ w.heap.size; omega) (.int .i64 (f : Int))).setCell (p := ⟨w.heap.size, 2, none⟩) (by show base ≤ w.heap.size; omega) (.int .i64 (e : Int))
    have T5 := HT.others N4 O5
    generalize ((w4.setCell ⟨w.heap.size, 0, none⟩ (.int .i64 (R.length : Int))).setCell ⟨w.heap.size, 1, none⟩ (.int .i64 (f : Int))).setCell ⟨w.heap.size, 2, none⟩ (.int .i64 (e : Int)) = w5 at *
    have m0 : w5.cell? ⟨w.heap.size, 0, none⟩ = some (.int .i64 (R.length : Int)) := by rw [Lib.cell_of_heap N5]; rfl
    have m1 : w5.cell? ⟨w.heap.size, 1, none⟩ = some (.int .i64 (f : Int)) := by rw [Lib.cell_of_heap N5]; rfl
    have m2 : w5.cell? ⟨w.heap.size, 2, none⟩ = some (.int .i64 (e : Int)) := by rw [Lib.cell_of_heap N5]; rfl
    refine bodyPost_ret (v := .agg #[.int .i64 (R.length : Int), .int .i64 (f : Int), .int .i64 (e : Int)]) (by simp [results, Try.results61, go_sem, m0, m1, m2]) rfl ?_
    exact ⟨rfl, T5, B5, fun k cur hk => (O5 k (by have := heap_lt hk; omega)).trans (G4 k cur hk)⟩
end Go.Proofs.Ytkaldfcpcimacaa
