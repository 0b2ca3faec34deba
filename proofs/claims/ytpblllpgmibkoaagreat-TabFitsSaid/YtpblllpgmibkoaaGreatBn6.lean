/-
  Texts put together: LkF, PtIs, PtLa, PtIp, AfFw, PtFew, FewN, TrS, TrD, TrE, TrK, StepAp, TrN.
-/
import Derived.Test.YtpblllpgmibkoaaGreatBn4
import Derived.Test.YtpblllpgmibkoaaGreatBn2
import Derived.Laws.ResultCell
import Derived.Test.YtpblllpgmibkoaaGreatBn3
import Derived.Sort.Grow
import Derived.Lib.MinMax
import Derived.Laws.AppendOwn
import Derived.WalkKit
import Derived.Maps.AppendAt
import Derived.Deep.RegionLaw
import Derived.Deep.AppendLies
import Derived.BigRegion
import Derived.Laws.BitsLemmas
import Derived.Laws.BitsAllLaws
set_option linter.unusedSimpArgs false
set_option linter.unusedVariables false
namespace Go.Proofs.YtpblllpgmibkoaaGreat
open Go.RowKit

/-- The two cells of where a state falls back to. -/
def flOne (r : Nat × Nat) : List Value := [.int .i32 (r.1 : Int), .int .i32 (r.2 : Int)]
def flCells (F : List (Nat × Nat)) : List Value := F.flatMap flOne
theorem fl_cons (r : Nat × Nat) (F : List (Nat × Nat)) : flCells (r :: F) = flOne r ++ flCells F := rfl
theorem flOne_length (r : Nat × Nat) : (flOne r).length = 2 := rfl
theorem flCells_length : ∀ F : List (Nat × Nat), (flCells F).length = F.length * 2
  | [] => rfl
  | r :: F => by rw [fl_cons, List.length_append, flCells_length F, List.length_cons, flOne_length]; omega
theorem flCells_at : ∀ (F : List (Nat × Nat)) (i j : Nat) {r : Nat × Nat}, F[i]? = some r → j < 2 → (flCells F)[i * 2 + j]? = (flOne r)[j]?
  | q :: F, 0, j, r, h, hj => by
    simp at h; subst h
    rw [fl_cons, List.getElem?_append_left (by rw [flOne_length]; omega)]; congr 1; omega
  | q :: F, i + 1, j, r, h, hj => by
    rw [fl_cons, List.getElem?_append_right (by rw [flOne_length]; omega), flOne_length, show (i + 1) * 2 + j - 2 = i * 2 + j by omega]
    exact flCells_at F i j (by simpa using h) hj
theorem fl_set : ∀ (F : List (Nat × Nat)) (i : Nat) {r : Nat × Nat} (a b : Nat), F[i]? = some r → ((flCells F).set (i * 2) (.int .i32 (a : Int))).set (i * 2 + 1) (.int .i32 (b : Int)) = flCells (F.set i (a, b))
  | q :: F, 0, r, a, b, h => by rfl
  | q :: F, i + 1, r, a, b, h => by
    rw [fl_cons, List.set_cons_succ, fl_cons, ← fl_set F i a b (by simpa using h), List.set_append_right _ _ (by rw [flOne_length]; omega), List.set_append_right _ _ (by rw [flOne_length]; omega), flOne_length, show (i + 1) * 2 - 2 = i * 2 by omega, show (i + 1) * 2 + 1 - 2 = i * 2 + 1 by omega]
theorem fl_rep : ∀ n : Nat, flCells (List.replicate n (0, 0)) = List.replicate (n * 2) (.int .i32 0)
  | 0 => rfl
  | n + 1 => by rw [List.replicate_succ, fl_cons, fl_rep n, show (n + 1) * 2 = n * 2 + 1 + 1 by omega, List.replicate_succ, List.replicate_succ]; rfl
theorem fl_info : (Tryz.prog.info? 105).map (fun i => (i.zero, i.size, i.bytes)) = some (some (.agg #[.int .i32 0, .int .i32 0]), 2, 8) := by kernel_rfl

/-- Links lie in block b: of the trie behind q, with where its states fall back to in block g. What they own lies from 'base' on. -/
structure IsLk (w : World) (base b g : Nat) (q : Option Addr) (F : List (Nat × Nat)) : Prop where
  head : w.heap[b]? = some (.cells #[.pointer q, .slice (some ⟨g, 0, none⟩) F.length F.length] 103 (0, 0))
  row : w.heap[g]? = some (.cells (flCells F).toArray 105 (0, 0))
  bb : base ≤ b
  gg : base ≤ g
  few : F.length ≤ 16777217
  fit : ∀ r ∈ F, r.1 ≤ 16777217 ∧ r.2 ≤ 16777217
theorem IsLk.lt {w : World} {base b g : Nat} {q : Option Addr} {F : List (Nat × Nat)} (h : IsLk w base b g q F) : b < w.heap.size := lt_of_heap h.head
theorem IsLk.ltg {w : World} {base b g : Nat} {q : Option Addr} {F : List (Nat × Nat)} (h : IsLk w base b g q F) : g < w.heap.size := lt_of_heap h.row
theorem IsLk.below {w w' : World} {base b g : Nat} {q : Option Addr} {F : List (Nat × Nat)} (h : IsLk w base b g q F) (hb : Below w.heap.size w w') : IsLk w' base b g q F :=
  ⟨(hb.block b h.lt).trans h.head, (hb.block g h.ltg).trans h.row, h.bb, h.gg, h.few, h.fit⟩
theorem IsLk.heap {w W : World} {base b g : Nat} {q : Option Addr} {F : List (Nat × Nat)} (h : IsLk w base b g q F) (e : W.heap = w.heap) : IsLk W base b g q F :=
  ⟨by rw [e]; exact h.head, by rw [e]; exact h.row, h.bb, h.gg, h.few, h.fit⟩
theorem IsLk.reads {w : World} {base b g : Nat} {q : Option Addr} {F : List (Nat × Nat)} (h : IsLk w base b g q F) : w.cell? ⟨b, 0, none⟩ = some (.pointer q) ∧ w.cell? ⟨b, 1, none⟩ = some (.slice (some ⟨g, 0, none⟩) F.length F.length) ∧
    ∀ (i : Nat) r, F[i]? = some r → w.cell? ⟨g, i * 2, none⟩ = some (.int .i32 (r.1 : Int)) ∧ w.cell? ⟨g, i * 2 + 1, none⟩ = some (.int .i32 (r.2 : Int)) := by
  refine ⟨by rw [Lib.cell_of_heap h.head]; rfl, by rw [Lib.cell_of_heap h.head]; rfl, fun i r hi => ⟨?_, ?_⟩⟩
  · rw [Lib.cell_of_heap h.row, List.getElem?_toArray]
    exact flCells_at F i 0 hi (by omega)
  · rw [Lib.cell_of_heap h.row, List.getElem?_toArray]
    exact flCells_at F i 1 hi (by omega)

/-- Links behind a pointer, or none: then they know of no state, and have no trie. -/
def HasLk (w : World) (k q : Option Addr) (F : List (Nat × Nat)) : Prop := (k = none ∧ q = none ∧ F = []) ∨ ∃ base b g, k = some ⟨b, 0, none⟩ ∧ IsLk w base b g q F
theorem HasLk.below {w w' : World} {k q : Option Addr} {F : List (Nat × Nat)} (h : HasLk w k q F) (hb : Below w.heap.size w w') : HasLk w' k q F :=
  h.elim .inl (fun ⟨base, b, g, h1, h2⟩ => .inr ⟨base, b, g, h1, h2.below hb⟩)
theorem HasLk.heap {w W : World} {k q : Option Addr} {F : List (Nat × Nat)} (h : HasLk w k q F) (e : W.heap = w.heap) : HasLk W k q F :=
  h.elim .inl (fun ⟨base, b, g, h1, h2⟩ => .inr ⟨base, b, g, h1, h2.heap e⟩)
theorem HasLk.some {w : World} {k q : Option Addr} {F : List (Nat × Nat)} (h : HasLk w k q F) {i : Nat} (hk : i < F.length) : ∃ base b g, k = some ⟨b, 0, none⟩ ∧ IsLk w base b g q F := by
  rcases h with ⟨_, _, rfl⟩ | h
  · simp at hk
  · exact h
theorem HasLk.nil (w : World) : HasLk w none none [] := .inl ⟨rfl, rfl, rfl⟩

theorem lktrie_any {w : World} {k q : Option Addr} {F : List (Nat × Nat)} (h : HasLk w k q F) : Calls Tryz.prog 33 #[.pointer k] w fun e w' => e = .returned (.pointer q) ∧ w' = w := by
  rcases h with ⟨rfl, rfl, _⟩ | ⟨base, b, g, rfl, h⟩
  · go_enter Tryz.func33, Tryz.ntmps33
    go_wp2
    go_ret
    exact ⟨rfl, rfl⟩
  · obtain ⟨c0, _, _⟩ := h.reads
    clear h
    go_enter Tryz.func33, Tryz.ntmps33
    go_wp2
    go_ret
    exact ⟨rfl, rfl⟩
set_option maxHeartbeats 1000000 in
theorem lkis_in {w : World} {k q : Option Addr} {F : List (Nat × Nat)} (h : HasLk w k q F) (i : Nat) (hi : i < F.length) : Calls Tryz.prog 112 #[.pointer k, .int .i64 (i : Int)] w fun e w' => e = .returned (.bool true) ∧ w' = w := by
  obtain ⟨base, b, g, rfl, ht⟩ := h.some hi
  obtain ⟨_, c1, _⟩ := ht.reads
  have g0 : (0 : Int) ≤ (i : Int) := by omega
  have g1 : (i : Int) < (F.length : Int) := by omega
  clear h ht
  go_enter Tryz.func112, Tryz.ntmps112
  go_wp2
  go_ret
  exact ⟨rfl, rfl⟩
set_option maxHeartbeats 1000000 in
theorem lkis_out {w : World} {k q : Option Addr} {F : List (Nat × Nat)} (h : HasLk w k q F) (s : Int) (hs : s < 0 ∨ (F.length : Int) ≤ s) : Calls Tryz.prog 112 #[.pointer k, .int .i64 s] w fun e w' => e = .returned (.bool false) ∧ w' = w := by
  rcases h with ⟨rfl, _, rfl⟩ | ⟨base, b, g, rfl, h⟩
  · clear hs
    go_enter Tryz.func112, Tryz.ntmps112
    go_wp2
    go_ret
    exact ⟨rfl, rfl⟩
  · obtain ⟨_, c1, _⟩ := h.reads
    clear h
    by_cases h0 : s < 0
    · have g0 : ¬ (0 : Int) ≤ s := by omega
      clear hs
      go_enter Tryz.func112, Tryz.ntmps112
      go_wp2
      go_ret
      exact ⟨rfl, rfl⟩
    · have g0 : (0 : Int) ≤ s := by omega
      have g1 : ¬ s < (F.length : Int) := by omega
      have g2 : decide (s < (F.length : Int)) = false := decide_eq_false g1
      clear hs
      go_enter Tryz.func112, Tryz.ntmps112
      go_wp2
      go_ret
      exact ⟨rfl, rfl⟩

/-- Where a state falls back to, as a value. -/
def flV (r : Nat × Nat) : Value := .agg #[.int .i32 (r.1 : Int), .int .i32 (r.2 : Int)]
/-- What is known of any number: of a state's, and of one that is none. -/
def flOf (F : List (Nat × Nat)) (s : Int) : Nat × Nat := if 0 ≤ s then F.getD s.toNat (0, 0) else (0, 0)
theorem flOf_in {F : List (Nat × Nat)} {i : Nat} {r : Nat × Nat} (h : F[i]? = some r) : flOf F i = r := by
  unfold flOf
  rw [if_pos (by omega), Int.toNat_natCast, List.getD_eq_getElem?_getD, h]; rfl
theorem flOf_out {F : List (Nat × Nat)} {s : Int} (h : s < 0 ∨ (F.length : Int) ≤ s) : flOf F s = (0, 0) := by
  unfold flOf
  split
  · rw [List.getD_eq_getElem?_getD, List.getElem?_eq_none (by omega)]; rfl
  · rfl
theorem fl_in_out (F : List (Nat × Nat)) (s : Int) : (∃ i : Nat, s = i ∧ ∃ r, F[i]? = some r) ∨ (s < 0 ∨ (F.length : Int) ≤ s) := by
  by_cases h : s < 0 ∨ (F.length : Int) ≤ s
  · exact .inr h
  · refine .inl ⟨s.toNat, by omega, ?_⟩
    have hk : s.toNat < F.length := by omega
    exact ⟨F[s.toNat], List.getElem?_eq_getElem hk⟩
theorem flOf_fit {w : World} {k q : Option Addr} {F : List (Nat × Nat)} (h : HasLk w k q F) (s : Int) : (flOf F s).1 ≤ 16777217 ∧ (flOf F s).2 ≤ 16777217 := by
  rcases fl_in_out F s with ⟨i, rfl, r, hr⟩ | hs
  · rw [flOf_in hr]
    obtain ⟨base, b, g, rfl, ht⟩ := h.some (List.getElem?_eq_some_iff.1 hr).1
    exact ht.fit r (List.mem_of_getElem? hr)
  · rw [flOf_out hs]; simp

set_option maxHeartbeats 1000000 in
theorem lkof_in {w : World} {k q : Option Addr} {F : List (Nat × Nat)} (h : HasLk w k q F) (i : Nat) (r : Nat × Nat) (hr : F[i]? = some r) : Calls Tryz.prog 87 #[.pointer k, .int .i64 (i : Int)] w fun e w' => e = .returned (flV r) ∧ Below w.heap.size w w' := by
  have hi := (List.getElem?_eq_some_iff.1 hr).1
  have HS := Lib.hid (fun o => lkis_in (h.below ((Below.refl _ _).alloc (Nat.le_refl _) o)) i hi)
  obtain ⟨base, b, g, rfl, ht⟩ := h.some hi
  have d1 := fun o => (ht.below ((Below.refl _ _).alloc (Nat.le_refl _) o)).reads.2.1
  have e0 := fun o => ((ht.below ((Below.refl _ _).alloc (Nat.le_refl _) o)).reads.2.2 i r hr).1
  have e1 := fun o => ((ht.below ((Below.refl _ _).alloc (Nat.le_refl _) o)).reads.2.2 i r hr).2
  have g0 : (0 : Int) ≤ (i : Int) := by omega
  have g1 : (i : Int) < (F.length : Int) := by omega
  clear h ht hr
  go_enter Tryz.func87, Tryz.ntmps87
  go_wp2_with fail
  refine (HS.out _).mono ?_
  rintro e w' ⟨rfl, rfl⟩
  go_wp2
  refine bodyPost_ret (v := flV r) (by simp [results, Tryz.results87, go_sem, flV]) rfl ?_
  exact ⟨rfl, (Below.refl _ _).alloc (Nat.le_refl _) _⟩
set_option maxHeartbeats 1000000 in
theorem lkof_out {w : World} {k q : Option Addr} {F : List (Nat × Nat)} (h : HasLk w k q F) (s : Int) (hs : s < 0 ∨ (F.length : Int) ≤ s) : Calls Tryz.prog 87 #[.pointer k, .int .i64 s] w fun e w' => e = .returned (flV (0, 0)) ∧ Below w.heap.size w w' := by
  have HS := Lib.hid (fun o => lkis_out (h.below ((Below.refl _ _).alloc (Nat.le_refl _) o)) s hs)
  clear h hs
  go_enter Tryz.func87, Tryz.ntmps87
  go_wp2_with fail
  refine (HS.out _).mono ?_
  rintro e w' ⟨rfl, rfl⟩
  go_wp2
  refine bodyPost_ret (v := flV (0, 0)) (by simp [results, Tryz.results87, go_sem, flV]) rfl ?_
  exact ⟨rfl, (Below.refl _ _).alloc (Nat.le_refl _) _⟩
theorem lkof_any {w : World} {k q : Option Addr} {F : List (Nat × Nat)} (h : HasLk w k q F) (s : Int) : Calls Tryz.prog 87 #[.pointer k, .int .i64 s] w fun e w' => e = .returned (flV (flOf F s)) ∧ Below w.heap.size w w' := by
  rcases fl_in_out F s with ⟨i, rfl, r, hr⟩ | hs
  · rw [flOf_in hr]; exact lkof_in h i r hr
  · rw [flOf_out hs]; exact lkof_out h s hs
theorem flfield0 (a b : Value) (w : World) : (Instr.field 105 (.agg #[a, b]) 0).run Tryz.prog w = .ok a w := by
  simp [Instr.field, go_sem, part, asAgg, Tryz.underlying105, isAgg, Tryz.underlying21]
theorem flfield1 (a b : Value) (w : World) : (Instr.field 105 (.agg #[a, b]) 1).run Tryz.prog w = .ok b w := by
  simp [Instr.field, go_sem, part, asAgg, Tryz.underlying105, isAgg, Tryz.underlying21]

set_option maxHeartbeats 1000000 in
theorem lkfail_any {w : World} {k q : Option Addr} {F : List (Nat × Nat)} (h : HasLk w k q F) (s : Int) : Calls Tryz.prog 79 #[.pointer k, .int .i64 s] w fun e w' => e = .returned (.int .i64 ((flOf F s).1 : Int)) ∧ Below w.heap.size w w' := by
  have HO := Lib.hid (lkof_any h s)
  have hf := flOf_fit h s
  generalize flOf F s = r at *
  obtain ⟨h1, _⟩ := hf
  have FD := flfield0 (.int .i32 (r.1 : Int)) (.int .i32 (r.2 : Int))
  have hw : IntKind.i64.wrap (r.1 : Int) = (r.1 : Int) := by rw [IntKind.wrap_i64]; omega
  clear h
  go_enter Tryz.func79, Tryz.ntmps79
  go_wp2_with fail
  refine HO.out.mono ?_
  rintro e w' ⟨rfl, hb⟩
  unfold flV
  go_wp2
  go_ret
  exact ⟨rfl, hb⟩
end Go.Proofs.YtpblllpgmibkoaaGreat

namespace Go.Proofs.YtpblllpgmibkoaaGreat
open Go.RowKit

/-- A set of these patterns lies in block b. -/
def IsSet (w : World) (b : Nat) (ws : List (List UInt8)) : Prop :=
  ∃ g cap, w.heap[b]? = some (.cells #[.slice (some ⟨g, 0, none⟩) ws.length cap, .int .i64 (leastL ws : Int), .int .i64 (mostL ws : Int), .int .i64 (totalL ws : Int)] 56 (0, 0)) ∧
    w.ownsRow 0 9 1 (.slice (some ⟨g, 0, none⟩) ws.length cap) ws.length (txCells ws)

theorem IsSet.lt {w : World} {b : Nat} {ws : List (List UInt8)} (h : IsSet w b ws) : b < w.heap.size := by
  obtain ⟨g, cap, h1, _⟩ := h
  exact heap_lt h1
theorem IsSet.below {w w' : World} {b : Nat} {ws : List (List UInt8)} (h : IsSet w b ws) (hb : Below w.heap.size w w') : IsSet w' b ws := by
  obtain ⟨g, cap, h1, h2⟩ := h
  exact ⟨g, cap, (hb.block b (heap_lt h1)).trans h1, tx_below h2 hb⟩
theorem IsSet.drewN {w : World} {b : Nat} {ws : List (List UInt8)} (h : IsSet w b ws) (n : Nat) : IsSet (w.drewN n) b ws := h
theorem own_strs {w : World} {base : Nat} {g n cap : Nat} {ws : List (List UInt8)} (h : w.ownsRow base 9 1 (.slice (some ⟨g, 0, none⟩) n cap) n (txCells ws)) : IsStrs w (some ⟨g, 0, none⟩) n ws := by
  have e : ws.length = n := by have := h.1; rw [txCells, List.length_map] at this; omega
  refine ⟨e, .inr ⟨g, 0, rfl, fun i hi => ?_⟩⟩
  have hc := h.cells (g := g) rfl i (.string ⟨(ws[i]'hi).toArray⟩) (by simp [txCells, List.getElem?_eq_getElem hi])
  rwa [addPlain] at hc

/-- What is read of a set. -/
theorem IsSet.reads {w : World} {b : Nat} {ws : List (List UInt8)} (h : IsSet w b ws) : ∃ g cap, w.cell? ⟨b, 0, none⟩ = some (.slice (some ⟨g, 0, none⟩) ws.length cap) ∧ w.cell? ⟨b, 1, none⟩ = some (.int .i64 (leastL ws : Int)) ∧
    w.cell? ⟨b, 2, none⟩ = some (.int .i64 (mostL ws : Int)) ∧ w.cell? ⟨b, 3, none⟩ = some (.int .i64 (totalL ws : Int)) ∧ w.ownsRow 0 9 1 (.slice (some ⟨g, 0, none⟩) ws.length cap) ws.length (txCells ws) := by
  obtain ⟨g, cap, h1, h2⟩ := h
  refine ⟨g, cap, ?_, ?_, ?_, ?_, h2⟩ <;> rw [Lib.cell_of_heap h1] <;> rfl
end Go.Proofs.YtpblllpgmibkoaaGreat

namespace Go.Proofs.YtpblllpgmibkoaaGreat
open Go.RowKit

theorem ptlen_nil (w : World) : Calls Tryz.prog 77 #[.pointer none] w fun e w' => e = .returned (.int .i64 0) ∧ w' = w := by
  go_enter Tryz.func77, Tryz.ntmps77
  go_wp2
  go_ret
  exact ⟨rfl, rfl⟩
theorem ptlen_any {w : World} {b : Nat} {ws : List (List UInt8)} (h : IsSet w b ws) : Calls Tryz.prog 77 #[.pointer (some ⟨b, 0, none⟩)] w fun e w' => e = .returned (.int .i64 (ws.length : Int)) ∧ w' = w := by
  obtain ⟨g, cap, c0, _⟩ := h.reads
  clear h
  go_enter Tryz.func77, Tryz.ntmps77
  go_wp2
  go_ret
  exact ⟨rfl, rfl⟩
theorem ptat_nil (n : Int) (w : World) : Calls Tryz.prog 78 #[.pointer none, .int .i64 n] w fun e w' => e = .returned (.tuple #[.string ByteArray.empty, .bool false]) ∧ w' = w := by
  by_cases h : n < 0
  · go_enter Tryz.func78, Tryz.ntmps78
    go_wp2
    go_ret2
    exact ⟨rfl, rfl⟩
  · go_enter Tryz.func78, Tryz.ntmps78
    go_wp2_with fail
    refine (ptlen_nil w).mono ?_
    rintro e w' ⟨rfl, rfl⟩
    go_wp2
    go_ret2
    exact ⟨rfl, rfl⟩
theorem ptat_out {w : World} {b : Nat} {ws : List (List UInt8)} (h : IsSet w b ws) (n : Int) (hn : n < 0 ∨ (ws.length : Int) ≤ n) : Calls Tryz.prog 78 #[.pointer (some ⟨b, 0, none⟩), .int .i64 n] w fun e w' => e = .returned (.tuple #[.string ByteArray.empty, .bool false]) ∧ w' = w := by
  have HL := Lib.hid (ptlen_any h)
  clear h
  by_cases h0 : n < 0
  · clear hn
    go_enter Tryz.func78, Tryz.ntmps78
    go_wp2
    go_ret2
    exact ⟨rfl, rfl⟩
  · have h1 : (ws.length : Int) ≤ n := by omega
    clear hn
    go_enter Tryz.func78, Tryz.ntmps78
    go_wp2_with fail
    refine HL.out.mono ?_
    rintro e w' ⟨rfl, rfl⟩
    go_wp2
    go_ret2
    exact ⟨rfl, rfl⟩
theorem ptat_in {w : World} {b : Nat} {ws : List (List UInt8)} (h : IsSet w b ws) (k : Nat) (t : List UInt8) (ht : ws[k]? = some t) : Calls Tryz.prog 78 #[.pointer (some ⟨b, 0, none⟩), .int .i64 (k : Int)] w fun e w' => e = .returned (.tuple #[.string ⟨t.toArray⟩, .bool true]) ∧ w' = w := by
  have HL := Lib.hid (ptlen_any h)
  obtain ⟨g, cap, c0, _, _, _, hown⟩ := h.reads
  have hk := (List.getElem?_eq_some_iff.1 ht).1
  have hc := own_strs hown
  obtain ⟨b', off, e, t', ht', hcell⟩ := str_at hc (Below.refl _ _) k hk
  cases e
  obtain rfl : t' = t := Option.some.inj (ht'.symm.trans ht)
  rw [Nat.zero_add] at hcell
  have g0 : ¬ (k : Int) < 0 := by omega
  have g1 : (k : Int) < (ws.length : Int) := by omega
  have g2 : (0 : Int) ≤ (k : Int) := by omega
  clear h ht ht' hown hc
  go_enter Tryz.func78, Tryz.ntmps78
  go_wp2_with fail
  refine HL.out.mono ?_
  rintro e w' ⟨rfl, rfl⟩
  go_wp2
  go_ret2
  exact ⟨rfl, rfl⟩
end Go.Proofs.YtpblllpgmibkoaaGreat

namespace Go.Proofs.YtpblllpgmibkoaaGreat
open Go.RowKit


/-- The patterns of the set that texts make; none, if they make none. -/
def setL (ws : List (List UInt8)) : List (List UInt8) := if faultL ws = 0 then srt ws else []
theorem set_good {ws : List (List UInt8)} (h : faultL ws = 0) : setL ws = srt ws := if_pos h
theorem set_bad {ws : List (List UInt8)} (h : ¬ faultL ws = 0) : setL ws = [] := if_neg h
theorem set_length (ws : List (List UInt8)) : (setL ws).length ≤ ws.length := by
  unfold setL
  split
  · rw [srt_length]; exact Nat.le_refl _
  · exact Nat.zero_le _
theorem set_mem {ws : List (List UInt8)} {t : List UInt8} (h : t ∈ setL ws) : t ∈ ws ∧ 1 ≤ t.length ∧ t.length ≤ 65535 := by
  by_cases hf : faultL ws = 0
  · rw [set_good hf] at h
    have hm := (srt_perm ws).mem_iff.1 h
    exact ⟨hm, ((fault_zero ws).1 hf).each t hm⟩
  · rw [set_bad hf] at h; cases h
theorem set_asc (ws : List (List UInt8)) : Asc (setL ws) := by
  by_cases hf : faultL ws = 0
  · rw [set_good hf]; exact srt_asc ws
  · rw [set_bad hf]; exact List.Pairwise.nil

/-- A set behind a pointer, or none. -/
def IsPats (w : World) (p : Option Addr) (us : List (List UInt8)) : Prop := (p = none ∧ us = []) ∨ ∃ b, p = some ⟨b, 0, none⟩ ∧ IsSet w b us ∧ Pats us
theorem IsPats.below {w w' : World} {p : Option Addr} {us : List (List UInt8)} (h : IsPats w p us) (hb : Below w.heap.size w w') : IsPats w' p us :=
  h.elim .inl (fun ⟨b, h1, h2, h3⟩ => .inr ⟨b, h1, h2.below hb, h3⟩)

theorem IsPats.heap {w W : World} {p : Option Addr} {us : List (List UInt8)} (h : IsPats w p us) (e : W.heap = w.heap) : IsPats W p us := by
  unfold IsPats IsSet World.ownsRow at *
  rw [e]
  exact h

theorem ptlen_all {w : World} {p : Option Addr} {us : List (List UInt8)} (h : IsPats w p us) : Calls Tryz.prog 77 #[.pointer p] w fun e w' => e = .returned (.int .i64 (us.length : Int)) ∧ w' = w := by
  rcases h with ⟨rfl, rfl⟩ | ⟨b, rfl, h, _⟩
  · exact ptlen_nil w
  · exact ptlen_any h
theorem ptat_all {w : World} {p : Option Addr} {us : List (List UInt8)} (h : IsPats w p us) (k : Nat) (t : List UInt8) (ht : us[k]? = some t) : Calls Tryz.prog 78 #[.pointer p, .int .i64 (k : Int)] w fun e w' => e = .returned (.tuple #[.string ⟨t.toArray⟩, .bool true]) ∧ w' = w := by
  rcases h with ⟨rfl, rfl⟩ | ⟨b, rfl, h, _⟩
  · simp at ht
  · exact ptat_in h k t ht
end Go.Proofs.YtpblllpgmibkoaaGreat

namespace Go.Proofs.YtpblllpgmibkoaaGreat
open Go.RowKit

/-- Are they few, and short? -/
def fewB (ws : List (List UInt8)) (m n : Nat) : Bool := decide (ws.length ≤ m) && ws.all fun t => decide (t.length ≤ n)
theorem few_iff (ws : List (List UInt8)) (m n : Nat) : fewB ws m n = true ↔ ws.length ≤ m ∧ ∀ t ∈ ws, t.length ≤ n := by
  unfold fewB
  simp only [Bool.and_eq_true, decide_eq_true_eq, List.all_eq_true]
theorem few_no {ws : List (List UInt8)} {m n : Nat} (h : ¬ (ws.length ≤ m ∧ ∀ t ∈ ws, t.length ≤ n)) : fewB ws m n = false := by
  rw [Bool.eq_false_iff]
  exact fun e => h ((few_iff ws m n).1 e)
theorem mem_take_snoc {ws : List (List UInt8)} {k : Nat} {t x : List UInt8} (h : ws[k]? = some t) (hx : x ∈ ws.take (k + 1)) : x ∈ ws.take k ∨ x = t := by
  obtain ⟨hk, rfl⟩ := List.getElem?_eq_some_iff.1 h
  rw [List.take_succ_eq_append_getElem hk, List.mem_append, List.mem_singleton] at hx
  exact hx
theorem mem_take_last {ws : List (List UInt8)} {k : Nat} {t : List UInt8} (h : ws[k]? = some t) : t ∈ ws.take (k + 1) := by
  obtain ⟨hk, rfl⟩ := List.getElem?_eq_some_iff.1 h
  rw [List.take_succ_eq_append_getElem hk]
  exact List.mem_append_right _ (List.mem_singleton.2 rfl)

set_option maxHeartbeats 1000000 in
theorem few_any (a : Option Addr) (len cap : Nat) (ws : List (List UInt8)) (m n : Nat) (w : World) (hlen : len ≤ 9223372036854775807) (hm : m ≤ 1000000) (hn : n ≤ 1000000) (hr : IsStrs w a len ws) (ht : ∀ t ∈ ws, t.length ≤ 9223372036854775807) :
    Calls Tryz.prog 6 #[.slice a len cap, .int .i64 (m : Int), .int .i64 (n : Int)] w fun e w' => e = .returned (.bool (fewB ws m n)) ∧ w' = w := by
  have hwl := hr.1
  by_cases hbig : m < len
  · have HE : Hid (fewB ws m n = false) := Lib.hid (few_no (fun h => by omega))
    clear hr ht hwl
    go_enter Tryz.func6, Tryz.ntmps6
    go_wp2
    go_ret
    exact ⟨by rw [HE.out]; rfl, rfl⟩
  · have HT := Lib.hid ht
    clear ht
    go_enter Tryz.func6, Tryz.ntmps6
    go_wp2
    go_loop [7] (fun i => ∃ k : Nat, k ≤ len ∧ i = .int .i64 k ∧ Hid (∀ t ∈ ws.take k, t.length ≤ n)) (fun i => len - (RowKit.intOf i).toNat)
    case atStart => exact ⟨0, Nat.zero_le _, rfl, Lib.hid (by simp)⟩
    case round =>
      obtain ⟨k, hk, rfl, HK⟩ := hrel
      by_cases hlt : k < len
      · obtain ⟨b, off, rfl, t, hf, hc⟩ := str_at hr (Below.refl _ _) k hlt
        have htl := HT.out t (List.mem_of_getElem? hf)
        have HS := Lib.hid (bsize t)
        by_cases hq : n < t.length
        · have HE : Hid (fewB ws m n = false) := Lib.hid (few_no (fun h => by have := h.2 t (List.mem_of_getElem? hf); omega))
          clear hf HK hr
          go_wp2
          go_ret
          exact ⟨by rw [HE.out]; rfl, rfl⟩
        · have HN : Hid (∀ t ∈ ws.take (k + 1), t.length ≤ n) := Lib.hid (fun x hx => by
            rcases mem_take_snoc hf hx with h | rfl
            · exact HK.out x h
            · omega)
          clear hf HK hr
          go_wp2
          exact ⟨⟨k + 1, by omega, by go_num, HN⟩, by simp [RowKit.intOf]; omega⟩
      · obtain rfl : k = len := by omega
        have HE : Hid (fewB ws m n = true) := Lib.hid ((few_iff ws m n).2 ⟨by omega, by have := HK.out; rwa [List.take_of_length_le (by omega)] at this⟩)
        clear HK hr
        go_wp2
        go_ret
        exact ⟨by rw [HE.out]; rfl, rfl⟩

theorem few_not (a : Option Addr) (len cap : Nat) (ws : List (List UInt8)) (w : World) (hlen : len ≤ 9223372036854775807) (hr : IsStrs w a len ws) (ht : ∀ t ∈ ws, t.length ≤ 9223372036854775807) (hq : fewB ws 20 50 = false) :
    Calls Tryz.prog 6 #[.slice a len cap, .int .i64 20, .int .i64 50] w fun e w' => e = .returned (.bool false) ∧ w' = w := by
  have := few_any a len cap ws 20 50 w hlen (by omega) (by omega) hr ht
  rw [hq] at this
  exact this
theorem few_yes (a : Option Addr) (len cap : Nat) (ws : List (List UInt8)) (w : World) (hlen : len ≤ 9223372036854775807) (hr : IsStrs w a len ws) (ht : ∀ t ∈ ws, t.length ≤ 9223372036854775807) (hq : fewB ws 20 50 = true) :
    Calls Tryz.prog 6 #[.slice a len cap, .int .i64 20, .int .i64 50] w fun e w' => e = .returned (.bool true) ∧ w' = w := by
  have := few_any a len cap ws 20 50 w hlen (by omega) (by omega) hr ht
  rw [hq] at this
  exact this

end Go.Proofs.YtpblllpgmibkoaaGreat

namespace Go.Proofs.YtpblllpgmibkoaaGreat

theorem few_set {ws : List (List UInt8)} (hq : fewB ws 20 50 = true) : (setL ws).length ≤ 20 ∧ ∀ t ∈ setL ws, t.length ≤ 50 := by
  have hfw := (few_iff ws 20 50).1 hq
  refine ⟨Nat.le_trans (set_length ws) hfw.1, fun t h => hfw.2 t (set_mem h).1⟩
theorem few_setN {ws : List (List UInt8)} {m n : Nat} (hq : fewB ws m n = true) : (setL ws).length ≤ m ∧ ∀ t ∈ setL ws, t.length ≤ n := by
  have hfw := (few_iff ws m n).1 hq
  refine ⟨Nat.le_trans (set_length ws) hfw.1, fun t h => hfw.2 t (set_mem h).1⟩
end Go.Proofs.YtpblllpgmibkoaaGreat

namespace Go.Proofs.YtpblllpgmibkoaaGreat
open Go.RowKit

theorem strs_heap_of {w W : World} {a : Option Addr} {len : Nat} {ws : List (List UInt8)} (h : IsStrs w a len ws) (e : W.heap = w.heap) : IsStrs W a len ws := by
  unfold IsStrs World.cell? at *
  rw [e]
  exact h
theorem few_noN (a : Option Addr) (len cap : Nat) (ws : List (List UInt8)) (w : World) (hlen : len ≤ 9223372036854775807) (hr : IsStrs w a len ws) (ht : ∀ t ∈ ws, t.length ≤ 9223372036854775807) (β : Bool) (hq : fewB ws 12 20 = β) :
    Calls Tryz.prog 6 #[.slice a len cap, .int .i64 12, .int .i64 20] w fun e w' => e = .returned (.bool β) ∧ w' = w := by
  have := few_any a len cap ws 12 20 w hlen (by omega) (by omega) hr ht
  rw [hq] at this
  exact this
end Go.Proofs.YtpblllpgmibkoaaGreat

namespace Go.Proofs.YtpblllpgmibkoaaGreat
open Go.RowKit

/-- The five cells of a state. -/
def rcOne (r : Rc) : List Value := [.int .i32 (r.first : Int), .int .i32 (r.above : Int), .int .i32 (r.below : Int), .int .u16 (r.depth : Int), .int .u8 (r.last.toNat : Int)]
def rcCells (rs : List Rc) : List Value := rs.flatMap rcOne
theorem rc_cons (r : Rc) (rs : List Rc) : rcCells (r :: rs) = rcOne r ++ rcCells rs := rfl
theorem rc_snoc (rs : List Rc) (r : Rc) : rcCells (rs ++ [r]) = rcCells rs ++ rcOne r := by simp [rcCells]
theorem rcOne_length (r : Rc) : (rcOne r).length = 5 := rfl
theorem rcCells_length : ∀ rs : List Rc, (rcCells rs).length = rs.length * 5
  | [] => rfl
  | r :: rs => by rw [rc_cons, List.length_append, rcCells_length rs, List.length_cons, rcOne_length]; omega
theorem rcCells_at : ∀ (rs : List Rc) (i j : Nat) {r : Rc}, rs[i]? = some r → j < 5 → (rcCells rs)[i * 5 + j]? = (rcOne r)[j]?
  | q :: rs, 0, j, r, h, hj => by
    simp at h; subst h
    rw [rc_cons, List.getElem?_append_left (by rw [rcOne_length]; omega)]; congr 1; omega
  | q :: rs, i + 1, j, r, h, hj => by
    rw [rc_cons, List.getElem?_append_right (by rw [rcOne_length]; omega), rcOne_length, show (i + 1) * 5 + j - 5 = i * 5 + j by omega]
    exact rcCells_at rs i j (by simpa using h) hj
theorem rc_set : ∀ (rs : List Rc) (i : Nat) {r : Rc} (b : Nat), rs[i]? = some r → (rcCells rs).set (i * 5 + 2) (.int .i32 (b : Int)) = rcCells (rs.set i { r with below := b })
  | q :: rs, 0, r, b, h => by simp at h; subst h; rfl
  | q :: rs, i + 1, r, b, h => by
    rw [rc_cons, List.set_cons_succ, rc_cons, ← rc_set rs i b (by simpa using h), List.set_append_right _ _ (by rw [rcOne_length]; omega), rcOne_length, show (i + 1) * 5 + 2 - 5 = i * 5 + 2 by omega]
theorem rc_one {r : Rc} : ∀ u ∈ rcOne r, u.oneCell' = true := by
  intro u hu
  simp [rcOne] at hu
  rcases hu with rfl | rfl | rfl | rfl | rfl <;> rfl
theorem rc_info : (Tryz.prog.info? 112).map (fun i => (i.zero, i.size, i.bytes)) = some (some (.agg #[.int .i32 0, .int .i32 0, .int .i32 0, .int .u16 0, .int .u8 0]), 5, 16) := by kernel_rfl

/-- A state's cells lie there. -/
structure RcAt (w : World) (b o : Nat) (r : Rc) : Prop where
  c0 : w.cell? ⟨b, o, none⟩ = some (.int .i32 (r.first : Int))
  c1 : w.cell? ⟨b, o + 1, none⟩ = some (.int .i32 (r.above : Int))
  c2 : w.cell? ⟨b, o + 2, none⟩ = some (.int .i32 (r.below : Int))
  c3 : w.cell? ⟨b, o + 3, none⟩ = some (.int .u16 (r.depth : Int))
  c4 : w.cell? ⟨b, o + 4, none⟩ = some (.int .u8 (r.last.toNat : Int))
theorem RcAt.below {w w' : World} {b o : Nat} {r : Rc} (h : RcAt w b o r) (hb : Below w.heap.size w w') : RcAt w' b o r := by
  have hlt := World.block_lt_of_cell? w _ h.c0
  have g : ∀ k v, w.cell? ⟨b, k, none⟩ = some v → w'.cell? ⟨b, k, none⟩ = some v := fun k v hk => (hb.cell (p := ⟨b, k, none⟩) hlt).trans hk
  exact ⟨g _ _ h.c0, g _ _ h.c1, g _ _ h.c2, g _ _ h.c3, g _ _ h.c4⟩

/-- A slice that holds these states. -/
def IsRcs (w : World) (a : Option Addr) (len : Nat) (rs : List Rc) : Prop :=
  rs.length = len ∧ (len = 0 ∨ ∃ b off, a = some ⟨b, off, none⟩ ∧ ∀ (i : Nat) r, rs[i]? = some r → RcAt w b (off + i * 5) r)
theorem IsRcs.below {w w' : World} {a : Option Addr} {len : Nat} {rs : List Rc} (h : IsRcs w a len rs) (hb : Below w.heap.size w w') : IsRcs w' a len rs := by
  obtain ⟨hl, h⟩ := h
  refine ⟨hl, ?_⟩
  rcases h with h | ⟨b, off, ha, hc⟩
  · exact .inl h
  · exact .inr ⟨b, off, ha, fun i r hi => (hc i r hi).below hb⟩

/-- A trie lies in block b: of the set behind p, with these states. What it owns lies from 'base' on. -/
def IsTr (w : World) (base b : Nat) (p : Option Addr) (R : List Rc) : Prop :=
  ∃ g cap, w.heap[b]? = some (.cells #[.pointer p, .slice (some ⟨g, 0, none⟩) R.length cap] 131 (0, 0)) ∧ base ≤ b ∧
    w.ownsRow base 112 5 (.slice (some ⟨g, 0, none⟩) R.length cap) R.length (rcCells R) ∧ (∀ r ∈ R, r.Fit) ∧ R.length ≤ 2147483647
theorem IsTr.lt {w : World} {base b : Nat} {p : Option Addr} {R : List Rc} (h : IsTr w base b p R) : b < w.heap.size := by
  obtain ⟨g, cap, h1, _⟩ := h
  exact heap_lt h1
theorem IsTr.below {w w' : World} {base b : Nat} {p : Option Addr} {R : List Rc} (h : IsTr w base b p R) (hb : Below w.heap.size w w') : IsTr w' base b p R := by
  obtain ⟨g, cap, h1, h2, h3, h4⟩ := h
  exact ⟨g, cap, (hb.block b (heap_lt h1)).trans h1, h2, tx_below h3 hb, h4⟩
theorem IsTr.heap {w W : World} {base b : Nat} {p : Option Addr} {R : List Rc} (h : IsTr w base b p R) (e : W.heap = w.heap) : IsTr W base b p R := by
  unfold IsTr World.ownsRow at *
  rw [e]; exact h
theorem own_less {w : World} {base base' : Nat} {e : TypeId} {size : Nat} {v : Value} {n : Nat} {xs : List Value} (h : w.ownsRow base e size v n xs) (hb : base' ≤ base) : w.ownsRow base' e size v n xs := by
  obtain ⟨h1, h2⟩ := h
  refine ⟨h1, h2.imp id ?_⟩
  rintro ⟨g, cap, cur, hv, hg, r⟩
  exact ⟨g, cap, cur, hv, by omega, r⟩
theorem IsTr.less {w : World} {base base' b : Nat} {p : Option Addr} {R : List Rc} (h : IsTr w base b p R) (hb : base' ≤ base) : IsTr w base' b p R := by
  obtain ⟨g, cap, h1, h2, h3, h4⟩ := h
  exact ⟨g, cap, h1, by omega, own_less h3 hb, h4⟩
theorem own_rcs {w : World} {base g n cap : Nat} {R : List Rc} (h : w.ownsRow base 112 5 (.slice (some ⟨g, 0, none⟩) n cap) n (rcCells R)) {i : Nat} {r : Rc} (hi : R[i]? = some r) : RcAt w g (i * 5) r := by
  have hc := h.cells (g := g) rfl
  have c : ∀ j v, j < 5 → (rcOne r)[j]? = some v → w.cell? ⟨g, i * 5 + j, none⟩ = some v := fun j v hj hv => by
    have := hc (i * 5 + j) v (by rw [rcCells_at R i j hi hj]; exact hv)
    rwa [addPlain, Nat.zero_add] at this
  exact ⟨c 0 _ (by omega) rfl, c 1 _ (by omega) rfl, c 2 _ (by omega) rfl, c 3 _ (by omega) rfl, c 4 _ (by omega) rfl⟩
/-- What is read of a trie. -/
theorem IsTr.reads {w : World} {base b : Nat} {p : Option Addr} {R : List Rc} (h : IsTr w base b p R) : ∃ g cap, w.cell? ⟨b, 0, none⟩ = some (.pointer p) ∧ w.cell? ⟨b, 1, none⟩ = some (.slice (some ⟨g, 0, none⟩) R.length cap) ∧
    R.length ≤ cap ∧ cap ≤ maxLen ∧ g < w.heap.size ∧ ∀ (i : Nat) r, R[i]? = some r → RcAt w g (i * 5) r := by
  obtain ⟨g, cap, h1, h2, h3, h4⟩ := h
  have h5 := h3
  obtain ⟨_, ⟨he, _⟩ | ⟨g', cap', cur, he, _, hg, hc, hm, _⟩⟩ := h3
  · cases he
  · cases he
    exact ⟨g, cap, by rw [Lib.cell_of_heap h1]; rfl, by rw [Lib.cell_of_heap h1]; rfl, hc, hm, heap_lt hg, fun i r hi => own_rcs h5 hi⟩
theorem IsTr.fit {w : World} {base b : Nat} {p : Option Addr} {R : List Rc} (h : IsTr w base b p R) {i : Nat} {r : Rc} (hi : R[i]? = some r) : r.Fit := by
  obtain ⟨g, cap, _, _, _, h4, _⟩ := h
  exact h4 r (List.mem_of_getElem? hi)
theorem IsTr.few {w : World} {base b : Nat} {p : Option Addr} {R : List Rc} (h : IsTr w base b p R) : R.length ≤ 2147483647 := by
  obtain ⟨g, cap, _, _, _, _, h5⟩ := h
  exact h5

/-- A trie behind a pointer, or none: then it has no states. -/
def HasTr (w : World) (q : Option Addr) (p : Option Addr) (R : List Rc) : Prop := (q = none ∧ R = []) ∨ ∃ base b, q = some ⟨b, 0, none⟩ ∧ IsTr w base b p R
theorem HasTr.below {w w' : World} {q p : Option Addr} {R : List Rc} (h : HasTr w q p R) (hb : Below w.heap.size w w') : HasTr w' q p R :=
  h.elim .inl (fun ⟨base, b, h1, h2⟩ => .inr ⟨base, b, h1, h2.below hb⟩)
theorem HasTr.heap {w W : World} {q p : Option Addr} {R : List Rc} (h : HasTr w q p R) (e : W.heap = w.heap) : HasTr W q p R :=
  h.elim .inl (fun ⟨base, b, h1, h2⟩ => .inr ⟨base, b, h1, h2.heap e⟩)
theorem HasTr.few {w : World} {q p : Option Addr} {R : List Rc} (h : HasTr w q p R) : R.length ≤ 2147483647 := by
  rcases h with ⟨_, rfl⟩ | ⟨_, _, _, h⟩
  · simp
  · exact h.few
theorem HasTr.some {w : World} {q p : Option Addr} {R : List Rc} (h : HasTr w q p R) {k : Nat} (hk : k < R.length) : ∃ base b, q = some ⟨b, 0, none⟩ ∧ IsTr w base b p R := by
  rcases h with ⟨_, rfl⟩ | h
  · simp at hk
  · exact h
end Go.Proofs.YtpblllpgmibkoaaGreat

namespace Go.Proofs.YtpblllpgmibkoaaGreat
open Go.RowKit

theorem trlen_any {w : World} {q p : Option Addr} {R : List Rc} (h : HasTr w q p R) : Calls Tryz.prog 56 #[.pointer q] w fun e w' => e = .returned (.int .i64 (R.length : Int)) ∧ w' = w := by
  rcases h with ⟨rfl, rfl⟩ | ⟨base, b, rfl, h⟩
  · go_enter Tryz.func56, Tryz.ntmps56
    go_wp2
    go_ret
    exact ⟨rfl, rfl⟩
  · obtain ⟨g, cap, _, c1, _⟩ := h.reads
    clear h
    go_enter Tryz.func56, Tryz.ntmps56
    go_wp2
    go_ret
    exact ⟨rfl, rfl⟩
theorem tris_in {w : World} {q p : Option Addr} {R : List Rc} (h : HasTr w q p R) (k : Nat) (hk : k < R.length) : Calls Tryz.prog 88 #[.pointer q, .int .i64 (k : Int)] w fun e w' => e = .returned (.bool true) ∧ w' = w := by
  have HL := Lib.hid (trlen_any h)
  have g0 : (0 : Int) ≤ (k : Int) := by omega
  have g1 : (k : Int) < (R.length : Int) := by omega
  clear h
  go_enter Tryz.func88, Tryz.ntmps88
  go_wp2_with fail
  refine HL.out.mono ?_
  rintro e w' ⟨rfl, rfl⟩
  go_wp2
  go_ret
  exact ⟨rfl, rfl⟩
theorem tris_out {w : World} {q p : Option Addr} {R : List Rc} (h : HasTr w q p R) (s : Int) (hs : s < 0 ∨ (R.length : Int) ≤ s) : Calls Tryz.prog 88 #[.pointer q, .int .i64 s] w fun e w' => e = .returned (.bool false) ∧ w' = w := by
  have HL := Lib.hid (trlen_any h)
  clear h
  by_cases h0 : s < 0
  · have g0 : ¬ (0 : Int) ≤ s := by omega
    clear hs
    go_enter Tryz.func88, Tryz.ntmps88
    go_wp2
    go_ret
    exact ⟨rfl, rfl⟩
  · have g0 : (0 : Int) ≤ s := by omega
    have g1 : ¬ s < (R.length : Int) := by omega
    have g2 : decide (s < (R.length : Int)) = false := decide_eq_false g1
    clear hs
    go_enter Tryz.func88, Tryz.ntmps88
    go_wp2_with fail
    refine HL.out.mono ?_
    rintro e w' ⟨rfl, rfl⟩
    go_wp2
    go_ret
    exact ⟨rfl, rfl⟩

/-- A state's value. -/
def rcV (r : Rc) : Value := .agg #[.int .i32 (r.first : Int), .int .i32 (r.above : Int), .int .i32 (r.below : Int), .int .u16 (r.depth : Int), .int .u8 (r.last.toNat : Int)]
theorem RcAt.alloc {w : World} {b o : Nat} {r : Rc} (h : RcAt w b o r) (x : Obj) : RcAt (w.alloc x) b o r := h.below ((Below.refl _ _).alloc (Nat.le_refl _) x)

set_option maxHeartbeats 1000000 in
theorem trof_in {w : World} {q p : Option Addr} {R : List Rc} (h : HasTr w q p R) (k : Nat) (r : Rc) (hr : R[k]? = some r) : Calls Tryz.prog 61 #[.pointer q, .int .i64 (k : Int)] w fun e w' => e = .returned (rcV r) ∧ Below w.heap.size w w' := by
  have hk := (List.getElem?_eq_some_iff.1 hr).1
  have HS := Lib.hid (fun o => tris_in (h.below ((Below.refl _ _).alloc (Nat.le_refl _) o)) k hk)
  obtain ⟨base, b, rfl, ht⟩ := h.some hk
  obtain ⟨g, cap, _, c1, hcap, _, hg, hat⟩ := ht.reads
  have ha := hat k r hr
  have d1 : ∀ o, (w.alloc o).cell? ⟨b, 1, none⟩ = some (.slice (some ⟨g, 0, none⟩) R.length cap) := fun o => by rw [World.cell?_alloc_lt _ _ _ ht.lt]; exact c1
  have e0 := fun o => (ha.alloc o).c0
  have e1 := fun o => (ha.alloc o).c1
  have e2 := fun o => (ha.alloc o).c2
  have e3 := fun o => (ha.alloc o).c3
  have e4 := fun o => (ha.alloc o).c4
  have g0 : (0 : Int) ≤ (k : Int) := by omega
  have g1 : (k : Int) < (R.length : Int) := by omega
  clear h ht hat ha hr c1
  go_enter Tryz.func61, Tryz.ntmps61
  go_wp2_with fail
  refine (HS.out _).mono ?_
  rintro e w' ⟨rfl, rfl⟩
  go_wp2
  refine bodyPost_ret (v := rcV r) (by simp [results, Tryz.results61, go_sem, rcV]) rfl ?_
  exact ⟨rfl, (Below.refl _ _).alloc (Nat.le_refl _) _⟩
/-- Nothing of a state. -/
def rcZ : Rc := ⟨0, 0, 0, 0, 0⟩
set_option maxHeartbeats 1000000 in
theorem trof_out {w : World} {q p : Option Addr} {R : List Rc} (h : HasTr w q p R) (s : Int) (hs : s < 0 ∨ (R.length : Int) ≤ s) : Calls Tryz.prog 61 #[.pointer q, .int .i64 s] w fun e w' => e = .returned (rcV rcZ) ∧ Below w.heap.size w w' := by
  have HS := Lib.hid (fun o => tris_out (h.below ((Below.refl _ _).alloc (Nat.le_refl _) o)) s hs)
  clear h hs
  go_enter Tryz.func61, Tryz.ntmps61
  go_wp2_with fail
  refine (HS.out _).mono ?_
  rintro e w' ⟨rfl, rfl⟩
  go_wp2
  refine bodyPost_ret (v := rcV rcZ) (by simp [results, Tryz.results61, go_sem, rcV, rcZ]) rfl ?_
  exact ⟨rfl, (Below.refl _ _).alloc (Nat.le_refl _) _⟩
/-- What is known of any number: of a state's, and of one that is none. -/
def rcOf (R : List Rc) (s : Int) : Rc := if 0 ≤ s then R.getD s.toNat rcZ else rcZ
theorem rcOf_in {R : List Rc} {k : Nat} {r : Rc} (h : R[k]? = some r) : rcOf R k = r := by
  unfold rcOf
  rw [if_pos (by omega), Int.toNat_natCast, List.getD_eq_getElem?_getD, h]; rfl
theorem rcOf_out {R : List Rc} {s : Int} (h : s < 0 ∨ (R.length : Int) ≤ s) : rcOf R s = rcZ := by
  unfold rcOf
  split
  · rw [List.getD_eq_getElem?_getD, List.getElem?_eq_none (by omega)]; rfl
  · rfl
theorem in_out (R : List Rc) (s : Int) : (∃ k : Nat, s = k ∧ ∃ r, R[k]? = some r) ∨ (s < 0 ∨ (R.length : Int) ≤ s) := by
  by_cases h : s < 0 ∨ (R.length : Int) ≤ s
  · exact .inr h
  · refine .inl ⟨s.toNat, by omega, ?_⟩
    have hk : s.toNat < R.length := by omega
    exact ⟨R[s.toNat], List.getElem?_eq_getElem hk⟩
theorem trof_any {w : World} {q p : Option Addr} {R : List Rc} (h : HasTr w q p R) (s : Int) : Calls Tryz.prog 61 #[.pointer q, .int .i64 s] w fun e w' => e = .returned (rcV (rcOf R s)) ∧ Below w.heap.size w w' := by
  rcases in_out R s with ⟨k, rfl, r, hr⟩ | hs
  · rw [rcOf_in hr]; exact trof_in h k r hr
  · rw [rcOf_out hs]; exact trof_out h s hs
theorem rcOf_fit {w : World} {q p : Option Addr} {R : List Rc} (h : HasTr w q p R) (s : Int) : (rcOf R s).Fit := by
  rcases in_out R s with ⟨k, rfl, r, hr⟩ | hs
  · rw [rcOf_in hr]
    obtain ⟨base, b, rfl, ht⟩ := h.some (List.getElem?_eq_some_iff.1 hr).1
    exact ht.fit hr
  · rw [rcOf_out hs]; unfold Rc.Fit rcZ; simp
theorem rcfield_depth (a b c d e : Value) (w : World) : (Instr.field 112 (.agg #[a, b, c, d, e]) 3).run Tryz.prog w = .ok d w := by
  simp [Instr.field, go_sem, part, asAgg, Tryz.underlying112, isAgg, Tryz.underlying110]

set_option maxHeartbeats 1000000 in
theorem trdepth_any {w : World} {q p : Option Addr} {R : List Rc} (h : HasTr w q p R) (s : Int) : Calls Tryz.prog 34 #[.pointer q, .int .i64 s] w fun e w' => e = .returned (.int .i64 ((rcOf R s).depth : Int)) ∧ Below w.heap.size w w' := by
  have HO := Lib.hid (trof_any h s)
  have hf := rcOf_fit h s
  generalize rcOf R s = r at *
  have hd := hf.2.2.2
  have F := rcfield_depth (.int .i32 (r.first : Int)) (.int .i32 (r.above : Int)) (.int .i32 (r.below : Int)) (.int .u16 (r.depth : Int)) (.int .u8 (r.last.toNat : Int))
  clear h hf
  go_enter Tryz.func34, Tryz.ntmps34
  go_wp2_with fail
  refine HO.out.mono ?_
  rintro e w' ⟨rfl, hb⟩
  unfold rcV
  go_wp2
  go_ret
  exact ⟨rfl, hb⟩
set_option maxHeartbeats 1000000 in
theorem trabove_any {w : World} {q p : Option Addr} {R : List Rc} (h : HasTr w q p R) (s : Int) : Calls Tryz.prog 84 #[.pointer q, .int .i64 s] w fun e w' =>
    e = .returned (.tuple #[.int .i64 ((rcOf R s).above : Int), .int .u8 ((rcOf R s).last.toNat : Int), .bool (decide (0 < (rcOf R s).depth))]) ∧ Below w.heap.size w w' := by
  have HO := Lib.hid (trof_any h s)
  have hf := rcOf_fit h s
  generalize rcOf R s = r at *
  obtain ⟨_, hd, _, _⟩ := hf
  have hw : IntKind.i64.wrap (r.above : Int) = (r.above : Int) := by rw [IntKind.wrap_i64]; omega
  clear h
  go_enter Tryz.func84, Tryz.ntmps84
  go_wp2_with fail
  refine HO.out.mono ?_
  rintro e w' ⟨rfl, hb⟩
  unfold rcV
  go_wp2_with fail
  go_quiet (fail)
  go_wp2
  refine bodyPost_ret (v := .tuple #[.int .i64 (r.above : Int), .int .u8 (r.last.toNat : Int), .bool (decide (0 < r.depth))]) (by simp [results, Tryz.results84, go_sem]) rfl ?_
  exact ⟨rfl, below_drewS (hb.alloc hb.size _) nq⟩
end Go.Proofs.YtpblllpgmibkoaaGreat

namespace Go.Proofs.YtpblllpgmibkoaaGreat
open Go.RowKit

/-- A pattern by any number. -/
theorem ptat_pats {w : World} {p : Option Addr} {us : List (List UInt8)} (h : IsPats w p us) (k : Nat) : Calls Tryz.prog 78 #[.pointer p, .int .i64 (k : Int)] w fun e w' =>
    e = .returned (.tuple #[.string ⟨(us.getD k []).toArray⟩, .bool (decide (k < us.length))]) ∧ w' = w := by
  by_cases hk : k < us.length
  · have e : us[k]? = some (us.getD k []) := by rw [List.getD_eq_getElem?_getD, List.getElem?_eq_getElem hk]; rfl
    rw [decide_eq_true hk]
    exact ptat_all h k _ e
  · have e : us.getD k [] = [] := by rw [List.getD_eq_getElem?_getD, List.getElem?_eq_none (by omega)]; rfl
    rw [decide_eq_false hk, e]
    rcases h with ⟨rfl, _⟩ | ⟨b, rfl, h, _⟩
    · exact ptat_nil _ w
    · exact ptat_out h _ (.inr (by omega))

/-- Is the first pattern of a state it? -/
def EndR (us : List (List UInt8)) (r : Rc) : Prop := r.first < us.length ∧ (us.getD r.first []).length = r.depth
set_option maxHeartbeats 1000000 in
theorem trends_out {w : World} {q p : Option Addr} {R : List Rc} (h : HasTr w q p R) (s : Int) (hs : s < 0 ∨ (R.length : Int) ≤ s) : Calls Tryz.prog 86 #[.pointer q, .int .i64 s] w fun e w' => e = .returned (.tuple #[.int .i64 0, .bool false]) ∧ w' = w := by
  have HS := Lib.hid (tris_out h s hs)
  clear h hs
  go_enter Tryz.func86, Tryz.ntmps86
  go_wp2_with fail
  refine HS.out.mono ?_
  rintro e w' ⟨rfl, rfl⟩
  go_wp2
  go_ret2
  exact ⟨rfl, rfl⟩
set_option maxHeartbeats 2000000 in
theorem trends_in {w : World} {q p : Option Addr} {R : List Rc} {us : List (List UInt8)} (h : HasTr w q p R) (hp : IsPats w p us) (k : Nat) (r : Rc) (hr : R[k]? = some r) (hl : us.length ≤ 1000000) :
    Calls Tryz.prog 86 #[.pointer q, .int .i64 (k : Int)] w fun e w' => ((EndR us r → e = .returned (.tuple #[.int .i64 (r.first : Int), .bool true])) ∧ (¬ EndR us r → e = .returned (.tuple #[.int .i64 0, .bool false]))) ∧ Below w.heap.size w w' := by
  have hk := (List.getElem?_eq_some_iff.1 hr).1
  have HS := Lib.hid (tris_in h k hk)
  obtain ⟨base, b, rfl, ht⟩ := h.some hk
  obtain ⟨g, cap, c0, c1, hcap, _, hg, hat⟩ := ht.reads
  have ha := hat k r hr
  obtain ⟨e0, e1, e2, e3, e4⟩ := ha
  obtain ⟨f1, _, _, f4⟩ := ht.fit hr
  have HP := Lib.hid (fun W (hW : Below w.heap.size w W) => ptat_pats (hp.below hW) r.first)
  have d0 : ∀ o, (w.alloc o).cell? ⟨b, 0, none⟩ = some (.pointer p) := fun o => by rw [World.cell?_alloc_lt _ _ _ ht.lt]; exact c0
  have g0 : (0 : Int) ≤ (k : Int) := by omega
  have g1 : (k : Int) < (R.length : Int) := by omega
  have hw : IntKind.i64.wrap (r.first : Int) = (r.first : Int) := by rw [IntKind.wrap_i64]; omega
  have hw2 : IntKind.i64.wrap (r.depth : Int) = (r.depth : Int) := by rw [IntKind.wrap_i64]; omega
  have hS := Lib.hid (bsize (us.getD r.first []))
  unfold EndR
  generalize us.getD r.first [] = t at *
  generalize us.length = n at *
  clear h ht hat hr hp
  by_cases hn : r.first < n
  · rw [decide_eq_true hn] at HP
    by_cases hq : t.length = r.depth
    · go_enter Tryz.func86, Tryz.ntmps86
      go_wp2_with fail
      refine HS.out.mono ?_
      rintro e w' ⟨rfl, rfl⟩
      go_wp2_with fail
      go_quiet (first | with_reducible exact Calls.quiet_of_same (HP.out _ (below_drewS ((Below.refl _ _).alloc (Nat.le_refl _) _) _)))
      go_wp2
      go_ret2
      exact ⟨⟨fun _ => rfl, fun hh => absurd ⟨hn, hq⟩ hh⟩, below_drewS ((Below.refl _ _).alloc (Nat.le_refl _) _) _⟩
    · have hq2 : ¬ (t.length : Int) = (r.depth : Int) := by omega
      go_enter Tryz.func86, Tryz.ntmps86
      go_wp2_with fail
      refine HS.out.mono ?_
      rintro e w' ⟨rfl, rfl⟩
      go_wp2_with fail
      go_quiet (first | with_reducible exact Calls.quiet_of_same (HP.out _ (below_drewS ((Below.refl _ _).alloc (Nat.le_refl _) _) _)))
      go_wp2
      go_ret2
      exact ⟨⟨fun hh => absurd hh.2 hq, fun _ => rfl⟩, below_drewS ((Below.refl _ _).alloc (Nat.le_refl _) _) _⟩
  · rw [decide_eq_false hn] at HP
    go_enter Tryz.func86, Tryz.ntmps86
    go_wp2_with fail
    refine HS.out.mono ?_
    rintro e w' ⟨rfl, rfl⟩
    go_wp2_with fail
    go_quiet (first | with_reducible exact Calls.quiet_of_same (HP.out _ (below_drewS ((Below.refl _ _).alloc (Nat.le_refl _) _) _)))
    go_wp2
    go_ret2
    exact ⟨⟨fun hh => absurd hh.1 hn, fun _ => rfl⟩, below_drewS ((Below.refl _ _).alloc (Nat.le_refl _) _) _⟩

set_option maxHeartbeats 1000000 in
theorem trbyte_any {w : World} {base b : Nat} {p : Option Addr} {R : List Rc} {us : List (List UInt8)} (h : IsTr w base b p R) (hp : IsPats w p us) (k j : Nat) {t : List UInt8} {c : UInt8} (ht : us[k]? = some t) (hc : t[j]? = some c) :
    Calls Tryz.prog 110 #[.pointer (some ⟨b, 0, none⟩), .int .i64 (k : Int), .int .i64 (j : Int)] w fun e w' => e = .returned (.int .u8 (c.toNat : Int)) ∧ w' = w := by
  have HP := Lib.hid (ptat_all hp k t ht)
  obtain ⟨g, cap, c0, c1, _⟩ := h.reads
  obtain ⟨hj, rfl⟩ := List.getElem?_eq_some_iff.1 hc
  have hS := Lib.hid (bsize t)
  have hb := byteAt t j hj (by rw [bsize]; exact hj)
  have g0 : (0 : Int) ≤ (j : Int) := by omega
  have g1 : (j : Int) < (t.length : Int) := by omega
  clear h hp ht hc
  go_enter Tryz.func110, Tryz.ntmps110
  go_wp2_with fail
  refine HP.out.mono ?_
  rintro e w' ⟨rfl, rfl⟩
  go_wp2
  go_ret
  exact ⟨rfl, rfl⟩
end Go.Proofs.YtpblllpgmibkoaaGreat

namespace Go.Proofs.YtpblllpgmibkoaaGreat
open Go.RowKit

/-- A number that is none too great, after some draws. -/
def RetAl (m : Nat) (w : World) (e : Ending) (w' : World) : Prop := ∃ n q : Nat, e = .returned (.int .i64 (n : Int)) ∧ n ≤ m ∧ w' = w.drewN q
theorem trdrew_all (w : World) (n m : Nat) : (w.drewN n).drewN m = w.drewN (n + m) := by simp [World.drewN, Nat.add_assoc]

set_option maxHeartbeats 1000000 in
theorem tralike_any (a b : List UInt8) (w : World) (ha : a.length ≤ 1000000000) (hb : b.length ≤ 1000000000) :
    Calls Tryz.prog 109 #[.string ⟨a.toArray⟩, .string ⟨b.toArray⟩] w (RetAl b.length w) := by
  have S1 := Lib.hid (bsize a)
  have S2 := Lib.hid (bsize b)
  obtain ⟨m, hm, hma, hmb⟩ : ∃ m : Nat, min (a.length : Int) (b.length : Int) = (m : Int) ∧ m ≤ a.length ∧ m ≤ b.length := ⟨min a.length b.length, by omega, by omega, by omega⟩
  go_enter Tryz.func109, Tryz.ntmps109
  go_wp2
  go_loopw [5] (fun i wr => ∃ k : Nat, k ≤ m ∧ i = .int .i64 k ∧ ∃ q, wr = w.drewN q) (fun i _ => m - (RowKit.intOf i).toNat)
  case atStart => exact ⟨0, Nat.zero_le _, rfl, 0, rfl⟩
  case round =>
    obtain ⟨k, hk, rfl, q, rfl⟩ := hrel
    by_cases hlt : k < m
    · have g1 : (k : Int) < (m : Int) := by omega
      have g2 : k < a.length := by omega
      have g3 : k < b.length := by omega
      have hza : k < (⟨a.toArray⟩ : ByteArray).size := by rw [bsize]; omega
      have hzb : k < (⟨b.toArray⟩ : ByteArray).size := by rw [bsize]; omega
      have HA := byteAt a k (by omega) hza
      have HB := byteAt b k (by omega) hzb
      by_cases hc : a[k] = b[k]
      · have hq : (((((⟨a.toArray⟩ : ByteArray)[k]'hza).toNat : Int)) = ((((⟨b.toArray⟩ : ByteArray)[k]'hzb).toNat : Int))) := by rw [HA, HB, hc]
        clear HA HB hc
        go_wp2_with fail
        go_quiet (fail)
        go_wp2
        exact ⟨⟨k + 1, by omega, by go_num, _, rfl⟩, by simp [RowKit.intOf]; omega⟩
      · have hq : ¬ (((((⟨a.toArray⟩ : ByteArray)[k]'hza).toNat : Int)) = ((((⟨b.toArray⟩ : ByteArray)[k]'hzb).toNat : Int))) := by
          rw [HA, HB]
          exact fun e => hc (UInt8.toNat_inj.1 (by omega))
        clear HA HB hc
        go_wp2_with fail
        go_quiet (fail)
        go_wp2
        go_ret
        exact ⟨k, _, rfl, by omega, trdrew_all _ _ _⟩
    · obtain rfl : k = m := by omega
      have g1 : ¬ (k : Int) < (k : Int) := by omega
      go_wp2_with fail
      go_quiet (fail)
      go_wp2
      go_ret
      exact ⟨k, _, rfl, by omega, trdrew_all _ _ _⟩

theorem pats_each {w : World} {p : Option Addr} {us : List (List UInt8)} (h : IsPats w p us) : (∀ t ∈ us, t.length ≤ 65535) ∧ us.length ≤ 65535 ∧ totalL us ≤ 16777216 := by
  rcases h with ⟨_, rfl⟩ | ⟨b, _, _, h⟩
  · simp [totalL]
  · exact ⟨fun t ht => (h.each t ht).2, h.few, h.total⟩

set_option maxHeartbeats 1000000 in
theorem trcount_any {w : World} {p : Option Addr} {us : List (List UInt8)} (h : IsPats w p us) : Calls Tryz.prog 82 #[.pointer p] w fun e w' => ∃ n q : Nat, e = .returned (.int .i64 (n : Int)) ∧ 1 ≤ n ∧ n ≤ 16777217 ∧ w' = w.drewN q := by
  obtain ⟨he, hf, ht⟩ := pats_each h
  have HE := Lib.hid he
  have HL := Lib.hid (ptlen_all h)
  have HA : Hid (∀ (q k : Nat) t, us[k]? = some t → _) := Lib.hid fun q k t ht => ptat_all (h.heap (W := w.drewN q) rfl) k t ht
  have HT : Hid (∀ k, totalL (us.take k) ≤ totalL us) := Lib.hid (total_take_le us)
  clear he h
  go_enter Tryz.func82, Tryz.ntmps82
  go_wp2_with fail
  refine HL.out.mono ?_
  rintro e w' ⟨rfl, rfl⟩
  go_wp2
  go_loopw [3, 4, 10] (fun x y i wr => ∃ (k n : Nat) (a : List UInt8), k ≤ us.length ∧ i = .int .i64 k ∧ x = .int .i64 n ∧ y = .string ⟨a.toArray⟩ ∧ a.length ≤ 65535 ∧ 1 ≤ n ∧ Hid (n ≤ totalL (us.take k) + 1) ∧ ∃ q, wr = w'.drewN q) (fun _ _ i _ => us.length - (RowKit.intOf i).toNat)
  case atStart => exact ⟨0, 1, [], Nat.zero_le _, rfl, rfl, rfl, by simp, by omega, Lib.hid (by omega), 0, rfl⟩
  case round =>
    obtain ⟨k, n, a, hk, rfl, rfl, rfl, ha, hn, HN, q, rfl⟩ := hrel
    have hnt := HN.out
    have htk := HT.out k
    by_cases hlt : k < us.length
    · obtain ⟨t, hft⟩ : ∃ t, us[k]? = some t := ⟨us[k], List.getElem?_eq_getElem hlt⟩
      have htl := HE.out t (List.mem_of_getElem? hft)
      have HA2 := Lib.hid (HA.out q k t hft)
      have HK := Lib.hid (tralike_any a t (w'.drewN q) (by omega) (by omega))
      have HS := Lib.hid (bsize t)
      have hts := total_snoc hft
      have htk2 := HT.out (k + 1)
      have g1 : (k : Int) < (us.length : Int) := by omega
      clear hft
      have hs2 : ∀ m : Nat, m ≤ t.length → (n + (t.length - m) ≤ totalL (us.take (k + 1)) + 1) := fun m hm => by omega
      have HS2 := Lib.hid hs2
      have hbig : n ≤ 16777217 := by omega
      clear hts htk2 htk hnt HN hs2
      go_wp2_with fail
      refine HA2.out.mono ?_
      rintro e w2 ⟨rfl, rfl⟩
      go_wp2_with fail
      refine HK.out.mono ?_
      rintro e w3 ⟨m, q2, rfl, hm, rfl⟩
      have w1 : IntKind.i64.wrap ((t.length : Int) - (m : Int)) = ((t.length - m : Nat) : Int) := by rw [IntKind.wrap_i64]; omega
      have w2 : IntKind.i64.wrap ((n : Int) + ((t.length - m : Nat) : Int)) = ((n + (t.length - m) : Nat) : Int) := by rw [IntKind.wrap_i64]; omega
      clear HA2 HK
      go_wp2
      exact ⟨⟨k + 1, n + (t.length - m), t, by omega, by go_num, by rw [show ((n + (t.length - m) : Nat) : Int) = (n : Int) + ((t.length - m : Nat) : Int) by omega], rfl, htl, by omega, Lib.hid (HS2.out m hm), _, rfl⟩, by simp [RowKit.intOf]; omega⟩
    · obtain rfl : k = us.length := by omega
      have g1 : ¬ (us.length : Int) < (us.length : Int) := by omega
      have hbig : n ≤ 16777217 := by omega
      clear hnt htk HN
      go_wp2
      go_ret
      exact ⟨n, rfl, hn, hbig, q, rfl⟩
end Go.Proofs.YtpblllpgmibkoaaGreat

namespace Go.Proofs.YtpblllpgmibkoaaGreat
open Go.RowKit

/-- An append to what the call owns, of so many elements as may be (none, too), as a step of a region that draws its order. -/
theorem step_append_any {P : Program} {w : World} {ops : Array Oper} {o : Oper} {a : Act} {K : Act → World → Prop} {Q : Exit → Act → World → Prop} {E : Prop} (hgd : o.guard = none) (s x : Operand) (t : TypeId)
    (ho : o.op = .call { callee := .builtin .append, args := #[s, x], argTypes := #[t, t] })
    (base : Nat) (e : TypeId) (i : TypeInfo) (z : Value) (size bytes : Nat) (ht : P.underlying t = some (.slice e)) (hi : P.info? e = some i) (hz : i.zero = some z)
    (hsize : i.size = size) (hby : i.bytes = bytes) (hzs : z.cells.size = size) (hsz : 0 < size)
    (v : Value) (n : Nat) (xs : List Value) (hs : a.eval s = v) (hown : w.ownsRow base e size v n xs)
    (ad : Addr) (m c : Nat) (news : List Value) (hx : a.eval x = .slice (some ad) m c) (hl : news.length = m * size) (hnews : ∀ j u, news[j]? = some u → w.cell? (ad.add j) = some u) (h1 : ∀ u ∈ news, u.oneCell' = true)
    (h63 : n + m ≤ maxLen) (hbytes : (n + m) * bytes ≤ 140737488355328) (hbase : base ≤ w.heap.size)
    (h : ∀ v' w', w'.ownsRow base e size v' (n + m) (xs ++ news) → w.grownBy w' v.ownBlock → K (a.put o.dst v') w') :
    if Region.wanted o (yielded ops a.tmps) = true then Oper.wp P o a w K Q else E := by
  have hw : Region.wanted o (yielded ops a.tmps) = true := by simp [Region.wanted, hgd]
  rw [if_pos hw]
  obtain ⟨v', w', hr, h2, h3, _, _⟩ := run_append_own_at (P := P) w base t o.type e i z size bytes ht hi hz hsize hby hzs hsz v n xs hown ad m c news hl hnews h1 h63 hbytes hbase
  unfold Oper.wp execOp
  simp only [ho, resolve, invoke, builtin, Sem.run_bind, Sem.run_pure, Result.andThen_ok, List.map_toArray, List.map_cons, List.map_nil, hs, hx, hr]
  exact h v' w' h2 h3
end Go.Proofs.YtpblllpgmibkoaaGreat

namespace Go.Proofs.YtpblllpgmibkoaaGreat
open Go.RowKit

/-- All blocks of groups are as they were. -/
def Groups (w w' : World) : Prop := ∀ (k : Nat) (cur : Array Value), w.heap[k]? = some (Obj.cells cur 136 (0, 0)) → w'.heap[k]? = w.heap[k]?
theorem Groups.refl (w : World) : Groups w w := fun _ _ _ => rfl
theorem Groups.trans {u v w : World} (h : Groups u v) (k : Groups v w) : Groups u w := fun i cur hi => (k i cur ((h i cur hi).trans hi)).trans (h i cur hi)
theorem Groups.of {w w' : World} (h : Below w.heap.size w w') : Groups w w' := fun k _ hk => h.block k (heap_lt hk)

/-- A trie stays one where a block of a group is written. -/
theorem IsTr.others {w w' : World} {base b X : Nat} {p : Option Addr} {R : List Rc} {cs : Array Value} (h : IsTr w base b p R) (hX : w.heap[X]? = some (.cells cs 136 (0, 0))) (hk : ∀ k, k ≠ X → w'.heap[k]? = w.heap[k]?) : IsTr w' base b p R := by
  obtain ⟨g, cap, h1, h2, h3, h4⟩ := h
  refine ⟨g, cap, (hk b fun e => ?_).trans h1, h2, ?_, h4⟩
  · subst e; rw [hX] at h1; simp at h1
  · obtain ⟨hl, hx⟩ := h3
    refine ⟨hl, ?_⟩
    rcases hx with hx | ⟨g', cap', cur, hv, hg, hh, r⟩
    · exact .inl hx
    · exact .inr ⟨g', cap', cur, hv, hg, (hk g' fun e => by subst e; rw [hX] at hh; simp at hh).trans hh, r⟩

theorem new_rc {w : World} {X : Nat} {T : TypeId} {r : Rc} (h : w.heap[X]? = some (.cells (rcOne r).toArray T (0, 0))) : ∀ j x, (rcOne r)[j]? = some x → w.cell? ((⟨X, 0, none⟩ : Addr).add j) = some x := by
  intro j x hj
  rw [addPlain, Nat.zero_add, Lib.cell_of_heap h, List.getElem?_toArray]
  exact hj

set_option maxRecDepth 100000 in
set_option maxHeartbeats 4000000 in
theorem tradd_any {w : World} {base b : Nat} {p : Option Addr} {R : List Rc} (h : IsTr w base b p R) (s f e : Nat) (r : Rc) (c : UInt8) (hr : R[s]? = some r) (hf : f ≤ 65535) (he : e ≤ 65535) (hd : r.depth + 1 ≤ 65535) (hR : R.length + 1 ≤ 2147483647) :
    Calls Tryz.prog 111 #[.pointer (some ⟨b, 0, none⟩), .int .i64 (s : Int), .int .u8 (c.toNat : Int), .int .i64 (f : Int), .int .i64 (e : Int)] w fun en w' =>
      en = .returned (.agg #[.int .i64 (R.length : Int), .int .i64 (f : Int), .int .i64 (e : Int)]) ∧ IsTr w' base b p (R ++ [⟨f, s, 0, r.depth + 1, c⟩]) ∧ Below base w w' ∧ Groups w w' := by
  obtain ⟨i0, hi, hz0, hz1, hz2⟩ := info_parts rc_info
  have hs := (List.getElem?_eq_some_iff.1 hr).1
  obtain ⟨g0, cap0, hh, hbase, hown, hfit, hfew⟩ := h
  have hblt := heap_lt hh
  have e3 := (own_rcs hown hr).c3
  have hglt := (hown.lt g0 rfl).2
  have c1 : w.cell? ⟨b, 1, none⟩ = some (.slice (some ⟨g0, 0, none⟩) R.length cap0) := by rw [Lib.cell_of_heap hh]; rfl
  have d1 : ∀ o, (w.alloc o).cell? ⟨b, 1, none⟩ = some (.slice (some ⟨g0, 0, none⟩) R.length cap0) := fun o => by rw [World.cell?_alloc_lt _ _ _ hblt]; exact c1
  have d3 : ∀ o, (w.alloc o).cell? ⟨g0, s * 5 + 3, none⟩ = some (.int .u16 (r.depth : Int)) := fun o => by rw [World.cell?_alloc_lt _ _ _ hglt]; exact e3
  have x1 : ∀ o o', ((w.alloc o).alloc o').cell? ⟨b, 1, none⟩ = some (.slice (some ⟨g0, 0, none⟩) R.length cap0) := fun o o' => by rw [World.cell?_alloc_lt _ _ _ (by simp; omega)]; exact d1 o
  have x3 : ∀ o o', ((w.alloc o).alloc o').cell? ⟨g0, s * 5 + 3, none⟩ = some (.int .u16 (r.depth : Int)) := fun o o' => by rw [World.cell?_alloc_lt _ _ _ (by simp; omega)]; exact d3 o
  have w1 : IntKind.i32.wrap (f : Int) = (f : Int) := by rw [IntKind.wrap_i32]; omega
  have w2 : IntKind.i32.wrap (s : Int) = (s : Int) := by rw [IntKind.wrap_i32]; omega
  have w3 : IntKind.u16.wrap ((r.depth : Int) + 1) = (r.depth : Int) + 1 := by rw [IntKind.wrap_u16]; omega
  have k0 : (0 : Int) ≤ (s : Int) := by omega
  have k1 : (s : Int) < (R.length : Int) := by omega
  go_enter Tryz.func111, Tryz.ntmps111
  go_wp2_with fail
  have hX : ∀ (o : Obj), ((w.alloc o).alloc (.cells (rcOne ⟨f, s, 0, r.depth + 1, c⟩).toArray 112)).drew.heap[w.heap.size + 1]? = some (.cells (rcOne ⟨f, s, 0, r.depth + 1, c⟩).toArray 112 (0, 0)) := fun o => by
    have := heap_alloc_new (w.alloc o) (.cells (rcOne ⟨f, s, 0, r.depth + 1, c⟩).toArray 112)
    rwa [show (w.alloc o).heap.size = w.heap.size + 1 by simp] at this
  have hne : (Value.slice (some ⟨g0, 0, none⟩) R.length cap0).ownBlock ≠ some b := fun e => by
    obtain ⟨_, ⟨hx, _⟩ | ⟨g, cap, cur, hx, _, hg, _⟩⟩ := hown
    · cases hx
    · cases hx
      simp only [Value.ownBlock, Option.some.injEq] at e
      subst e
      rw [hg] at hh
      simp at hh
  have HO := Lib.hid hown
  have HH := Lib.hid hh
  go_region_law (first
    | (refine step_append_any rfl (.tmp 21) (.tmp 37) _ rfl base 112 i0 (.agg #[.int .i32 0, .int .i32 0, .int .i32 0, .int .u16 0, .int .u8 0]) 5 16 Tryz.underlying129 hi hz0 hz1 hz2 rfl (by omega) (.slice (some ⟨g0, 0, none⟩) R.length cap0) R.length (rcCells R) (by simp [Act.eval, Act.put]) (((hown.alloc _).alloc _).drew) ⟨w.heap.size + 1, 0, none⟩ 1 1 (rcOne ⟨f, s, 0, r.depth + 1, c⟩) (by simp [Act.eval, Act.put]) rfl (new_rc (hX _)) rc_one (by unfold maxLen; omega) (by omega) (by simp; omega) ?_
       intro v3 w3 own3 grow3
       have V3 : w3.heap[b]? = some (.cells #[.pointer p, .slice (some ⟨g0, 0, none⟩) R.length cap0] 131 (0, 0)) := by
         rw [grow3.block b (by simp; omega) (fun ee => hne ee.symm)]
         show ((w.alloc _).alloc _).heap[b]? = _
         rw [Lib.alloc_old _ _ b (by simp; omega), Lib.alloc_old _ _ b hblt]
         exact HH.out
       have N3 : w3.heap[w.heap.size]? = some (.cells #[.int .i64 0, .int .i64 0, .int .i64 0] 136 (0, 0)) := by
         rw [grow3.block w.heap.size (by simp; omega) (fun ee => by simp only [Value.ownBlock, Option.some.injEq] at ee; omega)]
         show ((w.alloc _).alloc _).heap[w.heap.size]? = _
         rw [Lib.alloc_old _ _ w.heap.size (by simp)]
         exact heap_alloc_new w _
       have C3 : w3.cell? ⟨b, 1, none⟩ = some (.slice (some ⟨g0, 0, none⟩) R.length cap0) := by rw [Lib.cell_of_heap V3]; rfl
       have F3 := Lib.frozen_of_heap V3 1
       obtain ⟨g3, cap3, rfl, hb3, hg3⟩ := World.ownsRow.form own3 (by omega)))
  all_goals
    have hB3 : Below base w w3 := (((Below.refl base w).alloc (by omega) _).alloc (by simp; omega) _).drew.grown grow3 (by simp; omega) (fun j hj => (hown.lt j hj).1)
    have hG3 : Groups w w3 := fun k cur hk => by
      have hkl := heap_lt hk
      have hkb : some k ≠ (Value.slice (some ⟨g0, 0, none⟩) R.length cap0).ownBlock := fun ee => by
        obtain ⟨_, ⟨hx, _⟩ | ⟨g, cap, cur', hx, _, hg, _⟩⟩ := HO.out
        · cases hx
        · cases hx
          simp only [Value.ownBlock, Option.some.injEq] at ee
          subst ee
          rw [hk] at hg
          simp at hg
      rw [grow3.block k (by simp; omega) hkb]
      show ((w.alloc _).alloc _).heap[k]? = _
      rw [Lib.alloc_old _ _ k (by simp; omega), Lib.alloc_old _ _ k hkl]
    have hbg : b ≠ g3 := fun ee => by
      subst ee
      obtain ⟨_, ⟨hx, _⟩ | ⟨g, cap, cur', hx, _, hg, _⟩⟩ := own3
      · cases hx
      · cases hx
        rw [V3] at hg
        simp at hg
    have HT : IsTr (w3.setCell ⟨b, 1, none⟩ (.slice (some ⟨g3, 0, none⟩) (R.length + 1) cap3)) base b p (R ++ [⟨f, s, 0, r.depth + 1, c⟩]) := by
      refine ⟨g3, cap3, by rw [put_heap V3, List.length_append]; rfl, hbase, ?_, ?_, by rw [List.length_append]; simpa using hR⟩
      · rw [List.length_append, rc_snoc]
        refine own3.kept (row := some b) ⟨rfl, rfl, rfl, by simp [World.setCell], fun k hk hkb => put_other (fun ee => hkb (by rw [ee])) _⟩ (.inr ?_)
        simp only [Value.ownBlock, ne_eq, Option.some.injEq]
        exact fun ee => hbg ee.symm
      · intro x hx
        rcases List.mem_append.1 hx with hx | hx
        · exact hfit x hx
        · rw [List.mem_singleton] at hx
          subst hx
          exact ⟨by show f ≤ _; omega, by show s ≤ _; omega, by show 0 ≤ _; omega, hd⟩
    have N4 : (w3.setCell ⟨b, 1, none⟩ (.slice (some ⟨g3, 0, none⟩) (R.length + 1) cap3)).heap[w.heap.size]? = some (.cells #[.int .i64 0, .int .i64 0, .int .i64 0] 136 (0, 0)) := (put_other (by omega) _).trans N3
    have B4 : Below base w (w3.setCell ⟨b, 1, none⟩ (.slice (some ⟨g3, 0, none⟩) (R.length + 1) cap3)) := hB3.setCell hbase _
    have G4 : Groups w (w3.setCell ⟨b, 1, none⟩ (.slice (some ⟨g3, 0, none⟩) (R.length + 1) cap3)) := fun k cur hk => (put_other (fun ee => by subst ee; rw [hk] at hh; simp at hh) _).trans (hG3 k cur hk)
    clear hB3 hG3 N3 V3 own3 grow3 C3 F3 HO HH hX hh hown hfit c1 d1 d3 x1 x3 e3 hbg hne
    generalize w3.setCell ⟨b, 1, none⟩ (.slice (some ⟨g3, 0, none⟩) (R.length + 1) cap3) = w4 at *
    have n0 : w4.cell? ⟨w.heap.size, 0, none⟩ = some (.int .i64 0) := by rw [Lib.cell_of_heap N4]; rfl
    have n1 : w4.cell? ⟨w.heap.size, 1, none⟩ = some (.int .i64 0) := by rw [Lib.cell_of_heap N4]; rfl
    have n2 : w4.cell? ⟨w.heap.size, 2, none⟩ = some (.int .i64 0) := by rw [Lib.cell_of_heap N4]; rfl
    have z0 : w4.frozen? ⟨w.heap.size, 0, none⟩ = false := Lib.frozen_of_heap N4 0
    have z1 : w4.frozen? ⟨w.heap.size, 1, none⟩ = false := Lib.frozen_of_heap N4 1
    have z2 : w4.frozen? ⟨w.heap.size, 2, none⟩ = false := Lib.frozen_of_heap N4 2
    go_wp2
    have N5 := put_heap (put_heap (put_heap N4 (i := 0) (.int .i64 (R.length : Int))) (i := 1) (.int .i64 (f : Int))) (i := 2) (.int .i64 (e : Int))
    have O5 : ∀ k, k ≠ w.heap.size → (((w4.setCell ⟨w.heap.size, 0, none⟩ (.int .i64 (R.length : Int))).setCell ⟨w.heap.size, 1, none⟩ (.int .i64 (f : Int))).setCell ⟨w.heap.size, 2, none⟩ (.int .i64 (e : Int))).heap[k]? = w4.heap[k]? := fun k hk => by
      rw [put_other hk, put_other hk, put_other hk]
    have B5 := ((B4.setCell (p := ⟨w.heap.size, 0, none⟩) (by show base ≤ w.heap.size; omega) (.int .i64 (R.length : Int))).setCell (p := ⟨w.heap.size, 1, none⟩) (by show base ≤ w.heap.size; omega) (.int .i64 (f : Int))).setCell (p := ⟨w.heap.size, 2, none⟩) (by show base ≤ w.heap.size; omega) (.int .i64 (e : Int))
    have T5 := HT.others N4 O5
    generalize ((w4.setCell ⟨w.heap.size, 0, none⟩ (.int .i64 (R.length : Int))).setCell ⟨w.heap.size, 1, none⟩ (.int .i64 (f : Int))).setCell ⟨w.heap.size, 2, none⟩ (.int .i64 (e : Int)) = w5 at *
    have m0 : w5.cell? ⟨w.heap.size, 0, none⟩ = some (.int .i64 (R.length : Int)) := by rw [Lib.cell_of_heap N5]; rfl
    have m1 : w5.cell? ⟨w.heap.size, 1, none⟩ = some (.int .i64 (f : Int)) := by rw [Lib.cell_of_heap N5]; rfl
    have m2 : w5.cell? ⟨w.heap.size, 2, none⟩ = some (.int .i64 (e : Int)) := by rw [Lib.cell_of_heap N5]; rfl
    refine bodyPost_ret (v := .agg #[.int .i64 (R.length : Int), .int .i64 (f : Int), .int .i64 (e : Int)]) (by simp [results, Tryz.results111, go_sem, m0, m1, m2]) rfl ?_
    exact ⟨rfl, T5, B5, fun k cur hk => (O5 k (by have := heap_lt hk; omega)).trans (G4 k cur hk)⟩
end Go.Proofs.YtpblllpgmibkoaaGreat
