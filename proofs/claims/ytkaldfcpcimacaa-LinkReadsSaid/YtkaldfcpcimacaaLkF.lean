/-
  Links in memory: their block, and two cells a state; what they tell of a number: walked.
-/
import Derived.Test.YtkaldfcpcimacaaLkM
import Derived.Test.YtkaldfcpcimacaaBut
import Derived.Test.YtkaldfcpcimacaaStr
import Derived.Laws.ResultCell
set_option linter.unusedSimpArgs false
set_option linter.unusedVariables false
namespace Go.Proofs.Ytkaldfcpcimacaa
open Go.RowKit

/-- The two cells of where a state falls back to. -/
def flOne (r : Nat × Nat) : List Value := [.int .i32 (r.1 : Int), .int .i32 (r.2 : Int)]
def flCells (F : List (Nat × Nat)) : List Value := F.flatMap flOne
theorem fl_cons (r : Nat × Nat) (F : List (Nat × Nat)) : flCells (r :: F) = flOne r ++ flCells F := rfl
theorem flOne_length (r : Nat × Nat) : (flOne r).length = 2 := rfl
theorem flCells_length : ∀ F : List (Nat × Nat), (flCells F).length = F.length * 2
  | [] => rfl
  | r :: F => by rw [fl_cons, List.length_append, flCells_length F, List.length_cons, flOne_length]; omega
theorem flCells_at : ∀ (F : List (Nat × Nat)) (i j : Nat) {r : Nat × Nat}, F[i]? = some r → j < 2 → (flCells F)[i * 2 + j]? = (flOne r)[j]?
  | q :: F, 0, j, r, h, hj => by
    simp at h; subst h
    rw [fl_cons, List.getElem?_append_left (by rw [flOne_length]; omega)]; congr 1; omega
  | q :: F, i + 1, j, r, h, hj => by
    rw [fl_cons, List.getElem?_append_right (by rw [flOne_length]; omega), flOne_length, show (i + 1) * 2 + j - 2 = i * 2 + j by omega]
    exact flCells_at F i j (by simpa using h) hj
theorem fl_set : ∀ (F : List (Nat × Nat)) (i : Nat) {r : Nat × Nat} (a b : Nat), F[i]? = some r → ((flCells F).set (i * 2) (.int .i32 (a : Int))).set (i * 2 + 1) (.int .i32 (b : Int)) = flCells (F.set i (a, b))
  | q :: F, 0, r, a, b, h => by rfl
  | q :: F, i + 1, r, a, b, h => by
    rw [fl_cons, List.set_cons_succ, fl_cons, ← fl_set F i a b (by simpa using h), List.set_append_right _ _ (by rw [flOne_length]; omega), List.set_append_right _ _ (by rw [flOne_length]; omega), flOne_length, show (i + 1) * 2 - 2 = i * 2 by omega, show (i + 1) * 2 + 1 - 2 = i * 2 + 1 by omega]
theorem fl_rep : ∀ n : Nat, flCells (List.replicate n (0, 0)) = List.replicate (n * 2) (.int .i32 0)
  | 0 => rfl
  | n + 1 => by rw [List.replicate_succ, fl_cons, fl_rep n, show (n + 1) * 2 = n * 2 + 1 + 1 by omega, List.replicate_succ, List.replicate_succ]; rfl
theorem fl_info : (Try.prog.info? 63).map (fun i => (i.zero, i.size, i.bytes)) = some (some (.agg #[.int .i32 0, .int .i32 0]), 2, 8) := by kernel_rfl

/-- Links lie in block b: of the trie behind q, with where its states fall back to in block g. What they own lies from 'base' on. -/
structure IsLk (w : World) (base b g : Nat) (q : Option Addr) (F : List (Nat × Nat)) : Prop where
  head : w.heap[b]? = some (.cells #[.pointer q, .slice (some ⟨g, 0, none⟩) F.length F.length] 61 (0, 0))
  row : w.heap[g]? = some (.cells (flCells F).toArray 63 (0, 0))
  bb : base ≤ b
  gg : base ≤ g
  few : F.length ≤ 16777217
  fit : ∀ r ∈ F, r.1 ≤ 16777217 ∧ r.2 ≤ 16777217
theorem IsLk.lt {w : World} {base b g : Nat} {q : Option Addr} {F : List (Nat × Nat)} (h : IsLk w base b g q F) : b < w.heap.size := lt_of_heap h.head
theorem IsLk.ltg {w : World} {base b g : Nat} {q : Option Addr} {F : List (Nat × Nat)} (h : IsLk w base b g q F) : g < w.heap.size := lt_of_heap h.row
theorem IsLk.below {w w' : World} {base b g : Nat} {q : Option Addr} {F : List (Nat × Nat)} (h : IsLk w base b g q F) (hb : Below w.heap.size w w') : IsLk w' base b g q F :=
  ⟨(hb.block b h.lt).trans h.head, (hb.block g h.ltg).trans h.row, h.bb, h.gg, h.few, h.fit⟩
theorem IsLk.heap {w W : World} {base b g : Nat} {q : Option Addr} {F : List (Nat × Nat)} (h : IsLk w base b g q F) (e : W.heap = w.heap) : IsLk W base b g q F :=
  ⟨by rw [e]; exact h.head, by rw [e]; exact h.row, h.bb, h.gg, h.few, h.fit⟩
theorem IsLk.reads {w : World} {base b g : Nat} {q : Option Addr} {F : List (Nat × Nat)} (h : IsLk w base b g q F) : w.cell? ⟨b, 0, none⟩ = some (.pointer q) ∧ w.cell? ⟨b, 1, none⟩ = some (.slice (some ⟨g, 0, none⟩) F.length F.length) ∧
    ∀ (i : Nat) r, F[i]? = some r → w.cell? ⟨g, i * 2, none⟩ = some (.int .i32 (r.1 : Int)) ∧ w.cell? ⟨g, i * 2 + 1, none⟩ = some (.int .i32 (r.2 : Int)) := by
  refine ⟨by rw [Lib.cell_of_heap h.head]; rfl, by rw [Lib.cell_of_heap h.head]; rfl, fun i r hi => ⟨?_, ?_⟩⟩
  · rw [Lib.cell_of_heap h.row, List.getElem?_toArray]
    exact flCells_at F i 0 hi (by omega)
  · rw [Lib.cell_of_heap h.row, List.getElem?_toArray]
    exact flCells_at F i 1 hi (by omega)

/-- Links behind a pointer, or none: then they know of no state, and have no trie. -/
def HasLk (w : World) (k q : Option Addr) (F : List (Nat × Nat)) : Prop := (k = none ∧ q = none ∧ F = []) ∨ ∃ base b g, k = some ⟨b, 0, none⟩ ∧ IsLk w base b g q F
theorem HasLk.below {w w' : World} {k q : Option Addr} {F : List (Nat × Nat)} (h : HasLk w k q F) (hb : Below w.heap.size w w') : HasLk w' k q F :=
  h.elim .inl (fun ⟨base, b, g, h1, h2⟩ => .inr ⟨base, b, g, h1, h2.below hb⟩)
theorem HasLk.heap {w W : World} {k q : Option Addr} {F : List (Nat × Nat)} (h : HasLk w k q F) (e : W.heap = w.heap) : HasLk W k q F :=
  h.elim .inl (fun ⟨base, b, g, h1, h2⟩ => .inr ⟨base, b, g, h1, h2.heap e⟩)
theorem HasLk.some {w : World} {k q : Option Addr} {F : List (Nat × Nat)} (h : HasLk w k q F) {i : Nat} (hk : i < F.length) : ∃ base b g, k = some ⟨b, 0, none⟩ ∧ IsLk w base b g q F := by
  rcases h with ⟨_, _, rfl⟩ | h
  · simp at hk
  · exact h
theorem HasLk.nil (w : World) : HasLk w none none [] := .inl ⟨rfl, rfl, rfl⟩

theorem lktrie_any {w : World} {k q : Option Addr} {F : List (Nat × Nat)} (h : HasLk w k q F) : Calls Try.prog 21 #[.pointer k] w fun e w' => e = .returned (.pointer q) ∧ w' = w := by
  rcases h with ⟨rfl, rfl, _⟩ | ⟨base, b, g, rfl, h⟩
  · go_enter Try.func21, Try.ntmps21
    go_wp2
    go_ret
    exact ⟨rfl, rfl⟩
  · obtain ⟨c0, _, _⟩ := h.reads
    clear h
    go_enter Try.func21, Try.ntmps21
    go_wp2
    go_ret
    exact ⟨rfl, rfl⟩
set_option maxHeartbeats 1000000 in
theorem lkis_in {w : World} {k q : Option Addr} {F : List (Nat × Nat)} (h : HasLk w k q F) (i : Nat) (hi : i < F.length) : Calls Try.prog 36 #[.pointer k, .int .i64 (i : Int)] w fun e w' => e = .returned (.bool true) ∧ w' = w := by
  obtain ⟨base, b, g, rfl, ht⟩ := h.some hi
  obtain ⟨_, c1, _⟩ := ht.reads
  have g0 : (0 : Int) ≤ (i : Int) := by omega
  have g1 : (i : Int) < (F.length : Int) := by omega
  clear h ht
  go_enter Try.func36, Try.ntmps36
  go_wp2
  go_ret
  exact ⟨rfl, rfl⟩
set_option maxHeartbeats 1000000 in
theorem lkis_out {w : World} {k q : Option Addr} {F : List (Nat × Nat)} (h : HasLk w k q F) (s : Int) (hs : s < 0 ∨ (F.length : Int) ≤ s) : Calls Try.prog 36 #[.pointer k, .int .i64 s] w fun e w' => e = .returned (.bool false) ∧ w' = w := by
  rcases h with ⟨rfl, _, rfl⟩ | ⟨base, b, g, rfl, h⟩
  · clear hs
    go_enter Try.func36, Try.ntmps36
    go_wp2
    go_ret
    exact ⟨rfl, rfl⟩
  · obtain ⟨_, c1, _⟩ := h.reads
    clear h
    by_cases h0 : s < 0
    · have g0 : ¬ (0 : Int) ≤ s := by omega
      clear hs
      go_enter Try.func36, Try.ntmps36
      go_wp2
      go_ret
      exact ⟨rfl, rfl⟩
    · have g0 : (0 : Int) ≤ s := by omega
      have g1 : ¬ s < (F.length : Int) := by omega
      have g2 : decide (s < (F.length : Int)) = false := decide_eq_false g1
      clear hs
      go_enter Try.func36, Try.ntmps36
      go_wp2
      go_ret
      exact ⟨rfl, rfl⟩

/-- Where a state falls back to, as a value. -/
def flV (r : Nat × Nat) : Value := .agg #[.int .i32 (r.1 : Int), .int .i32 (r.2 : Int)]
/-- What is known of any number: of a state's, and of one that is none. -/
def flOf (F : List (Nat × Nat)) (s : Int) : Nat × Nat := if 0 ≤ s then F.getD s.toNat (0, 0) else (0, 0)
theorem flOf_in {F : List (Nat × Nat)} {i : Nat} {r : Nat × Nat} (h : F[i]? = some r) : flOf F i = r := by
  unfold flOf
  rw [if_pos (by omega), Int.toNat_natCast, List.getD_eq_getElem?_getD, h]; rfl
theorem flOf_out {F : List (Nat × Nat)} {s : Int} (h : s < 0 ∨ (F.length : Int) ≤ s) : flOf F s = (0, 0) := by
  unfold flOf
  split
  · rw [List.getD_eq_getElem?_getD, List.getElem?_eq_none (by omega)]; rfl
  · rfl
theorem fl_in_out (F : List (Nat × Nat)) (s : Int) : (∃ i : Nat, s = i ∧ ∃ r, F[i]? = some r) ∨ (s < 0 ∨ (F.length : Int) ≤ s) := by
  by_cases h : s < 0 ∨ (F.length : Int) ≤ s
  · exact .inr h
  · refine .inl ⟨s.toNat, by omega, ?_⟩
    have hk : s.toNat < F.length := by omega
    exact ⟨F[s.toNat], List.getElem?_eq_getElem hk⟩
theorem flOf_fit {w : World} {k q : Option Addr} {F : List (Nat × Nat)} (h : HasLk w k q F) (s : Int) : (flOf F s).1 ≤ 16777217 ∧ (flOf F s).2 ≤ 16777217 := by
  rcases fl_in_out F s with ⟨i, rfl, r, hr⟩ | hs
  · rw [flOf_in hr]
    obtain ⟨base, b, g, rfl, ht⟩ := h.some (List.getElem?_eq_some_iff.1 hr).1
    exact ht.fit r (List.mem_of_getElem? hr)
  · rw [flOf_out hs]; simp

set_option maxHeartbeats 1000000 in
theorem lkof_in {w : World} {k q : Option Addr} {F : List (Nat × Nat)} (h : HasLk w k q F) (i : Nat) (r : Nat × Nat) (hr : F[i]? = some r) : Calls Try.prog 33 #[.pointer k, .int .i64 (i : Int)] w fun e w' => e = .returned (flV r) ∧ Below w.heap.size w w' := by
  have hi := (List.getElem?_eq_some_iff.1 hr).1
  have HS := Lib.hid (fun o => lkis_in (h.below ((Below.refl _ _).alloc (Nat.le_refl _) o)) i hi)
  obtain ⟨base, b, g, rfl, ht⟩ := h.some hi
  have d1 := fun o => (ht.below ((Below.refl _ _).alloc (Nat.le_refl _) o)).reads.2.1
  have e0 := fun o => ((ht.below ((Below.refl _ _).alloc (Nat.le_refl _) o)).reads.2.2 i r hr).1
  have e1 := fun o => ((ht.below ((Below.refl _ _).alloc (Nat.le_refl _) o)).reads.2.2 i r hr).2
  have g0 : (0 : Int) ≤ (i : Int) := by omega
  have g1 : (i : Int) < (F.length : Int) := by omega
  clear h ht hr
  go_enter Try.func33, Try.ntmps33
  go_wp2_with fail
  refine (HS.out _).mono ?_
  rintro e w' ⟨rfl, rfl⟩
  go_wp2
  refine bodyPost_ret (v := flV r) (by simp [results, Try.results33, go_sem, flV]) rfl ?_
  exact ⟨rfl, (Below.refl _ _).alloc (Nat.le_refl _) _⟩
set_option maxHeartbeats 1000000 in
theorem lkof_out {w : World} {k q : Option Addr} {F : List (Nat × Nat)} (h : HasLk w k q F) (s : Int) (hs : s < 0 ∨ (F.length : Int) ≤ s) : Calls Try.prog 33 #[.pointer k, .int .i64 s] w fun e w' => e = .returned (flV (0, 0)) ∧ Below w.heap.size w w' := by
  have HS := Lib.hid (fun o => lkis_out (h.below ((Below.refl _ _).alloc (Nat.le_refl _) o)) s hs)
  clear h hs
  go_enter Try.func33, Try.ntmps33
  go_wp2_with fail
  refine (HS.out _).mono ?_
  rintro e w' ⟨rfl, rfl⟩
  go_wp2
  refine bodyPost_ret (v := flV (0, 0)) (by simp [results, Try.results33, go_sem, flV]) rfl ?_
  exact ⟨rfl, (Below.refl _ _).alloc (Nat.le_refl _) _⟩
theorem lkof_any {w : World} {k q : Option Addr} {F : List (Nat × Nat)} (h : HasLk w k q F) (s : Int) : Calls Try.prog 33 #[.pointer k, .int .i64 s] w fun e w' => e = .returned (flV (flOf F s)) ∧ Below w.heap.size w w' := by
  rcases fl_in_out F s with ⟨i, rfl, r, hr⟩ | hs
  · rw [flOf_in hr]; exact lkof_in h i r hr
  · rw [flOf_out hs]; exact lkof_out h s hs
theorem flfield0 (a b : Value) (w : World) : (Instr.field 63 (.agg #[a, b]) 0).run Try.prog w = .ok a w := by
  simp [Instr.field, go_sem, part, asAgg, Try.underlying63, isAgg, Try.underlying21]
theorem flfield1 (a b : Value) (w : World) : (Instr.field 63 (.agg #[a, b]) 1).run Try.prog w = .ok b w := by
  simp [Instr.field, go_sem, part, asAgg, Try.underlying63, isAgg, Try.underlying21]

set_option maxHeartbeats 1000000 in
theorem lkfail_any {w : World} {k q : Option Addr} {F : List (Nat × Nat)} (h : HasLk w k q F) (s : Int) : Calls Try.prog 14 #[.pointer k, .int .i64 s] w fun e w' => e = .returned (.int .i64 ((flOf F s).1 : Int)) ∧ Below w.heap.size w w' := by
  have HO := Lib.hid (lkof_any h s)
  have hf := flOf_fit h s
  generalize flOf F s = r at *
  obtain ⟨h1, _⟩ := hf
  have FD := flfield0 (.int .i32 (r.1 : Int)) (.int .i32 (r.2 : Int))
  have hw : IntKind.i64.wrap (r.1 : Int) = (r.1 : Int) := by rw [IntKind.wrap_i64]; omega
  clear h
  go_enter Try.func14, Try.ntmps14
  go_wp2_with fail
  refine HO.out.mono ?_
  rintro e w' ⟨rfl, hb⟩
  unfold flV
  go_wp2
  go_ret
  exact ⟨rfl, hb⟩
set_option maxHeartbeats 1000000 in
theorem lkout_any {w : World} {k q : Option Addr} {F : List (Nat × Nat)} (h : HasLk w k q F) (s : Int) : Calls Try.prog 12 #[.pointer k, .int .i64 s] w fun e w' => e = .returned (.tuple #[.int .i64 ((flOf F s).2 : Int), .bool (decide (0 < (flOf F s).2))]) ∧ Below w.heap.size w w' := by
  have HO := Lib.hid (lkof_any h s)
  have hf := flOf_fit h s
  generalize flOf F s = r at *
  obtain ⟨_, h1⟩ := hf
  have FD := flfield1 (.int .i32 (r.1 : Int)) (.int .i32 (r.2 : Int))
  have hw : IntKind.i64.wrap (r.2 : Int) = (r.2 : Int) := by rw [IntKind.wrap_i64]; omega
  clear h
  go_enter Try.func12, Try.ntmps12
  go_wp2_with fail
  refine HO.out.mono ?_
  rintro e w' ⟨rfl, hb⟩
  unfold flV
  go_wp2
  go_ret2
  exact ⟨rfl, hb⟩
end Go.Proofs.Ytkaldfcpcimacaa
