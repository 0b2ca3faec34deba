/-
  A trie, read: Len, is, of, Depth: walked.
-/
import Derived.Test.YtkaldfcpcimacaaTrS
set_option linter.unusedSimpArgs false
set_option linter.unusedVariables false
namespace Go.Proofs.Ytkaldfcpcimacaa
open Go.RowKit

theorem trlen_any {w : World} {q p : Option Addr} {R : List Rc} (h : HasTr w q p R) : Calls Try.prog 22 #[.pointer q] w fun e w' => e = .returned (.int .i64 (R.length : Int)) ∧ w' = w := by
  rcases h with ⟨rfl, rfl⟩ | ⟨base, b, rfl, h⟩
  · go_enter Try.func22, Try.ntmps22
    go_wp2
    go_ret
    exact ⟨rfl, rfl⟩
  · obtain ⟨g, cap, _, c1, _⟩ := h.reads
    clear h
    go_enter Try.func22, Try.ntmps22
    go_wp2
    go_ret
    exact ⟨rfl, rfl⟩
theorem tris_in {w : World} {q p : Option Addr} {R : List Rc} (h : HasTr w q p R) (k : Nat) (hk : k < R.length) : Calls Try.prog 41 #[.pointer q, .int .i64 (k : Int)] w fun e w' => e = .returned (.bool true) ∧ w' = w := by
  have HL := Lib.hid (trlen_any h)
  have g0 : (0 : Int) ≤ (k : Int) := by omega
  have g1 : (k : Int) < (R.length : Int) := by omega
  clear h
  go_enter Try.func41, Try.ntmps41
  go_wp2_with fail
  refine HL.out.mono ?_
  rintro e w' ⟨rfl, rfl⟩
  go_wp2
  go_ret
  exact ⟨rfl, rfl⟩
theorem tris_out {w : World} {q p : Option Addr} {R : List Rc} (h : HasTr w q p R) (s : Int) (hs : s < 0 ∨ (R.length : Int) ≤ s) : Calls Try.prog 41 #[.pointer q, .int .i64 s] w fun e w' => e = .returned (.bool false) ∧ w' = w := by
  have HL := Lib.hid (trlen_any h)
  clear h
  by_cases h0 : s < 0
  · have g0 : ¬ (0 : Int) ≤ s := by omega
    clear hs
    go_enter Try.func41, Try.ntmps41
    go_wp2
    go_ret
    exact ⟨rfl, rfl⟩
  · have g0 : (0 : Int) ≤ s := by omega
    have g1 : ¬ s < (R.length : Int) := by omega
    have g2 : decide (s < (R.length : Int)) = false := decide_eq_false g1
    clear hs
    go_enter Try.func41, Try.ntmps41
    go_wp2_with fail
    refine HL.out.mono ?_
    rintro e w' ⟨rfl, rfl⟩
    go_wp2
    go_ret
    exact ⟨rfl, rfl⟩

/-- A state's value. -/
def rcV (r : Rc) : Value := .agg #[.int .i32 (r.first : Int), .int .i32 (r.above : Int), .int .i32 (r.below : Int), .int .u16 (r.depth : Int), .int .u8 (r.last.toNat : Int)]
theorem RcAt.alloc {w : World} {b o : Nat} {r : Rc} (h : RcAt w b o r) (x : Obj) : RcAt (w.alloc x) b o r := h.below ((Below.refl _ _).alloc (Nat.le_refl _) x)

set_option maxHeartbeats 1000000 in
theorem trof_in {w : World} {q p : Option Addr} {R : List Rc} (h : HasTr w q p R) (k : Nat) (r : Rc) (hr : R[k]? = some r) : Calls Try.prog 40 #[.pointer q, .int .i64 (k : Int)] w fun e w' => e = .returned (rcV r) ∧ Below w.heap.size w w' := by
  have hk := (List.getElem?_eq_some_iff.1 hr).1
  have HS := Lib.hid (fun o => tris_in (h.below ((Below.refl _ _).alloc (Nat.le_refl _) o)) k hk)
  obtain ⟨base, b, rfl, ht⟩ := h.some hk
  obtain ⟨g, cap, _, c1, hcap, _, hg, hat⟩ := ht.reads
  have ha := hat k r hr
  have d1 : ∀ o, (w.alloc o).cell? ⟨b, 1, none⟩ = some (.slice (some ⟨g, 0, none⟩) R.length cap) := fun o => by rw [World.cell?_alloc_lt _ _ _ ht.lt]; exact c1
  have e0 := fun o => (ha.alloc o).c0
  have e1 := fun o => (ha.alloc o).c1
  have e2 := fun o => (ha.alloc o).c2
  have e3 := fun o => (ha.alloc o).c3
  have e4 := fun o => (ha.alloc o).c4
  have g0 : (0 : Int) ≤ (k : Int) := by omega
  have g1 : (k : Int) < (R.length : Int) := by omega
  clear h ht hat ha hr c1
  go_enter Try.func40, Try.ntmps40
  go_wp2_with fail
  refine (HS.out _).mono ?_
  rintro e w' ⟨rfl, rfl⟩
  go_wp2
  refine bodyPost_ret (v := rcV r) (by simp [results, Try.results40, go_sem, rcV]) rfl ?_
  exact ⟨rfl, (Below.refl _ _).alloc (Nat.le_refl _) _⟩
/-- Nothing of a state. -/
def rcZ : Rc := ⟨0, 0, 0, 0, 0⟩
set_option maxHeartbeats 1000000 in
theorem trof_out {w : World} {q p : Option Addr} {R : List Rc} (h : HasTr w q p R) (s : Int) (hs : s < 0 ∨ (R.length : Int) ≤ s) : Calls Try.prog 40 #[.pointer q, .int .i64 s] w fun e w' => e = .returned (rcV rcZ) ∧ Below w.heap.size w w' := by
  have HS := Lib.hid (fun o => tris_out (h.below ((Below.refl _ _).alloc (Nat.le_refl _) o)) s hs)
  clear h hs
  go_enter Try.func40, Try.ntmps40
  go_wp2_with fail
  refine (HS.out _).mono ?_
  rintro e w' ⟨rfl, rfl⟩
  go_wp2
  refine bodyPost_ret (v := rcV rcZ) (by simp [results, Try.results40, go_sem, rcV, rcZ]) rfl ?_
  exact ⟨rfl, (Below.refl _ _).alloc (Nat.le_refl _) _⟩
/-- What is known of any number: of a state's, and of one that is none. -/
def rcOf (R : List Rc) (s : Int) : Rc := if 0 ≤ s then R.getD s.toNat rcZ else rcZ
theorem rcOf_in {R : List Rc} {k : Nat} {r : Rc} (h : R[k]? = some r) : rcOf R k = r := by
  unfold rcOf
  rw [if_pos (by omega), Int.toNat_natCast, List.getD_eq_getElem?_getD, h]; rfl
theorem rcOf_out {R : List Rc} {s : Int} (h : s < 0 ∨ (R.length : Int) ≤ s) : rcOf R s = rcZ := by
  unfold rcOf
  split
  · rw [List.getD_eq_getElem?_getD, List.getElem?_eq_none (by omega)]; rfl
  · rfl
theorem in_out (R : List Rc) (s : Int) : (∃ k : Nat, s = k ∧ ∃ r, R[k]? = some r) ∨ (s < 0 ∨ (R.length : Int) ≤ s) := by
  by_cases h : s < 0 ∨ (R.length : Int) ≤ s
  · exact .inr h
  · refine .inl ⟨s.toNat, by omega, ?_⟩
    have hk : s.toNat < R.length := by omega
    exact ⟨R[s.toNat], List.getElem?_eq_getElem hk⟩
theorem trof_any {w : World} {q p : Option Addr} {R : List Rc} (h : HasTr w q p R) (s : Int) : Calls Try.prog 40 #[.pointer q, .int .i64 s] w fun e w' => e = .returned (rcV (rcOf R s)) ∧ Below w.heap.size w w' := by
  rcases in_out R s with ⟨k, rfl, r, hr⟩ | hs
  · rw [rcOf_in hr]; exact trof_in h k r hr
  · rw [rcOf_out hs]; exact trof_out h s hs
theorem rcOf_fit {w : World} {q p : Option Addr} {R : List Rc} (h : HasTr w q p R) (s : Int) : (rcOf R s).Fit := by
  rcases in_out R s with ⟨k, rfl, r, hr⟩ | hs
  · rw [rcOf_in hr]
    obtain ⟨base, b, rfl, ht⟩ := h.some (List.getElem?_eq_some_iff.1 hr).1
    exact ht.fit hr
  · rw [rcOf_out hs]; unfold Rc.Fit rcZ; simp
theorem rcfield_depth (a b c d e : Value) (w : World) : (Instr.field 75 (.agg #[a, b, c, d, e]) 3).run Try.prog w = .ok d w := by
  simp [Instr.field, go_sem, part, asAgg, Try.underlying75, isAgg, Try.underlying73]

set_option maxHeartbeats 1000000 in
theorem trdepth_any {w : World} {q p : Option Addr} {R : List Rc} (h : HasTr w q p R) (s : Int) : Calls Try.prog 24 #[.pointer q, .int .i64 s] w fun e w' => e = .returned (.int .i64 ((rcOf R s).depth : Int)) ∧ Below w.heap.size w w' := by
  have HO := Lib.hid (trof_any h s)
  have hf := rcOf_fit h s
  generalize rcOf R s = r at *
  have hd := hf.2.2.2
  have F := rcfield_depth (.int .i32 (r.first : Int)) (.int .i32 (r.above : Int)) (.int .i32 (r.below : Int)) (.int .u16 (r.depth : Int)) (.int .u8 (r.last.toNat : Int))
  clear h hf
  go_enter Try.func24, Try.ntmps24
  go_wp2_with fail
  refine HO.out.mono ?_
  rintro e w' ⟨rfl, hb⟩
  unfold rcV
  go_wp2
  go_ret
  exact ⟨rfl, hb⟩
set_option maxHeartbeats 1000000 in
theorem trabove_any {w : World} {q p : Option Addr} {R : List Rc} (h : HasTr w q p R) (s : Int) : Calls Try.prog 50 #[.pointer q, .int .i64 s] w fun e w' =>
    e = .returned (.tuple #[.int .i64 ((rcOf R s).above : Int), .int .u8 ((rcOf R s).last.toNat : Int), .bool (decide (0 < (rcOf R s).depth))]) ∧ Below w.heap.size w w' := by
  have HO := Lib.hid (trof_any h s)
  have hf := rcOf_fit h s
  generalize rcOf R s = r at *
  obtain ⟨_, hd, _, _⟩ := hf
  have hw : IntKind.i64.wrap (r.above : Int) = (r.above : Int) := by rw [IntKind.wrap_i64]; omega
  clear h
  go_enter Try.func50, Try.ntmps50
  go_wp2_with fail
  refine HO.out.mono ?_
  rintro e w' ⟨rfl, hb⟩
  unfold rcV
  go_wp2_with fail
  go_quiet (fail)
  go_wp2
  refine bodyPost_ret (v := .tuple #[.int .i64 (r.above : Int), .int .u8 (r.last.toNat : Int), .bool (decide (0 < r.depth))]) (by simp [results, Try.results50, go_sem]) rfl ?_
  exact ⟨rfl, below_drewS (hb.alloc hb.size _) nq⟩
end Go.Proofs.Ytkaldfcpcimacaa
