/-
  One byte's bucket, read: of, Least: walked.
-/
import Derived.Test.YtnmehjgojedpnaaBuW
import Derived.Laws.ResultCell
set_option linter.unusedSimpArgs false
set_option linter.unusedVariables false
namespace Go.Proofs.Ytnmehjgojedpnaa
open Go.RowKit

/-- Buckets behind a pointer, or none: then each is empty. -/
def HasBks (w : World) (p : Value) (I : Nat → List Int) (L : Nat → Nat) : Prop :=
  (p = .pointer none ∧ ∀ c, c < 256 → I c = [] ∧ L c = 0) ∨ ∃ base b, p = .pointer (some ⟨b, 0, none⟩) ∧ IsBks w base b I L
theorem HasBks.below {w w' : World} {p : Value} {I : Nat → List Int} {L : Nat → Nat} (h : HasBks w p I L) (hb : Below w.heap.size w w') : HasBks w' p I L :=
  h.elim .inl (fun ⟨base, b, h1, h2⟩ => .inr ⟨base, b, h1, h2.below hb⟩)

/-- A bucket, as an answer: its numbers and how long the shortest is. -/
def RetOf (l : List Int) (m : Nat) (w : World) (e : Ending) (w' : World) : Prop :=
  ∃ a cap, e = .returned (.agg #[.slice a l.length cap, .int .i64 (m : Int)]) ∧ w'.ownsRow 0 3 1 (.slice a l.length cap) l.length (inCells l) ∧ Below w.heap.size w w'

theorem owns_zero {w : World} {base : Nat} {e : TypeId} {size : Nat} {v : Value} {n : Nat} {xs : List Value} (h : w.ownsRow base e size v n xs) : w.ownsRow 0 e size v n xs := by
  obtain ⟨h1, h2⟩ := h
  refine ⟨h1, h2.imp id ?_⟩
  rintro ⟨g, cap, cur, hv, _, r⟩
  exact ⟨g, cap, cur, hv, Nat.zero_le _, r⟩

/-- What 'of' answers, and the one block that it lays. -/
def AtOf (a : Option Addr) (n cap m : Nat) (w : World) (e : Ending) (w' : World) : Prop :=
  e = .returned (.agg #[.slice a n cap, .int .i64 (m : Int)]) ∧ w' = w.alloc (.cells #[.slice a n cap, .int .i64 (m : Int)] 56)

set_option maxHeartbeats 1000000 in
theorem buof_nil (c : Nat) (hc : c < 256) (w : World) : Calls Try.prog 26 #[.pointer none, .int .u8 (c : Int)] w (AtOf none 0 0 0 w) := by
  go_enter Try.func26, Try.ntmps26
  go_wp2
  refine bodyPost_ret (v := .agg #[.slice none 0 0, .int .i64 0]) (by simp [results, Try.results26, go_sem]) rfl ?_
  exact ⟨rfl, rfl⟩
set_option maxHeartbeats 1000000 in
theorem buof_cells {w : World} {b c m n cap : Nat} {a : Option Addr} (hc : c < 256) (hlt : b < w.heap.size) (c0 : w.cell? ⟨b, c * 2, none⟩ = some (.slice a n cap)) (c1 : w.cell? ⟨b, c * 2 + 1, none⟩ = some (.int .i64 (m : Int))) :
    Calls Try.prog 26 #[.pointer (some ⟨b, 0, none⟩), .int .u8 (c : Int)] w (AtOf a n cap m w) := by
  have d0 : ∀ o, (w.alloc o).cell? ⟨b, c * 2, none⟩ = some (.slice a n cap) := fun o => by rw [World.cell?_alloc_lt _ _ _ hlt]; exact c0
  have d1 : ∀ o, (w.alloc o).cell? ⟨b, c * 2 + 1, none⟩ = some (.int .i64 (m : Int)) := fun o => by rw [World.cell?_alloc_lt _ _ _ hlt]; exact c1
  have g0 : (0 : Int) ≤ (c : Int) := by omega
  have g1 : (c : Int) < 256 := by omega
  go_enter Try.func26, Try.ntmps26
  go_wp2
  refine bodyPost_ret (v := .agg #[.slice a n cap, .int .i64 (m : Int)]) (by simp [results, Try.results26, go_sem]) rfl ?_
  exact ⟨rfl, rfl⟩

/-- One byte's bucket, wherever it is read. -/
theorem buof_at {w : World} {p : Value} {I : Nat → List Int} {L : Nat → Nat} (h : HasBks w p I L) (c : Nat) (hc : c < 256) :
    ∃ a cap, w.ownsRow 0 3 1 (.slice a (I c).length cap) (I c).length (inCells (I c)) ∧
      ∀ W, Below w.heap.size w W → Calls Try.prog 26 #[p, .int .u8 (c : Int)] W (AtOf a (I c).length cap (L c) W) := by
  rcases h with ⟨rfl, h⟩ | ⟨base, b, rfl, h⟩
  · obtain ⟨h1, h2⟩ := h c hc
    rw [h1, h2]
    exact ⟨none, 0, World.ownsRow_nil _ _ _ _, fun W _ => buof_nil c hc W⟩
  · have hlt := h.lt
    obtain ⟨hb, hB, cs, v, hh, h4, h5⟩ := h
    obtain ⟨a1, a2, hown⟩ := h4 c hc
    obtain ⟨a, cap, hv⟩ := owns_slice hown
    rw [hv] at a1 hown
    refine ⟨a, cap, owns_zero hown, fun W hW => buof_cells hc (Nat.lt_of_lt_of_le hlt hW.size) ?_ ?_⟩
    · rw [Lib.cell_of_heap ((hW.block b hlt).trans hh)]; exact a1
    · rw [Lib.cell_of_heap ((hW.block b hlt).trans hh)]; exact a2

theorem buof_any {w : World} {p : Value} {I : Nat → List Int} {L : Nat → Nat} (h : HasBks w p I L) (c : Nat) (hc : c < 256) :
    Calls Try.prog 26 #[p, .int .u8 (c : Int)] w (RetOf (I c) (L c) w) := by
  obtain ⟨a, cap, hown, hC⟩ := buof_at h c hc
  refine (hC w (Below.refl _ _)).mono ?_
  rintro e w' ⟨rfl, rfl⟩
  exact ⟨a, cap, rfl, hown.alloc _, (Below.refl _ _).alloc (Nat.le_refl _) _⟩

theorem bufield_ids (x y : Value) (w : World) : (Instr.field 56 (.agg #[x, y]) 0).run Try.prog w = .ok x w := by
  simp [Instr.field, go_sem, part, asAgg, Try.underlying56, isAgg, Try.underlying34]
theorem bufield_least (x y : Value) (w : World) : (Instr.field 56 (.agg #[x, y]) 1).run Try.prog w = .ok y w := by
  simp [Instr.field, go_sem, part, asAgg, Try.underlying56, isAgg, Try.underlying3]

set_option maxHeartbeats 1000000 in
theorem buleast_any {w : World} {p : Value} {I : Nat → List Int} {L : Nat → Nat} (h : HasBks w p I L) (c : Nat) (hc : c < 256) :
    Calls Try.prog 13 #[p, .int .u8 (c : Int)] w fun e w' => e = .returned (.int .i64 (L c : Int)) ∧ Below w.heap.size w w' := by
  have HO := Lib.hid (buof_any h c hc)
  clear h
  go_enter Try.func13, Try.ntmps13
  go_wp2_with fail
  refine HO.out.mono ?_
  rintro e w' ⟨a, cap, rfl, hown, hb⟩
  have hfl := bufield_least
  go_wp2
  go_ret
  exact ⟨rfl, hb⟩
end Go.Proofs.Ytnmehjgojedpnaa
