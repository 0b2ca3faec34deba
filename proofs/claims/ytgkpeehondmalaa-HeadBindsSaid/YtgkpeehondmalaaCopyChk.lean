/-
  strings.Builder, as the call has made it itself: copyCheck at this program (the shelf's contract is not laid here: the translation marks a written builder's value in another place).
-/
import Derived.Test.YtgkpeehondmalaaRows
import Derived.Test.YtgkpeehondmalaaGen
import Derived.Shelf.Strings.Builder1
import Derived.WalkKit
import Derived.WalkSpells
import Derived.WalkLawsBesides
import Derived.Lib.Hide
set_option linter.unusedSimpArgs false
set_option linter.unusedVariables false
namespace Go.Proofs.Ytgkpeehondmalaa
open Go.RowKit

theorem builder_info : (Try.prog.info? 53).map (·.size) = some 2 := by kernel_rfl
theorem builder_lies : liesAt Try.prog Try.prog.depth 53 (2 / Try.prog.cellsOf 53) 0 53 1 = true := by kernel_rfl
theorem byte_info : (Try.prog.info? 5).map (fun i => (i.zero, i.size, i.bytes)) = some (some (.int .u8 0), 1, 1) := by kernel_rfl

set_option maxHeartbeats 1000000 in
set_option maxRecDepth 100000 in
theorem copyCheck_used (b : Nat) (w : World) (h0 : w.cell? ⟨b, 0, none⟩ = some (.pointer (some ⟨b, 0, none⟩))) :
    Calls Try.prog 34 #[.pointer (some ⟨b, 0, none⟩)] w fun e w' => e = .returned (.tuple #[]) ∧ w' = w := by
  obtain ⟨j, hj, _⟩ := Option.map_eq_some_iff.1 builder_info
  go_enter Try.func34, Try.ntmps34
  go_wp2
  rw [Lib.run_neq_ptr_same w _ Try.underlying50 hj]
  go_wp2
  go_end0
  exact ⟨rfl, rfl⟩

set_option maxHeartbeats 1000000 in
set_option maxRecDepth 100000 in
theorem copyCheck_fresh (b : Nat) (w : World) (h0 : w.cell? ⟨b, 0, none⟩ = some (.pointer none)) (hsh : w.shape? b = some (53, 2)) (hfz : w.frozen? ⟨b, 0, none⟩ = false) :
    Calls Try.prog 34 #[.pointer (some ⟨b, 0, none⟩)] w fun e w' => e = .returned (.tuple #[]) ∧ w' = w.setCell ⟨b, 0, none⟩ (.pointer (some ⟨b, 0, none⟩)) := by
  obtain ⟨j, hj, hjs⟩ := Option.map_eq_some_iff.1 builder_info
  go_enter Try.func34, Try.ntmps34
  go_wp2
  rw [Lib.run_to_unsafe w ⟨b, 0, none⟩ Try.underlying50 Try.underlying68 hj (by rw [hjs]; decide) hsh (Nat.zero_lt_succ 1)]
  simp only [Result.andThen]
  rw [Oper.upon_value]
  go_wp2
  rw [run_callFunc_extern Try.func37 (by kernel_rfl) (by kernel_rfl) (by kernel_rfl) (e := Extern.AbiNoEscape.same) (by kernel_rfl)]
  rw [Lib.run_noEscape]
  simp only [Result.andThen]
  rw [Oper.upon_value]
  go_wp2
  rw [Lib.run_from_unsafe w ⟨b, 0, none⟩ Try.underlying68 Try.underlying50 hj hsh builder_lies]
  simp only [Result.andThen]
  rw [Oper.upon_value]
  go_wp2
  go_end0
  exact ⟨rfl, rfl⟩

/-- All blocks but b, of elements of another type, are as they were. -/
def Kept (b : Nat) (e : TypeId) (w w' : World) : Prop := ∀ x cs T fr, x ≠ b → T ≠ e → w.heap[x]? = some (.cells cs T fr) → w'.heap[x]? = some (.cells cs T fr)

theorem Kept.refl (b : Nat) (e : TypeId) (w : World) : Kept b e w w := fun _ _ _ _ _ _ h => h
theorem Kept.trans {b : Nat} {e : TypeId} {w w' w2 : World} (h : Kept b e w w') (h2 : Kept b e w' w2) : Kept b e w w2 := fun x cs T fr hx hT hh => h2 x cs T fr hx hT (h x cs T fr hx hT hh)
theorem Kept.below {b : Nat} {e : TypeId} {w w' : World} (h : Below w.heap.size w w') : Kept b e w w' := fun x cs T fr _ _ hh => by
  rw [h.block x (heap_lt hh)]; exact hh
theorem Kept.setCell {b : Nat} {e : TypeId} {w w' : World} (h : Kept b e w w') (o : Nat) (v : Value) : Kept b e w (w'.setCell ⟨b, o, none⟩ v) := fun x cs T fr hx hT hh => by
  rw [Below.heap_setCell _ _ _ _ hx]; exact h x cs T fr hx hT hh
theorem Kept.grown {b : Nat} {e : TypeId} {w w1 w' : World} {B n : Nat} {v : Value} {xs : List Value} (h : Kept b e w w1) (hown : w1.ownsRow B e 1 v n xs) (hg : w1.grownBy w' v.ownBlock) : Kept b e w w' := fun x cs T fr hx hT hh => by
  have h1 := h x cs T fr hx hT hh
  have hne := Lib.ownBlock_ne hown h1 hT
  rw [hg.block x (heap_lt h1) (fun e => hne e.symm)]; exact h1
theorem Kept.alloc {b : Nat} {e : TypeId} {w w' : World} (h : Kept b e w w') (o : Obj) : Kept b e w (w'.alloc o) := fun x cs T fr hx hT hh => by
  have h1 := h x cs T fr hx hT hh
  rw [Lib.alloc_old w' _ x (heap_lt h1)]; exact h1

/-- A cell that is there, behind a new block. -/
theorem cell_alloc {w : World} {b j : Nat} {v : Value} (h : w.cell? ⟨b, j, none⟩ = some v) (o : Obj) : (w.alloc o).cell? ⟨b, j, none⟩ = some v := by
  rw [((Below.refl w.heap.size w).alloc (Nat.le_refl _) o).cell (p := ⟨b, j, none⟩) (World.block_lt_of_cell? w _ h)]; exact h
theorem cell_below {w w' : World} {b j : Nat} {v : Value} (h : w.cell? ⟨b, j, none⟩ = some v) (hb : Below w.heap.size w w') : w'.cell? ⟨b, j, none⟩ = some v := by
  rw [hb.cell (p := ⟨b, j, none⟩) (World.block_lt_of_cell? w _ h)]; exact h

theorem copyCheckK (B b : Nat) (bs : List Value) (w : World) (h : Lib.IsBuilder 53 5 B b bs w) :
    Calls Try.prog 34 #[.pointer (some ⟨b, 0, none⟩)] w fun e w' => e = .returned (.tuple #[]) ∧ (Lib.BuilderAt 53 5 B b (.pointer (some ⟨b, 0, none⟩)) bs w' ∧ Below B w w' ∧ Kept b 5 w w') := by
  rcases h with h | h
  · refine (copyCheck_fresh b w h.cell0 h.shape h.frozen0).mono ?_
    rintro e w' ⟨rfl, rfl⟩
    exact ⟨rfl, h.used _, (Below.refl B w).setCell (p := ⟨b, 0, none⟩) h.1 _, (Kept.refl _ _ _).setCell _ _⟩
  · refine (copyCheck_used b w h.cell0).mono ?_
    rintro e w' ⟨rfl, rfl⟩
    exact ⟨rfl, h, Below.refl B _, Kept.refl _ _ _⟩

theorem copyCheck (B b : Nat) (bs : List Value) (w : World) (h : Lib.IsBuilder 53 5 B b bs w) :
    Calls Try.prog 34 #[.pointer (some ⟨b, 0, none⟩)] w fun e w' => e = .returned (.tuple #[]) ∧ (Lib.BuilderAt 53 5 B b (.pointer (some ⟨b, 0, none⟩)) bs w' ∧ Below B w w') :=
  (copyCheckK B b bs w h).mono fun _ _ ⟨a, b, c, _⟩ => ⟨a, b, c⟩

end Go.Proofs.Ytgkpeehondmalaa
