/-
  The document's own answers for layer 4: Put of a frame without fault (a drawn region: two minutes and more), walked.
-/
import Derived.Test.YtjmaccflnfaiiaaBn13
import Derived.Test.YtjmaccflnfaiiaaFrM
import Derived.Test.YtjmaccflnfaiiaaBn5
import Derived.Deep.RegionWith
import Derived.Deep.DrawnRows
set_option linter.unusedSimpArgs false
set_option linter.unusedVariables false
namespace Go.Proofs.Ytjmaccflnfaiiaa
open Go.RowKit
attribute [local go_sem ↓] Go.wp_at_zero Go.wp_at_succ

theorem frB_bytes (k : Int) (d : ByteArray) : (⟨#[vb k]⟩ : ByteArray) ++ ⟨(vput (d.size : Int)).toArray⟩ ++ d = ⟨(frB (k, d)).toArray⟩ := by
  obtain ⟨⟨l⟩⟩ := d
  rw [ByteArray.mk_append_mk, ByteArray.mk_append_mk]
  simp [frB]

theorem ret_frB (k : Int) (d : ByteArray) : Ending.returned (.tuple #[.string ((⟨#[vb k]⟩ : ByteArray) ++ ⟨(vput (d.size : Int)).toArray⟩ ++ d), .int .i64 0]) = .returned (.tuple #[.string ⟨(frB (k, d)).toArray⟩, .int .i64 0]) := by
  rw [frB_bytes]

theorem below_q1 {w w1 : World} {X o : Obj} (hb : Below ((w.alloc X).alloc o).drew.heap.size ((w.alloc X).alloc o).drew w1) : Below w.heap.size w w1 :=
  (((Below.refl _ _).alloc (Nat.le_refl _) _).alloc (by simp) _).drew.trans (hb.mono (by simp; omega))
theorem below_q3 {w w1 : World} {X : Obj} (hb : Below (w.alloc X).drew.heap.size (w.alloc X).drew w1) (o : Obj) : Below w.heap.size w (w1.alloc o) :=
  (((Below.refl _ _).alloc (Nat.le_refl _) _).drew.trans (hb.mono (by simp))).alloc (by have := hb.size; simp at this; omega) _

set_option maxHeartbeats 16000000 in
theorem rfrput_ok (f : Fr) (w : World) (he : frE f = 0) :
    Calls Try.prog 44 #[.agg #[.int .i64 f.1, .string f.2]] w fun e w' => e = .returned (.tuple #[.string ⟨(frB f).toArray⟩, .int .i64 0]) ∧ Below w.heap.size w w' := by
  obtain ⟨h1, h2, h3⟩ := frE_parts f he
  clear he
  have hB : Hid (frB f = vb f.1 :: (vput (f.2.size : Int) ++ f.2.data.toList)) := Lib.hid rfl
  obtain ⟨k, d⟩ := f
  simp only at h1 h2 h3 hB
  have hd : decide (127 < k) = false := by simp; omega
  have hlen := vput_length (d.size : Int) (by omega)
  have e4 : IntKind.u8.wrap k = k := by rw [IntKind.wrap_u8]; omega
  have hconv : ∀ (W : World) (b : Nat), W.cell? ⟨b, 0, none⟩ = some (.int .u8 k) → (convert 50 9 (.slice (some ⟨b, 0, none⟩) 1 1)).run Try.prog W = .ok (.string ⟨#[vb k]⟩) W :=
    fun W b hc => one_back W b _ (by omega) (by omega) hc
  have hX0 : (w.alloc (.cells #[.int .i64 k, .string d] 77)).cell? ⟨w.heap.size, 0, none⟩ = some (.int .i64 k) := Lib.cell_of_heap (heap_alloc_new w _) 0
  have hX1 : (w.alloc (.cells #[.int .i64 k, .string d] 77)).cell? ⟨w.heap.size, 1, none⟩ = some (.string d) := Lib.cell_of_heap (heap_alloc_new w _) 1
  have hA0 : ∀ o, ((w.alloc (.cells #[.int .i64 k, .string d] 77)).alloc o).cell? ⟨w.heap.size, 0, none⟩ = some (.int .i64 k) := fun o => cell_alloc (Lib.cell_of_heap (heap_alloc_new w _) 0) o
  have hA1 : ∀ o, ((w.alloc (.cells #[.int .i64 k, .string d] 77)).alloc o).cell? ⟨w.heap.size, 1, none⟩ = some (.string d) := fun o => cell_alloc (Lib.cell_of_heap (heap_alloc_new w _) 1) o
  go_enter Try.func44, Try.ntmps44
  go_wp2_with fail
  go_region_with (go_at_call 51; refine (refput_any _ (d.size : Int) _ (Nat.le_refl _) (by omega)).mono ?_; rintro e w2 ⟨rfl, hb2⟩; (have hq0 : w2.cell? ⟨w.heap.size, 0, none⟩ = some (.int .i64 k) := cell_below (by simp [World.cell?_alloc_new, hA0, hX0]) hb2); (have hq1 : w2.cell? ⟨w.heap.size, 1, none⟩ = some (.string d) := cell_below (by simp [hA1, hX1]) hb2); (have hp0 := cell_alloc hq0); (have hp1 := cell_alloc hq1); (obtain ⟨hc, hf⟩ := bcell hb2))
  all_goals go_wp2
  all_goals go_ret2
  all_goals refine ⟨ret_frB k d, ?_⟩
  all_goals first | exact below_q1 hb2 | exact below_q3 hb2 _
end Go.Proofs.Ytjmaccflnfaiiaa
