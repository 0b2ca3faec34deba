/-
  The law's 'mine' of layer 4, walked: the program's frames out of the document's.
-/
import Derived.Test.YtgkhfdifgeboaaaFrS
import Derived.Test.YtgkhfdifgeboaaaFrJ
import Derived.Deep.RegionHeld3
import Derived.Deep.AppendLies
set_option linter.unusedSimpArgs false
set_option linter.unusedVariables false
namespace Go.Proofs.Ytgkhfdifgeboaaa
open Go.RowKit

/-- A slice of the call's own that holds these frames; nothing that was there is written. -/
def RetM (fs : List Fr) (w : World) (e : Ending) (w' : World) : Prop := ∃ (a : Option Addr) (cap : Nat), e = .returned (.slice a fs.length cap) ∧ IsFrames w' a fs.length fs ∧ Below w.heap.size w w'

theorem RetM.mk {fs : List Fr} {w w' : World} {e : Ending} {a : Option Addr} {cap : Nat} (he : e = .returned (.slice a fs.length cap)) (hf : IsFrames w' a fs.length fs) (hb : Below w.heap.size w w') : RetM fs w e w' := ⟨a, cap, he, hf, hb⟩

theorem frame_lt {w : World} {b off len k : Nat} {fs : List Fr} (h : IsFrames w (some ⟨b, off, none⟩) len fs) (hk : k < len) : b < w.heap.size := by
  obtain ⟨b', off', ha, f, _, h1, _⟩ := h.get k hk
  have : b = b' := by simpa using congrArg (fun x => x.map Addr.block) ha
  rw [this]
  exact World.block_lt_of_cell? w _ h1

set_option maxHeartbeats 2000000 in
theorem mine_any (a : Option Addr) (len cap : Nat) (fs : List Fr) (w : World) (hlen : len ≤ 1000) (hr : IsFrames w a len fs) :
    Calls Try.prog 8 #[.slice a len cap] w (RetM fs w) := by
  obtain ⟨i0, hi, hz0, hz1, hz2⟩ := info_parts frame_info
  have hfl := hr.1
  go_enter Try.func8, Try.ntmps8
  go_wp2_with fail
  go_loopw [3, 4] (fun v i wr => ∃ k : Nat, k ≤ len ∧ i = .int .i64 k ∧ wr.ownsRow w.heap.size 33 2 v k (frCells (fs.take k)) ∧ Below w.heap.size w wr) (fun _ i _ => len - (RowKit.intOf i).toNat)
  case atStart => exact ⟨0, Nat.zero_le _, rfl, World.ownsRow_nil _ _ _ _, Below.refl _ _⟩
  case round =>
    rename_i wr
    obtain ⟨k, hk, rfl, hown, hbe⟩ := hrel
    have hsz := hbe.size
    by_cases hlt : k < len
    · obtain ⟨b, off, f, rfl, hmem, hf, c0, c1⟩ := frame_at hr hbe k hlt
      have hkf : k < fs.length := by omega
      have HT : Hid (fs.take (k + 1) = fs.take k ++ [f]) := Lib.hid (by
        rw [List.take_succ_eq_append_getElem hkf]
        have := List.getElem?_eq_getElem hkf; rw [hf] at this
        rw [show fs[k] = f by simpa using this.symm])
      clear hmem hf
      have g0 : (0 : Int) ≤ (k : Int) := by omega
      have g1 : (k : Int) < (len : Int) := by omega
      obtain ⟨kd, d⟩ := f
      simp only at c0 c1
      go_wp2_with fail
      have hbb := frame_lt hr hlt
      have ag : u3.ownBlock ≠ some b := fun h => by have := (hown.lt b h).1; omega
      go_region_held3 (fun w' => w'.cell? ⟨b, off + k * 2, none⟩ = some (.int .i64 kd) ∧ w'.cell? ⟨b, off + k * 2 + 1, none⟩ = some (.string d))
        (first
          | go_keep
          | (go_split_ands
             refine ⟨?_, ?_⟩
             · (rw [hgrow.cell_far _ (by simp; omega) (Ne.symm ag)]; assumption)
             · (rw [hgrow.cell_far _ (by simp; omega) (Ne.symm ag)]; assumption)))
        ((refine step_append_lies _ (by rfl) _ _ _ (by rfl) w.heap.size 33 i0 _ 2 24 Try.underlying25 hi hz0 hz1 hz2 rfl (by omega) u3 k (frCells (fs.take k)) (by rfl) ((hown.alloc _).drew)
            ⟨wr.heap.size, 0, none⟩ 1 1 [.int .i64 kd, .string d] (by rfl) (by rfl) (World.news_of_block (cs := #[.int .i64 kd, .string d]) (t := 33) (fr := (0, 0)) (heap_alloc_new wr _)) (by simp [Value.oneCell'])
            (by omega) (by unfold maxLen; omega) (by omega) (by simp; omega) (wr.heap.size + 1) (by simp) ?_; intro gg cap' w1 hown1 hgrow hat hlt'))
      have hb1 : Below w.heap.size w w1 := (hbe.alloc hsz _).drew.grown hgrow (by simp; omega) (fun k hk => (hown.lt k hk).1)
      clear hgrow hat ag hlt'
      go_wp2
      exact ⟨⟨k + 1, by omega, by go_num, by rw [HT.out, frCells_snoc]; exact hown1, hb1⟩, by simp [RowKit.intOf]; omega⟩
    · obtain rfl : k = len := by omega
      obtain ⟨ao, cp, rfl, hfr⟩ := owns_frames hown (by rw [List.length_take]; omega)
      have hT : fs.take k = fs := by rw [← hfl, List.take_length]
      rw [hT] at hfr
      clear hown hT
      go_wp2
      go_ret
      exact RetM.mk (a := ao) (cap := cp) (by rw [hfl]; rfl) (by rw [hfl]; exact hfr) hbe
end Go.Proofs.Ytgkhfdifgeboaaa
