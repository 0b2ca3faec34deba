/-
  reckon.areOffsets, Is: walked.
-/
import Derived.Test.YtbaifcbjkmmnbaaRkM
import Derived.Test.YtbaifcbjkmmnbaaRows
import Derived.WalkKit
import Derived.WalkSpells
import Derived.WalkLawsBesides
import Derived.Lib.Hide
import Derived.Outline
import Derived.IntWalk
set_option linter.unusedSimpArgs false
set_option linter.unusedVariables false
namespace Go.Proofs.Ytbaifcbjkmmnbaa
open Go.RowKit


theorem all_take_succ (zs : List Int) (k : Nat) (h : k < zs.length) : (zs.take (k + 1)).all ofs = ((zs.take k).all ofs && ofs (zs.getD k 0)) := by
  rw [take_snoc zs k h, List.all_append]; simp

theorem all_take_bad (zs : List Int) (k len : Nat) (h : k < zs.length) (hk : k < len) (hb : ofs (zs.getD k 0) = false) : (zs.take len).all ofs = false := by
  rw [List.all_eq_false]
  refine ⟨zs.getD k 0, ?_, by rw [hb]; simp⟩
  rw [getD_at zs k h]
  rw [List.mem_take_iff_getElem]
  exact ⟨k, by omega, rfl⟩

set_option maxHeartbeats 400000 in
theorem off_any (a : Option Addr) (len cap : Nat) (zs : List Int) (w : World) (r : Bool) (h1 : len ≤ 100)
    (hr : IsRow .i64 w a len cap zs) (hall : (zs.take len).all ofs = r) :
    Calls Try.prog 32 #[.slice a len cap] w fun e w' => e = .returned (.bool r) ∧ w = w' := by
  go_enter Try.func32, Try.ntmps32
  go_wp2
  go_loop [7] (fun i => ∃ k : Nat, k ≤ len ∧ i = .int .i64 k ∧ Hid ((zs.take k).all ofs = true)) (fun i => len - (RowKit.intOf i).toNat)
  case atStart => exact ⟨0, Nat.zero_le _, rfl, Lib.hid rfl⟩
  case round =>
    obtain ⟨k, hk, rfl, HK⟩ := hrel
    by_cases hlt : k < len
    · obtain h0 | ⟨b, off, rfl, hcap, hm, hz, hc⟩ := hr
      · omega
      have hcell := hc k (by omega)
      have HS := Lib.hid (all_take_succ zs k (by omega))
      have HB := Lib.hid (all_take_bad zs k len (by omega) hlt)
      clear hc hz
      generalize zs.getD k 0 = x at hcell HS HB
      by_cases hx0 : x < 0
      · have hf := HB.out (ofs_low hx0)
        rw [hall] at hf
        subst hf
        go_wp2
        go_ret
        exact ⟨rfl, rfl⟩
      · by_cases hx1 : 4611686018427387903 < x
        · have hf := HB.out (ofs_high hx1)
          rw [hall] at hf
          subst hf
          go_wp2
          go_ret
          exact ⟨rfl, rfl⟩
        · have hx := ofs_mk (n := x) (by omega) (by omega)
          go_wp2
          exact ⟨⟨k + 1, by omega, by go_num, Lib.hid (by rw [HS.out, HK.out, hx]; rfl)⟩, by simp [RowKit.intOf]; omega⟩
    · obtain rfl : k = len := by omega
      have hf := HK.out
      rw [hall] at hf
      subst hf
      go_wp2
      go_ret
      exact ⟨rfl, rfl⟩

theorem row1 (w : World) (a : Int) (T : TypeId) : IsRow .i64 (w.alloc (.cells #[.int .i64 a] T)) (some ⟨w.heap.size, 0, none⟩) 1 1 [a] := by
  refine .inr ⟨w.heap.size, 0, rfl, by omega, by unfold maxLen; omega, rfl, fun i hi => ?_⟩
  obtain rfl : i = 0 := by omega
  rw [Nat.zero_add, World.cell?_alloc_new]
  rfl
theorem row2 (w : World) (a b : Int) (T : TypeId) : IsRow .i64 (w.alloc (.cells #[.int .i64 a, .int .i64 b] T)) (some ⟨w.heap.size, 0, none⟩) 2 2 [a, b] := by
  refine .inr ⟨w.heap.size, 0, rfl, by omega, by unfold maxLen; omega, rfl, fun i hi => ?_⟩
  rw [Nat.zero_add, World.cell?_alloc_new]
  obtain rfl | rfl : i = 0 ∨ i = 1 := by omega
  all_goals rfl
theorem row3 (w : World) (a b c : Int) (T : TypeId) : IsRow .i64 (w.alloc (.cells #[.int .i64 a, .int .i64 b, .int .i64 c] T)) (some ⟨w.heap.size, 0, none⟩) 3 3 [a, b, c] := by
  refine .inr ⟨w.heap.size, 0, rfl, by omega, by unfold maxLen; omega, rfl, fun i hi => ?_⟩
  rw [Nat.zero_add, World.cell?_alloc_new]
  obtain rfl | rfl | rfl : i = 0 ∨ i = 1 ∨ i = 2 := by omega
  all_goals rfl

theorem below_new (w : World) (o : Obj) : Below w.heap.size w (w.alloc o) := (Below.refl _ _).alloc (Nat.le_refl _) _

set_option maxHeartbeats 400000 in
theorem is_any (n : Int) (w : World) (r : Bool) (hr : ofs n = r) :
    Calls Try.prog 26 #[.int .i64 n] w fun e w' => e = .returned (.bool r) ∧ Below w.heap.size w w' := by
  go_enter Try.func26, Try.ntmps26
  go_wp2_with fail
  refine (off_any _ 1 1 [n] _ r (by omega) (row1 _ _ _) (by simpa using hr)).mono ?_
  rintro e w' ⟨rfl, rfl⟩
  go_wp2
  go_ret
  exact ⟨rfl, below_new _ _⟩

end Go.Proofs.Ytbaifcbjkmmnbaa
