/-
  Texts put together: RkIs, IntoB, RcLf, RecC.
-/
import Derived.Test.YtlfofdgeaigpbaaBn1
import Derived.Test.YtlfofdgeaigpbaaRows
import Derived.WalkKit
import Derived.WalkSpells
import Derived.WalkLawsBesides
import Derived.Lib.Hide
import Derived.Outline
import Derived.IntWalk
import Derived.Test.YtlfofdgeaigpbaaBn4
import Derived.Test.YtlfofdgeaigpbaaRcM
set_option linter.unusedSimpArgs false
set_option linter.unusedVariables false
namespace Go.Proofs.Ytlfofdgeaigpbaa
open Go.RowKit


theorem all_take_succ (zs : List Int) (k : Nat) (h : k < zs.length) : (zs.take (k + 1)).all ofs = ((zs.take k).all ofs && ofs (zs.getD k 0)) := by
  rw [take_snoc zs k h, List.all_append]; simp

theorem all_take_bad (zs : List Int) (k len : Nat) (h : k < zs.length) (hk : k < len) (hb : ofs (zs.getD k 0) = false) : (zs.take len).all ofs = false := by
  rw [List.all_eq_false]
  refine ⟨zs.getD k 0, ?_, by rw [hb]; simp⟩
  rw [getD_at zs k h]
  rw [List.mem_take_iff_getElem]
  exact ⟨k, by omega, rfl⟩

set_option maxHeartbeats 400000 in
theorem off_any (a : Option Addr) (len cap : Nat) (zs : List Int) (w : World) (r : Bool) (h1 : len ≤ 100)
    (hr : IsRow .i64 w a len cap zs) (hall : (zs.take len).all ofs = r) :
    Calls Try.prog 51 #[.slice a len cap] w fun e w' => e = .returned (.bool r) ∧ w = w' := by
  go_enter Try.func51, Try.ntmps51
  go_wp2
  go_loop [7] (fun i => ∃ k : Nat, k ≤ len ∧ i = .int .i64 k ∧ Hid ((zs.take k).all ofs = true)) (fun i => len - (RowKit.intOf i).toNat)
  case atStart => exact ⟨0, Nat.zero_le _, rfl, Lib.hid rfl⟩
  case round =>
    obtain ⟨k, hk, rfl, HK⟩ := hrel
    by_cases hlt : k < len
    · obtain h0 | ⟨b, off, rfl, hcap, hm, hz, hc⟩ := hr
      · omega
      have hcell := hc k (by omega)
      have HS := Lib.hid (all_take_succ zs k (by omega))
      have HB := Lib.hid (all_take_bad zs k len (by omega) hlt)
      clear hc hz
      generalize zs.getD k 0 = x at hcell HS HB
      by_cases hx0 : x < 0
      · have hf := HB.out (ofs_low hx0)
        rw [hall] at hf
        subst hf
        go_wp2
        go_ret
        exact ⟨rfl, rfl⟩
      · by_cases hx1 : 4611686018427387903 < x
        · have hf := HB.out (ofs_high hx1)
          rw [hall] at hf
          subst hf
          go_wp2
          go_ret
          exact ⟨rfl, rfl⟩
        · have hx := ofs_mk (n := x) (by omega) (by omega)
          go_wp2
          exact ⟨⟨k + 1, by omega, by go_num, Lib.hid (by rw [HS.out, HK.out, hx]; rfl)⟩, by simp [RowKit.intOf]; omega⟩
    · obtain rfl : k = len := by omega
      have hf := HK.out
      rw [hall] at hf
      subst hf
      go_wp2
      go_ret
      exact ⟨rfl, rfl⟩

theorem row1 (w : World) (a : Int) (T : TypeId) : IsRow .i64 (w.alloc (.cells #[.int .i64 a] T)) (some ⟨w.heap.size, 0, none⟩) 1 1 [a] := by
  refine .inr ⟨w.heap.size, 0, rfl, by omega, by unfold maxLen; omega, rfl, fun i hi => ?_⟩
  obtain rfl : i = 0 := by omega
  rw [Nat.zero_add, World.cell?_alloc_new]
  rfl
theorem row2 (w : World) (a b : Int) (T : TypeId) : IsRow .i64 (w.alloc (.cells #[.int .i64 a, .int .i64 b] T)) (some ⟨w.heap.size, 0, none⟩) 2 2 [a, b] := by
  refine .inr ⟨w.heap.size, 0, rfl, by omega, by unfold maxLen; omega, rfl, fun i hi => ?_⟩
  rw [Nat.zero_add, World.cell?_alloc_new]
  obtain rfl | rfl : i = 0 ∨ i = 1 := by omega
  all_goals rfl
theorem row3 (w : World) (a b c : Int) (T : TypeId) : IsRow .i64 (w.alloc (.cells #[.int .i64 a, .int .i64 b, .int .i64 c] T)) (some ⟨w.heap.size, 0, none⟩) 3 3 [a, b, c] := by
  refine .inr ⟨w.heap.size, 0, rfl, by omega, by unfold maxLen; omega, rfl, fun i hi => ?_⟩
  rw [Nat.zero_add, World.cell?_alloc_new]
  obtain rfl | rfl | rfl : i = 0 ∨ i = 1 ∨ i = 2 := by omega
  all_goals rfl

theorem below_new (w : World) (o : Obj) : Below w.heap.size w (w.alloc o) := (Below.refl _ _).alloc (Nat.le_refl _) _

set_option maxHeartbeats 400000 in
theorem is_any (n : Int) (w : World) (r : Bool) (hr : ofs n = r) :
    Calls Try.prog 47 #[.int .i64 n] w fun e w' => e = .returned (.bool r) ∧ Below w.heap.size w w' := by
  go_enter Try.func47, Try.ntmps47
  go_wp2_with fail
  refine (off_any _ 1 1 [n] _ r (by omega) (row1 _ _ _) (by simpa using hr)).mono ?_
  rintro e w' ⟨rfl, rfl⟩
  go_wp2
  go_ret
  exact ⟨rfl, below_new _ _⟩

end Go.Proofs.Ytlfofdgeaigpbaa

namespace Go.Proofs.Ytlfofdgeaigpbaa
open Go.RowKit

theorem Into.trans {b : Nat} {u v w : World} (h : Into b u v) (k : Into b v w) : Into b u w := ⟨k.os.trans h.os, k.tape.trans h.tape, k.output.trans h.output, k.size.trans h.size, fun i hi => (k.block i hi).trans (h.block i hi)⟩
theorem Into.belowTo {b B : Nat} {w w' : World} (h : Into b w w') (hB : B ≤ b) : Below B w w' := ⟨h.os, h.tape, h.output, Nat.le_of_eq h.size.symm, fun k hk => h.block k (by omega)⟩
theorem But.into {base b : Nat} {w w' : World} (h : Into b w w') : But base b w w' := ⟨h.os, h.tape, h.output, Nat.le_of_eq h.size.symm, fun k _ hk => h.block k hk⟩
theorem But.less {B B' c : Nat} {w w' : World} (h : But B c w w') (hB : B' ≤ B) : But B' c w w' := ⟨h.os, h.tape, h.output, h.size, fun k hk => h.block k (by omega)⟩
end Go.Proofs.Ytlfofdgeaigpbaa

namespace Go.Proofs.Ytlfofdgeaigpbaa
open Go.RowKit

set_option maxHeartbeats 1000000 in
theorem rcleast_any (k : Int) (w : World) :
    Calls Try.prog 48 #[.int .i64 k] w fun e w' => e = .returned (.int .i64 (leastK k)) ∧ w' = w := by
  unfold leastK
  by_cases h5 : k = 5
  · subst h5
    rw [if_pos (.inl rfl)]
    go_enter Try.func48, Try.ntmps48
    go_wp2
    go_ret
    exact ⟨rfl, rfl⟩
  · by_cases h6 : k = 6
    · subst h6
      rw [if_pos (.inr rfl)]
      go_enter Try.func48, Try.ntmps48
      go_wp2
      go_ret
      exact ⟨rfl, rfl⟩
    · rw [if_neg (by omega)]
      have g5 : (k == 5) = false := by simpa using h5
      have g6 : (k == 6) = false := by simpa using h6
      clear h5 h6
      go_enter Try.func48, Try.ntmps48
      go_wp2
      go_ret
      exact ⟨rfl, rfl⟩

set_option maxHeartbeats 1000000 in
theorem rcfits_any (k n : Int) (w : World) (q : Bool) (hq : fitK k n = q) :
    Calls Try.prog 37 #[.int .i64 k, .int .i64 n] w fun e w' => e = .returned (.bool q) ∧ Below w.heap.size w w' := by
  unfold fitK at hq
  cases ho : ofs n with
  | false =>
    rw [ho] at hq
    subst hq
    have HI := Lib.hid (is_any n w false ho)
    clear ho
    go_enter Try.func37, Try.ntmps37
    go_wp2_with fail
    refine HI.out.mono ?_
    rintro e w1 ⟨rfl, hb1⟩
    go_wp2
    go_ret
    exact ⟨rfl, hb1⟩
  | true =>
    rw [ho, Bool.true_and] at hq
    have HI := Lib.hid (is_any n w true ho)
    have HL := Lib.hid (fun W => rcleast_any k W)
    generalize leastK k = m at hq HL
    clear ho
    go_enter Try.func37, Try.ntmps37
    go_wp2_with fail
    refine HI.out.mono ?_
    rintro e w1 ⟨rfl, hb1⟩
    have HB := Lib.hid hb1
    clear hb1 HI
    go_wp2_with fail
    refine (HL.out _).mono ?_
    rintro e w2 ⟨rfl, hw⟩
    obtain rfl := hw.symm
    clear hw
    go_wp2
    go_ret
    exact ⟨rfl, HB.out⟩

end Go.Proofs.Ytlfofdgeaigpbaa

namespace Go.Proofs.Ytlfofdgeaigpbaa
open Go.RowKit

/-- A record's cells. -/
theorem put_rec {w : World} {r : Nat} {T : TypeId} {u0 u1 u2 u3 : Value} (h : w.heap[r]? = some (.cells #[u0, u1, u2, u3] T (0, 0))) (x0 x1 x2 x3 : Value) :
    ((((w.setCell ⟨r, 0, none⟩ x0).setCell ⟨r, 1, none⟩ x1).setCell ⟨r, 2, none⟩ x2).setCell ⟨r, 3, none⟩ x3).heap[r]? = some (.cells #[x0, x1, x2, x3] T (0, 0)) := by
  rw [put_heap (put_heap (put_heap (put_heap h x0) x1) x2) x3]; rfl
theorem rec_reads {w : World} {r : Nat} {T : TypeId} {x0 x1 x2 x3 : Value} (h : w.heap[r]? = some (.cells #[x0, x1, x2, x3] T (0, 0))) :
    w.cell? ⟨r, 0, none⟩ = some x0 ∧ w.cell? ⟨r, 1, none⟩ = some x1 ∧ w.cell? ⟨r, 2, none⟩ = some x2 ∧ w.cell? ⟨r, 3, none⟩ = some x3 := by
  refine ⟨?_, ?_, ?_, ?_⟩ <;> rw [Lib.cell_of_heap h] <;> rfl
theorem rec_free {w : World} {r : Nat} {T : TypeId} {x0 x1 x2 x3 : Value} (h : w.heap[r]? = some (.cells #[x0, x1, x2, x3] T (0, 0))) :
    w.frozen? ⟨r, 0, none⟩ = false ∧ w.frozen? ⟨r, 1, none⟩ = false ∧ w.frozen? ⟨r, 2, none⟩ = false ∧ w.frozen? ⟨r, 3, none⟩ = false :=
  ⟨Lib.frozen_of_heap h 0, Lib.frozen_of_heap h 1, Lib.frozen_of_heap h 2, Lib.frozen_of_heap h 3⟩
theorem below_rec {B : Nat} {w w' : World} {r : Nat} (h : Below B w w') (hr : B ≤ r) (x0 x1 x2 x3 : Value) :
    Below B w ((((w'.setCell ⟨r, 0, none⟩ x0).setCell ⟨r, 1, none⟩ x1).setCell ⟨r, 2, none⟩ x2).setCell ⟨r, 3, none⟩ x3) :=
  (((h.setCell (p := ⟨r, 0, none⟩) hr _).setCell (p := ⟨r, 1, none⟩) hr _).setCell (p := ⟨r, 2, none⟩) hr _).setCell (p := ⟨r, 3, none⟩) hr _
end Go.Proofs.Ytlfofdgeaigpbaa
