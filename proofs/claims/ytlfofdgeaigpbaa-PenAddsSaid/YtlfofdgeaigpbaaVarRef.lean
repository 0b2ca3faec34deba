/-
  The document's own answers for layer 2: Put and Take, walked.
-/
import Derived.Test.YtlfofdgeaigpbaaVarM
import Derived.Test.YtlfofdgeaigpbaaRows
import Derived.WalkKit
import Derived.WalkSpells
import Derived.WalkLawsBesides
import Derived.Lib.Hide
import Derived.Outline
import Derived.IntWalk
import Derived.Lib.UnsafeStr
import Derived.Deep.RegionWith
import Derived.BigQuiet
import Derived.Deep.QuietTactic
set_option linter.unusedSimpArgs false
set_option linter.unusedVariables false
namespace Go.Proofs.Ytlfofdgeaigpbaa
open Go.RowKit

/-- 'string(b)' of a slice that holds one byte. -/
theorem one_back (W : World) (b : Nat) (n : Int) (h0 : 0 ≤ n) (h : n < 256) (hc : W.cell? ⟨b, 0, none⟩ = some (.int .u8 n)) :
    (convert 55 9 (.slice (some ⟨b, 0, none⟩) 1 1)).run Try.prog W = .ok (.string ⟨#[vb n]⟩) W := by
  refine run_convert_bytes_back W 55 9 5 ⟨b, 0, none⟩ 1 [vb n] Try.underlying55 Try.underlying5 Try.underlying9 (fun j hj => ?_)
  obtain rfl : j = 0 := by simp at hj; omega
  rw [show (⟨b, 0, none⟩ : Addr).add 0 = ⟨b, 0, none⟩ from by simp [Addr.add]]
  simp only [List.getElem_cons_zero]
  rw [vb_toNat n h0 h]
  exact hc

theorem bcell {W w1 : World} (hb : Below W.heap.size W w1) : (∀ b o, b < W.heap.size → w1.cell? ⟨b, o, none⟩ = W.cell? ⟨b, o, none⟩) ∧ (∀ b o, b < W.heap.size → w1.frozen? ⟨b, o, none⟩ = W.frozen? ⟨b, o, none⟩) :=
  ⟨fun b o h => hb.cell (p := ⟨b, o, none⟩) h, fun b o h => hb.frozen (p := ⟨b, o, none⟩) h⟩

theorem below_o1 {w w1 : World} {o : Obj} (hb : Below (w.alloc o).drew.heap.size (w.alloc o).drew w1) : Below w.heap.size w w1 :=
  ((Below.refl _ _).alloc (Nat.le_refl _) _).drew.trans (hb.mono (by simp))
theorem below_o3 {w w1 : World} (hb : Below w.drew.heap.size w.drew w1) (o : Obj) : Below w.heap.size w (w1.alloc o) :=
  ((Below.refl _ _).drew.trans hb).alloc (by have := hb.size; simpa using this) _

set_option maxHeartbeats 400000 in
set_option maxRecDepth 100000 in
theorem refput_neg (n : Int) (w : World) (hn : n < 0) :
    Calls Try.prog 29 #[.int .i64 n] w fun e w' => e = .returned (.string ⟨(vput n).toArray⟩) ∧ Below w.heap.size w w' := by
  have hv := Lib.hid (vput_neg n hn)
  go_enter Try.func29, Try.ntmps29
  go_wp2_with fail
  go_ret
  exact ⟨by rw [hv.out]; rfl, Below.refl _ _⟩

set_option maxHeartbeats 400000 in
set_option maxRecDepth 100000 in
theorem refput_small (n : Int) (w : World) (h0 : 0 ≤ n) (hn : n < 128) :
    Calls Try.prog 29 #[.int .i64 n] w fun e w' => e = .returned (.string ⟨(vput n).toArray⟩) ∧ Below w.heap.size w w' := by
  have hv := Lib.hid (vput_small n h0 hn)
  go_enter Try.func29, Try.ntmps29
  go_wp2_with fail
  rw [one_back (w.alloc (.cells #[.int .u8 n] 5)) w.heap.size n h0 (by omega) (by rw [World.cell?_alloc_new]; rfl)]
  simp only [Result.andThen]
  rw [Oper.upon_value]
  go_wp2
  go_ret
  exact ⟨by rw [hv.out]; rfl, (Below.refl _ _).alloc (Nat.le_refl _) _⟩

set_option maxHeartbeats 1000000 in
set_option maxRecDepth 100000 in
theorem refput_any (k : Nat) : ∀ (n : Int) (w : World), n.toNat ≤ k → n ≤ 9223372036854775807 →
    Calls Try.prog 29 #[.int .i64 n] w fun e w' => e = .returned (.string ⟨(vput n).toArray⟩) ∧ Below w.heap.size w w' := by
  induction k with
  | zero =>
    intro n w hk h1
    by_cases hn : n < 0
    · exact refput_neg n w hn
    · exact refput_small n w (by omega) (by omega)
  | succ k ih =>
    intro n w hk h1
    by_cases hn : n < 0
    · exact refput_neg n w hn
    · by_cases h128 : n < 128
      · exact refput_small n w (by omega) h128
      · have IH := Lib.hid (fun w => ih (n / 128) w (by omega) (by omega))
        clear ih
        have hv := Lib.hid (vput_big n (by omega))
        have hlen := vput_length (n / 128) (by omega)
        have e1 : n.tmod 128 = n % 128 := Int.tmod_eq_emod_of_nonneg (by omega)
        have e2 : n.tdiv 128 = n / 128 := Int.tdiv_eq_ediv_of_nonneg (by omega)
        have e3 : IntKind.i64.wrap (n % 128 + 128) = n % 128 + 128 := IntWalk.i64_in _ (by omega)
        have e4 : IntKind.u8.wrap (n % 128 + 128) = n % 128 + 128 := by rw [IntKind.wrap_u8]; omega
        have e5 : IntKind.i64.wrap (n / 128) = n / 128 := IntWalk.i64_in _ (by omega)
        have hconv : ∀ (W : World) (b : Nat), W.cell? ⟨b, 0, none⟩ = some (.int .u8 (n % 128 + 128)) → (convert 55 9 (.slice (some ⟨b, 0, none⟩) 1 1)).run Try.prog W = .ok (.string ⟨#[vb (n % 128 + 128)]⟩) W :=
          fun W b hc => one_back W b _ (by omega) (by omega) hc
        go_enter Try.func29, Try.ntmps29
        go_wp2_with fail
        go_region_with (go_at_call 29; refine (IH.out _).mono ?_; rintro e w1 ⟨rfl, hb1⟩; obtain ⟨hc, hf⟩ := bcell hb1)
        all_goals go_wp2
        all_goals go_ret
        all_goals refine ⟨by rw [hv.out]; simp [ByteArray.mk_append_mk]; rfl, ?_⟩
        all_goals first | exact below_o1 hb1 | exact below_o3 hb1 _

/-- Take's answer: number, size, error; the world as it was. -/
def RetT (n s x : Int) (w : World) (e : Ending) (w' : World) : Prop := e = .returned (.tuple #[.int .i64 n, .int .i64 s, .int .i64 x]) ∧ w = w'

theorem RetT.mk {n s x : Int} {w : World} {e : Ending} (h : e = .returned (.tuple #[.int .i64 n, .int .i64 s, .int .i64 x])) : RetT n s x w e w := ⟨h, rfl⟩

end Go.Proofs.Ytlfofdgeaigpbaa
