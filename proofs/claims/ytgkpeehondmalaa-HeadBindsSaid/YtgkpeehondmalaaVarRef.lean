/-
  The document's own answers for layer 2: Put and Take, walked.
-/
import Derived.Test.YtgkpeehondmalaaVarM
import Derived.Test.YtgkpeehondmalaaRows
import Derived.WalkKit
import Derived.WalkSpells
import Derived.WalkLawsBesides
import Derived.Lib.Hide
import Derived.Outline
import Derived.IntWalk
import Derived.Lib.UnsafeStr
import Derived.Deep.RegionWith
import Derived.BigQuiet
import Derived.Deep.QuietTactic
set_option linter.unusedSimpArgs false
set_option linter.unusedVariables false
namespace Go.Proofs.Ytgkpeehondmalaa
open Go.RowKit

/-- 'string(b)' of a slice that holds one byte. -/
theorem one_back (W : World) (b : Nat) (n : Int) (h0 : 0 ≤ n) (h : n < 256) (hc : W.cell? ⟨b, 0, none⟩ = some (.int .u8 n)) :
    (convert 51 9 (.slice (some ⟨b, 0, none⟩) 1 1)).run Try.prog W = .ok (.string ⟨#[vb n]⟩) W := by
  refine run_convert_bytes_back W 51 9 5 ⟨b, 0, none⟩ 1 [vb n] Try.underlying51 Try.underlying5 Try.underlying9 (fun j hj => ?_)
  obtain rfl : j = 0 := by simp at hj; omega
  rw [show (⟨b, 0, none⟩ : Addr).add 0 = ⟨b, 0, none⟩ from by simp [Addr.add]]
  simp only [List.getElem_cons_zero]
  rw [vb_toNat n h0 h]
  exact hc

theorem bcell {W w1 : World} (hb : Below W.heap.size W w1) : (∀ b o, b < W.heap.size → w1.cell? ⟨b, o, none⟩ = W.cell? ⟨b, o, none⟩) ∧ (∀ b o, b < W.heap.size → w1.frozen? ⟨b, o, none⟩ = W.frozen? ⟨b, o, none⟩) :=
  ⟨fun b o h => hb.cell (p := ⟨b, o, none⟩) h, fun b o h => hb.frozen (p := ⟨b, o, none⟩) h⟩

theorem below_o1 {w w1 : World} {o : Obj} (hb : Below (w.alloc o).drew.heap.size (w.alloc o).drew w1) : Below w.heap.size w w1 :=
  ((Below.refl _ _).alloc (Nat.le_refl _) _).drew.trans (hb.mono (by simp))
theorem below_o3 {w w1 : World} (hb : Below w.drew.heap.size w.drew w1) (o : Obj) : Below w.heap.size w (w1.alloc o) :=
  ((Below.refl _ _).drew.trans hb).alloc (by have := hb.size; simpa using this) _

set_option maxHeartbeats 400000 in
set_option maxRecDepth 100000 in
theorem refput_neg (n : Int) (w : World) (hn : n < 0) :
    Calls Try.prog 24 #[.int .i64 n] w fun e w' => e = .returned (.string ⟨(vput n).toArray⟩) ∧ Below w.heap.size w w' := by
  have hv := Lib.hid (vput_neg n hn)
  go_enter Try.func24, Try.ntmps24
  go_wp2_with fail
  go_ret
  exact ⟨by rw [hv.out]; rfl, Below.refl _ _⟩

set_option maxHeartbeats 400000 in
set_option maxRecDepth 100000 in
theorem refput_small (n : Int) (w : World) (h0 : 0 ≤ n) (hn : n < 128) :
    Calls Try.prog 24 #[.int .i64 n] w fun e w' => e = .returned (.string ⟨(vput n).toArray⟩) ∧ Below w.heap.size w w' := by
  have hv := Lib.hid (vput_small n h0 hn)
  go_enter Try.func24, Try.ntmps24
  go_wp2_with fail
  rw [one_back (w.alloc (.cells #[.int .u8 n] 5)) w.heap.size n h0 (by omega) (by rw [World.cell?_alloc_new]; rfl)]
  simp only [Result.andThen]
  rw [Oper.upon_value]
  go_wp2
  go_ret
  exact ⟨by rw [hv.out]; rfl, (Below.refl _ _).alloc (Nat.le_refl _) _⟩

set_option maxHeartbeats 1000000 in
set_option maxRecDepth 100000 in
theorem refput_any (k : Nat) : ∀ (n : Int) (w : World), n.toNat ≤ k → n ≤ 9223372036854775807 →
    Calls Try.prog 24 #[.int .i64 n] w fun e w' => e = .returned (.string ⟨(vput n).toArray⟩) ∧ Below w.heap.size w w' := by
  induction k with
  | zero =>
    intro n w hk h1
    by_cases hn : n < 0
    · exact refput_neg n w hn
    · exact refput_small n w (by omega) (by omega)
  | succ k ih =>
    intro n w hk h1
    by_cases hn : n < 0
    · exact refput_neg n w hn
    · by_cases h128 : n < 128
      · exact refput_small n w (by omega) h128
      · have IH := Lib.hid (fun w => ih (n / 128) w (by omega) (by omega))
        clear ih
        have hv := Lib.hid (vput_big n (by omega))
        have hlen := vput_length (n / 128) (by omega)
        have e1 : n.tmod 128 = n % 128 := Int.tmod_eq_emod_of_nonneg (by omega)
        have e2 : n.tdiv 128 = n / 128 := Int.tdiv_eq_ediv_of_nonneg (by omega)
        have e3 : IntKind.i64.wrap (n % 128 + 128) = n % 128 + 128 := IntWalk.i64_in _ (by omega)
        have e4 : IntKind.u8.wrap (n % 128 + 128) = n % 128 + 128 := by rw [IntKind.wrap_u8]; omega
        have e5 : IntKind.i64.wrap (n / 128) = n / 128 := IntWalk.i64_in _ (by omega)
        have hconv : ∀ (W : World) (b : Nat), W.cell? ⟨b, 0, none⟩ = some (.int .u8 (n % 128 + 128)) → (convert 51 9 (.slice (some ⟨b, 0, none⟩) 1 1)).run Try.prog W = .ok (.string ⟨#[vb (n % 128 + 128)]⟩) W :=
          fun W b hc => one_back W b _ (by omega) (by omega) hc
        go_enter Try.func24, Try.ntmps24
        go_wp2_with fail
        go_region_with (go_at_call 24; refine (IH.out _).mono ?_; rintro e w1 ⟨rfl, hb1⟩; obtain ⟨hc, hf⟩ := bcell hb1)
        all_goals go_wp2
        all_goals go_ret
        all_goals refine ⟨by rw [hv.out]; simp [ByteArray.mk_append_mk]; rfl, ?_⟩
        all_goals first | exact below_o1 hb1 | exact below_o3 hb1 _

/-- Take's answer: number, size, error; the world as it was. -/
def RetT (n s x : Int) (w : World) (e : Ending) (w' : World) : Prop := e = .returned (.tuple #[.int .i64 n, .int .i64 s, .int .i64 x]) ∧ w = w'

theorem RetT.mk {n s x : Int} {w : World} {e : Ending} (h : e = .returned (.tuple #[.int .i64 n, .int .i64 s, .int .i64 x])) : RetT n s x w e w := ⟨h, rfl⟩

theorem digit_sum (v : Nat) (c : UInt8) (h : v < 72057594037927936) : wrap64 ((v : Int) * 128 + (wrap64 (c.toNat : Int)).tmod 128) = ((c.toNat % 128 + 128 * v : Nat) : Int) := by
  have hc := c.toNat_lt
  rw [IntWalk.wrap64_in (c.toNat : Int) ⟨by omega, by omega⟩, Int.tmod_eq_emod_of_nonneg (by omega), IntWalk.wrap64_in _ ⟨by omega, by omega⟩]
  omega

set_option maxHeartbeats 1000000 in
set_option maxRecDepth 100000 in
theorem reftake_any (l : List UInt8) (w : World) (hlen : l.length ≤ 9223372036854775807) :
    Calls Try.prog 28 #[.string ⟨l.toArray⟩] w (RetT (tN l) (tS l) (tE l) w) := by
  have HS := Lib.hid (bsize l)
  have hle := hi_le l
  go_enter Try.func28, Try.ntmps28
  go_wp2
  go_loop [5] (fun i => ∃ k : Nat, k ≤ hi l ∧ i = .int .i64 k) (fun i => hi l - (RowKit.intOf i).toNat)
  case atStart => exact ⟨0, Nat.zero_le _, rfl⟩
  case round =>
    obtain ⟨k, hk, rfl⟩ := hrel
    by_cases hlt : k < hi l
    · have hb := hi_high l k (by omega) hlt
      have hsz : k < (⟨l.toArray⟩ : ByteArray).size := by rw [HS.out]; omega
      have ha := byteAt l k (by omega) hsz
      have hg : 128 ≤ (((⟨l.toArray⟩ : ByteArray)[k]'hsz).toNat : Int) := by rw [ha]; omega
      clear ha
      go_wp2
      exact ⟨⟨k + 1, by omega, by go_num⟩, by simp [RowKit.intOf]; omega⟩
    · obtain rfl : k = hi l := by omega
      clear hk hlt
      by_cases hend : hi l = l.length
      · have hsz : ¬ hi l < (⟨l.toArray⟩ : ByteArray).size := by rw [HS.out]; omega
        by_cases h9 : 9 ≤ hi l
        · have HT := Lib.hid (t_long l h9)
          clear hend
          go_wp2
          go_ret3
          exact RetT.mk (by rw [HT.out.1, HT.out.2.1, HT.out.2.2]; rfl)
        · have HT := Lib.hid (t_short l h9 hend)
          have HE := Lib.hid hend
          clear hend
          have he : ((hi l : Int) == (l.length : Int)) = true := by rw [HE.out]; simp
          go_wp2
          go_ret3
          exact RetT.mk (by rw [HT.out.1, HT.out.2.1, HT.out.2.2]; rfl)
      · have hlt : hi l < l.length := by omega
        have hsz : hi l < (⟨l.toArray⟩ : ByteArray).size := by rw [HS.out]; omega
        have ha := byteAt l (hi l) hlt hsz
        have hg : ¬ 128 ≤ (((⟨l.toArray⟩ : ByteArray)[hi l]'hsz).toNat : Int) := by rw [ha]; have := hi_low l hlt; omega
        have he : ((hi l : Int) == (l.length : Int)) = false := by simp; omega
        by_cases h9 : 9 ≤ hi l
        · have HT := Lib.hid (t_long l h9)
          clear ha
          go_wp2
          go_ret3
          exact RetT.mk (by rw [HT.out.1, HT.out.2.1, HT.out.2.2]; rfl)
        · by_cases hz : l[hi l].toNat = 0 ∧ 0 < hi l
          · have HT := Lib.hid (t_form l h9 hlt hz.1 hz.2)
            have hpos := hz.2
            have hq : ((((⟨l.toArray⟩ : ByteArray)[hi l]'hsz).toNat : Int) == 0) = true := by rw [ha, hz.1]; rfl
            clear ha hz
            go_wp2
            go_ret3
            exact RetT.mk (by rw [HT.out.1, HT.out.2.1, HT.out.2.2]; rfl)
          · have HT := Lib.hid (t_ok l h9 hlt (by omega))
            have hw : ∃ b : Bool, ((((⟨l.toArray⟩ : ByteArray)[hi l]'hsz).toNat : Int) == 0) = b ∧ (b = true → ¬ 0 < hi l) :=
              ⟨_, rfl, fun h hp => hz ⟨by rw [ha] at h; simpa using h, hp⟩⟩
            obtain ⟨b, hq, hp⟩ := hw
            clear ha hz
            cases b
            · clear hp
              go_wp2
              go_loop [6, 7] (fun n i => ∃ j : Nat, j ≤ hi l + 1 ∧ i = .int .i64 ((j : Int) - 1) ∧ n = .int .i64 (upto l j)) (fun _ i => (RowKit.intOf i + 1).toNat)
              case atStart => exact ⟨hi l + 1, Nat.le_refl _, by go_num, by rw [upto_end]; rfl⟩
              case round =>
                obtain ⟨j, hj, rfl, rfl⟩ := hrel
                by_cases h0 : j = 0
                · subst h0
                  have HV := Lib.hid (upto_all l)
                  rw [show (((0 : Nat) : Int) - 1) = -1 from rfl]
                  go_wp2
                  go_ret3
                  exact RetT.mk (by rw [HT.out.1, HT.out.2.1, HT.out.2.2, ← HV.out]; rfl)
                · obtain ⟨i, rfl⟩ : ∃ i, j = i + 1 := ⟨j - 1, by omega⟩
                  have hub := upto_lt l (i + 1) (by omega) h9
                  have HU := Lib.hid (upto_step l i (by omega) hlt)
                  have hsi : i < (⟨l.toArray⟩ : ByteArray).size := by rw [HS.out]; omega
                  have HA := Lib.hid (byteAt l i (by omega) hsi)
                  rw [show (((i + 1 : Nat) : Int) - 1) = (i : Int) from by omega]
                  generalize upto l (i + 1) = v at hub HU
                  go_wp2
                  exact ⟨⟨i, by omega, rfl, by rw [digit_sum _ _ hub, HU.out, HA.out]⟩, by simp [RowKit.intOf]⟩
            · have hpos := hp rfl
              clear hp
              go_wp2
              go_loop [6, 7] (fun n i => ∃ j : Nat, j ≤ hi l + 1 ∧ i = .int .i64 ((j : Int) - 1) ∧ n = .int .i64 (upto l j)) (fun _ i => (RowKit.intOf i + 1).toNat)
              case atStart => exact ⟨hi l + 1, Nat.le_refl _, by go_num, by rw [upto_end]; rfl⟩
              case round =>
                obtain ⟨j, hj, rfl, rfl⟩ := hrel
                by_cases h0 : j = 0
                · subst h0
                  have HV := Lib.hid (upto_all l)
                  rw [show (((0 : Nat) : Int) - 1) = -1 from rfl]
                  go_wp2
                  go_ret3
                  exact RetT.mk (by rw [HT.out.1, HT.out.2.1, HT.out.2.2, ← HV.out]; rfl)
                · obtain ⟨i, rfl⟩ : ∃ i, j = i + 1 := ⟨j - 1, by omega⟩
                  have hub := upto_lt l (i + 1) (by omega) h9
                  have HU := Lib.hid (upto_step l i (by omega) hlt)
                  have hsi : i < (⟨l.toArray⟩ : ByteArray).size := by rw [HS.out]; omega
                  have HA := Lib.hid (byteAt l i (by omega) hsi)
                  rw [show (((i + 1 : Nat) : Int) - 1) = (i : Int) from by omega]
                  generalize upto l (i + 1) = v at hub HU
                  go_wp2
                  exact ⟨⟨i, by omega, rfl, by rw [digit_sum _ _ hub, HU.out, HA.out]⟩, by simp [RowKit.intOf]⟩
end Go.Proofs.Ytgkpeehondmalaa
