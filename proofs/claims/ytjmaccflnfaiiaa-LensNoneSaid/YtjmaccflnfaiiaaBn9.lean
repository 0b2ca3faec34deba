/-
  Texts put together: VarRk.
-/
import Derived.Test.YtjmaccflnfaiiaaBn5
set_option linter.unusedSimpArgs false
set_option linter.unusedVariables false
namespace Go.Proofs.Ytjmaccflnfaiiaa
open Go.RowKit

theorem digit_sum (v : Nat) (c : UInt8) (h : v < 72057594037927936) : wrap64 ((v : Int) * 128 + (wrap64 (c.toNat : Int)).tmod 128) = ((c.toNat % 128 + 128 * v : Nat) : Int) := by
  have hc := c.toNat_lt
  rw [IntWalk.wrap64_in (c.toNat : Int) ⟨by omega, by omega⟩, Int.tmod_eq_emod_of_nonneg (by omega), IntWalk.wrap64_in _ ⟨by omega, by omega⟩]
  omega

set_option maxHeartbeats 1000000 in
set_option maxRecDepth 100000 in
theorem reftake_any (l : List UInt8) (w : World) (hlen : l.length ≤ 9223372036854775807) :
    Calls Try.prog 42 #[.string ⟨l.toArray⟩] w (RetT (tN l) (tS l) (tE l) w) := by
  have HS := Lib.hid (bsize l)
  have hle := hi_le l
  go_enter Try.func42, Try.ntmps42
  go_wp2
  go_loop [5] (fun i => ∃ k : Nat, k ≤ hi l ∧ i = .int .i64 k) (fun i => hi l - (RowKit.intOf i).toNat)
  case atStart => exact ⟨0, Nat.zero_le _, rfl⟩
  case round =>
    obtain ⟨k, hk, rfl⟩ := hrel
    by_cases hlt : k < hi l
    · have hb := hi_high l k (by omega) hlt
      have hsz : k < (⟨l.toArray⟩ : ByteArray).size := by rw [HS.out]; omega
      have ha := byteAt l k (by omega) hsz
      have hg : 128 ≤ (((⟨l.toArray⟩ : ByteArray)[k]'hsz).toNat : Int) := by rw [ha]; omega
      clear ha
      go_wp2
      exact ⟨⟨k + 1, by omega, by go_num⟩, by simp [RowKit.intOf]; omega⟩
    · obtain rfl : k = hi l := by omega
      clear hk hlt
      by_cases hend : hi l = l.length
      · have hsz : ¬ hi l < (⟨l.toArray⟩ : ByteArray).size := by rw [HS.out]; omega
        by_cases h9 : 9 ≤ hi l
        · have HT := Lib.hid (t_long l h9)
          clear hend
          go_wp2
          go_ret3
          exact RetT.mk (by rw [HT.out.1, HT.out.2.1, HT.out.2.2]; rfl)
        · have HT := Lib.hid (t_short l h9 hend)
          have HE := Lib.hid hend
          clear hend
          have he : ((hi l : Int) == (l.length : Int)) = true := by rw [HE.out]; simp
          go_wp2
          go_ret3
          exact RetT.mk (by rw [HT.out.1, HT.out.2.1, HT.out.2.2]; rfl)
      · have hlt : hi l < l.length := by omega
        have hsz : hi l < (⟨l.toArray⟩ : ByteArray).size := by rw [HS.out]; omega
        have ha := byteAt l (hi l) hlt hsz
        have hg : ¬ 128 ≤ (((⟨l.toArray⟩ : ByteArray)[hi l]'hsz).toNat : Int) := by rw [ha]; have := hi_low l hlt; omega
        have he : ((hi l : Int) == (l.length : Int)) = false := by simp; omega
        by_cases h9 : 9 ≤ hi l
        · have HT := Lib.hid (t_long l h9)
          clear ha
          go_wp2
          go_ret3
          exact RetT.mk (by rw [HT.out.1, HT.out.2.1, HT.out.2.2]; rfl)
        · by_cases hz : l[hi l].toNat = 0 ∧ 0 < hi l
          · have HT := Lib.hid (t_form l h9 hlt hz.1 hz.2)
            have hpos := hz.2
            have hq : ((((⟨l.toArray⟩ : ByteArray)[hi l]'hsz).toNat : Int) == 0) = true := by rw [ha, hz.1]; rfl
            clear ha hz
            go_wp2
            go_ret3
            exact RetT.mk (by rw [HT.out.1, HT.out.2.1, HT.out.2.2]; rfl)
          · have HT := Lib.hid (t_ok l h9 hlt (by omega))
            have hw : ∃ b : Bool, ((((⟨l.toArray⟩ : ByteArray)[hi l]'hsz).toNat : Int) == 0) = b ∧ (b = true → ¬ 0 < hi l) :=
              ⟨_, rfl, fun h hp => hz ⟨by rw [ha] at h; simpa using h, hp⟩⟩
            obtain ⟨b, hq, hp⟩ := hw
            clear ha hz
            cases b
            · clear hp
              go_wp2
              go_loop [6, 7] (fun n i => ∃ j : Nat, j ≤ hi l + 1 ∧ i = .int .i64 ((j : Int) - 1) ∧ n = .int .i64 (upto l j)) (fun _ i => (RowKit.intOf i + 1).toNat)
              case atStart => exact ⟨hi l + 1, Nat.le_refl _, by go_num, by rw [upto_end]; rfl⟩
              case round =>
                obtain ⟨j, hj, rfl, rfl⟩ := hrel
                by_cases h0 : j = 0
                · subst h0
                  have HV := Lib.hid (upto_all l)
                  rw [show (((0 : Nat) : Int) - 1) = -1 from rfl]
                  go_wp2
                  go_ret3
                  exact RetT.mk (by rw [HT.out.1, HT.out.2.1, HT.out.2.2, ← HV.out]; rfl)
                · obtain ⟨i, rfl⟩ : ∃ i, j = i + 1 := ⟨j - 1, by omega⟩
                  have hub := upto_lt l (i + 1) (by omega) h9
                  have HU := Lib.hid (upto_step l i (by omega) hlt)
                  have hsi : i < (⟨l.toArray⟩ : ByteArray).size := by rw [HS.out]; omega
                  have HA := Lib.hid (byteAt l i (by omega) hsi)
                  rw [show (((i + 1 : Nat) : Int) - 1) = (i : Int) from by omega]
                  generalize upto l (i + 1) = v at hub HU
                  go_wp2
                  exact ⟨⟨i, by omega, rfl, by rw [digit_sum _ _ hub, HU.out, HA.out]⟩, by simp [RowKit.intOf]⟩
            · have hpos := hp rfl
              clear hp
              go_wp2
              go_loop [6, 7] (fun n i => ∃ j : Nat, j ≤ hi l + 1 ∧ i = .int .i64 ((j : Int) - 1) ∧ n = .int .i64 (upto l j)) (fun _ i => (RowKit.intOf i + 1).toNat)
              case atStart => exact ⟨hi l + 1, Nat.le_refl _, by go_num, by rw [upto_end]; rfl⟩
              case round =>
                obtain ⟨j, hj, rfl, rfl⟩ := hrel
                by_cases h0 : j = 0
                · subst h0
                  have HV := Lib.hid (upto_all l)
                  rw [show (((0 : Nat) : Int) - 1) = -1 from rfl]
                  go_wp2
                  go_ret3
                  exact RetT.mk (by rw [HT.out.1, HT.out.2.1, HT.out.2.2, ← HV.out]; rfl)
                · obtain ⟨i, rfl⟩ : ∃ i, j = i + 1 := ⟨j - 1, by omega⟩
                  have hub := upto_lt l (i + 1) (by omega) h9
                  have HU := Lib.hid (upto_step l i (by omega) hlt)
                  have hsi : i < (⟨l.toArray⟩ : ByteArray).size := by rw [HS.out]; omega
                  have HA := Lib.hid (byteAt l i (by omega) hsi)
                  rw [show (((i + 1 : Nat) : Int) - 1) = (i : Int) from by omega]
                  generalize upto l (i + 1) = v at hub HU
                  go_wp2
                  exact ⟨⟨i, by omega, rfl, by rw [digit_sum _ _ hub, HU.out, HA.out]⟩, by simp [RowKit.intOf]⟩
end Go.Proofs.Ytjmaccflnfaiiaa
