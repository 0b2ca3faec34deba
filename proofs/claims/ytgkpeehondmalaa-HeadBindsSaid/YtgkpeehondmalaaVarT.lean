/-
  varint.Take, walked, with extent.
-/
import Derived.Test.YtgkpeehondmalaaVarM
import Derived.Test.YtgkpeehondmalaaVarRef
import Derived.Outline
import Derived.IntWalk
set_option linter.unusedSimpArgs false
set_option linter.unusedVariables false
namespace Go.Proofs.Ytgkpeehondmalaa
open Go.RowKit

/-- extent's answer: the size, the error; the world as it was. -/
def RetX (s x : Int) (w : World) (e : Ending) (w' : World) : Prop := e = .returned (.tuple #[.int .i64 s, .int .i64 x]) ∧ w = w'

theorem RetX.mk {s x : Int} {w : World} {e : Ending} (h : e = .returned (.tuple #[.int .i64 s, .int .i64 x])) : RetX s x w e w := ⟨h, rfl⟩

set_option maxHeartbeats 1000000 in
set_option maxRecDepth 100000 in
theorem extent_any (l : List UInt8) (w : World) (hlen : l.length ≤ 9223372036854775807) :
    Calls Try.prog 33 #[.string ⟨l.toArray⟩] w (RetX (tS l) (tE l) w) := by
  have HS := Lib.hid (bsize l)
  have hle := hi_le l
  by_cases hL : 9 < l.length
  all_goals
    go_enter Try.func33, Try.ntmps33
    go_wp2
    go_loop [8] (fun i => ∃ k : Nat, k ≤ 9 ∧ k ≤ hi l ∧ i = .int .i64 k) (fun i => 9 - (RowKit.intOf i).toNat)
    case atStart => exact ⟨0, by omega, by omega, rfl⟩
    case round =>
      obtain ⟨k, hk9, hkl, rfl⟩ := hrel
      by_cases hend : k = 9 ∨ k = l.length
      · by_cases h9 : 9 ≤ hi l
        · have hk : k = 9 := by omega
          subst hk
          have HT := Lib.hid (t_long l h9)
          go_wp2
          go_ret2
          exact RetX.mk (by rw [HT.out.1, HT.out.2.1]; rfl)
        · first
            | (exfalso; omega)
            | (have hk : k = l.length := by omega
               have HT := Lib.hid (t_short l h9 (by omega))
               have HK := Lib.hid hk
               have hn : ¬ (k : Int) < (l.length : Int) := by omega
               have hn9 : l.length < 9 := by omega
               clear hk
               go_wp2
               go_ret2
               exact RetX.mk (by rw [HT.out.1, HT.out.2.1]; rfl))
      · have hlt : k < l.length := by omega
        have hk9' : k < 9 := by omega
        clear hend
        have hsz : k < (⟨l.toArray⟩ : ByteArray).size := by rw [HS.out]; omega
        have ha := byteAt l k hlt hsz
        by_cases hh : k < hi l
        · have hg : 128 ≤ (((⟨l.toArray⟩ : ByteArray)[k]'hsz).toNat : Int) := by rw [ha]; have := hi_high l k hlt hh; omega
          clear ha
          go_wp2
          exact ⟨⟨k + 1, by omega, by omega, by go_num⟩, by simp [RowKit.intOf]; omega⟩
        · obtain rfl : k = hi l := by omega
          have hg : ¬ 128 ≤ (((⟨l.toArray⟩ : ByteArray)[hi l]'hsz).toNat : Int) := by rw [ha]; have := hi_low l hlt; omega
          have h9 : ¬ 9 ≤ hi l := by omega
          by_cases hz : l[hi l].toNat = 0 ∧ 0 < hi l
          · have HT := Lib.hid (t_form l h9 hlt hz.1 hz.2)
            have hpos := hz.2
            have hq : ((((⟨l.toArray⟩ : ByteArray)[hi l]'hsz).toNat : Int) == 0) = true := by rw [ha, hz.1]; rfl
            clear ha hz
            go_wp2
            go_ret2
            exact RetX.mk (by rw [HT.out.1, HT.out.2.1]; rfl)
          · have HT := Lib.hid (t_ok l h9 hlt (by omega))
            have hw : ∃ b : Bool, ((((⟨l.toArray⟩ : ByteArray)[hi l]'hsz).toNat : Int) == 0) = b ∧ (b = true → ¬ 0 < hi l) :=
              ⟨_, rfl, fun h hp => hz ⟨by rw [ha] at h; simpa using h, hp⟩⟩
            obtain ⟨b, hq, hp⟩ := hw
            clear ha hz
            cases b
            · clear hp
              go_wp2
              go_ret2
              exact RetX.mk (by rw [HT.out.1, HT.out.2.1]; rfl)
            · have hpos := hp rfl
              clear hp
              go_wp2
              go_ret2
              exact RetX.mk (by rw [HT.out.1, HT.out.2.1]; rfl)

theorem or_seven (v : Nat) (c : UInt8) (h : v < 72057594037927936) : bits .or .i64 ((v : Int) * 128) ((c.toNat : Int) % 128) = ((c.toNat % 128 + 128 * v : Nat) : Int) := by
  rw [or_i64_seven _ _ (by omega) (by omega) (by omega) (by omega)]
  omega

set_option maxHeartbeats 1000000 in
set_option maxRecDepth 100000 in
theorem take_any (l : List UInt8) (w : World) (hlen : l.length ≤ 9223372036854775807) :
    Calls Try.prog 27 #[.string ⟨l.toArray⟩] w (RetT (tN l) (tS l) (tE l) w) := by
  have HS := Lib.hid (bsize l)
  have hle := hi_le l
  by_cases ht : tE l = 0
  · have HX := extent_any l w hlen
    have h9 : ¬ 9 ≤ hi l := fun h => by have := (t_long l h).1; omega
    have hlt : hi l < l.length := by
      rcases Nat.lt_or_ge (hi l) l.length with h | h
      · exact h
      · have := (t_short l h9 (by omega)).1; omega
    have hs : tS l = (hi l : Int) + 1 := by unfold tS; rw [if_pos ht]
    have hn : tN l = (val (l.take (hi l + 1)) : Int) := by unfold tN; rw [if_pos ht]
    rw [ht, hs] at HX
    rw [ht, hs, hn]
    clear ht hs hn
    go_enter Try.func27, Try.ntmps27
    go_wp2_with fail
    refine HX.mono ?_
    rintro e w' ⟨rfl, rfl⟩
    go_wp2
    go_loop [2, 5] (fun n i => ∃ j : Nat, j ≤ hi l + 1 ∧ i = .int .i64 ((j : Int) - 1) ∧ n = .int .i64 (upto l j)) (fun _ i => (RowKit.intOf i + 1).toNat)
    case atStart => exact ⟨hi l + 1, Nat.le_refl _, by go_num, by rw [upto_end]; rfl⟩
    case round =>
      obtain ⟨j, hj, rfl, rfl⟩ := hrel
      by_cases h0 : j = 0
      · subst h0
        have HV := Lib.hid (upto_all l)
        rw [show (((0 : Nat) : Int) - 1) = -1 from rfl]
        go_wp2
        go_ret3
        exact RetT.mk (by rw [← HV.out]; rfl)
      · obtain ⟨i, rfl⟩ : ∃ i, j = i + 1 := ⟨j - 1, by omega⟩
        have hub := upto_lt l (i + 1) (by omega) h9
        have HU := Lib.hid (upto_step l i (by omega) hlt)
        have hsi : i < (⟨l.toArray⟩ : ByteArray).size := by rw [HS.out]; omega
        have HA := Lib.hid (byteAt l i (by omega) hsi)
        rw [show (((i + 1 : Nat) : Int) - 1) = (i : Int) from by omega]
        generalize upto l (i + 1) = v at hub HU
        go_wp2
        exact ⟨⟨i, by omega, rfl, by rw [or_seven _ _ hub, HU.out, HA.out]⟩, by simp [RowKit.intOf]⟩
  · have HX := extent_any l w hlen
    have hs : tS l = 0 := by unfold tS; rw [if_neg ht]
    have hn : tN l = 0 := by unfold tN; rw [if_neg ht]
    rw [hs] at HX
    rw [hs, hn]
    generalize tE l = x at HX ht ⊢
    have ht' : (x == 0) = false := by simpa using ht
    clear hs hn ht
    go_enter Try.func27, Try.ntmps27
    go_wp2_with fail
    refine HX.mono ?_
    rintro e w' ⟨rfl, rfl⟩
    go_wp2
    go_ret3
    exact RetT.mk rfl
end Go.Proofs.Ytgkpeehondmalaa
