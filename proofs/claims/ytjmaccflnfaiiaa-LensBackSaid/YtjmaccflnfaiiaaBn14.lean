/-
  Texts put together: FrRb, HdRp.
-/
import Derived.Test.YtjmaccflnfaiiaaFrRp
import Derived.Test.YtjmaccflnfaiiaaBn1
import Derived.Test.YtjmaccflnfaiiaaBn13
import Derived.Test.YtjmaccflnfaiiaaBn4
set_option linter.unusedSimpArgs false
set_option linter.unusedVariables false
namespace Go.Proofs.Ytjmaccflnfaiiaa
open Go.RowKit


set_option maxHeartbeats 1000000 in
theorem rfrput_bad (f : Fr) (w : World) (hs : f.2.size ≤ 9223372036854775807) (he : frE f ≠ 0) :
    Calls Try.prog 44 #[.agg #[.int .i64 f.1, .string f.2]] w fun e w' => e = .returned (.tuple #[.string ⟨(putB f).toArray⟩, .int .i64 (frE f)]) ∧ Below w.heap.size w w' := by
  have hp : Hid (putB f = []) := Lib.hid (by unfold putB; rw [if_neg he])
  by_cases h0 : f.1 < 1
  · have hx := Lib.hid (frE_low f h0)
    obtain ⟨k, d⟩ := f
    simp only at h0 hs ⊢
    clear he
    go_enter Try.func44, Try.ntmps44
    go_wp2
    go_ret2
    exact ⟨by rw [hx.out, hp.out]; rfl, (Below.refl _ _).alloc (Nat.le_refl _) _⟩
  by_cases h1 : 127 < f.1
  · have hx := Lib.hid (frE_high f h0 h1)
    obtain ⟨k, d⟩ := f
    simp only at h0 h1 hs ⊢
    clear he
    go_enter Try.func44, Try.ntmps44
    go_wp2
    go_ret2
    exact ⟨by rw [hx.out, hp.out]; rfl, (Below.refl _ _).alloc (Nat.le_refl _) _⟩
  by_cases h2 : 67108864 < f.2.size
  · have hx := Lib.hid (frE_long f h0 h1 h2)
    obtain ⟨k, d⟩ := f
    simp only at h0 h1 h2 hs ⊢
    have hd : decide (127 < k) = false := by simp; omega
    clear he
    go_enter Try.func44, Try.ntmps44
    go_wp2
    go_ret2
    exact ⟨by rw [hx.out, hp.out]; rfl, (Below.refl _ _).alloc (Nat.le_refl _) _⟩
  · exact absurd (frE_ok f h0 h1 h2) he

theorem rfrput_any (f : Fr) (w : World) (hs : f.2.size ≤ 9223372036854775807) :
    Calls Try.prog 44 #[.agg #[.int .i64 f.1, .string f.2]] w fun e w' => e = .returned (.tuple #[.string ⟨(putB f).toArray⟩, .int .i64 (frE f)]) ∧ Below w.heap.size w w' := by
  by_cases he : frE f = 0
  · have hp : putB f = frB f := by unfold putB; rw [if_pos he]
    rw [hp, he]
    exact rfrput_ok f w he
  · exact rfrput_bad f w hs he

end Go.Proofs.Ytjmaccflnfaiiaa

namespace Go.Proofs.Ytjmaccflnfaiiaa
open Go.RowKit


theorem rhd_frame (l : List UInt8) (w : World) (hs : l.length ≤ 1000000000) :
    Calls Try.prog 44 #[.agg #[.int .i64 1, .string ⟨l.toArray⟩]] w fun e w' => e = .returned (.tuple #[.string ⟨(putB (hcF l)).toArray⟩, .int .i64 (hcE l)]) ∧ Below w.heap.size w w' :=
  rfrput_any (hcF l) w (by show l.length ≤ 9223372036854775807; omega)

set_option maxHeartbeats 1000000 in
theorem rhdput_any (l : List UInt8) (w : World) (hs : l.length ≤ 1000000000) : Calls Try.prog 34 #[.string ⟨l.toArray⟩] w (RetHp l w) := by
  have HF := Lib.hid (rhd_frame l w hs)
  by_cases he : hcE l = 0
  · have hp := hcP_ok l he
    have hlen := hcB_length l he
    unfold hcB at hp hlen
    rw [show putB (hcF l) = frB (hcF l) from if_pos he, he] at HF
    delta RetHp
    rw [hp, he]
    have hadd := hd_plus (frB (hcF l))
    rw [List.length_append, show hcM.length = 5 from rfl] at hlen
    generalize frB (hcF l) = t at *
    have hz : (⟨t.toArray⟩ : ByteArray).size = t.length := bsize t
    clear he hp
    go_enter Try.func34, Try.ntmps34
    go_wp2_with fail
    refine HF.out.mono ?_
    rintro e w1 ⟨rfl, hb1⟩
    go_wp2
    go_ret2
    exact ⟨rfl, hb1⟩
  · have hp := hcP_bad l he
    rw [show putB (hcF l) = [] from if_neg he] at HF
    delta RetHp
    rw [hp]
    have he' : (hcE l == 0) = false := by simpa using he
    generalize hcE l = x at *
    clear hp
    go_enter Try.func34, Try.ntmps34
    go_wp2_with fail
    refine HF.out.mono ?_
    rintro e w1 ⟨rfl, hb1⟩
    go_wp2
    go_ret2
    exact ⟨rfl, hb1⟩

end Go.Proofs.Ytjmaccflnfaiiaa
