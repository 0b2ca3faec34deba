/-
  head.Put: walked.
-/
import Derived.Test.YtgkpeehondmalaaHdM
import Derived.Test.YtgkpeehondmalaaStr
import Derived.Test.YtgkpeehondmalaaFrW
set_option linter.unusedSimpArgs false
set_option linter.unusedVariables false
namespace Go.Proofs.Ytgkpeehondmalaa
open Go.RowKit

/-- Put's answer: the head, or why there is none. -/
def RetHp (l : List UInt8) (w : World) (e : Ending) (w' : World) : Prop := e = .returned (.tuple #[.string ⟨(hcP l).toArray⟩, .int .i64 (hcE l)]) ∧ Below w.heap.size w w'

theorem hd_plus (t : List UInt8) : (⟨#[99, 101, 114, 116, 1]⟩ : ByteArray) ++ (⟨t.toArray⟩ : ByteArray) = ⟨(hcM ++ t).toArray⟩ := by
  apply ByteArray.ext
  simp [hcM]

/-- frame.Put of a file's frame. -/
theorem hd_frame (l : List UInt8) (w : World) (hs : l.length ≤ 1000000000) :
    Calls Try.prog 13 #[.agg #[.int .i64 1, .string ⟨l.toArray⟩]] w fun e w' => e = .returned (.tuple #[.string ⟨(putB (hcF l)).toArray⟩, .int .i64 (hcE l)]) ∧ Below w.heap.size w w' :=
  frput_any (hcF l) w (by show l.length ≤ 9223372036854775807; omega)

set_option maxHeartbeats 1000000 in
theorem hdput_any (l : List UInt8) (w : World) (hs : l.length ≤ 1000000000) : Calls Try.prog 6 #[.string ⟨l.toArray⟩] w (RetHp l w) := by
  have HF := Lib.hid (hd_frame l w hs)
  by_cases he : hcE l = 0
  · have hp := hcP_ok l he
    have hlen := hcB_length l he
    unfold hcB at hp hlen
    rw [show putB (hcF l) = frB (hcF l) from if_pos he, he] at HF
    delta RetHp
    rw [hp, he]
    have hadd := hd_plus (frB (hcF l))
    rw [List.length_append, show hcM.length = 5 from rfl] at hlen
    generalize frB (hcF l) = t at *
    have hz : (⟨t.toArray⟩ : ByteArray).size = t.length := bsize t
    clear he hp
    go_enter Try.func6, Try.ntmps6
    go_wp2_with fail
    refine HF.out.mono ?_
    rintro e w1 ⟨rfl, hb1⟩
    go_wp2
    go_ret2
    exact ⟨rfl, hb1⟩
  · have hp := hcP_bad l he
    rw [show putB (hcF l) = [] from if_neg he] at HF
    delta RetHp
    rw [hp]
    have he' : (hcE l == 0) = false := by simpa using he
    generalize hcE l = x at *
    clear hp
    go_enter Try.func6, Try.ntmps6
    go_wp2_with fail
    refine HF.out.mono ?_
    rintro e w1 ⟨rfl, hb1⟩
    go_wp2
    go_ret2
    exact ⟨rfl, hb1⟩

end Go.Proofs.Ytgkpeehondmalaa
