/-
  Texts put together: TbK.
-/
import Derived.Test.YtpblllpgmibkoaaGreatTbN
set_option linter.unusedSimpArgs false
set_option linter.unusedVariables false
namespace Go.Proofs.YtpblllpgmibkoaaGreat
open Go.RowKit

/-- What Take answers. -/
def RetTk (S : Int × List (List Int)) (own : List UInt8) (w : World) (e : Ending) (w' : World) : Prop :=
  ((¬ S.1 = 0 ∧ e = .returned (.tuple #[.pointer none, .int .i64 S.1])) ∨ (S.1 = 0 ∧ ∃ b, e = .returned (.tuple #[.pointer (some ⟨b, 0, none⟩), .int .i64 0]) ∧ IsTab w' b own S.2)) ∧ Below w.heap.size w w'

set_option maxHeartbeats 1000000 in
theorem tbtake_any (s : List UInt8) (w : World) (hs : s.length ≤ 1000000000) : Calls Tryz.prog 12 #[.string ⟨s.toArray⟩] w (RetTk (tbT s) (hdO s) w) := by
  have HI := Lib.hid (show IsRd (w.alloc (.cells #[.string ⟨s.toArray⟩, .int .i64 0] 82)) w.heap.size s 0 from heap_alloc_new w _)
  have HR := Lib.hid (tbrows_any HI.out hs)
  have hb1 : Below w.heap.size w (w.alloc (.cells #[.string ⟨s.toArray⟩, .int .i64 0] 82)) := (Below.refl _ _).alloc (Nat.le_refl _) _
  have HB1 := Lib.hid hb1
  generalize tbT s = S at HR ⊢
  generalize hdO s = own at HR ⊢
  clear HI hb1
  go_enter Tryz.func12, Tryz.ntmps12
  go_wp2_with fail
  refine HR.out.mono ?_
  rintro e w1 ⟨p, t, rfl, hr, hS, hb⟩
  obtain ⟨c0, c1, f0, f1⟩ := hr.reads
  have HB := Lib.hid (HB1.out.trans hb)
  have HT := Lib.hid hS
  clear HB1 hb hS hr HR
  by_cases h0 : S.1 = 0
  · rw [h0] at c1
    have HT2 := Lib.hid (HT.out h0)
    clear HT
    go_wp2
    go_ret2
    exact ⟨.inr ⟨h0, p, rfl, HT2.out⟩, HB.out⟩
  · have g0 : (S.1 == 0) = false := by simpa using h0
    have H0 := Lib.hid h0
    obtain ⟨x, hx⟩ : ∃ x, S.1 = x := ⟨_, rfl⟩
    rw [hx] at c1 g0 h0
    have HX := Lib.hid hx
    clear hx
    clear HT
    go_wp2_with fail
    go_quiet (fail)
    go_wp2
    go_ret2
    exact ⟨.inl ⟨H0.out, by rw [HX.out]; rfl⟩, below_drewS HB.out _⟩
end Go.Proofs.YtpblllpgmibkoaaGreat
