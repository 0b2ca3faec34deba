/-
  The document's Take of layer 11, as a whole: walked.
-/
import Derived.Test.YtoeakmpfkbmbcaaBkQ
set_option linter.unusedSimpArgs false
set_option linter.unusedVariables false
namespace Go.Proofs.Ytoeakmpfkbmbcaa
open Go.RowKit

theorem head_iff (s : List UInt8) : Lib.hasPrefix s hdB = true ↔ s.take 6 = hdB := by
  simp only [Lib.hasPrefix, List.isPrefixOf_iff_prefix]
  rw [List.prefix_iff_eq_take, show hdB.length = 6 from rfl]
  exact ⟨fun h => h.symm, fun h => h.symm⟩

set_option maxHeartbeats 1000000 in
theorem rbktake_head (s : List UInt8) (w : World) (hs : s.length ≤ 1000000000) (hp : ¬ s.take 6 = hdB) :
    Calls Try.prog 13 #[.string ⟨s.toArray⟩] w (RetR (15, []) w) := by
  have S1 := Lib.hid (bsize s)
  by_cases hl : s.length < 6
  · have g1 : (s.length : Int) < 6 := by omega
    clear hp
    go_enter Try.func13, Try.ntmps13
    go_wp2
    go_ret2
    exact RetR.bad rfl (by decide) (Below.refl _ _)
  · have g1 : (6 : Int) ≤ (s.length : Int) := by omega
    have x0 : (⟨s.toArray⟩ : ByteArray).extract 0 6 = ⟨(s.take 6).toArray⟩ := by rw [ext_cut]; rfl
    have g2 : (s.take 6 == [106, 117, 114, 97, 116, 1]) = false := by
      rw [beq_eq_false_iff_ne]
      exact hp
    generalize s.take 6 = t at x0 g2
    clear hp
    go_enter Try.func13, Try.ntmps13
    go_wp2
    go_ret2
    exact RetR.bad rfl (by decide) (Below.refl _ _)

set_option maxHeartbeats 2000000 in
theorem rbktake_cnt (s : List UInt8) (w : World) (hs : s.length ≤ 1000000000) (hp : s.take 6 = hdB) (hc : ¬ cntE (s.drop 6) = 0) :
    Calls Try.prog 13 #[.string ⟨s.toArray⟩] w (RetR (cntE (s.drop 6), []) w) := by
  have hl6 : 6 ≤ s.length := by have := congrArg List.length hp; rw [List.length_take] at this; simp [hdB] at this; omega
  have S1 := Lib.hid (bsize s)
  have x0 : (⟨s.toArray⟩ : ByteArray).extract 0 6 = ⟨hdB.toArray⟩ := by rw [ext_cut, hp]; rfl
  have x1 := ext_rest s 6
  have HT := Lib.hid (fun w => reftake_any (s.drop 6) w (by rw [List.length_drop]; omega))
  have hd6 : (hdB == [106, 117, 114, 97, 116, 1]) = true := by decide
  have g6 : (6 : Int) ≤ (s.length : Int) := by omega
  have hdl : (s.drop 6).length = s.length - 6 := List.length_drop
  unfold cntE at hc ⊢
  by_cases h1 : tE (s.drop 6) = 0
  · rw [if_pos h1] at hc ⊢
    obtain ⟨p1, p2, _⟩ := put_take (s.drop 6) h1
    obtain ⟨P0, hP0⟩ : ∃ P0 : Nat, tS (s.drop 6) = (P0 : Int) := ⟨(tS (s.drop 6)).toNat, by omega⟩
    rw [h1, hP0] at HT
    rw [hP0] at p1 p2
    by_cases h2 : tN (s.drop 6) = 0
    · rw [if_pos h2]
      rw [h2] at HT
      clear hc hp h1 h2 hP0
      generalize s.drop 6 = t0 at x1 HT p2 hdl
      go_enter Try.func13, Try.ntmps13
      go_wp2_with fail
      refine (HT.out _).mono ?_
      rintro e w' ⟨rfl, rfl⟩
      go_wp2
      go_ret2
      exact RetR.bad rfl (by decide) (Below.refl _ _)
    · rw [if_neg h2] at hc ⊢
      by_cases h3 : 65535 < tN (s.drop 6)
      · rw [if_pos h3]
        generalize tN (s.drop 6) = n at HT h2 h3
        have gN : (n == 0) = false := by simpa using h2
        clear hc hp h1 hP0
        generalize s.drop 6 = t0 at x1 HT p2 hdl
        go_enter Try.func13, Try.ntmps13
        go_wp2_with fail
        refine (HT.out _).mono ?_
        rintro e w' ⟨rfl, rfl⟩
        go_wp2
        go_ret2
        exact RetR.bad rfl (by decide) (Below.refl _ _)
      · rw [if_neg h3] at hc
        exact absurd rfl hc
  · rw [if_neg h1] at hc ⊢
    have hs0 : tS (s.drop 6) = 0 := by unfold tS; rw [if_neg h1]
    have hn0 : tN (s.drop 6) = 0 := by unfold tN; rw [if_neg h1]
    rw [hs0, hn0] at HT
    generalize tE (s.drop 6) = x at HT h1
    have gx : (x == 0) = false := by simpa using h1
    clear hc hp hs0 hn0
    generalize s.drop 6 = t0 at x1 HT hdl
    go_enter Try.func13, Try.ntmps13
    go_wp2_with fail
    refine (HT.out _).mono ?_
    rintro e w' ⟨rfl, rfl⟩
    go_wp2
    go_ret2
    exact RetR.bad rfl h1 (Below.refl _ _)

theorem rbktake_any (s : List UInt8) (w : World) (hs : s.length ≤ 1000000000) :
    Calls Try.prog 13 #[.string ⟨s.toArray⟩] w (RetR (tkB s) w) := by
  by_cases hp : s.take 6 = hdB
  · have e : tkB s = allB (s.drop 6) := by unfold tkB; rw [if_pos ((head_iff s).2 hp)]
    rw [e]
    by_cases hc : cntE (s.drop 6) = 0
    · rw [all_good hc]
      exact rbktake_body s w hs hp hc
    · rw [all_bad hc]
      exact rbktake_cnt s w hs hp hc
  · have e : tkB s = (15, []) := by unfold tkB; rw [if_neg (fun h => hp ((head_iff s).1 h))]
    rw [e]
    exact rbktake_head s w hs hp
end Go.Proofs.Ytoeakmpfkbmbcaa
