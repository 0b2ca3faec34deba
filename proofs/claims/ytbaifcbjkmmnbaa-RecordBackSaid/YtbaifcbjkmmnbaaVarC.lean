/-
  What stands behind a number's bytes; a number's bytes that are cut off. No program here.
-/
import Derived.Test.YtbaifcbjkmmnbaaVarM
set_option linter.unusedSimpArgs false
set_option linter.unusedVariables false
namespace Go.Proofs.Ytbaifcbjkmmnbaa

/-- What stands behind a number. -/
def psv (s : List UInt8) : List UInt8 := s.drop (tS s).toNat
theorem psv_le (s : List UInt8) : (psv s).length ≤ s.length := by unfold psv; rw [List.length_drop]; omega
theorem psv_put (n : Int) (h0 : 0 ≤ n) (h1 : n ≤ 9223372036854775807) (s : List UInt8) : psv (vput n ++ s) = s := by
  unfold psv
  rw [(take_put n h0 h1 s).2.1, Int.toNat_natCast, List.drop_left]
theorem put_psv {s : List UInt8} (h : tE s = 0) : vput (tN s) ++ psv s = s := by
  unfold psv
  rw [(put_take s h).2.2, List.take_append_drop]
theorem vcut (n : Int) (h0 : 0 ≤ n) (h1 : n ≤ 9223372036854775807) (j : Nat) (hj : j < (vput n).length) : tE ((vput n).take j) = 4 := by
  have hlen := vput_length n h1
  unfold vput at hj hlen ⊢
  rw [if_neg (by omega)] at hj hlen ⊢
  obtain ⟨p, c, e, ⟨hp, hc, hz⟩, hv⟩ := put_form n.toNat
  rw [e] at hj hlen ⊢
  rw [List.length_append, List.length_singleton] at hj hlen
  have e2 : (p ++ [c]).take j = p.take j := List.take_append_of_le_length (by omega)
  have hl : (p.take j).length = j := by rw [List.length_take]; omega
  have hge : j ≤ hi (p.take j) := hi_ge _ _ (by omega) (fun i hi _ => by
    rw [List.getElem_take]
    exact hp _ (List.getElem_mem _))
  have hle := hi_le (p.take j)
  rw [e2]
  exact (t_short (p.take j) (by omega) (by omega)).1
/-- Of a number's bytes and others, cut off: cut in the number, or behind it. -/
theorem vcut_app (n : Int) (h0 : 0 ≤ n) (h1 : n ≤ 9223372036854775807) (l : List UInt8) (c : Nat) : (c < (vput n).length ∧ tE ((vput n ++ l).take c) = 4) ∨ (∃ d, c = (vput n).length + d ∧ (vput n ++ l).take c = vput n ++ l.take d) := by
  by_cases h : c < (vput n).length
  · exact .inl ⟨h, by rw [List.take_append_of_le_length (by omega)]; exact vcut n h0 h1 c h⟩
  · refine .inr ⟨c - (vput n).length, by omega, ?_⟩
    rw [List.take_append, List.take_of_length_le (l := vput n) (by omega)]
end Go.Proofs.Ytbaifcbjkmmnbaa
