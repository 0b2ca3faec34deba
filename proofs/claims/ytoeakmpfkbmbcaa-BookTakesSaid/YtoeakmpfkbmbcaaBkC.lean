/-
  The law BookTakes, walked.
-/
import Derived.Test.YtoeakmpfkbmbcaaBkA
import Derived.Test.YtoeakmpfkbmbcaaBkK
import Derived.Test.YtoeakmpfkbmbcaaBkU
import Derived.Test.YtoeakmpfkbmbcaaStrS
set_option linter.unusedSimpArgs false
set_option linter.unusedVariables false
namespace Go.Proofs.Ytoeakmpfkbmbcaa
open Go.RowKit

theorem bksame_nil (w : World) : Calls Try.prog 14 #[.slice none 0 0, .slice none 0 0] w fun e w' => e = .returned (.bool true) ∧ Below w.heap.size w w' :=
  essame_any none none 0 0 0 [] w (by omega) ⟨rfl, .inl rfl⟩ ⟨rfl, .inl rfl⟩

set_option maxHeartbeats 1000000 in
theorem bktakes_long (s : ByteArray) (w : World) (hs : 1000 < s.size) (hm : s.size ≤ 9223372036854775807) :
    Calls Try.prog 4 #[.string s] w fun e w' => e = .returned (.bool true) ∧ Below w.heap.size w w' := by
  go_enter Try.func4, Try.ntmps4
  go_wp2_with fail
  refine (bkawake_any _).mono ?_
  rintro e w' ⟨rfl, hb⟩
  go_wp2
  go_ret
  exact ⟨rfl, hb⟩

theorem tk_few {s : List UInt8} (h : (tkB s).1 = 0) : Pats (tkB s).2 := (tk_back (L := (tkB s).2) (by rw [← h])).1

set_option maxHeartbeats 2000000 in
theorem bktakes_any (s : List UInt8) (w : World) (hs : s.length ≤ 1000) :
    Calls Try.prog 4 #[.string ⟨s.toArray⟩] w fun e w' => e = .returned (.bool true) ∧ Below w.heap.size w w' := by
  have S1 := Lib.hid (bsize s)
  have H2 := Lib.hid (fun w2 => rbktake_any s w2 (by omega))
  have HP := Lib.hid (fun h => tk_few (s := s) h)
  unfold RetR at H2
  obtain ⟨x, L, hR⟩ : ∃ x L, tkB s = (x, L) := ⟨_, _, rfl⟩
  rw [hR] at H2 HP
  simp only at H2 HP
  by_cases hx : x = 0
  · have hP := HP.out hx
    have hf := hP.few
    have HL := Lib.hid (fun (w2 : World) (b : Nat) (h : IsSet w2 b L) => ptlist_any h (by omega))
    subst hx
    have H1 := Lib.hid (bktake_ok s w (by omega) hR)
    have q0 : (0 : Int) = 0 := rfl
    clear hP HP hR
    go_enter Try.func4, Try.ntmps4
    go_wp2_with fail
    refine H1.out.mono ?_
    rintro e w1 ⟨b, rfl, hbb, hs1, d1⟩
    have e1 := d1.size
    have H3 := Lib.hid (H2.out w1)
    have HS1 := Lib.hid hs1
    clear H1 H2 hs1 hbb
    go_wp2_with fail
    refine H3.out.mono ?_
    rintro e w2 ⟨a2, cap2, L2, rfl, hL, _, hstr, hb2⟩
    obtain rfl := hL (by simp)
    have d2 := d1.trans (hb2.mono e1)
    have e2 := d2.size
    have L2' := Lib.hid (HL.out w2 b (HS1.out.below hb2))
    have T2 := Lib.hid hstr
    clear H3 hb2 d1 e1 hL hstr HS1 HL
    go_wp2_with fail
    refine L2'.out.mono ?_
    rintro e w4 ⟨v, rfl, hown, hb4⟩
    have d4 := d2.trans (hb4.mono e2)
    have e4 := d4.size
    obtain ⟨a4, cap4, rfl, hst4⟩ := owns_strs hown
    have M4 := Lib.hid (essame_any a4 _ _ cap4 cap2 _ w4 (by omega) hst4 (T2.out.below hb4))
    clear L2' T2 hown hst4 hb4 d2 e2
    go_wp2_with fail
    refine M4.out.mono ?_
    rintro e w5 ⟨rfl, hb5⟩
    have d5 := d4.trans (hb5.mono e4)
    have e5 := d5.size
    clear M4 hb5 d4 e4
    go_wp2_with fail
    refine (bkawake_any _).mono ?_
    rintro e w6 ⟨rfl, hb6⟩
    have d6 := d5.trans (hb6.mono e5)
    go_wp2
    go_ret
    exact ⟨rfl, d6⟩
  · have H1 := Lib.hid (bktake_err s w (by omega) hR hx)
    have q1 : (x == x) = true := by simp
    have q2 : (x == 0) = false := by simpa using hx
    clear HP hR
    go_enter Try.func4, Try.ntmps4
    go_wp2_with fail
    refine H1.out.mono ?_
    rintro e w1 ⟨rfl, d1⟩
    have e1 := d1.size
    have H3 := Lib.hid (H2.out w1)
    clear H1 H2
    go_wp2_with fail
    refine H3.out.mono ?_
    rintro e w2 ⟨a2, cap2, L2, rfl, _, hL, _, hb2⟩
    obtain ⟨rfl, rfl, rfl⟩ := hL hx
    have d2 := d1.trans (hb2.mono e1)
    have e2 := d2.size
    clear H3 hb2 d1 e1 hL
    go_wp2_with fail
    refine (ptlist_nil _).mono ?_
    rintro e w' ⟨rfl, rfl⟩
    go_wp2_with fail
    refine (bksame_nil _).mono ?_
    rintro e w5 ⟨rfl, hb5⟩
    have d5 := d2.trans (hb5.mono e2)
    have e5 := d5.size
    clear hb5 d2 e2
    go_wp2_with fail
    refine (bkawake_any _).mono ?_
    rintro e w6 ⟨rfl, hb6⟩
    have d6 := d5.trans (hb6.mono e5)
    go_wp2
    go_ret
    exact ⟨rfl, d6⟩
end Go.Proofs.Ytoeakmpfkbmbcaa
