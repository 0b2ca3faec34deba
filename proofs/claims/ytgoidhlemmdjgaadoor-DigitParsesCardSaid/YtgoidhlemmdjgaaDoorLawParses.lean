/-
  The law DigitParses, walked: for every text and all bounds it returns true, and writes nothing that was there.
-/
import Derived.Test.YtgoidhlemmdjgaaDoorRefRow
import Derived.Test.YtgoidhlemmdjgaaDoorAwake
set_option linter.unusedSimpArgs false
set_option linter.unusedVariables false
namespace Go.Proofs.YtgoidhlemmdjgaaDoor
open Go.RowKit

theorem parses_long (s : ByteArray) (least most : Int) (w : World) (h : 1000 < s.size) (hm : s.size ≤ 9223372036854775807) :
    Calls Tryd.prog 3 #[.string s, .int .i64 least, .int .i64 most] w fun e w' => e = .returned (.bool true) ∧ Below w.heap.size w w' := by
  go_enter Tryd.func3, Tryd.ntmps3
  go_wp2_with fail
  refine (awake_any _).mono ?_
  rintro e w' ⟨rfl, hb⟩
  go_wp2
  go_ret
  exact ⟨rfl, hb⟩

set_option maxHeartbeats 1000000 in
theorem parses_short (l : List UInt8) (least most : Int) (w : World) (h : l.length ≤ 1000) :
    Calls Tryd.prog 3 #[.string ⟨l.toArray⟩, .int .i64 least, .int .i64 most] w fun e w' => e = .returned (.bool true) ∧ Below w.heap.size w w' := by
  have hps : (parts l).length ≤ 9223372036854775807 := by
    unfold parts
    split
    · simp
    · have := pieces_length l; omega
  obtain ⟨n, hn⟩ : ∃ n, parN l least most = n := ⟨_, rfl⟩
  obtain ⟨c, hc⟩ : ∃ c, parE l least most = c := ⟨_, rfl⟩
  have HN := Lib.hid hn
  have HC := Lib.hid hc
  clear hn hc
  have P1 : ∀ w, Hid (Calls Tryd.prog 6 #[.string ⟨l.toArray⟩, .int .i64 least, .int .i64 most] w (RetP n c w)) := fun w => by
    have := parse_any l least most w (by omega)
    rw [HN.out, HC.out] at this
    exact Lib.hid this
  have P2 : ∀ w, Hid (Calls Tryd.prog 7 #[.string ⟨l.toArray⟩, .int .i64 least, .int .i64 most] w (RetP n c w)) := fun w => by
    have := refParse_any l least most w (by omega)
    rw [HN.out, HC.out] at this
    exact Lib.hid this
  go_enter Tryd.func3, Tryd.ntmps3
  go_wp2_with fail
  refine (P1 _).out.mono ?_
  rintro e w' ⟨rfl, rfl⟩
  go_wp2_with fail
  refine (P2 _).out.mono ?_
  rintro e w' ⟨rfl, rfl⟩
  go_wp2_with fail
  refine (parseRow_any l least most _ (by omega)).mono ?_
  rintro e w1 ⟨v1, rfl, hb1, h1⟩
  go_wp2_with fail
  refine (refRow_any l least most _ (by omega)).mono ?_
  rintro e w2 ⟨v2, rfl, hb2, h2⟩
  have HS := Lib.hid (same_posts hps h1 hb2 h2)
  clear h1 h2
  go_wp2_with fail
  refine HS.out.mono ?_
  rintro e w3 ⟨rfl, hb3⟩
  go_wp2_with fail
  refine (awake_any _).mono ?_
  rintro e w4 ⟨rfl, hb4⟩
  go_wp2
  go_ret
  have s1 := hb1.size
  have s2 := hb2.size
  have s3 := hb3.size
  exact ⟨rfl, ((hb1.trans (hb2.mono (by omega))).trans (hb3.mono (by omega))).trans (hb4.mono (by omega))⟩

end Go.Proofs.YtgoidhlemmdjgaaDoor
