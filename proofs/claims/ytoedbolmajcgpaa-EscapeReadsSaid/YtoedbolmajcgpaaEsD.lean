/-
  The law EscapeReads, walked.
-/
import Derived.Test.YtoedbolmajcgpaaEsA
import Derived.Test.YtoedbolmajcgpaaEsV
import Derived.Test.YtoedbolmajcgpaaEsL
import Derived.Test.YtoedbolmajcgpaaEsK
set_option linter.unusedSimpArgs false
set_option linter.unusedVariables false
namespace Go.Proofs.Ytoedbolmajcgpaa
open Go.RowKit

theorem reads_long (s : ByteArray) (w : World) (hs : 300 < s.size) (hm : s.size ≤ 9223372036854775807) :
    Calls Try.prog 4 #[.string s] w fun e w' => e = .returned (.bool true) ∧ Below w.heap.size w w' := by
  go_enter Try.func4, Try.ntmps4
  go_wp2_with fail
  refine (awake_any _).mono ?_
  rintro e w' ⟨rfl, hb⟩
  go_wp2
  go_ret
  exact ⟨rfl, hb⟩

set_option maxHeartbeats 1000000 in
theorem reads_short (l : List UInt8) (w : World) (hl : l.length ≤ 300) :
    Calls Try.prog 4 #[.string ⟨l.toArray⟩] w fun e w' => e = .returned (.bool true) ∧ Below w.heap.size w w' := by
  have H1 := Lib.hid (fun w => unquote_any l w (by omega))
  have H2 := Lib.hid (fun w => runquote_any l w (by omega))
  have H3 := Lib.hid (fun w => words_any l w (by omega))
  have H4 := Lib.hid (fun w => rwords_any l w (by omega))
  have hwl : (wds l).length ≤ 1000 := by have := wgo_few l [] []; simp at this; unfold wds; omega
  unfold RetU at H1 H2
  generalize unqU l = u at H1 H2
  generalize unqE l = x at H1 H2
  generalize wds l = ws at H3 H4 hwl
  go_enter Try.func4, Try.ntmps4
  go_wp2_with fail
  refine (H1.out _).mono ?_
  rintro e w1 ⟨rfl, hb1⟩
  have hs1 := hb1.size
  go_wp2_with fail
  refine (H2.out _).mono ?_
  rintro e w2 ⟨rfl, hb2⟩
  have hb02 := hb1.trans (hb2.mono hs1)
  have hs2 := hb02.size
  clear hb1 hb2
  go_wp2_with fail
  refine (H3.out _).mono ?_
  rintro e w3 ⟨a3, c3, rfl, hf3, hb3⟩
  have hb03 := hb02.trans (hb3.mono hs2)
  have hs3 := hb03.size
  clear hb3 hb02
  go_wp2_with fail
  refine (H4.out _).mono ?_
  rintro e w4 ⟨a4, c4, rfl, hf4, hb4⟩
  have hf34 := hf3.below hb4
  have hb04 := hb03.trans (hb4.mono hs3)
  have hs4 := hb04.size
  clear hb4 hb03 hf3
  go_wp2_with fail
  refine (essame_any a3 a4 ws.length c3 c4 ws _ (by omega) hf34 hf4).mono ?_
  rintro e w5 ⟨rfl, hb5⟩
  have hb05 := hb04.trans (hb5.mono hs4)
  have hs5 := hb05.size
  go_wp2_with fail
  refine (awake_any _).mono ?_
  rintro e w6 ⟨rfl, hb6⟩
  go_wp2
  go_ret
  exact ⟨rfl, hb05.trans (hb6.mono hs5)⟩
end Go.Proofs.Ytoedbolmajcgpaa
