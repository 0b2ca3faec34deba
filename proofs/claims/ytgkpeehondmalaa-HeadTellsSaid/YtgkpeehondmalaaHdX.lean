/-
  The law HeadTells: walked.
-/
import Derived.Test.YtgkpeehondmalaaHdA
import Derived.Test.YtgkpeehondmalaaHdR
set_option linter.unusedSimpArgs false
set_option linter.unusedVariables false
namespace Go.Proofs.Ytgkpeehondmalaa
open Go.RowKit

set_option maxHeartbeats 1000000 in
theorem headTells_long (f s : ByteArray) (w : World) (h : 500 < f.size ∨ 500 < s.size) (hf : f.size ≤ 9223372036854775807) (hs : s.size ≤ 9223372036854775807) :
    Calls Try.prog 3 #[.string f, .string s] w fun e w' => e = .returned (.bool true) ∧ Below w.heap.size w w' := by
  by_cases h1 : 500 < f.size
  · have g : (500 : Int) < (f.size : Int) := by omega
    clear h
    go_enter Try.func3, Try.ntmps3
    go_wp2_with fail
    refine (hdawake_any _).mono ?_
    rintro e w1 ⟨rfl, hb1⟩
    go_wp2
    go_ret
    exact ⟨rfl, hb1⟩
  · have g : ¬ (500 : Int) < (f.size : Int) := by omega
    have g2 : (500 : Int) < (s.size : Int) := by omega
    clear h
    go_enter Try.func3, Try.ntmps3
    go_wp2_with fail
    refine (hdawake_any _).mono ?_
    rintro e w1 ⟨rfl, hb1⟩
    go_wp2
    go_ret
    exact ⟨rfl, hb1⟩

set_option maxRecDepth 100000 in
set_option maxHeartbeats 4000000 in
theorem headTells_short (l s : List UInt8) (w : World) (hl : l.length ≤ 500) (hs : s.length ≤ 500) :
    Calls Try.prog 3 #[.string ⟨l.toArray⟩, .string ⟨s.toArray⟩] w fun e w' => e = .returned (.bool true) ∧ Below w.heap.size w w' := by
  have H1 : Hid (∀ W, Calls Try.prog 6 #[.string ⟨l.toArray⟩] W fun e w' => e = .returned (.tuple #[.string ⟨(hcP l).toArray⟩, .int .i64 (hcE l)]) ∧ Below W.heap.size W w') := Lib.hid (fun W => hdput_any l W (by omega))
  have H2 : Hid (∀ W, Calls Try.prog 7 #[.string ⟨l.toArray⟩] W fun e w' => e = .returned (.tuple #[.string ⟨(hcP l).toArray⟩, .int .i64 (hcE l)]) ∧ Below W.heap.size W w') := Lib.hid (fun W => rhdput_any l W (by omega))
  have H3 : Hid (∀ W, Calls Try.prog 8 #[.string ⟨s.toArray⟩] W fun e w' => e = .returned (.tuple #[.string (hcTF s), .int .i64 (hcTN s), .int .i64 (hcTE s)]) ∧ Below W.heap.size W w') := Lib.hid (fun W => hdtake_any s W (by omega))
  have H4 : Hid (∀ W, Calls Try.prog 9 #[.string ⟨s.toArray⟩] W fun e w' => e = .returned (.tuple #[.string (hcTF s), .int .i64 (hcTN s), .int .i64 (hcTE s)]) ∧ Below W.heap.size W w') := Lib.hid (fun W => rhdtake_any s W (by omega))
  have Z1 := Lib.hid (bsize l)
  have Z2 := Lib.hid (bsize s)
  have g1 : ¬ (500 : Int) < (l.length : Int) := by omega
  have g2 : ¬ (500 : Int) < (s.length : Int) := by omega
  generalize hcP l = P at *
  generalize hcE l = x at *
  obtain ⟨F, hF⟩ : ∃ F : List UInt8, hcTF s = ⟨F.toArray⟩ := ⟨(hcTF s).data.toList, by simp⟩
  rw [hF] at H3 H4
  generalize hcTN s = n at *
  generalize hcTE s = y at *
  clear hF hl hs
  go_enter Try.func3, Try.ntmps3
  go_wp2_with fail
  refine (H1.out _).mono ?_
  rintro e w1 ⟨rfl, hb1⟩
  go_wp2_with fail
  refine (H2.out _).mono ?_
  rintro e w2 ⟨rfl, hb2⟩
  have HB2 := Lib.hid (hb1.trans (hb2.mono hb1.size))
  clear hb1 hb2
  go_wp2_with fail
  refine (H3.out _).mono ?_
  rintro e w3 ⟨rfl, hb3⟩
  have HB3 := Lib.hid (HB2.out.trans (hb3.mono HB2.out.size))
  clear hb3
  go_wp2_with fail
  refine (H4.out _).mono ?_
  rintro e w4 ⟨rfl, hb4⟩
  have HB4 := Lib.hid (HB3.out.trans (hb4.mono HB3.out.size))
  clear hb4 H1 H2 H3 H4
  go_wp2_with fail
  refine (hdawake_any _).mono ?_
  rintro e w5 ⟨rfl, hb5⟩
  have HB5 := Lib.hid (HB4.out.trans (hb5.mono HB4.out.size))
  clear hb5
  go_wp2
  go_ret
  exact ⟨rfl, HB5.out⟩

theorem bytes_list (s : ByteArray) : s = ⟨s.data.toList.toArray⟩ := by simp
theorem headTells_walk (f s : ByteArray) (w : World) (hf : f.size ≤ 9223372036854775807) (hs : s.size ≤ 9223372036854775807) :
    Calls Try.prog 3 #[.string f, .string s] w fun e w' => e = .returned (.bool true) ∧ Below w.heap.size w w' := by
  by_cases h : 500 < f.size ∨ 500 < s.size
  · exact headTells_long f s w h hf hs
  · have e1 := Lib.size_eq f
    have e2 := Lib.size_eq s
    rw [bytes_list f, bytes_list s]
    exact headTells_short f.data.toList s.data.toList w (by omega) (by omega)
end Go.Proofs.Ytgkpeehondmalaa
