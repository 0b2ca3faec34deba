/-
  The law FramePuts, walked: for every slice of frames it returns true, and writes nothing that was there.
-/
import Derived.Test.YtgkhfdifgeboaaaFrSm
import Derived.Test.YtgkhfdifgeboaaaFrLw
import Derived.Test.YtgkhfdifgeboaaaFrMn
import Derived.Test.YtgkhfdifgeboaaaFrRef
set_option linter.unusedSimpArgs false
set_option linter.unusedVariables false
namespace Go.Proofs.Ytgkhfdifgeboaaa
open Go.RowKit

/-- Join of any frames. -/
theorem frjoin_any (a : Option Addr) (len cap : Nat) (fs : List Fr) (w : World) (hlen : len ≤ 1000000) (hr : IsFrames w a len fs) (hs : ∀ f ∈ fs, f.2.size ≤ 9223372036854775807) (hN : joinE fs = 0 → (frs fs).length ≤ 1000000000) :
    Calls Try.prog 9 #[.slice a len cap] w fun e w' => e = .returned (.tuple #[.string ⟨(joinB fs).toArray⟩, .int .i64 (joinE fs)]) ∧ Below w.heap.size w w' := by
  by_cases he : joinE fs = 0
  · rw [joinB_good fs he, he]
    exact frjoin_good a len cap fs w hlen hr hs he (hN he)
  · rw [joinB_bad fs he]
    exact frjoin_bad a len cap fs w hlen hr hs he

/-- The law, of frames that are many, or one of them long. -/
theorem fputs_not (a : Option Addr) (len cap : Nat) (w : World) (HF : Calls Try.prog 6 #[.slice a len cap] w fun e w' => e = .returned (.bool false) ∧ w = w') :
    Calls Try.prog 3 #[.slice a len cap] w fun e w' => e = .returned (.bool true) ∧ Below w.heap.size w w' := by
  have H := Lib.hid HF
  clear HF
  go_enter Try.func3, Try.ntmps3
  go_wp2_with fail
  refine H.out.mono ?_
  rintro e w' ⟨rfl, rfl⟩
  go_wp2_with fail
  refine (awake_any _).mono ?_
  rintro e w' ⟨rfl, hb⟩
  go_wp2
  go_ret
  exact ⟨rfl, hb⟩

set_option maxHeartbeats 2000000 in
theorem fputs_few (a : Option Addr) (len cap : Nat) (fs : List Fr) (w : World) (hr : IsFrames w a len fs) (h : len ≤ 20) (hs : ∀ f ∈ fs, f.2.size ≤ 500) :
    Calls Try.prog 3 #[.slice a len cap] w fun e w' => e = .returned (.bool true) ∧ Below w.heap.size w w' := by
  have hfl := hr.1
  have H9 := Lib.hid (fun f hf => Nat.le_trans (hs f hf) (show 500 ≤ 9223372036854775807 by decide))
  have hN : ∀ k, k ≤ fs.length → joinE (fs.take k) = 0 → (frs (fs.take k)).length ≤ 1000000 := fun k hk he => by
    have := frs_length (fs.take k) 500 (fun f hf => hs f (List.mem_of_mem_take hf)) (joinE_all _ he)
    have : (fs.take k).length ≤ k := List.length_take_le _ _
    omega
  have HJ : Hid (∀ a len cap w, len ≤ 20 → IsFrames w a len fs → Calls Try.prog 9 #[.slice a len cap] w fun e w' => e = .returned (.tuple #[.string ⟨(joinB fs).toArray⟩, .int .i64 (joinE fs)]) ∧ Below w.heap.size w w') :=
    Lib.hid (fun a len cap w hl hr => frjoin_any a len cap fs w (by omega) hr H9.out (fun he => by
      have := hN fs.length (Nat.le_refl _) (by rw [List.take_length]; exact he)
      rw [List.take_length] at this; omega))
  have HR : Hid (∀ a len cap w, len ≤ 20 → IsFrames w a len fs → Calls Try.prog 10 #[.slice a len cap] w fun e w' => e = .returned (.tuple #[.string ⟨(joinB fs).toArray⟩, .int .i64 (joinE fs)]) ∧ Below w.heap.size w w') :=
    Lib.hid (fun a len cap w hl hr => rfrjoin_any a len cap fs w (by omega) hr (fun f hf => Nat.le_trans (hs f hf) (by decide)) hN)
  have HF := Lib.hid (fun w (hr : IsFrames w a len fs) => few_yes a len cap fs w hr h hs)
  clear hN hs
  generalize joinB fs = S at HJ HR
  generalize joinE fs = E at HJ HR
  go_enter Try.func3, Try.ntmps3
  go_wp2_with fail
  refine (HF.out _ hr).mono ?_
  rintro e w' ⟨rfl, rfl⟩
  go_wp2_with fail
  refine (mine_any a len cap fs _ (by omega) hr).mono ?_
  rintro e w1 ⟨a1, c1, rfl, hm1, hb1⟩
  rw [hfl] at hm1
  have hr1 := hr.below hb1
  have hs1 := hb1.size
  rw [hfl]
  go_wp2_with fail
  refine (HJ.out a1 len c1 _ h hm1).mono ?_
  rintro e w2 ⟨rfl, hb2⟩
  have hm2 := hm1.below hb2
  have hr2 := hr1.below hb2
  have hs2 := hb2.size
  have hb02 := hb1.trans (hb2.mono hs1)
  go_wp2_with fail
  refine (HR.out a len cap _ h hr2).mono ?_
  rintro e w3 ⟨rfl, hb3⟩
  have hm3 := hm2.below hb3
  have hr3 := hr2.below hb3
  have hs3 := hb3.size
  have hb03 := hb02.trans (hb3.mono (by omega))
  clear hm1 hm2 hr1 hr2 hb1 hb2 hb3 hb02
  go_wp2_with fail
  go_loopw [8] (fun i wr => ∃ k : Nat, k ≤ len ∧ i = .int .i64 k ∧ Below w3.heap.size w3 wr) (fun i _ => len - (RowKit.intOf i).toNat)
  case atStart => exact ⟨0, Nat.zero_le _, rfl, Below.refl _ _⟩
  case round =>
    obtain ⟨k, hk, rfl, hbe⟩ := hrel
    have hsr := hbe.size
    by_cases hlt : k < len
    · obtain ⟨b1, off1, f, rfl, hmem, hf, d0, d1⟩ := frame_at hm3 hbe k hlt
      obtain ⟨b2, off2, f2, rfl, _, hf2, c0, c1⟩ := frame_at hr3 hbe k hlt
      have e : f2 = f := by rw [hf] at hf2; simpa using hf2.symm
      subst e
      have hsf := H9.out f2 hmem
      have HP := Lib.hid (fun w => frput_any f2 w hsf)
      have HQ := Lib.hid (fun w => rfrput_any f2 w hsf)
      clear hf hf2 hmem
      generalize putB f2 = pb at HP HQ
      generalize frE f2 = pe at HP HQ
      obtain ⟨kd, d⟩ := f2
      simp only at c0 c1 d0 d1 hsf HP HQ
      go_wp2_with fail
      refine (HP.out _).mono ?_
      rintro e w5 ⟨rfl, hb5⟩
      have hs5 := hb5.size
      have c0' := cell_below c0 hb5
      have c1' := cell_below c1 hb5
      go_wp2_with fail
      refine (HQ.out _).mono ?_
      rintro e w6 ⟨rfl, hb6⟩
      go_wp2
      exact ⟨⟨k + 1, by omega, by go_num, hbe.trans ((hb5.mono hsr).trans (hb6.mono (by omega)))⟩, by simp [RowKit.intOf]; omega⟩
    · obtain rfl : k = len := by omega
      go_wp2_with fail
      refine (awake_any _).mono ?_
      rintro e w7 ⟨rfl, hb7⟩
      go_wp2
      go_ret
      exact ⟨rfl, hb03.trans ((hbe.mono (by omega)).trans (hb7.mono (by omega)))⟩
end Go.Proofs.Ytgkhfdifgeboaaa
