/-
  occ.each: walked, whatever it asks.
-/
import Derived.Test.YtkpmbappddlcmaaPtU
set_option linter.unusedSimpArgs false
set_option linter.unusedVariables false
namespace Go.Proofs.Ytkpmbappddlcmaa
open Go.RowKit

set_option maxHeartbeats 1000000 in
theorem oceach_any (g : Nat) (lb : Array Value) (eg : ∀ args w, (callFunc g args).run Try.prog w = .ok (.enter g args) w) {w : World} {p : Option Addr} {us : List (List UInt8)} (h : IsPats w p us) (hl : us.length ≤ 1000000)
    (I : Nat → World → Prop) (hI : ∀ k W, I k W → Below w.heap.size w W)
    (hs : ∀ k t W, us[k]? = some t → I k W → Calls Try.prog g (#[.int .i64 (k : Int), .string ⟨t.toArray⟩] ++ lb) W fun e w' => e = .returned (.tuple #[]) ∧ I (k + 1) w') (w0 : World) (h0 : I 0 w0) :
    Calls Try.prog 30 #[.pointer p, .func (.func g) #[] lb] w0 fun e w' => e = .returned (.tuple #[]) ∧ I us.length w' := by
  have HP := Lib.hid h
  have HI := Lib.hid hI
  have HS := Lib.hid hs
  have HL := Lib.hid (ptlen_all (h.below (hI 0 w0 h0)))
  have H0 := Lib.hid h0
  clear h hI hs h0
  go_enter Try.func30, Try.ntmps30
  go_wp2_with fail
  refine HL.out.mono ?_
  rintro e w' ⟨rfl, hw⟩
  obtain rfl := hw.symm
  clear hw HL
  go_wp2
  go_loopw [9] (fun i wr => ∃ k : Nat, k ≤ us.length ∧ i = .int .i64 k ∧ Hid (I k wr)) (fun i _ => us.length - (RowKit.intOf i).toNat)
  case atStart => exact ⟨0, Nat.zero_le _, rfl, H0⟩
  case round =>
    obtain ⟨k, hk, rfl, HK⟩ := hrel
    by_cases hlt : k < us.length
    · obtain ⟨t, hf⟩ : ∃ t, us[k]? = some t := ⟨_, List.getElem?_eq_getElem hlt⟩
      have A1 := Lib.hid (ptat_all (HP.out.below (HI.out k wr HK.out)) k t hf)
      have C1 := Lib.hid (HS.out k t wr hf HK.out)
      clear hf HK
      go_wp2_with fail
      refine A1.out.mono ?_
      rintro e w' ⟨rfl, hw⟩
      obtain rfl := hw.symm
      clear hw A1
      go_wp2_with fail
      refine C1.out.mono ?_
      rintro e w2 ⟨rfl, hi2⟩
      have HI2 := Lib.hid hi2
      clear hi2 C1
      go_wp2
      exact ⟨⟨k + 1, by omega, by go_num, HI2⟩, by simp [RowKit.intOf]; omega⟩
    · obtain rfl : k = us.length := by omega
      have hz : ¬ (us.length : Int) < (us.length : Int) := by omega
      go_wp2
      go_end0
      exact ⟨rfl, HK.out⟩
end Go.Proofs.Ytkpmbappddlcmaa
