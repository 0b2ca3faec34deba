/-
  The law's own functions of layer 4: few, mine, same, awake.
-/
import Derived.Test.YtgkhfdifgeboaaaFrS
import Derived.Test.YtgkhfdifgeboaaaFrJ
set_option linter.unusedSimpArgs false
set_option linter.unusedVariables false
namespace Go.Proofs.Ytgkhfdifgeboaaa
open Go.RowKit

theorem few_long (a : Option Addr) (len cap : Nat) (w : World) (hm : len ≤ 9223372036854775807) (h : 20 < len) :
    Calls Try.prog 6 #[.slice a len cap] w fun e w' => e = .returned (.bool false) ∧ w = w' := by
  go_enter Try.func6, Try.ntmps6
  go_wp2
  go_ret
  exact ⟨rfl, rfl⟩

set_option maxHeartbeats 1000000 in
theorem few_yes (a : Option Addr) (len cap : Nat) (fs : List Fr) (w : World) (hr : IsFrames w a len fs) (h : len ≤ 20) (hs : ∀ f ∈ fs, f.2.size ≤ 500) :
    Calls Try.prog 6 #[.slice a len cap] w fun e w' => e = .returned (.bool true) ∧ w = w' := by
  have HS := Lib.hid hs
  clear hs
  go_enter Try.func6, Try.ntmps6
  go_wp2
  go_loop [3] (fun i => ∃ k : Nat, k ≤ len ∧ i = .int .i64 k) (fun i => len - (RowKit.intOf i).toNat)
  case atStart => exact ⟨0, Nat.zero_le _, rfl⟩
  case round =>
    obtain ⟨k, hk, rfl⟩ := hrel
    by_cases hlt : k < len
    · obtain ⟨b, off, f, rfl, hmem, hf, c0, c1⟩ := frame_at hr (Below.refl _ _) k hlt
      have hsf := HS.out f hmem
      clear hmem hf
      obtain ⟨kd, d⟩ := f
      simp only at c0 c1 hsf
      go_wp2
      exact ⟨⟨k + 1, by omega, by go_num⟩, by simp [RowKit.intOf]; omega⟩
    · obtain rfl : k = len := by omega
      go_wp2
      go_ret
      exact ⟨rfl, rfl⟩

set_option maxHeartbeats 1000000 in
theorem few_no (a : Option Addr) (len cap : Nat) (fs : List Fr) (w : World) (hr : IsFrames w a len fs) (h : len ≤ 20) (hs : ∀ f ∈ fs, f.2.size ≤ 9223372036854775807) (hn : ¬ ∀ f ∈ fs, f.2.size ≤ 500) :
    Calls Try.prog 6 #[.slice a len cap] w fun e w' => e = .returned (.bool false) ∧ w = w' := by
  have HS := Lib.hid hs
  have HN := Lib.hid hn
  have hfl := hr.1
  clear hs hn
  go_enter Try.func6, Try.ntmps6
  go_wp2
  go_loop [3] (fun i => ∃ k : Nat, k ≤ len ∧ i = .int .i64 k ∧ Hid (∀ f ∈ fs.take k, f.2.size ≤ 500)) (fun i => len - (RowKit.intOf i).toNat)
  case atStart => exact ⟨0, Nat.zero_le _, rfl, Lib.hid (by simp)⟩
  case round =>
    obtain ⟨k, hk, rfl, HT⟩ := hrel
    by_cases hlt : k < len
    · obtain ⟨b, off, f, rfl, hmem, hf, c0, c1⟩ := frame_at hr (Below.refl _ _) k hlt
      have hsf := HS.out f hmem
      have HT' : f.2.size ≤ 500 → Hid (∀ g ∈ fs.take (k + 1), g.2.size ≤ 500) := fun h5 => Lib.hid (by
        have hkf : k < fs.length := by omega
        rw [List.take_succ_eq_append_getElem hkf]
        have e : fs[k] = f := by have := List.getElem?_eq_getElem hkf; rw [hf] at this; simpa using this.symm
        intro g hg
        rw [List.mem_append] at hg
        rcases hg with hg | hg
        · exact HT.out g hg
        · simp at hg; rw [hg, e]; exact h5)
      clear hmem hf
      obtain ⟨kd, d⟩ := f
      simp only at c0 c1 hsf HT'
      by_cases h5 : d.size ≤ 500
      · have HT2 := HT' h5
        clear HT'
        go_wp2
        exact ⟨⟨k + 1, by omega, by go_num, HT2⟩, by simp [RowKit.intOf]; omega⟩
      · clear HT'
        have h5' : 500 < (d.size : Int) := by omega
        go_wp2
        go_ret
        exact ⟨rfl, rfl⟩
    · exfalso
      have := HT.out
      rw [show k = fs.length by omega, List.take_length] at this
      exact HN.out this
end Go.Proofs.Ytgkhfdifgeboaaa
