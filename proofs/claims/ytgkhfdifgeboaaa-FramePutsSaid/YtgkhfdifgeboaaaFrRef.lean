/-
  The document's own answers for layer 4: Put and Join, walked.
-/
import Derived.Test.YtgkhfdifgeboaaaFrJ
import Derived.Test.YtgkhfdifgeboaaaFrRp
set_option linter.unusedSimpArgs false
set_option linter.unusedVariables false
namespace Go.Proofs.Ytgkhfdifgeboaaa
open Go.RowKit

set_option maxHeartbeats 1000000 in
theorem rfrput_bad (f : Fr) (w : World) (hs : f.2.size ≤ 9223372036854775807) (he : frE f ≠ 0) :
    Calls Try.prog 12 #[.agg #[.int .i64 f.1, .string f.2]] w fun e w' => e = .returned (.tuple #[.string ⟨(putB f).toArray⟩, .int .i64 (frE f)]) ∧ Below w.heap.size w w' := by
  have hp : Hid (putB f = []) := Lib.hid (by unfold putB; rw [if_neg he])
  by_cases h0 : f.1 < 1
  · have hx := Lib.hid (frE_low f h0)
    obtain ⟨k, d⟩ := f
    simp only at h0 hs ⊢
    clear he
    go_enter Try.func12, Try.ntmps12
    go_wp2
    go_ret2
    exact ⟨by rw [hx.out, hp.out]; rfl, (Below.refl _ _).alloc (Nat.le_refl _) _⟩
  by_cases h1 : 127 < f.1
  · have hx := Lib.hid (frE_high f h0 h1)
    obtain ⟨k, d⟩ := f
    simp only at h0 h1 hs ⊢
    clear he
    go_enter Try.func12, Try.ntmps12
    go_wp2
    go_ret2
    exact ⟨by rw [hx.out, hp.out]; rfl, (Below.refl _ _).alloc (Nat.le_refl _) _⟩
  by_cases h2 : 67108864 < f.2.size
  · have hx := Lib.hid (frE_long f h0 h1 h2)
    obtain ⟨k, d⟩ := f
    simp only at h0 h1 h2 hs ⊢
    have hd : decide (127 < k) = false := by simp; omega
    clear he
    go_enter Try.func12, Try.ntmps12
    go_wp2
    go_ret2
    exact ⟨by rw [hx.out, hp.out]; rfl, (Below.refl _ _).alloc (Nat.le_refl _) _⟩
  · exact absurd (frE_ok f h0 h1 h2) he

theorem rfrput_any (f : Fr) (w : World) (hs : f.2.size ≤ 9223372036854775807) :
    Calls Try.prog 12 #[.agg #[.int .i64 f.1, .string f.2]] w fun e w' => e = .returned (.tuple #[.string ⟨(putB f).toArray⟩, .int .i64 (frE f)]) ∧ Below w.heap.size w w' := by
  by_cases he : frE f = 0
  · have hp : putB f = frB f := by unfold putB; rw [if_pos he]
    rw [hp, he]
    exact rfrput_ok f w he
  · exact rfrput_bad f w hs he

theorem joinB_good (l : List Fr) (h : joinE l = 0) : joinB l = frs l := by unfold joinB; rw [if_pos h]
theorem joinB_bad (l : List Fr) (h : joinE l ≠ 0) : joinB l = [] := by unfold joinB; rw [if_neg h]

set_option maxHeartbeats 2000000 in
theorem rfrjoin_any (a : Option Addr) (len cap : Nat) (fs : List Fr) (w : World) (hlen : len ≤ 1000000) (hr : IsFrames w a len fs) (hs : ∀ f ∈ fs, f.2.size ≤ 1000000)
    (hN : ∀ k, k ≤ fs.length → joinE (fs.take k) = 0 → (frs (fs.take k)).length ≤ 1000000) :
    Calls Try.prog 10 #[.slice a len cap] w fun e w' => e = .returned (.tuple #[.string ⟨(joinB fs).toArray⟩, .int .i64 (joinE fs)]) ∧ Below w.heap.size w w' := by
  have hfl := hr.1
  have HN := Lib.hid hN
  clear hN
  obtain ⟨E, HE⟩ : ∃ E, Hid (joinE fs = E) := ⟨_, Lib.hid rfl⟩
  obtain ⟨S, HS⟩ : ∃ S, Hid (joinB fs = S) := ⟨_, Lib.hid rfl⟩
  rw [HE.out, HS.out]
  go_enter Try.func10, Try.ntmps10
  go_wp2_with fail
  go_loopw [4, 5] (fun s i wr => ∃ k : Nat, k ≤ len ∧ i = .int .i64 k ∧ s = .string ⟨(frs (fs.take k)).toArray⟩ ∧ Hid (joinE (fs.take k) = 0) ∧ Below w.heap.size w wr) (fun _ i _ => len - (RowKit.intOf i).toNat)
  case atStart => exact ⟨0, Nat.zero_le _, rfl, rfl, Lib.hid rfl, Below.refl _ _⟩
  case round =>
    rename_i wr
    obtain ⟨k, hk, rfl, rfl, HJ, hbe⟩ := hrel
    have hsz := hbe.size
    by_cases hlt : k < len
    · obtain ⟨b, off, f, rfl, hmem, hf, c0, c1⟩ := frame_at hr hbe k hlt
      have hsf := hs f hmem
      have hkf : k < fs.length := by omega
      have HF : Hid (fs[k] = f) := Lib.hid (by have := List.getElem?_eq_getElem hkf; rw [hf] at this; simpa using this.symm)
      have hF : Hid (∀ W, Calls Try.prog 12 #[.agg #[.int .i64 f.1, .string f.2]] W fun e w' => e = .returned (.tuple #[.string ⟨(putB f).toArray⟩, .int .i64 (frE f)]) ∧ Below W.heap.size W w') := Lib.hid (fun W => rfrput_any f W (by omega))
      have hl9 := HN.out k (by omega) HJ.out
      clear hf hmem
      by_cases hef : frE f = 0
      · have HJ' := Lib.hid (joinE_step fs k hkf HJ.out (by rw [HF.out]; exact hef))
        have HS' : Hid (frs (fs.take (k + 1)) = frs (fs.take k) ++ frB f) := Lib.hid (by rw [frs_step fs k hkf, HF.out])
        have hp : putB f = frB f := by unfold putB; rw [if_pos hef]
        have hbl := frB_length f hef
        rw [hp, hef] at hF
        clear hp hef
        generalize frs (fs.take k) = acc at hl9 HS' ⊢
        generalize frB f = fb at hF HS' hbl
        obtain ⟨kd, d⟩ := f
        simp only at c0 c1 hF hsf hbl
        go_wp2_with fail
        refine (hF.out _).mono ?_
        rintro e w2 ⟨rfl, hb2⟩
        go_wp2
        exact ⟨⟨k + 1, by omega, by go_num, by rw [HS'.out]; simp [ByteArray.mk_append_mk], HJ', hbe.trans (hb2.mono hsz)⟩, by simp [RowKit.intOf]; omega⟩
      · have hX := joinE_hit fs k hkf HJ.out (by rw [HF.out]; exact hef)
        have hB := joinB_bad fs (by rw [hX, HF.out]; exact hef)
        rw [HF.out] at hX
        have HX := Lib.hid (hX.symm.trans HE.out)
        have HY := Lib.hid (HS.out.symm.trans hB)
        have hp : putB f = [] := by unfold putB; rw [if_neg hef]
        rw [hp] at hF
        have hef' : (frE f == 0) = false := by simpa using hef
        clear hp hef hX hB
        generalize frE f = x at hF HX hef'
        generalize frs (fs.take k) = acc at hl9 ⊢
        obtain ⟨kd, d⟩ := f
        simp only at c0 c1 hF hsf
        go_wp2_with fail
        refine (hF.out _).mono ?_
        rintro e w2 ⟨rfl, hb2⟩
        go_wp2
        go_ret2
        exact ⟨by rw [HY.out, HX.out]; rfl, hbe.trans (hb2.mono hsz)⟩
    · obtain rfl : k = len := by omega
      have hj := HJ.out
      rw [← hfl, List.take_length] at hj
      have HX := Lib.hid (HE.out.symm.trans hj)
      have HY := Lib.hid (HS.out.symm.trans (joinB_good fs hj))
      have hT : fs.take k = fs := by rw [← hfl, List.take_length]
      rw [hT]
      clear hT hj
      go_wp2
      go_ret2
      exact ⟨by rw [HY.out, HX.out]; rfl, hbe⟩
end Go.Proofs.Ytgkhfdifgeboaaa
