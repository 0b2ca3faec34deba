/-
  frame.Join, walked.
-/
import Derived.Test.YtgkhfdifgeboaaaFrW
set_option linter.unusedSimpArgs false
set_option linter.unusedVariables false
namespace Go.Proofs.Ytgkhfdifgeboaaa
open Go.RowKit

theorem frs_take_le (l : List Fr) (k : Nat) : (frs (l.take k)).length ≤ (frs l).length := by
  have h := frs_append (l.take k) (l.drop k)
  rw [List.take_append_drop] at h
  rw [h, List.length_append]
  omega

/-- What is known of the k-th frame. -/
theorem frame_at {w wr : World} {a : Option Addr} {len : Nat} {fs : List Fr} (h : IsFrames w a len fs) (hb : Below w.heap.size w wr) (k : Nat) (hk : k < len) :
    ∃ b off f, a = some ⟨b, off, none⟩ ∧ f ∈ fs ∧ fs[k]? = some f ∧ wr.cell? ⟨b, off + k * 2, none⟩ = some (.int .i64 f.1) ∧ wr.cell? ⟨b, off + k * 2 + 1, none⟩ = some (.string f.2) := by
  obtain ⟨b, off, ha, f, hf, h1, h2⟩ := h.get k hk
  exact ⟨b, off, f, ha, List.mem_of_getElem? hf, hf, cell_below h1 hb, cell_below h2 hb⟩

set_option maxHeartbeats 1000000 in
theorem frjoin_bad (a : Option Addr) (len cap : Nat) (fs : List Fr) (w : World) (hlen : len ≤ 1000000) (hr : IsFrames w a len fs) (hs : ∀ f ∈ fs, f.2.size ≤ 9223372036854775807) (he : joinE fs ≠ 0) :
    Calls Try.prog 9 #[.slice a len cap] w fun e w' => e = .returned (.tuple #[.string ⟨#[]⟩, .int .i64 (joinE fs)]) ∧ Below w.heap.size w w' := by
  have hfl := hr.1
  obtain ⟨E, HE⟩ : ∃ E, Hid (joinE fs = E) := ⟨_, Lib.hid rfl⟩
  rw [HE.out] at he ⊢
  go_enter Try.func9, Try.ntmps9
  go_wp2_with fail
  go_loopw [12] (fun i wr => ∃ k : Nat, k ≤ len ∧ i = .int .i64 k ∧ Hid (joinE (fs.take k) = 0) ∧ Below w.heap.size w wr) (fun i _ => len - (RowKit.intOf i).toNat)
  case atStart => exact ⟨0, Nat.zero_le _, rfl, Lib.hid rfl, Below.refl _ _⟩
  case round =>
    rename_i wr
    obtain ⟨k, hk, rfl, HJ, hbe⟩ := hrel
    by_cases hlt : k < len
    · obtain ⟨b, off, f, rfl, hmem, hf, c0, c1⟩ := frame_at hr hbe k hlt
      have hsf := hs f hmem
      have hkf : k < fs.length := by omega
      have HF : Hid (fs[k] = f) := Lib.hid (by have := List.getElem?_eq_getElem hkf; rw [hf] at this; simpa using this.symm)
      have hF : Hid (∀ W, Calls Try.prog 18 #[.agg #[.int .i64 f.1, .string f.2]] W fun e w' => e = .returned (.int .i64 (frE f)) ∧ Below W.heap.size W w') := Lib.hid (fun W => fault_any f W hsf)
      have hsz := hbe.size
      clear hf hmem
      by_cases hef : frE f = 0
      · have HJ' := Lib.hid (joinE_step fs k hkf HJ.out (by rw [HF.out]; exact hef))
        rw [hef] at hF
        obtain ⟨kd, d⟩ := f
        simp only at c0 c1 hF hsf
        clear hef
        go_wp2_with fail
        refine (hF.out _).mono ?_
        rintro e w2 ⟨rfl, hb2⟩
        go_wp2
        exact ⟨⟨k + 1, by omega, by go_num, HJ', hbe.trans (((Below.refl _ _).alloc hsz _).trans (hb2.mono (by simp; omega)))⟩, by simp [RowKit.intOf]; omega⟩
      · have HX := Lib.hid (joinE_hit fs k hkf HJ.out (by rw [HF.out]; exact hef))
        rw [HF.out, HE.out] at HX
        have hx := Lib.hid HX.out.symm
        rw [hx.out] at hF hef
        have hef' : (E == 0) = false := by simpa using hef
        obtain ⟨kd, d⟩ := f
        simp only at c0 c1 hF hsf
        clear hef
        go_wp2_with fail
        refine (hF.out _).mono ?_
        rintro e w2 ⟨rfl, hb2⟩
        go_wp2
        go_ret2
        exact ⟨rfl, hbe.trans (((Below.refl _ _).alloc hsz _).trans (hb2.mono (by simp; omega)))⟩
    · exfalso
      obtain rfl : k = len := by omega
      have := HJ.out
      rw [← hfl, List.take_length, HE.out] at this
      exact he this

set_option maxHeartbeats 1000000 in
theorem frjoin_good (a : Option Addr) (len cap : Nat) (fs : List Fr) (w : World) (hlen : len ≤ 1000000) (hr : IsFrames w a len fs) (hs : ∀ f ∈ fs, f.2.size ≤ 9223372036854775807) (he : joinE fs = 0) (hN : (frs fs).length ≤ 1000000000) :
    Calls Try.prog 9 #[.slice a len cap] w fun e w' => e = .returned (.tuple #[.string ⟨(frs fs).toArray⟩, .int .i64 0]) ∧ Below w.heap.size w w' := by
  have hfl := hr.1
  have HA := Lib.hid (joinE_all fs he)
  have HN := Lib.hid (fun k => Nat.le_trans (frs_take_le fs k) hN)
  obtain ⟨bs, HB⟩ : ∃ bs, Hid (frs fs = bs) := ⟨_, Lib.hid rfl⟩
  rw [HB.out]
  clear he hN
  go_enter Try.func9, Try.ntmps9
  go_wp2_with fail
  go_loopw [12] (fun i wr => ∃ k : Nat, k ≤ len ∧ i = .int .i64 k ∧ Below w.heap.size w wr) (fun i _ => len - (RowKit.intOf i).toNat)
  case atStart => exact ⟨0, Nat.zero_le _, rfl, Below.refl _ _⟩
  case round =>
    rename_i wr
    obtain ⟨k, hk, rfl, hbe⟩ := hrel
    have hsz := hbe.size
    by_cases hlt : k < len
    · obtain ⟨b, off, f, rfl, hmem, hf, c0, c1⟩ := frame_at hr hbe k hlt
      have hsf := hs f hmem
      have hef := HA.out f hmem
      have hF : Hid (∀ W, Calls Try.prog 18 #[.agg #[.int .i64 f.1, .string f.2]] W fun e w' => e = .returned (.int .i64 (frE f)) ∧ Below W.heap.size W w') := Lib.hid (fun W => fault_any f W hsf)
      rw [hef] at hF
      clear hf hmem hef
      obtain ⟨kd, d⟩ := f
      simp only at c0 c1 hF hsf
      go_wp2_with fail
      refine (hF.out _).mono ?_
      rintro e w2 ⟨rfl, hb2⟩
      go_wp2
      exact ⟨⟨k + 1, by omega, by go_num, hbe.trans (((Below.refl _ _).alloc hsz _).trans (hb2.mono (by simp; omega)))⟩, by simp [RowKit.intOf]; omega⟩
    · obtain rfl : k = len := by omega
      clear hlt
      obtain ⟨W1, hW1⟩ : ∃ W1, W1 = wr := ⟨_, rfl⟩
      subst hW1
      go_wp2_with fail
      go_loopw [24] (fun i wx => ∃ j : Nat, j ≤ k ∧ i = .int .i64 j ∧ Lib.IsBuilder 51 5 W1.heap.size W1.heap.size (Lib.byteCells (frs (fs.take j))) wx ∧ Below W1.heap.size W1 wx) (fun i _ => k - (RowKit.intOf i).toNat)
      case atStart => exact ⟨0, Nat.zero_le _, rfl, Lib.fresh_isBuilder _ _ W1, (Below.refl _ _).alloc (Nat.le_refl _) _⟩
      case round =>
        obtain ⟨wx, hW1⟩ : ∃ wx, wx = wr := ⟨_, rfl⟩
        subst hW1
        obtain ⟨j, hj, rfl, hbu, hbx⟩ := hrel
        have hszx := hbx.size
        have hbw := hbe.trans (hbx.mono hsz)
        by_cases hlt : j < k
        · obtain ⟨b, off, f, rfl, hmem, hf, c0, c1⟩ := frame_at hr hbw j hlt
          have hsf := hs f hmem
          have hef := HA.out f hmem
          have hkf : j < fs.length := by omega
          have HS : Hid (frs (fs.take (j + 1)) = frs (fs.take j) ++ frB f) := Lib.hid (by
            rw [frs_step fs j hkf]
            have := List.getElem?_eq_getElem hkf
            rw [hf] at this
            rw [show fs[j] = f by simpa using this.symm])
          have hl9 := HN.out j
          generalize frs (fs.take j) = acc at hbu hl9 HS
          have hW : Hid (∀ W, Lib.IsBuilder 51 5 W1.heap.size W1.heap.size (Lib.byteCells acc) W → W1.heap.size ≤ W.heap.size → Calls Try.prog 19 #[.pointer (some ⟨W1.heap.size, 0, none⟩), .agg #[.int .i64 f.1, .string f.2]] W fun e w' => e = .returned (.tuple #[]) ∧
            Lib.IsBuilder 51 5 W1.heap.size W1.heap.size (Lib.byteCells (acc ++ frB f)) w' ∧ Below W1.heap.size W w') := Lib.hid (fun W h1 h2 => frwrite_any _ _ acc f W hef h1 hl9 h2)
          clear hf hmem hef
          generalize frB f = fb at hW HS
          obtain ⟨kd, d⟩ := f
          simp only at c0 c1 hW hsf
          go_wp2_with fail
          refine (hW.out _ (IsBuilder.below hbu ((Below.refl _ _).alloc (Nat.le_refl _) _)) (by simp; omega)).mono ?_
          rintro e w2 ⟨rfl, hbu2, hb2⟩
          go_wp2
          exact ⟨⟨j + 1, by omega, by go_num, by rw [HS.out]; exact hbu2, hbx.trans (((Below.refl _ _).alloc hszx _).trans hb2)⟩, by simp [RowKit.intOf]; omega⟩
        · obtain rfl : j = k := by omega
          rw [← hfl, List.take_length, HB.out] at hbu
          go_wp2_with (go_at_call 20; refine (Try.Builder_String_any _ _ _ _ hbu hbx.size).mono ?_; rintro e w3 ⟨rfl, hb3⟩)
          go_ret2
          exact ⟨rfl, hbe.trans ((hbx.trans hb3).mono hsz)⟩
end Go.Proofs.Ytgkhfdifgeboaaa
