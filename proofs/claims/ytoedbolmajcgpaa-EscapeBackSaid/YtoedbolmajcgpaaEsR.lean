/-
  The document's own answers for layer 5: Quote, walked.
-/
import Derived.Test.YtoedbolmajcgpaaEsU
set_option linter.unusedSimpArgs false
set_option linter.unusedVariables false
namespace Go.Proofs.Ytoedbolmajcgpaa
open Go.RowKit

set_option maxHeartbeats 1000000 in
theorem rquote_any (l : List UInt8) (w : World) (h : l.length ≤ 1000000) :
    Calls Try.prog 8 #[.string ⟨l.toArray⟩] w fun e w' => e = .returned (.string ⟨(quo l).toArray⟩) ∧ Below w.heap.size w w' := by
  have HS := Lib.hid (bsize l)
  by_cases h0 : l = []
  · subst h0
    go_enter Try.func8, Try.ntmps8
    go_wp2
    go_ret
    exact ⟨rfl, Below.refl _ _⟩
  by_cases h1 : l = [45]
  · subst h1
    go_enter Try.func8, Try.ntmps8
    go_wp2
    go_ret
    exact ⟨rfl, Below.refl _ _⟩
  have HQ : Hid (quo l = sgns l) := Lib.hid (by unfold quo; rw [if_neg h0, if_neg h1])
  have t0 := list_full h0
  have t1 := list_ne h1
  clear h0 h1
  go_enter Try.func8, Try.ntmps8
  go_wp2
  go_loopw [3, 4] (fun s i wr => ∃ k : Nat, k ≤ l.length ∧ i = .int .i64 k ∧ s = .string ⟨(sgns (l.take k)).toArray⟩ ∧ Below w.heap.size w wr) (fun _ i _ => l.length - (RowKit.intOf i).toNat)
  case atStart => exact ⟨0, Nat.zero_le _, rfl, rfl, Below.refl _ _⟩
  case round =>
    obtain ⟨k, hk, rfl, rfl, hbe⟩ := hrel
    have hsz := hbe.size
    by_cases hlt : k < l.length
    · have hz : k < (⟨l.toArray⟩ : ByteArray).size := by rw [HS.out]; exact hlt
      have A0 := byteAt l k hlt hz
      have HT := Lib.hid (show sgns (l.take (k + 1)) = sgns (l.take k) ++ sgn l[k] by rw [take_snoc8 l k hlt, sgns_snoc])
      have hlen := (sgns_len (l.take k)).2
      have hlk : (l.take k).length ≤ k := List.length_take_le _ _
      have hacc : (sgns (l.take k)).length ≤ 100000000 := by omega
      generalize l[k] = c at A0 HT
      generalize sgns (l.take k) = acc at HT hacc
      have hs4 := sgn_le c
      have HC := Lib.hid (fun w => sign_any c w)
      generalize sgn c = sc at HC HT hs4
      clear hlen hlk
      go_wp2_with fail
      refine (HC.out _).mono ?_
      rintro e w2 ⟨rfl, hb2⟩
      go_wp2
      exact ⟨⟨k + 1, by omega, by go_num, by rw [HT.out]; simp [ByteArray.mk_append_mk], hbe.trans (hb2.mono hsz)⟩, by simp [RowKit.intOf]; omega⟩
    · obtain rfl : k = l.length := by omega
      rw [List.take_length]
      obtain ⟨ss, HSS⟩ : ∃ ss, Hid (sgns l = ss) := ⟨_, Lib.hid rfl⟩
      rw [HSS.out]
      have HQ2 := Lib.hid (HQ.out.trans HSS.out)
      go_wp2
      go_ret
      exact ⟨by rw [HQ2.out]; rfl, hbe⟩
end Go.Proofs.Ytoedbolmajcgpaa
