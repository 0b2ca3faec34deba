/-
  The document's All: walked.
-/
import Derived.Test.YthmihhacfhjimaaOcSt
set_option linter.unusedSimpArgs false
set_option linter.unusedVariables false
namespace Go.Proofs.Ythmihhacfhjimaa
open Go.RowKit

set_option maxRecDepth 100000 in
set_option maxHeartbeats 2000000 in
theorem rall_any (a : Option Addr) (len cap : Nat) (us : List (List UInt8)) (s : List UInt8) (w : World) (hlen : len ≤ 1000000) (hr : IsStrs w a len us) (hu : ∀ t ∈ us, t.length ≤ 1000000) (hs : s.length ≤ 100000) :
    Calls Try.prog 10 #[.slice a len cap, .string ⟨s.toArray⟩] w (RetH (hitL us s) w) := by
  have hwl := hr.1
  have HH := Lib.hid hr
  have HU := Lib.hid hu
  have S1 := Lib.hid (bsize s)
  have HN := Lib.hid (fun n => hitK_next us s n)
  have HLn := Lib.hid (fun n (hn : n ≤ s.length + 1) => (show (hitK us s n).length ≤ 1000000000000 by
    have h1 := hitK_length us s n
    have h2 : n * us.length ≤ 100001 * 1000000 := Nat.mul_le_mul (by omega) (by omega)
    omega))
  have HLe := Lib.hid (fun e k => hitE_length us s e k)
  obtain ⟨i0, hi, hz0, hz1, hz2⟩ := info_parts hit_info
  clear hr hu
  go_enter Try.func10, Try.ntmps10
  go_wp2
  go_loopw [5, 6] (fun v i wr => ∃ (m : Nat) (acc : List Ht), m ≤ s.length + 1 ∧ i = .int .i64 m ∧ Hid (hitK us s m = acc) ∧ wr.ownsRow w.heap.size 37 2 v acc.length (hiCells acc) ∧ Below w.heap.size w wr) (fun _ i _ => s.length + 1 - (RowKit.intOf i).toNat)
  case atStart => exact ⟨0, [], Nat.zero_le _, rfl, Lib.hid rfl, World.ownsRow_made w #[] 0 (Nat.le_refl _) (by unfold maxLen; omega) rfl, (Below.refl _ _).alloc (Nat.le_refl _) _⟩
  case round =>
    obtain ⟨m, acc, hm, rfl, HK, hown, hbe⟩ := hrel
    by_cases hlt : m ≤ s.length
    · obtain ⟨W1, hW1⟩ : ∃ W1, W1 = wr := ⟨_, rfl⟩
      subst hW1
      have hal : acc.length ≤ 1000000000000 := by rw [← HK.out]; exact HLn.out m hm
      have g9 : (m : Int) ≤ (s.length : Int) := by omega
      have HO := Lib.hid hown
      have HB := Lib.hid hbe
      clear hown hbe
      go_wp2
      go_loopw [5, 7] (fun v i wr => ∃ (k : Nat) (bcc : List Ht), k ≤ len ∧ i = .int .i64 k ∧ bcc.length ≤ acc.length + k ∧ Hid (acc ++ hitE us s m k = bcc) ∧ wr.ownsRow w.heap.size 37 2 v bcc.length (hiCells bcc) ∧ Below w.heap.size w wr) (fun _ i _ => len - (RowKit.intOf i).toNat)
      case atStart => exact ⟨0, acc, Nat.zero_le _, rfl, Nat.le_refl _, Lib.hid (by simp [hitE, idsK]), HO.out, HB.out⟩
      case round =>
        obtain ⟨k, bcc, hk, rfl, hbl, HE, hown, hbe⟩ := hrel
        have hsz := hbe.size
        by_cases hlt2 : k < len
        · obtain ⟨b, off, rfl, t, hf, hc⟩ := str_at HH.out hbe k hlt2
          have htl := HU.out t (List.mem_of_getElem? hf)
          have HC := Lib.hid (rstands_any t s m wr htl (by omega) (by omega))
          have g0 : (0 : Int) ≤ (k : Int) := by omega
          have g1 : (k : Int) < (len : Int) := by omega
          cases hq : stB t s m with
          | true =>
            have HR : Hid (acc ++ hitE us s m (k + 1) = bcc ++ [((m : Int), (k : Int))]) := Lib.hid (by rw [hitE_hit hf hq, ← List.append_assoc, HE.out])
            rw [hq] at HC
            clear hq hf HE
            go_wp2_with fail
            refine HC.out.mono ?_
            rintro en w' ⟨rfl, rfl⟩
            clear HC
            go_wp2_with (at_builtin; refine wpList_append_own _ rfl _ _ 34 rfl w.heap.size 37 i0 (.agg #[.int .i64 0, .int .i64 0]) 2 16 Try.underlying34 hi hz0 hz1 hz2 rfl (by decide) _ _ _ rfl (hown.alloc _) ⟨wr.heap.size, 0, none⟩ 1 1 [.int .i64 (m : Int), .int .i64 (k : Int)] rfl rfl (hit_news (heap_alloc_new wr _)) hit_one (by unfold maxLen; omega) (by omega) (by simp; omega) ?_)
            intro v' w3 hown3 hgrow _
            have h3 : Below w.heap.size w w3 := (hbe.alloc hsz _).grown hgrow (by simp; omega) (fun j hj => (hown.lt j hj).1)
            clear hgrow hown hbe
            go_wp2
            exact ⟨⟨k + 1, bcc ++ [((m : Int), (k : Int))], by omega, by go_num, by rw [List.length_append, List.length_singleton]; omega, HR, by rw [hiCells_snoc, List.length_append]; exact hown3, h3⟩, by simp [RowKit.intOf]; omega⟩
          | false =>
            have HR : Hid (acc ++ hitE us s m (k + 1) = bcc) := Lib.hid (by rw [hitE_miss hf hq, HE.out])
            rw [hq] at HC
            clear hq hf HE
            go_wp2_with fail
            refine HC.out.mono ?_
            rintro en w' ⟨rfl, rfl⟩
            clear HC
            go_wp2
            exact ⟨⟨k + 1, bcc, by omega, by go_num, by omega, HR, hown, hbe⟩, by simp [RowKit.intOf]; omega⟩
        · obtain rfl : k = len := by omega
          have hz : ¬ (k : Int) < (k : Int) := by omega
          have HR : Hid (hitK us s (m + 1) = bcc) := Lib.hid (by rw [HN.out, HK.out, hwl]; exact HE.out)
          have HO2 := Lib.hid hown
          have HB2 := Lib.hid hbe
          clear hown hbe HE HK
          go_wp2
          exact ⟨⟨m + 1, bcc, by omega, by go_num, HR, HO2.out, HB2.out⟩, by simp [RowKit.intOf]; omega⟩
    · obtain rfl : m = s.length + 1 := by omega
      have hz : ¬ ((s.length : Int) + 1) ≤ (s.length : Int) := by omega
      have HE : Hid (hitL us s = acc) := Lib.hid (by unfold hitL; exact HK.out)
      have HO := Lib.hid hown
      clear hown HK
      go_wp2
      go_ret
      exact ⟨_, rfl, by rw [HE.out]; exact HO.out, hbe⟩
end Go.Proofs.Ythmihhacfhjimaa
