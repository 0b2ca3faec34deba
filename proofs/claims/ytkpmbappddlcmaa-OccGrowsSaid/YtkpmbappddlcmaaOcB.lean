/-
  The document's Stands, Count, At: walked.
-/
import Derived.Test.YtkpmbappddlcmaaOcG
set_option linter.unusedSimpArgs false
set_option linter.unusedVariables false
namespace Go.Proofs.Ytkpmbappddlcmaa
open Go.RowKit

set_option maxHeartbeats 1000000 in
theorem rstands_any (p s : List UInt8) (e : Nat) (w : World) (hp : p.length ≤ 1000000) (hs : s.length ≤ 1000000) (he : e ≤ 9223372036854775807) :
    Calls Try.prog 29 #[.string ⟨p.toArray⟩, .string ⟨s.toArray⟩, .int .i64 (e : Int)] w fun en w' => en = .returned (.bool (stB p s e)) ∧ w = w' := by
  have S1 := Lib.hid (bsize p)
  have S2 := Lib.hid (bsize s)
  by_cases h1 : p.length ≤ e
  · by_cases h2 : e ≤ s.length
    · have x1 := ext_cut s (e - p.length) e
      have HQ := Lib.hid (st_cut h1 h2)
      have g1 : (p.length : Int) ≤ (e : Int) := by omega
      have g2 : (e : Int) ≤ (s.length : Int) := by omega
      have g3 : ((e : Int) - (p.length : Int)).toNat = e - p.length := by omega
      have g4 : (0 : Int) ≤ (e : Int) - (p.length : Int) := by omega
      have g5 : (e : Int) - (p.length : Int) ≤ (e : Int) := by omega
      have g6 : IntKind.i64.wrap ((e : Int) - (p.length : Int)) = (e : Int) - (p.length : Int) := by rw [IntKind.wrap_i64]; omega
      cases hq : ((s.take e).drop (e - p.length) == p) with
      | true =>
        rw [hq] at HQ
        generalize (s.take e).drop (e - p.length) = u at x1 hq
        go_enter Try.func29, Try.ntmps29
        go_wp2
        go_ret
        exact ⟨by rw [HQ.out]; rfl, rfl⟩
      | false =>
        rw [hq] at HQ
        generalize (s.take e).drop (e - p.length) = u at x1 hq
        go_enter Try.func29, Try.ntmps29
        go_wp2
        go_ret
        exact ⟨by rw [HQ.out]; rfl, rfl⟩
    · have HQ := Lib.hid (st_no (p := p) (s := s) (e := e) (.inr (by omega)))
      have g1 : (p.length : Int) ≤ (e : Int) := by omega
      have g2 : ¬ (e : Int) ≤ (s.length : Int) := by omega
      go_enter Try.func29, Try.ntmps29
      go_wp2
      go_ret
      exact ⟨by rw [HQ.out]; rfl, rfl⟩
  · have HQ := Lib.hid (st_no (p := p) (s := s) (e := e) (.inl (by omega)))
    have g1 : ¬ (p.length : Int) ≤ (e : Int) := by omega
    go_enter Try.func29, Try.ntmps29
    go_wp2
    go_ret
    exact ⟨by rw [HQ.out]; rfl, rfl⟩

set_option maxHeartbeats 1000000 in
theorem rcount_any (p s : List UInt8) (w : World) (hp : p.length ≤ 1000000) (hs : s.length ≤ 1000000) :
    Calls Try.prog 18 #[.string ⟨p.toArray⟩, .string ⟨s.toArray⟩] w fun en w' => en = .returned (.int .i64 (cntE p s (s.length + 1) : Int)) ∧ w = w' := by
  have S2 := Lib.hid (bsize s)
  have HS := Lib.hid (fun e (he : e ≤ 9223372036854775807) => rstands_any p s e w hp hs he)
  go_enter Try.func18, Try.ntmps18
  go_wp2
  go_loopw [5, 6] (fun x i wr => ∃ k m : Nat, k ≤ s.length + 1 ∧ m ≤ k ∧ i = .int .i64 k ∧ x = .int .i64 m ∧ Hid (cntE p s k = m) ∧ w = wr) (fun _ i _ => s.length + 1 - (RowKit.intOf i).toNat)
  case atStart => exact ⟨0, 0, Nat.zero_le _, Nat.le_refl _, rfl, rfl, Lib.hid rfl, rfl⟩
  case round =>
    obtain ⟨k, m, hk, hm, rfl, rfl, HM, rfl⟩ := hrel
    by_cases hlt : k ≤ s.length
    · have HC := Lib.hid (HS.out k (by omega))
      have HN := Lib.hid (cntE_next p s k)
      cases hq : stB p s k with
      | true =>
        have HR : Hid (cntE p s (k + 1) = m + 1) := Lib.hid (by rw [HN.out, HM.out, hq]; rfl)
        rw [hq] at HC
        clear hq HM HN
        go_wp2_with fail
        refine HC.out.mono ?_
        rintro en w' ⟨rfl, rfl⟩
        go_wp2
        exact ⟨⟨k + 1, m + 1, by omega, by omega, by go_num, by go_num, HR, trivial⟩, by simp [RowKit.intOf]; omega⟩
      | false =>
        have HR : Hid (cntE p s (k + 1) = m) := Lib.hid (by rw [HN.out, HM.out, hq]; rfl)
        rw [hq] at HC
        clear hq HM HN
        go_wp2_with fail
        refine HC.out.mono ?_
        rintro en w' ⟨rfl, rfl⟩
        go_wp2
        exact ⟨⟨k + 1, m, by omega, by omega, by go_num, rfl, HR, trivial⟩, by simp [RowKit.intOf]; omega⟩
    · obtain rfl : k = s.length + 1 := by omega
      have hz : ¬ ((s.length : Int) + 1) ≤ (s.length : Int) := by omega
      go_wp2
      go_ret
      exact ⟨by rw [HM.out]; rfl, rfl⟩

theorem atZ_if (us : List (List UInt8)) (s : List UInt8) (e : Int) : atZ us s e = if 0 ≤ e then idsK us s e.toNat us.length else [] := by
  unfold atZ
  by_cases h0 : 0 ≤ e
  · by_cases h1 : e ≤ (s.length : Int)
    · rw [if_pos ⟨h0, h1⟩, if_pos h0]
    · rw [if_neg (fun h => h1 h.2), if_pos h0, ids_none (by omega)]
  · rw [if_neg (fun h => h0 h.1), if_neg h0]

set_option maxRecDepth 100000 in
set_option maxHeartbeats 1000000 in
theorem rat_any (a : Option Addr) (len cap : Nat) (us : List (List UInt8)) (s : List UInt8) (e : Int) (w : World) (hlen : len ≤ 1000000) (hr : IsStrs w a len us) (hu : ∀ t ∈ us, t.length ≤ 1000000) (hs : s.length ≤ 1000000) (he : e ≤ 9223372036854775807) :
    Calls Try.prog 16 #[.slice a len cap, .string ⟨s.toArray⟩, .int .i64 e] w (RetN (atZ us s e) w) := by
  have hwl := hr.1
  have HH := Lib.hid hr
  have HU := Lib.hid hu
  obtain ⟨i0, hi, hz0, hz1, hz2⟩ := info_parts int_info
  rw [atZ_if]
  by_cases h0 : 0 ≤ e
  · rw [if_pos h0]
    obtain ⟨m, rfl⟩ : ∃ m : Nat, e = (m : Int) := ⟨e.toNat, by omega⟩
    rw [Int.toNat_natCast]
    clear hr hu
    go_enter Try.func16, Try.ntmps16
    go_wp2
    go_loopw [7, 8] (fun v i wr => ∃ (k : Nat) (acc : List Int), k ≤ len ∧ i = .int .i64 k ∧ acc.length ≤ k ∧ Hid (idsK us s m k = acc) ∧ wr.ownsRow w.heap.size 3 1 v acc.length (inCells acc) ∧ Below w.heap.size w wr) (fun _ i _ => len - (RowKit.intOf i).toNat)
    case atStart => exact ⟨0, [], Nat.zero_le _, rfl, Nat.le_refl _, Lib.hid rfl, World.ownsRow_made w #[] 0 (Nat.le_refl _) (by unfold maxLen; omega) rfl, (Below.refl _ _).alloc (Nat.le_refl _) _⟩
    case round =>
      obtain ⟨k, acc, hk, rfl, hac, HK, hown, hbe⟩ := hrel
      have hsz := hbe.size
      by_cases hlt : k < len
      · obtain ⟨b, off, rfl, t, hf, hc⟩ := str_at HH.out hbe k hlt
        have htl := HU.out t (List.mem_of_getElem? hf)
        have HC := Lib.hid (rstands_any t s m wr htl hs (by omega))
        have g0 : (0 : Int) ≤ (k : Int) := by omega
        have g1 : (k : Int) < (len : Int) := by omega
        have g2 : (0 : Int) ≤ (m : Int) := by omega
        cases hq : stB t s m with
        | true =>
          have HR : Hid (idsK us s m (k + 1) = acc ++ [(k : Int)]) := Lib.hid (by rw [ids_hit hf hq, HK.out])
          rw [hq] at HC
          clear hq hf HK
          go_wp2_with fail
          refine HC.out.mono ?_
          rintro en w' ⟨rfl, rfl⟩
          clear HC
          go_wp2_with (at_builtin; refine wpList_append_own _ rfl _ _ 33 rfl w.heap.size 3 i0 (.int .i64 0) 1 8 Try.underlying33 hi hz0 hz1 hz2 rfl (by decide) _ _ _ rfl (hown.alloc _) ⟨wr.heap.size, 0, none⟩ 1 1 [.int .i64 (k : Int)] rfl rfl (int_news (heap_alloc_new wr _)) int_one (by unfold maxLen; omega) (by omega) (by simp; omega) ?_)
          intro v' w3 hown3 hgrow _
          have h3 : Below w.heap.size w w3 := (hbe.alloc hsz _).grown hgrow (by simp; omega) (fun j hj => (hown.lt j hj).1)
          clear hgrow hown hbe
          go_wp2
          exact ⟨⟨k + 1, acc ++ [(k : Int)], by omega, by go_num, by rw [List.length_append, List.length_singleton]; omega, HR, by rw [inCells_snoc, List.length_append]; exact hown3, h3⟩, by simp [RowKit.intOf]; omega⟩
        | false =>
          have HR : Hid (idsK us s m (k + 1) = acc) := Lib.hid (by rw [ids_miss hf hq, HK.out])
          rw [hq] at HC
          clear hq hf HK
          go_wp2_with fail
          refine HC.out.mono ?_
          rintro en w' ⟨rfl, rfl⟩
          clear HC
          go_wp2
          exact ⟨⟨k + 1, acc, by omega, by go_num, by omega, HR, hown, hbe⟩, by simp [RowKit.intOf]; omega⟩
      · obtain rfl : k = len := by omega
        have hz : ¬ (k : Int) < (k : Int) := by omega
        have HO := Lib.hid hown
        clear hown
        go_wp2
        go_ret
        exact ⟨_, rfl, by rw [HK.out]; exact HO.out, hbe⟩
  · rw [if_neg h0]
    clear hr hu
    go_enter Try.func16, Try.ntmps16
    go_wp2
    go_loopw [7, 8] (fun v i wr => ∃ (k : Nat), k ≤ len ∧ i = .int .i64 k ∧ wr.ownsRow w.heap.size 3 1 v 0 [] ∧ Below w.heap.size w wr) (fun _ i _ => len - (RowKit.intOf i).toNat)
    case atStart => exact ⟨0, Nat.zero_le _, rfl, World.ownsRow_made w #[] 0 (Nat.le_refl _) (by unfold maxLen; omega) rfl, (Below.refl _ _).alloc (Nat.le_refl _) _⟩
    case round =>
      obtain ⟨k, hk, rfl, hown, hbe⟩ := hrel
      have hsz := hbe.size
      by_cases hlt : k < len
      · have g0 : (0 : Int) ≤ (k : Int) := by omega
        have g1 : (k : Int) < (len : Int) := by omega
        go_wp2
        exact ⟨⟨k + 1, by omega, by go_num, hown, hbe⟩, by simp [RowKit.intOf]; omega⟩
      · obtain rfl : k = len := by omega
        have hz : ¬ (k : Int) < (k : Int) := by omega
        have HO := Lib.hid hown
        clear hown
        go_wp2
        go_ret
        exact ⟨_, rfl, HO.out, hbe⟩
end Go.Proofs.Ytkpmbappddlcmaa
