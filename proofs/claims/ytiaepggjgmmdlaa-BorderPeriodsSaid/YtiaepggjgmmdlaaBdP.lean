/-
  The law BorderPeriods: walked.
-/
import Derived.Test.YtiaepggjgmmdlaaBdA
set_option linter.unusedSimpArgs false
set_option linter.unusedVariables false
namespace Go.Proofs.Ytiaepggjgmmdlaa
open Go.RowKit

theorem periods_long (s t : ByteArray) (w : World) (h : 100 < s.size ∨ 100 < t.size) (hm : s.size ≤ 9223372036854775807) (hm2 : t.size ≤ 9223372036854775807) :
    Calls Try.prog 5 #[.string s, .string t] w fun e w' => e = .returned (.bool true) ∧ Below w.heap.size w w' := by
  by_cases h1 : 100 < s.size
  · go_enter Try.func5, Try.ntmps5
    go_wp2_with fail
    refine (bdawake_any _).mono ?_
    rintro e w' ⟨rfl, hb⟩
    go_wp2
    go_ret
    exact ⟨rfl, hb⟩
  · have h2 : 100 < t.size := by omega
    go_enter Try.func5, Try.ntmps5
    go_wp2_with fail
    refine (bdawake_any _).mono ?_
    rintro e w' ⟨rfl, hb⟩
    go_wp2
    go_ret
    exact ⟨rfl, hb⟩

/-- Any border in the list. -/
theorem dn_at (t : List UInt8) (i : Nat) (hi : i < (dn (bd t) (t.length - 1)).length) : ∃ j : Nat, (dn (bd t) (t.length - 1)).getD i 0 = (j : Int) ∧ bd t j = true ∧ (0 < i → j < lonB t ∧ bd (t.take (lonB t)) j = true) := by
  have hmem := getD_in _ i hi
  obtain ⟨j, a, _, _, d⟩ := dn_mem _ _ _ hmem
  refine ⟨j, a, d, fun h0 => ?_⟩
  have hp := List.pairwise_iff_getElem.1 (dn_falls (bd t) (t.length - 1)) 0 i (by omega) hi h0
  rw [getD_at _ i hi] at a
  have hb : bd t (lonB t) = true ∧ (dn (bd t) (t.length - 1))[0]'(by omega) = (lonB t : Int) := by
    rcases dn_head (bd t) (t.length - 1) with ⟨h1, _⟩ | ⟨r, h1⟩
    · rw [h1] at hi; simp at hi
    · refine ⟨?_, by simp [h1]; rfl⟩
      have : ((mx (bd t) (t.length - 1) : Nat) : Int) ∈ dn (bd t) (t.length - 1) := by rw [h1]; exact List.mem_cons_self
      obtain ⟨k, x1, _, _, x2⟩ := dn_mem _ _ _ this
      have : k = lonB t := by unfold lonB; omega
      rwa [this] at x2
  rw [hb.2, a] at hp
  have hlt : j < lonB t := by omega
  exact ⟨hlt, by rw [bd_take hb.1 hlt]; exact d⟩

theorem dn_first (t : List UInt8) : ((dn (bd t) (t.length - 1)).length = 0 ∧ lonB t = 0) ∨ (0 < (dn (bd t) (t.length - 1)).length ∧ (dn (bd t) (t.length - 1)).getD 0 0 = (lonB t : Int)) := by
  rcases dn_head (bd t) (t.length - 1) with ⟨h1, h2⟩ | ⟨r, h1⟩
  · exact .inl ⟨by rw [h1]; rfl, h2⟩
  · exact .inr ⟨by rw [h1]; simp, by rw [h1]; rfl⟩

/-- Two neighbours among the places. -/
theorem fnd_at (s t : List UInt8) (k : Nat) (hk : k + 1 < (fndB s t).length) : ∃ j p : Nat, (fndB s t).getD k 0 = (j : Int) ∧ (fndB s t).getD (k + 1) 0 = (j : Int) + (p : Int) ∧ 1 ≤ p ∧ j + p ≤ s.length ∧ (p ≤ t.length → (t.drop p == t.take (t.length - p)) = true) := by
  cases h0 : t.isEmpty with
  | true => unfold fndB at hk; rw [h0] at hk; simp at hk
  | false =>
    rw [fndB_full h0] at hk ⊢
    obtain ⟨j, a, b⟩ := fnd_mem s.length _ (getD_in (fnd s t s.length) k (by omega))
    obtain ⟨i, c, d⟩ := fnd_mem s.length _ (getD_in (fnd s t s.length) (k + 1) hk)
    have hp := List.pairwise_iff_getElem.1 (fnd_rises (s := s) (t := t) s.length (Nat.le_refl _)) k (k + 1) (by omega) hk (by omega)
    rw [← getD_at _ k (by omega), ← getD_at _ (k + 1) hk, a, c] at hp
    have b' := b (Nat.le_refl _)
    have d' := d (Nat.le_refl _)
    obtain ⟨p, rfl⟩ : ∃ p, i = j + p := ⟨i - j, by omega⟩
    refine ⟨j, p, a, by rw [c]; omega, by omega, by omega, fun hpt => ?_⟩
    rw [beq_iff_eq]
    exact twice b'.2 d'.2 d'.1 hpt

set_option maxHeartbeats 2000000 in
theorem periods_short (s t : List UInt8) (w : World) (hs : s.length ≤ 100) (ht : t.length ≤ 100) :
    Calls Try.prog 5 #[.string ⟨s.toArray⟩, .string ⟨t.toArray⟩] w fun e w' => e = .returned (.bool true) ∧ Below w.heap.size w w' := by
  have S1 := Lib.hid (bsize s)
  have S2 := Lib.hid (bsize t)
  have hA := fun w => ball_any t w (by omega)
  have HP := Lib.hid (fun w => period_any t w (by omega))
  have HF := Lib.hid (fun w => find_any s t w (by omega) (by omega))
  have HQ : Hid ((per t : Int) = (t.length : Int) - (lonB t : Int)) := Lib.hid (by have := lon_le t; unfold per; omega)
  have hle := lon_le t
  have hz := dn_length (bd t) (t.length - 1)
  have hat := dn_at t
  have h1 := dn_first t
  generalize dn (bd t) (t.length - 1) = L at hA hz hat h1
  have HA := Lib.hid hA
  have HL := Lib.hid hat
  have HH := Lib.hid h1
  clear hA hat h1
  generalize per t = p at HP HQ
  generalize lonB t = m at hle HQ HL HH
  go_enter Try.func5, Try.ntmps5
  go_wp2_with fail
  refine (HA.out w).mono ?_
  rintro e w1 ⟨a1, cap1, rfl, hr1, d1⟩
  have e1 := d1.size
  have HR := Lib.hid hr1
  clear hr1 HA
  rcases HH.out with ⟨hL0, hm0⟩ | ⟨hL0, hm0⟩
  · have HPc : Hid (∀ w, Calls Try.prog 12 #[.string ⟨t.toArray⟩] w fun e w' => e = .returned (.int .i64 (t.length : Int)) ∧ Below w.heap.size w w') := Lib.hid (fun w => by
      have := HP.out w
      rw [HQ.out, show (m : Int) = 0 by omega, Int.sub_zero] at this
      exact this)
    have hfirst : 0 < L.length → L.getD 0 0 = (m : Int) := fun h => by omega
    clear HH HP HQ hm0
    go_wp2_with fail
    refine (HPc.out w1).mono ?_
    rintro e w2 ⟨rfl, hb2⟩
    have d2 := d1.trans (hb2.mono e1)
    have e2 := d2.size
    have e12 := hb2.size
    clear HPc d1
    go_wp2
    go_loopw [7] (fun i wr => ∃ k : Nat, k ≤ L.length ∧ i = .int .i64 k ∧ Below w2.heap.size w2 wr) (fun i _ => L.length - (RowKit.intOf i).toNat)
    case atStart => exact ⟨0, Nat.zero_le _, rfl, Below.refl _ _⟩
    case round =>
      obtain ⟨k, hk, rfl, hbe⟩ := hrel
      have hbe1 : Below w1.heap.size w1 wr := hb2.trans (hbe.mono e12)
      by_cases hlt : k < L.length
      · exact absurd hlt (by omega)
      · obtain rfl : k = L.length := by omega
        have d3 := d2.trans (hbe.mono e2)
        have e3 := d3.size
        have HF2 := Lib.hid (HF.out wr)
        have HN := Lib.hid (fnd_at s t)
        have hfl := fndB_length s t
        generalize fndB s t = A at HF2 HN hfl
        clear HL HR HF hbe hbe1
        go_wp2_with fail
        refine HF2.out.mono ?_
        rintro e w3 ⟨a3, cap3, rfl, hr3, hb3⟩
        have d4 := d3.trans (hb3.mono e3)
        have e4 := d4.size
        have HR3 := Lib.hid hr3
        clear hr3 HF2 hb3 d3 d2
        go_wp2
        go_loopw [9, 10] (fun i x wr => ∃ k : Nat, (k ≤ A.length ∧ i = .int .i64 ((k : Int) + 1)) ∧ Below w3.heap.size w3 wr) (fun i _ _ => A.length + 1 - (RowKit.intOf i).toNat)
        case atStart => exact ⟨0, ⟨Nat.zero_le _, rfl⟩, Below.refl _ _⟩
        case round =>
          obtain ⟨k, ⟨hk, rfl⟩, hbe⟩ := hrel
          by_cases hlt : k + 1 < A.length
          · obtain ⟨j, p, hj, hp, hp1, hjp, hpt⟩ := HN.out k hlt
            obtain hr0 | ⟨b, off, rfl, _, _, _, hc⟩ := HR3.out.below hbe
            · omega
            have c1 := hc k (by omega)
            have c2 := hc (k + 1) (by omega)
            rw [hj] at c1
            rw [hp] at c2
            have g0 : (0 : Int) ≤ (k : Int) := by omega
            have g1 : (k : Int) < (A.length : Int) := by omega
            have g2 : (k : Int) + 1 < (A.length : Int) := by omega
            have g3 : ((k : Int) + 1).toNat = k + 1 := by omega
            have g4 : (j : Int) + (p : Int) - (j : Int) = (p : Int) := by omega
            have g5 : decide ((p : Int) < 1) = false := by simp; omega
            clear hc HN HR3 hj hp
            by_cases hle : p ≤ t.length
            · have hq := hpt hle
              have x1 := ext_rest t p
              have x2 := ext_front t (t.length - p)
              have g6 : (p : Int) ≤ (t.length : Int) := by omega
              have g7 : ((t.length : Int) - (p : Int)).toNat = t.length - p := by omega
              clear hpt
              go_wp2_with fail
              go_quiet (fail)
              go_wp2_with fail
              go_quiet (fail)
              go_wp2
              exact ⟨⟨k + 1, ⟨by omega, by go_num⟩, below_drewS hbe _⟩, by simp [RowKit.intOf]; omega⟩
            · have g6 : ¬ (p : Int) ≤ (t.length : Int) := by omega
              have g7 : decide ((p : Int) ≤ (t.length : Int)) = false := decide_eq_false g6
              clear hpt
              go_wp2_with fail
              go_quiet (fail)
              go_wp2_with fail
              go_quiet (fail)
              go_wp2
              exact ⟨⟨k + 1, ⟨by omega, by go_num⟩, below_drewS hbe _⟩, by simp [RowKit.intOf]; omega⟩
          · have d5 := d4.trans (hbe.mono e4)
            have e5 := d5.size
            clear HN HR3
            go_wp2_with fail
            refine (bdawake_any _).mono ?_
            rintro e w' ⟨rfl, hb⟩
            go_wp2
            go_ret
            exact ⟨rfl, d5.trans (hb.mono e5)⟩
  · have HPc : Hid (∀ w, Calls Try.prog 12 #[.string ⟨t.toArray⟩] w fun e w' => e = .returned (.int .i64 ((t.length : Int) - (m : Int))) ∧ Below w.heap.size w w') := Lib.hid (fun w => by
      have := HP.out w
      rw [HQ.out] at this
      exact this)
    obtain hr0 | ⟨b, off, rfl, _, _, _, hc⟩ := HR.out
    · omega
    have hcell : w1.cell? ⟨b, off, none⟩ = some (.int .i64 (m : Int)) := by
      have := hc 0 hL0
      rw [hm0] at this
      exact this
    have hfirst : 0 < L.length → L.getD 0 0 = (m : Int) := fun _ => hm0
    clear HH HP HQ hm0 hc
    go_wp2_with fail
    refine (HPc.out w1).mono ?_
    rintro e w2 ⟨rfl, hb2⟩
    have d2 := d1.trans (hb2.mono e1)
    have e2 := d2.size
    have e12 := hb2.size
    clear HPc d1
    go_wp2
    go_loopw [7] (fun i wr => ∃ k : Nat, k ≤ L.length ∧ i = .int .i64 k ∧ Below w2.heap.size w2 wr) (fun i _ => L.length - (RowKit.intOf i).toNat)
    case atStart => exact ⟨0, Nat.zero_le _, rfl, Below.refl _ _⟩
    case round =>
      obtain ⟨k, hk, rfl, hbe⟩ := hrel
      have hbe1 : Below w1.heap.size w1 wr := hb2.trans (hbe.mono e12)
      by_cases hlt : k < L.length
      · obtain ⟨j, hj, hbj, hbm⟩ := HL.out k hlt
        obtain hr0 | ⟨b', off', hab, _, _, _, hc⟩ := HR.out.below hbe1
        · omega
        cases hab
        have hbj3 := bd_iff.1 hbj
        have hcell := hc k hlt
        rw [hj] at hcell
        have HB1 : Hid (∀ q, Calls Try.prog 20 #[.string ⟨t.toArray⟩, .int .i64 j] (wr.drewN q) fun e w'' => e = .returned (.bool true) ∧ ∃ m, w'' = wr.drewN m) := Lib.hid (fun q => by
          have := rborder_draws t j (wr.drewN q) (by omega) hbj3.1 hbj3.2.1
          rw [hbj] at this
          exact Calls.quiet_of this)
        have g0 : (0 : Int) ≤ (k : Int) := by omega
        have g1 : (k : Int) < (L.length : Int) := by omega
        by_cases hk0 : k = 0
        · subst hk0
          have hcell0 : wr.cell? ⟨b, off, none⟩ = some (.int .i64 (j : Int)) := hcell
          clear hc HL HR hj hbj hbm
          go_wp2_with fail
          go_quiet (first | exact HB1.out _)
          go_wp2
          exact ⟨⟨1, by omega, rfl, below_drewS hbe _⟩, by simp [RowKit.intOf]; omega⟩
        · obtain ⟨hjm, hbm2⟩ := hbm (by omega)
          have hmt : m ≤ t.length := by omega
          have hcell0 : wr.cell? ⟨b, off, none⟩ = some (.int .i64 (m : Int)) := by
            have := hc 0 (by omega)
            rw [hfirst (by omega)] at this
            exact this
          have HB2 : Hid (∀ q, Calls Try.prog 20 #[.string ⟨(t.take m).toArray⟩, .int .i64 j] (wr.drewN q) fun e w'' => e = .returned (.bool true) ∧ ∃ m, w'' = wr.drewN m) := Lib.hid (fun q => by
            have := rborder_draws (t.take m) j (wr.drewN q) (by rw [List.length_take]; omega) hbj3.1 (by rw [List.length_take]; omega)
            rw [hbm2] at this
            exact Calls.quiet_of this)
          have x1 := ext_front t m
          have g2 : (0 : Int) < (k : Int) := by omega
          have g2n : 0 < k := by omega
          have g2d : decide ((0 : Int) < (k : Int)) = true := decide_eq_true g2
          have g3 : (m : Int) ≤ (t.length : Int) := by omega
          clear hc HL HR hj hbj hbm hbm2 hfirst
          go_wp2_with fail
          go_quiet (first | with_reducible exact HB1.out _ | with_reducible exact HB2.out _)
          go_wp2
          exact ⟨⟨k + 1, by omega, by go_num, below_drewS hbe _⟩, by simp [RowKit.intOf]; omega⟩
      · obtain rfl : k = L.length := by omega
        have d3 := d2.trans (hbe.mono e2)
        have e3 := d3.size
        have HF2 := Lib.hid (HF.out wr)
        have HN := Lib.hid (fnd_at s t)
        have hfl := fndB_length s t
        generalize fndB s t = A at HF2 HN hfl
        clear HL HR HF hbe hbe1
        go_wp2_with fail
        refine HF2.out.mono ?_
        rintro e w3 ⟨a3, cap3, rfl, hr3, hb3⟩
        have d4 := d3.trans (hb3.mono e3)
        have e4 := d4.size
        have HR3 := Lib.hid hr3
        clear hr3 HF2 hb3 d3 d2
        go_wp2
        go_loopw [9, 10] (fun i x wr => ∃ k : Nat, (k ≤ A.length ∧ i = .int .i64 ((k : Int) + 1)) ∧ Below w3.heap.size w3 wr) (fun i _ _ => A.length + 1 - (RowKit.intOf i).toNat)
        case atStart => exact ⟨0, ⟨Nat.zero_le _, rfl⟩, Below.refl _ _⟩
        case round =>
          obtain ⟨k, ⟨hk, rfl⟩, hbe⟩ := hrel
          by_cases hlt : k + 1 < A.length
          · obtain ⟨j, p, hj, hp, hp1, hjp, hpt⟩ := HN.out k hlt
            obtain hr0 | ⟨b, off, rfl, _, _, _, hc⟩ := HR3.out.below hbe
            · omega
            have c1 := hc k (by omega)
            have c2 := hc (k + 1) (by omega)
            rw [hj] at c1
            rw [hp] at c2
            have g0 : (0 : Int) ≤ (k : Int) := by omega
            have g1 : (k : Int) < (A.length : Int) := by omega
            have g2 : (k : Int) + 1 < (A.length : Int) := by omega
            have g3 : ((k : Int) + 1).toNat = k + 1 := by omega
            have g4 : (j : Int) + (p : Int) - (j : Int) = (p : Int) := by omega
            have g5 : decide ((p : Int) < 1) = false := by simp; omega
            clear hc HN HR3 hj hp
            by_cases hle : p ≤ t.length
            · have hq := hpt hle
              have x1 := ext_rest t p
              have x2 := ext_front t (t.length - p)
              have g6 : (p : Int) ≤ (t.length : Int) := by omega
              have g7 : ((t.length : Int) - (p : Int)).toNat = t.length - p := by omega
              clear hpt
              go_wp2_with fail
              go_quiet (fail)
              go_wp2_with fail
              go_quiet (fail)
              go_wp2
              exact ⟨⟨k + 1, ⟨by omega, by go_num⟩, below_drewS hbe _⟩, by simp [RowKit.intOf]; omega⟩
            · have g6 : ¬ (p : Int) ≤ (t.length : Int) := by omega
              have g7 : decide ((p : Int) ≤ (t.length : Int)) = false := decide_eq_false g6
              clear hpt
              go_wp2_with fail
              go_quiet (fail)
              go_wp2_with fail
              go_quiet (fail)
              go_wp2
              exact ⟨⟨k + 1, ⟨by omega, by go_num⟩, below_drewS hbe _⟩, by simp [RowKit.intOf]; omega⟩
          · have d5 := d4.trans (hbe.mono e4)
            have e5 := d5.size
            clear HN HR3
            go_wp2_with fail
            refine (bdawake_any _).mono ?_
            rintro e w' ⟨rfl, hb⟩
            go_wp2
            go_ret
            exact ⟨rfl, d5.trans (hb.mono e5)⟩
end Go.Proofs.Ytiaepggjgmmdlaa
