/-
  The document's own answers for layer 24: missed, Miss: walked.
-/
import Derived.Test.YtmgcdhcidojdhaaGreatBn4
import Derived.Test.YtmgcdhcidojdhaaGreatBn13
import Derived.Test.YtmgcdhcidojdhaaGreatPbW
import Derived.Deep.QuietTactic
set_option linter.unusedSimpArgs false
set_option linter.unusedVariables false
namespace Go.Proofs.YtmgcdhcidojdhaaGreat
open Go.RowKit

theorem all_next {us : List (List UInt8)} {k : Nat} {t : List UInt8} {p : List UInt8 → Bool} (h : us[k]? = some t) (hk : (us.take k).all p = true) : (us.take (k + 1)).all p = p t := by
  have hlt := (List.getElem?_eq_some_iff.1 h).1
  have ht := (List.getElem?_eq_some_iff.1 h).2
  rw [List.take_succ_eq_append_getElem hlt, List.all_append, ht, hk]
  simp
theorem all_miss {us : List (List UInt8)} {k : Nat} {t : List UInt8} {p : List UInt8 → Bool} (h : us[k]? = some t) (hp : p t = false) : us.all p = false := by
  rw [Bool.eq_false_iff]
  intro ha
  rw [List.all_eq_true.1 ha t (List.mem_of_getElem? h)] at hp
  cases hp
theorem mp_of {t s : List UInt8} {e d : Nat} : (!canP t s e || difP t s e d) = true ↔ (canP t s e = true → difP t s e d = true) := by
  cases canP t s e <;> simp

set_option maxRecDepth 100000 in
set_option maxHeartbeats 4000000 in
theorem rmissed_any (a : Option Addr) (len cap : Nat) (us : List (List UInt8)) (s : List UInt8) (e d : Nat) (w : World) (hlen : len ≤ 1000000) (hr : IsStrs w a len us) (hu : ∀ t ∈ us, 0 < t.length ∧ t.length ≤ 1000000) (hs : s.length ≤ 1000000) (he : 0 < e) (hes : e ≤ s.length) (hd : d ≤ 1000000) :
    Calls Tryz.prog 38 #[.slice a len cap, .string ⟨s.toArray⟩, .int .i64 (e : Int), .int .i64 (d : Int)] w fun E w' => E = .returned (.bool (msB us s e d)) ∧ Below w.heap.size w w' := by
  have hwl := hr.1
  have HT := Lib.hid hu
  have HR := Lib.hid hr
  clear hu hr
  obtain ⟨R, hR⟩ : ∃ R, msB us s e d = R := ⟨_, rfl⟩
  rw [hR]
  have HRR := Lib.hid hR
  clear hR
  have S2 := Lib.hid (bsize s)
  obtain ⟨ie, hie⟩ : ∃ ie, ie + 1 = e := ⟨e - 1, by omega⟩
  have we : IntKind.i64.wrap ((e : Int) - 1) = (ie : Int) := by rw [IntKind.wrap_i64]; omega
  have hel : ie < s.length := by omega
  have hez : ie < (⟨s.toArray⟩ : ByteArray).size := by rw [bsize]; omega
  have hqe := byN_at s hel hez
  obtain ⟨bs, hbs⟩ : ∃ bs, byN s ie = bs := ⟨_, rfl⟩
  have HBS : Hid (byN s (e - 1) = bs) := Lib.hid (by rw [← hbs, ← hie]; rfl)
  have HIE := Lib.hid hie
  rw [hbs] at hqe
  clear hie hbs
  go_enter Tryz.func38, Tryz.ntmps38
  go_wp2
  go_loopw [9] (fun i wr => ∃ k : Nat, k ≤ len ∧ i = .int .i64 k ∧ Hid ((us.take k).all (fun t => !canP t s e || difP t s e d) = true) ∧ Below w.heap.size w wr) (fun i _ => len - (RowKit.intOf i).toNat)
  case atStart => exact ⟨0, Nat.zero_le _, rfl, Lib.hid rfl, Below.refl _ _⟩
  case round =>
    obtain ⟨k, hk, rfl, HK, hbe⟩ := hrel
    by_cases hlt : k < len
    · obtain ⟨b, off, rfl, t, hf, hcell⟩ := str_at HR.out hbe k hlt
      obtain ⟨ht0, htl⟩ := HT.out t (List.mem_of_getElem? hf)
      have S1 := Lib.hid (bsize t)
      have HN := Lib.hid (all_next hf HK.out)
      have HM := Lib.hid (fun h => all_miss (p := fun t => !canP t s e || difP t s e d) hf h)
      have hlt2 : (k : Int) < (len : Int) := by omega
      have hlt3 : (0 : Int) ≤ (k : Int) := by omega
      obtain ⟨q, hq1⟩ : ∃ q, q + 1 = t.length := ⟨t.length - 1, by omega⟩
      have w1 : IntKind.i64.wrap ((t.length : Int) - 1) = (q : Int) := by rw [IntKind.wrap_i64]; omega
      have hql : q < t.length := by omega
      have hqz : q < (⟨t.toArray⟩ : ByteArray).size := by rw [bsize]; omega
      have hqt := byN_at t hql hqz
      obtain ⟨bt, hbt⟩ : ∃ bt, byN t q = bt := ⟨_, rfl⟩
      have HBT : Hid (byN t (t.length - 1) = bt) := Lib.hid (by rw [← hbt, ← hq1]; rfl)
      rw [hbt] at hqt
      have HQ1 := Lib.hid hq1
      clear hf HK hbt hq1
      by_cases hbb : bt = bs
      · subst hbb
        have hnb : ((bt : Int) != (bt : Int)) = false := by simp
        by_cases hte : t.length ≤ e
        · have g1 : ¬ (e : Int) < (t.length : Int) := by omega
          have HC : Hid (canP t s e = true) := Lib.hid (can_iff.2 ⟨by rw [HBT.out, HBS.out], hte⟩)
          by_cases hdl : d < t.length
          · have g2 : ¬ (t.length : Int) ≤ (d : Int) := by omega
            have g3 : (d : Int) < (t.length : Int) := by omega
            obtain ⟨j, hj⟩ : ∃ j, j + 1 + d = t.length := ⟨t.length - 1 - d, by omega⟩
            obtain ⟨i, hi⟩ : ∃ i, i + 1 + d = e := ⟨e - 1 - d, by omega⟩
            have hQ1 := HQ1.out
            have hI1 := HIE.out
            have w2 : IntKind.i64.wrap ((q : Int) - (d : Int)) = (j : Int) := by rw [IntKind.wrap_i64]; omega
            have w3 : IntKind.i64.wrap ((ie : Int) - (d : Int)) = (i : Int) := by rw [IntKind.wrap_i64]; omega
            have hjl : j < t.length := by omega
            have hjz : j < (⟨t.toArray⟩ : ByteArray).size := by rw [bsize]; omega
            have hiL : i < s.length := by omega
            have hiz : i < (⟨s.toArray⟩ : ByteArray).size := by rw [bsize]; omega
            have hqj := byN_at t hjl hjz
            have hqi := byN_at s hiL hiz
            have HDI : Hid (difP t s e d = !(byN t j == byN s i)) := Lib.hid (by
              unfold difP
              rw [decide_eq_true hdl, Bool.true_and, show t.length - 1 - d = j by omega, show e - 1 - d = i by omega])
            generalize byN t j = cj at hqj HDI
            generalize byN s i = ci at hqi HDI
            clear hQ1 hI1 hj hi
            by_cases hcc : cj = ci
            · subst hcc
              have HE : Hid (R = false) := Lib.hid (by rw [← HRR.out]; exact HM.out (by
                rw [HC.out, HDI.out, beq_self_eq_true]; rfl))
              have hcb : ((cj : Int) == (cj : Int)) = true := by simp
              go_wp2_with fail
              go_quiet (fail)
              go_wp2_with fail
              go_quiet (fail)
              go_wp2
              go_ret
              exact ⟨by rw [HE.out]; rfl, below_drewS (below_drewS hbe _) _⟩
            · have HE : Hid ((us.take (k + 1)).all (fun t => !canP t s e || difP t s e d) = true) := Lib.hid (by
                rw [HN.out]; exact mp_of.2 (fun _ => by rw [HDI.out, beq_eq_false_iff_ne.2 hcc]; rfl))
              have hcb : ((cj : Int) == (ci : Int)) = false := by simp; omega
              go_wp2_with fail
              go_quiet (fail)
              go_wp2_with fail
              go_quiet (fail)
              go_wp2
              exact ⟨⟨k + 1, by omega, by go_num, HE, below_drewS hbe _⟩, by simp [RowKit.intOf]; omega⟩
          · have g2 : (t.length : Int) ≤ (d : Int) := by omega
            have HE : Hid (R = false) := Lib.hid (by rw [← HRR.out]; exact HM.out (by rw [Bool.eq_false_iff]; intro h; exact hdl (dif_iff.1 (mp_of.1 h HC.out)).1))
            go_wp2_with fail
            go_quiet (fail)
            go_wp2_with fail
            go_quiet (fail)
            go_wp2
            go_ret
            exact ⟨by rw [HE.out]; rfl, below_drewS (below_drewS hbe _) _⟩
        · have g1 : (e : Int) < (t.length : Int) := by omega
          have HE : Hid ((us.take (k + 1)).all (fun t => !canP t s e || difP t s e d) = true) := Lib.hid (by rw [HN.out]; exact mp_of.2 (fun h => absurd (can_iff.1 h).2 hte))
          go_wp2_with fail
          go_quiet (fail)
          go_wp2
          exact ⟨⟨k + 1, by omega, by go_num, HE, below_drewS hbe _⟩, by simp [RowKit.intOf]; omega⟩
      · have hnb : ((bt : Int) != (bs : Int)) = true := by simp; omega
        have HE : Hid ((us.take (k + 1)).all (fun t => !canP t s e || difP t s e d) = true) := Lib.hid (by rw [HN.out]; exact mp_of.2 (fun h => absurd (by rw [← HBT.out, ← HBS.out]; exact (can_iff.1 h).1) hbb))
        go_wp2_with fail
        go_quiet (fail)
        go_wp2
        exact ⟨⟨k + 1, by omega, by go_num, HE, below_drewS hbe _⟩, by simp [RowKit.intOf]; omega⟩
    · obtain rfl : k = len := by omega
      have hz : ¬ (k : Int) < (k : Int) := by omega
      have HE : Hid (R = true) := Lib.hid (by rw [← HRR.out, ← HK.out, List.take_of_length_le (by omega)]; rfl)
      clear HK
      go_wp2
      go_ret
      exact ⟨by rw [HE.out]; rfl, hbe⟩

set_option maxRecDepth 100000 in
set_option maxHeartbeats 4000000 in
theorem rmissN_any (a : Option Addr) (len cap : Nat) (us : List (List UInt8)) (s : List UInt8) (e : Nat) (w : World) (hlen : len ≤ 1000000) (hr : IsStrs w a len us) (hu : ∀ t ∈ us, 0 < t.length ∧ t.length ≤ 65535) (hs : s.length ≤ 1000000) (he : 0 < e) (hes : e ≤ s.length) :
    Calls Tryz.prog 57 #[.slice a len cap, .string ⟨s.toArray⟩, .int .i64 (e : Int)] w fun E w' => E = .returned (.int .i64 (misN us s e : Int)) ∧ Below w.heap.size w w' := by
  have HMo := Lib.hid (fun (W : World) (hW : Below w.heap.size w W) => rptmost_any a len cap us W hlen (hr.below hW) (fun t h => (hu t h).2))
  have HMs := Lib.hid (fun (d : Nat) (W : World) (hW : Below w.heap.size w W) (hd : d ≤ 1000000) => rmissed_any a len cap us s e d W hlen (hr.below hW) (fun t h => ⟨(hu t h).1, by have := (hu t h).2; omega⟩) hs he hes hd)
  have hml : mostL us ≤ 65535 := most_le fun t h => (hu t h).2
  have HF : Hid (∀ d, 0 < d → d < max (mostL us) 2 → msB us s e d = true → (∀ j, 0 < j → j < d → msB us s e j = false) → misN us s e = d) := Lib.hid (fun d h1 h2 h3 h4 => misK_hit h1 h2 h3 h4)
  have HG : Hid ((∀ j, 0 < j → j < max (mostL us) 2 → msB us s e j = false) → misN us s e = 0) := Lib.hid (fun h => misK_none h)
  generalize mostL us = M at *
  obtain ⟨R, hR⟩ : ∃ R, misN us s e = R := ⟨_, rfl⟩
  rw [hR] at HF HG ⊢
  clear hR hr hu
  go_enter Tryz.func57, Tryz.ntmps57
  go_wp2
  go_loopw [7] (fun i wr => ∃ k : Nat, 0 < k ∧ k ≤ M + 2 ∧ i = .int .i64 k ∧ Hid (∀ j, 0 < j → j < k → msB us s e j = false) ∧ Below w.heap.size w wr) (fun i _ => M + 2 - (RowKit.intOf i).toNat)
  case atStart => exact ⟨1, by omega, by omega, rfl, Lib.hid (fun j h1 h2 => by omega), Below.refl _ _⟩
  case round =>
    obtain ⟨k, hk0, hk, rfl, HK, hbe⟩ := hrel
    have hsz := hbe.size
    by_cases h1 : k = 1
    · subst h1
      have HC := Lib.hid (HMs.out 1 wr hbe (by omega))
      cases hq : msB us s e 1 with
      | true =>
        have HE : Hid (R = 1) := Lib.hid (HF.out 1 (by omega) (by omega) hq HK.out)
        rw [hq] at HC
        clear hq HK
        go_wp2_with fail
        refine HC.out.mono ?_
        rintro E w3 ⟨rfl, hb3⟩
        have d3 := hbe.trans (hb3.mono hsz)
        go_wp2
        go_ret
        exact ⟨by rw [HE.out]; rfl, d3⟩
      | false =>
        have HE : Hid (∀ j, 0 < j → j < 1 + 1 → msB us s e j = false) := Lib.hid (fun j h1 h2 => by
          rcases Nat.lt_or_ge j 1 with h | h
          · exact HK.out j h1 h
          · rw [show j = 1 by omega]; exact hq)
        rw [hq] at HC
        clear hq HK
        go_wp2_with fail
        refine HC.out.mono ?_
        rintro E w3 ⟨rfl, hb3⟩
        have d3 := hbe.trans (hb3.mono hsz)
        go_wp2
        exact ⟨⟨1 + 1, by omega, by omega, by go_num, HE, d3⟩, by simp [RowKit.intOf]⟩
    · have g1 : ((k : Int) == 1) = false := by simp; omega
      by_cases hkM : k < M
      · have g2 : (k : Int) < (M : Int) := by omega
        have HC := Lib.hid (HMs.out k wr hbe (by omega))
        cases hq : msB us s e k with
        | true =>
          have HE : Hid (R = k) := Lib.hid (HF.out k (by omega) (by omega) hq HK.out)
          rw [hq] at HC
          clear hq HK
          go_wp2_with fail
          refine (HMo.out _ hbe).mono ?_
          rintro E w' ⟨rfl, hw'⟩
          obtain rfl := hw'.symm
          go_wp2_with fail
          refine HC.out.mono ?_
          rintro E w3 ⟨rfl, hb3⟩
          have d3 := hbe.trans (hb3.mono hsz)
          go_wp2
          go_ret
          exact ⟨by rw [HE.out]; rfl, d3⟩
        | false =>
          have HE : Hid (∀ j, 0 < j → j < k + 1 → msB us s e j = false) := Lib.hid (fun j h1 h2 => by
            rcases Nat.lt_or_ge j k with h | h
            · exact HK.out j h1 h
            · rw [show j = k by omega]; exact hq)
          rw [hq] at HC
          clear hq HK
          go_wp2_with fail
          refine (HMo.out _ hbe).mono ?_
          rintro E w' ⟨rfl, hw'⟩
          obtain rfl := hw'.symm
          go_wp2_with fail
          refine HC.out.mono ?_
          rintro E w3 ⟨rfl, hb3⟩
          have d3 := hbe.trans (hb3.mono hsz)
          go_wp2
          exact ⟨⟨k + 1, by omega, by omega, by go_num, HE, d3⟩, by simp [RowKit.intOf]; omega⟩
      · have g2 : ¬ (k : Int) < (M : Int) := by omega
        have HE : Hid (R = 0) := Lib.hid (HG.out (fun j h1 h2 => HK.out j h1 (by omega)))
        clear HK
        go_wp2_with fail
        refine (HMo.out _ hbe).mono ?_
        rintro E w' ⟨rfl, hw'⟩
        obtain rfl := hw'.symm
        go_wp2
        go_ret
        exact ⟨by rw [HE.out]; rfl, hbe⟩
end Go.Proofs.YtmgcdhcidojdhaaGreat
