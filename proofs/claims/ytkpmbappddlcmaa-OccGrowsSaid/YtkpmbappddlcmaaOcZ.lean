/-
  The law OccGrows, walked.
-/
import Derived.Test.YtkpmbappddlcmaaOcW
import Derived.Test.YtkpmbappddlcmaaPtFew
import Derived.Test.YtkpmbappddlcmaaFewN
set_option linter.unusedSimpArgs false
set_option linter.unusedVariables false
namespace Go.Proofs.Ytkpmbappddlcmaa
open Go.RowKit

theorem owns_hits_cap {w : World} {base : Nat} {e : TypeId} {v : Value} {n : Nat} {hs : List Ht} (h : w.ownsRow base e 2 v n (hiCells hs)) (hn : hs.length = n) :
    ∃ ao cap, v = .slice ao n cap ∧ IsHits w ao n hs ∧ n ≤ cap ∧ cap ≤ maxLen ∧ (ao = none → cap = 0) := by
  obtain ⟨ao, cap, hv, hh⟩ := owns_hits h hn
  rcases h.2 with ⟨h1, h2⟩ | ⟨g, cap', cur, h1, _, _, h3, h4, _⟩
  · rw [hv] at h1
    simp only [Value.slice.injEq] at h1
    exact ⟨ao, cap, hv, hh, by omega, by rw [h1.2.2]; exact Nat.zero_le _, fun _ => h1.2.2⟩
  · rw [hv] at h1
    simp only [Value.slice.injEq] at h1
    refine ⟨ao, cap, hv, hh, by omega, by omega, fun h => ?_⟩
    rw [h] at h1
    cases h1.1
theorem hits_take {w : World} {a : Option Addr} {n k : Nat} {hs : List Ht} (h : IsHits w a n hs) (hk : k ≤ n) : IsHits w a k (hs.take k) := by
  obtain ⟨h1, h2⟩ := h
  refine ⟨by rw [List.length_take]; omega, ?_⟩
  rcases Nat.eq_zero_or_pos k with h0 | h0
  · exact .inl h0
  · rcases h2 with h2 | ⟨b, off, ha, hc⟩
    · omega
    · refine .inr ⟨b, off, ha, fun i hi => ?_⟩
      rw [List.length_take] at hi
      rw [List.getElem_take]
      exact hc i (by omega)
theorem strs_take {w : World} {a : Option Addr} {n k : Nat} {ws : List (List UInt8)} (h : IsStrs w a n ws) (hk : k ≤ n) : IsStrs w a k (ws.take k) := by
  obtain ⟨h1, h2⟩ := h
  refine ⟨by rw [List.length_take]; omega, ?_⟩
  rcases Nat.eq_zero_or_pos k with h0 | h0
  · exact .inl h0
  · rcases h2 with h2 | ⟨b, off, ha, hc⟩
    · omega
    · refine .inr ⟨b, off, ha, fun i hi => ?_⟩
      rw [List.length_take] at hi
      rw [List.getElem_take]
      exact hc i (by omega)

/-- A set's list: as it is owned. -/
theorem ptlist_cap {w : World} {p : Option Addr} {us : List (List UInt8)} (h : IsPats w p us) (hl : us.length ≤ 1000000) :
    Calls Try.prog 23 #[.pointer p] w fun e w' => ∃ ao cap, e = .returned (.slice ao us.length cap) ∧ IsStrs w' ao us.length us ∧ us.length ≤ cap ∧ cap ≤ maxLen ∧ Below w.heap.size w w' := by
  rcases h with ⟨rfl, rfl⟩ | ⟨b, rfl, h, _⟩
  · refine (ptlist_nil w).mono ?_
    rintro e w' ⟨rfl, rfl⟩
    exact ⟨none, 0, rfl, ⟨rfl, .inl rfl⟩, Nat.le_refl _, by unfold maxLen; omega, Below.refl _ _⟩
  · refine (ptlist_any h hl).mono ?_
    rintro e w' ⟨v, rfl, hown, hb⟩
    obtain ⟨ao, cap', hv, hs⟩ := owns_strs hown
    rcases hown.2 with ⟨h1, h2⟩ | ⟨g, cap2, cur, h1, _, _, h3, h4, _⟩
    · rw [hv] at h1
      simp only [Value.slice.injEq] at h1
      subst hv
      exact ⟨ao, cap', rfl, hs, by omega, by unfold maxLen; omega, hb⟩
    · rw [hv] at h1
      simp only [Value.slice.injEq] at h1
      subst hv
      exact ⟨ao, cap', rfl, hs, by omega, by omega, hb⟩

/-- Without its last pattern a set is one, if it had two. -/
theorem less_set {us : List (List UInt8)} (h : Pats us) (ha : Asc us) (h2 : 2 ≤ us.length) : faultL (us.take (us.length - 1)) = 0 ∧ setL (us.take (us.length - 1)) = us.take (us.length - 1) := by
  have hp : Pats (us.take (us.length - 1)) := ⟨by rw [List.length_take]; omega, by rw [List.length_take]; have := h.few; omega, fun t ht => h.each t (List.mem_of_mem_take ht), Nat.le_trans (total_take_le us _) h.total, h.once.sublist (List.take_sublist _ _)⟩
  have hf := (fault_zero _).2 hp
  refine ⟨hf, ?_⟩
  rw [set_good hf]
  exact asc_unique (srt_asc _) (ha.sublist (List.take_sublist _ _)) (srt_perm _)
theorem less_hits {us : List (List UInt8)} {s : List UInt8} (h2 : 2 ≤ us.length) : (hitL us s).filter (fun h => decide (h.2 < ((us.length - 1 : Nat) : Int))) = hitL (us.take (us.length - 1)) s := by
  obtain ⟨vs, u, rfl⟩ : ∃ vs u, us = vs ++ [u] := ⟨us.dropLast, us.getLast (by intro h; subst h; simp at h2), (List.dropLast_concat_getLast _).symm⟩
  rw [List.length_append, List.length_singleton, Nat.add_sub_cancel, List.take_left]
  exact hit_less vs u s
theorem pats_of {w : World} {p : Option Addr} {us : List (List UInt8)} (h : IsPats w p us) (h2 : 2 ≤ us.length) : Pats us := by
  rcases h with ⟨_, rfl⟩ | ⟨_, _, _, h⟩
  · simp at h2
  · exact h

set_option maxRecDepth 100000 in
set_option maxHeartbeats 1000000 in
theorem ocgrows_many (a : Option Addr) (len cap : Nat) (ws : List (List UInt8)) (s t : List UInt8) (w : World) (hlen : len ≤ 9223372036854775807) (hr : IsStrs w a len ws) (ht : ∀ t ∈ ws, t.length ≤ 9223372036854775807) (hq : fewB ws 12 20 = false) :
    Calls Try.prog 5 #[.slice a len cap, .string ⟨s.toArray⟩, .string ⟨t.toArray⟩] w fun e w' => e = .returned (.bool true) ∧ Below w.heap.size w w' := by
  have HF := Lib.hid (few_noN a len cap ws w hlen hr ht _ hq)
  have S1 := Lib.hid (bsize s)
  have S2 := Lib.hid (bsize t)
  clear hr ht hq
  go_enter Try.func5, Try.ntmps5
  go_wp2_with fail
  refine HF.out.mono ?_
  rintro e w' ⟨rfl, rfl⟩
  go_wp2_with fail
  refine (ocawake_any _).mono ?_
  rintro e w' ⟨rfl, hb⟩
  go_wp2
  go_ret
  exact ⟨rfl, hb⟩
set_option maxRecDepth 100000 in
set_option maxHeartbeats 1000000 in
theorem ocgrows_longS (a : Option Addr) (len cap : Nat) (ws : List (List UInt8)) (s t : List UInt8) (w : World) (hlen : len ≤ 9223372036854775807) (hr : IsStrs w a len ws) (ht : ∀ t ∈ ws, t.length ≤ 9223372036854775807) (hq : fewB ws 12 20 = true) (hs : 100 < s.length) :
    Calls Try.prog 5 #[.slice a len cap, .string ⟨s.toArray⟩, .string ⟨t.toArray⟩] w fun e w' => e = .returned (.bool true) ∧ Below w.heap.size w w' := by
  have HF := Lib.hid (few_noN a len cap ws w hlen hr ht _ hq)
  have S1 := Lib.hid (bsize s)
  have S2 := Lib.hid (bsize t)
  have g1 : (100 : Int) < (s.length : Int) := by omega
  clear hr ht hq
  go_enter Try.func5, Try.ntmps5
  go_wp2_with fail
  refine HF.out.mono ?_
  rintro e w' ⟨rfl, rfl⟩
  go_wp2_with fail
  refine (ocawake_any _).mono ?_
  rintro e w' ⟨rfl, hb⟩
  go_wp2
  go_ret
  exact ⟨rfl, hb⟩
set_option maxRecDepth 100000 in
set_option maxHeartbeats 1000000 in
theorem ocgrows_longT (a : Option Addr) (len cap : Nat) (ws : List (List UInt8)) (s t : List UInt8) (w : World) (hlen : len ≤ 9223372036854775807) (hr : IsStrs w a len ws) (ht : ∀ t ∈ ws, t.length ≤ 9223372036854775807) (hq : fewB ws 12 20 = true) (hs : s.length ≤ 100) (htl : 100 < t.length) :
    Calls Try.prog 5 #[.slice a len cap, .string ⟨s.toArray⟩, .string ⟨t.toArray⟩] w fun e w' => e = .returned (.bool true) ∧ Below w.heap.size w w' := by
  have HF := Lib.hid (few_noN a len cap ws w hlen hr ht _ hq)
  have S1 := Lib.hid (bsize s)
  have S2 := Lib.hid (bsize t)
  have g1 : ¬ (100 : Int) < (s.length : Int) := by omega
  have g2 : (100 : Int) < (t.length : Int) := by omega
  clear hr ht hq
  go_enter Try.func5, Try.ntmps5
  go_wp2_with fail
  refine HF.out.mono ?_
  rintro e w' ⟨rfl, rfl⟩
  go_wp2_with fail
  refine (ocawake_any _).mono ?_
  rintro e w' ⟨rfl, hb⟩
  go_wp2
  go_ret
  exact ⟨rfl, hb⟩

set_option maxRecDepth 100000 in
set_option maxHeartbeats 4000000 in
theorem ocgrows_few (a : Option Addr) (len cap : Nat) (ws : List (List UInt8)) (s t : List UInt8) (w : World) (hr : IsStrs w a len ws) (hq : fewB ws 12 20 = true) (hs : s.length ≤ 100) (htl : t.length ≤ 100) :
    Calls Try.prog 5 #[.slice a len cap, .string ⟨s.toArray⟩, .string ⟨t.toArray⟩] w fun e w' => e = .returned (.bool true) ∧ Below w.heap.size w w' := by
  have hwl := hr.1
  have hfw := (few_iff ws 12 20).1 hq
  have hlen : len ≤ 12 := by omega
  have HF := Lib.hid (few_noN a len cap ws w (by omega) hr (fun t ht => by have := hfw.2 t ht; omega) _ hq)
  have HN := Lib.hid (ptnew_all a len cap ws w (by omega) hr (fun t ht => by have := hfw.2 t ht; omega))
  obtain ⟨hs1, hs2⟩ := few_setN hq
  have hs3 : ∀ t ∈ setL ws, 0 < t.length := fun t h => (set_mem h).2.1
  have hasc := set_asc ws
  generalize setL ws = us at HN hs1 hs2 hs3 hasc
  generalize faultL ws = f at HN
  have HAll := Lib.hid (fun (w2 : World) (p : Option Addr) (h : IsPats w2 p us) => ocall_any h (by omega) (fun t ht => ⟨hs3 t ht, by have := hs2 t ht; omega⟩) s (by omega))
  obtain ⟨st, hst⟩ : ∃ st, s ++ t = st := ⟨_, rfl⟩
  have hcat : (⟨s.toArray⟩ : ByteArray) ++ ⟨t.toArray⟩ = ⟨st.toArray⟩ := by
    rw [← hst, ByteArray.ext_iff]
    simp
  have hstl : st.length ≤ 200 := by rw [← hst, List.length_append]; omega
  have HAll2 := Lib.hid (fun (w2 : World) (p : Option Addr) (h : IsPats w2 p us) => ocall_any h (by omega) (fun t ht => ⟨hs3 t ht, by have := hs2 t ht; omega⟩) st (by omega))
  have hli := fun (w2 : World) (p : Option Addr) (h : IsPats w2 p us) => ptlist_cap h (by omega)
  have HPo := Lib.hid (fun (w2 : World) (p : Option Addr) (h : IsPats w2 p us) (h2 : 2 ≤ us.length) => pats_of h h2)
  obtain ⟨r, hr1, hr2⟩ := hit_grow us s t
  rw [hst] at hr1
  have hA : (hitL us s).length ≤ 1000000 := by
    have h1 := hitK_length us s (s.length + 1)
    have h2 : (s.length + 1) * us.length ≤ 101 * 12 := Nat.mul_le_mul (by omega) hs1
    unfold hitL; omega
  have hB : (hitL us st).length ≤ 1000000 := by
    have h1 := hitK_length us st (st.length + 1)
    have h2 : (st.length + 1) * us.length ≤ 201 * 12 := Nat.mul_le_mul (by omega) hs1
    unfold hitL; omega
  have HRise := Lib.hid (rise_of (hit_rise us st))
  have HLess : Hid (2 ≤ us.length → (hitL us s).filter (fun h => decide (h.2 < ((us.length - 1 : Nat) : Int))) = hitL (us.take (us.length - 1)) s) := Lib.hid less_hits
  have HSet : Hid (Pats us → 2 ≤ us.length → faultL (us.take (us.length - 1)) = 0 ∧ setL (us.take (us.length - 1)) = us.take (us.length - 1)) := Lib.hid (fun h h2 => less_set h hasc h2)
  have HU : Hid (∀ t ∈ us, 0 < t.length ∧ t.length ≤ 20) := Lib.hid (fun t ht => ⟨hs3 t ht, hs2 t ht⟩)
  obtain ⟨N, hN⟩ : ∃ N, us.length = N := ⟨_, rfl⟩
  rw [hN] at hli HLess HSet HPo hs1
  have HNN := Lib.hid hN
  have HLi := Lib.hid hli
  clear hN hli
  generalize hitL us s = A at HAll hr1 hA HLess
  generalize hitL us st = B at HAll2 hr1 hB HRise
  have hAB : A.length ≤ B.length := by rw [hr1, List.length_append]; omega
  have HT : Hid (B.take A.length = A) := Lib.hid (by rw [hr1, List.take_left])
  have HX : Hid (∀ x, B[A.length]? = some x → (s.length : Int) < x.1) := Lib.hid (fun x hx => by
    rw [hr1, List.getElem?_append_right (Nat.le_refl _), Nat.sub_self] at hx
    exact hr2 x (List.mem_of_getElem? hx))
  have S1 := Lib.hid (bsize s)
  have S2 := Lib.hid (bsize t)
  have g1 : ¬ (100 : Int) < (s.length : Int) := by omega
  have g2 : ¬ (100 : Int) < (t.length : Int) := by omega
  have g3 : ¬ 9223372036854775807 < s.length + t.length := by omega
  have g4 : ¬ (B.length : Int) < (A.length : Int) := by omega
  have g5 : (A.length : Int) ≤ (B.length : Int) := by omega
  clear hr hq hfw hwl hs2 hs3 hasc hr1 hr2 hst
  go_enter Try.func5, Try.ntmps5
  go_wp2_with fail
  refine HF.out.mono ?_
  rintro e w' ⟨rfl, hw⟩
  obtain rfl := hw.symm
  clear HF hw
  go_wp2_with fail
  refine HN.out.mono ?_
  rintro e w1 ⟨p, rfl, hp, d1⟩
  have e1 := d1.size
  have HP1 := Lib.hid hp
  have K1 := Lib.hid (HAll.out w1 p hp)
  clear HN hp HAll
  go_wp2_with fail
  refine K1.out.mono ?_
  rintro e w2 hret
  obtain ⟨a2, cap2, rfl, hh2, hb2⟩ := hret.use
  have d2 := d1.trans (hb2.mono e1)
  have e2 := d2.size
  have HP2 := Lib.hid (HP1.out.below hb2)
  have HA2 := Lib.hid hh2
  have K2 := Lib.hid (HAll2.out w2 p HP2.out)
  clear K1 hret hb2 d1 e1 HP1 hh2 HAll2
  go_wp2_with fail

  refine K2.out.mono ?_
  rintro e w3 ⟨v3, rfl, hown3, hb3⟩
  obtain ⟨a3, cap3, rfl, hh3, hbc, hcm, hnil⟩ := owns_hits_cap hown3 rfl
  have d3 := d2.trans (hb3.mono e2)
  have e3 := d3.size
  have HP3 := Lib.hid (HP2.out.below hb3)
  have HA3 := Lib.hid (HA2.out.below hb3)
  have HB3 := Lib.hid hh3
  have HK3 : Hid (IsHits w3 a3 A.length A) := Lib.hid (by have := hits_take hh3 hAB; rwa [HT.out] at this)
  have K3 := Lib.hid (hsame_any a2 a3 A.length cap2 cap3 A w3 (by omega) HA3.out HK3.out)
  clear K2 hown3 hb3 d2 e2 HP2 HA2 hh3 HK3 HT
  have g6 : (A.length : Int) ≤ (cap3 : Int) := by omega
  go_wp2_with fail
  refine K3.out.mono ?_
  rintro e w4 ⟨rfl, hb4⟩
  have d4 := d3.trans (hb4.mono e3)
  have e4 := d4.size
  have HP4 := Lib.hid (HP3.out.below hb4)
  have HA4 := Lib.hid (HA3.out.below hb4)
  have HB4 := Lib.hid (HB3.out.below hb4)
  have K4 := Lib.hid (rising_any a3 B.length cap3 B w4 (by omega) HB4.out)
  rw [HRise.out] at K4
  clear K3 hb4 d3 e3 HP3 HA3 HB3
  go_wp2_with fail
  refine K4.out.mono ?_
  rintro e w5 ⟨rfl, hb5⟩
  have d5 := d4.trans (hb5.mono e4)
  have e5 := d5.size
  have HP5 := Lib.hid (HP4.out.below hb5)
  have HA5 := Lib.hid (HA4.out.below hb5)
  have HB5 := Lib.hid (HB4.out.below hb5)
  have K5 := Lib.hid (HLi.out w5 p HP5.out)
  clear K4 hb5 d4 e4 HP4 HA4 HB4 HLi
  by_cases hmore : A.length < B.length
  · obtain ⟨b, off, rfl, x, hx, c0, c1⟩ := hit_at HB5.out (Below.refl _ _) A.length hmore
    have hx1 := HX.out x hx
    obtain ⟨x1, x2⟩ := x
    simp only at c0 c1 hx1
    have j1 : (A.length : Int) < (B.length : Int) := by omega
    have j2 : (0 : Int) ≤ (A.length : Int) := by omega
    have j3 : ¬ x1 ≤ (s.length : Int) := by omega
    have j4 : decide (x1 ≤ (s.length : Int)) = false := decide_eq_false j3
    clear hx HX HB5 hx1
    go_wp2_with fail
    refine K5.out.mono ?_
    rintro e w6 ⟨a6, cap6, rfl, hs6, hnc6, hcm6, hb6⟩
    have d6 := d5.trans (hb6.mono e5)
    have e6 := d6.size
    have HA6 := Lib.hid (HA5.out.below hb6)
    have HS6 := Lib.hid hs6
    clear K5 hs6 hb6 d5 e5 HA5
    by_cases h2 : N < 2
    · have h21 : (N : Int) < 2 := by omega
      have h22 : decide ((N : Int) < 2) = true := decide_eq_true h21
      go_wp2_with fail
      refine (ocawake_any _).mono ?_
      rintro e w7 ⟨rfl, hb7⟩
      have d7 := d6.trans (hb7.mono e6)
      clear hb7 d6 e6
      go_wp2
      go_ret
      exact ⟨rfl, d7⟩
    · have hP := HPo.out w5 p HP5.out (by omega)
      obtain ⟨q1, q2⟩ := HSet.out hP (by omega)
      have hL := HLess.out (by omega)
      obtain ⟨m, rfl⟩ : ∃ m, N = m + 1 := ⟨N - 1, by omega⟩
      rw [Nat.add_sub_cancel] at q1 q2 hL
      have hT6 := strs_take HS6.out (Nat.le_succ m)
      have hu6 : ∀ t ∈ us.take m, 0 < t.length ∧ t.length ≤ 20 := fun t h => HU.out t (List.mem_of_mem_take h)
      have hvl : (us.take m).length = m := by rw [List.length_take, HNN.out]; omega
      generalize us.take m = vs at q1 q2 hL hT6 hu6 hvl
      have K6 := Lib.hid (ptnew_all a6 m cap6 vs w6 (by omega) hT6 (fun t ht => by have := (hu6 t ht).2; omega))
      rw [q1, q2] at K6
      have HAll3 := Lib.hid (fun (w2 : World) (p : Option Addr) (h : IsPats w2 p vs) => ocall_any h (by omega) (fun t ht => ⟨(hu6 t ht).1, by have := (hu6 t ht).2; omega⟩) s (by omega))
      have HL := Lib.hid hL
      have h21 : ¬ ((m : Int) + 1) < 2 := by omega
      have h22 : decide (((m : Int) + 1) < 2) = false := decide_eq_false h21
      have k1 : IntKind.i64.wrap (m : Int) = (m : Int) := by rw [IntKind.wrap_i64]; omega
      have k2 : (0 : Int) ≤ (m : Int) := by omega
      have k3 : (m : Int) ≤ (cap6 : Int) := by omega
      have k4 : (m : Int) ≤ (m : Int) + 1 := by omega
      clear hP hL hT6 hu6 hvl q1 q2 HPo HSet HLess HS6 HP5 HNN HU
      go_wp2_with fail
      refine K6.out.mono ?_
      rintro e w7 ⟨y, rfl, hy, hb7⟩
      have d7 := d6.trans (hb7.mono e6)
      have e7 := d7.size
      have HA7 := Lib.hid (HA6.out.below hb7)
      have HY7 := Lib.hid hy
      clear K6 hy hb7 d6 e6 HA6
      obtain ⟨i0, hi, hz0, hz1, hz2⟩ := info_parts hit_info
      go_wp2
      go_loopw [14, 15] (fun v i wr => ∃ (k : Nat) (acc : List Ht), k ≤ A.length ∧ i = .int .i64 k ∧ acc.length ≤ k ∧ Hid ((A.take k).filter (fun h => decide (h.2 < (m : Int))) = acc) ∧ wr.ownsRow w7.heap.size 44 2 v acc.length (hiCells acc) ∧ Below w7.heap.size w7 wr) (fun _ i _ => A.length - (RowKit.intOf i).toNat)
      case atStart => exact ⟨0, [], Nat.zero_le _, rfl, Nat.le_refl _, Lib.hid (by simp), World.ownsRow_nil _ _ _ _, Below.refl _ _⟩
      case round =>
        obtain ⟨k, acc, hk, rfl, hac, HK, hown, hbe⟩ := hrel
        have hsz := hbe.size
        by_cases hlt : k < A.length
        · obtain ⟨b, off, rfl, x, hx, c0, c1⟩ := hit_at HA7.out hbe k hlt
          have HFs := Lib.hid (filter_snoc (fun h => decide (h.2 < (m : Int))) hx)
          obtain ⟨x1, x2⟩ := x
          simp only at c0 c1
          have i0' : (0 : Int) ≤ (k : Int) := by omega
          have i1 : (k : Int) < (A.length : Int) := by omega
          by_cases hq : x2 < (m : Int)
          · have HR : Hid ((A.take (k + 1)).filter (fun h => decide (h.2 < (m : Int))) = acc ++ [(x1, x2)]) := Lib.hid (by rw [HFs.out, HK.out]; simp only [hq, decide_true, if_true])
            have hq2 : decide (x2 < (m : Int)) = true := decide_eq_true hq
            have hbb : b < wr.heap.size := World.block_lt_of_cell? wr _ c0
            clear HK hx HFs
            go_wp2_with (at_builtin; refine wpList_append_own _ rfl _ _ 31 rfl w7.heap.size 44 i0 (.agg #[.int .i64 0, .int .i64 0]) 2 16 Try.underlying31 hi hz0 hz1 hz2 rfl (by decide) _ _ _ rfl (hown.alloc _) ⟨wr.heap.size, 0, none⟩ 1 1 [.int .i64 x1, .int .i64 x2] rfl rfl (hit_news (heap_alloc_new wr _)) hit_one (by unfold maxLen; omega) (by omega) (by simp; omega) ?_)
            intro v' w3 hown3 hgrow _
            have h3 : Below w7.heap.size w7 w3 := (hbe.alloc hsz _).grown hgrow (by simp; omega) (fun j hj => (hown.lt j hj).1)
            clear hgrow hown hbe
            go_wp2
            exact ⟨⟨k + 1, acc ++ [(x1, x2)], by omega, by go_num, by rw [List.length_append, List.length_singleton]; omega, HR, by rw [hiCells_snoc, List.length_append]; exact hown3, h3⟩, by simp [RowKit.intOf]; omega⟩
          · have HR : Hid ((A.take (k + 1)).filter (fun h => decide (h.2 < (m : Int))) = acc) := Lib.hid (by rw [HFs.out, HK.out]; simp [hq])
            have hq2 : decide (x2 < (m : Int)) = false := decide_eq_false hq
            clear HK hx HFs
            go_wp2
            exact ⟨⟨k + 1, acc, by omega, by go_num, by omega, HR, hown, hbe⟩, by simp [RowKit.intOf]; omega⟩
        · obtain rfl : k = A.length := by omega
          have hz : ¬ (A.length : Int) < (A.length : Int) := by omega
          have HE : Hid (acc = hitL vs s) := Lib.hid (by
            have := HK.out
            rw [List.take_length] at this
            rw [← this]
            exact HL.out)
          obtain ⟨ao, cpo, rfl, hho⟩ := owns_hits hown rfl
          have d8 := d7.trans (hbe.mono e7)
          have e8 := d8.size
          have HO8 := Lib.hid hho
          have K8 := Lib.hid (HAll3.out wr y (HY7.out.below hbe))
          rw [← HE.out] at K8
          clear HK hown hbe hho d7 e7 HY7 HAll3 HL HE
          go_wp2_with fail
          refine K8.out.mono ?_
          rintro e w9 hret
          obtain ⟨a9, cap9, rfl, hh9, hb9⟩ := hret.use
          have d9 := d8.trans (hb9.mono e8)
          have e9 := d9.size
          have K9 := Lib.hid (hsame_any a9 ao acc.length cap9 cpo acc w9 (by omega) hh9 (HO8.out.below hb9))
          clear K8 hret hb9 hh9 HO8 d8 e8
          go_wp2_with fail
          refine K9.out.mono ?_
          rintro e w10 ⟨rfl, hb10⟩
          have d10 := d9.trans (hb10.mono e9)
          have e10 := d10.size
          clear K9 hb10 d9 e9
          go_wp2_with fail
          refine (ocawake_any _).mono ?_
          rintro e w11 ⟨rfl, hb11⟩
          have d11 := d10.trans (hb11.mono e10)
          clear hb11 d10 e10
          go_wp2
          go_ret
          exact ⟨rfl, d11⟩
  · have j1 : ¬ (A.length : Int) < (B.length : Int) := by omega
    have j2 : decide ((A.length : Int) < (B.length : Int)) = false := decide_eq_false j1
    clear HX HB5
    go_wp2_with fail
    refine K5.out.mono ?_
    rintro e w6 ⟨a6, cap6, rfl, hs6, hnc6, hcm6, hb6⟩
    have d6 := d5.trans (hb6.mono e5)
    have e6 := d6.size
    have HA6 := Lib.hid (HA5.out.below hb6)
    have HS6 := Lib.hid hs6
    clear K5 hs6 hb6 d5 e5 HA5
    by_cases h2 : N < 2
    · have h21 : (N : Int) < 2 := by omega
      have h22 : decide ((N : Int) < 2) = true := decide_eq_true h21
      go_wp2_with fail
      refine (ocawake_any _).mono ?_
      rintro e w7 ⟨rfl, hb7⟩
      have d7 := d6.trans (hb7.mono e6)
      clear hb7 d6 e6
      go_wp2
      go_ret
      exact ⟨rfl, d7⟩
    · have hP := HPo.out w5 p HP5.out (by omega)
      obtain ⟨q1, q2⟩ := HSet.out hP (by omega)
      have hL := HLess.out (by omega)
      obtain ⟨m, rfl⟩ : ∃ m, N = m + 1 := ⟨N - 1, by omega⟩
      rw [Nat.add_sub_cancel] at q1 q2 hL
      have hT6 := strs_take HS6.out (Nat.le_succ m)
      have hu6 : ∀ t ∈ us.take m, 0 < t.length ∧ t.length ≤ 20 := fun t h => HU.out t (List.mem_of_mem_take h)
      have hvl : (us.take m).length = m := by rw [List.length_take, HNN.out]; omega
      generalize us.take m = vs at q1 q2 hL hT6 hu6 hvl
      have K6 := Lib.hid (ptnew_all a6 m cap6 vs w6 (by omega) hT6 (fun t ht => by have := (hu6 t ht).2; omega))
      rw [q1, q2] at K6
      have HAll3 := Lib.hid (fun (w2 : World) (p : Option Addr) (h : IsPats w2 p vs) => ocall_any h (by omega) (fun t ht => ⟨(hu6 t ht).1, by have := (hu6 t ht).2; omega⟩) s (by omega))
      have HL := Lib.hid hL
      have h21 : ¬ ((m : Int) + 1) < 2 := by omega
      have h22 : decide (((m : Int) + 1) < 2) = false := decide_eq_false h21
      have k1 : IntKind.i64.wrap (m : Int) = (m : Int) := by rw [IntKind.wrap_i64]; omega
      have k2 : (0 : Int) ≤ (m : Int) := by omega
      have k3 : (m : Int) ≤ (cap6 : Int) := by omega
      have k4 : (m : Int) ≤ (m : Int) + 1 := by omega
      clear hP hL hT6 hu6 hvl q1 q2 HPo HSet HLess HS6 HP5 HNN HU
      go_wp2_with fail
      refine K6.out.mono ?_
      rintro e w7 ⟨y, rfl, hy, hb7⟩
      have d7 := d6.trans (hb7.mono e6)
      have e7 := d7.size
      have HA7 := Lib.hid (HA6.out.below hb7)
      have HY7 := Lib.hid hy
      clear K6 hy hb7 d6 e6 HA6
      obtain ⟨i0, hi, hz0, hz1, hz2⟩ := info_parts hit_info
      go_wp2
      go_loopw [14, 15] (fun v i wr => ∃ (k : Nat) (acc : List Ht), k ≤ A.length ∧ i = .int .i64 k ∧ acc.length ≤ k ∧ Hid ((A.take k).filter (fun h => decide (h.2 < (m : Int))) = acc) ∧ wr.ownsRow w7.heap.size 44 2 v acc.length (hiCells acc) ∧ Below w7.heap.size w7 wr) (fun _ i _ => A.length - (RowKit.intOf i).toNat)
      case atStart => exact ⟨0, [], Nat.zero_le _, rfl, Nat.le_refl _, Lib.hid (by simp), World.ownsRow_nil _ _ _ _, Below.refl _ _⟩
      case round =>
        obtain ⟨k, acc, hk, rfl, hac, HK, hown, hbe⟩ := hrel
        have hsz := hbe.size
        by_cases hlt : k < A.length
        · obtain ⟨b, off, rfl, x, hx, c0, c1⟩ := hit_at HA7.out hbe k hlt
          have HFs := Lib.hid (filter_snoc (fun h => decide (h.2 < (m : Int))) hx)
          obtain ⟨x1, x2⟩ := x
          simp only at c0 c1
          have i0' : (0 : Int) ≤ (k : Int) := by omega
          have i1 : (k : Int) < (A.length : Int) := by omega
          by_cases hq : x2 < (m : Int)
          · have HR : Hid ((A.take (k + 1)).filter (fun h => decide (h.2 < (m : Int))) = acc ++ [(x1, x2)]) := Lib.hid (by rw [HFs.out, HK.out]; simp only [hq, decide_true, if_true])
            have hq2 : decide (x2 < (m : Int)) = true := decide_eq_true hq
            have hbb : b < wr.heap.size := World.block_lt_of_cell? wr _ c0
            clear HK hx HFs
            go_wp2_with (at_builtin; refine wpList_append_own _ rfl _ _ 31 rfl w7.heap.size 44 i0 (.agg #[.int .i64 0, .int .i64 0]) 2 16 Try.underlying31 hi hz0 hz1 hz2 rfl (by decide) _ _ _ rfl (hown.alloc _) ⟨wr.heap.size, 0, none⟩ 1 1 [.int .i64 x1, .int .i64 x2] rfl rfl (hit_news (heap_alloc_new wr _)) hit_one (by unfold maxLen; omega) (by omega) (by simp; omega) ?_)
            intro v' w3 hown3 hgrow _
            have h3 : Below w7.heap.size w7 w3 := (hbe.alloc hsz _).grown hgrow (by simp; omega) (fun j hj => (hown.lt j hj).1)
            clear hgrow hown hbe
            go_wp2
            exact ⟨⟨k + 1, acc ++ [(x1, x2)], by omega, by go_num, by rw [List.length_append, List.length_singleton]; omega, HR, by rw [hiCells_snoc, List.length_append]; exact hown3, h3⟩, by simp [RowKit.intOf]; omega⟩
          · have HR : Hid ((A.take (k + 1)).filter (fun h => decide (h.2 < (m : Int))) = acc) := Lib.hid (by rw [HFs.out, HK.out]; simp [hq])
            have hq2 : decide (x2 < (m : Int)) = false := decide_eq_false hq
            clear HK hx HFs
            go_wp2
            exact ⟨⟨k + 1, acc, by omega, by go_num, by omega, HR, hown, hbe⟩, by simp [RowKit.intOf]; omega⟩
        · obtain rfl : k = A.length := by omega
          have hz : ¬ (A.length : Int) < (A.length : Int) := by omega
          have HE : Hid (acc = hitL vs s) := Lib.hid (by
            have := HK.out
            rw [List.take_length] at this
            rw [← this]
            exact HL.out)
          obtain ⟨ao, cpo, rfl, hho⟩ := owns_hits hown rfl
          have d8 := d7.trans (hbe.mono e7)
          have e8 := d8.size
          have HO8 := Lib.hid hho
          have K8 := Lib.hid (HAll3.out wr y (HY7.out.below hbe))
          rw [← HE.out] at K8
          clear HK hown hbe hho d7 e7 HY7 HAll3 HL HE
          go_wp2_with fail
          refine K8.out.mono ?_
          rintro e w9 hret
          obtain ⟨a9, cap9, rfl, hh9, hb9⟩ := hret.use
          have d9 := d8.trans (hb9.mono e8)
          have e9 := d9.size
          have K9 := Lib.hid (hsame_any a9 ao acc.length cap9 cpo acc w9 (by omega) hh9 (HO8.out.below hb9))
          clear K8 hret hb9 hh9 HO8 d8 e8
          go_wp2_with fail
          refine K9.out.mono ?_
          rintro e w10 ⟨rfl, hb10⟩
          have d10 := d9.trans (hb10.mono e9)
          have e10 := d10.size
          clear K9 hb10 d9 e9
          go_wp2_with fail
          refine (ocawake_any _).mono ?_
          rintro e w11 ⟨rfl, hb11⟩
          have d11 := d10.trans (hb11.mono e10)
          clear hb11 d10 e10
          go_wp2
          go_ret
          exact ⟨rfl, d11⟩
end Go.Proofs.Ytkpmbappddlcmaa
