/-
  book: reader's set: walked.
-/
import Derived.Test.YtoeakmpfkbmbcaaBkS
set_option linter.unusedSimpArgs false
set_option linter.unusedVariables false
namespace Go.Proofs.Ytoeakmpfkbmbcaa
open Go.RowKit

theorem all_bad {s : List UInt8} (h : ¬ cntE s = 0) : allB s = (cntE s, []) := by
  unfold cntE at h ⊢
  unfold allB
  by_cases h1 : tE s = 0
  · rw [if_pos h1] at h ⊢
    by_cases h2 : tN s = 0
    · rw [if_pos h2, if_pos h1, if_pos h2]
    · rw [if_neg h2] at h ⊢
      by_cases h3 : 65535 < tN s
      · rw [if_pos h3, if_pos h1, if_neg h2, if_pos h3]
      · rw [if_neg h3] at h; exact absurd rfl h
  · rw [if_neg h1, if_neg h1]
theorem all_good {s : List UInt8} (h : cntE s = 0) : allB s = rdB (tN s).toNat [] (pastB s) := by
  obtain ⟨h1, n, hn, hn2⟩ := cnt_ok h
  unfold allB
  rw [if_pos h1, if_neg (by omega), if_neg (by omega)]

theorem last_le {L : List (List UInt8)} (h : Grow L) : (lastP L).length ≤ 65535 := by
  by_cases e : L = []
  · subst e; simp [lastP]
  · have e2 : lastP L = L.getLast e := by unfold lastP; rw [List.getLastD_eq_getLast?, List.getLast?_eq_some_getLast e]; rfl
    rw [e2]
    exact (h.each _ (List.getLast_mem e)).2

theorem set_bad {w : World} {B b : Nat} {s : List UInt8} (h : IsReader w B b [] s) (hs : s.length ≤ 1000000000) (he : ¬ cntE s = 0) :
    Calls Try.prog 29 #[.pointer (some ⟨b, 0, none⟩)] w fun e w' => e = .returned (.int .i64 (cntE s)) ∧ Below B w w' := by
  have H1 := Lib.hid (count_bad h hs he)
  generalize cntE s = x at H1 he ⊢
  have g2 : (x == 0) = false := by simpa using he
  clear h
  go_enter Try.func29, Try.ntmps29
  go_wp2_with fail
  refine H1.out.mono ?_
  rintro e w2 ⟨rfl, hb2⟩
  go_wp2
  go_ret
  exact ⟨rfl, hb2⟩

/-- What set tells: the error; if there is none, what lies there. -/
def RetS (R : Int × List (List UInt8)) (B b : Nat) (w : World) (e : Ending) (w' : World) : Prop :=
  e = .returned (.int .i64 R.1) ∧ (R.1 = 0 → ∃ s, IsReader w' B b R.2 s) ∧ Below B w w'

set_option maxHeartbeats 2000000 in
theorem set_good {w : World} {B b : Nat} {s : List UInt8} (h : IsReader w B b [] s) (hs : s.length ≤ 1000000000) (he : cntE s = 0) :
    Calls Try.prog 29 #[.pointer (some ⟨b, 0, none⟩)] w (RetS (rdB (tN s).toNat [] (pastB s)) B b w) := by
  obtain ⟨h1, n1, hn, hn2⟩ := cnt_ok he
  have H1 := Lib.hid (count_good h hs he)
  have hs2 := past_le s
  obtain ⟨N, hN⟩ : ∃ N, n1 + 1 = N := ⟨_, rfl⟩
  rw [hN] at hn hn2
  rw [hn] at H1 ⊢
  rw [Int.toNat_natCast]
  have hs3 : (pastB s).length ≤ 1000000000 := by omega
  generalize pastB s = s2 at H1 hs3 ⊢
  clear h he hs2 hs hn h1 hN
  generalize hR : rdB N [] s2 = R
  have HR := Lib.hid hR
  clear hR
  go_enter Try.func29, Try.ntmps29
  go_wp2_with fail
  refine H1.out.mono ?_
  rintro e w2 ⟨rfl, hr2, hb2⟩
  have H2 := Lib.hid hr2
  clear hr2 H1
  go_wp2
  go_loopw [15] (fun i wr => ∃ (k : Nat) (L : List (List UInt8)) (t : List UInt8), k ≤ N ∧ i = .int .i64 k ∧ Hid (L.length = k) ∧ Hid (Grow L) ∧ Hid (rdB (N - k) L t = R) ∧ Hid (t.length ≤ 1000000000) ∧ Hid (IsReader wr B b L t) ∧ Below B w wr) (fun i _ => N - (RowKit.intOf i).toNat)
  case atStart => exact ⟨0, [], s2, Nat.zero_le _, rfl, Lib.hid rfl, Lib.hid Grow.nil, HR, Lib.hid hs3, H2, hb2⟩
  case round =>
    obtain ⟨k, L, t, hk, rfl, HL, HG, HK, HT, HI, hbe⟩ := hrel
    by_cases hlt : k < N
    · obtain ⟨d, hd⟩ : ∃ d, N - k = d + 1 := ⟨N - k - 1, by omega⟩
      have hK := HK.out
      rw [hd, rdB_succ] at hK
      by_cases hE : entE (totalL L) (lastP L) t = 0
      · rw [if_pos hE] at hK
        have HP := Lib.hid (pattern_good HI.out HT.out (by have := HL.out; omega) (last_le HG.out) hE)
        obtain ⟨a1, a2, a3, a4, _⟩ := ent_take _ _ _ hE
        have HG2 := Lib.hid (HG.out.snoc a2 a3 a4 a1)
        have HL2 : Hid ((L ++ [entP (lastP L) t]).length = k + 1) := Lib.hid (by rw [List.length_append, HL.out]; rfl)
        have HT2 : Hid ((entR t).length ≤ 1000000000) := Lib.hid (by have := entR_le t; have := HT.out; omega)
        have HK2 : Hid (rdB (N - (k + 1)) (L ++ [entP (lastP L) t]) (entR t) = R) := Lib.hid (by rw [show N - (k + 1) = d by omega]; exact hK)
        clear hK hE a1 a2 a3 a4 HK HT HI HL HG hd
        generalize L ++ [entP (lastP L) t] = L2 at HP HG2 HL2 HK2
        generalize entR t = t2 at HP HT2 HK2
        go_wp2_with fail
        refine HP.out.mono ?_
        rintro e w3 ⟨rfl, hr3, hb3⟩
        have HI2 := Lib.hid hr3
        clear hr3 HP
        go_wp2
        exact ⟨⟨k + 1, L2, t2, by omega, by go_num, HL2, HG2, HK2, HT2, HI2, hbe.trans hb3⟩, by simp [RowKit.intOf]; omega⟩
      · rw [if_neg hE] at hK
        have HP := Lib.hid (pattern_bad HI.out HT.out (by have := HL.out; omega) (last_le HG.out) HG.out.total hE)
        generalize entE (totalL L) (lastP L) t = x at HP hE hK
        have HF := Lib.hid hK
        clear hK HK HT HI HL HG hd
        go_wp2_with fail
        refine HP.out.mono ?_
        rintro e w3 ⟨rfl, hb3⟩
        have hx : ¬ x = 0 := hE
        have g2 : (x == 0) = false := by simpa using hE
        clear HP hE
        go_wp2
        go_ret
        exact ⟨by rw [← HF.out]; rfl, fun h0 => absurd (by rw [← HF.out] at h0; exact h0) hx, hbe.trans hb3⟩
    · obtain rfl : k = N := by omega
      have hK := HK.out
      rw [Nat.sub_self] at hK
      obtain ⟨ao, cap, c0, c1, c2, _⟩ := HI.out.reads
      by_cases h0 : t.length = 0
      · have HF : Hid ((0, L) = R) := Lib.hid (by rw [← hK]; show _ = (if t.length = 0 then 0 else 20, L); rw [if_pos h0])
        obtain rfl := List.eq_nil_of_length_eq_zero h0
        clear hK HK HT HL HG h0
        go_wp2
        go_ret
        refine ⟨by rw [← HF.out]; rfl, fun _ => ⟨[], ?_⟩, hbe⟩
        rw [← HF.out]; exact HI.out
      · have HF : Hid ((20, L) = R) := Lib.hid (by rw [← hK]; show _ = (if t.length = 0 then 0 else 20, L); rw [if_neg h0])
        have g0 : t.isEmpty = false := by cases t with | nil => simp at h0 | cons _ _ => rfl
        clear hK HK HT HL HG h0
        go_wp2
        go_ret
        refine ⟨by rw [← HF.out]; rfl, fun h => absurd (by rw [← HF.out] at h; exact h) (show ¬ (20 : Int) = 0 by decide), hbe⟩

theorem set_any {w : World} {B b : Nat} {s : List UInt8} (h : IsReader w B b [] s) (hs : s.length ≤ 1000000000) :
    Calls Try.prog 29 #[.pointer (some ⟨b, 0, none⟩)] w (RetS (allB s) B b w) := by
  by_cases he : cntE s = 0
  · rw [all_good he]
    exact set_good h hs he
  · rw [all_bad he]
    exact (set_bad h hs he).mono fun e w' ⟨h1, h2⟩ => ⟨h1, fun h0 => absurd h0 he, h2⟩
end Go.Proofs.Ytoeakmpfkbmbcaa
