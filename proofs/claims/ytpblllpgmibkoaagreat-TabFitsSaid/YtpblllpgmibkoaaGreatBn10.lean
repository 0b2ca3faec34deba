/-
  Texts put together: TbD, AfCm, AfSo, AfO, TbG, Oth.
-/
import Derived.Test.YtpblllpgmibkoaaGreatBn9
import Derived.Test.YtpblllpgmibkoaaGreatBn2
import Derived.Test.YtpblllpgmibkoaaGreatBn3
import Derived.Test.YtpblllpgmibkoaaGreatShelf
import Derived.Sort.OwnSorted
import Derived.Test.YtpblllpgmibkoaaGreatBn6
import Derived.Test.YtpblllpgmibkoaaGreatBn4
import Derived.Test.YtpblllpgmibkoaaGreatBn5
set_option linter.unusedSimpArgs false
set_option linter.unusedVariables false
namespace Go.Proofs.YtpblllpgmibkoaaGreat
open Go.RowKit

set_option maxRecDepth 100000 in
set_option maxHeartbeats 1000000 in
theorem rtnum_any (s : List UInt8) (P : Nat) (m : Int) (w : World) (hs : s.length ≤ 1000000000) (hP : P ≤ s.length) :
    Calls Tryz.prog 47 #[.string ⟨s.toArray⟩, .int .i64 (P : Int), .int .i64 m] w fun e w' => e = .returned (.tuple #[.int .i64 (tN (s.drop P)), .int .i64 ((P : Int) + tS (s.drop P)), .int .i64 (nmE m (s.drop P))]) ∧ w' = w := by
  have HZ := Lib.hid (bsize s)
  have x1 := ext_rest s P
  have hdl : (s.drop P).length = s.length - P := List.length_drop
  generalize s.drop P = t at *
  have HT := Lib.hid (fun w => reftake_any t w (by omega))
  have hS : 0 ≤ tS t ∧ tS t ≤ t.length := by
    by_cases h : tE t = 0
    · obtain ⟨a, b, _⟩ := put_take t h
      exact ⟨by omega, b⟩
    · unfold tS; rw [if_neg h]; omega
  have g1 : (P : Int) ≤ (s.length : Int) := by omega
  have w0 : IntKind.i64.wrap ((P : Int) + tS t) = (P : Int) + tS t := by rw [IntKind.wrap_i64]; omega
  by_cases h1 : tE t = 0
  · by_cases h2 : m < tN t
    · have HE : Hid (nmE m t = 11) := Lib.hid (by unfold nmE; rw [if_pos h1, if_pos h2])
      rw [h1] at HT
      generalize tN t = n at *
      generalize tS t = k at *
      have hd : decide (m < n) = true := decide_eq_true h2
      clear h1 hdl
      go_enter Tryz.func47, Tryz.ntmps47
      go_wp2_with fail
      refine (HT.out _).mono ?_
      rintro e w' ⟨rfl, rfl⟩
      go_wp2
      go_ret3
      exact ⟨by rw [HE.out]; rfl, rfl⟩
    · have HE : Hid (nmE m t = 0) := Lib.hid (by unfold nmE; rw [if_pos h1, if_neg h2])
      rw [h1] at HT
      generalize tN t = n at *
      generalize tS t = k at *
      have hd : decide (m < n) = false := decide_eq_false h2
      clear h1 hdl
      go_enter Tryz.func47, Tryz.ntmps47
      go_wp2_with fail
      refine (HT.out _).mono ?_
      rintro e w' ⟨rfl, rfl⟩
      go_wp2
      go_ret3
      exact ⟨by rw [HE.out]; rfl, rfl⟩
  · have HE : Hid (nmE m t = tE t) := Lib.hid (by unfold nmE; rw [if_neg h1])
    generalize tN t = n at *
    generalize tS t = k at *
    generalize tE t = x at *
    have g2 : (x == 0) = false := by simpa using h1
    clear hdl
    go_enter Tryz.func47, Tryz.ntmps47
    go_wp2_with fail
    refine (HT.out _).mono ?_
    rintro e w' ⟨rfl, rfl⟩
    go_wp2
    go_ret3
    exact ⟨by rw [HE.out]; rfl, rfl⟩

theorem results_tmp4 {fn : Func} {t u v x : Tmp} (h : fn.results = #[.tmp t, .tmp u, .tmp v, .tmp x]) (tmps : Array Value) (P : Program) (w : World) :
    (results fn tmps).run P w = .ok (.tuple #[tmps.getD t undef, tmps.getD u undef, tmps.getD v undef, tmps.getD x undef]) w := by
  simp [results, h]

/-- What head answers. -/
def RetHd (s : List UInt8) (w : World) (e : Ending) (w' : World) : Prop :=
  (∃ q, w' = w.drewN q) ∧ ((¬ hdE s = 0 ∧ e = .returned (.tuple #[.int .i64 0, .string ⟨#[]⟩, .int .i64 0, .int .i64 (hdE s)])) ∨
   (hdE s = 0 ∧ ∃ P : Nat, P ≤ s.length ∧ s.drop P = hdR s ∧ e = .returned (.tuple #[.int .i64 (hdN s : Int), .string ⟨(hdO s).toArray⟩, .int .i64 (P : Int), .int .i64 0])))

set_option maxRecDepth 100000 in
set_option maxHeartbeats 4000000 in
theorem rthead_any (s : List UInt8) (w : World) (hs : s.length ≤ 1000000) : Calls Tryz.prog 46 #[.string ⟨s.toArray⟩] w (RetHd s w) := by
  have HZ := Lib.hid (bsize s)
  have hE : Hid (hdE s = hdE s) := Lib.hid rfl
  by_cases c0 : s.take 4 = hdT
  · have hl4 : 4 ≤ s.length := by have := congrArg List.length c0; rw [List.length_take] at this; simp [hdT] at this; omega
    have x0 : (⟨s.toArray⟩ : ByteArray).extract 0 4 = ⟨hdT.toArray⟩ := by rw [ext_cut, ← c0]; rfl
    have r0 : (hdT == [116, 97, 98, 1]) = true := by decide
    have g0 : ¬ (s.length : Int) < 4 := by omega
    have g0' : decide ((s.length : Int) < 4) = false := decide_eq_false g0
    have g4 : (4 : Int) ≤ (s.length : Int) := by omega
    have H1 := Lib.hid (rtnum_any s 4 16777217 w (by omega) hl4)
    have HD : Hid (hdE s = if nmE 16777217 (s.drop 4) = 0 then (if tN (s.drop 4) = 0 then 14 else if nmE 256 (pasT (s.drop 4)) = 0 then (if (pasT (pasT (s.drop 4))).length < (tN (pasT (s.drop 4))).toNat then 4 else if riseT ((pasT (pasT (s.drop 4))).take (tN (pasT (s.drop 4))).toNat) = true then 0 else 9) else nmE 256 (pasT (s.drop 4))) else nmE 16777217 (s.drop 4)) := Lib.hid (by unfold hdE; rw [if_pos c0])
    by_cases c1 : nmE 16777217 (s.drop 4) = 0
    · obtain ⟨n1, n2, n3⟩ := nm_ok c1
      rw [c1] at H1
      obtain ⟨p1, p2, p3⟩ := nm_pos c1
      obtain ⟨k1, hk1⟩ : ∃ k : Nat, tS (s.drop 4) = (k : Int) := ⟨(tS (s.drop 4)).toNat, by omega⟩
      have hp1 : pasT (s.drop 4) = s.drop (4 + k1) := by unfold pasT; rw [hk1, Int.toNat_natCast, List.drop_drop]
      have hd4 : (s.drop 4).length = s.length - 4 := List.length_drop
      rw [hk1] at H1 p2
      rw [show ((4 : Nat) : Int) + (k1 : Int) = ((4 + k1 : Nat) : Int) by omega] at H1
      by_cases c2 : tN (s.drop 4) = 0
      · have HE : Hid (hdE s = 14) := Lib.hid (by rw [HD.out, if_pos c1, if_pos c2])
        rw [c2] at H1
        clear HD hE hp1 hk1 c1 c2 n1 n2 n3 p1 p2 p3 hd4
        go_enter Tryz.func46, Tryz.ntmps46
        go_wp2_with fail
        refine H1.out.mono ?_
        rintro e w' ⟨rfl, hw⟩
        obtain rfl := hw.symm
        clear hw
        go_wp2
        (try simp only [Exit.inBlock, Exit.then])
        refine bodyPost_ret (results_tmp4 rfl _ _ _) rfl ?_
        exact ⟨⟨0, rfl⟩, .inl ⟨by rw [HE.out]; decide, by rw [HE.out]; rfl⟩⟩
      · have HN : Hid ((hdN s : Int) = tN (s.drop 4)) := Lib.hid (by unfold hdN; omega)
        have gn : (tN (s.drop 4) == 0) = false := by simpa using c2
        have H2 := Lib.hid (rtnum_any s (4 + k1) 256 w (by omega) (by omega))
        rw [← hp1] at H2
        rw [if_pos c1, if_neg c2] at HD
        by_cases c3 : nmE 256 (pasT (s.drop 4)) = 0
        · obtain ⟨_, m2, m3⟩ := nm_ok c3
          obtain ⟨q1, q2, q3⟩ := nm_pos c3
          rw [c3] at H2
          rw [if_pos c3] at HD
          obtain ⟨k2, hk2⟩ : ∃ k : Nat, tS (pasT (s.drop 4)) = (k : Int) := ⟨(tS (pasT (s.drop 4))).toNat, by omega⟩
          have hp2 : pasT (pasT (s.drop 4)) = s.drop (4 + k1 + k2) := by
            rw [show pasT (pasT (s.drop 4)) = (pasT (s.drop 4)).drop k2 by rw [pasT, hk2, Int.toNat_natCast], hp1, List.drop_drop]
          have hpl : (pasT (s.drop 4)).length = s.length - (4 + k1) := by rw [hp1, List.length_drop]
          rw [hk2] at H2 q2
          rw [show ((4 + k1 : Nat) : Int) + (k2 : Int) = ((4 + k1 + k2 : Nat) : Int) by omega] at H2
          obtain ⟨K, hK⟩ : ∃ K : Nat, tN (pasT (s.drop 4)) = (K : Int) := ⟨(tN (pasT (s.drop 4))).toNat, by omega⟩
          have hKs : hdK s = K := by unfold hdK; rw [hK, Int.toNat_natCast]
          have HO0 : Hid (hdO s = (s.drop (4 + k1 + k2)).take K) := Lib.hid (by unfold hdO; rw [hKs, hp2])
          have HR0 : Hid (hdR s = s.drop (4 + k1 + k2 + K)) := Lib.hid (by unfold hdR; rw [hKs, hp2, List.drop_drop])
          rw [hK] at H2
          rw [hp2, hK, Int.toNat_natCast] at HD
          obtain ⟨P, hP⟩ : ∃ P, 4 + k1 + k2 = P := ⟨_, rfl⟩
          rw [hP] at H2 HD HO0 HR0
          have hPl : P ≤ s.length := by omega
          have hdl : (s.drop P).length = s.length - P := List.length_drop
          have w1 : IntKind.i64.wrap ((s.length : Int) - (P : Int)) = ((s.length - P : Nat) : Int) := by rw [IntKind.wrap_i64]; omega
          have hK2 : K ≤ 256 := by omega
          generalize tN (s.drop 4) = n at *
          clear hp1 hp2 hk1 hk2 hK hKs n1 n2 n3 p1 p2 p3 q1 q2 q3 m2 m3 hpl hd4 c1 c2 c3 hP hE
          by_cases c4 : (s.drop P).length < K
          · have HE : Hid (hdE s = 4) := Lib.hid (by rw [HD.out, if_pos c4])
            have g5 : ((s.length - P : Nat) : Int) < (K : Int) := by omega
            have g6 : s.length - P < K := by omega
            clear HD HO0 HR0
            go_enter Tryz.func46, Tryz.ntmps46
            go_wp2_with fail
            refine H1.out.mono ?_
            rintro e w' ⟨rfl, hw⟩
            obtain rfl := hw.symm
            clear hw
            go_wp2_with fail
            refine H2.out.mono ?_
            rintro e w' ⟨rfl, hw⟩
            obtain rfl := hw.symm
            clear hw
            go_wp2
            (try simp only [Exit.inBlock, Exit.then])
            refine bodyPost_ret (results_tmp4 rfl _ _ _) rfl ?_
            exact ⟨⟨0, rfl⟩, .inl ⟨by rw [HE.out]; decide, by rw [HE.out]; rfl⟩⟩
          · rw [if_neg c4] at HD
            have g5 : ¬ ((s.length - P : Nat) : Int) < (K : Int) := by omega
            have g6 : ¬ s.length - P < K := by omega
            have w2 : IntKind.i64.wrap ((P : Int) + (K : Int)) = ((P + K : Nat) : Int) := by rw [IntKind.wrap_i64]; omega
            have x2 : (⟨s.toArray⟩ : ByteArray).extract P (P + K) = ⟨((s.drop P).take K).toArray⟩ := by
              rw [ext_cut, List.take_drop]
            have hol : ((s.drop P).take K).length = K := by rw [List.length_take]; omega
            have hPK : P + K ≤ s.length := by omega
            have g7 : ((P + K : Nat) : Int) ≤ (s.length : Int) := by omega
            have g8 : (P : Int) ≤ ((P + K : Nat) : Int) := by omega
            generalize (s.drop P).take K = own at *
            have SO := Lib.hid (bsize own)
            have HOl := Lib.hid hol
            clear hdl c4 hol
            go_enter Tryz.func46, Tryz.ntmps46
            go_wp2_with fail
            refine H1.out.mono ?_
            rintro e w' ⟨rfl, hw⟩
            obtain rfl := hw.symm
            clear hw
            go_wp2_with fail
            refine H2.out.mono ?_
            rintro e w' ⟨rfl, hw⟩
            obtain rfl := hw.symm
            clear hw
            clear H1 H2 x0 r0 g0 g0' g4 gn
            go_wp2_with fail
            rw [x2]
            go_loopw [11] (fun i wr => ∃ (k q : Nat), i = .int .i64 ((k + 1 : Nat) : Int) ∧ (k + 1 ≤ K ∨ k = 0) ∧ Hid (riseK own (k + 1) = true) ∧ wr = w.drewN q) (fun i _ => K - (RowKit.intOf i).toNat)
            case atStart => exact ⟨0, 0, rfl, .inr rfl, Lib.hid rfl, rfl⟩
            case round =>
              obtain ⟨k, q, rfl, hk, HRi, hwr⟩ := hrel
              subst hwr
              have e1 : ((k + 1 : Nat) : Int) = (k : Int) + 1 := by omega
              by_cases hlt : k + 1 < K
              · have hl1 : k < own.length := by rw [HOl.out]; omega
                have hl2 : k + 1 < own.length := by rw [HOl.out]; omega
                have z1 : k < (⟨own.toArray⟩ : ByteArray).size := by rw [SO.out]; omega
                have z2 : k + 1 < (⟨own.toArray⟩ : ByteArray).size := by rw [SO.out]; omega
                have a1 := byteAt own k hl1 z1
                have a2 := byteAt own (k + 1) hl2 z2
                have u1 : IntKind.i64.wrap (k : Int) = (k : Int) := by rw [IntKind.wrap_i64]; omega
                have u2 : IntKind.i64.wrap ((k : Int) + 1 - 1) = (k : Int) := by rw [IntKind.wrap_i64]; omega
                have v0 : (0 : Int) ≤ (k : Int) := by omega
                have v1 : (k : Int) < (own.length : Int) := by omega
                have v2 : (k : Int) + 1 < (own.length : Int) := by omega
                have v3 : ((k : Int) + 1).toNat = k + 1 := by omega
                have v4 : (0 : Int) ≤ (k : Int) + 1 := by omega
                have v5 : (k : Int) + 1 < (K : Int) := by omega
                have HQ : Hid (riseK own (k + 1 + 1) = decide ((own[k]'hl1).toNat < (own[k + 1]'hl2).toNat)) := Lib.hid (by
                  rw [riseK, HRi.out, Bool.true_and, show (k + 1 == 0) = false from by simp, Bool.false_or, Nat.add_sub_cancel]
                  simp only [List.getD, List.getElem?_eq_getElem hl1, List.getElem?_eq_getElem hl2, Option.getD_some, UInt8.lt_iff_toNat_lt])
                obtain ⟨w3, hw3⟩ : ∃ w3, w.drewN q = w3 := ⟨_, rfl⟩
                have HW3 := Lib.hid hw3
                rw [hw3, e1]
                clear hw3
                by_cases hr : (own[k]'hl1).toNat < (own[k + 1]'hl2).toNat
                · have HQ2 : Hid (riseK own (k + 1 + 1) = true) := Lib.hid (by rw [HQ.out]; exact decide_eq_true hr)
                  have b1 : ¬ (((⟨own.toArray⟩ : ByteArray)[k + 1]'z2).toNat : Int) ≤ (((⟨own.toArray⟩ : ByteArray)[k]'z1).toNat : Int) := by rw [a1, a2]; omega
                  have b2 : ¬ ((⟨own.toArray⟩ : ByteArray)[k + 1]'z2).toNat ≤ ((⟨own.toArray⟩ : ByteArray)[k]'z1).toNat := by rw [a1, a2]; omega
                  have b3 : decide ((((⟨own.toArray⟩ : ByteArray)[k + 1]'z2).toNat : Int) ≤ (((⟨own.toArray⟩ : ByteArray)[k]'z1).toNat : Int)) = false := decide_eq_false b1
                  clear a1 a2 HQ hr HRi
                  go_wp2_with fail
                  go_quiet (fail)
                  have HW4 : Hid (w3.drewN nq = w.drewN (q + nq)) := Lib.hid (by rw [← HW3.out, World.drewN_drewN])
                  go_wp2
                  exact ⟨⟨k + 1, q + nq, by go_num, .inl (by omega), HQ2, HW4.out⟩, by simp [RowKit.intOf]; omega⟩
                · have HE : Hid (hdE s = 9) := Lib.hid (by
                    rw [HD.out, if_neg]
                    intro h
                    unfold riseT at h
                    have := (rise_iff.1 h) k (by omega)
                    simp only [List.getD, List.getElem?_eq_getElem hl1, List.getElem?_eq_getElem hl2, Option.getD_some, UInt8.lt_iff_toNat_lt] at this
                    exact hr this)
                  have b1 : (((⟨own.toArray⟩ : ByteArray)[k + 1]'z2).toNat : Int) ≤ (((⟨own.toArray⟩ : ByteArray)[k]'z1).toNat : Int) := by rw [a1, a2]; omega
                  have b2 : ((⟨own.toArray⟩ : ByteArray)[k + 1]'z2).toNat ≤ ((⟨own.toArray⟩ : ByteArray)[k]'z1).toNat := by rw [a1, a2]; omega
                  have b3 : decide ((((⟨own.toArray⟩ : ByteArray)[k + 1]'z2).toNat : Int) ≤ (((⟨own.toArray⟩ : ByteArray)[k]'z1).toNat : Int)) = true := decide_eq_true b1
                  clear a1 a2 HQ hr HRi HD
                  go_wp2_with fail
                  go_quiet (fail)
                  have HW4 : Hid (w3.drewN nq = w.drewN (q + nq)) := Lib.hid (by rw [← HW3.out, World.drewN_drewN])
                  go_wp2
                  (try simp only [Exit.inBlock, Exit.then])
                  refine bodyPost_ret (results_tmp4 rfl _ _ _) rfl ?_
                  exact ⟨⟨_, HW4.out⟩, .inl ⟨by rw [HE.out]; decide, by rw [HE.out]; rfl⟩⟩
              · have HT : Hid (riseT own = true) := Lib.hid (by rw [← rise_end own k (by rw [HOl.out]; omega) (by rw [HOl.out]; exact hk)]; exact HRi.out)
                have HE : Hid (hdE s = 0) := Lib.hid (by rw [HD.out, if_pos HT.out])
                have hz : ¬ (k : Int) + 1 < (K : Int) := by omega
                rw [e1]
                clear HD HRi
                go_wp2
                (try simp only [Exit.inBlock, Exit.then])
                refine bodyPost_ret (results_tmp4 rfl _ _ _) rfl ?_
                exact ⟨⟨q, rfl⟩, .inr ⟨HE.out, P + K, hPK, HR0.out.symm, by rw [HN.out, HO0.out]; rfl⟩⟩
        · have HE : Hid (hdE s = nmE 256 (pasT (s.drop 4))) := Lib.hid (by rw [HD.out, if_neg c3])
          have H0 := Lib.hid c3
          generalize nmE 256 (pasT (s.drop 4)) = x at *
          have g5 : (x == 0) = false := by simpa using c3
          clear HD hE hp1 hk1 c1 c2 n1 n2 n3 p1 p2 p3 hd4
          go_enter Tryz.func46, Tryz.ntmps46
          go_wp2_with fail
          refine H1.out.mono ?_
          rintro e w' ⟨rfl, hw⟩
          obtain rfl := hw.symm
          clear hw
          go_wp2_with fail
          refine H2.out.mono ?_
          rintro e w' ⟨rfl, hw⟩
          obtain rfl := hw.symm
          clear hw
          go_wp2
          (try simp only [Exit.inBlock, Exit.then])
          refine bodyPost_ret (results_tmp4 rfl _ _ _) rfl ?_
          exact ⟨⟨0, rfl⟩, .inl ⟨by rw [HE.out]; exact H0.out, by rw [HE.out]; rfl⟩⟩
    · have HE : Hid (hdE s = nmE 16777217 (s.drop 4)) := Lib.hid (by rw [HD.out, if_neg c1])
      have H0 := Lib.hid c1
      generalize nmE 16777217 (s.drop 4) = x at *
      have g5 : (x == 0) = false := by simpa using c1
      clear HD hE
      go_enter Tryz.func46, Tryz.ntmps46
      go_wp2_with fail
      refine H1.out.mono ?_
      rintro e w' ⟨rfl, hw⟩
      obtain rfl := hw.symm
      clear hw
      go_wp2
      (try simp only [Exit.inBlock, Exit.then])
      refine bodyPost_ret (results_tmp4 rfl _ _ _) rfl ?_
      exact ⟨⟨0, rfl⟩, .inl ⟨by rw [HE.out]; exact H0.out, by rw [HE.out]; rfl⟩⟩
  · have HE : Hid (hdE s = 15) := Lib.hid (by unfold hdE; rw [if_neg c0])
    by_cases hl4 : s.length < 4
    · have g0 : (s.length : Int) < 4 := by omega
      have g0' : decide ((s.length : Int) < 4) = true := decide_eq_true g0
      clear hE
      go_enter Tryz.func46, Tryz.ntmps46
      go_wp2
      (try simp only [Exit.inBlock, Exit.then])
      refine bodyPost_ret (results_tmp4 rfl _ _ _) rfl ?_
      exact ⟨⟨0, rfl⟩, .inl ⟨by rw [HE.out]; decide, by rw [HE.out]; rfl⟩⟩
    · have g0 : ¬ (s.length : Int) < 4 := by omega
      have g0' : decide ((s.length : Int) < 4) = false := decide_eq_false g0
      have g4 : (4 : Int) ≤ (s.length : Int) := by omega
      have x0 : (⟨s.toArray⟩ : ByteArray).extract 0 4 = ⟨(s.take 4).toArray⟩ := by rw [ext_cut]; rfl
      have r0 : (s.take 4 == [116, 97, 98, 1]) = false := by
        rw [Bool.eq_false_iff]
        intro h
        exact c0 (show s.take 4 = [116, 97, 98, 1] by simpa using h)
      generalize s.take 4 = t at *
      clear hE
      go_enter Tryz.func46, Tryz.ntmps46
      go_wp2
      (try simp only [Exit.inBlock, Exit.then])
      refine bodyPost_ret (results_tmp4 rfl _ _ _) rfl ?_
      exact ⟨⟨0, rfl⟩, .inl ⟨by rw [HE.out]; decide, by rw [HE.out]; rfl⟩⟩
end Go.Proofs.YtpblllpgmibkoaaGreat

namespace Go.Proofs.YtpblllpgmibkoaaGreat
open Go.RowKit

set_option maxHeartbeats 1000000 in
theorem compare_any (a b : List UInt8) (w : World) :
    Calls Tryz.prog 53 #[.string ⟨a.toArray⟩, .string ⟨b.toArray⟩] w fun e w' => e = .returned (.int .i64 (Lib.compareBytes a b)) ∧ w' = w := by
  have h := Tryz.strings_Compare ⟨a.toArray⟩ ⟨b.toArray⟩ w
  simp only at h
  generalize Lib.compareBytes a b = r at h ⊢
  have H := Lib.hid h
  clear h
  go_enter Tryz.func53, Tryz.ntmps53
  go_wp2_with fail
  refine H.out.mono ?_
  rintro e w' ⟨rfl, rfl⟩
  go_wp2
  go_ret
  exact ⟨rfl, rfl⟩
end Go.Proofs.YtpblllpgmibkoaaGreat

namespace Go.Proofs.YtpblllpgmibkoaaGreat
open Go.RowKit
open Go.Sort hiding Below

/-- A list of texts, owned. -/
def RetO (ws : List (List UInt8)) (w : World) (e : Ending) (w' : World) : Prop := ∃ v, e = .returned v ∧ w'.ownsRow w.heap.size 9 1 v ws.length (txCells ws) ∧ Below w.heap.size w w'

theorem clone_own (a : Option Addr) (len cap : Nat) (ws : List (List UInt8)) (w : World) (hl : len ≤ 1000000) (hr : IsStrs w a len ws) :
    Calls Tryz.prog 51 #[.slice a len cap] w (RetO ws w) := by
  have hwl := hr.1
  by_cases h0 : len = 0
  · subst h0
    obtain rfl : ws = [] := List.eq_nil_of_length_eq_zero hwl
    cases a with
    | none =>
      refine (Tryz.slices_Clone_string_nil 0 cap w).mono ?_
      rintro e w' ⟨rfl, rfl⟩
      exact ⟨_, rfl, World.ownsRow_nil _ _ _ _, Below.refl _ _⟩
    | some x =>
      refine (Tryz.slices_Clone_string_zero x cap w).mono ?_
      rintro e w' ⟨v, rfl, hown, hv, hb⟩
      exact ⟨v, rfl, hown, hb⟩
  · obtain ⟨b, off, rfl, _⟩ := str_at hr (Below.refl _ _) 0 (by omega)
    refine (Tryz.slices_Clone_string b off len cap (ws.map fun t => (⟨t.toArray⟩ : ByteArray)) w (by simp; omega) (by omega) ?_).mono ?_
    · intro j hj
      rw [List.length_map] at hj
      obtain ⟨b', off', e', t, hf, hc⟩ := str_at hr (Below.refl _ _) j (by omega)
      cases e'
      rw [hc]
      congr 2
      simp [List.getD, hf]
    · rintro e w' ⟨v, rfl, hown, hv, hb⟩
      have e1 : ((ws.map fun t => (⟨t.toArray⟩ : ByteArray)).take len).map Value.string = txCells ws := by
        rw [List.take_of_length_le (by simp; omega), List.map_map]; rfl
      rw [e1, ← hwl] at hown
      exact ⟨v, rfl, hown, hb⟩

theorem lt_of (x y : List UInt8) : ltOf Lib.compareBytes x y = decide (x < y) := by
  unfold ltOf
  rw [Bool.eq_iff_iff]
  simp only [decide_eq_true_eq]
  exact cmp_neg x y
theorem swoB : Sort.SWO (ltOf Lib.compareBytes) where
  irrefl x := by rw [lt_of]; simp [List.lt_irrefl]
  trans x y z h1 h2 := by rw [lt_of] at *; simp only [decide_eq_true_eq] at *; exact List.lt_trans h1 h2
  ntrans x y z h1 h2 := by
    rw [lt_of] at *
    simp only [decide_eq_false_iff_not, List.not_lt] at *
    exact List.le_trans h2 h1
theorem sort_is (ws : List (List UInt8)) : (ws.mergeSort fun x y => !(ltOf Lib.compareBytes) y x) = srt ws := by
  unfold srt
  congr 1
  funext x y
  rw [lt_of]
  by_cases h : x ≤ y
  · have h' : ¬ y < x := List.not_lt.2 h
    simp [h, h']
  · have h' : y < x := List.not_le.1 h
    simp [h, h']
theorem part_all (x y : List UInt8) (h1 : ltOf Lib.compareBytes x y = false) (h2 : ltOf Lib.compareBytes y x = false) : x = y := by
  rw [lt_of] at h1 h2
  simp only [decide_eq_false_iff_not, List.not_lt] at h1 h2
  exact List.le_antisymm h2 h1

theorem cmp_enters : ∀ args w, (callFunc 53 args).run Tryz.prog w = .ok (.enter 53 args) w := enters_of Tryz.func53 (by kernel_rfl) rfl
theorem cmp_reads (blk off size : Nat) (w : World) : CmpReads Tryz.prog 53 #[] encStr Lib.compareBytes blk off size w :=
  fun _ _ _ _ x y => (compare_any x y _).mono fun _ _ ⟨he, hw⟩ => ⟨he, 0, hw⟩

/-- The sort at a slice of the call's own. -/
theorem sort_own {base : Nat} (v : Value) (ws : List (List UInt8)) (w : World) (hl : ws.length ≤ 1000000) (hown : w.ownsRow base 9 1 v ws.length (txCells ws)) :
    Calls Tryz.prog 52 #[v, .func (.func 53) #[] #[]] w fun e w' => e = .returned (.tuple #[]) ∧ w'.ownsRow base 9 1 v ws.length (txCells (srt ws)) ∧ w.grownBy w' v.ownBlock := by
  rcases hown.2 with ⟨rfl, h0⟩ | ⟨g, cap, cur, rfl, hbase, hb, h1, h2, h3, h4⟩
  · obtain rfl : ws = [] := List.eq_nil_of_length_eq_zero h0
    refine (Tryz.slices_SortFunc_none (α := List UInt8) none 0 _ w).mono ?_
    rintro e w' ⟨rfl, rfl⟩
    exact ⟨rfl, by rw [show srt [] = [] from List.eq_nil_of_length_eq_zero (srt_length [])]; exact hown, ⟨rfl, rfl, rfl, Nat.le_refl _, fun _ _ _ => rfl⟩⟩
  · have hlt : g < w.heap.size := (Array.getElem?_eq_some_iff.1 hb).1
    have h := Tryz.slices_SortFunc_total encStr (fun _ => rfl) Lib.compareBytes swoB 53 #[] g 0 cap ws.toArray w cmp_enters (cmp_reads g 0 ws.toArray.size w).lays
      (holds_of_block hb (by rw [Nat.mul_one] at h4; exact h4)) hlt (by simp; omega) part_all
    simp only [List.size_toArray, List.toList_toArray] at h
    rw [sort_is] at h
    refine h.mono ?_
    rintro e w' ⟨rfl, n, os, rfl⟩
    exact ⟨rfl, ownsRow_sorted (srt_length ws) hbase hb h1 h2 h3, grownBy_sorted _⟩

set_option maxHeartbeats 1000000 in
theorem sorted_any (a : Option Addr) (len cap : Nat) (ws : List (List UInt8)) (w : World) (hl : len ≤ 1000000) (hr : IsStrs w a len ws) :
    Calls Tryz.prog 24 #[.slice a len cap] w (RetO (srt ws) w) := by
  have HC := Lib.hid (clone_own a len cap ws w hl hr)
  have hwl := hr.1
  clear hr
  go_enter Tryz.func24, Tryz.ntmps24
  go_wp2_with fail
  refine HC.out.mono ?_
  rintro e w1 ⟨v, rfl, hown, hb1⟩
  have HS := Lib.hid (sort_own v ws w1 (by omega) hown)
  go_wp2_with fail
  refine HS.out.mono ?_
  rintro e w2 ⟨rfl, hown2, hgrow⟩
  have h2 : Below w.heap.size w w2 := hb1.grown hgrow hb1.size (fun k hk => (hown.lt k hk).1)
  clear hgrow hown HC HS
  go_wp2
  go_ret
  exact ⟨v, rfl, by rw [srt_length]; exact hown2, h2⟩
end Go.Proofs.YtpblllpgmibkoaaGreat

namespace Go.Proofs.YtpblllpgmibkoaaGreat
open Go.RowKit

theorem owns_mono {w : World} {base base' : Nat} {e : TypeId} {size : Nat} {v : Value} {n : Nat} {xs : List Value} (h : w.ownsRow base e size v n xs) (hb : base' ≤ base) : w.ownsRow base' e size v n xs := by
  obtain ⟨h1, h2 | ⟨g, cap, cur, hv, hg, h3⟩⟩ := h
  · exact ⟨h1, .inl h2⟩
  · exact ⟨h1, .inr ⟨g, cap, cur, hv, Nat.le_trans hb hg, h3⟩⟩
theorem own_cap {w : World} {base : Nat} {e : TypeId} {g n cap : Nat} {xs : List Value} (h : w.ownsRow base e 1 (.slice (some ⟨g, 0, none⟩) n cap) n xs) : n ≤ cap ∧ cap ≤ maxLen := by
  obtain ⟨_, ⟨h1, _⟩ | ⟨g', cap', cur, hv, _, _, h1, h2, _⟩⟩ := h
  · cases h1
  · cases hv; exact ⟨h1, h2⟩
theorem own_part {w : World} {base : Nat} {e : TypeId} {g n cap : Nat} {ws : List (List UInt8)} (h : w.ownsRow base e 1 (.slice (some ⟨g, 0, none⟩) n cap) n (txCells ws)) (m : Nat) :
    ∀ j u, (txCells (ws.take m))[j]? = some u → w.cell? ((⟨g, 0, none⟩ : Addr).add j) = some u := fun j u hj => by
  refine h.cells rfl j u ?_
  unfold txCells at hj ⊢
  rw [List.map_take, List.getElem?_take] at hj
  split at hj
  · exact hj
  · cases hj
theorem own_rest {w : World} {base : Nat} {e : TypeId} {g n cap : Nat} {ws : List (List UInt8)} (h : w.ownsRow base e 1 (.slice (some ⟨g, 0, none⟩) n cap) n (txCells ws)) (m : Nat) :
    ∀ j u, (txCells (ws.drop m))[j]? = some u → w.cell? ((⟨g, m, none⟩ : Addr).add j) = some u := fun j u hj => by
  have := h.cells rfl (m + j) u (by
    unfold txCells at hj ⊢
    rw [List.map_drop, List.getElem?_drop] at hj
    exact hj)
  rw [addPlain] at this ⊢
  rwa [Nat.zero_add] at this
theorem own_at {w : World} {base : Nat} {e : TypeId} {g n cap : Nat} {ws : List (List UInt8)} (h : w.ownsRow base e 1 (.slice (some ⟨g, 0, none⟩) n cap) n (txCells ws)) {j : Nat} {t : List UInt8} (ht : ws[j]? = some t) : w.cell? ⟨g, j, none⟩ = some (.string ⟨t.toArray⟩) := by
  have := h.cells rfl j (.string ⟨t.toArray⟩) (by unfold txCells; rw [List.getElem?_map, ht]; rfl)
  rw [addPlain] at this
  rwa [Nat.zero_add] at this
theorem tx_one {ws : List (List UInt8)} : ∀ u ∈ txCells ws, u.oneCell' = true := by
  intro u hu
  unfold txCells at hu
  rw [List.mem_map] at hu
  obtain ⟨t, _, rfl⟩ := hu
  rfl
theorem own_form {w : World} {base : Nat} {e : TypeId} {v : Value} {n : Nat} {xs : List Value} (h : w.ownsRow base e 1 v (n + 1) xs) : ∃ g cap, v = .slice (some ⟨g, 0, none⟩) (n + 1) cap := by
  obtain ⟨_, ⟨_, h1⟩ | ⟨g, cap, cur, hv, _⟩⟩ := h
  · omega
  · exact ⟨g, cap, hv⟩
theorem txCells_length (ws : List (List UInt8)) : (txCells ws).length = ws.length := by simp [txCells]
theorem txCells_append (ws us : List (List UInt8)) : txCells (ws ++ us) = txCells ws ++ txCells us := by simp [txCells]
theorem insS_at {acc : List (List UInt8)} {t : List UInt8} {m : Nat} (h : posS acc t acc.length = m) : insS acc t = acc.take m ++ ([t] ++ acc.drop m) := by unfold insS; rw [h]
theorem fold_snoc {ws : List (List UInt8)} {k : Nat} {t : List UInt8} (h : ws[k]? = some t) : (ws.take (k + 1)).foldl insS [] = insS ((ws.take k).foldl insS []) t := by
  obtain ⟨hk, rfl⟩ := List.getElem?_eq_some_iff.1 h
  rw [List.take_succ_eq_append_getElem hk, List.foldl_append]; rfl

end Go.Proofs.YtpblllpgmibkoaaGreat

namespace Go.Proofs.YtpblllpgmibkoaaGreat
open Go.RowKit

theorem lsl_info : (Tryz.prog.info? 37).map (fun i => (i.zero, i.size, i.bytes)) = some (some (.slice none 0 0), 1, 24) := by kernel_rfl

/-- The document's rows, as a value: the bytes, the depths, where each byte leads. -/
def IsRef (w : World) (v : Value) (own : List UInt8) (D : List Int) (Q : List (List Int)) : Prop :=
  ∃ da dc na nc, v = .agg #[.string ⟨own.toArray⟩, .slice da D.length dc, .slice na Q.length nc] ∧ IsRow .i64 w da D.length D.length D ∧
    ∀ (j : Nat) (q : List Int), Q[j]? = some q → ∃ g off ra rc, na = some ⟨g, off, none⟩ ∧ w.cell? ⟨g, off + j, none⟩ = some (.slice ra q.length rc) ∧ IsRow .i64 w ra q.length q.length q
theorem IsRef.below {w w' : World} {v : Value} {own : List UInt8} {D : List Int} {Q : List (List Int)} (h : IsRef w v own D Q) (hb : Below w.heap.size w w') : IsRef w' v own D Q := by
  obtain ⟨da, dc, na, nc, h1, h2, h3⟩ := h
  refine ⟨da, dc, na, nc, h1, h2.below hb, fun j q hq => ?_⟩
  obtain ⟨g, off, ra, rc, e1, e2, e3⟩ := h3 j q hq
  refine ⟨g, off, ra, rc, e1, ?_, e3.below hb⟩
  rw [hb.cell (p := ⟨g, off + j, none⟩) (World.block_lt_of_cell? w _ e2)]
  exact e2
theorem IsRef.none (w : World) : IsRef w (.agg #[.string ⟨#[]⟩, .slice none 0 0, .slice none 0 0]) [] [] [] := ⟨Option.none, 0, Option.none, 0, rfl, .inl rfl, fun j q h => by simp at h⟩

/-- .. in the making, behind block c. -/
structure RefG (w : World) (c B : Nat) (own : List UInt8) (D : List Int) (Q : List (List Int)) (dv nv : Value) (N : List Value) : Prop where
  head : w.heap[c]? = some (.cells #[.string ⟨own.toArray⟩, dv, nv] 40 (0, 0))
  dep : w.ownsRow B 3 1 dv D.length (inCells D)
  nxt : w.ownsRow B 37 1 nv Q.length N
  row : ∀ (j : Nat) (q : List Int), Q[j]? = some q → ∃ v, N[j]? = some v ∧ w.ownsRow B 3 1 v q.length (inCells q) ∧ (v.ownBlock ≠ dv.ownBlock ∨ v.ownBlock = none)
theorem RefG.lt {w : World} {c B : Nat} {own : List UInt8} {D : List Int} {Q : List (List Int)} {dv nv : Value} {N : List Value} (h : RefG w c B own D Q dv nv N) : c < w.heap.size := heap_lt h.head
theorem RefG.below {w w' : World} {c B : Nat} {own : List UInt8} {D : List Int} {Q : List (List Int)} {dv nv : Value} {N : List Value} (h : RefG w c B own D Q dv nv N) (hb : Below w.heap.size w w') : RefG w' c B own D Q dv nv N :=
  ⟨(hb.block c h.lt).trans h.head, tx_below h.dep hb, tx_below h.nxt hb, fun j q hq => by
    obtain ⟨v, h1, h2, h3⟩ := h.row j q hq
    exact ⟨v, h1, tx_below h2 hb, h3⟩⟩

theorem own_none {w : World} {B : Nat} {e : TypeId} {v : Value} {n : Nat} {xs : List Value} (h : w.ownsRow B e 1 v n xs) : v.ownBlock = none ∨ ∃ g cs, v.ownBlock = some g ∧ w.heap[g]? = some (.cells cs e (0, 0)) := by
  obtain ⟨_, ⟨hv, _⟩ | ⟨g, cap, cur, hv, hg, hh, _⟩⟩ := h
  · exact .inl (by rw [hv]; rfl)
  · exact .inr ⟨g, cur, by rw [hv]; rfl, hh⟩
/-- Rows of unlike elements lie in unlike blocks. -/
theorem own_unlike {w : World} {B B' : Nat} {e e' : TypeId} {v v' : Value} {n n' : Nat} {xs xs' : List Value} (h : w.ownsRow B e 1 v n xs) (h' : w.ownsRow B' e' 1 v' n' xs') (hne : e ≠ e') : v.ownBlock ≠ v'.ownBlock ∨ v.ownBlock = none := by
  rcases own_none h with h0 | ⟨g, cs, hg, hh⟩
  · exact .inr h0
  · refine .inl fun ee => ?_
    rcases own_none h' with h0 | ⟨g', cs', hg', hh'⟩
    · rw [hg, h0] at ee; cases ee
    · rw [hg, hg'] at ee
      cases ee
      rw [hh] at hh'
      injection hh' with hh'
      injection hh' with _ h2 _
      exact hne h2
/-- What lies in another block than the one that grows. -/
theorem own_grown {w w' : World} {o : Obj} {B : Nat} {e : TypeId} {v : Value} {n : Nat} {xs : List Value} {r : Option Nat} (h : w.ownsRow B e 1 v n xs) (hg : (w.alloc o).grownBy w' r) (hne : v.ownBlock ≠ r ∨ v.ownBlock = none) : w'.ownsRow B e 1 v n xs := by
  obtain ⟨h1, h2 | ⟨g, cap, cur, hv, hB, hh, hr⟩⟩ := h
  · exact ⟨h1, .inl h2⟩
  · have hlt := heap_lt hh
    refine ⟨h1, .inr ⟨g, cap, cur, hv, hB, ?_, hr⟩⟩
    rw [hg.block g (by simp; omega) ?_, Lib.alloc_old _ _ g hlt]
    · exact hh
    · intro e2
      rcases hne with h3 | h3
      · exact h3 (by rw [hv]; exact e2)
      · rw [hv] at h3; cases h3
theorem heap_grown {w w' : World} {o : Obj} {c : Nat} {ob : Obj} {r : Option Nat} (h : w.heap[c]? = some ob) (hg : (w.alloc o).grownBy w' r) (hne : r ≠ some c) : w'.heap[c]? = some ob := by
  have hlt := heap_lt h
  rw [hg.block c (by simp; omega) (fun e => hne e.symm), Lib.alloc_old _ _ c hlt]
  exact h

/-- One depth more. -/
theorem RefG.depth {w w' : World} {o : Obj} {c B : Nat} {own : List UInt8} {D : List Int} {Q : List (List Int)} {dv dv' nv : Value} {N : List Value} {d : Int} (h : RefG w c B own D Q dv nv N)
    (ho : w'.ownsRow B 3 1 dv' (D.length + 1) (inCells D ++ [.int .i64 d])) (hg : (w.alloc o).grownBy w' dv.ownBlock) (hn : dv'.ownBlock = dv.ownBlock ∨ dv'.ownBlock = some (w.alloc o).heap.size) :
    RefG (w'.setCell ⟨c, 1, none⟩ dv') c B own (D ++ [d]) Q dv' nv N := by
  have hc := heap_grown h.head hg (Lib.ownBlock_ne h.dep h.head (by decide))
  have hn1 := own_grown h.nxt hg (own_unlike h.nxt h.dep (by decide))
  refine ⟨by rw [put_heap hc]; rfl, ?_, ownsRow_setCell_other hn1 (Lib.ownBlock_ne hn1 hc (by decide)) _, fun j q hq => ?_⟩
  · rw [inCells_snoc, List.length_append]
    exact ownsRow_setCell_other ho (Lib.ownBlock_ne ho hc (by decide)) _
  · obtain ⟨v, h1, h2, h3⟩ := h.row j q hq
    have h4 := own_grown h2 hg h3
    refine ⟨v, h1, ownsRow_setCell_other h4 (Lib.ownBlock_ne h4 hc (by decide)) _, ?_⟩
    rcases h3 with h3 | h3
    · rcases hn with hn | hn
      · rw [hn]; exact .inl h3
      · rw [hn]
        rcases own_none h2 with h5 | ⟨g, cs, hgg, hh⟩
        · exact .inr h5
        · refine .inl fun e => ?_
          rw [hgg] at e
          cases e
          have := heap_lt hh
          have hs : (w.alloc o).heap.size = w.heap.size + 1 := by simp
          omega
    · exact .inr h3
/-- .. and a row that was made on its own. -/
theorem own_depth {w w' : World} {o : Obj} {c B B2 : Nat} {own : List UInt8} {D : List Int} {Q : List (List Int)} {dv dv' nv rv : Value} {N : List Value} {n : Nat} {xs : List Value} (h : RefG w c B own D Q dv nv N) (hr : w.ownsRow B2 3 1 rv n xs) (hne : rv.ownBlock ≠ dv.ownBlock ∨ rv.ownBlock = none)
    (hg : (w.alloc o).grownBy w' dv.ownBlock) (hn : dv'.ownBlock = dv.ownBlock ∨ dv'.ownBlock = some (w.alloc o).heap.size) : (w'.setCell ⟨c, 1, none⟩ dv').ownsRow B2 3 1 rv n xs ∧ (rv.ownBlock ≠ dv'.ownBlock ∨ rv.ownBlock = none) := by
  have hc := heap_grown h.head hg (Lib.ownBlock_ne h.dep h.head (by decide))
  have h4 := own_grown hr hg hne
  refine ⟨ownsRow_setCell_other h4 (Lib.ownBlock_ne h4 hc (by decide)) _, ?_⟩
  rcases hne with h3 | h3
  · rcases hn with hn | hn
    · rw [hn]; exact .inl h3
    · rw [hn]
      rcases own_none hr with h5 | ⟨g, cs, hgg, hh⟩
      · exact .inr h5
      · refine .inl fun e => ?_
        rw [hgg] at e
        cases e
        have := heap_lt hh
        have hs : (w.alloc o).heap.size = w.heap.size + 1 := by simp
        omega
  · exact .inr h3
/-- One row more. -/
theorem RefG.next {w w' : World} {o : Obj} {c B B2 : Nat} {own : List UInt8} {D : List Int} {Q : List (List Int)} {dv nv nv' rv : Value} {N : List Value} {q : List Int} (h : RefG w c B own D Q dv nv N) (hB : B ≤ B2) (hr : w.ownsRow B2 3 1 rv q.length (inCells q)) (hne : rv.ownBlock ≠ dv.ownBlock ∨ rv.ownBlock = none)
    (ho : w'.ownsRow B 37 1 nv' (Q.length + 1) (N ++ [rv])) (hg : (w.alloc o).grownBy w' nv.ownBlock) :
    RefG (w'.setCell ⟨c, 2, none⟩ nv') c B own D (Q ++ [q]) dv nv' (N ++ [rv]) := by
  have hc := heap_grown h.head hg (Lib.ownBlock_ne h.nxt h.head (by decide))
  have hd := own_grown h.dep hg (own_unlike h.dep h.nxt (by decide))
  have hr1 := own_grown hr hg (own_unlike hr h.nxt (by decide))
  have hNl : N.length = Q.length := by have := h.nxt.1; omega
  refine ⟨by rw [put_heap hc]; rfl, ownsRow_setCell_other hd (Lib.ownBlock_ne hd hc (by decide)) _, ?_, fun j q' hq => ?_⟩
  · rw [List.length_append]
    exact ownsRow_setCell_other ho (Lib.ownBlock_ne ho hc (by decide)) _
  · by_cases hj : j < Q.length
    · rw [List.getElem?_append_left hj] at hq
      obtain ⟨v, h1, h2, h3⟩ := h.row j q' hq
      have h4 := own_grown h2 hg (own_unlike h2 h.nxt (by decide))
      exact ⟨v, by rw [List.getElem?_append_left (by omega)]; exact h1, ownsRow_setCell_other h4 (Lib.ownBlock_ne h4 hc (by decide)) _, h3⟩
    · have hjl := (List.getElem?_eq_some_iff.1 hq).1
      rw [List.length_append, List.length_singleton] at hjl
      have hjq : j = Q.length := by omega
      subst hjq
      rw [List.getElem?_append_right (Nat.le_refl _), Nat.sub_self] at hq
      obtain rfl : q = q' := by simpa using hq
      refine ⟨rv, ?_, owns_mono (ownsRow_setCell_other hr1 (Lib.ownBlock_ne hr1 hc (by decide)) _) hB, hne⟩
      rw [List.getElem?_append_right (by omega), hNl, Nat.sub_self]
      rfl
/-- What lies behind block c, as a value. -/
theorem RefG.val {w : World} {c B : Nat} {own : List UInt8} {D : List Int} {Q : List (List Int)} {dv nv : Value} {N : List Value} (h : RefG w c B own D Q dv nv N) (hD : D.length ≤ maxLen) (hQ : ∀ q ∈ Q, q.length ≤ maxLen) : IsRef w (.agg #[.string ⟨own.toArray⟩, dv, nv]) own D Q := by
  obtain ⟨da, dc, rfl, hd⟩ := row_of_ints h.dep hD
  obtain ⟨na, nc, hnv⟩ := owns_slice h.nxt
  have hnx := h.nxt
  subst hnv
  refine ⟨da, dc, na, nc, rfl, hd, fun j q hq => ?_⟩
  obtain ⟨v, h1, h2, _⟩ := h.row j q hq
  obtain ⟨ra, rc, rfl, hrow⟩ := row_of_ints h2 (hQ q (List.mem_of_getElem? hq))
  have hjl := (List.getElem?_eq_some_iff.1 hq).1
  obtain ⟨g, cap, _, _, hv⟩ := owns_some hnx (by omega)
  cases hv
  have hc := hnx.cells (g := g) rfl j _ h1
  rw [addPlain] at hc
  exact ⟨g, 0, ra, rc, rfl, hc, hrow⟩
end Go.Proofs.YtpblllpgmibkoaaGreat

namespace Go.Proofs.YtpblllpgmibkoaaGreat
open Go.RowKit

/-- All blocks of cells of other types than T are as they were. -/
def Other (T : TypeId) (w w' : World) : Prop := ∀ (k : Nat) (cs : Array Value) (U : TypeId) (m : Nat × Nat), U ≠ T → w.heap[k]? = some (.cells cs U m) → w'.heap[k]? = some (.cells cs U m)
theorem Other.refl (T : TypeId) (w : World) : Other T w w := fun _ _ _ _ _ h => h
theorem Other.trans {T : TypeId} {u v w : World} (h : Other T u v) (k : Other T v w) : Other T u w := fun i cs U m hU hh => k i cs U m hU (h i cs U m hU hh)
theorem Other.set {T : TypeId} {w : World} {b i : Nat} {cs : Array Value} {m : Nat × Nat} (h : w.heap[b]? = some (.cells cs T m)) (u : Value) : Other T w (w.setCell ⟨b, i, none⟩ u) := fun k ds U m' hU hk => by
  have hne : k ≠ b := fun e => by
    subst e
    rw [h] at hk
    injection hk with hk
    injection hk with h1 h2 h3
    exact hU h2.symm
  rw [put_other hne]
  exact hk
theorem Other.heap {T : TypeId} {w w' : World} (e : w'.heap = w.heap) : Other T w w' := fun k cs U m hU hk => by rw [e]; exact hk
theorem Other.owns {T : TypeId} {w w' : World} (h : Other T w w') {base n : Nat} {size : Nat} {e : TypeId} {v : Value} {xs : List Value} (he : e ≠ T) (ho : w.ownsRow base e size v n xs) : w'.ownsRow base e size v n xs := by
  obtain ⟨hl, hx⟩ := ho
  refine ⟨hl, ?_⟩
  rcases hx with hx | ⟨g, cap, cur, hv, hg, hh, r⟩
  · exact .inl hx
  · exact .inr ⟨g, cap, cur, hv, hg, h g _ _ _ he hh, r⟩
end Go.Proofs.YtpblllpgmibkoaaGreat
