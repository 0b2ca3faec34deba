/-
  The law TabFits: walked.
-/
import Derived.Test.YtpblllpgmibkoaaGreatTbTb
import Derived.Test.YtpblllpgmibkoaaGreatTbTa
import Derived.Test.YtpblllpgmibkoaaGreatBn15
set_option linter.unusedSimpArgs false
set_option linter.unusedVariables false
namespace Go.Proofs.YtpblllpgmibkoaaGreat
open Go.RowKit

/-- The first state is the root. -/
theorem st_first {us S : List (List UInt8)} (h : IsSt us S) : S[0]? = some [] := by
  obtain ⟨i, hi⟩ := List.mem_iff_getElem?.1 (st_root h)
  obtain ⟨hil, he⟩ := List.getElem?_eq_some_iff.1 hi
  cases i with
  | zero => exact hi
  | succ i =>
    have h0 := (List.pairwise_iff_getElem.1 h.1) 0 (i + 1) (by omega) hil (by omega)
    rw [he] at h0
    rcases h0 with h1 | ⟨h1, h2⟩
    · simp at h1
    · exact absurd h2 (List.not_lt_nil _)

theorem st_grow {us : List (List UInt8)} : ∀ (m k : Nat) (S : List (List UInt8)), Bfs us k S → totalL us + 1 ≤ k + m → ∃ S', IsSt us S'
  | 0, k, S, h, hm => by
    have h1 := h.le.1
    have h2 := h.few
    have e : k = S.length := by omega
    subst e
    exact ⟨S, h.done⟩
  | m + 1, k, S, h, hm => by
    have h1 := h.le.1
    rcases Nat.lt_or_ge k S.length with hk | hk
    · exact st_grow m (k + 1) _ (h.step (p := S[k]) (List.getElem?_eq_getElem hk)) (by omega)
    · have e : k = S.length := by omega
      subst e
      exact ⟨S, h.done⟩
/-- There are states of every set. -/
theorem st_there (us : List (List UInt8)) : ∃ S, IsSt us S := st_grow (totalL us + 1) 0 [[]] Bfs.zero (by omega)

set_option maxHeartbeats 1000000 in
theorem tbfits_many (a : Option Addr) (len cap : Nat) (s t : List UInt8) (ws : List (List UInt8)) (w : World) (hlen : len ≤ 9223372036854775807) (hr : IsStrs w a len ws) (ht : ∀ t ∈ ws, t.length ≤ 9223372036854775807) (hq : fewB ws 6 8 = false) :
    Calls Tryz.prog 5 #[.slice a len cap, .string ⟨s.toArray⟩, .string ⟨t.toArray⟩] w fun e w' => e = .returned (.bool true) ∧ Below w.heap.size w w' := by
  have HF := Lib.hid (few_no6 a len cap ws w hlen hr ht _ hq)
  clear hr ht hq
  go_enter Tryz.func5, Tryz.ntmps5
  go_wp2_with fail
  refine HF.out.mono ?_
  rintro e w' ⟨rfl, rfl⟩
  go_wp2_with fail
  refine (tbawake_any _).mono ?_
  rintro e w' ⟨rfl, hb⟩
  go_wp2
  go_ret
  exact ⟨rfl, hb⟩
set_option maxHeartbeats 1000000 in
theorem tbfits_long (a : Option Addr) (len cap : Nat) (s t : List UInt8) (ws : List (List UInt8)) (w : World) (hr : IsStrs w a len ws) (hq : fewB ws 6 8 = true) (hs : 600 < s.length) :
    Calls Tryz.prog 5 #[.slice a len cap, .string ⟨s.toArray⟩, .string ⟨t.toArray⟩] w fun e w' => e = .returned (.bool true) ∧ Below w.heap.size w w' := by
  have hfw := (few_iff ws 6 8).1 hq
  have hwl := hr.1
  have HF := Lib.hid (few_no6 a len cap ws w (by omega) hr (fun t ht => by have := hfw.2 t ht; omega) _ hq)
  have HZ := Lib.hid (bsize s)
  have g1 : (600 : Int) < (s.length : Int) := by omega
  have g2 : decide ((600 : Int) < (s.length : Int)) = true := decide_eq_true g1
  clear hr hq hfw hwl
  go_enter Tryz.func5, Tryz.ntmps5
  go_wp2_with fail
  refine HF.out.mono ?_
  rintro e w' ⟨rfl, rfl⟩
  go_wp2_with fail
  refine (tbawake_any _).mono ?_
  rintro e w' ⟨rfl, hb⟩
  go_wp2
  go_ret
  exact ⟨rfl, hb⟩
set_option maxHeartbeats 1000000 in
theorem tbfits_wide (a : Option Addr) (len cap : Nat) (s t : List UInt8) (ws : List (List UInt8)) (w : World) (hr : IsStrs w a len ws) (hq : fewB ws 6 8 = true) (hs : s.length ≤ 600) (ht : 40 < t.length) :
    Calls Tryz.prog 5 #[.slice a len cap, .string ⟨s.toArray⟩, .string ⟨t.toArray⟩] w fun e w' => e = .returned (.bool true) ∧ Below w.heap.size w w' := by
  have hfw := (few_iff ws 6 8).1 hq
  have hwl := hr.1
  have HF := Lib.hid (few_no6 a len cap ws w (by omega) hr (fun t ht => by have := hfw.2 t ht; omega) _ hq)
  have HZ := Lib.hid (bsize s)
  have HZt := Lib.hid (bsize t)
  have g1 : ¬ (600 : Int) < (s.length : Int) := by omega
  have g2 : decide ((600 : Int) < (s.length : Int)) = false := decide_eq_false g1
  have g3 : (40 : Int) < (t.length : Int) := by omega
  have g4 : decide ((40 : Int) < (t.length : Int)) = true := decide_eq_true g3
  clear hr hq hfw hwl
  go_enter Tryz.func5, Tryz.ntmps5
  go_wp2_with fail
  refine HF.out.mono ?_
  rintro e w' ⟨rfl, rfl⟩
  go_wp2_with fail
  refine (tbawake_any _).mono ?_
  rintro e w' ⟨rfl, hb⟩
  go_wp2
  go_ret
  exact ⟨rfl, hb⟩

set_option maxRecDepth 100000 in
set_option maxHeartbeats 16000000 in
theorem tbfits_few (a : Option Addr) (len cap : Nat) (s t : List UInt8) (ws : List (List UInt8)) (w : World) (hr : IsStrs w a len ws) (hq : fewB ws 6 8 = true) (hs : s.length ≤ 600) (htl : t.length ≤ 40) :
    Calls Tryz.prog 5 #[.slice a len cap, .string ⟨s.toArray⟩, .string ⟨t.toArray⟩] w fun e w' => e = .returned (.bool true) ∧ Below w.heap.size w w' := by
  have hmx : Tryz.prog.follows .mixedOrders = true := by kernel_rfl
  have hwl := hr.1
  have hfw := (few_iff ws 6 8).1 hq
  have hlen : len ≤ 6 := by omega
  have HF := Lib.hid (few_no6 a len cap ws w (by omega) hr (fun t ht => by have := hfw.2 t ht; omega) _ hq)
  have HN := Lib.hid (ptnew_all a len cap ws w (by omega) hr (fun t ht => by have := hfw.2 t ht; omega))
  have HN2 := Lib.hid (fun (w2 : World) (hb : Below w.heap.size w w2) => rptnew_all a len cap ws w2 (by omega) (hr.below hb) (fun t ht => by have := hfw.2 t ht; omega))
  obtain ⟨hs1, hs2⟩ := few_setN hq
  have hasc := set_asc ws
  have HNd0 := Lib.hid (fun (w2 : World) (p : Option Addr) (h : IsPats w2 p (setL ws)) => pats_nodup h)
  generalize setL ws = us at *
  generalize faultL ws = f at HN HN2
  have htot := total_le hs2
  have hul : us.length ≤ 6 := hs1
  have HTot : Hid (totalL us ≤ 48) := Lib.hid (by
    have := Nat.mul_le_mul_right 8 hul
    omega)
  have HOf := Lib.hid (fun (W : World) (p : Option Addr) (h : IsPats W p us) (hn : us.Nodup) => tbof_any h hasc hn)
  have HFt := Lib.hid (fun (W : World) (p : Option Addr) (b : Nat) (own : List UInt8) (R : List (List Int)) (hT : IsTab W b own R) (h : IsPats W p us) (hn : us.Nodup) => tbfits_any hT h hasc hn)
  have HRf := Lib.hid (fun (W : World) (a2 : Option Addr) (cap2 : Nat) (h : IsStrs W a2 us.length us) => rtof_any a2 cap2 us W (by omega) h hasc (fun t ht => by have := hs2 t ht; omega) (by have := HTot.out; omega))
  have HStt := Lib.hid (fun (W : World) (a2 : Option Addr) (cap2 : Nat) (h : IsStrs W a2 us.length us) => rstates_any a2 us.length cap2 us W (by omega) h hasc (fun t ht => by have := hs2 t ht; omega) (by have := HTot.out; omega))
  have HTk := Lib.hid (fun W => tbtake_any s W (by omega))
  have HBk : Hid ((tbT s).1 = 0 → tbB (hdO s) (tbT s).2 = s) := Lib.hid (fun h => (tb_take h).2.2.1.symm)
  have HUs := Lib.hid hs2
  have HZ := Lib.hid (bsize s)
  have HZt := Lib.hid (bsize t)
  have q1 : ¬ (600 : Int) < (s.length : Int) := by omega
  have q2 : decide ((600 : Int) < (s.length : Int)) = false := decide_eq_false q1
  have q3 : ¬ (40 : Int) < (t.length : Int) := by omega
  have q4 : decide ((40 : Int) < (t.length : Int)) = false := decide_eq_false q3
  clear hr hq hfw hwl hs1 hs2 htot
  go_enter Tryz.func5, Tryz.ntmps5
  go_wp2_with fail
  refine HF.out.mono ?_
  rintro e w' ⟨rfl, hw⟩
  obtain rfl := hw.symm
  clear HF hw
  go_wp2_with fail
  refine HN.out.mono ?_
  rintro e w1 ⟨p, rfl, hp, d1⟩
  have e1 := d1.size
  have HN3 := Lib.hid (HN2.out w1 d1)
  have hn := HNd0.out w1 p hp
  have HP1 := Lib.hid hp
  clear HN HN2 hp HNd0 q1 q2 q3 q4
  go_wp2_with fail
  refine HN3.out.mono ?_
  rintro e w2 ⟨a2, cap2, rfl, hstr, hb2⟩
  have d2 := d1.trans (hb2.mono e1)
  have e2 := d2.size
  have HP2 := Lib.hid (HP1.out.below hb2)
  have T2 := Lib.hid hstr
  have HTk2 := Lib.hid (HTk.out w2)
  clear HN3 hb2 d1 e1 hstr HP1 HTk
  go_wp2_with fail
  refine HTk2.out.mono ?_
  rintro e wv ⟨hcase, hbv⟩
  have DV := Lib.hid (d2.trans (hbv.mono e2))
  have HPv := Lib.hid (HP2.out.below hbv)
  have Tv := Lib.hid (T2.out.below hbv)
  obtain ⟨S, hSt⟩ : ∃ S, IsSt us S := st_there us
  have HSt := Lib.hid hSt
  have HR0 := Lib.hid (st_first hSt)
  have HMem := Lib.hid (st_root hSt)
  have HNd := Lib.hid (slx_nodup hSt.1)
  have HCl := Lib.hid (st_closed hSt)
  have hSl : S.length ≤ 97 := by
    have := states_few (slx_nodup hSt.1) (us := us) fun q hq => (hSt.2 q).1 hq
    have := HTot.out
    omega
  have HG : Hid (GoodT (bcK us 256) (ofT us S)) := Lib.hid (of_good hSt (st_first hSt) (fun t ht => by have := HUs.out t ht; omega) (by omega))
  have HFit : Hid (fitT us S (bcK us 256) (ofT us S) = true) := Lib.hid ((fit_iff HG.out HG.out).2 ⟨rfl, rfl⟩)
  clear HTk2 hbv d2 e2 HP2 T2 hSt
  rcases hcase with ⟨h0, rfl⟩ | ⟨h0, b0, rfl, hT0⟩
  · generalize (tbT s).1 = x at *
    have g0 : (x == 0) = false := by simpa using h0
    have g1 : (x != 0) = true := by simpa using h0
    clear HRf HBk
    have HOx := Lib.hid (HOf.out wv p HPv.out hn)
    go_wp2_with fail
    refine HOx.out.mono ?_
    rintro e wx ⟨br, S5, rfl, hst5, _, _, hT5, hb5⟩
    obtain rfl : S = S5 := (hst5.unique HSt.out).symm
    have DX := Lib.hid (DV.out.trans (hb5.mono DV.out.size))
    have HPx := Lib.hid (HPv.out.below hb5)
    have Tx := Lib.hid (Tv.out.below hb5)
    have HIx := Lib.hid hT5
    clear HOx hb5 hst5 hT5 HPv Tv DV HOf
    have hStx := HStt.out wx a2 cap2 Tx.out
    have HSs := Lib.hid hStx
    go_wp2_with fail
    refine HSs.out.mono ?_
    rintro e wy ⟨S', a4, cap4, rfl, hst', hstr4, hb4⟩
    obtain rfl : S = S' := (hst'.unique HSt.out).symm
    have dy := DX.out.trans (hb4.mono DX.out.size)
    have HPy := Lib.hid (HPx.out.below hb4)
    have HIy := Lib.hid (HIx.out.below hb4)
    have HS4 := Lib.hid hstr4
    have DY := Lib.hid dy
    clear hStx HSs hst' hstr4 hb4 dy HPx HIx Tx DX HStt
    go_wp2_with fail
    go_loopw [14, 15] (fun x y wr => ∃ (k j q : Nat), k ≤ t.length ∧ y = .int .i64 k ∧ x = .int .i64 j ∧ Hid (S[j]? = some (lgL S (t.take k))) ∧ wr = wy.drewN q) (fun _ y _ => t.length - (RowKit.intOf y).toNat)
    case atStart => exact ⟨0, 0, 0, Nat.zero_le _, rfl, rfl, Lib.hid (by simpa [lgL] using HR0.out), rfl⟩
    case round =>
      obtain ⟨k, j, q, hk, rfl, rfl, hj, hwr⟩ := hrel
      subst hwr
      obtain ⟨wz, hwz⟩ : ∃ wz, wy.drewN q = wz := ⟨_, rfl⟩
      have HWz := Lib.hid hwz
      have HIz : Hid (IsTab wz br (bcK us 256) (ofT us S)) := Lib.hid (by rw [← hwz]; exact HIy.out.heap rfl)
      rw [hwz]
      by_cases hlt : k < t.length
      · have hzb : k < (⟨t.toArray⟩ : ByteArray).size := by rw [bsize]; omega
        have hb := byteAt t k (by omega) hzb
        have HSt2 := Lib.hid (tbstep_any HIz.out (j : Int) t[k])
        rw [of_stp HSt.out HR0.out hj.out t[k]] at HSt2
        have et : t.take (k + 1) = t.take k ++ [t[k]] := List.take_succ_eq_append_getElem hlt
        have HE := Lib.hid (show S[dnS S (lgL S (t.take k)) t[k]]? = some (lgL S (t.take (k + 1))) by
          rw [et, lg_snoc HCl.out]
          exact dn_at HNd.out HMem.out _ _)
        generalize dnS S (lgL S (t.take k)) t[k] = n at *
        generalize t[k] = x at *
        have g0 : (0 : Int) ≤ (k : Int) := by omega
        have g1 : (k : Int) < (t.length : Int) := by omega
        clear et hj hwz
        go_wp2_with fail
        refine HSt2.out.mono ?_
        rintro e w' ⟨rfl, q2, rfl⟩
        have HQ : Hid (wz.drewN q2 = wy.drewN (q + q2)) := Lib.hid (by rw [← HWz.out, World.drewN_drewN])
        clear HSt2
        go_wp2
        exact ⟨⟨k + 1, n, q + q2, by omega, by go_num, rfl, HE, HQ.out⟩, by simp [RowKit.intOf]; omega⟩
      · obtain rfl : k = t.length := by omega
        have hz : ¬ (t.length : Int) < (t.length : Int) := by omega
        have hjj := hj.out
        rw [List.take_length] at hjj
        have hjl := (List.getElem?_eq_some_iff.1 hjj).1
        have hb5 : Below wy.heap.size wy wz := by rw [← hwz]; exact below_drewS (Below.refl _ _) _
        have hSz := HS4.out.below hb5
        have hPz := HPy.out.below hb5
        have DZ := Lib.hid (DY.out.trans (hb5.mono DY.out.size))
        have G1 := regrown_at (w := wz) (fun W hW => (HFt.out W p br _ _ (HIz.out.below hW) (hPz.below hW) hn).mono fun e w' ⟨S3, he, hst3, hb⟩ => (⟨by rw [he, hst3.unique HSt.out], hb⟩ : e = .returned (.bool (fitT us S (bcK us 256) (ofT us S))) ∧ Below W.heap.size W w'))
        rw [HFit.out] at G1
        have G2 := regrown_at (w := wz) (v := .int .i64 (j : Int)) (fun W hW => (rlongest_any a4 S.length cap4 S t t.length W (by omega) (hSz.below hW) HMem.out (by omega) (Nat.le_refl _)).mono fun e w' ⟨h1, h2⟩ => ⟨by rw [h1, Nat.sub_self, List.drop_zero, ix_is HNd.out hjj], by rw [h2]; exact Below.refl _ _⟩)
        have G3 := regrown_at (w := wz) (fun W hW => drew_below (tbdepth_any (HIz.out.below hW) (j : Int)))
        rw [of_dpt hjj] at G3
        have G5 := regrown_at (w := wz) (fun W _ => tbawake_any W)
        obtain ⟨bS, oS, haS, tt, hft, hcS⟩ := str_at hSz (Below.refl _ _) j hjl
        obtain rfl : tt = lgL S t := Option.some.inj (hft.symm.trans hjj)
        subst haS
        have k0 := cell_regrown hcS
        have SL := Lib.hid (bsize (lgL S t))
        generalize lgL S t = u at *
        have g2 : (0 : Int) ≤ (j : Int) := by omega
        have g3 : (j : Int) < (S.length : Int) := by omega
        have r1 : ((j : Int) == (j : Int)) = true := by simp
        have r2 : ((u.length : Int) == (u.length : Int)) = true := by simp
        clear hj hjj hb5 hSz hPz hft hcS HIz hwz HFt HIy HPy HS4
        go_wp2_with fail
        refine wp_region_quiet_below hmx (by kernel_rfl) ?_
        repeat (go_big_quiet_step (first | with_reducible exact G1 _ _ | with_reducible exact G2 _ _ | with_reducible exact G3 _ _ | with_reducible exact G5 _ _))
        refine wpQuiet_nil ?_
        intro W6 hw6
        obtain ⟨⟨dq, osq⟩, rfl⟩ := hw6
        have b6 := below_regrown wz dq osq
        generalize Go.Sort.grow (redrawn wz dq) osq = w6 at b6 ⊢
        have HD6 := Lib.hid (DZ.out.trans (b6.mono DZ.out.size))
        clear b6
        go_wp2
        go_ret
        exact ⟨rfl, HD6.out⟩
  · have hgd := hT0.good
    have hB := HBk.out h0
    have hbf := tbB_few HG.out (by rw [ofT_length]; exact hSl)
    have hsq : fitT us S (hdO s) (tbT s).2 = (s == tbB (bcK us 256) (ofT us S)) := by
      rw [Bool.eq_iff_iff, fit_iff hgd HG.out]
      constructor
      · rintro ⟨h1, h2⟩
        rw [h1, h2] at hB
        rw [hB]; simp
      · intro h
        have he : s = tbB (bcK us 256) (ofT us S) := by simpa using h
        obtain ⟨_, _, _, t4, t5⟩ := tb_put HG.out
        rw [← he] at t4 t5
        exact ⟨t4, by rw [t5]⟩
    have HF1 := Lib.hid (HFt.out wv p b0 _ _ hT0 HPv.out hn)
    have HI0 := Lib.hid hT0
    have HSq := Lib.hid hsq
    have HGd := Lib.hid hgd
    have HRp := Lib.hid (fun (W : World) (v : Value) (h : IsRef W v (bcK us 256) ((ofT us S).map hdI) ((ofT us S).map List.tail)) => rtput_any h HG.out hbf)
    obtain ⟨own, hown⟩ : ∃ o, hdO s = o := ⟨_, rfl⟩
    obtain ⟨R, hR⟩ : ∃ R, (tbT s).2 = R := ⟨_, rfl⟩
    rw [hown, hR] at HF1 HI0 HSq HGd
    obtain ⟨φ, hφ⟩ : ∃ φ, fitT us S own R = φ := ⟨_, rfl⟩
    obtain ⟨Z, hZ⟩ : ∃ Z, tbB (bcK us 256) (ofT us S) = Z := ⟨_, rfl⟩
    rw [hφ, hZ] at HSq
    rw [hZ] at HRp
    have HPh := Lib.hid hφ
    have r0 : (s == Z) = φ := HSq.out.symm
    have r1 : (φ == φ) = true := by simp
    have r2 : (φ != φ) = false := by simp
    clear hT0 hgd hB hbf hsq hown hR hφ hZ HBk h0
    go_wp2_with fail
    refine HF1.out.mono ?_
    rintro e wA ⟨S6, rfl, hst6, hbA⟩
    obtain rfl : S = S6 := (hst6.unique HSt.out).symm
    rw [HPh.out]
    have DA := Lib.hid (DV.out.trans (hbA.mono DV.out.size))
    have HPA := Lib.hid (HPv.out.below hbA)
    have TA := Lib.hid (Tv.out.below hbA)
    have HIA := Lib.hid (HI0.out.below hbA)
    have HRA := Lib.hid (HRf.out wA a2 cap2 TA.out)
    clear HF1 hbA hst6 DV HPv Tv HI0 HRf
    go_wp2_with fail
    refine HRA.out.mono ?_
    rintro e wB ⟨v, S7, rfl, hst7, hI, hbB⟩
    obtain rfl : S = S7 := (hst7.unique HSt.out).symm
    have DB := Lib.hid (DA.out.trans (hbB.mono DA.out.size))
    have HPB := Lib.hid (HPA.out.below hbB)
    have TB := Lib.hid (TA.out.below hbB)
    have HIB := Lib.hid (HIA.out.below hbB)
    have HPtB := Lib.hid (HRp.out wB v hI)
    clear HRA hbB hst7 hI DA HPA TA HIA HRp
    go_wp2_with fail
    refine HPtB.out.mono ?_
    rintro e wC ⟨rfl, hbC⟩
    have DC := Lib.hid (DB.out.trans (hbC.mono DB.out.size))
    have HPC := Lib.hid (HPB.out.below hbC)
    have TC := Lib.hid (TB.out.below hbC)
    have HIC := Lib.hid (HIB.out.below hbC)
    have HF2 := Lib.hid (HFt.out wC p b0 _ _ HIC.out HPC.out hn)
    clear HPtB hbC DB HPB TB HIB
    go_wp2_with fail
    refine HF2.out.mono ?_
    rintro e wv ⟨S8, rfl, hst8, hbD⟩
    obtain rfl : S = S8 := (hst8.unique HSt.out).symm
    rw [HPh.out]
    have DV := Lib.hid (DC.out.trans (hbD.mono DC.out.size))
    have HPv := Lib.hid (HPC.out.below hbD)
    have Tv := Lib.hid (TC.out.below hbD)
    have HIv := Lib.hid (HIC.out.below hbD)
    clear HF2 hbD hst8 DC HPC TC HIC r0 r1 r2
    cases φ with
    | true =>
      obtain ⟨h1, h2⟩ := (fit_iff HGd.out HG.out).1 HPh.out
      have HIx : Hid (IsTab wv b0 (bcK us 256) (ofT us S)) := Lib.hid (by rw [← h1, ← h2]; exact HIv.out)
      clear HIv h1 h2
      obtain ⟨wx, hwx⟩ : ∃ wx, wx = wv := ⟨_, rfl⟩
      subst hwx
      have DX := DV
      have HPx := HPv
      have Tx := Tv
      clear DV HPv Tv HOf
      obtain ⟨br, hbr⟩ : ∃ br, br = b0 := ⟨_, rfl⟩
      subst hbr
      have hStx := HStt.out wx a2 cap2 Tx.out
      have HSs := Lib.hid hStx
      go_wp2_with fail
      refine HSs.out.mono ?_
      rintro e wy ⟨S', a4, cap4, rfl, hst', hstr4, hb4⟩
      obtain rfl : S = S' := (hst'.unique HSt.out).symm
      have dy := DX.out.trans (hb4.mono DX.out.size)
      have HPy := Lib.hid (HPx.out.below hb4)
      have HIy := Lib.hid (HIx.out.below hb4)
      have HS4 := Lib.hid hstr4
      have DY := Lib.hid dy
      clear hStx HSs hst' hstr4 hb4 dy HPx HIx Tx DX HStt
      go_wp2_with fail
      go_loopw [14, 15] (fun x y wr => ∃ (k j q : Nat), k ≤ t.length ∧ y = .int .i64 k ∧ x = .int .i64 j ∧ Hid (S[j]? = some (lgL S (t.take k))) ∧ wr = wy.drewN q) (fun _ y _ => t.length - (RowKit.intOf y).toNat)
      case atStart => exact ⟨0, 0, 0, Nat.zero_le _, rfl, rfl, Lib.hid (by simpa [lgL] using HR0.out), rfl⟩
      case round =>
        obtain ⟨k, j, q, hk, rfl, rfl, hj, hwr⟩ := hrel
        subst hwr
        obtain ⟨wz, hwz⟩ : ∃ wz, wy.drewN q = wz := ⟨_, rfl⟩
        have HWz := Lib.hid hwz
        have HIz : Hid (IsTab wz br (bcK us 256) (ofT us S)) := Lib.hid (by rw [← hwz]; exact HIy.out.heap rfl)
        rw [hwz]
        by_cases hlt : k < t.length
        · have hzb : k < (⟨t.toArray⟩ : ByteArray).size := by rw [bsize]; omega
          have hb := byteAt t k (by omega) hzb
          have HSt2 := Lib.hid (tbstep_any HIz.out (j : Int) t[k])
          rw [of_stp HSt.out HR0.out hj.out t[k]] at HSt2
          have et : t.take (k + 1) = t.take k ++ [t[k]] := List.take_succ_eq_append_getElem hlt
          have HE := Lib.hid (show S[dnS S (lgL S (t.take k)) t[k]]? = some (lgL S (t.take (k + 1))) by
            rw [et, lg_snoc HCl.out]
            exact dn_at HNd.out HMem.out _ _)
          generalize dnS S (lgL S (t.take k)) t[k] = n at *
          generalize t[k] = x at *
          have g0 : (0 : Int) ≤ (k : Int) := by omega
          have g1 : (k : Int) < (t.length : Int) := by omega
          clear et hj hwz
          go_wp2_with fail
          refine HSt2.out.mono ?_
          rintro e w' ⟨rfl, q2, rfl⟩
          have HQ : Hid (wz.drewN q2 = wy.drewN (q + q2)) := Lib.hid (by rw [← HWz.out, World.drewN_drewN])
          clear HSt2
          go_wp2
          exact ⟨⟨k + 1, n, q + q2, by omega, by go_num, rfl, HE, HQ.out⟩, by simp [RowKit.intOf]; omega⟩
        · obtain rfl : k = t.length := by omega
          have hz : ¬ (t.length : Int) < (t.length : Int) := by omega
          have hjj := hj.out
          rw [List.take_length] at hjj
          have hjl := (List.getElem?_eq_some_iff.1 hjj).1
          have hb5 : Below wy.heap.size wy wz := by rw [← hwz]; exact below_drewS (Below.refl _ _) _
          have hSz := HS4.out.below hb5
          have hPz := HPy.out.below hb5
          have DZ := Lib.hid (DY.out.trans (hb5.mono DY.out.size))
          have G1 := regrown_at (w := wz) (fun W hW => (HFt.out W p br _ _ (HIz.out.below hW) (hPz.below hW) hn).mono fun e w' ⟨S3, he, hst3, hb⟩ => (⟨by rw [he, hst3.unique HSt.out], hb⟩ : e = .returned (.bool (fitT us S (bcK us 256) (ofT us S))) ∧ Below W.heap.size W w'))
          rw [HFit.out] at G1
          have G2 := regrown_at (w := wz) (v := .int .i64 (j : Int)) (fun W hW => (rlongest_any a4 S.length cap4 S t t.length W (by omega) (hSz.below hW) HMem.out (by omega) (Nat.le_refl _)).mono fun e w' ⟨h1, h2⟩ => ⟨by rw [h1, Nat.sub_self, List.drop_zero, ix_is HNd.out hjj], by rw [h2]; exact Below.refl _ _⟩)
          have G3 := regrown_at (w := wz) (fun W hW => drew_below (tbdepth_any (HIz.out.below hW) (j : Int)))
          rw [of_dpt hjj] at G3
          have G5 := regrown_at (w := wz) (fun W _ => tbawake_any W)
          obtain ⟨bS, oS, haS, tt, hft, hcS⟩ := str_at hSz (Below.refl _ _) j hjl
          obtain rfl : tt = lgL S t := Option.some.inj (hft.symm.trans hjj)
          subst haS
          have k0 := cell_regrown hcS
          have SL := Lib.hid (bsize (lgL S t))
          generalize lgL S t = u at *
          have g2 : (0 : Int) ≤ (j : Int) := by omega
          have g3 : (j : Int) < (S.length : Int) := by omega
          have r1 : ((j : Int) == (j : Int)) = true := by simp
          have r2 : ((u.length : Int) == (u.length : Int)) = true := by simp
          clear hj hjj hb5 hSz hPz hft hcS HIz hwz HFt HIy HPy HS4
          go_wp2_with fail
          refine wp_region_quiet_below hmx (by kernel_rfl) ?_
          repeat (go_big_quiet_step (first | with_reducible exact G1 _ _ | with_reducible exact G2 _ _ | with_reducible exact G3 _ _ | with_reducible exact G5 _ _))
          refine wpQuiet_nil ?_
          intro W6 hw6
          obtain ⟨⟨dq, osq⟩, rfl⟩ := hw6
          have b6 := below_regrown wz dq osq
          generalize Go.Sort.grow (redrawn wz dq) osq = w6 at b6 ⊢
          have HD6 := Lib.hid (DZ.out.trans (b6.mono DZ.out.size))
          clear b6
          go_wp2
          go_ret
          exact ⟨rfl, HD6.out⟩
    | false =>
      clear HIv
      have HOx := Lib.hid (HOf.out wv p HPv.out hn)
      go_wp2_with fail
      refine HOx.out.mono ?_
      rintro e wx ⟨br, S5, rfl, hst5, _, _, hT5, hb5⟩
      obtain rfl : S = S5 := (hst5.unique HSt.out).symm
      have DX := Lib.hid (DV.out.trans (hb5.mono DV.out.size))
      have HPx := Lib.hid (HPv.out.below hb5)
      have Tx := Lib.hid (Tv.out.below hb5)
      have HIx := Lib.hid hT5
      clear HOx hb5 hst5 hT5 HPv Tv DV HOf
      have hStx := HStt.out wx a2 cap2 Tx.out
      have HSs := Lib.hid hStx
      go_wp2_with fail
      refine HSs.out.mono ?_
      rintro e wy ⟨S', a4, cap4, rfl, hst', hstr4, hb4⟩
      obtain rfl : S = S' := (hst'.unique HSt.out).symm
      have dy := DX.out.trans (hb4.mono DX.out.size)
      have HPy := Lib.hid (HPx.out.below hb4)
      have HIy := Lib.hid (HIx.out.below hb4)
      have HS4 := Lib.hid hstr4
      have DY := Lib.hid dy
      clear hStx HSs hst' hstr4 hb4 dy HPx HIx Tx DX HStt
      go_wp2_with fail
      go_loopw [14, 15] (fun x y wr => ∃ (k j q : Nat), k ≤ t.length ∧ y = .int .i64 k ∧ x = .int .i64 j ∧ Hid (S[j]? = some (lgL S (t.take k))) ∧ wr = wy.drewN q) (fun _ y _ => t.length - (RowKit.intOf y).toNat)
      case atStart => exact ⟨0, 0, 0, Nat.zero_le _, rfl, rfl, Lib.hid (by simpa [lgL] using HR0.out), rfl⟩
      case round =>
        obtain ⟨k, j, q, hk, rfl, rfl, hj, hwr⟩ := hrel
        subst hwr
        obtain ⟨wz, hwz⟩ : ∃ wz, wy.drewN q = wz := ⟨_, rfl⟩
        have HWz := Lib.hid hwz
        have HIz : Hid (IsTab wz br (bcK us 256) (ofT us S)) := Lib.hid (by rw [← hwz]; exact HIy.out.heap rfl)
        rw [hwz]
        by_cases hlt : k < t.length
        · have hzb : k < (⟨t.toArray⟩ : ByteArray).size := by rw [bsize]; omega
          have hb := byteAt t k (by omega) hzb
          have HSt2 := Lib.hid (tbstep_any HIz.out (j : Int) t[k])
          rw [of_stp HSt.out HR0.out hj.out t[k]] at HSt2
          have et : t.take (k + 1) = t.take k ++ [t[k]] := List.take_succ_eq_append_getElem hlt
          have HE := Lib.hid (show S[dnS S (lgL S (t.take k)) t[k]]? = some (lgL S (t.take (k + 1))) by
            rw [et, lg_snoc HCl.out]
            exact dn_at HNd.out HMem.out _ _)
          generalize dnS S (lgL S (t.take k)) t[k] = n at *
          generalize t[k] = x at *
          have g0 : (0 : Int) ≤ (k : Int) := by omega
          have g1 : (k : Int) < (t.length : Int) := by omega
          clear et hj hwz
          go_wp2_with fail
          refine HSt2.out.mono ?_
          rintro e w' ⟨rfl, q2, rfl⟩
          have HQ : Hid (wz.drewN q2 = wy.drewN (q + q2)) := Lib.hid (by rw [← HWz.out, World.drewN_drewN])
          clear HSt2
          go_wp2
          exact ⟨⟨k + 1, n, q + q2, by omega, by go_num, rfl, HE, HQ.out⟩, by simp [RowKit.intOf]; omega⟩
        · obtain rfl : k = t.length := by omega
          have hz : ¬ (t.length : Int) < (t.length : Int) := by omega
          have hjj := hj.out
          rw [List.take_length] at hjj
          have hjl := (List.getElem?_eq_some_iff.1 hjj).1
          have hb5 : Below wy.heap.size wy wz := by rw [← hwz]; exact below_drewS (Below.refl _ _) _
          have hSz := HS4.out.below hb5
          have hPz := HPy.out.below hb5
          have DZ := Lib.hid (DY.out.trans (hb5.mono DY.out.size))
          have G1 := regrown_at (w := wz) (fun W hW => (HFt.out W p br _ _ (HIz.out.below hW) (hPz.below hW) hn).mono fun e w' ⟨S3, he, hst3, hb⟩ => (⟨by rw [he, hst3.unique HSt.out], hb⟩ : e = .returned (.bool (fitT us S (bcK us 256) (ofT us S))) ∧ Below W.heap.size W w'))
          rw [HFit.out] at G1
          have G2 := regrown_at (w := wz) (v := .int .i64 (j : Int)) (fun W hW => (rlongest_any a4 S.length cap4 S t t.length W (by omega) (hSz.below hW) HMem.out (by omega) (Nat.le_refl _)).mono fun e w' ⟨h1, h2⟩ => ⟨by rw [h1, Nat.sub_self, List.drop_zero, ix_is HNd.out hjj], by rw [h2]; exact Below.refl _ _⟩)
          have G3 := regrown_at (w := wz) (fun W hW => drew_below (tbdepth_any (HIz.out.below hW) (j : Int)))
          rw [of_dpt hjj] at G3
          have G5 := regrown_at (w := wz) (fun W _ => tbawake_any W)
          obtain ⟨bS, oS, haS, tt, hft, hcS⟩ := str_at hSz (Below.refl _ _) j hjl
          obtain rfl : tt = lgL S t := Option.some.inj (hft.symm.trans hjj)
          subst haS
          have k0 := cell_regrown hcS
          have SL := Lib.hid (bsize (lgL S t))
          generalize lgL S t = u at *
          have g2 : (0 : Int) ≤ (j : Int) := by omega
          have g3 : (j : Int) < (S.length : Int) := by omega
          have r1 : ((j : Int) == (j : Int)) = true := by simp
          have r2 : ((u.length : Int) == (u.length : Int)) = true := by simp
          clear hj hjj hb5 hSz hPz hft hcS HIz hwz HFt HIy HPy HS4
          go_wp2_with fail
          refine wp_region_quiet_below hmx (by kernel_rfl) ?_
          repeat (go_big_quiet_step (first | with_reducible exact G1 _ _ | with_reducible exact G2 _ _ | with_reducible exact G3 _ _ | with_reducible exact G5 _ _))
          refine wpQuiet_nil ?_
          intro W6 hw6
          obtain ⟨⟨dq, osq⟩, rfl⟩ := hw6
          have b6 := below_regrown wz dq osq
          generalize Go.Sort.grow (redrawn wz dq) osq = w6 at b6 ⊢
          have HD6 := Lib.hid (DZ.out.trans (b6.mono DZ.out.size))
          clear b6
          go_wp2
          go_ret
          exact ⟨rfl, HD6.out⟩
end Go.Proofs.YtpblllpgmibkoaaGreat
