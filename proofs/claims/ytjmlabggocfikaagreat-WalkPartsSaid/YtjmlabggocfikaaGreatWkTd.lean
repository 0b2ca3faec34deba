/-
  The law WalkParts, of few bytes: walked.
-/
import Derived.Test.YtjmlabggocfikaaGreatWkTc
set_option linter.unusedSimpArgs false
set_option linter.unusedVariables false
namespace Go.Proofs.YtjmlabggocfikaaGreat
open Go.RowKit

set_option maxRecDepth 100000 in
set_option maxHeartbeats 16000000 in
theorem wkparts_good (a : Option Addr) (len cap : Nat) (kind : Int) (s : List UInt8) (na : Option Addr) (nlen ncap : Nat) (zs : List Int) (more : List UInt8) (ws : List (List UInt8)) (w : World) (hr : IsStrs w a len ws) (hq : fewB ws 8 12 = true)
    (hs : s.length ≤ 80) (hn : nlen ≤ 50) (hrow : IsRow .i64 w na nlen ncap zs) (hm : more.length ≤ 80) :
    Calls Tryz.prog 4 #[.slice a len cap, .int .i64 kind, .string ⟨s.toArray⟩, .slice na nlen ncap, .string ⟨more.toArray⟩] w fun e w' => e = .returned (.bool true) ∧ Below w.heap.size w w' := by
  have hwl := hr.1
  have hfw := (few_iff ws 8 12).1 hq
  have HF := Lib.hid (few_no8 a len cap ws w (by omega) hr (fun t ht => by have := hfw.2 t ht; omega) _ hq)
  have HN := Lib.hid (ptnew_all a len cap ws w (by omega) hr (fun t ht => by have := hfw.2 t ht; omega))
  have HRN := Lib.hid (fun (W : World) (hW : Below w.heap.size w W) => rptnew_all a len cap ws W (by omega) (hr.below hW) (fun t ht => by have := hfw.2 t ht; omega))
  have HCt := Lib.hid (fun (W : World) (hW : Below w.heap.size w W) => rcut_any s na nlen ncap zs W (by omega) (by omega) (hrow.below hW))
  obtain ⟨hs1, hs2⟩ := few_setN hq
  have htot := total_le hs2
  obtain ⟨c, hc1, hc2⟩ : ∃ c : Nat, c ≤ 1 ∧ bits .and .i64 kind 1 = (c : Int) := mask_at kind 1 (by omega)
  have HNw := Lib.hid (fun (w2 : World) (p : Option Addr) (h : IsPats w2 p (setL ws)) => wknew_set h (by omega) (1 + (c : Int)) (by omega))
  have HU := Lib.hid hs2
  have HPos := Lib.hid (fun t (h : t ∈ setL ws) => (show 0 < t.length by have := (set_mem h).2; omega))
  generalize setL ws = us at *
  generalize faultL ws = f at HN HRN
  have hul : us.length ≤ 8 := hs1
  have HPf : Hid ((cutL s (zs.take nlen)).flatten = s) := Lib.hid (cutL_flat _ _)
  have hPl : (cutL s (zs.take nlen)).length ≤ 51 := by
    have := cutL_few s (zs.take nlen)
    rw [List.length_take] at this
    omega
  generalize cutL s (zs.take nlen) = P at *
  have S1 := Lib.hid (bsize s)
  have S2 := Lib.hid (bsize more)
  have k1 : decide ((80 : Int) < (s.length : Int)) = false := decide_eq_false (by omega)
  have k2 : decide ((50 : Int) < (nlen : Int)) = false := decide_eq_false (by omega)
  have k3 : decide ((80 : Int) < (more.length : Int)) = false := decide_eq_false (by omega)
  obtain ⟨i0, hi, hz0, hz1, hz2⟩ := info_parts hit_info
  clear hr hq hfw hwl hs1 hs2 htot hrow
  go_enter Tryz.func4, Tryz.ntmps4
  go_wp2_with fail
  refine HF.out.mono ?_
  rintro e w' ⟨rfl, hw⟩
  obtain rfl := hw.symm
  clear HF hw
  go_wp2_with fail
  refine HN.out.mono ?_
  rintro e w1 ⟨p, rfl, hpx, d1⟩
  have R1 := Lib.hid (HRN.out w1 d1)
  clear HN HRN
  go_wp2_with fail
  refine R1.out.mono ?_
  rintro e w2 ⟨ra, rc, rfl, hrs, hb2⟩
  have d2 := d1.trans (hb2.mono d1.size)
  have R2 := Lib.hid (HNw.out w2 p (hpx.below hb2))
  have HRS := Lib.hid hrs
  have HD2 := Lib.hid d2
  clear R1 HNw hb2 d1 hrs hpx d2
  go_wp2_with fail
  refine R2.out.mono ?_
  rintro e w3 ⟨b, S, rfl, hwb, hT3, hb3⟩
  obtain ⟨hst, hs0⟩ := hT3.st
  have HT3 := Lib.hid hT3
  have HB3 := Lib.hid hb3
  have HST := Lib.hid hst
  have HS0 := Lib.hid hs0
  have R3 := Lib.hid (HCt.out w3 (HD2.out.trans (hb3.mono HD2.out.size)))
  clear R2 hT3 hb3 hst hs0 HCt
  go_wp2_with fail
  refine R3.out.mono ?_
  rintro e w4 ⟨qa, qc, rfl, hps, hb4⟩
  have HPs := Lib.hid hps
  have HT4 := Lib.hid (HT3.out.below hb4)
  have HB4 := Lib.hid (HB3.out.trans (hb4.mono HB3.out.size))
  have hb4l := HT4.out.lt
  have HH0 : Hid (hitL us [] = []) := Lib.hid (hit_none HPos.out)
  clear R3 hps hb4 HT3 HB3
  go_wp2
  go_loopw [17, 19] (fun v vi wr => ∃ (i m : Nat) (u : List UInt8), i ≤ P.length ∧ vi = .int .i64 i ∧ Hid ((P.take i).flatten = u) ∧ (hitL us u).length = m ∧ u.length ≤ 80 ∧ wr.ownsRow w4.heap.size 48 2 v m (hiCells (hitL us u)) ∧ Hid (IsWalk wr b p us S (1 + (c : Int)) (auR S 0 u) u.length m) ∧ But w4.heap.size b w4 wr) (fun _ vi _ => P.length - (RowKit.intOf vi).toNat)
  case atStart => exact ⟨0, 0, [], Nat.zero_le _, rfl, Lib.hid rfl, by rw [HH0.out]; rfl, Nat.zero_le _, by rw [HH0.out]; exact World.ownsRow_nil _ _ _ _, HT4, But.refl _ _ _⟩
  case round =>
    obtain ⟨i, m, u, hi2, rfl, HPu, hmu, hul2, hown, HI, hbt⟩ := hrel
    have hsz := hbt.size
    have hml : m ≤ 1000 := by
      have h1 := hitK_length us u (u.length + 1)
      have h2 : (u.length + 1) * us.length ≤ 81 * 8 := Nat.mul_le_mul (by omega) (by omega)
      rw [← hmu]
      unfold hitL
      omega
    by_cases hlt : i < P.length
    · obtain ⟨qb, off, rfl, t, hf, hc⟩ := str_at (strs_but HPs.out HT4.out hbt) (Below.refl _ _) i hlt
      have htl := part_len HPf.out (List.mem_of_getElem? hf)
      have HFd := Lib.hid (wkfeed_any HI.out t (by omega) (by omega) (by omega) (by omega))
      have HPn : Hid ((P.take (i + 1)).flatten = u ++ t) := Lib.hid (by rw [parts_next hf, HPu.out])
      have hzl : (u ++ t).length ≤ 80 := by
        have := parts_len HPf.out (i + 1)
        rw [HPn.out] at this
        omega
      have HHi := Lib.hid (fd_hits HST.out HS0.out u t)
      rw [← auR_app, ← List.length_append] at HFd
      have hLf := fdL_few us S (auR S 0 u) u.length t
      have hLm : t.length * us.length ≤ 80 * 8 := Nat.mul_le_mul (by omega) (by omega)
      generalize fdL us S (auR S 0 u) u.length t = L at *
      have hLl : L.length ≤ 640 := by omega
      have HML : Hid ((hitL us (u ++ t)).length = m + L.length) := Lib.hid (by rw [← HHi.out, List.length_append, hmu])
      generalize u ++ t = z at *
      have ST := Lib.hid (bsize t)
      have g0 : (0 : Int) ≤ (i : Int) := by omega
      have g1 : (i : Int) < (P.length : Int) := by omega
      have HBt := Lib.hid hbt
      have HOw := Lib.hid hown
      obtain ⟨av, cv, rfl⟩ := owns_hslice hown
      clear hf hbt hown hLf hLm
      go_wp2_with fail
      refine HFd.out.mono ?_
      rintro e w5 ⟨v5, rfl, ho5, hT5, hb5⟩
      have hO5 := hb5.owns (Nat.le_refl _) hb4l HOw.out
      have HB5 := Lib.hid (HBt.out.trans ⟨hb5.os, hb5.tape, hb5.output, hb5.size, fun k hk hne => hb5.block k (by omega) hne⟩)
      have hsz5 := hb5.size
      have hc5 := ho5.2
      have HT5 := Lib.hid hT5
      clear hb5 HFd HI HBt HOw hT5
      rcases hc5 with ⟨rfl, hL0⟩ | ⟨g, cg, cur, rfl, _⟩
      · have hL0' : L = [] := List.eq_nil_of_length_eq_zero hL0
        have HO5 : Hid (w5.ownsRow w4.heap.size 48 2 (.slice av m cv) m (hiCells (hitL us z))) := Lib.hid (by rw [← HHi.out, hL0', List.append_nil]; exact hO5)
        have HM0 : Hid ((hitL us z).length = m) := Lib.hid (by rw [HML.out, hL0]; rfl)
        rw [hL0] at HT5
        clear hL0' ho5 HML HHi hL0 hO5
        go_wp2_with (at_builtin; refine wpList_append_no _ rfl _ _ 34 rfl w4.heap.size 48 i0 2 Tryz.underlying34 hi hz1 (.slice av m cv) m (hiCells (hitL us z)) rfl HO5.out rfl ?_)
        go_wp2
        exact ⟨⟨i + 1, m, z, by omega, by go_num, HPn, HM0.out, hzl, HO5.out, HT5, HB5.out⟩, by simp [RowKit.intOf]; omega⟩
      · have hcs := ho5.cells (g := g) rfl
        have HB5w := Lib.hid (HB5.out.size)
        clear ho5
        go_wp2_with (at_builtin; refine wpList_append_own _ rfl _ _ 34 rfl w4.heap.size 48 i0 (.agg #[.int .i64 0, .int .i64 0]) 2 16 Tryz.underlying34 hi hz0 hz1 hz2 rfl (by decide) _ _ _ rfl hO5 ⟨g, 0, none⟩ L.length cg (hiCells L) rfl (hiCells_length L) hcs (hi_one L) (by unfold maxLen; omega) (by omega) (by omega) ?_)
        intro v6 w6 hown6 hgrow _
        have hbg := grown_below (by omega) hO5 hgrow
        have HO6 : Hid (w6.ownsRow w4.heap.size 48 2 v6 (m + L.length) (hiCells (hitL us z))) := Lib.hid (by rw [← HHi.out, hiCells_app]; exact hown6)
        have HT6 := Lib.hid (HT5.out.upto hb4l hbg)
        have HB6 := Lib.hid (HB5.out.trans (But.of hbg))
        clear hcs hgrow hown6 hbg hO5 HT5 HB5
        go_wp2
        exact ⟨⟨i + 1, m + L.length, z, by omega, by go_num, HPn, HML.out, hzl, HO6.out, HT6, HB6.out⟩, by simp [RowKit.intOf]; omega⟩
    · obtain rfl : i = P.length := by omega
      have hz3 : ¬ (P.length : Int) < (P.length : Int) := by omega
      obtain rfl : u = s := by
        have := HPu.out
        rw [List.take_length, HPf.out] at this
        exact this.symm
      have HBr := Lib.hid (HB4.out.trans (hbt.belowTo hwb HB4.out.size))
      obtain ⟨av, cv, rfl, hhv⟩ := owns_hits hown hmu
      have HAl := Lib.hid (rall_any ra us.length rc us u wr (by omega) (HRS.out.below HBr.out) (fun x hx => by have := HU.out x hx; omega) (by omega))
      have HLe := Lib.hid (fun (W : World) (hW : Below w2.heap.size w2 W) => rptleast_any ra us.length rc us W (by omega) (HRS.out.below hW) (fun x hx => by have := HU.out x hx; omega))
      have HDp := Lib.hid (wk_depth HST.out HS0.out u)
      have hol := lg_len S u
      have hLt := leastR_few HU.out
      have HH := Lib.hid hhv
      clear hown hbt hhv
      go_wp2_with fail
      refine HAl.out.mono ?_
      intro e w6 hr6
      obtain ⟨a6, c6, rfl, hh6, hb6⟩ := hr6.use
      rw [hmu] at hh6 ⊢
      have HQ := Lib.hid (hsame_any av a6 m cv c6 (hitL us u) w6 (by omega) (HH.out.below hb6) hh6)
      have HT6 := Lib.hid (HI.out.below hb6)
      have d6 := HBr.out.trans (hb6.mono HBr.out.size)
      clear hr6 hh6 hb6 HH HI HAl HBr
      go_wp2_with fail
      refine HQ.out.mono ?_
      rintro e w7 ⟨rfl, hb7⟩
      have d7 := d6.trans (hb7.mono d6.size)
      have HT7 := Lib.hid (HT6.out.below hb7)
      have HHi := Lib.hid (wkhits_any HT7.out)
      have HL7 := Lib.hid (HLe.out w7 d7)
      have HC7 := Lib.hid (wkclear_any HT7.out (leastR us : Int) (by omega) (by rw [HDp.out]; omega))
      rw [HDp.out, clrZ_nat] at HC7
      have hNl := clr_le (leastR us) (lgL S u).length
      obtain ⟨N, hN⟩ : ∃ N, clrN (leastR us) (lgL S u).length = N := ⟨_, rfl⟩
      rw [hN] at HC7 hNl
      have HN2 := Lib.hid hN
      have r1 : ((m : Int) != (m : Int)) = false := by simp
      have q1 : decide ((N : Int) < 0) = false := decide_eq_false (by omega)
      have q2 : decide ((20 : Int) < (N : Int)) = false := decide_eq_false (by omega)
      have q3 : ¬ (N : Int) < 0 := by omega
      have q4 : ¬ (20 : Int) < (N : Int) := by omega
      clear hb7 HT6 HQ d6 HLe hN
      go_wp2_with fail
      refine HHi.out.mono ?_
      rintro e w' ⟨rfl, hw⟩
      obtain rfl := hw.symm
      clear hw HHi
      go_wp2_with fail
      refine HL7.out.mono ?_
      rintro e w' ⟨rfl, hw⟩
      obtain rfl := hw.symm
      clear hw HL7
      go_wp2_with fail
      refine HC7.out.mono ?_
      rintro e w8 ⟨rfl, hb8⟩
      have d8 := d7.trans (hb8.mono d7.size)
      have HT8 := Lib.hid (HT7.out.below hb8)
      clear hb8 HT7 HC7 d7
      by_cases hq : more.length < N
      · have z1 : (more.length : Int) < (N : Int) := by omega
        have x1 : (⟨more.toArray⟩ : ByteArray).extract 0 more.length = ⟨more.toArray⟩ := by rw [ext_cut, List.take_length]; rfl
        have y0 : (0 : Int) ≤ (more.length : Int) := by omega
        have HFd := Lib.hid (wkfeed_any HT8.out more (by omega) (by omega) (by omega) (by omega))
        rw [clr_fd HST.out HS0.out u (by have := HN2.out; omega)] at HFd
        clear HT8
        go_wp2_with fail
        refine HFd.out.mono ?_
        rintro e w9 ⟨v9, rfl, ho9, hT9, hb9⟩
        obtain ⟨a9, c9, rfl⟩ := owns_hslice ho9
        have d9 := d8.trans (hb9.belowTo hwb d8.size)
        have HAw := Lib.hid (wkawake_any w9)
        clear HFd ho9 hT9 hb9 d8
        go_wp2_with fail
        refine HAw.out.mono ?_
        rintro e w10 ⟨rfl, hb10⟩
        have d10 := HD2.out.trans ((d9.trans (hb10.mono d9.size)).mono HD2.out.size)
        clear hb10 d9
        go_wp2
        go_ret
        exact ⟨rfl, d10⟩
      · have z1 : ¬ (more.length : Int) < (N : Int) := by omega
        have x1 : (⟨more.toArray⟩ : ByteArray).extract 0 N = ⟨(more.take N).toArray⟩ := by rw [ext_cut]; rfl
        have y0 : (0 : Int) ≤ (N : Int) := by omega
        have y1 : (N : Int) ≤ (more.length : Int) := by omega
        have HFd := Lib.hid (wkfeed_any HT8.out (more.take N) (by rw [List.length_take]; omega) (by omega) (by omega) (by omega))
        rw [clr_fd HST.out HS0.out u (by rw [List.length_take]; have := HN2.out; omega)] at HFd
        clear HT8
        go_wp2_with fail
        refine HFd.out.mono ?_
        rintro e w9 ⟨v9, rfl, ho9, hT9, hb9⟩
        obtain ⟨a9, c9, rfl⟩ := owns_hslice ho9
        have d9 := d8.trans (hb9.belowTo hwb d8.size)
        have HAw := Lib.hid (wkawake_any w9)
        clear HFd ho9 hT9 hb9 d8
        go_wp2_with fail
        refine HAw.out.mono ?_
        rintro e w10 ⟨rfl, hb10⟩
        have d10 := HD2.out.trans ((d9.trans (hb10.mono d9.size)).mono HD2.out.size)
        clear hb10 d9
        go_wp2
        go_ret
        exact ⟨rfl, d10⟩
end Go.Proofs.YtjmlabggocfikaaGreat
