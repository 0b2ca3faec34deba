/-
  The law WalkFeeds, of few texts, a kind that there is: walked.
-/
import Derived.Test.YtjmlabggocfikaaGreatWkTa
set_option linter.unusedSimpArgs false
set_option linter.unusedVariables false
namespace Go.Proofs.YtjmlabggocfikaaGreat
open Go.RowKit

set_option maxRecDepth 100000 in
set_option maxHeartbeats 16000000 in
theorem wkfeeds_good (a : Option Addr) (len cap : Nat) (kind : Int) (pa : Option Addr) (plen pcap : Nat) (least : Int) (ws ps : List (List UInt8)) (w : World) (hr : IsStrs w a len ws) (hq : fewB ws 8 12 = true)
    (hp : IsStrs w pa plen ps) (hpq : fewB ps 10 20 = true) (hk : kind = 1 ∨ kind = 2 ∨ kind = 3) (hl2 : least ≤ 9223372036854775807) :
    Calls Tryz.prog 3 #[.slice a len cap, .int .i64 kind, .slice pa plen pcap, .int .i64 least] w fun e w' => e = .returned (.bool true) ∧ Below w.heap.size w w' := by
  have hwl := hr.1
  have hpl := hp.1
  have hfw := (few_iff ws 8 12).1 hq
  have hfp := (few_iff ps 10 20).1 hpq
  have hplen : plen ≤ 10 := by omega
  have HF := Lib.hid (few_no8 a len cap ws w (by omega) hr (fun t ht => by have := hfw.2 t ht; omega) _ hq)
  have HF2 := Lib.hid (few_no10 pa plen pcap ps w (by omega) hp (fun t ht => by have := hfp.2 t ht; omega) _ hpq)
  have HN := Lib.hid (ptnew_all a len cap ws w (by omega) hr (fun t ht => by have := hfw.2 t ht; omega))
  have HRN := Lib.hid (fun (W : World) (hW : Below w.heap.size w W) => rptnew_all a len cap ws W (by omega) (hr.below hW) (fun t ht => by have := hfw.2 t ht; omega))
  obtain ⟨hs1, hs2⟩ := few_setN hq
  have htot := total_le hs2
  have HNw := Lib.hid (fun (w2 : World) (p : Option Addr) (h : IsPats w2 p (setL ws)) => wknew_set h (by omega) kind hk)
  have HU := Lib.hid hs2
  generalize setL ws = us at *
  generalize faultL ws = f at HN HRN
  have HP := Lib.hid hp
  have HT := Lib.hid hfp.2
  have hul : us.length ≤ 8 := hs1
  have k1 : ¬ kind < 1 := by omega
  have k2 : decide (kind < 1) = false := decide_eq_false k1
  have k3 : ¬ 3 < kind := by omega
  have k4 : decide (3 < kind) = false := decide_eq_false k3
  clear hr hq hp hpq hfw hfp hwl hs1 hs2 htot hk
  go_enter Tryz.func3, Tryz.ntmps3
  go_wp2_with fail
  refine HF.out.mono ?_
  rintro e w' ⟨rfl, hw⟩
  obtain rfl := hw.symm
  clear HF hw
  go_wp2_with fail
  refine HF2.out.mono ?_
  rintro e w' ⟨rfl, hw⟩
  obtain rfl := hw.symm
  clear HF2 hw
  go_wp2_with fail
  refine HN.out.mono ?_
  rintro e w1 ⟨p, rfl, hpx, d1⟩
  have R1 := Lib.hid (HRN.out w1 d1)
  clear HN HRN
  go_wp2_with fail
  refine R1.out.mono ?_
  rintro e w2 ⟨ra, rc, rfl, hrs, hb2⟩
  have d2 := d1.trans (hb2.mono d1.size)
  have R2 := Lib.hid (HNw.out w2 p (hpx.below hb2))
  have HRS := Lib.hid hrs
  have HD2 := Lib.hid d2
  clear R1 HNw hb2 d1 hrs hpx d2
  go_wp2_with fail
  refine R2.out.mono ?_
  rintro e w3 ⟨b, S, rfl, hwb, hT3, hb3⟩
  obtain ⟨hst, hs0⟩ := hT3.st
  have HT3 := Lib.hid hT3
  have HB3 := Lib.hid hb3
  have HST := Lib.hid hst
  have HS0 := Lib.hid hs0
  clear R2 hT3 hb3 hst hs0
  go_wp2
  go_loopw [15, 16, 17] (fun vs vn vi wr => ∃ (i m : Nat) (u : List UInt8), i ≤ plen ∧ vi = .int .i64 i ∧ vs = .string ⟨u.toArray⟩ ∧ vn = .int .i64 m ∧ u.length ≤ 20 * i ∧ m ≤ 160 * i ∧ Hid (IsWalk wr b p us S kind (auR S 0 u) u.length m) ∧ Below w2.heap.size w2 wr) (fun _ _ vi _ => plen - (RowKit.intOf vi).toNat)
  case atStart => exact ⟨0, 0, [], Nat.zero_le _, rfl, rfl, rfl, Nat.zero_le _, Nat.zero_le _, HT3, HB3.out⟩
  case round =>
    clear HT3 HB3
    obtain ⟨i, m, u, hi, rfl, rfl, rfl, hul2, hml, HI, hbe⟩ := hrel
    have hsz := hbe.size
    by_cases hlt : i < plen
    · have HBw := Lib.hid (fun (W : World) (hW : Below w2.heap.size w2 W) => (HD2.out.trans (hW.mono HD2.out.size) : Below w.heap.size w W))
      obtain ⟨pb, off, rfl, t, hf, hc⟩ := str_at HP.out (HBw.out _ hbe) i hlt
      have htl := HT.out t (List.mem_of_getElem? hf)
      have hpb := World.block_lt_of_cell? wr _ hc
      have hfd := fdL_few us S (auR S 0 u) u.length t
      have hfl : t.length * us.length ≤ 20 * 8 := Nat.mul_le_mul htl hul
      have HFd := Lib.hid (wkfeed_any HI.out t (by omega) (by omega) (by omega) (by omega))
      have HAf := Lib.hid (fd_aft HST.out HS0.out u t)
      rw [← auR_app] at HFd
      obtain ⟨z, hz⟩ : ∃ z, u ++ t = z := ⟨_, rfl⟩
      have hzl : z.length = u.length + t.length := by rw [← hz, List.length_append]
      rw [hz] at HFd HAf
      have hpt := plus_text u t
      rw [hz] at hpt
      have HOp := Lib.hid (fun (W : World) (hW : Below w2.heap.size w2 W) => ropen_any ra us.length rc us S z W (by omega) (HRS.out.below hW) (fun x hx => by have := HU.out x hx; omega) (by omega) HST.out)
      have HRf := Lib.hid (fun (W : World) (hW : Below w2.heap.size w2 W) => rfeed_any ra us.length rc us z u.length W (by omega) (HRS.out.below hW) (fun x hx => by have := HU.out x hx; omega) (by omega) (by omega))
      rw [← HAf.out] at HRf
      have HDp := Lib.hid (wk_depth HST.out HS0.out z)
      have hol := lg_len S z
      generalize (lgL S z).length = o at *
      generalize fdL us S (auR S 0 u) u.length t = L at *
      have hLl : L.length ≤ 160 := by omega
      have S1 := Lib.hid (bsize u)
      have S2 := Lib.hid (bsize t)
      have S3 := Lib.hid (bsize z)
      have hov : ¬ 9223372036854775807 < z.length := by omega
      have g0 : (0 : Int) ≤ (i : Int) := by omega
      have g1 : (i : Int) < (plen : Int) := by omega
      have HC := Lib.hid (fun (W : World) (hW : Below w2.heap.size w2 W) => (show W.cell? ⟨pb, off + i, none⟩ = some (.string ⟨t.toArray⟩) from by
        obtain ⟨b', off', he, t', hf', hc'⟩ := str_at HP.out (HBw.out _ hW) i hlt
        cases he
        obtain rfl : t' = t := Option.some.inj (hf'.symm.trans hf)
        exact hc'))
      have HZ := Lib.hid hzl
      clear hf hfd hfl HAf hz hpb
      go_wp2_with fail
      refine HFd.out.mono ?_
      rintro e w4 ⟨v4, rfl, ho4, hT4, hb4⟩
      obtain ⟨a4, c4, rfl, hh4⟩ := owns_hits ho4 rfl
      have d4 := hbe.trans (hb4.belowTo hwb hsz)
      have HT4 : Hid (IsWalk w4 b p us S kind (auR S 0 z) z.length (m + L.length)) := Lib.hid (by rw [HZ.out]; exact hT4)
      have hc4 := HC.out w4 d4
      have HO4 := Lib.hid (HOp.out w4 d4)
      have HH4 := Lib.hid hh4
      clear hc ho4 hT4 hb4 hh4 HFd HI HOp hbe hsz hzl
      go_wp2_with fail
      refine HO4.out.mono ?_
      rintro e w5 ⟨rfl, hb5⟩
      have d5 := d4.trans (hb5.mono d4.size)
      have hc5 := HC.out w5 d5
      have HR5 := Lib.hid (HRf.out w5 d5)
      have HH5 := Lib.hid (HH4.out.below hb5)
      have HT5 := Lib.hid (HT4.out.below hb5)
      have w0 : IntKind.i64.wrap ((z.length : Int) - (t.length : Int)) = (u.length : Int) := by rw [IntKind.wrap_i64]; have := HZ.out; omega
      clear hb5 hc4 d4 HO4 HRf HT4 HH4 HC
      go_wp2_with fail
      refine HR5.out.mono ?_
      intro e w6 hr6
      obtain ⟨a6, c6, rfl, hh6, hb6⟩ := hr6.use
      have d6 := d5.trans (hb6.mono d5.size)
      have HQ := Lib.hid (hsame_any a4 a6 L.length c4 c6 L w6 (by omega) (HH5.out.below hb6) hh6)
      have HT6 := Lib.hid (HT5.out.below hb6)
      clear hr6 hh6 hb6 HH5 HT5 HR5 d5 hc5 w0
      go_wp2_with fail
      refine HQ.out.mono ?_
      rintro e w7 ⟨rfl, hb7⟩
      have d7 := d6.trans (hb7.mono d6.size)
      have HT7 := Lib.hid (HT6.out.below hb7)
      have HSe := Lib.hid (wkseen_any HT7.out)
      have HHi := Lib.hid (wkhits_any HT7.out)
      have HOn := Lib.hid (wkopen_any HT7.out)
      rw [HDp.out] at HOn
      have HCl := Lib.hid (fun (W : World) (hW : Below w7.heap.size w7 W) => wkclear_any (HT7.out.below hW) least hl2 (by rw [HDp.out]; have := HZ.out; omega))
      rw [HDp.out] at HCl
      clear hb7 HT6 HQ d6
      go_wp2_with fail
      refine HSe.out.mono ?_
      rintro e w' ⟨rfl, hw⟩
      obtain rfl := hw.symm
      clear hw HSe
      have r0 : ((z.length : Int) != (z.length : Int)) = false := by simp
      go_wp2_with fail
      refine HHi.out.mono ?_
      rintro e w' ⟨rfl, hw⟩
      obtain rfl := hw.symm
      clear hw HHi
      have r1 : ((m : Int) + (L.length : Int) != (m : Int) + (L.length : Int)) = false := by simp
      go_wp2_with fail
      refine HOn.out.mono ?_
      rintro e w8 ⟨rfl, hb8⟩
      have HC8 := Lib.hid (HCl.out w8 hb8)
      have HT8 := Lib.hid (HT7.out.below hb8)
      have d8 := d7.trans (hb8.mono d7.size)
      have r2 : ((o : Int) != (o : Int)) = false := by simp
      have hze := HZ.out
      clear HCl HT7 hb8 d7 HOn
      by_cases q1 : 1 < least
      · have t1 : decide (1 < least) = true := decide_eq_true q1
        have x1 : IntKind.i64.wrap (least - 1) = least - 1 := by rw [IntKind.wrap_i64]; omega
        have q2 : 0 ≤ least := by omega
        have t2 : decide (0 ≤ least) = true := decide_eq_true q2
        by_cases q3 : (o : Int) < least - 1
        · have t3 : decide ((o : Int) < least - 1) = true := decide_eq_true q3
          have x2 : IntKind.i64.wrap (least - 1 - (o : Int)) = least - 1 - (o : Int) := by rw [IntKind.wrap_i64]; omega
          have E : clrZ least o = least - 1 - (o : Int) := if_neg (by omega)
          rw [E] at HC8
          have r3 : ((least - 1 - (o : Int)) != (least - 1 - (o : Int))) = false := by simp
          clear E
          go_wp2_with fail
          refine HC8.out.mono ?_
          rintro e w9 ⟨rfl, hb9⟩
          have d9 := d8.trans (hb9.mono d8.size)
          have HT9 := Lib.hid (HT8.out.below hb9)
          clear hb9 HC8 HT8 d8
          go_wp2
          exact ⟨⟨i + 1, m + L.length, z, by omega, by go_num, rfl, by go_num, by omega, by omega, HT9, d9⟩, by simp [RowKit.intOf]; omega⟩
        · have t3 : decide ((o : Int) < least - 1) = false := decide_eq_false q3
          have E : clrZ least o = 0 := by unfold clrZ; split <;> omega
          rw [E] at HC8
          clear E
          go_wp2_with fail
          refine HC8.out.mono ?_
          rintro e w9 ⟨rfl, hb9⟩
          have d9 := d8.trans (hb9.mono d8.size)
          have HT9 := Lib.hid (HT8.out.below hb9)
          clear hb9 HC8 HT8 d8
          go_wp2
          exact ⟨⟨i + 1, m + L.length, z, by omega, by go_num, rfl, by go_num, by omega, by omega, HT9, d9⟩, by simp [RowKit.intOf]; omega⟩
      · have t1 : decide (1 < least) = false := decide_eq_false q1
        by_cases q2 : 0 ≤ least
        · have t2 : decide (0 ≤ least) = true := decide_eq_true q2
          have E : clrZ least o = 0 := by unfold clrZ; split <;> omega
          rw [E] at HC8
          clear E
          go_wp2_with fail
          refine HC8.out.mono ?_
          rintro e w9 ⟨rfl, hb9⟩
          have d9 := d8.trans (hb9.mono d8.size)
          have HT9 := Lib.hid (HT8.out.below hb9)
          clear hb9 HC8 HT8 d8
          go_wp2
          exact ⟨⟨i + 1, m + L.length, z, by omega, by go_num, rfl, by go_num, by omega, by omega, HT9, d9⟩, by simp [RowKit.intOf]; omega⟩
        · have t2 : decide (0 ≤ least) = false := decide_eq_false q2
          clear HC8
          go_wp2
          exact ⟨⟨i + 1, m + L.length, z, by omega, by go_num, rfl, by go_num, by omega, by omega, HT8, d8⟩, by simp [RowKit.intOf]; omega⟩
    · obtain rfl : i = plen := by omega
      have hz2 : ¬ (i : Int) < (i : Int) := by omega
      have HAw := Lib.hid (wkawake_any wr)
      have HBw := Lib.hid (HD2.out.trans (hbe.mono HD2.out.size))
      clear HI hbe
      go_wp2_with fail
      refine HAw.out.mono ?_
      rintro e w9 ⟨rfl, hb9⟩
      have d9 := HBw.out.trans (hb9.mono HBw.out.size)
      clear hb9 HAw HBw
      go_wp2
      go_ret
      exact ⟨rfl, d9⟩
end Go.Proofs.YtjmlabggocfikaaGreat
