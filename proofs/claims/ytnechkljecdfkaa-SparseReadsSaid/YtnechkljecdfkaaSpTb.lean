/-
  The law SparseReads: walked.
-/
import Derived.Test.YtnechkljecdfkaaBn8
import Derived.Test.YtnechkljecdfkaaBn9
import Derived.Test.YtnechkljecdfkaaBn4
set_option linter.unusedSimpArgs false
set_option linter.unusedVariables false
namespace Go.Proofs.Ytnechkljecdfkaa
open Go.RowKit

set_option maxHeartbeats 1000000 in
theorem spreads_many (a : Option Addr) (len cap : Nat) (s : List UInt8) (ws : List (List UInt8)) (w : World) (hlen : len ≤ 9223372036854775807) (hr : IsStrs w a len ws) (ht : ∀ t ∈ ws, t.length ≤ 9223372036854775807) (hq : fewB ws 8 12 = false) :
    Calls Try.prog 4 #[.slice a len cap, .string ⟨s.toArray⟩] w fun e w' => e = .returned (.bool true) ∧ Below w.heap.size w w' := by
  have HF := Lib.hid (few_no8 a len cap ws w hlen hr ht _ hq)
  clear hr ht hq
  go_enter Try.func4, Try.ntmps4
  go_wp2_with fail
  refine HF.out.mono ?_
  rintro e w' ⟨rfl, rfl⟩
  go_wp2_with fail
  refine (spawake_any _).mono ?_
  rintro e w' ⟨rfl, hb⟩
  go_wp2
  go_ret
  exact ⟨rfl, hb⟩

set_option maxHeartbeats 1000000 in
theorem spreads_long (a : Option Addr) (len cap : Nat) (s : List UInt8) (ws : List (List UInt8)) (w : World) (hr : IsStrs w a len ws) (hq : fewB ws 8 12 = true) (hs : 60 < s.length) :
    Calls Try.prog 4 #[.slice a len cap, .string ⟨s.toArray⟩] w fun e w' => e = .returned (.bool true) ∧ Below w.heap.size w w' := by
  have hfw := (few_iff ws 8 12).1 hq
  have hwl := hr.1
  have HF := Lib.hid (few_no8 a len cap ws w (by omega) hr (fun t ht => by have := hfw.2 t ht; omega) _ hq)
  have HZ := Lib.hid (bsize s)
  have g1 : (60 : Int) < (s.length : Int) := by omega
  have g2 : decide ((60 : Int) < (s.length : Int)) = true := decide_eq_true g1
  clear hr hq hfw hwl
  go_enter Try.func4, Try.ntmps4
  go_wp2_with fail
  refine HF.out.mono ?_
  rintro e w' ⟨rfl, rfl⟩
  go_wp2_with fail
  refine (spawake_any _).mono ?_
  rintro e w' ⟨rfl, hb⟩
  go_wp2
  go_ret
  exact ⟨rfl, hb⟩

set_option maxRecDepth 100000 in
set_option maxHeartbeats 8000000 in
theorem spreads_few (a : Option Addr) (len cap : Nat) (s : List UInt8) (ws : List (List UInt8)) (w : World) (hr : IsStrs w a len ws) (hq : fewB ws 8 12 = true) (hs : s.length ≤ 60) :
    Calls Try.prog 4 #[.slice a len cap, .string ⟨s.toArray⟩] w fun e w' => e = .returned (.bool true) ∧ Below w.heap.size w w' := by
  have hwl := hr.1
  have hfw := (few_iff ws 8 12).1 hq
  have hlen : len ≤ 8 := by omega
  have HF := Lib.hid (few_no8 a len cap ws w (by omega) hr (fun t ht => by have := hfw.2 t ht; omega) _ hq)
  have HN := Lib.hid (ptnew_all a len cap ws w (by omega) hr (fun t ht => by have := hfw.2 t ht; omega))
  have HN2 := Lib.hid (fun (w2 : World) (hb : Below w.heap.size w w2) => rptnew_all a len cap ws w2 (by omega) (hr.below hb) (fun t ht => by have := hfw.2 t ht; omega))
  obtain ⟨hs1, hs2⟩ := few_setN hq
  have HA := Lib.hid (set_asc ws)
  have htot := total_le hs2
  have HTn := Lib.hid (fun (w2 : World) (p : Option Addr) (h : IsPats w2 p (setL ws)) => spnew_set h (by omega))
  generalize setL ws = us at *
  generalize faultL ws = f at HN HN2
  have HRs := Lib.hid (fun (w2 : World) (a2 : Option Addr) (cap2 : Nat) (h : IsStrs w2 a2 us.length us) => rstates_any a2 us.length cap2 us w2 (by omega) h HA.out (fun t ht => by have := hs2 t ht; omega) (by omega))
  have HTot := Lib.hid htot
  have HZ := Lib.hid (bsize s)
  have g60 : ¬ (60 : Int) < (s.length : Int) := by omega
  have g61 : decide ((60 : Int) < (s.length : Int)) = false := decide_eq_false g60
  have hul : us.length ≤ 8 := hs1
  clear hr hq hfw hwl hs1 hs2
  go_enter Try.func4, Try.ntmps4
  go_wp2_with fail
  refine HF.out.mono ?_
  rintro e w' ⟨rfl, hw⟩
  obtain rfl := hw.symm
  clear HF hw
  go_wp2_with fail
  refine HN.out.mono ?_
  rintro e w1 ⟨p, rfl, hp, d1⟩
  have e1 := d1.size
  have HN3 := Lib.hid (HN2.out w1 d1)
  have HP1 := Lib.hid hp
  clear HN HN2 hp g60 g61
  go_wp2_with fail
  refine HN3.out.mono ?_
  rintro e w2 ⟨a2, cap2, rfl, hstr, hb2⟩
  have d2 := d1.trans (hb2.mono e1)
  have e2 := d2.size
  have HB2 := Lib.hid (HTn.out w2 p (HP1.out.below hb2))
  have T2 := Lib.hid hstr
  clear HN3 hb2 d1 e1 hstr HP1 HTn
  go_wp2_with fail
  refine HB2.out.mono ?_
  rintro e w3 ⟨q, S, C, rfl, hT, hb3⟩
  have d3 := d2.trans (hb3.mono e2)
  have e3 := d3.size
  have T3 := Lib.hid (T2.out.below hb3)
  have HS3 := Lib.hid (HRs.out w3 a2 cap2 T3.out)
  have HT3 := Lib.hid hT
  have hSt := hT.st
  clear HB2 HRs T2 hb3 hT d2 e2
  go_wp2_with fail
  refine HS3.out.mono ?_
  rintro e w4 ⟨S', a4, cap4, rfl, hst', hstr4, hb4⟩
  obtain rfl : S' = S := hst'.unique hSt
  have d4 := d3.trans (hb4.mono e3)
  have e4 := d4.size
  have HT4 := Lib.hid (HT3.out.below hb4)
  have T4 := Lib.hid (T3.out.below hb4)
  have HS4 := Lib.hid hstr4
  have hroot := HT4.out.root
  have HR0 := Lib.hid hroot
  have HMem := Lib.hid HT4.out.mem
  have HNd := Lib.hid HT4.out.nodup
  have HCl := Lib.hid (st_closed hSt)
  have HSt := Lib.hid hSt
  have hSl : S'.length ≤ 4194304 := HT4.out.cells.2.2.2
  have D4 := Lib.hid d4
  clear HS3 HT3 T3 hb4 hstr4 hst' hSt d3 e3 d4 e4 hroot
  go_wp2
  go_loopw [11, 12] (fun x y wr => ∃ k j : Nat, k ≤ s.length ∧ y = .int .i64 k ∧ x = .int .i64 j ∧ Hid (S'[j]? = some (lgL S' (s.take k))) ∧ Below w4.heap.size w4 wr) (fun _ y _ => s.length - (RowKit.intOf y).toNat)
  case atStart => exact ⟨0, 0, Nat.zero_le _, rfl, rfl, Lib.hid (by simpa [lgL] using HR0.out), Below.refl _ _⟩
  case round =>
    obtain ⟨k, j, hk, rfl, rfl, hj, hbe⟩ := hrel
    have hsz := hbe.size
    by_cases hlt : k < s.length
    · have hzb : k < (⟨s.toArray⟩ : ByteArray).size := by rw [bsize]; omega
      have hb := byteAt s k (by omega) hzb
      have HSt2 := Lib.hid (sps_step (HT4.out.below hbe) j hj.out s[k])
      have et : s.take (k + 1) = s.take k ++ [s[k]] := List.take_succ_eq_append_getElem hlt
      have HE := Lib.hid (show S'[dnS S' (lgL S' (s.take k)) s[k]]? = some (lgL S' (s.take (k + 1))) by
        rw [et, lg_snoc HCl.out]
        exact dn_at HNd.out HMem.out _ _)
      generalize dnS S' (lgL S' (s.take k)) s[k] = n at *
      generalize s[k] = x at *
      have hnl := (List.getElem?_eq_some_iff.1 HE.out).1
      have g0 : (0 : Int) ≤ (k : Int) := by omega
      have g1 : (k : Int) < (s.length : Int) := by omega
      clear et hj
      go_wp2_with fail
      refine HSt2.out.mono ?_
      rintro e w5 ⟨rfl, hb5⟩
      have d5 := hbe.trans (hb5.mono hsz)
      clear hb5 HSt2 hbe
      go_wp2
      exact ⟨⟨k + 1, n, by omega, by go_num, rfl, HE, d5⟩, by simp [RowKit.intOf]; omega⟩
    · obtain rfl : k = s.length := by omega
      have hz : ¬ (s.length : Int) < (s.length : Int) := by omega
      have hjj := hj.out
      rw [List.take_length] at hjj
      have HLg0 := rlongest_any a4 S'.length cap4 S' s s.length wr (by omega) (HS4.out.below hbe) HMem.out (by omega) (Nat.le_refl _)
      rw [Nat.sub_self, List.drop_zero, ix_is HNd.out hjj] at HLg0
      have HLg := Lib.hid HLg0
      have hjl := (List.getElem?_eq_some_iff.1 hjj).1
      have HW9 := Lib.hid (spawake_any wr)
      have D5 := Lib.hid (D4.out.trans (hbe.mono D4.out.size))
      clear HLg0 hjj hj hbe
      go_wp2_with fail
      refine HLg.out.mono ?_
      rintro e w' ⟨rfl, hw⟩
      obtain rfl := hw.symm
      clear hw HLg
      go_wp2_with fail
      refine HW9.out.mono ?_
      rintro e w9 ⟨rfl, hb9⟩
      have d9 := D5.out.trans (hb9.mono D5.out.size)
      go_wp2
      go_ret
      exact ⟨rfl, d9⟩
end Go.Proofs.Ytnechkljecdfkaa
