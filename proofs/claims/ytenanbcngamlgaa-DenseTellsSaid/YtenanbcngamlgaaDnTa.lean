/-
  The law DenseTells: walked.
-/
import Derived.Test.YtenanbcngamlgaaBn9
import Derived.Test.YtenanbcngamlgaaBn4
set_option linter.unusedSimpArgs false
set_option linter.unusedVariables false
namespace Go.Proofs.Ytenanbcngamlgaa
open Go.RowKit

set_option maxHeartbeats 1000000 in
theorem dntells_many (a : Option Addr) (len cap : Nat) (c : UInt8) (no : Int) (ws : List (List UInt8)) (w : World) (hlen : len ≤ 9223372036854775807) (hr : IsStrs w a len ws) (ht : ∀ t ∈ ws, t.length ≤ 9223372036854775807) (hq : fewB ws 8 12 = false) :
    Calls Try.prog 3 #[.slice a len cap, .int .u8 (c.toNat : Int), .int .i64 no] w fun e w' => e = .returned (.bool true) ∧ Below w.heap.size w w' := by
  have HF := Lib.hid (few_no8 a len cap ws w hlen hr ht _ hq)
  clear hr ht hq
  go_enter Try.func3, Try.ntmps3
  go_wp2_with fail
  refine HF.out.mono ?_
  rintro e w' ⟨rfl, rfl⟩
  go_wp2_with fail
  refine (dnawake_any _).mono ?_
  rintro e w' ⟨rfl, hb⟩
  go_wp2
  go_ret
  exact ⟨rfl, hb⟩

set_option maxRecDepth 100000 in
set_option maxHeartbeats 8000000 in
theorem dntells_few (a : Option Addr) (len cap : Nat) (c : UInt8) (no : Int) (ws : List (List UInt8)) (w : World) (hr : IsStrs w a len ws) (hq : fewB ws 8 12 = true) :
    Calls Try.prog 3 #[.slice a len cap, .int .u8 (c.toNat : Int), .int .i64 no] w fun e w' => e = .returned (.bool true) ∧ Below w.heap.size w w' := by
  have hwl := hr.1
  have hfw := (few_iff ws 8 12).1 hq
  have hlen : len ≤ 8 := by omega
  have HF := Lib.hid (few_no8 a len cap ws w (by omega) hr (fun t ht => by have := hfw.2 t ht; omega) _ hq)
  have HN := Lib.hid (ptnew_all a len cap ws w (by omega) hr (fun t ht => by have := hfw.2 t ht; omega))
  have HN2 := Lib.hid (fun (w2 : World) (hb : Below w.heap.size w w2) => rptnew_all a len cap ws w2 (by omega) (hr.below hb) (fun t ht => by have := hfw.2 t ht; omega))
  obtain ⟨hs1, hs2⟩ := few_setN hq
  have HA := Lib.hid (set_asc ws)
  have HTn := Lib.hid (fun (w2 : World) (p : Option Addr) (h : IsPats w2 p (setL ws)) => dnnew_set h)
  generalize setL ws = us at *
  generalize faultL ws = f at HN HN2
  have htot := total_le hs2
  have hul : us.length ≤ 8 := hs1
  have HUL := Lib.hid hs2
  have HRs := Lib.hid (fun (w2 : World) (a2 : Option Addr) (cap2 : Nat) (h : IsStrs w2 a2 us.length us) => rstates_any a2 us.length cap2 us w2 (by omega) h HA.out (fun t ht => by have := hs2 t ht; omega) (by omega))
  have HCb := Lib.hid (fun (w2 : World) (a2 : Option Addr) (cap2 : Nat) (h : IsStrs w2 a2 us.length us) => rclbytes_any a2 us.length cap2 us w2 (by omega) h (fun t ht => by have := hs2 t ht; omega))
  clear hr hq hfw hwl hs1 hs2
  go_enter Try.func3, Try.ntmps3
  go_wp2_with fail
  refine HF.out.mono ?_
  rintro e w' ⟨rfl, hw⟩
  obtain rfl := hw.symm
  clear HF hw
  go_wp2_with fail
  refine HN.out.mono ?_
  rintro e w1 ⟨p, rfl, hp, d1⟩
  have e1 := d1.size
  have HN3 := Lib.hid (HN2.out w1 d1)
  have HP1 := Lib.hid hp
  clear HN HN2 hp
  go_wp2_with fail
  refine HN3.out.mono ?_
  rintro e w2 ⟨a2, cap2, rfl, hstr, hb2⟩
  have d2 := d1.trans (hb2.mono e1)
  have e2 := d2.size
  have HB2 := Lib.hid (HTn.out w2 p (HP1.out.below hb2))
  have T2 := Lib.hid hstr
  clear HN3 hb2 d1 e1 hstr HP1 HTn
  go_wp2_with fail
  refine HB2.out.mono ?_
  rintro e w3 ⟨b, g, pc, S, L, rfl, hT, hb3⟩
  have d3 := d2.trans (hb3.mono e2)
  have e3 := d3.size
  have T3 := Lib.hid (T2.out.below hb3)
  have HS3 := Lib.hid (HRs.out w3 a2 cap2 T3.out)
  have HT3 := Lib.hid hT
  have hSt := hT.st
  clear HB2 HRs T2 hb3 hT d2 e2
  go_wp2_with fail
  refine HS3.out.mono ?_
  rintro e w4 ⟨S', a4, cap4, rfl, hst', hstr4, hb4⟩
  obtain rfl : S' = S := hst'.unique hSt
  have d4 := d3.trans (hb4.mono e3)
  have e4 := d4.size
  have HT4 := Lib.hid (HT3.out.below hb4)
  have T4 := Lib.hid (T3.out.below hb4)
  have HS4 := Lib.hid hstr4
  have HSt := Lib.hid hSt
  clear HS3 HT3 T3 hb4 hstr4 hst' hSt d3 e3
  have hSl : S'.length ≤ 16777217 := by have := HT4.out.dn.tb.fn; omega
  have hSf : S'.length ≤ 97 := by
    have := states_few (slx_nodup HSt.out.1) (us := us) fun q hq => (HSt.out.2 q).1 hq
    omega
  have HTl : Hid (∀ t ∈ S', t.length ≤ 12) := Lib.hid (fun t ht => by
    rcases (HSt.out.2 t).1 ht with rfl | h
    · simp
    · obtain ⟨q, hq, hpre⟩ := beg_iff.1 h
      exact Nat.le_trans hpre.length_le (HUL.out q hq))
  -- region 7
  have HLen := Lib.hid (ds_len HT4.out)
  have HWid := Lib.hid (dnwid_any HT4.out.dn)
  have HB4 := Lib.hid (HCb.out w4 a2 cap2 T4.out)
  have HBl : Hid ((⟨(bcK us 256).toArray⟩ : ByteArray).size = (bcK us 256).length) := Lib.hid (bsize _)
  have hbl := bc_length us 256
  go_wp2_with fail
  refine HLen.out.mono ?_
  rintro e w' ⟨rfl, hw⟩
  obtain rfl := hw.symm
  clear hw HLen
  go_wp2_with fail
  refine HWid.out.mono ?_
  rintro e w' ⟨rfl, hw⟩
  obtain rfl := hw.symm
  clear hw HWid
  go_wp2_with fail
  refine HB4.out.mono ?_
  rintro e w5 ⟨rfl, hb5⟩
  have d5 := d4.trans (hb5.mono e4)
  have e5 := d5.size
  have HT5 := Lib.hid (HT4.out.below hb5)
  have T5 := Lib.hid (T4.out.below hb5)
  have HS5 := Lib.hid (HS4.out.below hb5)
  clear HB4 HT4 T4 HS4 hb5 d4 e4
  have HCls := Lib.hid (dncls_any HT5.out.dn.tb)
  have HBy := Lib.hid (clbytes_any HT5.out.dn.cl)
  have HB6 := Lib.hid (HCb.out w5 a2 cap2 T5.out)
  obtain ⟨B, hB⟩ : ∃ B, bcK us 256 = B := ⟨_, rfl⟩
  rw [hB] at HBy HB6 HBl hbl
  rw [hB]
  clear hB HCb
  have w0 : IntKind.i64.wrap ((B.length : Int) + 1) = ((B.length + 1 : Nat) : Int) := by rw [IntKind.wrap_i64]; omega
  have r0 : (((B.length + 1 : Nat) : Int) != ((B.length + 1 : Nat) : Int)) = false := by simp
  go_wp2_with fail
  refine HCls.out.mono ?_
  rintro e w' ⟨rfl, hw⟩
  obtain rfl := hw.symm
  clear hw HCls
  go_wp2_with fail
  refine HBy.out.mono ?_
  rintro e w' ⟨rfl, hw⟩
  obtain rfl := hw.symm
  clear hw HBy
  go_wp2_with fail
  refine HB6.out.mono ?_
  rintro e w6 ⟨rfl, hb6⟩
  have d6 := d5.trans (hb6.mono e5)
  have e6 := d6.size
  have HT6 := Lib.hid (HT5.out.below hb6)
  have T6 := Lib.hid (T5.out.below hb6)
  have HS6 := Lib.hid (HS5.out.below hb6)
  have HMem := Lib.hid HT6.out.mem
  have D6 := Lib.hid d6
  clear HB6 HT5 T5 HS5 hb6 d5 e5 d6 w0 r0
  go_wp2
  go_loopw [13] (fun x wr => ∃ k : Nat, k ≤ S'.length ∧ x = .int .i64 k ∧ Below w6.heap.size w6 wr) (fun x _ => S'.length - (RowKit.intOf x).toNat)
  case atStart => exact ⟨0, Nat.zero_le _, rfl, Below.refl _ _⟩
  case round =>
    obtain ⟨k, hk, rfl, hbe⟩ := hrel
    have hsz := hbe.size
    by_cases hlt : k < S'.length
    · obtain ⟨s, hs⟩ : ∃ s, S'[k]? = some s := ⟨_, List.getElem?_eq_getElem hlt⟩
      have HSt := Lib.hid (ds_step (HT6.out.below hbe) k hs c)
      have HRS := Lib.hid (rlkstep_any a4 S'.length cap4 S' wr (by omega) (HS6.out.below hbe) HMem.out (fun t ht => by have := HTl.out t ht; omega) k hs c)
      rw [dn_ix HMem.out] at HRS
      have HRl : Hid (((rwF us S' s).map fun (x : Nat) => (x : Int)).length ≤ 257) := Lib.hid (by rw [List.length_map, rwF_length]; have := bc_length us 256; omega)
      have HRow := Lib.hid (fun W (hb : Below wr.heap.size wr W) => (ds_rows ((HT6.out.below hbe).below hb) k hs).mono fun e w' h => retn_row h (by have := HRl.out; unfold maxLen; omega))
      have HRR := Lib.hid (fun W (hb : Below wr.heap.size wr W) => (rdnrow_any a2 us.length cap2 us a4 S'.length cap4 S' W (by omega) (by omega) ((T6.out.below hbe).below hb) ((HS6.out.below hbe).below hb) HMem.out (fun t ht => by have := HUL.out t ht; omega) (fun t ht => by have := HTl.out t ht; omega) k hs).mono fun e w' h => retn_row h (by have := HRl.out; unfold maxLen; omega))
      generalize (rwF us S' s).map (fun (x : Nat) => (x : Int)) = R at *
      generalize dnS S' s c = n at *
      have g0 : (k : Int) < (S'.length : Int) := by omega
      clear hs
      go_wp2_with fail
      refine HSt.out.mono ?_
      rintro e w' ⟨rfl, hw⟩
      obtain rfl := hw.symm
      clear hw HSt
      go_wp2_with fail
      refine HRS.out.mono ?_
      rintro e w7 ⟨rfl, hb7⟩
      have HR7 := Lib.hid (HRow.out w7 hb7)
      clear HRS HRow
      go_wp2_with fail
      refine HR7.out.mono ?_
      rintro e w8 ⟨a8, c8, rfl, hr8, hb8⟩
      have d8 := hb7.trans (hb8.mono hb7.size)
      have HR8 := Lib.hid (HRR.out w8 d8)
      clear HR7 HRR hb7 hb8
      go_wp2_with fail
      refine HR8.out.mono ?_
      rintro e w9 ⟨a9, c9, rfl, hr9, hb9⟩
      have d9 := d8.trans (hb9.mono d8.size)
      have HR9 := Lib.hid (isame_any a8 a9 R.length c8 c9 R.length R.length R w9 (by have := HRl.out; omega) (hr8.below hb9) hr9)
      clear HR8 hr8 hr9 hb9 d8
      go_wp2_with fail
      refine HR9.out.mono ?_
      rintro e w10 ⟨rfl, hb10⟩
      have D10 := Lib.hid (hbe.trans ((d9.trans (hb10.mono d9.size)).mono hsz))
      clear HR9 hb10 d9
      go_wp2
      exact ⟨⟨k + 1, by omega, by go_num, D10.out⟩, by simp [RowKit.intOf]; omega⟩
    · obtain rfl : k = S'.length := by omega
      have hz : ¬ (S'.length : Int) < (S'.length : Int) := by omega
      have D7 := Lib.hid (D6.out.trans (hbe.mono D6.out.size))
      have Z1 := Lib.hid (dnlen_nil wr)
      have Z2 := Lib.hid (dnwid_nil wr)
      have Z3 := Lib.hid (dnstep_none (nil_norow wr no) c)
      have Z4 := Lib.hid (dnrows_none (nil_norow wr no))
      have Z5 := Lib.hid (dncls_nil wr)
      have HT7 := Lib.hid (HT6.out.below hbe)
      have HW9 := Lib.hid (dnawake_any wr)
      clear hbe
      go_wp2_with fail
      refine Z1.out.mono ?_
      rintro e w' ⟨rfl, hw⟩
      obtain rfl := hw.symm
      clear hw Z1
      go_wp2_with fail
      refine Z2.out.mono ?_
      rintro e w' ⟨rfl, hw⟩
      obtain rfl := hw.symm
      clear hw Z2
      go_wp2_with fail
      refine Z3.out.mono ?_
      rintro e w' ⟨rfl, hw⟩
      obtain rfl := hw.symm
      clear hw Z3
      go_wp2_with fail
      refine Z4.out.mono ?_
      rintro e w' ⟨rfl, hw⟩
      obtain rfl := hw.symm
      clear hw Z4
      go_wp2_with fail
      refine Z5.out.mono ?_
      rintro e w' ⟨rfl, hw⟩
      obtain rfl := hw.symm
      clear hw Z5
      by_cases g0 : 0 ≤ no
      · have q0 : decide (0 ≤ no) = true := decide_eq_true g0
        by_cases g1 : no < (S'.length : Int)
        · have q1 : decide (no < (S'.length : Int)) = true := decide_eq_true g1
          clear HT7
          go_wp2_with fail
          refine HW9.out.mono ?_
          rintro e w9 ⟨rfl, hb9⟩
          have d9 := D7.out.trans (hb9.mono D7.out.size)
          go_wp2
          go_ret
          exact ⟨rfl, d9⟩
        · have q1 : decide (no < (S'.length : Int)) = false := decide_eq_false g1
          have hno := ds_norow HT7.out (s := no) (.inr (by omega))
          have Y1 := Lib.hid (dnstep_none hno c)
          have Y2 := Lib.hid (dnrows_none hno)
          clear HT7 hno
          go_wp2_with fail
          refine Y1.out.mono ?_
          rintro e w' ⟨rfl, hw⟩
          obtain rfl := hw.symm
          clear hw Y1
          go_wp2_with fail
          refine Y2.out.mono ?_
          rintro e w' ⟨rfl, hw⟩
          obtain rfl := hw.symm
          clear hw Y2
          go_wp2_with fail
          refine HW9.out.mono ?_
          rintro e w9 ⟨rfl, hb9⟩
          have d9 := D7.out.trans (hb9.mono D7.out.size)
          go_wp2
          go_ret
          exact ⟨rfl, d9⟩
      · have q0 : decide (0 ≤ no) = false := decide_eq_false g0
        have hno := ds_norow HT7.out (s := no) (.inl (by omega))
        have Y1 := Lib.hid (dnstep_none hno c)
        have Y2 := Lib.hid (dnrows_none hno)
        clear HT7 hno
        go_wp2_with fail
        refine Y1.out.mono ?_
        rintro e w' ⟨rfl, hw⟩
        obtain rfl := hw.symm
        clear hw Y1
        go_wp2_with fail
        refine Y2.out.mono ?_
        rintro e w' ⟨rfl, hw⟩
        obtain rfl := hw.symm
        clear hw Y2
        go_wp2_with fail
        refine HW9.out.mono ?_
        rintro e w9 ⟨rfl, hb9⟩
        have d9 := D7.out.trans (hb9.mono D7.out.size)
        go_wp2
        go_ret
        exact ⟨rfl, d9⟩
end Go.Proofs.Ytenanbcngamlgaa
