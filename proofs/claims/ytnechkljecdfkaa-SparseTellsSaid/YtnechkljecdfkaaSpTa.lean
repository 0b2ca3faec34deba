/-
  The law SparseTells: walked.
-/
import Derived.Test.YtnechkljecdfkaaBn8
import Derived.Test.YtnechkljecdfkaaBn9
import Derived.Test.YtnechkljecdfkaaBn4
set_option linter.unusedSimpArgs false
set_option linter.unusedVariables false
namespace Go.Proofs.Ytnechkljecdfkaa
open Go.RowKit

set_option maxRecDepth 100000 in
set_option maxHeartbeats 1000000 in
theorem sptells_many (a : Option Addr) (len cap : Nat) (c : UInt8) (no : Int) (ws : List (List UInt8)) (w : World) (hlen : len ≤ 9223372036854775807) (hr : IsStrs w a len ws) (ht : ∀ t ∈ ws, t.length ≤ 9223372036854775807) (hq : fewB ws 8 12 = false) :
    Calls Try.prog 3 #[.slice a len cap, .int .u8 (c.toNat : Int), .int .i64 no] w fun e w' => e = .returned (.bool true) ∧ Below w.heap.size w w' := by
  have HF := Lib.hid (few_no8 a len cap ws w hlen hr ht _ hq)
  clear hr ht hq
  go_enter Try.func3, Try.ntmps3
  go_wp2_with fail
  refine HF.out.mono ?_
  rintro e w' ⟨rfl, rfl⟩
  go_wp2_with fail
  refine (spawake_any _).mono ?_
  rintro e w' ⟨rfl, hb⟩
  go_wp2
  go_ret
  exact ⟨rfl, hb⟩

set_option maxRecDepth 100000 in
set_option maxHeartbeats 8000000 in
theorem sptells_few (a : Option Addr) (len cap : Nat) (c : UInt8) (no : Int) (ws : List (List UInt8)) (w : World) (hr : IsStrs w a len ws) (hq : fewB ws 8 12 = true) :
    Calls Try.prog 3 #[.slice a len cap, .int .u8 (c.toNat : Int), .int .i64 no] w fun e w' => e = .returned (.bool true) ∧ Below w.heap.size w w' := by
  have hwl := hr.1
  have hfw := (few_iff ws 8 12).1 hq
  have hlen : len ≤ 8 := by omega
  have HF := Lib.hid (few_no8 a len cap ws w (by omega) hr (fun t ht => by have := hfw.2 t ht; omega) _ hq)
  have HN := Lib.hid (ptnew_all a len cap ws w (by omega) hr (fun t ht => by have := hfw.2 t ht; omega))
  have HN2 := Lib.hid (fun (w2 : World) (hb : Below w.heap.size w w2) => rptnew_all a len cap ws w2 (by omega) (hr.below hb) (fun t ht => by have := hfw.2 t ht; omega))
  obtain ⟨hs1, hs2⟩ := few_setN hq
  have HA := Lib.hid (set_asc ws)
  have htot := total_le hs2
  have HTn := Lib.hid (fun (w2 : World) (p : Option Addr) (h : IsPats w2 p (setL ws)) => spnew_set h (by omega))
  generalize setL ws = us at *
  generalize faultL ws = f at HN HN2
  have hul : us.length ≤ 8 := hs1
  have HUL := Lib.hid hs2
  have HRs := Lib.hid (fun (w2 : World) (a2 : Option Addr) (cap2 : Nat) (h : IsStrs w2 a2 us.length us) => rstates_any a2 us.length cap2 us w2 (by omega) h HA.out (fun t ht => by have := hs2 t ht; omega) (by omega))
  clear hr hq hfw hwl hs1 hs2
  go_enter Try.func3, Try.ntmps3
  go_wp2_with fail
  refine HF.out.mono ?_
  rintro e w' ⟨rfl, hw⟩
  obtain rfl := hw.symm
  clear HF hw
  go_wp2_with fail
  refine HN.out.mono ?_
  rintro e w1 ⟨p, rfl, hp, d1⟩
  have e1 := d1.size
  have HN3 := Lib.hid (HN2.out w1 d1)
  have HP1 := Lib.hid hp
  clear HN HN2 hp
  go_wp2_with fail
  refine HN3.out.mono ?_
  rintro e w2 ⟨a2, cap2, rfl, hstr, hb2⟩
  have d2 := d1.trans (hb2.mono e1)
  have e2 := d2.size
  have HB2 := Lib.hid (HTn.out w2 p (HP1.out.below hb2))
  have T2 := Lib.hid hstr
  clear HN3 hb2 d1 e1 hstr HP1 HTn
  go_wp2_with fail
  refine HB2.out.mono ?_
  rintro e w3 ⟨q, S, C, rfl, hT, hb3⟩
  have d3 := d2.trans (hb3.mono e2)
  have e3 := d3.size
  have T3 := Lib.hid (T2.out.below hb3)
  have HS3 := Lib.hid (HRs.out w3 a2 cap2 T3.out)
  have HT3 := Lib.hid hT
  have hSt := hT.st
  clear HB2 HRs T2 hb3 hT d2 e2
  go_wp2_with fail
  refine HS3.out.mono ?_
  rintro e w4 ⟨S', a4, cap4, rfl, hst', hstr4, hb4⟩
  obtain rfl : S' = S := hst'.unique hSt
  have d4 := d3.trans (hb4.mono e3)
  have e4 := d4.size
  have HT4 := Lib.hid (HT3.out.below hb4)
  have T4 := Lib.hid (T3.out.below hb4)
  have HS4 := Lib.hid hstr4
  have HSt := Lib.hid hSt
  clear HS3 HT3 T3 hb4 hstr4 hst' hSt d3 e3
  have hSl : S'.length ≤ 4194304 := HT4.out.cells.2.2.2
  have hSf : S'.length ≤ 97 := by
    have := states_few (slx_nodup HSt.out.1) (us := us) fun q hq => (HSt.out.2 q).1 hq
    omega
  have HTl : Hid (∀ t ∈ S', t.length ≤ 12) := Lib.hid (fun t ht => by
    rcases (HSt.out.2 t).1 ht with rfl | h
    · simp
    · obtain ⟨q, hq, hpre⟩ := beg_iff.1 h
      exact Nat.le_trans hpre.length_le (HUL.out q hq))
  -- region 7
  have HLen := Lib.hid (sps_len HT4.out)
  have HCe := Lib.hid (sps_cells HT4.out)
  obtain ⟨hc1, hc2, hc3, _⟩ := HT4.out.cells
  have hld := ld_le us S' S'.length
  have HLd := Lib.hid (rspleading_any a4 S'.length cap4 us S' w4 (by omega) HS4.out HSt.out (fun t ht => by have := HTl.out t ht; omega))
  generalize ldN us S' S'.length = ld at *
  have r0 : (((S'.length : Nat) : Int) != ((S'.length : Nat) : Int)) = false := by simp
  have w0 : IntKind.i64.wrap ((S'.length : Int) - 1) = (S'.length : Int) - 1 := by rw [IntKind.wrap_i64]; omega
  have r1 : ¬ (C.length : Int) < (S'.length : Int) - 1 := by omega
  have r2 : decide ((C.length : Int) < (S'.length : Int) - 1) = false := decide_eq_false r1
  have w1 : IntKind.i64.wrap (256 * (ld : Int)) = 256 * (ld : Int) := by rw [IntKind.wrap_i64]; omega
  have r3 : ¬ 256 * (ld : Int) < (C.length : Int) := by omega
  have r4 : decide (256 * (ld : Int) < (C.length : Int)) = false := decide_eq_false r3
  go_wp2_with fail
  refine HLen.out.mono ?_
  rintro e w' ⟨rfl, hw⟩
  obtain rfl := hw.symm
  clear hw HLen
  go_wp2_with fail
  refine HCe.out.mono ?_
  rintro e w' ⟨rfl, hw⟩
  obtain rfl := hw.symm
  clear hw
  go_wp2_with fail
  refine HCe.out.mono ?_
  rintro e w' ⟨rfl, hw⟩
  obtain rfl := hw.symm
  clear hw HCe
  go_wp2_with fail
  refine HLd.out.mono ?_
  rintro e w6 ⟨rfl, hb6⟩
  have d6 := d4.trans (hb6.mono e4)
  have e6 := d6.size
  have HT6 := Lib.hid (HT4.out.below hb6)
  have HS6 := Lib.hid (HS4.out.below hb6)
  have HMem := Lib.hid HT6.out.mem
  have HNd := Lib.hid HT6.out.nodup
  have D6 := Lib.hid d6
  clear HLd HT4 T4 HS4 hb6 d4 e4 d6 w0 r0
  go_wp2
  clear r1 r2 w1 r3 r4 hc1 hc2 hc3 hld
  go_loopw [13] (fun x wr => ∃ k : Nat, k ≤ S'.length ∧ x = .int .i64 k ∧ Below w6.heap.size w6 wr) (fun x _ => S'.length - (RowKit.intOf x).toNat)
  case atStart => exact ⟨0, Nat.zero_le _, rfl, Below.refl _ _⟩
  case round =>
    obtain ⟨k, hk, rfl, hbe⟩ := hrel
    have hsz := hbe.size
    by_cases hlt : k < S'.length
    · obtain ⟨s, hs⟩ : ∃ s, S'[k]? = some s := ⟨_, List.getElem?_eq_getElem hlt⟩
      have HNx := Lib.hid (sps_next (HT6.out.below hbe) k hs c)
      have HRN := Lib.hid (rspnext_any a4 S'.length cap4 S' wr (by omega) (HS6.out.below hbe) (fun t ht => by have := HTl.out t ht; omega) k hs c)
      have HSt := Lib.hid (fun W (hb : Below wr.heap.size wr W) => sps_step ((HT6.out.below hbe).below hb) k hs c)
      have HRS := Lib.hid (fun W (hb : Below wr.heap.size wr W) => rlkstep_any a4 S'.length cap4 S' W (by omega) ((HS6.out.below hbe).below hb) HMem.out (fun t ht => by have := HTl.out t ht; omega) k hs c)
      rw [dn_ix HMem.out] at HRS
      generalize dnS S' s c = n at *
      have g0 : (k : Int) < (S'.length : Int) := by omega
      clear hs
      by_cases hin : s ++ [c] ∈ S'
      · go_wp2_with fail
        refine HNx.out.mono ?_
        rintro e w' ⟨⟨h1, _⟩, hw⟩
        obtain rfl := hw.symm
        obtain ⟨m, rfl, hm⟩ := h1 hin
        have hml := (List.getElem?_eq_some_iff.1 hm).1
        rw [ix_is HNd.out hm] at HRN
        clear hw HNx h1 hm hin
        have q0 : (0 : Int) ≤ (m : Int) := by omega
        have q1 : decide ((0 : Int) ≤ (m : Int)) = true := decide_eq_true q0
        have q2 : ((m : Int) != (m : Int)) = false := by simp
        go_wp2_with fail
        refine HRN.out.mono ?_
        rintro e w7 ⟨rfl, hb7⟩
        have HS7 := Lib.hid (HSt.out w7 hb7)
        clear HRN HSt
        go_wp2_with fail
        refine HS7.out.mono ?_
        rintro e w8 ⟨rfl, hb8⟩
        have d8 := hb7.trans (hb8.mono hb7.size)
        have HR8 := Lib.hid (HRS.out w8 d8)
        clear HS7 HRS hb7 hb8
        go_wp2_with fail
        refine HR8.out.mono ?_
        rintro e w9 ⟨rfl, hb9⟩
        have D9 := Lib.hid (hbe.trans ((d8.trans (hb9.mono d8.size)).mono hsz))
        clear HR8 hb9 d8
        go_wp2
        exact ⟨⟨k + 1, by omega, by go_num, D9.out⟩, by simp [RowKit.intOf]; omega⟩
      · go_wp2_with fail
        refine HNx.out.mono ?_
        rintro e w' ⟨⟨_, h1⟩, hw⟩
        obtain rfl := hw.symm
        obtain rfl := h1 hin
        rw [ix_miss hin] at HRN
        clear hw HNx h1 hin
        go_wp2_with fail
        refine HRN.out.mono ?_
        rintro e w7 ⟨rfl, hb7⟩
        have HS7 := Lib.hid (HSt.out w7 hb7)
        clear HRN HSt
        go_wp2_with fail
        refine HS7.out.mono ?_
        rintro e w8 ⟨rfl, hb8⟩
        have d8 := hb7.trans (hb8.mono hb7.size)
        have HR8 := Lib.hid (HRS.out w8 d8)
        clear HS7 HRS hb7 hb8
        go_wp2_with fail
        refine HR8.out.mono ?_
        rintro e w9 ⟨rfl, hb9⟩
        have D9 := Lib.hid (hbe.trans ((d8.trans (hb9.mono d8.size)).mono hsz))
        clear HR8 hb9 d8
        go_wp2
        exact ⟨⟨k + 1, by omega, by go_num, D9.out⟩, by simp [RowKit.intOf]; omega⟩
    · obtain rfl : k = S'.length := by omega
      have hz : ¬ (S'.length : Int) < (S'.length : Int) := by omega
      have D7 := Lib.hid (D6.out.trans (hbe.mono D6.out.size))
      have Z0 := Lib.hid (spnext_none (nonext_nil wr no) c)
      have Z1 := Lib.hid (splen_nil wr)
      have Z2 := Lib.hid (spcells_nil wr)
      have Z3 := Lib.hid (spstep_none (nonext_nil wr no) c)
      have HT7 := Lib.hid (HT6.out.below hbe)
      have HW9 := Lib.hid (spawake_any wr)
      clear hbe
      go_wp2_with fail
      refine Z0.out.mono ?_
      rintro e w' ⟨rfl, hw⟩
      obtain rfl := hw.symm
      clear hw Z0
      go_wp2_with fail
      refine Z1.out.mono ?_
      rintro e w' ⟨rfl, hw⟩
      obtain rfl := hw.symm
      clear hw Z1
      go_wp2_with fail
      refine Z2.out.mono ?_
      rintro e w' ⟨rfl, hw⟩
      obtain rfl := hw.symm
      clear hw Z2
      go_wp2_with fail
      refine Z3.out.mono ?_
      rintro e w' ⟨rfl, hw⟩
      obtain rfl := hw.symm
      clear hw Z3
      by_cases g0 : 0 ≤ no
      · have q0 : decide (0 ≤ no) = true := decide_eq_true g0
        by_cases g1 : no < (S'.length : Int)
        · have q1 : decide (no < (S'.length : Int)) = true := decide_eq_true g1
          obtain ⟨k, rfl⟩ : ∃ k : Nat, no = (k : Int) := ⟨no.toNat, by omega⟩
          obtain ⟨s, hs⟩ : ∃ s, S'[k]? = some s := ⟨_, List.getElem?_eq_getElem (show k < S'.length by omega)⟩
          have HNx := Lib.hid (sps_next HT7.out k hs c)
          clear HT7 hs
          by_cases hin : s ++ [c] ∈ S'
          · go_wp2_with fail
            refine HNx.out.mono ?_
            rintro e w' ⟨⟨h1, _⟩, hw⟩
            obtain rfl := hw.symm
            obtain ⟨m, rfl, hm⟩ := h1 hin
            clear hw HNx h1 hm hin
            go_wp2_with fail
            refine HW9.out.mono ?_
            rintro e w9 ⟨rfl, hb9⟩
            have d9 := D7.out.trans (hb9.mono D7.out.size)
            go_wp2
            go_ret
            exact ⟨rfl, d9⟩
          · go_wp2_with fail
            refine HNx.out.mono ?_
            rintro e w' ⟨⟨_, h1⟩, hw⟩
            obtain rfl := hw.symm
            obtain rfl := h1 hin
            clear hw HNx h1 hin
            go_wp2_with fail
            refine HW9.out.mono ?_
            rintro e w9 ⟨rfl, hb9⟩
            have d9 := D7.out.trans (hb9.mono D7.out.size)
            go_wp2
            go_ret
            exact ⟨rfl, d9⟩
        · have q1 : decide (no < (S'.length : Int)) = false := decide_eq_false g1
          have hno := sps_nonext HT7.out (s := no) (.inr (by omega))
          have Y1 := Lib.hid (spnext_none hno c)
          have Y2 := Lib.hid (spstep_none hno c)
          clear HT7 hno
          go_wp2_with fail
          refine Y1.out.mono ?_
          rintro e w' ⟨rfl, hw⟩
          obtain rfl := hw.symm
          clear hw Y1
          go_wp2_with fail
          refine Y2.out.mono ?_
          rintro e w' ⟨rfl, hw⟩
          obtain rfl := hw.symm
          clear hw Y2
          go_wp2_with fail
          refine HW9.out.mono ?_
          rintro e w9 ⟨rfl, hb9⟩
          have d9 := D7.out.trans (hb9.mono D7.out.size)
          go_wp2
          go_ret
          exact ⟨rfl, d9⟩
      · have q0 : decide (0 ≤ no) = false := decide_eq_false g0
        have hno := sps_nonext HT7.out (s := no) (.inl (by omega))
        have Y1 := Lib.hid (spnext_none hno c)
        have Y2 := Lib.hid (spstep_none hno c)
        clear HT7 hno
        go_wp2_with fail
        refine Y1.out.mono ?_
        rintro e w' ⟨rfl, hw⟩
        obtain rfl := hw.symm
        clear hw Y1
        go_wp2_with fail
        refine Y2.out.mono ?_
        rintro e w' ⟨rfl, hw⟩
        obtain rfl := hw.symm
        clear hw Y2
        go_wp2_with fail
        refine HW9.out.mono ?_
        rintro e w9 ⟨rfl, hb9⟩
        have d9 := D7.out.trans (hb9.mono D7.out.size)
        go_wp2
        go_ret
        exact ⟨rfl, d9⟩
end Go.Proofs.Ytnechkljecdfkaa
