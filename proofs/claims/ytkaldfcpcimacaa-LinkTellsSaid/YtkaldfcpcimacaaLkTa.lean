/-
  The law LinkTells: walked.
-/
import Derived.Test.YtkaldfcpcimacaaLkTb
set_option linter.unusedSimpArgs false
set_option linter.unusedVariables false
namespace Go.Proofs.Ytkaldfcpcimacaa
open Go.RowKit

set_option maxHeartbeats 1000000 in
theorem lktells_many (a : Option Addr) (len cap : Nat) (c : UInt8) (ws : List (List UInt8)) (w : World) (hlen : len ≤ 9223372036854775807) (hr : IsStrs w a len ws) (ht : ∀ t ∈ ws, t.length ≤ 9223372036854775807) (hq : fewB ws 8 12 = false) :
    Calls Try.prog 3 #[.slice a len cap, .int .u8 (c.toNat : Int)] w fun e w' => e = .returned (.bool true) ∧ Below w.heap.size w w' := by
  have HF := Lib.hid (few_no8 a len cap ws w hlen hr ht _ hq)
  clear hr ht hq
  go_enter Try.func3, Try.ntmps3
  go_wp2_with fail
  refine HF.out.mono ?_
  rintro e w' ⟨rfl, rfl⟩
  go_wp2_with fail
  refine (lkawake_any _).mono ?_
  rintro e w' ⟨rfl, hb⟩
  go_wp2
  go_ret
  exact ⟨rfl, hb⟩

/-- Operations of the law that are not wanted, as it has them. -/
@[go_sem] def lkOp65 : Oper := { dst := some 65, op := Op.move (Operand.tmp 12), type := 3, pos := "law.go:37", after := #[{ on := 15, ground := Ground.guard }], guard := some (15, true) }
@[go_sem] def lkOp66 : Oper := { dst := some 66, op := Op.move (Operand.tmp 14), type := 3, pos := "law.go:37", after := #[{ on := 15, ground := Ground.guard }], guard := some (15, true) }
@[go_sem] def lkOp67 : Oper := { dst := some 67, op := Op.binOp BinOp.neq 3 (Operand.tmp 65) (Operand.tmp 66) 3, type := 4, pos := "law.go:37", after := #[{ on := 16, ground := Ground.data }, { on := 17, ground := Ground.data }, { on := 15, ground := Ground.guard }], guard := some (15, true) }
@[go_sem] def lkOp74 : Oper := { dst := some 74, op := Op.move (Operand.tmp 12), type := 3, pos := "law.go:37", after := #[{ on := 24, ground := Ground.guard }], guard := some (24, true) }
@[go_sem] def lkOp75 : Oper := { dst := some 75, op := Op.binOp BinOp.neq 3 (Operand.tmp 74) (Operand.const (Value.int IntKind.i64 0)) 3, type := 4, pos := "law.go:37", after := #[{ on := 25, ground := Ground.data }, { on := 24, ground := Ground.guard }], guard := some (24, true) }

set_option maxRecDepth 100000 in
set_option maxHeartbeats 8000000 in
theorem lktells_few (a : Option Addr) (len cap : Nat) (c : UInt8) (ws : List (List UInt8)) (w : World) (hr : IsStrs w a len ws) (hq : fewB ws 8 12 = true) :
    Calls Try.prog 3 #[.slice a len cap, .int .u8 (c.toNat : Int)] w fun e w' => e = .returned (.bool true) ∧ Below w.heap.size w w' := by
  have hwl := hr.1
  have hfw := (few_iff ws 8 12).1 hq
  have hlen : len ≤ 8 := by omega
  have HF := Lib.hid (few_no8 a len cap ws w (by omega) hr (fun t ht => by have := hfw.2 t ht; omega) _ hq)
  have HN := Lib.hid (ptnew_all a len cap ws w (by omega) hr (fun t ht => by have := hfw.2 t ht; omega))
  have HN2 := Lib.hid (fun (w2 : World) (hb : Below w.heap.size w w2) => rptnew_all a len cap ws w2 (by omega) (hr.below hb) (fun t ht => by have := hfw.2 t ht; omega))
  obtain ⟨hs1, hs2⟩ := few_setN hq
  have HA := Lib.hid (set_asc ws)
  have HTn := Lib.hid (fun (w2 : World) (p : Option Addr) (h : IsPats w2 p (setL ws)) => lknew_set h)
  generalize setL ws = us at *
  generalize faultL ws = f at HN HN2
  have htot := total_le hs2
  have HRs := Lib.hid (fun (w2 : World) (a2 : Option Addr) (cap2 : Nat) (h : IsStrs w2 a2 us.length us) => rstates_any a2 us.length cap2 us w2 (by omega) h HA.out (fun t ht => by have := hs2 t ht; omega) (by omega))
  have hul : us.length ≤ 8 := hs1
  have HUL := Lib.hid hs2
  clear hr hq hfw hwl hs1 hs2
  go_enter Try.func3, Try.ntmps3
  go_wp2_with fail
  refine HF.out.mono ?_
  rintro e w' ⟨rfl, hw⟩
  obtain rfl := hw.symm
  clear HF hw
  go_wp2_with fail
  refine HN.out.mono ?_
  rintro e w1 ⟨p, rfl, hp, d1⟩
  have e1 := d1.size
  have HN3 := Lib.hid (HN2.out w1 d1)
  have HP1 := Lib.hid hp
  have HNu := Lib.hid (pats_nodup hp)
  clear HN HN2 hp
  go_wp2_with fail
  refine HN3.out.mono ?_
  rintro e w2 ⟨a2, cap2, rfl, hstr, hb2⟩
  have d2 := d1.trans (hb2.mono e1)
  have e2 := d2.size
  have HB2 := Lib.hid (HTn.out w2 p (HP1.out.below hb2))
  have T2 := Lib.hid hstr
  have HP2 := Lib.hid (HP1.out.below hb2)
  clear HN3 hb2 d1 e1 hstr HP1 HTn
  go_wp2_with fail
  refine HB2.out.mono ?_
  rintro e w3 ⟨kp, q, S, F, rfl, hT, hb3⟩
  have d3 := d2.trans (hb3.mono e2)
  have e3 := d3.size
  have T3 := Lib.hid (T2.out.below hb3)
  have HS3 := Lib.hid (HRs.out w3 a2 cap2 T3.out)
  have HP3 := Lib.hid (HP2.out.below hb3)
  have HT3 := Lib.hid hT
  have hSt := hT.tr.st
  have hSf := hT.tr.few
  have hroot := hT.root
  clear HB2 HRs T2 hb3 hT d2 e2 HP2
  go_wp2_with fail
  refine HS3.out.mono ?_
  rintro e w4 ⟨S', a4, cap4, rfl, hst', hstr4, hb4⟩
  obtain rfl : S' = S := hst'.unique hSt
  have d4 := d3.trans (hb4.mono e3)
  have e4 := d4.size
  have HT4 := Lib.hid (HT3.out.below hb4)
  have HP4 := Lib.hid (HP3.out.below hb4)
  have T4 := Lib.hid (T3.out.below hb4)
  have HS4 := Lib.hid hstr4
  have HSt := Lib.hid hSt
  have HNd := Lib.hid (slx_nodup hSt.1)
  have HR0 := Lib.hid hroot
  clear HS3 HT3 T3 HP3 hb4 hstr4 hst' hSt d3 e3 hroot
  have hS2 : S'.length ≤ 97 := by omega
  clear hSf
  go_wp2
  go_loopg [11] S'.length (fun gx x wr => ∃ k : Nat, k ≤ S'.length ∧ gx = S'.length - k ∧ x = .int .i64 k ∧ Below w4.heap.size w4 wr)
  case atStart => exact ⟨0, Nat.zero_le _, rfl, rfl, Below.refl _ _⟩
  case round =>
    obtain ⟨k, hk, rfl, rfl, hbe⟩ := hrel
    have hsz := hbe.size
    by_cases hlt : k < S'.length
    · obtain ⟨b, off, rfl, s, hf, hc⟩ := str_at HS4.out hbe k hlt
      have hTr := HT4.out.below hbe
      have hsl : s.length ≤ 12 := by
        rcases (HSt.out.2 s).1 (List.mem_of_getElem? hf) with rfl | hb
        · simp
        · obtain ⟨t, ht, hp⟩ := beg_iff.1 hb
          exact Nat.le_trans hp.length_le (HUL.out t ht)
      obtain ⟨fa, fo, hF, hfa, hfo⟩ := hTr.ok.at_ k s hlt hf
      have hz := hTr.zero hfo
      have HLS := Lib.hid (fun t (ht : t ∈ S') => show t.length ≤ 12 from by
        rcases (HSt.out.2 t).1 ht with rfl | hb
        · simp
        · obtain ⟨u, hu, hp⟩ := beg_iff.1 hb
          exact Nat.le_trans hp.length_le (HUL.out u hu))
      have HOu := Lib.hid (lkout_any hTr.has (k : Int))
      rw [flOf_in hF] at HOu
      have hpne := pats_some (HP4.out.below hbe)
      have HRo := Lib.hid (fun W (hb : Below wr.heap.size wr W) => rlkout_any a2 us.length cap2 us (some ⟨b, off, none⟩) S'.length cap4 S' W (by omega) (by omega) ((T4.out.below hbe).below hb) ((HS4.out.below hbe).below hb) hpne (fun t ht => by have := HLS.out t ht; omega) k hf)
      have HFa0 := Lib.hid (fun W (hb : Below wr.heap.size wr W) => lkfail_any (hTr.below hb).has (k : Int))
      rw [flOf_in hF] at HFa0
      have HRf0 := Lib.hid (fun W (hb : Below wr.heap.size wr W) => rlkfail_any (some ⟨b, off, none⟩) S'.length cap4 S' W (by omega) ((HS4.out.below hbe).below hb) HR0.out HNd.out (fun t ht => by have := HLS.out t ht; omega) k hf)
      rw [ix_is HNd.out hfa] at HRf0
      have HSp0 := Lib.hid (fun W (hb : Below wr.heap.size wr W) => show Calls Try.prog 16 #[.pointer kp, .int .i64 (k : Int), .int .u8 (c.toNat : Int)] W (fun e w' => e = .returned (.int .i64 (ixL (lgL S' (s ++ [c])) S')) ∧ Below W.heap.size W w') from by
        refine (lkstep_in (hTr.below hb) k hf hlt c).mono ?_
        rintro e w' ⟨n, rfl, hn, hb'⟩
        exact ⟨by rw [ix_is HNd.out hn], hb'⟩)
      have HRp0 := Lib.hid (fun W (hb : Below wr.heap.size wr W) => rlkstep_any (some ⟨b, off, none⟩) S'.length cap4 S' W (by omega) ((HS4.out.below hbe).below hb) (List.mem_of_getElem? HR0.out) (fun t ht => by have := HLS.out t ht; omega) k hf c)
      have HHi0 := Lib.hid (fun W (hb : Below wr.heap.size wr W) => (lkhits_in (hTr.below hb) ((HP4.out.below hbe).below hb) HNu.out k hf).mono fun e w' h => retn_row h (by have := hk_few us s us.length; unfold hsL maxLen; omega))
      have HRh0 := Lib.hid (fun W (hb : Below wr.heap.size wr W) => (rlkhits_any a2 us.length cap2 us s W (by omega) ((T4.out.below hbe).below hb) (fun t ht => by have := HUL.out t ht; omega) (by omega)).mono fun e w' h => retn_row h (by have := hk_few us s us.length; unfold hsL maxLen; omega))
      have hNl : (hsL us s).length ≤ 8 := by have := hk_few us s us.length; unfold hsL; omega
      have HC0 := Lib.hid (fun W (hb : Below wr.heap.size wr W) => show W.cell? ⟨b, off + k, none⟩ = some (.string ⟨s.toArray⟩) from (hb.cell (p := ⟨b, off + k, none⟩) (World.block_lt_of_cell? wr _ hc)).trans hc)
      have HIx : Hid (fo ≠ 0 → ixL (fbL us s) S' = fo) := Lib.hid (fun _ => ix_is HNd.out hfo)
      generalize hsL us s = H at *
      generalize ixL (lgL S' (s ++ [c])) S' = n at *
      generalize fbL us s = ft at *
      have HZ := Lib.hid (bsize s)
      have q1 : (0 : Int) ≤ (k : Int) := by omega
      have q2 : (k : Int) < (S'.length : Int) := by omega
      clear hTr hfa hfo hF hf
      go_wp2_with fail
      refine HOu.out.mono ?_
      rintro e w5 ⟨he5, hb5⟩
      have D5 := Lib.hid hb5
      have s5 := hb5.size
      have HRo5 := Lib.hid (HRo.out w5 hb5)
      have HFa := Lib.hid (fun W (hb : Below w5.heap.size w5 W) => HFa0.out W (hb5.trans (hb.mono s5)))
      have HRf := Lib.hid (fun W (hb : Below w5.heap.size w5 W) => HRf0.out W (hb5.trans (hb.mono s5)))
      have HSp := Lib.hid (fun W (hb : Below w5.heap.size w5 W) => HSp0.out W (hb5.trans (hb.mono s5)))
      have HRp := Lib.hid (fun W (hb : Below w5.heap.size w5 W) => HRp0.out W (hb5.trans (hb.mono s5)))
      have HHi := Lib.hid (fun W (hb : Below w5.heap.size w5 W) => HHi0.out W (hb5.trans (hb.mono s5)))
      have HRh := Lib.hid (fun W (hb : Below w5.heap.size w5 W) => HRh0.out W (hb5.trans (hb.mono s5)))
      have HC5 := Lib.hid (fun W (hb : Below w5.heap.size w5 W) => HC0.out W (hb5.trans (hb.mono s5)))
      have hc5 := HC5.out w5 (Below.refl _ _)
      have DA := Lib.hid (Below.refl w5.heap.size w5)
      have r0 : ((fa : Int) != (fa : Int)) = false := by simp
      have r1 : ((n : Int) != (n : Int)) = false := by simp
      clear hb5 HOu HRo HFa0 HRf0 HSp0 HRp0 HHi0 HRh0 HC0 hc
      by_cases h0 : fo = 0
      · have e0 := hz.1 h0
        subst h0
        rw [if_pos e0] at HRo5
        obtain rfl : e = .returned (.tuple #[.int .i64 0, .bool false]) := by rw [he5]; rfl
        clear hz HIx e0 he5
        go_wp2_with fail
        refine HRo5.out.mono ?_
        rintro e w' ⟨rfl, hw⟩
        obtain rfl := hw.symm
        clear hw HRo5
        go_upto_region 12 with fail
        rw [show ({ dst := some 65, op := Op.move (Operand.tmp 12), type := 3, pos := "law.go:37", after := #[{ on := 15, ground := Ground.guard }], guard := some (15, true) } : Oper) = lkOp65 from rfl]
        rw [show ({ dst := some 66, op := Op.move (Operand.tmp 14), type := 3, pos := "law.go:37", after := #[{ on := 15, ground := Ground.guard }], guard := some (15, true) } : Oper) = lkOp66 from rfl]
        rw [show ({ dst := some 67, op := Op.binOp BinOp.neq 3 (Operand.tmp 65) (Operand.tmp 66) 3, type := 4, pos := "law.go:37", after := #[{ on := 16, ground := Ground.data }, { on := 17, ground := Ground.data }, { on := 15, ground := Ground.guard }], guard := some (15, true) } : Oper) = lkOp67 from rfl]
        go_region_held3 (fun w' => w'.cell? ⟨b, off + k, none⟩ = some (.string ⟨s.toArray⟩)) (first | with_reducible exact HC5.out _ DA.out | with_reducible exact HC5.out _ DA.out.drew) (first
          | (go_at_call 14
             refine (HFa.out _ (by first | with_reducible exact DA.out | with_reducible exact DA.out.drew)).mono ?_
             rintro e wF ⟨rfl, hbF⟩
             have DA : Hid (Below w5.heap.size w5 wF) := Lib.hid (Below.trans (by first | with_reducible exact DA.out | with_reducible exact DA.out.drew) (hbF.mono (Below.size (by first | with_reducible exact DA.out | with_reducible exact DA.out.drew))))
             clear hbF)
          | (go_at_call 15
             refine (HRf.out _ (by first | with_reducible exact DA.out | with_reducible exact DA.out.drew)).mono ?_
             rintro e wF ⟨rfl, hbF⟩
             have DA : Hid (Below w5.heap.size w5 wF) := Lib.hid (Below.trans (by first | with_reducible exact DA.out | with_reducible exact DA.out.drew) (hbF.mono (Below.size (by first | with_reducible exact DA.out | with_reducible exact DA.out.drew))))
             clear hbF)
          | (go_at_call 16
             refine (HSp.out _ (by first | with_reducible exact DA.out | with_reducible exact DA.out.drew)).mono ?_
             rintro e wF ⟨rfl, hbF⟩
             have DA : Hid (Below w5.heap.size w5 wF) := Lib.hid (Below.trans (by first | with_reducible exact DA.out | with_reducible exact DA.out.drew) (hbF.mono (Below.size (by first | with_reducible exact DA.out | with_reducible exact DA.out.drew))))
             clear hbF)
          | (go_at_call 17
             refine (HRp.out _ (by first | with_reducible exact DA.out | with_reducible exact DA.out.drew)).mono ?_
             rintro e wF ⟨rfl, hbF⟩
             have DA : Hid (Below w5.heap.size w5 wF) := Lib.hid (Below.trans (by first | with_reducible exact DA.out | with_reducible exact DA.out.drew) (hbF.mono (Below.size (by first | with_reducible exact DA.out | with_reducible exact DA.out.drew))))
             clear hbF)
          | (go_at_call 19
             refine (HHi.out _ (by first | with_reducible exact DA.out | with_reducible exact DA.out.drew)).mono ?_
             rintro e wA ⟨aA, cA, rfl, hrA, hbA⟩
             have DA : Hid (Below w5.heap.size w5 wA) := Lib.hid (Below.trans (by first | with_reducible exact DA.out | with_reducible exact DA.out.drew) (hbA.mono (Below.size (by first | with_reducible exact DA.out | with_reducible exact DA.out.drew))))
             have RA := Lib.hid hrA
             clear hrA hbA)
          | (go_at_call 20
             refine (HRh.out _ (by first | with_reducible exact DA.out | with_reducible exact DA.out.drew)).mono ?_
             rintro e wB ⟨aB, cB, rfl, hrB, hbB⟩
             have DA : Hid (Below w5.heap.size w5 wB) := Lib.hid (Below.trans (by first | with_reducible exact DA.out | with_reducible exact DA.out.drew) (hbB.mono (Below.size (by first | with_reducible exact DA.out | with_reducible exact DA.out.drew))))
             have RA : Hid (IsRow .i64 wB aA H.length H.length H) := Lib.hid (by first | with_reducible exact RA.out.below hbB | with_reducible exact (RA.out.below (Below.refl _ _).drew).below hbB)
             have RB := Lib.hid hrB
             clear hrB hbB)
          | (go_at_call 18
             refine (isame_any aA aB H.length cA cB H.length H.length H _ (by omega) (by first | with_reducible exact RA.out | with_reducible exact RA.out.below (Below.refl _ _).drew) (by first | with_reducible exact RB.out | with_reducible exact RB.out.below (Below.refl _ _).drew)).mono ?_
             rintro e wC ⟨rfl, hbC⟩
             have DA : Hid (Below w5.heap.size w5 wC) := Lib.hid (Below.trans (by first | with_reducible exact DA.out | with_reducible exact DA.out.drew) (hbC.mono (Below.size (by first | with_reducible exact DA.out | with_reducible exact DA.out.drew))))
             clear hbC))
        all_goals
          have D9 := Lib.hid (hbe.trans ((Below.trans D5.out ((show Below w5.heap.size w5 _ from (by first | with_reducible exact DA.out | with_reducible exact DA.out.drew)).mono s5)).mono hsz))
          clear DA RA RB
          go_wp2
          go_roundg (S'.length - (k + 1))
          case measure => omega
          case rel => exact ⟨k + 1, by omega, rfl, by go_num, D9.out⟩
      · have e0 : ft ≠ [] := fun e => h0 (hz.2 e)
        rw [if_neg e0, HIx.out h0] at HRo5
        obtain rfl : e = .returned (.tuple #[.int .i64 (fo : Int), .bool true]) := by rw [he5, decide_eq_true (show 0 < fo by omega)]
        have p1 : (0 : Int) ≤ (fo : Int) := by omega
        have p2 : decide ((0 : Int) ≤ (fo : Int)) = true := decide_eq_true p1
        have p3 : ((fo : Int) != (fo : Int)) = false := by simp
        clear hz HIx e0 he5
        go_wp2_with fail
        refine HRo5.out.mono ?_
        rintro e w' ⟨rfl, hw⟩
        obtain rfl := hw.symm
        clear hw HRo5
        go_upto_region 12 with fail
        rw [show ({ dst := some 74, op := Op.move (Operand.tmp 12), type := 3, pos := "law.go:37", after := #[{ on := 24, ground := Ground.guard }], guard := some (24, true) } : Oper) = lkOp74 from rfl]
        rw [show ({ dst := some 75, op := Op.binOp BinOp.neq 3 (Operand.tmp 74) (Operand.const (Value.int IntKind.i64 0)) 3, type := 4, pos := "law.go:37", after := #[{ on := 25, ground := Ground.data }, { on := 24, ground := Ground.guard }], guard := some (24, true) } : Oper) = lkOp75 from rfl]
        go_region_held3 (fun w' => w'.cell? ⟨b, off + k, none⟩ = some (.string ⟨s.toArray⟩)) (first | with_reducible exact HC5.out _ DA.out | with_reducible exact HC5.out _ DA.out.drew) (first
          | (go_at_call 14
             refine (HFa.out _ (by first | with_reducible exact DA.out | with_reducible exact DA.out.drew)).mono ?_
             rintro e wF ⟨rfl, hbF⟩
             have DA : Hid (Below w5.heap.size w5 wF) := Lib.hid (Below.trans (by first | with_reducible exact DA.out | with_reducible exact DA.out.drew) (hbF.mono (Below.size (by first | with_reducible exact DA.out | with_reducible exact DA.out.drew))))
             clear hbF)
          | (go_at_call 15
             refine (HRf.out _ (by first | with_reducible exact DA.out | with_reducible exact DA.out.drew)).mono ?_
             rintro e wF ⟨rfl, hbF⟩
             have DA : Hid (Below w5.heap.size w5 wF) := Lib.hid (Below.trans (by first | with_reducible exact DA.out | with_reducible exact DA.out.drew) (hbF.mono (Below.size (by first | with_reducible exact DA.out | with_reducible exact DA.out.drew))))
             clear hbF)
          | (go_at_call 16
             refine (HSp.out _ (by first | with_reducible exact DA.out | with_reducible exact DA.out.drew)).mono ?_
             rintro e wF ⟨rfl, hbF⟩
             have DA : Hid (Below w5.heap.size w5 wF) := Lib.hid (Below.trans (by first | with_reducible exact DA.out | with_reducible exact DA.out.drew) (hbF.mono (Below.size (by first | with_reducible exact DA.out | with_reducible exact DA.out.drew))))
             clear hbF)
          | (go_at_call 17
             refine (HRp.out _ (by first | with_reducible exact DA.out | with_reducible exact DA.out.drew)).mono ?_
             rintro e wF ⟨rfl, hbF⟩
             have DA : Hid (Below w5.heap.size w5 wF) := Lib.hid (Below.trans (by first | with_reducible exact DA.out | with_reducible exact DA.out.drew) (hbF.mono (Below.size (by first | with_reducible exact DA.out | with_reducible exact DA.out.drew))))
             clear hbF)
          | (go_at_call 19
             refine (HHi.out _ (by first | with_reducible exact DA.out | with_reducible exact DA.out.drew)).mono ?_
             rintro e wA ⟨aA, cA, rfl, hrA, hbA⟩
             have DA : Hid (Below w5.heap.size w5 wA) := Lib.hid (Below.trans (by first | with_reducible exact DA.out | with_reducible exact DA.out.drew) (hbA.mono (Below.size (by first | with_reducible exact DA.out | with_reducible exact DA.out.drew))))
             have RA := Lib.hid hrA
             clear hrA hbA)
          | (go_at_call 20
             refine (HRh.out _ (by first | with_reducible exact DA.out | with_reducible exact DA.out.drew)).mono ?_
             rintro e wB ⟨aB, cB, rfl, hrB, hbB⟩
             have DA : Hid (Below w5.heap.size w5 wB) := Lib.hid (Below.trans (by first | with_reducible exact DA.out | with_reducible exact DA.out.drew) (hbB.mono (Below.size (by first | with_reducible exact DA.out | with_reducible exact DA.out.drew))))
             have RA : Hid (IsRow .i64 wB aA H.length H.length H) := Lib.hid (by first | with_reducible exact RA.out.below hbB | with_reducible exact (RA.out.below (Below.refl _ _).drew).below hbB)
             have RB := Lib.hid hrB
             clear hrB hbB)
          | (go_at_call 18
             refine (isame_any aA aB H.length cA cB H.length H.length H _ (by omega) (by first | with_reducible exact RA.out | with_reducible exact RA.out.below (Below.refl _ _).drew) (by first | with_reducible exact RB.out | with_reducible exact RB.out.below (Below.refl _ _).drew)).mono ?_
             rintro e wC ⟨rfl, hbC⟩
             have DA : Hid (Below w5.heap.size w5 wC) := Lib.hid (Below.trans (by first | with_reducible exact DA.out | with_reducible exact DA.out.drew) (hbC.mono (Below.size (by first | with_reducible exact DA.out | with_reducible exact DA.out.drew))))
             clear hbC))
        all_goals
          have D9 := Lib.hid (hbe.trans ((Below.trans D5.out ((show Below w5.heap.size w5 _ from (by first | with_reducible exact DA.out | with_reducible exact DA.out.drew)).mono s5)).mono hsz))
          clear DA RA RB
          go_wp2
          go_roundg (S'.length - (k + 1))
          case measure => omega
          case rel => exact ⟨k + 1, by omega, rfl, by go_num, D9.out⟩
    · have hkk : k = S'.length := by omega
      have q2 : ¬ (k : Int) < (S'.length : Int) := by omega
      have d9 := Lib.hid (d4.trans (hbe.mono e4))
      have HTt := Lib.hid (lktrie_any (HT4.out.below hbe).has)
      have HTl := Lib.hid (ts_len (HT4.out.below hbe).tr)
      clear hkk
      go_wp2_with fail
      refine HTt.out.mono ?_
      rintro e w' ⟨rfl, hw⟩
      obtain rfl := hw.symm
      clear hw HTt
      go_wp2_with fail
      refine HTl.out.mono ?_
      rintro e w' ⟨rfl, hw⟩
      obtain rfl := hw.symm
      clear hw HTl
      go_wp2_with fail
      refine (lkawake_any _).mono ?_
      rintro e w9 ⟨rfl, hb9⟩
      have dA := Lib.hid (d9.out.trans (hb9.mono d9.out.size))
      go_wp2
      go_ret
      exact ⟨rfl, dA.out⟩
end Go.Proofs.Ytkaldfcpcimacaa
