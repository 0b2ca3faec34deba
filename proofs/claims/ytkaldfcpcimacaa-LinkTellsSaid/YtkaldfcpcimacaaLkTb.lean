/-
  The law LinkReads: walked.
-/
import Derived.Test.YtkaldfcpcimacaaBn7
import Derived.Test.YtkaldfcpcimacaaBn9
import Derived.Deep.RegionHeld3
import Derived.Deep.LoopGhost
import Derived.Deep.CutRange
set_option linter.unusedSimpArgs false
set_option linter.unusedVariables false
namespace Go.Proofs.Ytkaldfcpcimacaa
open Go.RowKit

theorem few_no8 (a : Option Addr) (len cap : Nat) (ws : List (List UInt8)) (w : World) (hlen : len ≤ 9223372036854775807) (hr : IsStrs w a len ws) (ht : ∀ t ∈ ws, t.length ≤ 9223372036854775807) (β : Bool) (hq : fewB ws 8 12 = β) :
    Calls Try.prog 6 #[.slice a len cap, .int .i64 8, .int .i64 12] w fun e w' => e = .returned (.bool β) ∧ w' = w := by
  have := few_any a len cap ws 8 12 w hlen (by omega) (by omega) hr ht
  rw [hq] at this
  exact this

set_option maxHeartbeats 1000000 in
theorem lkreads_many (a : Option Addr) (len cap : Nat) (s : List UInt8) (ws : List (List UInt8)) (w : World) (hlen : len ≤ 9223372036854775807) (hr : IsStrs w a len ws) (ht : ∀ t ∈ ws, t.length ≤ 9223372036854775807) (hq : fewB ws 8 12 = false) :
    Calls Try.prog 4 #[.slice a len cap, .string ⟨s.toArray⟩] w fun e w' => e = .returned (.bool true) ∧ Below w.heap.size w w' := by
  have HF := Lib.hid (few_no8 a len cap ws w hlen hr ht _ hq)
  clear hr ht hq
  go_enter Try.func4, Try.ntmps4
  go_wp2_with fail
  refine HF.out.mono ?_
  rintro e w' ⟨rfl, rfl⟩
  go_wp2_with fail
  refine (lkawake_any _).mono ?_
  rintro e w' ⟨rfl, hb⟩
  go_wp2
  go_ret
  exact ⟨rfl, hb⟩

set_option maxHeartbeats 1000000 in
theorem lkreads_long (a : Option Addr) (len cap : Nat) (s : List UInt8) (ws : List (List UInt8)) (w : World) (hr : IsStrs w a len ws) (hq : fewB ws 8 12 = true) (hs : 60 < s.length) :
    Calls Try.prog 4 #[.slice a len cap, .string ⟨s.toArray⟩] w fun e w' => e = .returned (.bool true) ∧ Below w.heap.size w w' := by
  have hfw := (few_iff ws 8 12).1 hq
  have hwl := hr.1
  have HF := Lib.hid (few_no8 a len cap ws w (by omega) hr (fun t ht => by have := hfw.2 t ht; omega) _ hq)
  have HZ := Lib.hid (bsize s)
  have g1 : (60 : Int) < (s.length : Int) := by omega
  clear hr hq hfw hwl
  go_enter Try.func4, Try.ntmps4
  go_wp2_with fail
  refine HF.out.mono ?_
  rintro e w' ⟨rfl, rfl⟩
  go_wp2_with fail
  refine (lkawake_any _).mono ?_
  rintro e w' ⟨rfl, hb⟩
  go_wp2
  go_ret
  exact ⟨rfl, hb⟩

/-- The patterns that end where a text ends end where its longest state ends. -/
theorem hs_lg {us S : List (List UInt8)} (h : IsSt us S) (u : List UInt8) : hsL us (lgL S u) = hsL us u := by
  unfold hsL
  have : ∀ k, k ≤ us.length → hkL us (lgL S u) k = hkL us u k := fun k => by
    induction k with
    | zero => intro _; rfl
    | succ k ih =>
      intro hk
      have hm : us.getD k [] ∈ us := by
        rw [List.getD_eq_getElem?_getD, List.getElem?_eq_getElem (by omega)]
        exact List.getElem_mem _
      have : us.getD k [] <:+ lgL S u ↔ us.getD k [] <:+ u := ⟨fun hs => hs.trans (lg_end S u), fun hs => lg_max (st_pats h _ hm) hs⟩
      unfold hkL
      rw [ih (by omega)]
      simp only [this]
  exact this _ (Nat.le_refl _)

/-- A row of numbers, to be read: as an answer with a world behind it. -/
theorem retn_row {zs : List Int} {w w' : World} {e : Ending} (h : RetN zs w e w') (hm : zs.length ≤ maxLen) : ∃ a c, e = .returned (.slice a zs.length c) ∧ IsRow .i64 w' a zs.length zs.length zs ∧ Below w.heap.size w w' := by
  obtain ⟨v, rfl, hown, hb⟩ := h
  obtain ⟨a, c, rfl, hr⟩ := row_of_ints hown hm
  exact ⟨a, c, rfl, hr, hb⟩

set_option maxRecDepth 100000 in
set_option maxHeartbeats 8000000 in
theorem lkreads_few (a : Option Addr) (len cap : Nat) (s : List UInt8) (ws : List (List UInt8)) (w : World) (hr : IsStrs w a len ws) (hq : fewB ws 8 12 = true) (hs : s.length ≤ 60) :
    Calls Try.prog 4 #[.slice a len cap, .string ⟨s.toArray⟩] w fun e w' => e = .returned (.bool true) ∧ Below w.heap.size w w' := by
  have hwl := hr.1
  have hfw := (few_iff ws 8 12).1 hq
  have hlen : len ≤ 8 := by omega
  have HF := Lib.hid (few_no8 a len cap ws w (by omega) hr (fun t ht => by have := hfw.2 t ht; omega) _ hq)
  have HN := Lib.hid (ptnew_all a len cap ws w (by omega) hr (fun t ht => by have := hfw.2 t ht; omega))
  have HN2 := Lib.hid (fun (w2 : World) (hb : Below w.heap.size w w2) => rptnew_all a len cap ws w2 (by omega) (hr.below hb) (fun t ht => by have := hfw.2 t ht; omega))
  obtain ⟨hs1, hs2⟩ := few_setN hq
  have HA := Lib.hid (set_asc ws)
  have HTn := Lib.hid (fun (w2 : World) (p : Option Addr) (h : IsPats w2 p (setL ws)) => lknew_set h)
  generalize setL ws = us at *
  generalize faultL ws = f at HN HN2
  have htot := total_le hs2
  have HRs := Lib.hid (fun (w2 : World) (a2 : Option Addr) (cap2 : Nat) (h : IsStrs w2 a2 us.length us) => rstates_any a2 us.length cap2 us w2 (by omega) h HA.out (fun t ht => by have := hs2 t ht; omega) (by omega))
  have hul : us.length ≤ 8 := hs1
  have HUL := Lib.hid hs2
  have HZ := Lib.hid (bsize s)
  have g60 : ¬ (60 : Int) < (s.length : Int) := by omega
  clear hr hq hfw hwl hs1 hs2
  go_enter Try.func4, Try.ntmps4
  go_wp2_with fail
  refine HF.out.mono ?_
  rintro e w' ⟨rfl, hw⟩
  obtain rfl := hw.symm
  clear HF hw
  go_wp2_with fail
  refine HN.out.mono ?_
  rintro e w1 ⟨p, rfl, hp, d1⟩
  have e1 := d1.size
  have HN3 := Lib.hid (HN2.out w1 d1)
  have HP1 := Lib.hid hp
  have HNu := Lib.hid (pats_nodup hp)
  clear HN HN2 hp g60
  go_wp2_with fail
  refine HN3.out.mono ?_
  rintro e w2 ⟨a2, cap2, rfl, hstr, hb2⟩
  have d2 := d1.trans (hb2.mono e1)
  have e2 := d2.size
  have HB2 := Lib.hid (HTn.out w2 p (HP1.out.below hb2))
  have T2 := Lib.hid hstr
  have HP2 := Lib.hid (HP1.out.below hb2)
  clear HN3 hb2 d1 e1 hstr HP1 HTn
  go_wp2_with fail
  refine HB2.out.mono ?_
  rintro e w3 ⟨kp, q, S, F, rfl, hT, hb3⟩
  have d3 := d2.trans (hb3.mono e2)
  have e3 := d3.size
  have T3 := Lib.hid (T2.out.below hb3)
  have HS3 := Lib.hid (HRs.out w3 a2 cap2 T3.out)
  have HP3 := Lib.hid (HP2.out.below hb3)
  have HT3 := Lib.hid hT
  have hSt := hT.tr.st
  have hSf := hT.tr.few
  have hroot := hT.root
  clear HB2 HRs T2 hb3 hT d2 e2 HP2
  go_wp2_with fail
  refine HS3.out.mono ?_
  rintro e w4 ⟨S', a4, cap4, rfl, hst', hstr4, hb4⟩
  obtain rfl : S' = S := hst'.unique hSt
  have d4 := d3.trans (hb4.mono e3)
  have e4 := d4.size
  have HT4 := Lib.hid (HT3.out.below hb4)
  have HP4 := Lib.hid (HP3.out.below hb4)
  have T4 := Lib.hid (T3.out.below hb4)
  have HS4 := Lib.hid hstr4
  have HSt := Lib.hid hSt
  have HNd := Lib.hid (slx_nodup hSt.1)
  have HR0 := Lib.hid hroot
  clear HS3 HT3 T3 HP3 hb4 hstr4 hst' hSt d3 e3 hroot
  have hS2 : S'.length ≤ 97 := by omega
  clear hSf
  go_wp2
  go_loopg [11, 12] s.length (fun gx x y wr => ∃ k j : Nat, k ≤ s.length ∧ gx = s.length - k ∧ y = .int .i64 k ∧ x = .int .i64 j ∧ Hid (S'[j]? = some (lgL S' (s.take k))) ∧ Below w4.heap.size w4 wr)
  case atStart => exact ⟨0, 0, Nat.zero_le _, rfl, rfl, rfl, Lib.hid (by simpa [lgL] using HR0.out), Below.refl _ _⟩
  case round =>
    obtain ⟨k, j, hk, rfl, rfl, rfl, hj, hbe⟩ := hrel
    have hsz := hbe.size
    by_cases hlt : k < s.length
    · have hTr := HT4.out.below hbe
      have hzb : k < (⟨s.toArray⟩ : ByteArray).size := by rw [bsize]; omega
      have HB := byteAt s k (by omega) hzb
      have HSt2 := Lib.hid (lkstep_in hTr j hj.out (List.getElem?_eq_some_iff.1 hj.out).1 s[k])
      have et : s.take (k + 1) = s.take k ++ [s[k]] := List.take_succ_eq_append_getElem hlt
      have HE := Lib.hid (show lgL S' (lgL S' (s.take k) ++ [s[k]]) = lgL S' (s.take (k + 1)) by rw [et]; exact (lg_snoc (st_closed HSt.out) _ _).symm)
      rw [HE.out] at HSt2
      have hul2 : (s.take (k + 1)).length = k + 1 := by rw [List.length_take]; omega
      have hx := ext_cut s 0 (k + 1)
      rw [List.drop_zero] at hx
      have HLg := Lib.hid (fun W (hb : Below wr.heap.size wr W) (z : Int) (hz : z = ((k + 1 : Nat) : Int)) => show Calls Try.prog 23 #[.slice a4 S'.length cap4, .string ⟨(s.take (k + 1)).toArray⟩, .int .i64 z] W (fun e w' => e = .returned (.int .i64 (ixL (lgL S' (s.take (k + 1))) S')) ∧ w' = W) from by
        subst hz
        have := rlongest_any a4 S'.length cap4 S' (s.take (k + 1)) (k + 1) W (by omega) ((HS4.out.below hbe).below hb) (List.mem_of_getElem? HR0.out) (by omega) (by omega)
        rw [hul2, Nat.sub_self, List.drop_zero] at this
        exact this)
      have HRh := Lib.hid (fun W (hb : Below wr.heap.size wr W) => (rlkhits_any a2 us.length cap2 us (s.take (k + 1)) W (by omega) ((T4.out.below hbe).below hb) (fun t ht => by have := HUL.out t ht; omega) (by omega)).mono fun e w' h => retn_row h (by have := hk_few us (s.take (k + 1)) us.length; unfold hsL maxLen; omega))
      have HHi := Lib.hid (fun W (hb : Below wr.heap.size wr W) (n : Nat) (hn : S'[n]? = some (lgL S' (s.take (k + 1)))) => (lkhits_in (hTr.below hb) ((HP4.out.below hbe).below hb) HNu.out n hn).mono fun e w' h => by
        rw [hs_lg HSt.out] at h
        exact retn_row h (by have := hk_few us (s.take (k + 1)) us.length; unfold hsL maxLen; omega))
      have hNl : (hsL us (s.take (k + 1))).length ≤ 8 := by have := hk_few us (s.take (k + 1)) us.length; unfold hsL; omega
      have HIx := Lib.hid (fun (n : Nat) (hn : S'[n]? = some (lgL S' (s.take (k + 1)))) => ix_is HNd.out hn)
      generalize s[k] = c at *
      generalize hU : s.take (k + 1) = u at *
      generalize hsL us u = H at *
      generalize hTT : lgL S' u = tt at *
      have HU := Lib.hid hU
      have HTT := Lib.hid hTT
      have w1 : IntKind.i64.wrap ((k : Int) + 1) = (k : Int) + 1 := by rw [IntKind.wrap_i64]; omega
      have q1 : (0 : Int) ≤ (k : Int) := by omega
      have q2 : (k : Int) < (s.length : Int) := by omega
      have q3 : (0 : Int) ≤ (k : Int) + 1 := by omega
      have q4 : (k : Int) + 1 ≤ (s.length : Int) := by omega
      have q5 : ((k : Int) + 1).toNat = k + 1 := by omega
      clear hTr et hj hU hTT
      go_wp2_with fail
      refine HSt2.out.mono ?_
      rintro e w5 ⟨n, rfl, hn, hb5⟩
      have DA := Lib.hid hb5
      have HIx2 := HIx.out n hn
      have HHi2 := Lib.hid (fun W hb => HHi.out W hb n hn)
      have HNn := Lib.hid hn
      rw [HIx2] at HLg
      clear hb5 HSt2 HIx HIx2 HHi hn
      have r0 : ((n : Int) != (n : Int)) = false := by simp
      go_upto_region 12 with fail
      go_region_held3 (fun _ => True) (trivial) (first
        | (go_at_call 23
           refine (HLg.out _ (by first | with_reducible exact DA.out | with_reducible exact DA.out.drew) _ (by omega)).mono ?_
           rintro e wA ⟨rfl, rfl⟩)
        | (go_at_call 19
           refine (HHi2.out _ (by first | with_reducible exact DA.out | with_reducible exact DA.out.drew)).mono ?_
           rintro e wA ⟨aA, cA, rfl, hrA, hbA⟩
           have DA : Hid (Below wr.heap.size wr wA) := Lib.hid (Below.trans (by first | with_reducible exact DA.out | with_reducible exact DA.out.drew) (hbA.mono (Below.size (by first | with_reducible exact DA.out | with_reducible exact DA.out.drew))))
           have RA := Lib.hid hrA
           clear hrA hbA)
        | (go_at_call 20
           refine (HRh.out _ (by first | with_reducible exact DA.out | with_reducible exact DA.out.drew)).mono ?_
           rintro e wB ⟨aB, cB, rfl, hrB, hbB⟩
           have DA : Hid (Below wr.heap.size wr wB) := Lib.hid (Below.trans (by first | with_reducible exact DA.out | with_reducible exact DA.out.drew) (hbB.mono (Below.size (by first | with_reducible exact DA.out | with_reducible exact DA.out.drew))))
           have RA : Hid (IsRow .i64 wB aA H.length H.length H) := Lib.hid (by first | with_reducible exact RA.out.below hbB | with_reducible exact (RA.out.below (Below.refl _ _).drew).below hbB)
           have RB := Lib.hid hrB
           clear hrB hbB)
        | (go_at_call 18
           refine (isame_any aA aB H.length cA cB H.length H.length H _ (by omega) (by first | with_reducible exact RA.out | with_reducible exact RA.out.below (Below.refl _ _).drew) (by first | with_reducible exact RB.out | with_reducible exact RB.out.below (Below.refl _ _).drew)).mono ?_
           rintro e wC ⟨rfl, hbC⟩
           have DA : Hid (Below wr.heap.size wr wC) := Lib.hid (Below.trans (by first | with_reducible exact DA.out | with_reducible exact DA.out.drew) (hbC.mono (Below.size (by first | with_reducible exact DA.out | with_reducible exact DA.out.drew))))
           clear hbC))
      all_goals
        have D9 := Lib.hid (hbe.trans ((show Below wr.heap.size wr _ from (by first | with_reducible exact DA.out | with_reducible exact DA.out.drew)).mono hsz))
        clear DA RA RB
        go_wp2
        go_roundg (s.length - (k + 1))
        case measure => omega
        case rel => exact ⟨k + 1, n, by omega, rfl, by go_num, rfl, Lib.hid (by rw [HU.out, HTT.out]; exact HNn.out), D9.out⟩
    · have hkk : k = s.length := by omega
      have q2 : ¬ (k : Int) < (s.length : Int) := by omega
      have d9 := Lib.hid (d4.trans (hbe.mono e4))
      clear hkk
      go_wp2_with fail
      refine (lkawake_any _).mono ?_
      rintro e w9 ⟨rfl, hb9⟩
      have dA := Lib.hid (d9.out.trans (hb9.mono d9.out.size))
      go_wp2
      go_ret
      exact ⟨rfl, dA.out⟩
end Go.Proofs.Ytkaldfcpcimacaa
