/-
  The law LinkFalls: walked.
-/
import Derived.Test.YtkaldfcpcimacaaBn7
import Derived.Deep.LoopGhost
set_option linter.unusedSimpArgs false
set_option linter.unusedVariables false
namespace Go.Proofs.Ytkaldfcpcimacaa
open Go.RowKit

theorem lkfail_out {w : World} {k q : Option Addr} {F : List (Nat × Nat)} (h : HasLk w k q F) (s : Int) (hs : s < 0 ∨ (F.length : Int) ≤ s) : Calls Try.prog 14 #[.pointer k, .int .i64 s] w fun e w' => e = .returned (.int .i64 0) ∧ Below w.heap.size w w' := by
  have := lkfail_any h s
  rw [flOf_out hs] at this
  exact this
theorem lkout_out {w : World} {k q : Option Addr} {F : List (Nat × Nat)} (h : HasLk w k q F) (s : Int) (hs : s < 0 ∨ (F.length : Int) ≤ s) : Calls Try.prog 12 #[.pointer k, .int .i64 s] w fun e w' => e = .returned (.tuple #[.int .i64 0, .bool false]) ∧ Below w.heap.size w w' := by
  have := lkout_any h s
  rw [flOf_out hs] at this
  exact this
/-- What links that know of no such state tell of a number. -/
structure Nought (w : World) (k : Option Addr) (s : Int) (c : UInt8) : Prop where
  fail : Calls Try.prog 14 #[.pointer k, .int .i64 s] w fun e w' => e = .returned (.int .i64 0) ∧ Below w.heap.size w w'
  out : Calls Try.prog 12 #[.pointer k, .int .i64 s] w fun e w' => e = .returned (.tuple #[.int .i64 0, .bool false]) ∧ Below w.heap.size w w'
  step : Calls Try.prog 16 #[.pointer k, .int .i64 s, .int .u8 (c.toNat : Int)] w fun e w' => e = .returned (.int .i64 0) ∧ w' = w
  hits : Calls Try.prog 19 #[.pointer k, .int .i64 s] w fun e w' => e = .returned (.slice none 0 0) ∧ Below w.heap.size w w'
theorem nought_nil (w : World) (s : Int) (c : UInt8) : Nought w none s c := by
  have h0 : s < 0 ∨ (([] : List (Nat × Nat)).length : Int) ≤ s := by simp; omega
  exact ⟨lkfail_out (HasLk.nil w) s h0, lkout_out (HasLk.nil w) s h0, lkstep_out (HasLk.nil w) s h0 c, lkhits_out (p := none) (HasLk.nil w) (.inl ⟨rfl, rfl⟩) rfl s h0⟩
theorem nought_of {w : World} {k q p : Option Addr} {us S : List (List UInt8)} {m : Nat} {F : List (Nat × Nat)} (h : IsLink w k q p us S m F) (s : Int) (hs : s < 0 ∨ (S.length : Int) ≤ s) (c : UInt8) : Nought w k s c := by
  rw [← h.flen] at hs
  obtain ⟨R, hr, ho, _⟩ := h.tr
  exact ⟨lkfail_out h.has s hs, lkout_out h.has s hs, lkstep_out h.has s hs c, lkhits_out h.has hr (by rw [ho.1, h.flen]) s hs⟩

set_option maxHeartbeats 1000000 in
theorem lkfalls_many (a : Option Addr) (len cap : Nat) (s : Int) (c : UInt8) (ws : List (List UInt8)) (w : World) (hlen : len ≤ 9223372036854775807) (hr : IsStrs w a len ws) (ht : ∀ t ∈ ws, t.length ≤ 9223372036854775807) (hq : fewB ws 12 20 = false) :
    Calls Try.prog 5 #[.slice a len cap, .int .i64 s, .int .u8 (c.toNat : Int)] w fun e w' => e = .returned (.bool true) ∧ Below w.heap.size w w' := by
  have HF := Lib.hid (few_noN a len cap ws w hlen hr ht _ hq)
  clear hr ht hq
  go_enter Try.func5, Try.ntmps5
  go_wp2_with fail
  refine HF.out.mono ?_
  rintro e w' ⟨rfl, rfl⟩
  go_wp2_with fail
  refine (lkawake_any _).mono ?_
  rintro e w' ⟨rfl, hb⟩
  go_wp2
  go_ret
  exact ⟨rfl, hb⟩

set_option maxRecDepth 100000 in
set_option maxHeartbeats 4000000 in
theorem lkfalls_few (a : Option Addr) (len cap : Nat) (s : Int) (c : UInt8) (ws : List (List UInt8)) (w : World) (hr : IsStrs w a len ws) (hq : fewB ws 12 20 = true) :
    Calls Try.prog 5 #[.slice a len cap, .int .i64 s, .int .u8 (c.toNat : Int)] w fun e w' => e = .returned (.bool true) ∧ Below w.heap.size w w' := by
  have hwl := hr.1
  have hfw := (few_iff ws 12 20).1 hq
  have hlen : len ≤ 12 := by omega
  have HF := Lib.hid (few_noN a len cap ws w (by omega) hr (fun t ht => by have := hfw.2 t ht; omega) _ hq)
  have HN := Lib.hid (ptnew_all a len cap ws w (by omega) hr (fun t ht => by have := hfw.2 t ht; omega))
  obtain ⟨hs1, hs2⟩ := few_setN hq
  have HTn := Lib.hid (fun (w2 : World) (p : Option Addr) (h : IsPats w2 p (setL ws)) => lknew_set h)
  generalize setL ws = us at *
  generalize faultL ws = f at HN
  have htot := total_le hs2
  have hul : us.length ≤ 12 := hs1
  have HNil := Lib.hid (fun W => nought_nil W s c)
  have HNt := Lib.hid (fun W => lktrie_any (HasLk.nil W))
  clear hr hq hfw hwl hs1 hs2
  go_enter Try.func5, Try.ntmps5
  go_wp2_with fail
  refine HF.out.mono ?_
  rintro e w' ⟨rfl, hw⟩
  obtain rfl := hw.symm
  clear HF hw
  go_wp2_with fail
  refine HN.out.mono ?_
  rintro e w1 ⟨p, rfl, hp, d1⟩
  have e1 := d1.size
  have HB2 := Lib.hid (HTn.out w1 p hp)
  clear HN HTn hp
  go_wp2_with fail
  refine HB2.out.mono ?_
  rintro e w2 ⟨kp, q, S, F, rfl, hT, hb2⟩
  have d2 := d1.trans (hb2.mono e1)
  have e2 := d2.size
  have HT := Lib.hid hT
  have hSf := hT.tr.few
  have HTr := Lib.hid (lktrie_any hT.has)
  have HL := Lib.hid (ts_len hT.tr)
  obtain ⟨hS1, hS2, _⟩ := hSf
  have hS3 : S.length ≤ 241 := by omega
  have z1 : ¬ (S.length : Int) < 1 := by omega
  clear HB2 hb2 hT d1 e1 hS2
  go_wp2_with fail
  refine HTr.out.mono ?_
  rintro e w' ⟨rfl, hw⟩
  obtain rfl := hw.symm
  clear hw HTr
  go_wp2_with fail
  refine HL.out.mono ?_
  rintro e w' ⟨rfl, hw⟩
  obtain rfl := hw.symm
  clear hw HL
  go_wp2
  clear z1
  go_loopg [11] (S.length - 1) (fun gx x wr => ∃ k : Nat, 1 ≤ k ∧ k ≤ S.length ∧ gx = S.length - k ∧ x = .int .i64 k ∧ Below w2.heap.size w2 wr)
  case atStart => exact ⟨1, Nat.le_refl _, hS1, rfl, rfl, Below.refl _ _⟩
  case round =>
    obtain ⟨k, hk1, hk, rfl, rfl, hbe⟩ := hrel
    have hsz := hbe.size
    have hTr := HT.out.below hbe
    have HLr := Lib.hid (ts_len hTr.tr)
    by_cases hlt : k < S.length
    · obtain ⟨t, ht⟩ : ∃ t, S[k]? = some t := ⟨S[k], List.getElem?_eq_getElem hlt⟩
      obtain ⟨fa, fo, hF, hfa, hfo⟩ := hTr.ok.at_ k t hlt ht
      have ht0 : t ≠ [] := fun e => by have := (hTr.zero ht).2 e; omega
      have hless := fb_less (S := S) ht0
      have hfk := hTr.less hfa ht hless
      have hol : (fbL us t).length ≤ (fbL S t).length := by rw [out_via hTr.tr.st]; exact lg_len us _
      have HFa := Lib.hid (lkfail_any hTr.has (k : Int))
      rw [flOf_in hF] at HFa
      have HOu0 := Lib.hid (fun W (hb : Below wr.heap.size wr W) => lkout_any (hTr.below hb).has (k : Int))
      rw [flOf_in hF] at HOu0
      have HD0 := Lib.hid (fun W (hb : Below wr.heap.size wr W) => ts_depth (hTr.below hb).tr fa hfa)
      have HD1 := Lib.hid (fun W (hb : Below wr.heap.size wr W) => ts_depth (hTr.below hb).tr k ht)
      have HD2 := Lib.hid (fun W (hb : Below wr.heap.size wr W) => ts_depth (hTr.below hb).tr fo hfo)
      generalize (fbL S t).length = l1 at *
      generalize (fbL us t).length = l2 at *
      generalize t.length = l0 at *
      have q0 : (k : Int) < (S.length : Int) := by omega
      have q1 : ¬ (fa : Int) < 0 := by omega
      have q2 : ¬ (k : Int) ≤ (fa : Int) := by omega
      have q3 : ¬ (l0 : Int) ≤ (l1 : Int) := by omega
      have q4 : decide ((fa : Int) < 0) = false := decide_eq_false q1
      have q5 : decide ((k : Int) ≤ (fa : Int)) = false := decide_eq_false q2
      have q6 : decide ((l0 : Int) ≤ (l1 : Int)) = false := decide_eq_false q3
      have q7 : decide (k ≤ fa) = false := decide_eq_false (by omega)
      have q8 : decide (l0 ≤ l1) = false := decide_eq_false (by omega)
      have q9 : ¬ (l1 : Int) < (l2 : Int) := by omega
      have q10 : decide ((l1 : Int) < (l2 : Int)) = false := decide_eq_false q9
      have q11 : decide (l1 < l2) = false := decide_eq_false (by omega)
      clear hTr hF hfa hfo ht ht0
      go_wp2_with fail
      refine HLr.out.mono ?_
      rintro e w' ⟨rfl, hw⟩
      obtain rfl := hw.symm
      clear hw HLr
      go_wp2_with fail
      refine HFa.out.mono ?_
      rintro e w3 ⟨rfl, hb3⟩
      have HOu := Lib.hid (HOu0.out w3 hb3)
      have d3 := hb3
      clear HFa HOu0
      go_wp2_with fail
      refine HOu.out.mono ?_
      rintro e w4 ⟨he4, hb4⟩
      have d4 := d3.trans (hb4.mono d3.size)
      have HDa := Lib.hid (HD0.out w4 d4)
      clear HOu d3 hb3 hb4
      by_cases h0 : fo = 0
      · subst h0
        obtain rfl : e = .returned (.tuple #[.int .i64 0, .bool false]) := by rw [he4]; rfl
        clear he4
        go_wp2_with fail
        refine HDa.out.mono ?_
        rintro e w5 ⟨rfl, hb5⟩
        have d5 := d4.trans (hb5.mono d4.size)
        have HDb := Lib.hid (HD1.out w5 d5)
        clear HDa hb5 d4
        go_wp2_with fail
        refine HDb.out.mono ?_
        rintro e w6 ⟨rfl, hb6⟩
        have d6 := d5.trans (hb6.mono d5.size)
        clear HDb hb6 d5
        go_wp2
        go_roundg (S.length - (k + 1))
        case measure => omega
        case rel => exact ⟨k + 1, by omega, by omega, rfl, by go_num, hbe.trans (d6.mono hsz)⟩
      · obtain rfl : e = .returned (.tuple #[.int .i64 (fo : Int), .bool true]) := by rw [he4, decide_eq_true (show 0 < fo by omega)]
        have p1 : ¬ (fo : Int) < 1 := by omega
        have p2 : decide ((fo : Int) < 1) = false := decide_eq_false p1
        clear he4
        go_wp2_with fail
        refine HDa.out.mono ?_
        rintro e w5 ⟨rfl, hb5⟩
        have d5 := d4.trans (hb5.mono d4.size)
        have HDb := Lib.hid (HD1.out w5 d5)
        clear HDa hb5 d4
        go_wp2_with fail
        refine HDb.out.mono ?_
        rintro e w6 ⟨rfl, hb6⟩
        have d6 := d5.trans (hb6.mono d5.size)
        clear HDb hb6 d5
        have HDc := Lib.hid (HD2.out w6 d6)
        go_wp2_with fail
        refine HDc.out.mono ?_
        rintro e w7 ⟨rfl, hb7⟩
        have d7 := d6.trans (hb7.mono d6.size)
        have HDd := Lib.hid (HD0.out w7 d7)
        clear HDc hb7 d6
        go_wp2_with fail
        refine HDd.out.mono ?_
        rintro e w8 ⟨rfl, hb8⟩
        have d8 := d7.trans (hb8.mono d7.size)
        clear HDd hb8 d7
        go_wp2
        go_roundg (S.length - (k + 1))
        case measure => omega
        case rel => exact ⟨k + 1, by omega, by omega, rfl, by go_num, hbe.trans (d8.mono hsz)⟩
    · have hkk : k = S.length := by omega
      have q0 : ¬ (k : Int) < (S.length : Int) := by omega
      clear hkk
      go_wp2_with fail
      refine HLr.out.mono ?_
      rintro e w' ⟨rfl, hw⟩
      obtain rfl := hw.symm
      clear hw HLr
      go_wp2_with fail
      refine (HNil.out _).out.mono ?_
      rintro e w3 ⟨rfl, hb3⟩
      have d3 := hbe.trans (hb3.mono hsz)
      clear hb3 hTr hbe hsz
      go_wp2_with fail
      refine (HNil.out _).fail.mono ?_
      rintro e w4 ⟨rfl, hb4⟩
      have d4 := d3.trans (hb4.mono d3.size)
      clear hb4 d3
      go_wp2_with fail
      refine (HNil.out _).step.mono ?_
      rintro e w' ⟨rfl, hw⟩
      obtain rfl := hw.symm
      clear hw
      go_wp2_with fail
      refine (HNil.out _).hits.mono ?_
      rintro e w5 ⟨rfl, hb5⟩
      have d5 := d4.trans (hb5.mono d4.size)
      clear hb5 d4
      go_wp2_with fail
      refine (HNt.out _).mono ?_
      rintro e w' ⟨rfl, hw⟩
      obtain rfl := hw.symm
      clear hw HNt HNil
      have hT5 := HT.out.below d5
      have HL5 := Lib.hid (ts_len hT5.tr)
      by_cases hs0 : 0 ≤ s
      · by_cases hs1 : s < (S.length : Int)
        · clear hT5
          go_wp2_with fail
          refine HL5.out.mono ?_
          rintro e w' ⟨rfl, hw⟩
          obtain rfl := hw.symm
          clear hw HL5
          go_wp2_with fail
          refine (lkawake_any _).mono ?_
          rintro e w9 ⟨rfl, hb9⟩
          have d9 := d5.trans (hb9.mono d5.size)
          have dA := Lib.hid (d2.trans (d9.mono e2))
          clear hb9 d9 d5
          go_wp2
          go_ret
          exact ⟨rfl, dA.out⟩
        · have hs2 : decide (s < (S.length : Int)) = false := decide_eq_false hs1
          have HNo := Lib.hid (fun W (hb : Below w5.heap.size w5 W) => nought_of (hT5.below hb) s (.inr (by omega)) c)
          clear hT5
          go_wp2_with fail
          refine HL5.out.mono ?_
          rintro e w' ⟨rfl, hw⟩
          obtain rfl := hw.symm
          clear hw HL5
          go_wp2_with fail
          refine (HNo.out _ (Below.refl _ _)).out.mono ?_
          rintro e w6 ⟨rfl, hb6⟩
          go_wp2_with fail
          refine (HNo.out _ hb6).fail.mono ?_
          rintro e w7 ⟨rfl, hb7⟩
          have f7 := hb6.trans (hb7.mono hb6.size)
          clear hb6 hb7
          go_wp2_with fail
          refine (HNo.out _ f7).step.mono ?_
          rintro e w' ⟨rfl, hw⟩
          obtain rfl := hw.symm
          clear hw
          go_wp2_with fail
          refine (HNo.out _ f7).hits.mono ?_
          rintro e w8 ⟨rfl, hb8⟩
          have f8 := f7.trans (hb8.mono f7.size)
          clear hb8 f7 HNo
          go_wp2_with fail
          refine (lkawake_any _).mono ?_
          rintro e w9 ⟨rfl, hb9⟩
          have f9 := f8.trans (hb9.mono f8.size)
          have d9 := d5.trans (f9.mono d5.size)
          have dA := Lib.hid (d2.trans (d9.mono e2))
          clear hb9 f8 f9 d9 d5
          go_wp2
          go_ret
          exact ⟨rfl, dA.out⟩
      · have hs2 : decide (0 ≤ s) = false := decide_eq_false hs0
        have HNo := Lib.hid (fun W (hb : Below w5.heap.size w5 W) => nought_of (hT5.below hb) s (.inl (by omega)) c)
        clear hT5 HL5
        go_wp2_with fail
        refine (HNo.out _ (Below.refl _ _)).out.mono ?_
        rintro e w6 ⟨rfl, hb6⟩
        go_wp2_with fail
        refine (HNo.out _ hb6).fail.mono ?_
        rintro e w7 ⟨rfl, hb7⟩
        have f7 := hb6.trans (hb7.mono hb6.size)
        clear hb6 hb7
        go_wp2_with fail
        refine (HNo.out _ f7).step.mono ?_
        rintro e w' ⟨rfl, hw⟩
        obtain rfl := hw.symm
        clear hw
        go_wp2_with fail
        refine (HNo.out _ f7).hits.mono ?_
        rintro e w8 ⟨rfl, hb8⟩
        have f8 := f7.trans (hb8.mono f7.size)
        clear hb8 f7 HNo
        go_wp2_with fail
        refine (lkawake_any _).mono ?_
        rintro e w9 ⟨rfl, hb9⟩
        have f9 := f8.trans (hb9.mono f8.size)
        have d9 := d5.trans (f9.mono d5.size)
        have dA := Lib.hid (d2.trans (d9.mono e2))
        clear hb9 f8 f9 d9 d5
        go_wp2
        go_ret
        exact ⟨rfl, dA.out⟩
end Go.Proofs.Ytkaldfcpcimacaa
