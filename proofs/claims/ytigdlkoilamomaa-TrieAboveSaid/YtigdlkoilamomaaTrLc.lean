/-
  The law TrieAbove: walked.
-/
import Derived.Test.YtigdlkoilamomaaTrA
import Derived.Test.YtigdlkoilamomaaTrLt
import Derived.Test.YtigdlkoilamomaaPtTo
import Derived.Deep.RegionWith
import Derived.Deep.RegionHeld3
import Derived.Deep.LoopGhost
import Derived.Deep.CutRange
set_option linter.unusedSimpArgs false
set_option linter.unusedVariables false
namespace Go.Proofs.Ytigdlkoilamomaa
open Go.RowKit

set_option maxHeartbeats 1000000 in
theorem trabv_many (a : Option Addr) (len cap : Nat) (ws : List (List UInt8)) (w : World) (hlen : len ≤ 9223372036854775807) (hr : IsStrs w a len ws) (ht : ∀ t ∈ ws, t.length ≤ 9223372036854775807) (hq : fewB ws 12 20 = false) :
    Calls Try.prog 5 #[.slice a len cap] w fun e w' => e = .returned (.bool true) ∧ Below w.heap.size w w' := by
  have HF := Lib.hid (few_noN a len cap ws w hlen hr ht _ hq)
  clear hr ht hq
  go_enter Try.func5, Try.ntmps5
  go_wp2_with fail
  refine HF.out.mono ?_
  rintro e w' ⟨rfl, rfl⟩
  go_wp2_with fail
  refine (trawake_any _).mono ?_
  rintro e w' ⟨rfl, hb⟩
  go_wp2
  go_ret
  exact ⟨rfl, hb⟩

/-- The conversion of one byte to a text, as the law has it. -/
@[go_sem] def cvOp : Oper := { dst := some 95, op := Op.convert 38 9 (Operand.tmp 94), type := 9, pos := "law.go:93", after := #[{ on := 34, ground := Ground.data }, { on := 26, ground := Ground.guard }], guard := some (26, false) }

set_option maxRecDepth 100000 in
set_option maxHeartbeats 1000000 in
theorem trabv_few (a : Option Addr) (len cap : Nat) (ws : List (List UInt8)) (w : World) (hr : IsStrs w a len ws) (hq : fewB ws 12 20 = true) :
    Calls Try.prog 5 #[.slice a len cap] w fun e w' => e = .returned (.bool true) ∧ Below w.heap.size w w' := by
  have hwl := hr.1
  have hfw := (few_iff ws 12 20).1 hq
  have hlen : len ≤ 12 := by omega
  have HF := Lib.hid (few_noN a len cap ws w (by omega) hr (fun t ht => by have := hfw.2 t ht; omega) _ hq)
  have HN := Lib.hid (ptnew_all a len cap ws w (by omega) hr (fun t ht => by have := hfw.2 t ht; omega))
  obtain ⟨hs1, hs2⟩ := few_setN hq
  have HA := Lib.hid (set_asc ws)
  have HTn := Lib.hid (fun (w2 : World) (p : Option Addr) (h : IsPats w2 p (setL ws)) => trnew_set h)
  generalize setL ws = us at *
  generalize faultL ws = f at HN
  have htot := total_le hs2
  have hul : us.length ≤ 12 := hs1
  have HUL := Lib.hid hs2
  clear hr hq hfw hwl hs1 hs2
  go_enter Try.func5, Try.ntmps5
  go_wp2_with fail
  refine HF.out.mono ?_
  rintro e w' ⟨rfl, hw⟩
  obtain rfl := hw.symm
  clear HF hw
  go_wp2_with fail
  refine HN.out.mono ?_
  rintro e w1 ⟨p, rfl, hp, d1⟩
  have e1 := d1.size
  have HB2 := Lib.hid (HTn.out w1 p hp)
  have HP1 := Lib.hid hp
  clear HN HTn hp
  go_wp2_with fail
  refine HB2.out.mono ?_
  rintro e w2 ⟨q, S, rfl, hT, hb2⟩
  have d2 := d1.trans (hb2.mono e1)
  have e2 := d2.size
  have HT := Lib.hid hT
  have hSt := hT.st
  have hSf := hT.few
  have HSt := Lib.hid hSt
  have HTo := Lib.hid (pttotal_all (HP1.out.below hb2))
  have HL := Lib.hid (ts_len hT)
  have hroot : S[0]? = some [] := by
    obtain ⟨R, _, _, h3, _⟩ := hT
    exact h3.root
  have HR0 := Lib.hid hroot
  have hT240 : totalL us ≤ 240 := by omega
  obtain ⟨T, hTe⟩ : ∃ T, totalL us = T := ⟨_, rfl⟩
  rw [hTe] at HTo hSf hT240
  obtain ⟨hS1, hS2, _⟩ := hSf
  have z1 : ¬ (S.length : Int) < 1 := by omega
  have z2 : IntKind.i64.wrap ((T : Int) + 1) = (T : Int) + 1 := by rw [IntKind.wrap_i64]; omega
  have z3 : ¬ (T : Int) + 1 < (S.length : Int) := by omega
  clear HB2 hb2 hT hSt hroot hTe HP1 d1 e1
  go_wp2_with fail
  refine HL.out.mono ?_
  rintro e w' ⟨rfl, hw⟩
  obtain rfl := hw.symm
  clear hw
  go_wp2_with fail
  refine HL.out.mono ?_
  rintro e w' ⟨rfl, hw⟩
  obtain rfl := hw.symm
  clear hw HL
  go_wp2_with fail
  refine HTo.out.mono ?_
  rintro e w' ⟨rfl, hw⟩
  obtain rfl := hw.symm
  clear hw HTo
  go_wp2
  clear z1 z2 z3
  go_loopg [6] S.length (fun gx x wr => ∃ k : Nat, k ≤ S.length ∧ gx = S.length - k ∧ x = .int .i64 k ∧ Below w2.heap.size w2 wr)
  case atStart => exact ⟨0, Nat.zero_le _, rfl, rfl, Below.refl _ _⟩
  case round =>
    obtain ⟨k, hk, rfl, rfl, hbe⟩ := hrel
    have hsz := hbe.size
    have hTr := HT.out.below hbe
    have HLr := Lib.hid (ts_len hTr)
    by_cases hlt : k < S.length
    · obtain ⟨s, hs⟩ : ∃ s, S[k]? = some s := ⟨S[k], List.getElem?_eq_getElem hlt⟩
      obtain ⟨b, hb1, hb2, hAb⟩ := ts_above hTr k hs
      have HAb := Lib.hid hAb
      have q1 : (0 : Int) ≤ (k : Int) := by omega
      have q2 : (k : Int) < (S.length : Int) := by omega
      go_wp2_with fail
      refine HLr.out.mono ?_
      rintro e w' ⟨rfl, hw⟩
      obtain rfl := hw.symm
      clear hw HLr hAb
      go_wp2_with fail
      refine HAb.out.mono ?_
      rintro e w5 ⟨rfl, hb5⟩
      have D5 := Lib.hid hb5
      have D5w := Lib.hid (hbe.trans (hb5.mono hsz))
      have hTr5 := hTr.below hb5
      clear hb5 HAb
      by_cases h0 : k = 0
      · subst h0
        obtain rfl : s = [] := by rw [HR0.out] at hs; exact (Option.some.inj hs).symm
        clear hs hb1 hb2 hTr hTr5
        go_wp2
        go_roundg (S.length - (0 + 1))
        case measure => omega
        case rel => exact ⟨0 + 1, by omega, rfl, by go_num, D5w.out⟩
      · have hne : s ≠ [] := fun e => h0 (rise_same HSt.out.1 (e ▸ hs) HR0.out)
        have hlen0 : 0 < s.length := List.length_pos_iff.2 hne
        have hdl : s.dropLast ++ [s.getLastD 0] = s := by
          have := List.dropLast_concat_getLast hne
          rw [List.getLastD_eq_getLast?, List.getLast?_eq_some_getLast hne]
          simpa using this
        have hbk : b < k := by
          have : slx s.dropLast s := .inl (by rw [List.length_dropLast]; omega)
          exact rise_lt HSt.out.1 hb1 hs this
        have hsl : s.length ≤ 20 := by
          rcases (HSt.out.2 s).1 (List.mem_of_getElem? hs) with e | hbg
          · exact absurd e hne
          · obtain ⟨t, ht, hp⟩ := beg_iff.1 hbg
            exact Nat.le_trans hp.length_le (HUL.out t ht)
        have hdlen : s.length = s.dropLast.length + 1 := by rw [List.length_dropLast]; omega
        generalize s.dropLast = d at *
        generalize s.getLastD 0 = c at *
        subst hdl
        have hnx := ts_next hTr5 b hb1 c
        have HNx := Lib.hid hnx
        have HIn := Lib.hid (List.mem_of_getElem? hs)
        have HDep := Lib.hid (fun (j : Nat) (u : List UInt8) (hj : S[j]? = some u) (W : World) (hW : Below w5.heap.size w5 W) => ts_depth (hTr5.below hW) j hj)
        have HPth := Lib.hid (fun (j : Nat) (u : List UInt8) (hj : S[j]? = some u) (W : World) (hW : Below w5.heap.size w5 W) => ts_path (hTr5.below hW) HA.out j hj)
        have HBb := Lib.hid hb1
        have HK := Lib.hid hs
        have HL1 := Lib.hid hdlen
        obtain ⟨l1, hl1⟩ : ∃ l1, (d ++ [c]).length = l1 := ⟨_, rfl⟩
        have HLL := Lib.hid hl1
        rw [hl1] at hlen0 hdlen hsl
        have p0 : decide (0 < l1) = true := decide_eq_true hlen0
        have p1 : (0 : Int) < (k : Int) := by omega
        have p2 : ¬ (k : Int) = 0 := by omega
        have p3 : decide ((0 : Int) < (k : Int)) = true := decide_eq_true p1
        have p4 : decide (0 < k) = true := decide_eq_true (by omega)
        have p5 : ((k : Int) == 0) = false := by rw [beq_eq_false_iff_ne]; exact p2
        have p6 : (k == 0) = false := by rw [beq_eq_false_iff_ne]; exact h0
        rw [hl1]
        clear hs hb1 hTr hTr5 hnx hl1
        go_wp2_with fail
        refine HNx.out.mono ?_
        rintro e w6 ⟨⟨hn1, _⟩, hb6⟩
        obtain ⟨n, rfl, hn⟩ := hn1 HIn.out
        obtain rfl : n = k := rise_same HSt.out.1 hn HK.out
        have D6 := Lib.hid hb6
        have s6 := hb6.size
        clear hn1 hb6 hn HNx HIn
        have pb := plus_byteT d c
        have hov : ¬ 9223372036854775807 < d.length + 1 := by omega
        have hcv : ∀ W : World, (convert 38 9 (.slice (some ⟨W.heap.size, 0, none⟩) 1 1)).run Try.prog (W.alloc (.cells #[.int .u8 (c.toNat : Int)] 5)) = .ok (.string ⟨[c].toArray⟩) (W.alloc (.cells #[.int .u8 (c.toNat : Int)] 5)) := fun W => one_textT _ _ c (heap_alloc_new W _)
        have hcd : ∀ W : World, (convert 38 9 (.slice (some ⟨W.heap.size, 0, none⟩) 1 1)).run Try.prog (W.alloc (.cells #[.int .u8 (c.toNat : Int)] 5)).drew = .ok (.string ⟨[c].toArray⟩) (W.alloc (.cells #[.int .u8 (c.toNat : Int)] 5)).drew := fun W => one_textT _ _ c (heap_alloc_new W _)
        have w1 : IntKind.i64.wrap ((d.length : Int) + 1) = (d.length : Int) + 1 := by rw [IntKind.wrap_i64]; omega
        have r1 : ¬ (b : Int) < 0 := by omega
        have r2 : ¬ (n : Int) ≤ (b : Int) := by omega
        have r3 : decide ((b : Int) < 0) = false := decide_eq_false r1
        have r4 : decide ((n : Int) ≤ (b : Int)) = false := decide_eq_false r2
        have r5 : decide (n ≤ b) = false := decide_eq_false (by omega)
        have r6 : (l1 : Int) = (d.length : Int) + 1 := by omega
        have r7 : ((l1 : Int) != (d.length : Int) + 1) = false := by rw [r6]; simp
        go_upto_region 15 with fail
        go_cut [98] from 34 to 98 (fun y wx => y = .bool false ∧ Below w5.heap.size w5 wx)
        case first =>
          rw [show ({ dst := some 95, op := Op.convert 38 9 (Operand.tmp 94), type := 9, pos := "law.go:93", after := #[{ on := 34, ground := Ground.data }, { on := 26, ground := Ground.guard }], guard := some (26, false) } : Oper) = cvOp from rfl]
          go_region_held3 (fun _ => True) (trivial) (first
            | (go_at_call 17
               refine (HDep.out _ _ (by first | with_reducible exact HK.out | with_reducible exact HBb.out) _ (by first | with_reducible exact DA.out | with_reducible exact DA.out.drew | with_reducible exact DA.out.alloc DA.out.size _ | with_reducible exact (DA.out.alloc DA.out.size _).drew | with_reducible exact DA.out.drew.alloc DA.out.size _ | with_reducible exact D6.out | with_reducible exact D6.out.drew | with_reducible exact D6.out.alloc D6.out.size _ | with_reducible exact (D6.out.alloc D6.out.size _).drew | with_reducible exact D6.out.drew.alloc D6.out.size _)).mono ?_
               rintro e wA ⟨rfl, hbA⟩
               have DA : Hid (Below w5.heap.size w5 wA) := Lib.hid (Below.trans (by first | with_reducible exact DA.out | with_reducible exact DA.out.drew | with_reducible exact DA.out.alloc DA.out.size _ | with_reducible exact (DA.out.alloc DA.out.size _).drew | with_reducible exact DA.out.drew.alloc DA.out.size _ | with_reducible exact D6.out | with_reducible exact D6.out.drew | with_reducible exact D6.out.alloc D6.out.size _ | with_reducible exact (D6.out.alloc D6.out.size _).drew | with_reducible exact D6.out.drew.alloc D6.out.size _) (hbA.mono (Below.size (by first | with_reducible exact DA.out | with_reducible exact DA.out.drew | with_reducible exact DA.out.alloc DA.out.size _ | with_reducible exact (DA.out.alloc DA.out.size _).drew | with_reducible exact DA.out.drew.alloc DA.out.size _ | with_reducible exact D6.out | with_reducible exact D6.out.drew | with_reducible exact D6.out.alloc D6.out.size _ | with_reducible exact (D6.out.alloc D6.out.size _).drew | with_reducible exact D6.out.drew.alloc D6.out.size _)))))
            | (go_at_call 16
               refine (HPth.out _ _ (by first | with_reducible exact HK.out | with_reducible exact HBb.out) _ (by first | with_reducible exact DA.out | with_reducible exact DA.out.drew | with_reducible exact DA.out.alloc DA.out.size _ | with_reducible exact (DA.out.alloc DA.out.size _).drew | with_reducible exact DA.out.drew.alloc DA.out.size _ | with_reducible exact D6.out | with_reducible exact D6.out.drew | with_reducible exact D6.out.alloc D6.out.size _ | with_reducible exact (D6.out.alloc D6.out.size _).drew | with_reducible exact D6.out.drew.alloc D6.out.size _)).mono ?_
               rintro e wA ⟨rfl, hbA⟩
               have DA : Hid (Below w5.heap.size w5 wA) := Lib.hid (Below.trans (by first | with_reducible exact DA.out | with_reducible exact DA.out.drew | with_reducible exact DA.out.alloc DA.out.size _ | with_reducible exact (DA.out.alloc DA.out.size _).drew | with_reducible exact DA.out.drew.alloc DA.out.size _ | with_reducible exact D6.out | with_reducible exact D6.out.drew | with_reducible exact D6.out.alloc D6.out.size _ | with_reducible exact (D6.out.alloc D6.out.size _).drew | with_reducible exact D6.out.drew.alloc D6.out.size _) (hbA.mono (Below.size (by first | with_reducible exact DA.out | with_reducible exact DA.out.drew | with_reducible exact DA.out.alloc DA.out.size _ | with_reducible exact (DA.out.alloc DA.out.size _).drew | with_reducible exact DA.out.drew.alloc DA.out.size _ | with_reducible exact D6.out | with_reducible exact D6.out.drew | with_reducible exact D6.out.alloc D6.out.size _ | with_reducible exact (D6.out.alloc D6.out.size _).drew | with_reducible exact D6.out.drew.alloc D6.out.size _))))
               try
                 have hHX := (hbA.block _ (heap_lt hHX)).trans hHX
                 have hcX := one_textT _ _ c hHX
               try
                 have hHX := (hbA.block _ (by simp)).trans (heap_alloc_new _ (.cells #[.int .u8 (c.toNat : Int)] 5))
                 have hcX := one_textT _ _ c hHX))
          all_goals
            go_wp2_with fail
            go_meet
            exact ⟨rfl, (by first | with_reducible exact DA.out | with_reducible exact DA.out.drew | with_reducible exact DA.out.alloc DA.out.size _ | with_reducible exact (DA.out.alloc DA.out.size _).drew | with_reducible exact DA.out.drew.alloc DA.out.size _ | with_reducible exact D6.out | with_reducible exact D6.out.drew | with_reducible exact D6.out.alloc D6.out.size _ | with_reducible exact (D6.out.alloc D6.out.size _).drew | with_reducible exact D6.out.drew.alloc D6.out.size _)⟩
        case rest =>
          obtain ⟨rfl, hwc⟩ := hcut
          have D9 : Hid (Below w2.heap.size w2 wc) := Lib.hid (hbe.trans ((D5.out.trans (hwc.mono D5.out.size)).mono hsz))
          clear hwc
          go_wp2
          go_roundg (S.length - (n + 1))
          case measure => omega
          case rel => exact ⟨n + 1, by omega, rfl, by go_num, D9.out⟩
    · have hkk : k = S.length := by omega
      have q2 : ¬ (k : Int) < (S.length : Int) := by omega
      have d9 := Lib.hid (d2.trans (hbe.mono e2))
      clear hkk hTr
      go_wp2_with fail
      refine HLr.out.mono ?_
      rintro e w' ⟨rfl, hw⟩
      obtain rfl := hw.symm
      clear hw HLr
      go_wp2_with fail
      refine (trawake_any _).mono ?_
      rintro e w9 ⟨rfl, hb9⟩
      have dA := Lib.hid (d9.out.trans (hb9.mono d9.out.size))
      go_wp2
      go_ret
      exact ⟨rfl, dA.out⟩
end Go.Proofs.Ytigdlkoilamomaa
