/-
  The law's 'awake' of layer 12; the law BucketTells: walked.
-/
import Derived.Test.YtnmehjgojedpnaaPtUr
import Derived.Test.YtnmehjgojedpnaaBuN
import Derived.Test.YtnmehjgojedpnaaBuE
import Derived.Test.YtnmehjgojedpnaaBuR
import Derived.Test.YtnmehjgojedpnaaSameI
set_option linter.unusedSimpArgs false
set_option linter.unusedVariables false
namespace Go.Proofs.Ytnmehjgojedpnaa
open Go.RowKit

theorem bunew_from {w : World} {p : Option Addr} {us : List (List UInt8)} (h : IsPats w p us) :
    Calls Try.prog 9 #[.pointer p] w fun e w' => ∃ b, e = .returned (.pointer (some ⟨b, 0, none⟩)) ∧ w.heap.size ≤ b ∧ HasBks w' (.pointer (some ⟨b, 0, none⟩)) (idsL us) (lstL us) ∧ Below w.heap.size w w' := by
  rcases h with ⟨rfl, rfl⟩ | ⟨b, rfl, h, hp⟩
  · exact bunew_nil w
  · exact bunew_any h hp
theorem bunew_all {w : World} {p : Option Addr} {us : List (List UInt8)} (h : IsPats w p us) :
    Calls Try.prog 9 #[.pointer p] w fun e w' => ∃ b : Option Addr, e = .returned (.pointer b) ∧ HasBks w' (.pointer b) (idsL us) (lstL us) ∧ Below w.heap.size w w' := by
  refine (bunew_from h).mono ?_
  rintro e w' ⟨b, rfl, _, h1, h2⟩
  exact ⟨_, rfl, h1, h2⟩
theorem bks_none (w : World) : HasBks w (.pointer none) (idsL []) (lstL []) := .inl ⟨rfl, fun c _ => ⟨rfl, rfl⟩⟩

theorem buex_fault : faultL [[97, 98], [98], [99]] = 0 := by decide +kernel
theorem buex_set : setL [[97, 98], [98], [99]] = [[97, 98], [98], [99]] := by
  rw [set_good buex_fault, ← ins_srt]; decide +kernel
theorem buex_ids : idsL [[97, 98], [98], [99]] 98 = [0, 1] := by decide +kernel
theorem buex_least : lstL [[97, 98], [98], [99]] 98 = 1 := by decide +kernel
theorem buex_bytes : bytL [[97, 98], [98], [99]] = [98, 99] := by decide +kernel

set_option maxHeartbeats 2000000 in
theorem buawake_any (w : World) :
    Calls Try.prog 6 #[] w fun e w' => e = .returned (.bool true) ∧ Below w.heap.size w w' := by
  have hA := strs_heap (ws := [[97, 98], [98], [99]]) (heap_alloc_new w (.cells (txCells [[97, 98], [98], [99]]).toArray 9)) rfl
  have H1 := Lib.hid (ptnew_all (some ⟨w.heap.size, 0, none⟩) 3 3 _ _ (by omega) hA (by decide))
  rw [buex_set, buex_fault] at H1
  have c1 : Below w.heap.size w (w.alloc (.cells (txCells [[97, 98], [98], [99]]).toArray 9)) := (Below.refl _ w).alloc (Nat.le_refl _) _
  have s1 := c1.size
  have HOf : Hid (∀ (b : Option Addr) (w2 : World), HasBks w2 (.pointer b) (idsL [[97, 98], [98], [99]]) (lstL [[97, 98], [98], [99]]) → Calls Try.prog 11 #[.pointer b, .int .u8 98] w2 (RetN [0, 1] w2)) := Lib.hid (fun b w2 h => by
    have := buofs_any h 98 (by omega) (by rw [buex_ids]; decide)
    rw [buex_ids] at this
    exact this)
  have HLe : Hid (∀ (b : Option Addr) (w2 : World), HasBks w2 (.pointer b) (idsL [[97, 98], [98], [99]]) (lstL [[97, 98], [98], [99]]) → Calls Try.prog 13 #[.pointer b, .int .u8 98] w2 fun e w' => e = .returned (.int .i64 1) ∧ Below w2.heap.size w2 w') := Lib.hid (fun b w2 h => by
    have := buleast_any h 98 (by omega)
    rw [buex_least] at this
    exact this)
  have HBy : Hid (∀ (b : Option Addr) (w2 : World), HasBks w2 (.pointer b) (idsL [[97, 98], [98], [99]]) (lstL [[97, 98], [98], [99]]) → Calls Try.prog 15 #[.pointer b] w2 fun e w' => e = .returned (.string ⟨#[98, 99]⟩) ∧ Below w2.heap.size w2 w') := Lib.hid (fun b w2 h => by
    have := bubytes_any h
    rw [buex_bytes] at this
    exact this)
  clear hA
  go_enter Try.func6, Try.ntmps6
  go_wp2_with fail
  refine H1.out.mono ?_
  rintro e w2 ⟨p, rfl, hs, hb2⟩
  have d2 := c1.trans (hb2.mono s1)
  have e2 := d2.size
  have N2 := Lib.hid (bunew_all hs)
  clear H1 hs hb2 c1 s1
  go_wp2_with fail
  refine N2.out.mono ?_
  rintro e w3 ⟨b, rfl, hB, hb3⟩
  have d3 := d2.trans (hb3.mono e2)
  have e3 := d3.size
  have O3 := Lib.hid (HOf.out b w3 hB)
  have HB3 := Lib.hid hB
  clear N2 hB hb3 d2 e2 HOf
  go_wp2_with fail
  refine O3.out.mono ?_
  rintro e w4 ⟨v, rfl, hown, hb4⟩
  have d4 := d3.trans (hb4.mono e3)
  have e4 := d4.size
  obtain ⟨a4, cap4, rfl, hrow⟩ := row_of_ints hown (by unfold maxLen; decide)
  have c4 : Below w4.heap.size w4 (w4.alloc (.cells #[.int .i64 0, .int .i64 1] 3)) := (Below.refl _ w4).alloc (Nat.le_refl _) _
  have r4 : IsRow .i64 (w4.alloc (.cells #[.int .i64 0, .int .i64 1] 3)) (some ⟨w4.heap.size, 0, none⟩) 2 2 [0, 1] := row_heap (heap_alloc_new w4 _) rfl (by unfold maxLen; omega)
  have M4 := Lib.hid (isame_any a4 _ 2 cap4 2 2 2 _ _ (by omega) (hrow.below c4) r4)
  have d5 := d4.trans (c4.mono e4)
  have e5 := d5.size
  have HB4 := Lib.hid ((HB3.out.below hb4).below c4)
  clear O3 hown hrow r4 hb4 c4 d3 e3 d4 e4 HB3
  go_wp2_with fail
  refine M4.out.mono ?_
  rintro e w5 ⟨rfl, hb5⟩
  have d6 := d5.trans (hb5.mono e5)
  have e6 := d6.size
  have HB5 := Lib.hid (HB4.out.below hb5)
  have L5 := Lib.hid (HLe.out b w5 HB5.out)
  clear M4 hb5 d5 e5 HB4 HLe
  go_wp2_with fail
  refine L5.out.mono ?_
  rintro e w6 ⟨rfl, hb6⟩
  have d7 := d6.trans (hb6.mono e6)
  have e7 := d7.size
  have B6 := Lib.hid (HBy.out b w6 (HB5.out.below hb6))
  clear L5 hb6 d6 e6 HB5 HBy
  go_wp2_with fail
  refine B6.out.mono ?_
  rintro e w7 ⟨rfl, hb7⟩
  have d8 := d7.trans (hb7.mono e7)
  clear B6 d7 hb7
  go_wp2
  go_ret
  exact ⟨rfl, d8⟩

set_option maxHeartbeats 1000000 in
theorem butells_many (a : Option Addr) (len cap c : Nat) (ws : List (List UInt8)) (w : World) (hlen : len ≤ 9223372036854775807) (hr : IsStrs w a len ws) (ht : ∀ t ∈ ws, t.length ≤ 9223372036854775807) (hq : fewB ws 20 50 = false) :
    Calls Try.prog 3 #[.slice a len cap, .int .u8 (c : Int)] w fun e w' => e = .returned (.bool true) ∧ Below w.heap.size w w' := by
  have HF := Lib.hid (few_not a len cap ws w hlen hr ht hq)
  clear hr ht hq
  go_enter Try.func3, Try.ntmps3
  go_wp2_with fail
  refine HF.out.mono ?_
  rintro e w' ⟨rfl, rfl⟩
  go_wp2_with fail
  refine (buawake_any _).mono ?_
  rintro e w' ⟨rfl, hb⟩
  go_wp2
  go_ret
  exact ⟨rfl, hb⟩

theorem few_set {ws : List (List UInt8)} (hq : fewB ws 20 50 = true) : (setL ws).length ≤ 20 ∧ ∀ t ∈ setL ws, t.length ≤ 50 := by
  have hfw := (few_iff ws 20 50).1 hq
  refine ⟨Nat.le_trans (set_length ws) hfw.1, fun t h => hfw.2 t (set_mem h).1⟩

set_option maxRecDepth 100000 in
set_option maxHeartbeats 4000000 in
theorem butells_few (a : Option Addr) (len cap c : Nat) (ws : List (List UInt8)) (w : World) (hr : IsStrs w a len ws) (hq : fewB ws 20 50 = true) (hc : c < 256) :
    Calls Try.prog 3 #[.slice a len cap, .int .u8 (c : Int)] w fun e w' => e = .returned (.bool true) ∧ Below w.heap.size w w' := by
  have hwl := hr.1
  have hfw := (few_iff ws 20 50).1 hq
  have hlen : len ≤ 20 := by omega
  have HF := Lib.hid (few_yes a len cap ws w (by omega) hr (fun t ht => by have := hfw.2 t ht; omega) hq)
  have HN := Lib.hid (ptnew_all a len cap ws w (by omega) hr (fun t ht => by have := hfw.2 t ht; omega))
  have HN2 := Lib.hid (fun (w2 : World) (hb : Below w.heap.size w w2) => rptnew_all a len cap ws w2 (by omega) (hr.below hb) (fun t ht => by have := hfw.2 t ht; omega))
  obtain ⟨hs1, hs2⟩ := few_set hq
  generalize setL ws = us at HN HN2 hs1 hs2
  generalize faultL ws = f at HN HN2
  have hil : (idsL us c).length ≤ 20 := Nat.le_trans (ids_length us c us.length) hs1
  have HOf := Lib.hid (fun (w2 : World) (b : Option Addr) (h : HasBks w2 (.pointer b) (idsL us) (lstL us)) => buofs_any h c hc (by omega))
  have HLe := Lib.hid (fun (w2 : World) (b : Option Addr) (h : HasBks w2 (.pointer b) (idsL us) (lstL us)) => buleast_any h c hc)
  have HBy := Lib.hid (fun (w2 : World) (b : Option Addr) (h : HasBks w2 (.pointer b) (idsL us) (lstL us)) => bubytes_any h)
  have HROf := Lib.hid (fun (w2 : World) (a2 : Option Addr) (cap2 : Nat) (h : IsStrs w2 a2 us.length us) => rbuof_any a2 us.length cap2 c us w2 (by omega) h (fun t ht => by have := hs2 t ht; omega) hc)
  have HRLe := Lib.hid (fun (w2 : World) (a2 : Option Addr) (cap2 : Nat) (h : IsStrs w2 a2 us.length us) => rbuleast_any a2 us.length cap2 c us w2 (by omega) h (fun t ht => by have := hs2 t ht; omega) hc)
  have HRBy := Lib.hid (fun (w2 : World) (a2 : Option Addr) (cap2 : Nat) (h : IsStrs w2 a2 us.length us) => rbubytes_any a2 us.length cap2 us w2 (by omega) h (fun t ht => by have := hs2 t ht; omega))
  have HOf0 := Lib.hid (fun (w2 : World) => buofs_any (bks_none w2) c hc (by simp [ids_none]))
  have HLe0 := Lib.hid (fun (w2 : World) => buleast_any (bks_none w2) c hc)
  have HBy0 := Lib.hid (fun (w2 : World) => bubytes_any (bks_none w2))
  rw [ids_none] at HOf0
  rw [lst_none] at HLe0
  rw [byt_none] at HBy0
  generalize lstL us c = m at HLe HRLe
  generalize bytL us = by_ at HBy HRBy
  clear hr hq hfw hwl hs2
  go_enter Try.func3, Try.ntmps3
  go_wp2_with fail
  refine HF.out.mono ?_
  rintro e w' ⟨rfl, hw⟩
  obtain rfl := hw.symm
  clear HF hw
  go_wp2_with fail
  refine HN.out.mono ?_
  rintro e w1 ⟨p, rfl, hp, d1⟩
  have e1 := d1.size
  have HN3 := Lib.hid (HN2.out w1 d1)
  have HP1 := Lib.hid hp
  clear HN HN2 hp
  go_wp2_with fail
  refine HN3.out.mono ?_
  rintro e w2 ⟨a2, cap2, rfl, hstr, hb2⟩
  have d2 := d1.trans (hb2.mono e1)
  have e2 := d2.size
  have HB2 := Lib.hid (bunew_all (HP1.out.below hb2))
  have T2 := Lib.hid hstr
  clear HN3 hb2 d1 e1 hstr HP1
  go_wp2_with fail
  refine HB2.out.mono ?_
  rintro e w3 ⟨b, rfl, hB, hb3⟩
  have d3 := d2.trans (hb3.mono e2)
  have e3 := d3.size
  have T3 := Lib.hid (T2.out.below hb3)
  have HB3 := Lib.hid hB
  have C3 := Lib.hid (HOf.out w3 b hB)
  clear HB2 T2 hB hb3 d2 e2 HOf
  have q1 : (f == f) = true := by simp
  go_wp2_with fail
  refine C3.out.mono ?_
  rintro e w4 ⟨v4, rfl, hown4, hb4⟩
  have d4 := d3.trans (hb4.mono e3)
  have e4 := d4.size
  obtain ⟨a4, cap4, rfl, hrow4⟩ := row_of_ints hown4 (by unfold maxLen; omega)
  have R4 := Lib.hid hrow4
  have T4 := Lib.hid (T3.out.below hb4)
  have HB4 := Lib.hid (HB3.out.below hb4)
  have C4 := Lib.hid (HROf.out w4 a2 cap2 T4.out)
  clear C3 T3 HB3 hown4 hrow4 hb4 d3 e3 HROf
  go_wp2_with fail
  refine C4.out.mono ?_
  rintro e w5 ⟨v5, rfl, hown5, hb5⟩
  have d5 := d4.trans (hb5.mono e4)
  have e5 := d5.size
  obtain ⟨a5, cap5, rfl, hrow5⟩ := row_of_ints hown5 (by unfold maxLen; omega)
  have C5 := Lib.hid (isame_any a4 a5 _ cap4 cap5 _ _ _ w5 (by omega) (R4.out.below hb5) hrow5)
  have T5 := Lib.hid (T4.out.below hb5)
  have HB5 := Lib.hid (HB4.out.below hb5)
  clear C4 T4 HB4 R4 hown5 hrow5 hb5 d4 e4
  go_wp2_with fail
  refine C5.out.mono ?_
  rintro e w6 ⟨rfl, hb6⟩
  have d6 := d5.trans (hb6.mono e5)
  have e6 := d6.size
  have T6 := Lib.hid (T5.out.below hb6)
  have HB6 := Lib.hid (HB5.out.below hb6)
  have C6 := Lib.hid (HLe.out w6 b HB6.out)
  clear C5 T5 HB5 hb6 d5 e5 HLe
  go_wp2_with fail
  refine C6.out.mono ?_
  rintro e w7 ⟨rfl, hb7⟩
  have d7 := d6.trans (hb7.mono e6)
  have e7 := d7.size
  have T7 := Lib.hid (T6.out.below hb7)
  have HB7 := Lib.hid (HB6.out.below hb7)
  have C7 := Lib.hid (HRLe.out w7 a2 cap2 T7.out)
  clear C6 T6 HB6 hb7 d6 e6 HRLe
  go_wp2_with fail
  refine C7.out.mono ?_
  rintro e w8 ⟨rfl, hb8⟩
  have d8 := d7.trans (hb8.mono e7)
  have e8 := d8.size
  have T8 := Lib.hid (T7.out.below hb8)
  have HB8 := Lib.hid (HB7.out.below hb8)
  have C8 := Lib.hid (HBy.out w8 b HB8.out)
  clear C7 T7 HB7 hb8 d7 e7 HBy
  go_wp2_with fail
  refine C8.out.mono ?_
  rintro e w9 ⟨rfl, hb9⟩
  have d9 := d8.trans (hb9.mono e8)
  have e9 := d9.size
  have C9 := Lib.hid (HRBy.out w9 a2 cap2 (T8.out.below hb9))
  clear C8 T8 HB8 hb9 d8 e8 HRBy
  go_wp2_with fail
  refine C9.out.mono ?_
  rintro e w10 ⟨rfl, hb10⟩
  have d10 := d9.trans (hb10.mono e9)
  have e10 := d10.size
  clear C9 hb10 d9 e9
  have C10 := Lib.hid (HOf0.out w10)
  go_wp2_with fail
  refine C10.out.mono ?_
  rintro e w11 ⟨v11, rfl, hown11, hb11⟩
  have d11 := d10.trans (hb11.mono e10)
  have e11 := d11.size
  obtain ⟨a11, cap11, rfl⟩ := owns_slice hown11
  have C11 := Lib.hid (HLe0.out w11)
  clear C10 hb11 d10 e10 hown11 HOf0
  go_wp2_with fail
  refine C11.out.mono ?_
  rintro e w12 ⟨rfl, hb12⟩
  have d12 := d11.trans (hb12.mono e11)
  have e12 := d12.size
  have C12 := Lib.hid (HBy0.out w12)
  clear C11 hb12 d11 e11 HLe0
  go_wp2_with fail
  refine C12.out.mono ?_
  rintro e w13 ⟨rfl, hb13⟩
  have d13 := d12.trans (hb13.mono e12)
  have e13 := d13.size
  clear C12 hb13 d12 e12 HBy0
  go_wp2_with fail
  refine (buawake_any _).mono ?_
  rintro e w14 ⟨rfl, hb14⟩
  have d14 := d13.trans (hb14.mono e13)
  go_wp2
  go_ret
  exact ⟨rfl, d14⟩
end Go.Proofs.Ytnmehjgojedpnaa
