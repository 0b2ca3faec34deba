/-
  The law AutoKinds: walked.
-/
import Derived.Test.YtlbgigkkjlfklaaGreatBn8
import Derived.Test.YtlbgigkkjlfklaaGreatBn9
import Derived.Test.YtlbgigkkjlfklaaGreatBn4
set_option linter.unusedSimpArgs false
set_option linter.unusedVariables false
namespace Go.Proofs.YtlbgigkkjlfklaaGreat
open Go.RowKit

set_option maxHeartbeats 1000000 in
theorem aukinds_many (a : Option Addr) (len cap : Nat) (z : Int) (s : List UInt8) (ws : List (List UInt8)) (w : World) (hlen : len ≤ 9223372036854775807) (hr : IsStrs w a len ws) (ht : ∀ t ∈ ws, t.length ≤ 9223372036854775807) (hq : fewB ws 8 12 = false) :
    Calls Tryz.prog 3 #[.slice a len cap, .int .i64 z, .string ⟨s.toArray⟩] w fun e w' => e = .returned (.bool true) ∧ Below w.heap.size w w' := by
  have HF := Lib.hid (few_no8 a len cap ws w hlen hr ht _ hq)
  clear hr ht hq
  go_enter Tryz.func3, Tryz.ntmps3
  go_wp2_with fail
  refine HF.out.mono ?_
  rintro e w' ⟨rfl, rfl⟩
  go_wp2_with fail
  refine (auawake_any _).mono ?_
  rintro e w' ⟨rfl, hb⟩
  go_wp2
  go_ret
  exact ⟨rfl, hb⟩

set_option maxHeartbeats 1000000 in
theorem aukinds_long (a : Option Addr) (len cap : Nat) (z : Int) (s : List UInt8) (ws : List (List UInt8)) (w : World) (hr : IsStrs w a len ws) (hq : fewB ws 8 12 = true) (hs : 60 < s.length) :
    Calls Tryz.prog 3 #[.slice a len cap, .int .i64 z, .string ⟨s.toArray⟩] w fun e w' => e = .returned (.bool true) ∧ Below w.heap.size w w' := by
  have hfw := (few_iff ws 8 12).1 hq
  have hwl := hr.1
  have HF := Lib.hid (few_no8 a len cap ws w (by omega) hr (fun t ht => by have := hfw.2 t ht; omega) _ hq)
  have HZ := Lib.hid (bsize s)
  have g1 : (60 : Int) < (s.length : Int) := by omega
  have g2 : decide ((60 : Int) < (s.length : Int)) = true := decide_eq_true g1
  clear hr hq hfw hwl
  go_enter Tryz.func3, Tryz.ntmps3
  go_wp2_with fail
  refine HF.out.mono ?_
  rintro e w' ⟨rfl, rfl⟩
  go_wp2_with fail
  refine (auawake_any _).mono ?_
  rintro e w' ⟨rfl, hb⟩
  go_wp2
  go_ret
  exact ⟨rfl, hb⟩

set_option maxRecDepth 100000 in
set_option maxHeartbeats 8000000 in
theorem aukinds_few (a : Option Addr) (len cap : Nat) (z : Int) (s : List UInt8) (ws : List (List UInt8)) (w : World) (hr : IsStrs w a len ws) (hq : fewB ws 8 12 = true) (hs : s.length ≤ 60) :
    Calls Tryz.prog 3 #[.slice a len cap, .int .i64 z, .string ⟨s.toArray⟩] w fun e w' => e = .returned (.bool true) ∧ Below w.heap.size w w' := by
  have hwl := hr.1
  have hfw := (few_iff ws 8 12).1 hq
  have hlen : len ≤ 8 := by omega
  have HF := Lib.hid (few_no8 a len cap ws w (by omega) hr (fun t ht => by have := hfw.2 t ht; omega) _ hq)
  have HN := Lib.hid (ptnew_all a len cap ws w (by omega) hr (fun t ht => by have := hfw.2 t ht; omega))
  obtain ⟨hs1, hs2⟩ := few_setN hq
  have htot := total_le hs2
  have HTn := Lib.hid (fun (w2 : World) (p : Option Addr) (k : Int) (hk : k = 1 ∨ k = 2 ∨ k = 3) (h : IsPats w2 p (setL ws)) => aunew_set h (by omega) k hk)
  generalize setL ws = us at *
  generalize faultL ws = f at HN
  have HZ := Lib.hid (bsize s)
  have g60 : ¬ (60 : Int) < (s.length : Int) := by omega
  have g61 : decide ((60 : Int) < (s.length : Int)) = false := decide_eq_false g60
  have hul : us.length ≤ 8 := hs1
  clear hr hq hfw hwl hs1 hs2 htot
  go_enter Tryz.func3, Tryz.ntmps3
  go_wp2_with fail
  refine HF.out.mono ?_
  rintro e w' ⟨rfl, hw⟩
  obtain rfl := hw.symm
  clear HF hw
  go_wp2_with fail
  refine HN.out.mono ?_
  rintro e w1 ⟨p, rfl, hp, d1⟩
  have e1 := d1.size
  have HP1 := Lib.hid hp
  have HB1 := Lib.hid (HTn.out w1 p 1 (.inl rfl) hp)
  clear HN hp g60 g61
  go_wp2_with fail
  refine HB1.out.mono ?_
  rintro e w2 ⟨q1, S, rfl, hA, hb2⟩
  have d2 := d1.trans (hb2.mono e1)
  have e2 := d2.size
  have HP2 := Lib.hid (HP1.out.below hb2)
  have HB2 := Lib.hid (HTn.out w2 p 2 (.inr (.inl rfl)) HP2.out)
  have A2 := Lib.hid hA
  clear HB1 HP1 hb2 d1 e1 hA
  go_wp2_with fail
  refine HB2.out.mono ?_
  rintro e w3 ⟨q2, S2, rfl, hB, hb3⟩
  have d3 := d2.trans (hb3.mono e2)
  have e3 := d3.size
  have HP3 := Lib.hid (HP2.out.below hb3)
  have HB3 := Lib.hid (HTn.out w3 p 3 (.inr (.inr rfl)) HP3.out)
  have A3 := Lib.hid (A2.out.below hb3)
  obtain rfl : S2 = S := hB.st.unique A3.out.st
  have B3 := Lib.hid hB
  clear HB2 HP2 hb3 d2 e2 hB A2 HTn
  go_wp2_with fail
  refine HB3.out.mono ?_
  rintro e w4 ⟨q3, S3, rfl, hC, hb4⟩
  have d4 := d3.trans (hb4.mono e3)
  have A4 := Lib.hid (A3.out.below hb4)
  have B4 := Lib.hid (B3.out.below hb4)
  obtain rfl : S3 = S2 := hC.st.unique A4.out.st
  have C4 := Lib.hid hC
  clear HB3 HP3 hb4 d3 e3 hC A3 B3
  have HA := Lib.hid (fun (W : World) (hb : Below w4.heap.size w4 W) => aurun_any (A4.out.below hb) z s (by omega))
  have HB := Lib.hid (fun (W : World) (hb : Below w4.heap.size w4 W) => aurun_any (B4.out.below hb) z s (by omega))
  have HC := Lib.hid (fun (W : World) (hb : Below w4.heap.size w4 W) => aurun_any (C4.out.below hb) z s (by omega))
  generalize auR S3 z s = r at *
  have KA := Lib.hid (fun (W : World) (hb : Below w4.heap.size w4 W) => (auhits_any (A4.out.below hb) r).mono fun e w' h => retn_row h (by have := auH_few us S3 r; unfold maxLen; omega))
  have KB := Lib.hid (fun (W : World) (hb : Below w4.heap.size w4 W) => (auhits_any (B4.out.below hb) r).mono fun e w' h => retn_row h (by have := auH_few us S3 r; unfold maxLen; omega))
  have KC := Lib.hid (fun (W : World) (hb : Below w4.heap.size w4 W) => (auhits_any (C4.out.below hb) r).mono fun e w' h => retn_row h (by have := auH_few us S3 r; unfold maxLen; omega))
  have DA := Lib.hid (fun (W : World) (hb : Below w4.heap.size w4 W) => audepth_any (A4.out.below hb) r)
  have DB := Lib.hid (fun (W : World) (hb : Below w4.heap.size w4 W) => audepth_any (B4.out.below hb) r)
  have DC := Lib.hid (fun (W : World) (hb : Below w4.heap.size w4 W) => audepth_any (C4.out.below hb) r)
  have hHl : (auH us S3 r).length ≤ 8 := by have := auH_few us S3 r; omega
  generalize auH us S3 r = H at *
  generalize auD S3 r = D at *
  have r0 : (r != r) = false := by simp
  have r1 : ((D : Int) != (D : Int)) = false := by simp
  have R4 := Lib.hid (HA.out w4 (Below.refl _ _))
  clear HA A4 B4 C4
  go_wp2_with fail
  refine R4.out.mono ?_
  rintro e w5 ⟨rfl, b5⟩
  have R5 := Lib.hid (HB.out w5 b5)
  clear R4 HB
  go_wp2_with fail
  refine R5.out.mono ?_
  rintro e w6 ⟨rfl, hb6⟩
  have b6 := b5.trans (hb6.mono b5.size)
  have R6 := Lib.hid (HC.out w6 b6)
  clear R5 HC hb6 b5
  go_wp2_with fail
  refine R6.out.mono ?_
  rintro e w7 ⟨rfl, hb7⟩
  have b7 := b6.trans (hb7.mono b6.size)
  have R7 := Lib.hid (KA.out w7 b7)
  clear R6 hb7 b6
  go_wp2_with fail
  refine R7.out.mono ?_
  rintro e w8 ⟨a8, c8, rfl, hr8, hb8⟩
  have b8 := b7.trans (hb8.mono b7.size)
  have R8 := Lib.hid (KB.out w8 b8)
  clear R7 hb8 b7
  go_wp2_with fail
  refine R8.out.mono ?_
  rintro e w9 ⟨a9, c9, rfl, hr9, hb9⟩
  have b9 := b8.trans (hb9.mono b8.size)
  have R9 := Lib.hid (isame_any a8 a9 H.length c8 c9 H.length H.length H _ (by omega) (hr8.below hb9) hr9)
  clear R8 hb9 b8 hr8 hr9
  go_wp2_with fail
  refine R9.out.mono ?_
  rintro e w10 ⟨rfl, hb10⟩
  have b10 := b9.trans (hb10.mono b9.size)
  have R10 := Lib.hid (KA.out w10 b10)
  clear R9 hb10 b9 KA KB
  go_wp2_with fail
  refine R10.out.mono ?_
  rintro e w11 ⟨a8, c8, rfl, hr8, hb8⟩
  have b11 := b10.trans (hb8.mono b10.size)
  have R11 := Lib.hid (KC.out w11 b11)
  clear R10 hb8 b10 KC
  go_wp2_with fail
  refine R11.out.mono ?_
  rintro e w12 ⟨a9, c9, rfl, hr9, hb9⟩
  have b12 := b11.trans (hb9.mono b11.size)
  have R12 := Lib.hid (isame_any a8 a9 H.length c8 c9 H.length H.length H _ (by omega) (hr8.below hb9) hr9)
  clear R11 hb9 b11 hr8 hr9
  go_wp2_with fail
  refine R12.out.mono ?_
  rintro e w13 ⟨rfl, hb13⟩
  have b13 := b12.trans (hb13.mono b12.size)
  have R13 := Lib.hid (DA.out w13 b13)
  clear R12 hb13 b12
  go_wp2_with fail
  refine R13.out.mono ?_
  rintro e w14 ⟨rfl, hb14⟩
  have b14 := b13.trans (hb14.mono b13.size)
  have R14 := Lib.hid (DB.out w14 b14)
  clear R13 hb14 b13 DB
  go_wp2_with fail
  refine R14.out.mono ?_
  rintro e w15 ⟨rfl, hb15⟩
  have b15 := b14.trans (hb15.mono b14.size)
  have R15 := Lib.hid (DA.out w15 b15)
  clear R14 hb15 b14 DA
  go_wp2_with fail
  refine R15.out.mono ?_
  rintro e w16 ⟨rfl, hb16⟩
  have b16 := b15.trans (hb16.mono b15.size)
  have R16 := Lib.hid (DC.out w16 b16)
  clear R15 hb16 b15 DC
  go_wp2_with fail
  refine R16.out.mono ?_
  rintro e w17 ⟨rfl, hb17⟩
  have b17 := b16.trans (hb17.mono b16.size)
  have D17 := Lib.hid (d4.trans (b17.mono d4.size))
  clear R16 hb17 b16 b17 d4
  have S1 := Lib.hid (aukind_nil w17)
  have S2 := Lib.hid (aulen_nil w17)
  have S3' : Hid (Calls Tryz.prog 14 #[.pointer none, .int .i64 z, .int .u8 97] w17 fun e w' => e = .returned (.int .i64 0) ∧ w' = w17) := Lib.hid (austep_nil z 97 w17)
  have S4 := Lib.hid (audepth_nil z w17)
  go_wp2_with fail
  refine S1.out.mono ?_
  rintro e w' ⟨rfl, hw⟩
  obtain rfl := hw.symm
  clear hw S1
  go_wp2_with fail
  refine S2.out.mono ?_
  rintro e w' ⟨rfl, hw⟩
  obtain rfl := hw.symm
  clear hw S2
  go_wp2_with fail
  refine S3'.out.mono ?_
  rintro e w' ⟨rfl, hw⟩
  obtain rfl := hw.symm
  clear hw S3'
  go_wp2_with fail
  refine S4.out.mono ?_
  rintro e w18 ⟨rfl, hb⟩
  have D18 := Lib.hid (D17.out.trans (hb.mono D17.out.size))
  have S5 := Lib.hid (auhits_nil z w18)
  clear hb S4 D17
  go_wp2_with fail
  refine S5.out.mono ?_
  rintro e w19 ⟨rfl, hb⟩
  have D19 := Lib.hid (D18.out.trans (hb.mono D18.out.size))
  have S6 := Lib.hid (aucells_nil w19)
  have S7 := Lib.hid (aurun_none none z w19)
  have S8 := Lib.hid (auawake_any w19)
  clear hb S5 D18
  go_wp2_with fail
  refine S6.out.mono ?_
  rintro e w' ⟨rfl, hw⟩
  obtain rfl := hw.symm
  clear hw S6
  go_wp2_with fail
  refine S7.out.mono ?_
  rintro e w' ⟨rfl, hw⟩
  obtain rfl := hw.symm
  clear hw S7
  go_wp2_with fail
  refine S8.out.mono ?_
  rintro e w20 ⟨rfl, hb⟩
  have D20 := Lib.hid (D19.out.trans (hb.mono D19.out.size))
  go_wp2
  go_ret
  exact ⟨rfl, D20.out⟩
end Go.Proofs.YtlbgigkkjlfklaaGreat
