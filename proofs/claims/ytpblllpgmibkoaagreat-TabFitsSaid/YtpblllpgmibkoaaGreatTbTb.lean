/-
  The law TabPuts: walked.
-/
import Derived.Test.YtpblllpgmibkoaaGreatBn15
import Derived.Test.YtpblllpgmibkoaaGreatTbY
import Derived.Test.YtpblllpgmibkoaaGreatBn13
import Derived.Test.YtpblllpgmibkoaaGreatBn14
import Derived.Test.YtpblllpgmibkoaaGreatBn16
import Derived.Test.YtpblllpgmibkoaaGreatBn6
set_option linter.unusedSimpArgs false
set_option linter.unusedVariables false
namespace Go.Proofs.YtpblllpgmibkoaaGreat
open Go.RowKit

theorem few_no6 (a : Option Addr) (len cap : Nat) (ws : List (List UInt8)) (w : World) (hlen : len ≤ 9223372036854775807) (hr : IsStrs w a len ws) (ht : ∀ t ∈ ws, t.length ≤ 9223372036854775807) (β : Bool) (hq : fewB ws 6 8 = β) :
    Calls Tryz.prog 6 #[.slice a len cap, .int .i64 6, .int .i64 8] w fun e w' => e = .returned (.bool β) ∧ w' = w := by
  have := few_any a len cap ws 6 8 w hlen (by omega) (by omega) hr ht
  rw [hq] at this
  exact this

theorem vall_most : ∀ (l : List Int), (∀ x ∈ l, x ≤ 9223372036854775807) → (vall l).length ≤ 9 * l.length
  | [], _ => by simp [vall]
  | x :: r, h => by
    have h1 := vput_length x (h x (by simp))
    have h2 := vall_most r (fun y hy => h y (by simp [hy]))
    simp only [vall, List.length_append, List.length_cons]
    omega
/-- The bytes of few states are few. -/
theorem tbB_few {own : List UInt8} {R : List (List Int)} (h : GoodT own R) (hR : R.length ≤ 97) : (tbB own R).length ≤ 1000000 := by
  have h1 := vput_length (R.length : Int) (by omega)
  have h2 := vput_length (own.length : Int) (by have := h.few; omega)
  have h3 := vall_most R.flatten (fun x hx => by
    obtain ⟨r, hr, hxr⟩ := List.mem_flatten.1 hx
    obtain ⟨j, hj⟩ := List.mem_iff_getElem?.1 hr
    obtain ⟨i, hi⟩ := List.mem_iff_getElem?.1 hxr
    have hil := (List.getElem?_eq_some_iff.1 hi).1
    have hl := h.len r hr
    have := (h.cell hj i (by omega)).2
    rw [List.getD_eq_getElem?_getD, hi] at this
    simp only [Option.getD_some] at this
    omega)
  have h4 := flat_len h.len
  have h5 := h.few
  have h6 := Nat.mul_le_mul hR (show own.length + 1 ≤ 257 by omega)
  unfold tbB
  simp only [List.length_append, hdT, List.length_cons, List.length_nil]
  omega

set_option maxHeartbeats 1000000 in
theorem tbputs_many (a : Option Addr) (len cap : Nat) (ws : List (List UInt8)) (w : World) (hlen : len ≤ 9223372036854775807) (hr : IsStrs w a len ws) (ht : ∀ t ∈ ws, t.length ≤ 9223372036854775807) (hq : fewB ws 6 8 = false) :
    Calls Tryz.prog 3 #[.slice a len cap] w fun e w' => e = .returned (.bool true) ∧ Below w.heap.size w w' := by
  have HF := Lib.hid (few_no6 a len cap ws w hlen hr ht _ hq)
  clear hr ht hq
  go_enter Tryz.func3, Tryz.ntmps3
  go_wp2_with fail
  refine HF.out.mono ?_
  rintro e w' ⟨rfl, rfl⟩
  go_wp2_with fail
  refine (tbawake_any _).mono ?_
  rintro e w' ⟨rfl, hb⟩
  go_wp2
  go_ret
  exact ⟨rfl, hb⟩

set_option maxRecDepth 100000 in
set_option maxHeartbeats 8000000 in
theorem tbputs_few (a : Option Addr) (len cap : Nat) (ws : List (List UInt8)) (w : World) (hr : IsStrs w a len ws) (hq : fewB ws 6 8 = true) :
    Calls Tryz.prog 3 #[.slice a len cap] w fun e w' => e = .returned (.bool true) ∧ Below w.heap.size w w' := by
  have hwl := hr.1
  have hfw := (few_iff ws 6 8).1 hq
  have hlen : len ≤ 6 := by omega
  have HF := Lib.hid (few_no6 a len cap ws w (by omega) hr (fun t ht => by have := hfw.2 t ht; omega) _ hq)
  have HN := Lib.hid (ptnew_all a len cap ws w (by omega) hr (fun t ht => by have := hfw.2 t ht; omega))
  have HN2 := Lib.hid (fun (w2 : World) (hb : Below w.heap.size w w2) => rptnew_all a len cap ws w2 (by omega) (hr.below hb) (fun t ht => by have := hfw.2 t ht; omega))
  obtain ⟨hs1, hs2⟩ := few_setN hq
  have hasc := set_asc ws
  have HNd := Lib.hid (fun (w2 : World) (p : Option Addr) (h : IsPats w2 p (setL ws)) => pats_nodup h)
  generalize setL ws = us at *
  generalize faultL ws = f at HN HN2
  have htot := total_le hs2
  have hul : us.length ≤ 6 := hs1
  have HTot : Hid (totalL us ≤ 48) := Lib.hid (by
    have := Nat.mul_le_mul_right 8 hul
    omega)
  have HOf := Lib.hid (fun (W : World) (p : Option Addr) (h : IsPats W p us) (hn : us.Nodup) => tbof_any h hasc hn)
  have HFt := Lib.hid (fun (W : World) (p : Option Addr) (b : Nat) (own : List UInt8) (R : List (List Int)) (hT : IsTab W b own R) (h : IsPats W p us) (hn : us.Nodup) => tbfits_any hT h hasc hn)
  have HRf := Lib.hid (fun (W : World) (a2 : Option Addr) (cap2 : Nat) (h : IsStrs W a2 us.length us) => rtof_any a2 cap2 us W (by omega) h hasc (fun t ht => by have := hs2 t ht; omega) (by have := HTot.out; omega))
  have HUs := Lib.hid hs2
  clear hr hq hfw hwl hs1 hs2 htot
  go_enter Tryz.func3, Tryz.ntmps3
  go_wp2_with fail
  refine HF.out.mono ?_
  rintro e w' ⟨rfl, hw⟩
  obtain rfl := hw.symm
  clear HF hw
  go_wp2_with fail
  refine HN.out.mono ?_
  rintro e w1 ⟨p, rfl, hp, d1⟩
  have e1 := d1.size
  have HN3 := Lib.hid (HN2.out w1 d1)
  have hn := HNd.out w1 p hp
  have HP1 := Lib.hid hp
  clear HN HN2 hp HNd
  go_wp2_with fail
  refine HN3.out.mono ?_
  rintro e w2 ⟨a2, cap2, rfl, hstr, hb2⟩
  have d2 := d1.trans (hb2.mono e1)
  have e2 := d2.size
  have HP2 := Lib.hid (HP1.out.below hb2)
  have HO2 := Lib.hid (HOf.out w2 p HP2.out hn)
  have T2 := Lib.hid hstr
  clear HN3 hb2 d1 e1 hstr HP1 HOf
  go_wp2_with fail
  refine HO2.out.mono ?_
  rintro e w3 ⟨b, S, rfl, hst, hr0, hSl, hT, hb3⟩
  have HG := Lib.hid hT.good
  have hSf : S.length ≤ 97 := by
    have := states_few (slx_nodup hst.1) (us := us) fun q hq => (hst.2 q).1 hq
    have := HTot.out
    omega
  have hbf := tbB_few hT.good (by rw [ofT_length]; exact hSf)
  have HBf := Lib.hid hbf
  have HPu := Lib.hid (tbput_any hT hbf)
  obtain ⟨t1, t2, t3, t4, t5⟩ := tb_put hT.good
  have HFit : Hid (fitT us S (bcK us 256) (ofT us S) = true) := Lib.hid ((fit_iff hT.good hT.good).2 ⟨rfl, rfl⟩)
  have HSt := Lib.hid hst
  have d3 := d2.trans (hb3.mono e2)
  have e3 := d3.size
  have HP3 := Lib.hid (HP2.out.below hb3)
  have T3 := Lib.hid (T2.out.below hb3)
  have HTk := Lib.hid (fun W => tbtake_any (tbB (bcK us 256) (ofT us S)) W (by omega))
  rw [t5, t4] at HTk
  have HRp := Lib.hid (fun (W : World) (v : Value) (h : IsRef W v (bcK us 256) ((ofT us S).map hdI) ((ofT us S).map List.tail)) => rtput_any h HG.out hbf)
  obtain ⟨s, hs⟩ : ∃ s, tbB (bcK us 256) (ofT us S) = s := ⟨_, rfl⟩
  rw [hs] at HPu HTk HRp
  have HSe := Lib.hid hs
  clear hs t1 t2 t3 t4 t5 hbf hst hr0 hSl hT hb3 d2 e2 T2 HP2 HO2
  have g0 : (s == s) = true := by simp
  go_wp2_with fail
  refine HPu.out.mono ?_
  rintro e w4 ⟨rfl, hb4⟩
  have d4 := d3.trans (hb4.mono e3)
  have e4 := d4.size
  have HP4 := Lib.hid (HP3.out.below hb4)
  have T4 := Lib.hid (T3.out.below hb4)
  have HT4 := Lib.hid (HTk.out w4)
  clear HPu hb4 d3 e3 HP3 T3 HTk
  go_wp2_with fail
  refine HT4.out.mono ?_
  rintro e w5 ⟨hcase, hb5⟩
  obtain ⟨h0, _⟩ | ⟨_, b5, rfl, hT5⟩ := hcase
  · exact absurd rfl h0
  have d5 := d4.trans (hb5.mono e4)
  have e5 := d5.size
  have HP5 := Lib.hid (HP4.out.below hb5)
  have HR5 := Lib.hid (HRf.out w5 a2 cap2 (T4.out.below hb5))
  have HI5 := Lib.hid hT5
  clear HT4 hb5 d4 e4 HP4 T4 hT5 HRf
  go_wp2_with fail
  refine HR5.out.mono ?_
  rintro e w6 ⟨v, S2, rfl, hst2, hI, hb6⟩
  obtain rfl : S2 = S := hst2.unique HSt.out
  have d6 := d5.trans (hb6.mono e5)
  have e6 := d6.size
  have HP6 := Lib.hid (HP5.out.below hb6)
  have HI6 := Lib.hid (HI5.out.below hb6)
  have HR6 := Lib.hid (HRp.out w6 v hI)
  clear HR5 hb6 d5 e5 HP5 HI5 hst2 hI HRp
  go_wp2_with fail
  refine HR6.out.mono ?_
  rintro e w7 ⟨rfl, hb7⟩
  have d7 := d6.trans (hb7.mono e6)
  have e7 := d7.size
  have HP7 := Lib.hid (HP6.out.below hb7)
  have HI7 := Lib.hid (HI6.out.below hb7)
  have HF7 := Lib.hid (HFt.out w7 p b5 _ _ HI7.out HP7.out hn)
  clear HR6 hb7 d6 e6 HP6 HI6 HFt
  go_wp2_with fail
  refine HF7.out.mono ?_
  rintro e w8 ⟨S3, rfl, hst3, hb8⟩
  obtain rfl : S3 = S2 := hst3.unique HSt.out
  rw [HFit.out]
  have d8 := d7.trans (hb8.mono e7)
  have e8 := d8.size
  have HI8 := Lib.hid (HI7.out.below hb8)
  have HPu8 := Lib.hid (tbput_any HI8.out HBf.out)
  rw [HSe.out] at HPu8
  clear HF7 hb8 d7 e7 HP7 HI7 hst3
  go_wp2_with fail
  refine HPu8.out.mono ?_
  rintro e w9 ⟨rfl, hb9⟩
  have d9 := d8.trans (hb9.mono e8)
  have e9 := d9.size
  have Z1 := Lib.hid (tbput_nil w9)
  have Z2 := Lib.hid (tblen_nil w9)
  have Z3 := Lib.hid (tbfits_nil p w9)
  have HW9 := Lib.hid (tbawake_any w9)
  clear HPu8 hb9 d8 e8 HI8
  go_wp2_with fail
  refine Z1.out.mono ?_
  rintro e w' ⟨rfl, hw⟩
  obtain rfl := hw.symm
  clear hw Z1
  go_wp2_with fail
  refine Z2.out.mono ?_
  rintro e w' ⟨rfl, hw⟩
  obtain rfl := hw.symm
  clear hw Z2
  go_wp2_with fail
  refine Z3.out.mono ?_
  rintro e w' ⟨rfl, hw⟩
  obtain rfl := hw.symm
  clear hw Z3
  go_wp2_with fail
  refine HW9.out.mono ?_
  rintro e wq ⟨rfl, hbq⟩
  have dq := d9.trans (hbq.mono e9)
  go_wp2
  go_ret
  exact ⟨rfl, dq⟩
end Go.Proofs.YtpblllpgmibkoaaGreat
