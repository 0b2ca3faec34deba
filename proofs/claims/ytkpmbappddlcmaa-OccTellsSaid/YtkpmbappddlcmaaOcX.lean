/-
  The law OccTells, walked.
-/
import Derived.Test.YtkpmbappddlcmaaOcW
import Derived.Test.YtkpmbappddlcmaaOcC
import Derived.Test.YtkpmbappddlcmaaSameI
import Derived.Test.YtkpmbappddlcmaaPtFew
import Derived.Test.YtkpmbappddlcmaaFewN
set_option linter.unusedSimpArgs false
set_option linter.unusedVariables false
namespace Go.Proofs.Ytkpmbappddlcmaa
open Go.RowKit

theorem any_raw (us : List (List UInt8)) (F : List UInt8 → List Int) : ∀ k, k ≤ us.length → (us.take k).any (fun t => decide (0 < (F t).length)) = decide (0 < (rawK us F k).length)
  | 0, _ => by simp [rawK]
  | k + 1, hk => by
    obtain ⟨t, ht⟩ : ∃ t, us[k]? = some t := ⟨_, List.getElem?_eq_getElem (show k < us.length by omega)⟩
    rw [any_take ht, any_raw us F k (by omega), raw_next ht, List.length_append, List.length_map, Bool.eq_iff_iff]
    simp only [Bool.or_eq_true, decide_eq_true_eq]
    omega
theorem any_hit {us : List (List UInt8)} {s : List UInt8} (hu : ∀ t ∈ us, 0 < t.length) : (us.any fun t => decide (0 < (fndB s t).length)) = decide (0 < (hitL us s).length) := by
  have h := any_raw us (fndB s) us.length (Nat.le_refl _)
  rw [List.take_length] at h
  rw [h, ← all_is hu, srtH_length]
theorem cnt_at {us : List (List UInt8)} {s t : List UInt8} {k : Nat} (h : us[k]? = some t) (ht : 0 < t.length) : (cntL us (fndB s) us.length).getD k 0 = (cntE t s (s.length + 1) : Int) := by
  unfold cntL
  rw [List.take_length, List.getD_eq_getElem?_getD, List.getElem?_map, h]
  simp only [Option.map_some, Option.getD_some]
  rw [fndB_full (by cases t with | nil => simp at ht | cons _ _ => rfl), cnt_fnd ht s.length (Nat.le_refl _)]
theorem cntL_full (us : List (List UInt8)) (F : List UInt8 → List Int) : (cntL us F us.length).length = us.length := by
  unfold cntL
  rw [List.length_map, List.take_length]

set_option maxRecDepth 100000 in
set_option maxHeartbeats 1000000 in
theorem octells_many (a : Option Addr) (len cap : Nat) (ws : List (List UInt8)) (s : List UInt8) (n : Int) (w : World) (hlen : len ≤ 9223372036854775807) (hr : IsStrs w a len ws) (ht : ∀ t ∈ ws, t.length ≤ 9223372036854775807) (hq : fewB ws 12 20 = false) :
    Calls Try.prog 3 #[.slice a len cap, .string ⟨s.toArray⟩, .int .i64 n] w fun e w' => e = .returned (.bool true) ∧ Below w.heap.size w w' := by
  have HF := Lib.hid (few_noN a len cap ws w hlen hr ht _ hq)
  clear hr ht hq
  go_enter Try.func3, Try.ntmps3
  go_wp2_with fail
  refine HF.out.mono ?_
  rintro e w' ⟨rfl, rfl⟩
  go_wp2_with fail
  refine (ocawake_any _).mono ?_
  rintro e w' ⟨rfl, hb⟩
  go_wp2
  go_ret
  exact ⟨rfl, hb⟩
set_option maxRecDepth 100000 in
set_option maxHeartbeats 1000000 in
theorem octells_long (a : Option Addr) (len cap : Nat) (ws : List (List UInt8)) (s : List UInt8) (n : Int) (w : World) (hlen : len ≤ 9223372036854775807) (hr : IsStrs w a len ws) (ht : ∀ t ∈ ws, t.length ≤ 9223372036854775807) (hq : fewB ws 12 20 = true) (hs : 100 < s.length) :
    Calls Try.prog 3 #[.slice a len cap, .string ⟨s.toArray⟩, .int .i64 n] w fun e w' => e = .returned (.bool true) ∧ Below w.heap.size w w' := by
  have HF := Lib.hid (few_noN a len cap ws w hlen hr ht _ hq)
  have S1 := Lib.hid (bsize s)
  have g1 : (100 : Int) < (s.length : Int) := by omega
  have g2 : decide ((100 : Int) < (s.length : Int)) = true := decide_eq_true g1
  clear hr ht hq
  go_enter Try.func3, Try.ntmps3
  go_wp2_with fail
  refine HF.out.mono ?_
  rintro e w' ⟨rfl, rfl⟩
  go_wp2_with fail
  refine (ocawake_any _).mono ?_
  rintro e w' ⟨rfl, hb⟩
  go_wp2
  go_ret
  exact ⟨rfl, hb⟩

set_option maxRecDepth 100000 in
set_option maxHeartbeats 4000000 in
theorem octells_few (a : Option Addr) (len cap : Nat) (ws : List (List UInt8)) (s : List UInt8) (n : Int) (w : World) (hr : IsStrs w a len ws) (hq : fewB ws 12 20 = true) (hs : s.length ≤ 100) (hn : n ≤ 9223372036854775807) :
    Calls Try.prog 3 #[.slice a len cap, .string ⟨s.toArray⟩, .int .i64 n] w fun e w' => e = .returned (.bool true) ∧ Below w.heap.size w w' := by
  have hwl := hr.1
  have hfw := (few_iff ws 12 20).1 hq
  have hlen : len ≤ 12 := by omega
  have HF := Lib.hid (few_noN a len cap ws w (by omega) hr (fun t ht => by have := hfw.2 t ht; omega) _ hq)
  have HN := Lib.hid (ptnew_all a len cap ws w (by omega) hr (fun t ht => by have := hfw.2 t ht; omega))
  have HN2 := Lib.hid (fun (w2 : World) (hb : Below w.heap.size w w2) => rptnew_all a len cap ws w2 (by omega) (hr.below hb) (fun t ht => by have := hfw.2 t ht; omega))
  obtain ⟨hs1, hs2⟩ := few_setN hq
  have hs3 : ∀ t ∈ setL ws, 0 < t.length := fun t h => (set_mem h).2.1
  generalize setL ws = us at HN HN2 hs1 hs2 hs3
  generalize faultL ws = f at HN HN2
  have HAll := Lib.hid (fun (w2 : World) (p : Option Addr) (h : IsPats w2 p us) => ocall_any h (by omega) (fun t ht => ⟨hs3 t ht, by have := hs2 t ht; omega⟩) s (by omega))
  have HRAll := Lib.hid (fun (w2 : World) (a2 : Option Addr) (cap2 : Nat) (h : IsStrs w2 a2 us.length us) => rall_any a2 us.length cap2 us s w2 (by omega) h (fun t ht => by have := hs2 t ht; omega) (by omega))
  have HAt := Lib.hid (fun (w2 : World) (p : Option Addr) (h : IsPats w2 p us) => ocat_any h (by omega) s n (by omega))
  have HRAt := Lib.hid (fun (w2 : World) (a2 : Option Addr) (cap2 : Nat) (h : IsStrs w2 a2 us.length us) => rat_any a2 us.length cap2 us s n w2 (by omega) h (fun t ht => by have := hs2 t ht; omega) (by omega) hn)
  have HCn := Lib.hid (fun (w2 : World) (p : Option Addr) (h : IsPats w2 p us) => occounts_any h (by omega) (fun t ht => by have := hs2 t ht; omega) s (by omega))
  have HAny := Lib.hid (fun (w2 : World) (p : Option Addr) (h : IsPats w2 p us) => ocany_any h (by omega) (fun t ht => by have := hs2 t ht; omega) s (by omega))
  rw [any_hit hs3] at HAny
  have HCt := Lib.hid (fun (k : Nat) (t : List UInt8) (h : us[k]? = some t) => cnt_at (s := s) h (hs3 t (List.mem_of_getElem? h)))
  have HRC := Lib.hid (fun (w2 : World) (t : List UInt8) (ht : t ∈ us) => rcount_any t s w2 (by have := hs2 t ht; omega) (by omega))
  have hzl := atZ_length us s n
  have hhl : (hitL us s).length ≤ 1000000 := by
    have h1 := hitK_length us s (s.length + 1)
    have h2 : (s.length + 1) * us.length ≤ 101 * 12 := Nat.mul_le_mul (by omega) hs1
    unfold hitL; omega
  have hcl := cntL_full us (fndB s)
  generalize hitL us s = H at HAll HRAll HAny hhl
  generalize atZ us s n = Z at HAt HRAt hzl
  generalize cntL us (fndB s) us.length = C at HCn HCt hcl
  have HCL := Lib.hid hcl
  have S1 := Lib.hid (bsize s)
  have g1 : ¬ (100 : Int) < (s.length : Int) := by omega
  have g2 : decide ((100 : Int) < (s.length : Int)) = false := decide_eq_false g1
  have hsu := hs1
  clear hr hq hfw hwl hs2 hs3 hcl
  go_enter Try.func3, Try.ntmps3
  go_wp2_with fail
  refine HF.out.mono ?_
  rintro e w' ⟨rfl, hw⟩
  obtain rfl := hw.symm
  clear HF hw
  go_wp2_with fail
  refine HN.out.mono ?_
  rintro e w1 ⟨p, rfl, hp, d1⟩
  have e1 := d1.size
  have HN3 := Lib.hid (HN2.out w1 d1)
  have HP1 := Lib.hid hp
  clear HN HN2 hp
  go_wp2_with fail
  refine HN3.out.mono ?_
  rintro e w2 ⟨a2, cap2, rfl, hstr, hb2⟩
  have d2 := d1.trans (hb2.mono e1)
  have e2 := d2.size
  have T2 := Lib.hid hstr
  have HP2 := Lib.hid (HP1.out.below hb2)
  have K2 := Lib.hid (HRAll.out w2 a2 cap2 hstr)
  clear HN3 hb2 d1 e1 hstr HP1 HRAll
  go_wp2_with fail
  refine K2.out.mono ?_
  rintro e w3 hret
  obtain ⟨a3, cap3, rfl, hh3, hb3⟩ := hret.use
  have d3 := d2.trans (hb3.mono e2)
  have e3 := d3.size
  have T3 := Lib.hid (T2.out.below hb3)
  have HP3 := Lib.hid (HP2.out.below hb3)
  have HH3 := Lib.hid hh3
  have K3 := Lib.hid (HCn.out w3 p HP3.out)
  clear K2 hret hb3 d2 e2 T2 HP2 hh3 HCn
  go_wp2_with fail
  refine K3.out.mono ?_
  rintro e w4 ⟨v4, rfl, hown4, hb4⟩
  obtain ⟨a4, cap4, rfl, hrow4⟩ := row_of_ints hown4 (by rw [HCL.out]; unfold maxLen; omega)
  have d4 := d3.trans (hb4.mono e3)
  have e4 := d4.size
  have T4 := Lib.hid (T3.out.below hb4)
  have HP4 := Lib.hid (HP3.out.below hb4)
  have HH4 := Lib.hid (HH3.out.below hb4)
  rw [HCL.out] at hrow4
  rw [HCL.out]
  have HR4 := Lib.hid hrow4
  have K4 := Lib.hid (HAll.out w4 p HP4.out)
  clear K3 hown4 hb4 d3 e3 T3 HP3 HH3 hrow4 HAll
  go_wp2_with fail
  refine K4.out.mono ?_
  rintro e w5 hret
  obtain ⟨a5, cap5, rfl, hh5, hb5⟩ := hret.use
  have d5 := d4.trans (hb5.mono e4)
  have e5 := d5.size
  have T5 := Lib.hid (T4.out.below hb5)
  have HP5 := Lib.hid (HP4.out.below hb5)
  have HR5 := Lib.hid (HR4.out.below hb5)
  have K5 := Lib.hid (hsame_any a5 a3 H.length cap5 cap3 H w5 (by omega) hh5 (HH4.out.below hb5))
  clear K4 hret hb5 d4 e4 T4 HP4 HR4 HH4 hh5
  go_wp2_with fail
  refine K5.out.mono ?_
  rintro e w6 ⟨rfl, hb6⟩
  have d6 := d5.trans (hb6.mono e5)
  have e6 := d6.size
  have T6 := Lib.hid (T5.out.below hb6)
  have HP6 := Lib.hid (HP5.out.below hb6)
  have HR6 := Lib.hid (HR5.out.below hb6)
  have K6 := Lib.hid (HAt.out w6 p HP6.out)
  clear K5 hb6 d5 e5 T5 HP5 HR5 HAt
  go_wp2_with fail
  refine K6.out.mono ?_
  rintro e w7 ⟨v7, rfl, hown7, hb7⟩
  obtain ⟨a7, cap7, rfl, hrow7⟩ := row_of_ints hown7 (by unfold maxLen; omega)
  have d7 := d6.trans (hb7.mono e6)
  have e7 := d7.size
  have T7 := Lib.hid (T6.out.below hb7)
  have HP7 := Lib.hid (HP6.out.below hb7)
  have HR7 := Lib.hid (HR6.out.below hb7)
  have HQ7 := Lib.hid hrow7
  have K7 := Lib.hid (HRAt.out w7 a2 cap2 T7.out)
  clear K6 hown7 hrow7 hb7 d6 e6 T6 HP6 HR6 HRAt
  go_wp2_with fail
  refine K7.out.mono ?_
  rintro e w8 ⟨v8, rfl, hown8, hb8⟩
  obtain ⟨a8, cap8, rfl, hrow8⟩ := row_of_ints hown8 (by unfold maxLen; omega)
  have d8 := d7.trans (hb8.mono e7)
  have e8 := d8.size
  have T8 := Lib.hid (T7.out.below hb8)
  have HP8 := Lib.hid (HP7.out.below hb8)
  have HR8 := Lib.hid (HR7.out.below hb8)
  have K8 := Lib.hid (isame_any a7 a8 Z.length cap7 cap8 Z.length Z.length Z w8 (by omega) (HQ7.out.below hb8) hrow8)
  clear K7 hown8 hrow8 hb8 d7 e7 T7 HP7 HR7 HQ7
  go_wp2_with fail
  refine K8.out.mono ?_
  rintro e w9 ⟨rfl, hb9⟩
  have d9 := d8.trans (hb9.mono e8)
  have e9 := d9.size
  have T9 := Lib.hid (T8.out.below hb9)
  have HP9 := Lib.hid (HP8.out.below hb9)
  have HR9 := Lib.hid (HR8.out.below hb9)
  have K9 := Lib.hid (HAny.out w9 p HP9.out)
  clear K8 hb9 d8 e8 T8 HP8 HR8 HAny HP9
  obtain ⟨β, hβ⟩ : ∃ β, decide (0 < H.length) = β := ⟨_, rfl⟩
  have hβ2 : decide ((0 : Int) < (H.length : Int)) = β := by
    rw [← hβ, decide_eq_decide]; omega
  rw [hβ] at K9
  have hββ : (β == β) = true := by simp
  have huu : ((us.length : Int) == (us.length : Int)) = true := by simp
  go_wp2_with fail
  refine K9.out.mono ?_
  rintro e w10 ⟨rfl, hb10⟩
  have d10 := d9.trans (hb10.mono e9)
  have e10 := d10.size
  have T10 := Lib.hid (T9.out.below hb10)
  have HR10 := Lib.hid (HR9.out.below hb10)
  clear K9 hb10 d9 e9 T9 HR9
  go_wp2_with fail
  go_loopw [13] (fun i wr => ∃ k : Nat, k ≤ us.length ∧ i = .int .i64 k ∧ Below w10.heap.size w10 wr) (fun i _ => us.length - (RowKit.intOf i).toNat)
  case atStart => exact ⟨0, Nat.zero_le _, rfl, Below.refl _ _⟩
  case round =>
    obtain ⟨k, hk, rfl, hbe⟩ := hrel
    by_cases hlt : k < us.length
    · obtain ⟨b, off, rfl, t, hf, hc⟩ := str_at T10.out hbe k hlt
      obtain h0 | ⟨b9, off9, rfl, _, _, _, hall⟩ := HR10.out.below hbe
      · omega
      have hc9 := hall k hlt
      rw [HCt.out k t hf] at hc9
      have HQ : Hid (∀ q, Calls Try.prog 18 #[.string ⟨t.toArray⟩, .string ⟨s.toArray⟩] (wr.drewN q) fun en w' => en = .returned (.int .i64 (cntE t s (s.length + 1) : Int)) ∧ w' = wr.drewN q) :=
        Lib.hid (fun q => (HRC.out (wr.drewN q) t (List.mem_of_getElem? hf)).mono fun _ _ ⟨h1, h2⟩ => ⟨h1, h2.symm⟩)
      generalize cntE t s (s.length + 1) = c at hc9 HQ
      have g3 : (0 : Int) ≤ (k : Int) := by omega
      have g4 : (k : Int) < (us.length : Int) := by omega
      clear hf hall
      go_wp2_with fail
      go_quiet (first | with_reducible exact Calls.quiet_of_same (HQ.out _))
      go_wp2
      exact ⟨⟨k + 1, by omega, by go_num, below_drewS hbe _⟩, by simp [RowKit.intOf]; omega⟩
    · obtain rfl : k = us.length := by omega
      have hz : ¬ (us.length : Int) < (us.length : Int) := by omega
      have d11 := d10.trans (hbe.mono e10)
      have e11 := d11.size
      go_wp2_with fail
      refine (ocawake_any _).mono ?_
      rintro e w14 ⟨rfl, hb14⟩
      have d14 := d11.trans (hb14.mono e11)
      go_wp2
      go_ret
      exact ⟨rfl, d14⟩
end Go.Proofs.Ytkpmbappddlcmaa
