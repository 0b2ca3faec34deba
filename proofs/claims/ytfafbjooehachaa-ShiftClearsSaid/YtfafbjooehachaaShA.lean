/-
  The law's 'awake' of layer 13; the law ShiftTells: walked.
-/
import Derived.Test.YtfafbjooehachaaPtUr
import Derived.Test.YtfafbjooehachaaPtFew
import Derived.Test.YtfafbjooehachaaPtLe
import Derived.Test.YtfafbjooehachaaShN
import Derived.Test.YtfafbjooehachaaShE
import Derived.Test.YtfafbjooehachaaShR
import Derived.Test.YtfafbjooehachaaSameI
set_option linter.unusedSimpArgs false
set_option linter.unusedVariables false
namespace Go.Proofs.Ytfafbjooehachaa
open Go.RowKit

theorem shnew_all {w : World} {p : Option Addr} {us : List (List UInt8)} (h : IsPats w p us) :
    Calls Try.prog 10 #[.pointer p] w fun e w' => ∃ b, e = .returned (.pointer (some ⟨b, 0, none⟩)) ∧ w.heap.size ≤ b ∧ HasTab w' (some ⟨b, 0, none⟩) (fstL us) (leastR us) ∧ Below w.heap.size w w' := by
  have go : ∀ {Q : Ending → World → Prop}, Calls Try.prog 10 #[.pointer p] w (fun e w' => ∃ b, e = .returned (.pointer (some ⟨b, 0, none⟩)) ∧ w.heap.size ≤ b ∧ IsTab w' b (fstL us) (leastR us) ∧ Below w.heap.size w w') → Calls Try.prog 10 #[.pointer p] w fun e w' => ∃ b, e = .returned (.pointer (some ⟨b, 0, none⟩)) ∧ w.heap.size ≤ b ∧ HasTab w' (some ⟨b, 0, none⟩) (fstL us) (leastR us) ∧ Below w.heap.size w w' := by
    intro _ h
    refine h.mono ?_
    rintro e w' ⟨b, rfl, h1, h2, h3⟩
    exact ⟨b, rfl, h1, .inr ⟨b, rfl, h2⟩, h3⟩
  rcases h with ⟨rfl, rfl⟩ | ⟨b, rfl, h, hp⟩
  · exact go (Q := fun _ _ => True) (shnew_by _ [] w (by simp) (by simp) (fun W _ => ptleast_nil W) (fun W _ => ptlen_nil W) (fun W k t _ h => by simp at h))
  · exact go (Q := fun _ _ => True) (shnew_by _ us w (by have := hp.few; omega) (fun t ht => by have := hp.each t ht; omega) (fun W hW => by rw [leastR_some hp]; exact ptleast_any (h.below hW)) (fun W hW => ptlen_any (h.below hW)) (fun W k t hW hk => ptat_in (h.below hW) k t hk))
theorem tab_none (w : World) : HasTab w none (fun _ => 0) 0 := .inl ⟨rfl, fun _ => rfl, rfl⟩
theorem least_few {ws : List (List UInt8)} {n : Nat} (h : ∀ t ∈ ws, t.length ≤ n) : leastR ws ≤ n := by
  cases ws with
  | nil => rw [leastR_nil]; omega
  | cons t r => exact Nat.le_trans (leastR_le List.mem_cons_self) (h t List.mem_cons_self)

theorem shex_fault : faultL [[97, 98, 99], [98, 99]] = 0 := by decide +kernel
theorem shex_set : setL [[97, 98, 99], [98, 99]] = [[97, 98, 99], [98, 99]] := by
  rw [set_good shex_fault, ← ins_srt]; decide +kernel
theorem shex_c : fstL [[97, 98, 99], [98, 99]] 99 = 0 := by decide +kernel
theorem shex_b : fstL [[97, 98, 99], [98, 99]] 98 = 1 := by decide +kernel
theorem shex_a : fstL [[97, 98, 99], [98, 99]] 97 = 2 := by decide +kernel
theorem shex_x : fstL [[97, 98, 99], [98, 99]] 120 = 2 := by decide +kernel
theorem shex_m : leastR [[97, 98, 99], [98, 99]] = 2 := by decide +kernel
theorem shex_ends : endL (fstL [[97, 98, 99], [98, 99]]) 2 [120, 97, 98, 99, 120] = [4] := by decide +kernel

set_option maxHeartbeats 2000000 in
theorem shawake_any (w : World) :
    Calls Try.prog 7 #[] w fun e w' => e = .returned (.bool true) ∧ Below w.heap.size w w' := by
  have hA := strs_heap (ws := [[97, 98, 99], [98, 99]]) (heap_alloc_new w (.cells (txCells [[97, 98, 99], [98, 99]]).toArray 9)) rfl
  have H1 := Lib.hid (ptnew_all (some ⟨w.heap.size, 0, none⟩) 2 2 _ _ (by omega) hA (by decide))
  rw [shex_set, shex_fault] at H1
  have c1 : Below w.heap.size w (w.alloc (.cells (txCells [[97, 98, 99], [98, 99]]).toArray 9)) := (Below.refl _ w).alloc (Nat.le_refl _) _
  have s1 := c1.size
  have HFi : Hid (∀ (b : Option Addr) (w2 : World) (c n : Nat), fstL [[97, 98, 99], [98, 99]] c = n → c < 256 → HasTab w2 b (fstL [[97, 98, 99], [98, 99]]) 2 → Calls Try.prog 13 #[.pointer b, .int .u8 (c : Int)] w2 fun e w' => e = .returned (.int .i64 (n : Int)) ∧ w' = w2) := Lib.hid (fun b w2 c n hn hc h => by
    have := shfirst_any h c hc
    rwa [hn] at this)
  have HEn : Hid (∀ (b : Option Addr) (w2 : World), HasTab w2 b (fstL [[97, 98, 99], [98, 99]]) 2 → Calls Try.prog 16 #[.pointer b, .string ⟨#[120, 97, 98, 99, 120]⟩] w2 (RetN [4] w2)) := Lib.hid (fun b w2 h => by
    have := shends_any h [120, 97, 98, 99, 120] (by simp) (by omega) (fun c => by have := fst_le [[97, 98, 99], [98, 99]] c; rwa [shex_m] at this)
    rw [shex_ends] at this
    exact this)
  clear hA
  go_enter Try.func7, Try.ntmps7
  go_wp2_with fail
  refine H1.out.mono ?_
  rintro e w2 ⟨p, rfl, hs, hb2⟩
  have d2 := c1.trans (hb2.mono s1)
  have e2 := d2.size
  have N2 := Lib.hid (shnew_all hs)
  rw [shex_m] at N2
  clear H1 hs hb2 c1 s1
  go_wp2_with fail
  refine N2.out.mono ?_
  rintro e w3 ⟨b, rfl, _, hB, hb3⟩
  have d3 := d2.trans (hb3.mono e2)
  have e3 := d3.size
  have F1 := Lib.hid (HFi.out _ w3 99 0 shex_c (by omega) hB)
  have F2 := Lib.hid (HFi.out _ w3 98 1 shex_b (by omega) hB)
  have F3 := Lib.hid (HFi.out _ w3 97 2 shex_a (by omega) hB)
  have F4 := Lib.hid (HFi.out _ w3 120 2 shex_x (by omega) hB)
  have O3 := Lib.hid (HEn.out _ w3 hB)
  clear N2 hB hb3 d2 e2 HFi HEn
  go_wp2_with fail
  refine F1.out.mono ?_
  rintro e w' ⟨rfl, hw⟩
  obtain rfl := hw.symm
  clear hw F1
  go_wp2_with fail
  refine F2.out.mono ?_
  rintro e w' ⟨rfl, hw⟩
  obtain rfl := hw.symm
  clear hw F2
  go_wp2_with fail
  refine F3.out.mono ?_
  rintro e w' ⟨rfl, hw⟩
  obtain rfl := hw.symm
  clear hw F3
  go_wp2_with fail
  refine F4.out.mono ?_
  rintro e w' ⟨rfl, hw⟩
  obtain rfl := hw.symm
  clear hw F4
  go_wp2_with fail
  refine O3.out.mono ?_
  rintro e w4 ⟨v, rfl, hown, hb4⟩
  have d4 := d3.trans (hb4.mono e3)
  have e4 := d4.size
  obtain ⟨a4, cap4, rfl, hrow⟩ := row_of_ints hown (by unfold maxLen; decide)
  have c4 : Below w4.heap.size w4 (w4.alloc (.cells #[.int .i64 4] 3)) := (Below.refl _ w4).alloc (Nat.le_refl _) _
  have r4 : IsRow .i64 (w4.alloc (.cells #[.int .i64 4] 3)) (some ⟨w4.heap.size, 0, none⟩) 1 1 [4] := row_heap (heap_alloc_new w4 _) rfl (by unfold maxLen; omega)
  have M4 := Lib.hid (isame_any a4 _ 1 cap4 1 1 1 _ _ (by omega) (hrow.below c4) r4)
  have d5 := d4.trans (c4.mono e4)
  have e5 := d5.size
  clear O3 hown hrow r4 hb4 c4 d3 e3 d4 e4
  go_wp2_with fail
  refine M4.out.mono ?_
  rintro e w5 ⟨rfl, hb5⟩
  have d6 := d5.trans (hb5.mono e5)
  clear M4 hb5 d5 e5
  go_wp2
  go_ret
  exact ⟨rfl, d6⟩

set_option maxHeartbeats 1000000 in
theorem shtells_many (a : Option Addr) (len cap c : Nat) (ws : List (List UInt8)) (w : World) (hlen : len ≤ 9223372036854775807) (hr : IsStrs w a len ws) (ht : ∀ t ∈ ws, t.length ≤ 9223372036854775807) (hq : fewB ws 20 50 = false) :
    Calls Try.prog 3 #[.slice a len cap, .int .u8 (c : Int)] w fun e w' => e = .returned (.bool true) ∧ Below w.heap.size w w' := by
  have HF := Lib.hid (few_not a len cap ws w hlen hr ht hq)
  clear hr ht hq
  go_enter Try.func3, Try.ntmps3
  go_wp2_with fail
  refine HF.out.mono ?_
  rintro e w' ⟨rfl, rfl⟩
  go_wp2_with fail
  refine (shawake_any _).mono ?_
  rintro e w' ⟨rfl, hb⟩
  go_wp2
  go_ret
  exact ⟨rfl, hb⟩

set_option maxRecDepth 100000 in
set_option maxHeartbeats 4000000 in
theorem shtells_few (a : Option Addr) (len cap c : Nat) (ws : List (List UInt8)) (w : World) (hr : IsStrs w a len ws) (hq : fewB ws 20 50 = true) (hc : c < 256) :
    Calls Try.prog 3 #[.slice a len cap, .int .u8 (c : Int)] w fun e w' => e = .returned (.bool true) ∧ Below w.heap.size w w' := by
  have hwl := hr.1
  have hfw := (few_iff ws 20 50).1 hq
  have hlen : len ≤ 20 := by omega
  have HF := Lib.hid (few_yes a len cap ws w (by omega) hr (fun t ht => by have := hfw.2 t ht; omega) hq)
  have HN := Lib.hid (ptnew_all a len cap ws w (by omega) hr (fun t ht => by have := hfw.2 t ht; omega))
  have HN2 := Lib.hid (fun (w2 : World) (hb : Below w.heap.size w w2) => rptnew_all a len cap ws w2 (by omega) (hr.below hb) (fun t ht => by have := hfw.2 t ht; omega))
  obtain ⟨hs1, hs2⟩ := few_set hq
  generalize setL ws = us at HN HN2 hs1 hs2
  generalize faultL ws = f at HN HN2
  have HFi := Lib.hid (fun (w2 : World) (b : Option Addr) (h : HasTab w2 b (fstL us) (leastR us)) => shfirst_any h c hc)
  have HLe := Lib.hid (fun (w2 : World) (b : Option Addr) (h : HasTab w2 b (fstL us) (leastR us)) => shleast_any h)
  have HFo := Lib.hid (fun (w2 : World) (b : Option Addr) (h : HasTab w2 b (fstL us) (leastR us)) => shforeign_any h c hc)
  have HRFi := Lib.hid (fun (w2 : World) (a2 : Option Addr) (cap2 : Nat) (h : IsStrs w2 a2 us.length us) => rshfirst_any a2 us.length cap2 c us w2 (by omega) h (fun t ht => by have := hs2 t ht; omega))
  have HRLe := Lib.hid (fun (w2 : World) (a2 : Option Addr) (cap2 : Nat) (h : IsStrs w2 a2 us.length us) => rptleast_any a2 us.length cap2 us w2 (by omega) h (fun t ht => by have := hs2 t ht; omega))
  have HFi0 := Lib.hid (fun (w2 : World) => shfirst_any (tab_none w2) c hc)
  have HLe0 := Lib.hid (fun (w2 : World) => shleast_any (tab_none w2))
  have HFo0 := Lib.hid (fun (w2 : World) => shforeign_any (tab_none w2) c hc)
  have hml := least_few hs2
  obtain ⟨F, hFF⟩ : ∃ F, fstL us = F := ⟨_, rfl⟩
  obtain ⟨n, hnn⟩ : ∃ n, fstL us c = n := ⟨_, rfl⟩
  obtain ⟨m, hmm⟩ : ∃ m, leastR us = m := ⟨_, rfl⟩
  rw [hmm] at HFi HLe HFo HRLe hml
  rw [hnn] at HFi HFo HRFi
  have HNew := Lib.hid (fun (w2 : World) (p : Option Addr) (h : IsPats w2 p us) => shnew_all h)
  rw [hmm] at HNew
  obtain ⟨β, hβ⟩ : ∃ β, ((n : Int) == (m : Int)) = β := ⟨_, rfl⟩
  obtain ⟨γ, hγ⟩ : ∃ γ, forE m n = γ := ⟨_, rfl⟩
  rw [hγ] at HFo
  have HG : Hid (0 < m → γ = β) := Lib.hid (fun h => by rw [← hγ, ← hβ]; unfold forE; rw [decide_eq_true h, Bool.true_and])
  have HG0 : Hid (¬ 0 < m → γ = false) := Lib.hid (fun h => by rw [← hγ]; unfold forE; rw [decide_eq_false h, Bool.false_and])
  clear hr hq hfw hwl hs2 hFF hnn hmm hγ
  go_enter Try.func3, Try.ntmps3
  go_wp2_with fail
  refine HF.out.mono ?_
  rintro e w' ⟨rfl, hw⟩
  obtain rfl := hw.symm
  clear HF hw
  go_wp2_with fail
  refine HN.out.mono ?_
  rintro e w1 ⟨p, rfl, hp, d1⟩
  have e1 := d1.size
  have HN3 := Lib.hid (HN2.out w1 d1)
  have HP1 := Lib.hid hp
  clear HN HN2 hp
  go_wp2_with fail
  refine HN3.out.mono ?_
  rintro e w2 ⟨a2, cap2, rfl, hstr, hb2⟩
  have d2 := d1.trans (hb2.mono e1)
  have e2 := d2.size
  have HB2 := Lib.hid (HNew.out w2 p (HP1.out.below hb2))
  have T2 := Lib.hid hstr
  clear HN3 hb2 d1 e1 hstr HP1 HNew
  go_wp2_with fail
  refine HB2.out.mono ?_
  rintro e w3 ⟨b, rfl, _, hB, hb3⟩
  have d3 := d2.trans (hb3.mono e2)
  have e3 := d3.size
  have T3 := Lib.hid (T2.out.below hb3)
  have HB3 := Lib.hid hB
  have C3 := Lib.hid (HRFi.out w3 a2 cap2 T3.out)
  clear HB2 T2 hB hb3 d2 e2 HRFi
  go_wp2_with fail
  refine C3.out.mono ?_
  rintro e w4 ⟨rfl, hb4⟩
  have d4 := d3.trans (hb4.mono e3)
  have e4 := d4.size
  have HB4 := Lib.hid (HB3.out.below hb4)
  have C4 := Lib.hid (HRLe.out w4 a2 cap2 (T3.out.below hb4))
  clear C3 T3 HB3 hb4 d3 e3 HRLe
  go_wp2_with fail
  refine C4.out.mono ?_
  rintro e w' ⟨rfl, hw⟩
  obtain rfl := hw.symm
  clear hw C4
  have q1 : (f == f) = true := by simp
  have C5 := Lib.hid (HFi.out w4 _ HB4.out)
  have C6 := Lib.hid (HLe.out w4 _ HB4.out)
  have C7 := Lib.hid (HFo.out w4 _ HB4.out)
  have C8 := Lib.hid (HFi0.out w4)
  have C9 := Lib.hid (HLe0.out w4)
  have C10 := Lib.hid (HFo0.out w4)
  clear HFi HLe HFo HFi0 HLe0 HFo0 HB4
  have q2 : ((n : Int) == (n : Int)) = true := by simp
  have q3 : ((m : Int) == (m : Int)) = true := by simp
  go_wp2_with fail
  refine C5.out.mono ?_
  rintro e w' ⟨rfl, hw⟩
  obtain rfl := hw.symm
  clear hw C5
  go_wp2_with fail
  refine C6.out.mono ?_
  rintro e w' ⟨rfl, hw⟩
  obtain rfl := hw.symm
  clear hw C6
  go_wp2_with fail
  refine C7.out.mono ?_
  rintro e w' ⟨rfl, hw⟩
  obtain rfl := hw.symm
  clear hw C7
  by_cases h0 : 0 < m
  · have g0 : decide ((0 : Int) < (m : Int)) = true := decide_eq_true (by omega)
    have g1 : (0 : Int) < (m : Int) := by omega
    obtain rfl := HG.out h0
    have qb : (γ == γ) = true := by simp
    go_wp2_with fail
    refine C8.out.mono ?_
    rintro e w' ⟨rfl, hw⟩
    obtain rfl := hw.symm
    clear hw C8
    go_wp2_with fail
    refine C9.out.mono ?_
    rintro e w' ⟨rfl, hw⟩
    obtain rfl := hw.symm
    clear hw C9
    go_wp2_with fail
    refine C10.out.mono ?_
    rintro e w' ⟨rfl, hw⟩
    obtain rfl := hw.symm
    clear hw C10
    have qf : forE 0 0 = false := rfl
    go_wp2_with fail
    refine (shawake_any _).mono ?_
    rintro e w14 ⟨rfl, hb14⟩
    have d14 := d4.trans (hb14.mono e4)
    go_wp2
    go_ret
    exact ⟨rfl, d14⟩
  · have g0 : decide ((0 : Int) < (m : Int)) = false := decide_eq_false (by omega)
    have g1 : ¬ (0 : Int) < (m : Int) := by omega
    obtain rfl := HG0.out h0
    go_wp2_with fail
    refine C8.out.mono ?_
    rintro e w' ⟨rfl, hw⟩
    obtain rfl := hw.symm
    clear hw C8
    go_wp2_with fail
    refine C9.out.mono ?_
    rintro e w' ⟨rfl, hw⟩
    obtain rfl := hw.symm
    clear hw C9
    go_wp2_with fail
    refine C10.out.mono ?_
    rintro e w' ⟨rfl, hw⟩
    obtain rfl := hw.symm
    clear hw C10
    have qf : forE 0 0 = false := rfl
    go_wp2_with fail
    refine (shawake_any _).mono ?_
    rintro e w14 ⟨rfl, hb14⟩
    have d14 := d4.trans (hb14.mono e4)
    go_wp2
    go_ret
    exact ⟨rfl, d14⟩
end Go.Proofs.Ytfafbjooehachaa
