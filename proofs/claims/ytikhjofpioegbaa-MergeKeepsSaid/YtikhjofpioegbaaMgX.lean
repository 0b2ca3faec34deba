/-
  The law MergeKeeps: walked.
-/
import Derived.Test.YtikhjofpioegbaaMgK
import Derived.Test.YtikhjofpioegbaaMgF
import Derived.Test.YtikhjofpioegbaaMgN
set_option linter.unusedSimpArgs false
set_option linter.unusedVariables false
namespace Go.Proofs.Ytikhjofpioegbaa
open Go.RowKit

theorem mgF_keep {at' V : Int} {rs : List Rv} (h : mgF at' rs = (V, 0)) : mgF at' (mgAll rs) = (V, 0) := by
  cases ho : ofs at' with
  | false =>
    rw [mgf_out ho] at h
    injection h with _ h
    cases h
  | true =>
    rw [mgf_in ho] at h ⊢
    exact mgf_all at' rs V h

set_option maxRecDepth 100000 in
set_option maxHeartbeats 4000000 in
theorem mergeKeeps_walk (a : Option Addr) (m ca : Nat) (rs : List Rv) (at' : Int) (w : World) (hn : rs.length = m) (ha : RecAt w a rs) (hrd : ∀ x ∈ rs, Rd w x) :
    Calls Try.prog 5 #[.slice a m ca, .int .i64 at'] w fun e w' => e = .returned (.bool true) ∧ Below w.heap.size w w' := by
  have HA := Lib.hid ha
  have HRD := Lib.hid hrd
  have HN := Lib.hid hn
  clear ha hrd
  cases hfw : fewM rs 20 with
  | false =>
    have HF := Lib.hid (mgfew_any a m ca 20 rs w hn (by omega) HA.out false hfw)
    clear hfw
    go_enter Try.func5, Try.ntmps5
    go_wp2_with fail
    refine HF.out.mono ?_
    rintro E w1 ⟨rfl, rfl⟩
    clear HF
    go_wp2_with fail
    refine (mgawake_any _).mono ?_
    rintro E w2 ⟨rfl, hb⟩
    go_wp2
    go_ret
    exact ⟨rfl, hb⟩
  | true =>
    have HF := Lib.hid (mgfew_any a m ca 20 rs w hn (by omega) HA.out true hfw)
    obtain ⟨hm, h30⟩ := fewM_yes hfw
    have H30 := Lib.hid h30
    have hm20 : m ≤ 20 := by omega
    clear hfw h30 hm
    go_enter Try.func5, Try.ntmps5
    go_wp2_with fail
    refine HF.out.mono ?_
    rintro E w1 ⟨rfl, rfl⟩
    clear HF
    go_wp2
    go_loop [5] (fun i => ∃ k : Nat, k ≤ m ∧ i = .int .i64 (k : Int) ∧ Hid (∀ j x, j < k → rs[j]? = some x → 0 ≤ x.r ∧ x.r < 1125899906842624)) (fun i => m - (RowKit.intOf i).toNat)
    case atStart => exact ⟨0, Nat.zero_le _, rfl, Lib.hid (fun j x h => by omega)⟩
    case round =>
      obtain ⟨k, hk, rfl, HK⟩ := hrel
      by_cases hlt : k < m
      · obtain ⟨b1, off1, x, rfl, hx, c0, c1, c2, c3⟩ := HA.out.get (i := k) (by omega)
        have u0 : (0 : Int) ≤ (k : Int) := by omega
        have u1 : (k : Int) < (m : Int) := by omega
        have HX := Lib.hid hx
        clear hx c0 c1 c3
        by_cases h0 : x.r < 0
        · obtain ⟨xk, xn, xr, xa, xl, xc⟩ := x
          dsimp only at c2 h0
          go_wp2_with fail
          refine (mgawake_any _).mono ?_
          rintro E w2 ⟨rfl, hb⟩
          go_wp2
          go_ret
          exact ⟨rfl, hb⟩
        · by_cases h1 : 1125899906842624 ≤ x.r
          · obtain ⟨xk, xn, xr, xa, xl, xc⟩ := x
            dsimp only at c2 h0 h1
            go_wp2_with fail
            refine (mgawake_any _).mono ?_
            rintro E w2 ⟨rfl, hb⟩
            go_wp2
            go_ret
            exact ⟨rfl, hb⟩
          · have HK2 : Hid (∀ j y, j < k + 1 → rs[j]? = some y → 0 ≤ y.r ∧ y.r < 1125899906842624) := Lib.hid fun j y hj hy => by
              rcases Nat.lt_or_ge j k with h | h
              · exact HK.out j y h hy
              · obtain rfl : j = k := by omega
                rw [HX.out] at hy
                injection hy with hy
                subst hy
                omega
            obtain ⟨xk, xn, xr, xa, xl, xc⟩ := x
            dsimp only at c2 h0 h1
            go_wp2
            exact ⟨⟨k + 1, by omega, by go_num, HK2⟩, by simp [RowKit.intOf]; omega⟩
      · obtain rfl : k = m := by omega
        have u1 : ¬ (k : Int) < (k : Int) := by omega
        have hR : ∀ x ∈ rs, 0 ≤ x.r ∧ x.r < 1125899906842624 := fun x hx => by
          obtain ⟨j, hj, rfl⟩ := List.getElem_of_mem hx
          exact HK.out j _ (by have := HN.out; omega) (List.getElem?_eq_getElem hj)
        have hcan := (mga_canon rs hR (by have := HN.out; omega)).1
        have HCAN := Lib.hid hcan
        have HALL := Lib.hid (fun W => mgall_any a k ca rs W HN.out (by omega))
        have HFAR := Lib.hid (fun W => mgfar_any at' a k ca rs W HN.out (by omega))
        obtain ⟨V, E1, hf⟩ := mgf_some at' rs
        rw [hf] at HFAR
        dsimp only at HFAR
        have HVE := Lib.hid hf
        clear hR hcan hf HK
        go_wp2_with fail
        refine (HALL.out _ HA.out HRD.out (fun x hx => by have := H30.out x hx; omega)).mono ?_
        rintro E w2 ⟨a2, c2, qs, rfl, hr2, hp2, hb2⟩
        have hal : Pair2 Alike (mgAll rs) qs := hp2.mono fun _ _ h => h.1
        have hlq : qs.length ≤ 20 := by have := mga_len rs; have := hp2.1; have := HN.out; omega
        have hqc : CanonL qs := hal.canon HCAN.out
        have hqa : mgAll qs = qs := mgc_all qs hqc
        have hq30 : ∀ y ∈ qs, y.len ≤ 30 := fun y hy => by
          obtain ⟨j, hj, rfl⟩ := List.getElem_of_mem hy
          have hj2 : j < (mgAll rs).length := by rw [hp2.1]; exact hj
          rw [(hal.2 j _ _ (List.getElem?_eq_getElem hj2) (List.getElem?_eq_getElem hj)).2.2.2]
          rcases mga_from rs _ (List.getElem_mem hj2) with h | h
          · exact H30.out _ h
          · rw [h]; exact Nat.zero_le _
        have hqr : ∀ y ∈ qs, Rd w2 y := fun y hy => by
          obtain ⟨j, hj, rfl⟩ := List.getElem_of_mem hy
          have hj2 : j < (mgAll rs).length := by rw [hp2.1]; exact hj
          exact (hp2.2 j _ _ (List.getElem?_eq_getElem hj2) (List.getElem?_eq_getElem hj)).rd
        obtain ⟨V2, E2, hf2⟩ := mgf_some at' qs
        have hq0 : E1 = 0 → V2 = V ∧ E2 = 0 := fun e => by
          have h := HVE.out
          rw [e] at h
          have h3 := (hal.mgF at').trans (mgF_keep h)
          rw [hf2] at h3
          injection h3 with h3 h4
          exact ⟨h3, h4⟩
        have HFAR2 := Lib.hid (fun W => mgfar_any at' a2 qs.length c2 qs W rfl (by omega))
        rw [hf2] at HFAR2
        dsimp only at HFAR2
        have HQ := Lib.hid hr2
        have HQA := Lib.hid hqa
        have HQC := Lib.hid hqc
        have HQ30 := Lib.hid hq30
        have HQR := Lib.hid hqr
        have HQ0 := Lib.hid hq0
        have HB2 := Lib.hid hb2
        have HRA2 := Lib.hid (HA.out.below hb2)
        clear hr2 hp2 hb2 hal hqc hqa hq30 hqr hf2 hq0 HCAN
        obtain ⟨n2, hn2⟩ : ∃ n2, qs.length = n2 := ⟨_, rfl⟩
        have HN2 := Lib.hid hn2
        rw [hn2] at HFAR2 hlq ⊢
        clear hn2
        go_wp2_with fail
        refine (HFAR.out _ HRA2.out).mono ?_
        rintro E w3 ⟨rfl, hb3⟩
        have HQ3 := Lib.hid (HQ.out.below hb3)
        have HB3 := Lib.hid (HB2.out.trans (hb3.mono HB2.out.size))
        have HB23 := Lib.hid hb3
        clear hb3 HFAR
        go_wp2_with fail
        refine (HFAR2.out _ HQ3.out).mono ?_
        rintro E w4 ⟨rfl, hb4⟩
        have HQ4 := Lib.hid (HQ3.out.below hb4)
        have HB24 := Lib.hid (HB23.out.trans (hb4.mono HB23.out.size))
        have HB4 := Lib.hid (HB3.out.trans (hb4.mono HB3.out.size))
        have HALL2 := Lib.hid (mgall_any a2 n2 c2 qs w4 HN2.out (by omega) HQ4.out (fun y hy => (HQR.out y hy).below HB24.out) (fun y hy => by have := HQ30.out y hy; omega))
        have HCN := Lib.hid (fun W => mgcanon_any a2 n2 c2 qs W HN2.out (by omega))
        clear hb4 HFAR2 HALL HB23 HQ3 HQ HB2 HB3
        by_cases he : E1 = 0
        · subst he
          obtain ⟨rfl, rfl⟩ := HQ0.out rfl
          go_wp2_with fail
          refine HALL2.out.mono ?_
          rintro E w5 ⟨a5, c5, ps, rfl, hr5, hp5, hb5⟩
          rw [HQA.out] at hp5
          have hlp : ps.length = n2 := hp5.1.symm.trans HN2.out
          have HS := Lib.hid (mgsames_any a5 a2 n2 c5 c2 ps qs w5 hlp (by omega) (fun y hy => by
            obtain ⟨j, hj, rfl⟩ := List.getElem_of_mem hy
            have hj2 : j < qs.length := by rw [hp5.1]; exact hj
            rw [(hp5.2 j _ _ (List.getElem?_eq_getElem hj2) (List.getElem?_eq_getElem hj)).1.2.2.2]
            have := HQ30.out _ (List.getElem_mem hj2)
            omega) hr5 (HQ4.out.below hb5) (hp5.symm fun _ _ h => h.sm.symm))
          have HB5 := Lib.hid (HB4.out.trans (hb5.mono HB4.out.size))
          have HQ5 := Lib.hid (HQ4.out.below hb5)
          rw [hlp]
          clear hr5 hp5 hb5 hlp HALL2
          go_wp2_with fail
          refine HS.out.mono ?_
          rintro E w6 ⟨rfl, hb6⟩
          have HB6 := Lib.hid (HB5.out.trans (hb6.mono HB5.out.size))
          have HQ6 := Lib.hid (HQ5.out.below hb6)
          clear hb6 HS
          go_wp2_with fail
          refine (HCN.out _ HQ6.out true (mgc_mk HQC.out)).mono ?_
          rintro E w7 ⟨rfl, hb7⟩
          have HB7 := Lib.hid (HB6.out.trans (hb7.mono HB6.out.size))
          clear hb7 HCN
          go_wp2_with fail
          refine (mgawake_any _).mono ?_
          rintro E w8 ⟨rfl, hb8⟩
          have HB8 := Lib.hid (HB7.out.trans (hb8.mono HB7.out.size))
          clear hb8
          go_wp2
          go_ret
          exact ⟨rfl, HB8.out⟩
        · have he' : (E1 == 0) = false := by simp [he]
          go_wp2_with fail
          refine HALL2.out.mono ?_
          rintro E w5 ⟨a5, c5, ps, rfl, hr5, hp5, hb5⟩
          rw [HQA.out] at hp5
          have hlp : ps.length = n2 := hp5.1.symm.trans HN2.out
          have HS := Lib.hid (mgsames_any a5 a2 n2 c5 c2 ps qs w5 hlp (by omega) (fun y hy => by
            obtain ⟨j, hj, rfl⟩ := List.getElem_of_mem hy
            have hj2 : j < qs.length := by rw [hp5.1]; exact hj
            rw [(hp5.2 j _ _ (List.getElem?_eq_getElem hj2) (List.getElem?_eq_getElem hj)).1.2.2.2]
            have := HQ30.out _ (List.getElem_mem hj2)
            omega) hr5 (HQ4.out.below hb5) (hp5.symm fun _ _ h => h.sm.symm))
          have HB5 := Lib.hid (HB4.out.trans (hb5.mono HB4.out.size))
          have HQ5 := Lib.hid (HQ4.out.below hb5)
          rw [hlp]
          clear hr5 hp5 hb5 hlp HALL2
          go_wp2_with fail
          refine HS.out.mono ?_
          rintro E w6 ⟨rfl, hb6⟩
          have HB6 := Lib.hid (HB5.out.trans (hb6.mono HB5.out.size))
          have HQ6 := Lib.hid (HQ5.out.below hb6)
          clear hb6 HS
          go_wp2_with fail
          refine (HCN.out _ HQ6.out true (mgc_mk HQC.out)).mono ?_
          rintro E w7 ⟨rfl, hb7⟩
          have HB7 := Lib.hid (HB6.out.trans (hb7.mono HB6.out.size))
          clear hb7 HCN
          go_wp2_with fail
          refine (mgawake_any _).mono ?_
          rintro E w8 ⟨rfl, hb8⟩
          have HB8 := Lib.hid (HB7.out.trans (hb8.mono HB7.out.size))
          clear hb8
          go_wp2
          go_ret
          exact ⟨rfl, HB8.out⟩
end Go.Proofs.Ytikhjofpioegbaa
