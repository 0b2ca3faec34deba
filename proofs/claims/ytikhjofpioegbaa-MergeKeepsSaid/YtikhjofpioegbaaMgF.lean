/-
  The last end that records cover, of both sides: walked.
-/
import Derived.Test.YtikhjofpioegbaaMgC
set_option linter.unusedSimpArgs false
set_option linter.unusedVariables false
namespace Go.Proofs.Ytikhjofpioegbaa
open Go.RowKit

theorem mgp_bad {v : Int} {x : Rv} {l : List Rv} (h : mgE x ≠ 0) : mgP v (x :: l) = (0, mgE x) := by simp [mgP, h]
theorem mgp_over {v : Int} {x : Rv} {l : List Rv} (h : mgE x = 0) (h2 : addE v (mgV x) ≠ 0) : mgP v (x :: l) = (0, addE v (mgV x)) := by simp [mgP, h, h2]
theorem mgp_go {v : Int} {x : Rv} {l : List Rv} (h : mgE x = 0) (h2 : addE v (mgV x) = 0) : mgP v (x :: l) = mgP (addV v (mgV x)) l := by simp [mgP, h, h2]
theorem mgf_some (v : Int) (rs : List Rv) : ∃ V E, mgF v rs = (V, E) := by
  generalize mgF v rs = p
  obtain ⟨V, E⟩ := p
  exact ⟨V, E, rfl⟩
theorem mgf_out {v : Int} {rs : List Rv} (h : ofs v = false) : mgF v rs = (0, 2) := if_neg (by rw [h]; decide)
theorem mgf_in {v : Int} {rs : List Rv} (h : ofs v = true) : mgF v rs = mgP v rs := if_pos h
theorem mgp_end {v : Int} {rs : List Rv} {k : Nat} (h : rs.length ≤ k) : mgP v (rs.drop k) = (v, 0) := by
  rw [List.drop_of_length_le h]
  rfl
theorem drop_at {rs : List Rv} {k : Nat} {x : Rv} (h : rs[k]? = some x) : rs.drop k = x :: rs.drop (k + 1) := by
  obtain ⟨hk, rfl⟩ := List.getElem?_eq_some_iff.1 h
  exact List.drop_eq_getElem_cons hk

set_option maxRecDepth 100000 in
set_option maxHeartbeats 4000000 in
theorem mgfar_any (at' : Int) (a : Option Addr) (m ca : Nat) (rs : List Rv) (w : World) (hn : rs.length = m) (hl : m ≤ 1000000000) (ha : RecAt w a rs) :
    Calls Try.prog 12 #[.int .i64 at', .slice a m ca] w (Ret2 (mgF at' rs).1 (mgF at' rs).2 w) := by
  have HA := Lib.hid ha
  clear ha
  obtain ⟨V, E, hf⟩ := mgf_some at' rs
  rw [hf]
  dsimp only
  cases ho : ofs at' with
  | false =>
    have h2 := mgf_out (rs := rs) ho
    rw [h2] at hf
    injection hf with h3 h4
    subst h3 h4
    have HI := Lib.hid (fun W => is_any at' W false ho)
    clear h2 ho
    go_enter Try.func12, Try.ntmps12
    go_wp2_with fail
    refine (HI.out _).mono ?_
    rintro e w2 ⟨rfl, hb⟩
    have HB := Lib.hid hb
    clear hb
    go_wp2
    go_ret2
    exact Ret2.mk rfl HB.out
  | true =>
    have HF : Hid (mgP at' rs = (V, E)) := Lib.hid ((mgf_in ho).symm.trans hf)
    have HI := Lib.hid (fun W => is_any at' W true ho)
    clear hf ho
    go_enter Try.func12, Try.ntmps12
    go_wp2_with fail
    refine (HI.out _).mono ?_
    rintro e w2 ⟨rfl, hb⟩
    have HB := Lib.hid hb
    clear hb HI
    go_wp2
    go_loopw [0, 15] (fun t i wr => ∃ (k : Nat) (v : Int), k ≤ m ∧ i = .int .i64 (k : Int) ∧ t = .int .i64 v ∧ Hid (mgP v (rs.drop k) = (V, E)) ∧ Hid (Below w.heap.size w wr)) (fun _ i _ => m - (RowKit.intOf i).toNat)
    case atStart => exact ⟨0, at', Nat.zero_le _, rfl, rfl, HF, HB⟩
    case round =>
      obtain ⟨k, v, hk, rfl, rfl, HK, HR⟩ := hrel
      by_cases hlt : k < m
      · obtain ⟨b1, off1, x, rfl, hx, c0, c1, c2, c3⟩ := (HA.out.below HR.out).get (i := k) (by omega)
        have u0 : (0 : Int) ≤ (k : Int) := by omega
        have u1 : (k : Int) < (m : Int) := by omega
        have hd := HK.out
        rw [drop_at hx] at hd
        have HD := Lib.hid hd
        clear hx hd HK
        obtain ⟨xk, xn, xr, xa, xl, xc⟩ := x
        dsimp only at c0 c1 c2 c3
        have hX := heap_alloc_new wr (.cells #[.int .i64 0, .int .i64 0, .int .i64 0, .slice none 0 0] 24)
        have hB := (Below.refl wr.heap.size wr).alloc (Nat.le_refl _) (.cells #[.int .i64 0, .int .i64 0, .int .i64 0, .slice none 0 0] 24)
        obtain ⟨wA, hwA⟩ : ∃ wA, wr.alloc (.cells #[.int .i64 0, .int .i64 0, .int .i64 0, .slice none 0 0] 24) = wA := ⟨_, rfl⟩
        rw [hwA] at hX hB
        obtain ⟨f0, f1, f2, f3⟩ := rec_free hX
        obtain ⟨j0, j1, j2, j3⟩ := rec_reads hX
        have hXs := put_rec hX (.int .i64 xk) (.int .i64 xn) (.int .i64 xr) (.slice xa xl xc)
        have HBs := Lib.hid (HR.out.trans ((below_rec hB (Nat.le_refl _) (.int .i64 xk) (.int .i64 xn) (.int .i64 xr) (.slice xa xl xc)).mono HR.out.size))
        obtain ⟨i0, i1, i2, i3⟩ := rec_reads hXs
        have HXS := Lib.hid hXs
        clear hX hXs hB
        obtain ⟨n, hn'⟩ : ∃ n, mgV ⟨xk, xn, xr, xa, xl, xc⟩ = n := ⟨_, rfl⟩
        obtain ⟨e1, he1⟩ : ∃ e1, mgE ⟨xk, xn, xr, xa, xl, xc⟩ = e1 := ⟨_, rfl⟩
        have HC := Lib.hid (fun W => mgcov_any xk xn xr xa xl xc W)
        rw [hn', he1] at HC
        have HN := Lib.hid hn'
        have HE1 := Lib.hid he1
        clear hn' he1
        go_wp2_with fail
        refine (HC.out _).mono ?_
        rintro e w3 ⟨rfl, hb⟩
        have HB3 := Lib.hid (HBs.out.trans (hb.mono HBs.out.size))
        clear hb HC HBs HXS
        by_cases hz : e1 = 0
        · subst hz
          obtain ⟨v2, hv2⟩ : ∃ v2, addV v n = v2 := ⟨_, rfl⟩
          obtain ⟨e2, he2⟩ : ∃ e2, addE v n = e2 := ⟨_, rfl⟩
          have HAD := Lib.hid (fun W => add_any v n W)
          rw [hv2, he2] at HAD
          have HV2 := Lib.hid hv2
          have HE2 := Lib.hid he2
          clear hv2 he2
          go_wp2_with fail
          refine (HAD.out _).mono ?_
          rintro e w4 ⟨rfl, hb⟩
          have HB4 := Lib.hid (HB3.out.trans (hb.mono HB3.out.size))
          clear hb HAD HB3
          by_cases hz2 : e2 = 0
          · subst hz2
            have HK2 : Hid (mgP v2 (rs.drop (k + 1)) = (V, E)) := Lib.hid (by
              rw [← HD.out, mgp_go HE1.out (by rw [HN.out]; exact HE2.out), HN.out, HV2.out])
            clear HD
            go_wp2
            exact ⟨⟨k + 1, v2, by omega, by go_num, rfl, HK2, HB4⟩, by simp [RowKit.intOf]; omega⟩
          · have hfin : (0, e2) = (V, E) := by rw [← HD.out, mgp_over HE1.out (by rw [HN.out, HE2.out]; exact hz2), HN.out, HE2.out]
            injection hfin with h3 h4
            subst h3 h4
            have g2 : (e2 == 0) = false := by simp [hz2]
            clear HD
            go_wp2
            go_ret2
            exact Ret2.mk rfl HB4.out
        · have hfin : (0, e1) = (V, E) := by rw [← HD.out, mgp_bad (by rw [HE1.out]; exact hz), HE1.out]
          injection hfin with h3 h4
          subst h3 h4
          have g2 : (e1 == 0) = false := by simp [hz]
          clear HD
          go_wp2
          go_ret2
          exact Ret2.mk rfl HB3.out
      · obtain rfl : k = m := by omega
        have u1 : ¬ (k : Int) < (k : Int) := by omega
        have hfin : (v, (0 : Int)) = (V, E) := (mgp_end (by omega)).symm.trans HK.out
        injection hfin with h3 h4
        subst h3 h4
        go_wp2
        go_ret2
        exact Ret2.mk rfl HR.out

set_option maxRecDepth 100000 in
set_option maxHeartbeats 4000000 in
theorem mgrfar_any (at' : Int) (a : Option Addr) (m ca : Nat) (rs : List Rv) (w : World) (hn : rs.length = m) (hl : m ≤ 1000000000) (ha : RecAt w a rs) :
    Calls Try.prog 13 #[.int .i64 at', .slice a m ca] w (Ret2 (mgF at' rs).1 (mgF at' rs).2 w) := by
  have HA := Lib.hid ha
  clear ha
  obtain ⟨V, E, hf⟩ := mgf_some at' rs
  rw [hf]
  dsimp only
  cases ho : ofs at' with
  | false =>
    have h2 := mgf_out (rs := rs) ho
    rw [h2] at hf
    injection hf with h3 h4
    subst h3 h4
    have HI := Lib.hid (fun W => ris_any at' W false ho)
    clear h2 ho
    go_enter Try.func13, Try.ntmps13
    go_wp2_with fail
    refine (HI.out _).mono ?_
    rintro e w2 ⟨rfl, rfl⟩
    go_wp2
    go_ret2
    exact Ret2.mk rfl (Below.refl _ _)
  | true =>
    have HF : Hid (mgP at' rs = (V, E)) := Lib.hid ((mgf_in ho).symm.trans hf)
    have HI := Lib.hid (fun W => ris_any at' W true ho)
    clear hf ho
    go_enter Try.func13, Try.ntmps13
    go_wp2_with fail
    refine (HI.out _).mono ?_
    rintro e w2 ⟨rfl, rfl⟩
    clear HI
    go_wp2
    go_loopw [0, 6] (fun t i wr => ∃ (k : Nat) (v : Int), k ≤ m ∧ i = .int .i64 (k : Int) ∧ t = .int .i64 v ∧ Hid (mgP v (rs.drop k) = (V, E)) ∧ Hid (Below w.heap.size w wr)) (fun _ i _ => m - (RowKit.intOf i).toNat)
    case atStart => exact ⟨0, at', Nat.zero_le _, rfl, rfl, HF, Lib.hid (Below.refl _ _)⟩
    case round =>
      obtain ⟨k, v, hk, rfl, rfl, HK, HR⟩ := hrel
      by_cases hlt : k < m
      · obtain ⟨b1, off1, x, rfl, hx, c0, c1, c2, c3⟩ := (HA.out.below HR.out).get (i := k) (by omega)
        have u0 : (0 : Int) ≤ (k : Int) := by omega
        have u1 : (k : Int) < (m : Int) := by omega
        have hd := HK.out
        rw [drop_at hx] at hd
        have HD := Lib.hid hd
        clear hx hd HK
        obtain ⟨xk, xn, xr, xa, xl, xc⟩ := x
        dsimp only at c0 c1 c2 c3
        obtain ⟨n, hn'⟩ : ∃ n, mgV ⟨xk, xn, xr, xa, xl, xc⟩ = n := ⟨_, rfl⟩
        obtain ⟨e1, he1⟩ : ∃ e1, mgE ⟨xk, xn, xr, xa, xl, xc⟩ = e1 := ⟨_, rfl⟩
        have HC := Lib.hid (fun W => mgrcov_any xk xn xr xa xl xc W)
        rw [hn', he1] at HC
        have HN := Lib.hid hn'
        have HE1 := Lib.hid he1
        clear hn' he1
        go_wp2_with fail
        refine (HC.out _).mono ?_
        rintro e w3 ⟨rfl, hb⟩
        have HB3 := Lib.hid (HR.out.trans (hb.mono HR.out.size))
        clear hb HC
        by_cases hz : e1 = 0
        · subst hz
          obtain ⟨v2, hv2⟩ : ∃ v2, addV v n = v2 := ⟨_, rfl⟩
          obtain ⟨e2, he2⟩ : ∃ e2, addE v n = e2 := ⟨_, rfl⟩
          have HAD := Lib.hid (fun W => radd_any v n W)
          rw [hv2, he2] at HAD
          have HV2 := Lib.hid hv2
          have HE2 := Lib.hid he2
          clear hv2 he2
          go_wp2_with fail
          refine (HAD.out _).mono ?_
          rintro e w4 ⟨rfl, rfl⟩
          clear HAD
          by_cases hz2 : e2 = 0
          · subst hz2
            have HK2 : Hid (mgP v2 (rs.drop (k + 1)) = (V, E)) := Lib.hid (by
              rw [← HD.out, mgp_go HE1.out (by rw [HN.out]; exact HE2.out), HN.out, HV2.out])
            clear HD
            go_wp2
            exact ⟨⟨k + 1, v2, by omega, by go_num, rfl, HK2, HB3⟩, by simp [RowKit.intOf]; omega⟩
          · have hfin : (0, e2) = (V, E) := by rw [← HD.out, mgp_over HE1.out (by rw [HN.out, HE2.out]; exact hz2), HN.out, HE2.out]
            injection hfin with h3 h4
            subst h3 h4
            have g2 : (e2 == 0) = false := by simp [hz2]
            clear HD
            go_wp2
            go_ret2
            exact Ret2.mk rfl HB3.out
        · have hfin : (0, e1) = (V, E) := by rw [← HD.out, mgp_bad (by rw [HE1.out]; exact hz), HE1.out]
          injection hfin with h3 h4
          subst h3 h4
          have g2 : (e1 == 0) = false := by simp [hz]
          clear HD
          go_wp2
          go_ret2
          exact Ret2.mk rfl HB3.out
      · obtain rfl : k = m := by omega
        have u1 : ¬ (k : Int) < (k : Int) := by omega
        have hfin : (v, (0 : Int)) = (V, E) := (mgp_end (by omega)).symm.trans HK.out
        injection hfin with h3 h4
        subst h3 h4
        go_wp2
        go_ret2
        exact Ret2.mk rfl HR.out
end Go.Proofs.Ytikhjofpioegbaa
