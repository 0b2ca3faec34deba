/-
  The law TabTakes: walked.
-/
import Derived.Test.YtpblllpgmibkoaaGreatBn11
import Derived.Test.YtpblllpgmibkoaaGreatBn13
import Derived.Test.YtpblllpgmibkoaaGreatBn14
import Derived.Lib.QuietBelow
set_option linter.unusedSimpArgs false
set_option linter.unusedVariables false
namespace Go.Proofs.YtpblllpgmibkoaaGreat
open Go.RowKit

theorem regrown_at {P : Program} {f : FuncId} {args : Array Value} {v : Value} {w : World} (h : ∀ W, Below w.heap.size w W → Calls P f args W fun e w' => e = .returned v ∧ Below W.heap.size W w') (d : Nat) (os : Array Obj) :
    Calls P f args (Go.Sort.grow (redrawn w d) os) fun e w'' => e = .returned v ∧ ∃ p : Regrown, w'' = Go.Sort.grow (redrawn w p.d) p.os := Calls.regrown_of (h _ (below_regrown w d os))
theorem drew_below {P : Program} {f : FuncId} {args : Array Value} {v : Value} {w : World} (h : Calls P f args w fun e w' => e = .returned v ∧ ∃ q, w' = w.drewN q) : Calls P f args w fun e w' => e = .returned v ∧ Below w.heap.size w w' :=
  h.mono fun e w' ⟨h1, q, h2⟩ => ⟨h1, by rw [h2]; exact below_drewS (Below.refl _ _) q⟩

set_option maxHeartbeats 1000000 in
theorem tbtakes_long (s : List UInt8) (no : Int) (c : UInt8) (w : World) (hs : 600 < s.length) :
    Calls Tryz.prog 4 #[.string ⟨s.toArray⟩, .int .i64 no, .int .u8 (c.toNat : Int)] w fun e w' => e = .returned (.bool true) ∧ Below w.heap.size w w' := by
  have HZ := Lib.hid (bsize s)
  have g0 : (600 : Int) < (s.length : Int) := by omega
  go_enter Tryz.func4, Tryz.ntmps4
  go_wp2_with fail
  refine (tbawake_any _).mono ?_
  rintro e w' ⟨rfl, hb⟩
  go_wp2
  go_ret
  exact ⟨rfl, hb⟩

set_option maxRecDepth 100000 in
set_option maxHeartbeats 8000000 in
theorem tbtakes_few (s : List UInt8) (no : Int) (c : UInt8) (w : World) (hs : s.length ≤ 600) :
    Calls Tryz.prog 4 #[.string ⟨s.toArray⟩, .int .i64 no, .int .u8 (c.toNat : Int)] w fun e w' => e = .returned (.bool true) ∧ Below w.heap.size w w' := by
  have HZ := Lib.hid (bsize s)
  have hmx : Tryz.prog.follows .mixedOrders = true := by kernel_rfl
  have g0 : ¬ (600 : Int) < (s.length : Int) := by omega
  have HT := Lib.hid (tbtake_any s w (by omega))
  have HR := Lib.hid (fun W => rttake_any s W (by omega))
  have HA := Lib.hid (fun (W : World) => tbawake_any W)
  have HS : Hid ((tbT s).1 = 0 → tbB (hdO s) (tbT s).2 = s ∧ GoodT (hdO s) (tbT s).2) := Lib.hid (fun h => by
    obtain ⟨_, h2, h3, _⟩ := tb_take h
    exact ⟨h3.symm, h2⟩)
  obtain ⟨S, hS⟩ : ∃ S, tbT s = S := ⟨_, rfl⟩
  obtain ⟨own, hown⟩ : ∃ o, hdO s = o := ⟨_, rfl⟩
  rw [hS, hown] at HT HS
  have HSe := Lib.hid hS
  have HOe := Lib.hid hown
  clear hS hown
  go_enter Tryz.func4, Tryz.ntmps4
  go_wp2_with fail
  refine HT.out.mono ?_
  rintro e w1 ⟨hcase, hb1⟩
  have HR1 := Lib.hid (HR.out w1)
  have s1 := hb1.size
  have HB1 := Lib.hid hb1
  clear HT HR hb1
  rcases hcase with ⟨h0, rfl⟩ | ⟨h0, b, rfl, hT⟩
  · go_wp2_with fail
    refine HR1.out.mono ?_
    rintro e w2 ⟨v, own2, R, rfl, hI, hok, hbad, hb2⟩
    rw [HSe.out] at hbad ⊢
    obtain ⟨rfl, rfl⟩ := hbad h0
    have HStp := Lib.hid (fun (W : World) (hW : Below w2.heap.size w2 W) => rtstep_any (hI.below hW) (fun r hr => by simp at hr) (by simp) (by simp) no c)
    rw [show stpT [] [] no c = 0 from stp_out (by simp; omega)] at HStp
    obtain ⟨da, dc, na, nc, rfl, hd, hq⟩ := hI
    have d2 := HB1.out.trans (hb2.mono s1)
    have HD2 := Lib.hid d2
    have s2 := d2.size
    generalize S.1 = x at *
    have r0 : (x != x) = false := by simp
    have r1 : (x == 0) = false := by simpa using h0
    have r2 : (x != 0) = true := by simpa using h0
    have hh3 := heap_alloc_new w2 (.cells #[.string ⟨([] : List UInt8).toArray⟩, .slice da 0 dc, .slice na 0 nc] 40)
    have b3 : Below w2.heap.size w2 (w2.alloc (.cells #[.string ⟨([] : List UInt8).toArray⟩, .slice da 0 dc, .slice na 0 nc] 40)) := (Below.refl _ _).alloc (Nat.le_refl _) _
    clear hd hq hb2 HR1 hok HS d2
    go_wp2_with fail
    obtain ⟨x0, x1, x2, y0, y1, y2⟩ := res_cells hh3
    have HD3 := Lib.hid (HD2.out.trans (b3.mono s2))
    have HB3 := Lib.hid b3
    generalize w2.alloc (.cells #[.string ⟨([] : List UInt8).toArray⟩, .slice da 0 dc, .slice na 0 nc] 40) = w3 at *
    have HSt3 := Lib.hid (fun (W : World) (hW : Below w3.heap.size w3 W) => HStp.out W (HB3.out.trans (hW.mono HB3.out.size)))
    simp only [List.map_nil, List.length_nil] at HSt3
    generalize w2.heap.size = b9 at *
    have HLen := Lib.hid (fun q => Calls.quiet_of_same (tblen_nil (w3.drewN q)))
    clear hh3 b3 HStp HD2 HB3
    go_quiet (with_reducible exact HLen.out _)
    obtain ⟨w4, hw4⟩ : ∃ w4, w3.drewN nq = w4 := ⟨_, rfl⟩
    have HD4 : Hid (Below w.heap.size w w4) := Lib.hid (by rw [← hw4]; exact below_drewS HD3.out _)
    have hb34 : Below w3.heap.size w3 w4 := by rw [← hw4]; exact below_drewS (Below.refl _ _) _
    have v0 : w4.cell? ⟨b9, 0, none⟩ = some (.string ⟨([] : List UInt8).toArray⟩) := by rw [← hw4]; exact x0
    have v1 : w4.cell? ⟨b9, 1, none⟩ = some (.slice da 0 dc) := by rw [← hw4]; exact x1
    have v2 : w4.cell? ⟨b9, 2, none⟩ = some (.slice na 0 nc) := by rw [← hw4]; exact x2
    have G1 := regrown_at (w := w4) (fun W _ => drew_below (tbdepth_none (tbrow_nilq no W)))
    have G2 := regrown_at (w := w4) (fun W _ => drew_below (tbstep_none (tbrow_nilq no W) c))
    have G3 := regrown_at (w := w4) (fun W hW => HSt3.out W (hb34.trans (hW.mono hb34.size)))
    have G5 := regrown_at (w := w4) (fun W _ => HA.out W)
    have k0 := cell_regrown v0
    have k1 := cell_regrown v1
    have k2 := cell_regrown v2
    rw [hw4]
    clear hw4 x0 x1 x2 y0 y1 y2 HD3 HLen HSt3 hb34
    by_cases h1 : 0 ≤ no
    · have u1 : decide (0 ≤ no) = true := decide_eq_true h1
      have u2 : ¬ no < 0 := by omega
      have u3 : decide (no < 0) = false := decide_eq_false u2
      go_wp2_with fail
      refine wp_region_quiet_below hmx (by kernel_rfl) ?_
      repeat (go_big_quiet_step (first | with_reducible exact G1 _ _ | with_reducible exact G2 _ _ | with_reducible exact G3 _ _ | with_reducible exact G5 _ _))
      refine wpQuiet_nil ?_
      intro W6 hw6
      obtain ⟨⟨dq, osq⟩, rfl⟩ := hw6
      have b6 := below_regrown w4 dq osq
      generalize Go.Sort.grow (redrawn w4 dq) osq = w6 at b6 ⊢
      have HD6 := Lib.hid (HD4.out.trans (b6.mono HD4.out.size))
      clear b6
      go_wp2
      go_ret
      exact ⟨rfl, HD6.out⟩
    · have u1 : decide (0 ≤ no) = false := decide_eq_false h1
      go_wp2_with fail
      refine wp_region_quiet_below hmx (by kernel_rfl) ?_
      repeat (go_big_quiet_step (first | with_reducible exact G1 _ _ | with_reducible exact G2 _ _ | with_reducible exact G3 _ _ | with_reducible exact G5 _ _))
      refine wpQuiet_nil ?_
      intro W6 hw6
      obtain ⟨⟨dq, osq⟩, rfl⟩ := hw6
      have b6 := below_regrown w4 dq osq
      generalize Go.Sort.grow (redrawn w4 dq) osq = w6 at b6 ⊢
      have HD6 := Lib.hid (HD4.out.trans (b6.mono HD4.out.size))
      clear b6
      go_wp2
      go_ret
      exact ⟨rfl, HD6.out⟩
  · go_wp2_with fail
    refine HR1.out.mono ?_
    rintro e w2 ⟨v, own2, R, rfl, hI, hok, hbad, hb2⟩
    rw [HSe.out] at hok ⊢
    obtain ⟨rfl, rfl⟩ := hok h0
    rw [HOe.out] at hI
    obtain ⟨hB, hG⟩ := HS.out h0
    have hll := hG.len
    have hfw := hG.few
    have hmo := hG.most
    have HStp := Lib.hid (fun (W : World) (hW : Below w2.heap.size w2 W) => rtstep_any (hI.below hW) hll (by omega) (by omega) no c)
    obtain ⟨da, dc, na, nc, rfl, hd, hq⟩ := hI
    have d2 := HB1.out.trans (hb2.mono s1)
    have HD2 := Lib.hid d2
    have s2 := d2.size
    have HT2 := Lib.hid (hT.below hb2)
    rw [h0]
    have HSb : Hid ((tbB own S.2).length ≤ 1000000) := Lib.hid (by rw [hB]; omega)
    have HBs := Lib.hid hB
    generalize S.2 = R at *
    rw [List.length_map] at hd HStp ⊢
    rw [List.length_map] at HStp ⊢
    have HDp := Lib.hid hd
    have HLl : Hid (∀ j, j < R.length → ∃ r, R[j]? = some r ∧ (R.map hdI).getD j 0 = r.getD 0 0) := Lib.hid (fun j hj => by
      refine ⟨R[j], List.getElem?_eq_getElem hj, ?_⟩
      simp only [List.getD, List.getElem?_map, List.getElem?_eq_getElem hj, Option.map_some, Option.getD_some]
      unfold hdI
      cases R[j] <;> rfl)
    obtain ⟨n, hn⟩ : ∃ n, R.length = n := ⟨_, rfl⟩
    have HN := Lib.hid hn
    rw [hn] at HDp HStp HLl hmo ⊢
    have hh3 := heap_alloc_new w2 (.cells #[.string ⟨own.toArray⟩, .slice da n dc, .slice na n nc] 40)
    have b3 : Below w2.heap.size w2 (w2.alloc (.cells #[.string ⟨own.toArray⟩, .slice da n dc, .slice na n nc] 40)) := (Below.refl _ _).alloc (Nat.le_refl _) _
    clear hd hq hb2 HR1 hok HS d2 hbad hT hB hG hll hn
    go_wp2_with fail
    obtain ⟨x0, x1, x2, y0, y1, y2⟩ := res_cells hh3
    have HD3 := Lib.hid (HD2.out.trans (b3.mono s2))
    have HB3 := Lib.hid b3
    have HT3 := Lib.hid (HT2.out.below b3)
    generalize w2.alloc (.cells #[.string ⟨own.toArray⟩, .slice da n dc, .slice na n nc] 40) = w3 at *
    have HSt3 := Lib.hid (fun (W : World) (hW : Below w3.heap.size w3 W) => HStp.out W (HB3.out.trans (hW.mono HB3.out.size)))
    have HDp3 := Lib.hid (HDp.out.below HB3.out)
    have HLen := Lib.hid (fun q => Calls.quiet_of (tblen_any (HT3.out.heap (w' := w3.drewN q) rfl)))
    rw [HN.out] at HLen
    generalize w2.heap.size = b9 at *
    have r0 : ((n : Int) != (n : Int)) = false := by simp
    clear hh3 b3 HStp HD2 HB3 HT2 HDp
    go_quiet (with_reducible exact HLen.out _)
    obtain ⟨w4, hw4⟩ : ∃ w4, w3.drewN nq = w4 := ⟨_, rfl⟩
    have HD4 : Hid (Below w.heap.size w w4) := Lib.hid (by rw [← hw4]; exact below_drewS HD3.out _)
    have hb34 : Below w3.heap.size w3 w4 := by rw [← hw4]; exact below_drewS (Below.refl _ _) _
    have v0 : w4.cell? ⟨b9, 0, none⟩ = some (.string ⟨own.toArray⟩) := by rw [← hw4]; exact x0
    have v1 : w4.cell? ⟨b9, 1, none⟩ = some (.slice da n dc) := by rw [← hw4]; exact x1
    have v2 : w4.cell? ⟨b9, 2, none⟩ = some (.slice na n nc) := by rw [← hw4]; exact x2
    have hT4 := HT3.out.below hb34
    have hDp4 := HDp3.out.below hb34
    have G1 := regrown_at (w := w4) (fun W hW => drew_below (tbdepth_any (hT4.below hW) no))
    have G2 := regrown_at (w := w4) (fun W hW => drew_below (tbstep_any (hT4.below hW) no c))
    have G3 := regrown_at (w := w4) (fun W hW => HSt3.out W (hb34.trans (hW.mono hb34.size)))
    have G4 := regrown_at (w := w4) (fun W hW => tbput_any (hT4.below hW) HSb.out)
    rw [HBs.out] at G4
    have G5 := regrown_at (w := w4) (fun W _ => HA.out W)
    have k0 := cell_regrown v0
    have k1 := cell_regrown v1
    have k2 := cell_regrown v2
    rw [hw4]
    have HDr := Lib.hid hDp4
    clear hw4 x0 x1 x2 y0 y1 y2 HD3 HLen HSt3 hb34 HT3 HDp3 hT4 hDp4
    have HE1 : Hid (dptT R no = dptT R no) := Lib.hid rfl
    by_cases h1 : 0 ≤ no
    · have u1 : decide (0 ≤ no) = true := decide_eq_true h1
      by_cases h2 : no < (n : Int)
      · have u3 : decide (no < (n : Int)) = true := decide_eq_true h2
        obtain ⟨j, rfl⟩ := Int.eq_ofNat_of_zero_le h1
        obtain ⟨r, hr, hrd⟩ := HLl.out j (by omega)
        have hdp := dpt_in hr
        rw [← hrd] at hdp
        obtain h5 | ⟨gd, od, hda, _, _, _, hcc⟩ := HDr.out
        · omega
        cases hda
        have cx := hcc j (by omega)
        rw [← hdp] at cx
        have gj : (j : Int) < (n : Int) := by omega
        generalize dptT R (j : Int) = dd at *
        generalize stpT own R (j : Int) c = ss at *
        have e1 : (dd == dd) = true := by simp
        have e2 : (ss == ss) = true := by simp
        have e3 : (s == s) = true := by simp
        clear hcc hrd hr hdp h2
        go_wp2_with fail
        refine wp_region_quiet_below hmx (by kernel_rfl) ?_
        repeat (go_big_quiet_step (first | with_reducible exact G1 _ _ | with_reducible exact G2 _ _ | with_reducible exact G3 _ _ | with_reducible exact G4 _ _ | with_reducible exact G5 _ _))
        refine wpQuiet_nil ?_
        intro W6 hw6
        obtain ⟨⟨dq, osq⟩, rfl⟩ := hw6
        have b6 := below_regrown w4 dq osq
        generalize Go.Sort.grow (redrawn w4 dq) osq = w6 at b6 ⊢
        have HD6 := Lib.hid (HD4.out.trans (b6.mono HD4.out.size))
        clear b6
        go_wp2
        go_ret
        exact ⟨rfl, HD6.out⟩
      · have u3 : decide (no < (n : Int)) = false := decide_eq_false h2
        have hdp : dptT R no = 0 := dpt_out (.inr (by rw [HN.out]; omega))
        have hst : stpT own R no c = 0 := stp_out (.inr (by rw [HN.out]; omega))
        rw [hdp] at G1
        rw [hst] at G2 G3
        have e3 : (s == s) = true := by simp
        clear hdp hst HE1
        go_wp2_with fail
        refine wp_region_quiet_below hmx (by kernel_rfl) ?_
        repeat (go_big_quiet_step (first | with_reducible exact G1 _ _ | with_reducible exact G2 _ _ | with_reducible exact G3 _ _ | with_reducible exact G4 _ _ | with_reducible exact G5 _ _))
        refine wpQuiet_nil ?_
        intro W6 hw6
        obtain ⟨⟨dq, osq⟩, rfl⟩ := hw6
        have b6 := below_regrown w4 dq osq
        generalize Go.Sort.grow (redrawn w4 dq) osq = w6 at b6 ⊢
        have HD6 := Lib.hid (HD4.out.trans (b6.mono HD4.out.size))
        clear b6
        go_wp2
        go_ret
        exact ⟨rfl, HD6.out⟩
    · have u1 : decide (0 ≤ no) = false := decide_eq_false h1
      have hdp : dptT R no = 0 := dpt_out (.inl (by omega))
      have hst : stpT own R no c = 0 := stp_out (.inl (by omega))
      rw [hdp] at G1
      rw [hst] at G2 G3
      have e3 : (s == s) = true := by simp
      clear hdp hst HE1
      go_wp2_with fail
      refine wp_region_quiet_below hmx (by kernel_rfl) ?_
      repeat (go_big_quiet_step (first | with_reducible exact G1 _ _ | with_reducible exact G2 _ _ | with_reducible exact G3 _ _ | with_reducible exact G4 _ _ | with_reducible exact G5 _ _))
      refine wpQuiet_nil ?_
      intro W6 hw6
      obtain ⟨⟨dq, osq⟩, rfl⟩ := hw6
      have b6 := below_regrown w4 dq osq
      generalize Go.Sort.grow (redrawn w4 dq) osq = w6 at b6 ⊢
      have HD6 := Lib.hid (HD4.out.trans (b6.mono HD4.out.size))
      clear b6
      go_wp2
      go_ret
      exact ⟨rfl, HD6.out⟩
end Go.Proofs.YtpblllpgmibkoaaGreat
