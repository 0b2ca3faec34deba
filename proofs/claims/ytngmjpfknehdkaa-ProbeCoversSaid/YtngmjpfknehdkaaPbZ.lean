/-
  The law ProbeCovers: walked.
-/
import Derived.Test.YtngmjpfknehdkaaBn11
set_option linter.unusedSimpArgs false
set_option linter.unusedVariables false
namespace Go.Proofs.Ytngmjpfknehdkaa
open Go.RowKit

set_option maxRecDepth 100000 in
set_option maxHeartbeats 1000000 in
theorem pbcovers_long (k n r : Int) (aa : Option Addr) (L cc : Nat) (s : List UInt8) (e : Int) (skip : Bool) (w : World) (hs : 50 < s.length) :
    Calls Try.prog 5 #[.agg #[.int .i64 k, .int .i64 n, .int .i64 r, .slice aa L cc], .string ⟨s.toArray⟩, .int .i64 e, .bool skip] w fun e w' => e = .returned (.bool true) ∧ Below w.heap.size w w' := by
  have hX := heap_alloc_new w (.cells #[.int .i64 k, .int .i64 n, .int .i64 r, .slice aa L cc] 43)
  have B1 := Lib.hid ((Below.refl w.heap.size w).alloc (Nat.le_refl _) (.cells #[.int .i64 k, .int .i64 n, .int .i64 r, .slice aa L cc] 43))
  obtain ⟨w1, hw1⟩ : ∃ w1, w.alloc (.cells #[.int .i64 k, .int .i64 n, .int .i64 r, .slice aa L cc] 43) = w1 := ⟨_, rfl⟩
  rw [hw1] at hX B1
  obtain ⟨k0, k1, k2, k3⟩ := rec_reads hX
  have HX := Lib.hid hX
  clear hX
  have S1 := Lib.hid (bsize s)
  have g1 : (50 : Int) < (s.length : Int) := by omega
  have g1d : decide ((50 : Int) < (s.length : Int)) = true := decide_eq_true g1
  go_enter Try.func5, Try.ntmps5
  go_wp2_with fail
  refine (pbawake_any _).mono ?_
  rintro E w2 ⟨rfl, hb⟩
  have d2 := B1.out.trans (hb.mono B1.out.size)
  go_wp2
  go_ret
  exact ⟨rfl, d2⟩

set_option maxRecDepth 100000 in
set_option maxHeartbeats 1000000 in
theorem pbcovers_many (k n r : Int) (aa : Option Addr) (L cc : Nat) (s : List UInt8) (e : Int) (skip : Bool) (w : World) (hs : s.length ≤ 50) (hL : 50 < L) :
    Calls Try.prog 5 #[.agg #[.int .i64 k, .int .i64 n, .int .i64 r, .slice aa L cc], .string ⟨s.toArray⟩, .int .i64 e, .bool skip] w fun e w' => e = .returned (.bool true) ∧ Below w.heap.size w w' := by
  have hX := heap_alloc_new w (.cells #[.int .i64 k, .int .i64 n, .int .i64 r, .slice aa L cc] 43)
  have B1 := Lib.hid ((Below.refl w.heap.size w).alloc (Nat.le_refl _) (.cells #[.int .i64 k, .int .i64 n, .int .i64 r, .slice aa L cc] 43))
  obtain ⟨w1, hw1⟩ : ∃ w1, w.alloc (.cells #[.int .i64 k, .int .i64 n, .int .i64 r, .slice aa L cc] 43) = w1 := ⟨_, rfl⟩
  rw [hw1] at hX B1
  obtain ⟨k0, k1, k2, k3⟩ := rec_reads hX
  have HX := Lib.hid hX
  clear hX
  have S1 := Lib.hid (bsize s)
  have g1 : ¬ (50 : Int) < (s.length : Int) := by omega
  have g1d : decide ((50 : Int) < (s.length : Int)) = false := decide_eq_false g1
  have g2 : (50 : Int) < (L : Int) := by omega
  have g2d : decide ((50 : Int) < (L : Int)) = true := decide_eq_true g2
  go_enter Try.func5, Try.ntmps5
  go_wp2_with fail
  refine (pbawake_any _).mono ?_
  rintro E w2 ⟨rfl, hb⟩
  have d2 := B1.out.trans (hb.mono B1.out.size)
  go_wp2
  go_ret
  exact ⟨rfl, d2⟩

set_option maxRecDepth 100000 in
set_option maxHeartbeats 4000000 in
theorem pbcovers_good (k n r : Int) (aa : Option Addr) (L cc : Nat) (s : List UInt8) (e : Int) (skip : Bool) (w : World) (hs : s.length ≤ 50) (hL : L ≤ 50) :
    Calls Try.prog 5 #[.agg #[.int .i64 k, .int .i64 n, .int .i64 r, .slice aa L cc], .string ⟨s.toArray⟩, .int .i64 e, .bool skip] w fun e w' => e = .returned (.bool true) ∧ Below w.heap.size w w' := by
  have hX := heap_alloc_new w (.cells #[.int .i64 k, .int .i64 n, .int .i64 r, .slice aa L cc] 43)
  have B1 := Lib.hid ((Below.refl w.heap.size w).alloc (Nat.le_refl _) (.cells #[.int .i64 k, .int .i64 n, .int .i64 r, .slice aa L cc] 43))
  obtain ⟨w1, hw1⟩ : ∃ w1, w.alloc (.cells #[.int .i64 k, .int .i64 n, .int .i64 r, .slice aa L cc] 43) = w1 := ⟨_, rfl⟩
  rw [hw1] at hX B1
  obtain ⟨k0, k1, k2, k3⟩ := rec_reads hX
  have HX := Lib.hid hX
  clear hX
  have S1 := Lib.hid (bsize s)
  have g1 : ¬ (50 : Int) < (s.length : Int) := by omega
  have g1d : decide ((50 : Int) < (s.length : Int)) = false := decide_eq_false g1
  have g2 : ¬ (50 : Int) < (L : Int) := by omega
  have g2d : decide ((50 : Int) < (L : Int)) = false := decide_eq_false g2
  have HMi := Lib.hid (fun W => pbmiss_blind (e := e) (fun W => pbblind_nil s W) W)
  have HHi := Lib.hid (fun W => pbhits_blind (fun W => pbblind_nil s W) W)
  have HJu := Lib.hid (fun W => pbjump_blind (e := e) (fun W => pbblind_nil s W) W)
  have HOf := Lib.hid (fun W => pbof_blind (e := e) (skip := skip) (fun W => pbblind_nil s W) W)
  have HSm := Lib.hid (fun (a : Option Addr) (c : Nat) (W : World) => rsame_any ⟨0, 0, 0, []⟩ a none c 0 W (by decide) (.inl rfl) (.inl rfl))
  have HS0 : Hid (∀ W, Calls Try.prog 17 #[.agg #[.int .i64 0, .int .i64 0, .int .i64 0, .slice none 0 0], .agg #[.int .i64 0, .int .i64 0, .int .i64 0, .slice none 0 0]] W fun e w' => e = .returned (.bool true) ∧ Below W.heap.size W w') := Lib.hid (fun W => HSm.out none 0 W)
  have HPN := Lib.hid (fun (W : World) => pbnew_any (w := W) (p := none) (us := []) (.inl ⟨rfl, rfl⟩))
  have HMe := Lib.hid (fun (b : Nat) W => pbmiss_blind (e := e) (fun W => pbblind_any b [] W true rfl) W)
  have HHe := Lib.hid (fun (b : Nat) W => pbhits_blind (fun W => pbblind_any b [] W true rfl) W)
  have HOe := Lib.hid (fun (b : Nat) W => pbof_blindZ (e := e) (skip := skip) (fun W => pbblind_any b [] W true rfl) W)
  have HCv := Lib.hid (fun W => pbcov_any k n r (.slice aa L cc) ⟨_, _, _, rfl⟩ W)
  have HRCv := Lib.hid (fun W => rcov_any k n r (.slice aa L cc) ⟨_, _, _, rfl⟩ W)
  have hmx : Try.prog.follows .mixedOrders = true := by kernel_rfl
  generalize covZ k n = cov at HCv HRCv
  dsimp only [List.length_nil] at HSm
  go_enter Try.func5, Try.ntmps5
  go_wp2_with fail
  refine (HMi.out _).mono ?_
  rintro E w2 ⟨rfl, hb2⟩
  have B2 := Lib.hid (B1.out.trans (hb2.mono B1.out.size))
  have X2 := Lib.hid ((hb2.block _ (heap_lt HX.out)).trans HX.out)
  clear hb2 HMi k0 k1 k2 k3 HX B1
  go_wp2_with fail
  refine (HHi.out _).mono ?_
  rintro E w3 ⟨rfl, hb3⟩
  have B3 := Lib.hid (B2.out.trans (hb3.mono B2.out.size))
  have X3 := Lib.hid ((hb3.block _ (heap_lt X2.out)).trans X2.out)
  clear hb3 HHi B2 X2
  go_wp2_with fail
  refine (HJu.out _).mono ?_
  rintro E w4 ⟨a4, c4, rfl, hr4, hb4⟩
  have B4 := Lib.hid (B3.out.trans (hb4.mono B3.out.size))
  have X4 := Lib.hid ((hb4.block _ (heap_lt X3.out)).trans X3.out)
  clear hb4 HJu B3 X3 hr4
  dsimp only [List.length_nil]
  go_wp2_with fail
  refine (HSm.out a4 c4 _).mono ?_
  rintro E w5 ⟨rfl, hb5⟩
  have B5 := Lib.hid (B4.out.trans (hb5.mono B4.out.size))
  have X5 := Lib.hid ((hb5.block _ (heap_lt X4.out)).trans X4.out)
  clear hb5 B4 X4
  go_wp2_with fail
  refine (HOf.out _).mono ?_
  rintro E w6 ⟨a6, c6, rfl, hr6, hb6⟩
  have B6 := Lib.hid (B5.out.trans (hb6.mono B5.out.size))
  have X6 := Lib.hid ((hb6.block _ (heap_lt X5.out)).trans X5.out)
  clear hb6 HOf B5 X5 hr6
  dsimp only [List.length_nil]
  go_wp2_with fail
  refine (HSm.out a6 c6 _).mono ?_
  rintro E w7 ⟨rfl, hb7⟩
  have B7 := Lib.hid (B6.out.trans (hb7.mono B6.out.size))
  have X7 := Lib.hid ((hb7.block _ (heap_lt X6.out)).trans X6.out)
  clear hb7 B6 X6
  go_wp2_with fail
  refine (HPN.out _).mono ?_
  rintro E w8 ⟨b, rfl, _, _, hb8⟩
  have B8 := Lib.hid (B7.out.trans (hb8.mono B7.out.size))
  have X8 := Lib.hid ((hb8.block _ (heap_lt X7.out)).trans X7.out)
  clear hb8 HPN B7 X7
  go_wp2_with fail
  refine (HMe.out b _).mono ?_
  rintro E w9 ⟨rfl, hb9⟩
  have B9 := Lib.hid (B8.out.trans (hb9.mono B8.out.size))
  have X9 := Lib.hid ((hb9.block _ (heap_lt X8.out)).trans X8.out)
  clear hb9 HMe B8 X8
  obtain ⟨k0, k1, k2, k3⟩ := rec_reads X9.out
  have G1 := regrown_at (w := w9) (fun W _ => HHe.out b W)
  have G2 := regrown_at (w := w9) (fun W _ => HOe.out b W)
  have G3 := regrown_at (w := w9) (fun W _ => HS0.out W)
  have G4 := regrown_at (w := w9) (fun W _ => HCv.out W)
  have G5 := regrown_at (w := w9) (fun W _ => HRCv.out W)
  have G6 := regrown_at (w := w9) (fun W _ => pbawake_any W)
  have r0 := cell_regrown k0
  have r1 := cell_regrown k1
  have r2 := cell_regrown k2
  have r3 := cell_regrown k3
  have hcc : (cov == cov) = true := by simp
  clear k0 k1 k2 k3 HHe HOe HSm HS0 HCv HRCv X9
  go_wp2_with fail
  refine wp_region_quiet_below hmx (by kernel_rfl) ?_
  repeat (go_big_quiet_step (first | with_reducible exact G1 _ _ | with_reducible exact G2 _ _ | with_reducible exact G3 _ _ | with_reducible exact G4 _ _ | with_reducible exact G5 _ _ | with_reducible exact G6 _ _))
  refine wpQuiet_nil ?_
  intro W6 hw6
  obtain ⟨⟨dq, osq⟩, rfl⟩ := hw6
  have b6 := below_regrown w9 dq osq
  generalize Go.Sort.grow (redrawn w9 dq) osq = w10 at b6 ⊢
  have B10 := Lib.hid (B9.out.trans (b6.mono B9.out.size))
  clear b6
  go_wp2
  go_ret
  exact ⟨rfl, B10.out⟩
end Go.Proofs.Ytngmjpfknehdkaa
