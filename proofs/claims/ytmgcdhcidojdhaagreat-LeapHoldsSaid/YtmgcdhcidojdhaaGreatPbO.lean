/-
  The evidence at an end: Of, Covers, Jump of nothing: walked.
-/
import Derived.Test.YtmgcdhcidojdhaaGreatPbI
set_option linter.unusedSimpArgs false
set_option linter.unusedVariables false
namespace Go.Proofs.YtmgcdhcidojdhaaGreat
open Go.RowKit

set_option maxRecDepth 100000 in
set_option maxHeartbeats 1000000 in
theorem pbcov_any (k n r : Int) (v : Value) (hv : ∃ a len cap, v = .slice a len cap) (w : World) :
    Calls Tryz.prog 64 #[.agg #[.int .i64 k, .int .i64 n, .int .i64 r, v]] w fun e w' => e = .returned (.int .i64 (covZ k n)) ∧ Below w.heap.size w w' := by
  obtain ⟨a, len, cap, rfl⟩ := hv
  have hX := heap_alloc_new w (.cells #[.int .i64 k, .int .i64 n, .int .i64 r, .slice a len cap] 45)
  obtain ⟨c0, c1, c2, c3⟩ := rec_reads hX
  have HB : Hid (Below w.heap.size w (w.alloc (.cells #[.int .i64 k, .int .i64 n, .int .i64 r, .slice a len cap] 45))) := Lib.hid ((Below.refl _ _).alloc (Nat.le_refl _) _)
  clear hX
  by_cases h1 : k = 1
  · subst h1
    have HC : Hid (covZ 1 n = max n 0) := Lib.hid (by simp [covZ])
    go_enter Tryz.func64, Tryz.ntmps64
    go_wp2
    go_ret
    exact ⟨by rw [HC.out]; rfl, HB.out⟩
  · by_cases h2 : k = 2
    · subst h2
      have HC : Hid (covZ 2 n = max n 0) := Lib.hid (by simp [covZ])
      go_enter Tryz.func64, Tryz.ntmps64
      go_wp2
      go_ret
      exact ⟨by rw [HC.out]; rfl, HB.out⟩
    · by_cases h3 : k = 3
      · subst h3
        have HC : Hid (covZ 3 n = 1) := Lib.hid (by simp [covZ])
        go_enter Tryz.func64, Tryz.ntmps64
        go_wp2
        go_ret
        exact ⟨by rw [HC.out]; rfl, HB.out⟩
      · by_cases h4 : k = 4
        · subst h4
          have HC : Hid (covZ 4 n = 1) := Lib.hid (by simp [covZ])
          go_enter Tryz.func64, Tryz.ntmps64
          go_wp2
          go_ret
          exact ⟨by rw [HC.out]; rfl, HB.out⟩
        · have HC : Hid (covZ k n = 0) := Lib.hid (by simp [covZ, h1, h2, h3, h4])
          have g1 : (k == 1) = false := by simp [h1]
          have g2 : (k == 2) = false := by simp [h2]
          have g3 : (k == 3) = false := by simp [h3]
          have g4 : (k == 4) = false := by simp [h4]
          go_enter Tryz.func64, Tryz.ntmps64
          go_wp2
          go_ret
          exact ⟨by rw [HC.out]; rfl, HB.out⟩

theorem rec_end {R : EvR} {w w3 : World} {k n r : Nat} {ids : List Int} {a : Option Addr} {cap : Nat} (hR : R = ⟨k, n, r, ids⟩) (hi : IsRow .i64 w3 a ids.length ids.length ids) (hb : Below w.heap.size w w3) :
    RetE R w (.returned (.agg #[.int .i64 (k : Int), .int .i64 (n : Int), .int .i64 (r : Int), .slice a ids.length cap])) w3 := by
  subst hR
  exact ⟨a, cap, rfl, hi, hb⟩

/-- A record as an answer, its numbers owned. -/
def RetF (R : EvR) (w : World) (e : Ending) (w' : World) : Prop :=
  ∃ a cap, e = .returned (.agg #[.int .i64 (R.k : Int), .int .i64 (R.n : Int), .int .i64 (R.r : Int), .slice a R.ids.length cap]) ∧ IsRow .i64 w' a R.ids.length R.ids.length R.ids ∧ (R.ids.length = 0 ∨ w'.ownsRow w.heap.size 3 1 (.slice a R.ids.length cap) R.ids.length (inCells R.ids)) ∧ Below w.heap.size w w'
theorem RetF.toE {R : EvR} {w w' : World} {e : Ending} (h : RetF R w e w') : RetE R w e w' := by
  obtain ⟨a, cap, h1, h2, _, h3⟩ := h
  exact ⟨a, cap, h1, h2, h3⟩
theorem rec_endF {R : EvR} {w w3 : World} {k n r : Nat} {ids : List Int} {a : Option Addr} {cap : Nat} (hR : R = ⟨k, n, r, ids⟩) (hi : IsRow .i64 w3 a ids.length ids.length ids) (ho : ids.length = 0 ∨ w3.ownsRow w.heap.size 3 1 (.slice a ids.length cap) ids.length (inCells ids)) (hb : Below w.heap.size w w3) :
    RetF R w (.returned (.agg #[.int .i64 (k : Int), .int .i64 (n : Int), .int .i64 (r : Int), .slice a ids.length cap])) w3 := by
  subst hR
  exact ⟨a, cap, rfl, hi, ho, hb⟩
theorem jmp_endF {R : EvR} {w w3 : World} {k n r : Nat} (hR : R = ⟨k, n, r, []⟩) (hb : Below w.heap.size w w3) : RetF R w (.returned (.agg #[.int .i64 (k : Int), .int .i64 (n : Int), .int .i64 (r : Int), .slice none 0 0])) w3 := by
  subst hR
  exact ⟨none, 0, rfl, .inl rfl, .inl rfl, hb⟩

/-- The zero record as an answer. -/
theorem zero_rec (w w' : World) (h : Below w.heap.size w w') : RetE ⟨0, 0, 0, []⟩ w (.returned (.agg #[.int .i64 0, .int .i64 0, .int .i64 0, .slice none 0 0])) w' := ⟨none, 0, rfl, .inl rfl, h⟩

set_option maxRecDepth 100000 in
set_option maxHeartbeats 1000000 in
theorem pbjump_blind {q : Option Addr} {t : List UInt8} {e : Int} (h : ∀ W, Calls Tryz.prog 80 #[.pointer q, .string ⟨t.toArray⟩] W fun e w' => e = .returned (.bool true) ∧ w' = W) (w : World) :
    Calls Tryz.prog 81 #[.pointer q, .string ⟨t.toArray⟩, .int .i64 e] w (RetE ⟨0, 0, 0, []⟩ w) := by
  have HB := Lib.hid h
  have hB1 := (Below.refl w.heap.size w).alloc (Nat.le_refl _) (.cells #[.int .i64 0, .int .i64 0, .int .i64 0, .slice none 0 0] 45)
  have HX2 := heap_alloc_new w (.cells #[.int .i64 0, .int .i64 0, .int .i64 0, .slice none 0 0] 45)
  clear h
  go_enter Tryz.func81, Tryz.ntmps81
  go_wp2_with fail
  refine (HB.out _).mono ?_
  rintro E w' ⟨rfl, rfl⟩
  obtain ⟨f0, f1, f2, f3⟩ := rec_free HX2
  obtain ⟨k0, k1, k2, k3⟩ := rec_reads HX2
  clear f0 f1 f2 f3
  obtain ⟨f0, f1, f2, f3⟩ := rec_free HX2
  go_wp2
  refine bodyPost_ret (v := .agg #[.int .i64 0, .int .i64 0, .int .i64 0, .slice none 0 0]) (by simp [results, Tryz.results81, go_sem, k0, k1, k2, k3]) rfl ?_
  exact zero_rec _ _ hB1

set_option maxRecDepth 100000 in
set_option maxHeartbeats 1000000 in
theorem pbof_blindZ {q : Option Addr} {t : List UInt8} {e : Int} {skip : Bool} (h : ∀ W, Calls Tryz.prog 80 #[.pointer q, .string ⟨t.toArray⟩] W fun e w' => e = .returned (.bool true) ∧ w' = W) (w : World) :
    Calls Tryz.prog 63 #[.pointer q, .string ⟨t.toArray⟩, .int .i64 e, .bool skip] w fun e w' => e = .returned (.agg #[.int .i64 0, .int .i64 0, .int .i64 0, .slice none 0 0]) ∧ Below w.heap.size w w' := by
  have HB := Lib.hid h
  have hB1 := (Below.refl w.heap.size w).alloc (Nat.le_refl _) (.cells #[.int .i64 0, .int .i64 0, .int .i64 0, .slice none 0 0] 45)
  have HX2 := heap_alloc_new w (.cells #[.int .i64 0, .int .i64 0, .int .i64 0, .slice none 0 0] 45)
  clear h
  go_enter Tryz.func63, Tryz.ntmps63
  go_wp2_with fail
  refine (HB.out _).mono ?_
  rintro E w' ⟨rfl, rfl⟩
  obtain ⟨f0, f1, f2, f3⟩ := rec_free HX2
  obtain ⟨k0, k1, k2, k3⟩ := rec_reads HX2
  go_wp2
  refine bodyPost_ret (v := .agg #[.int .i64 0, .int .i64 0, .int .i64 0, .slice none 0 0]) (by simp [results, Tryz.results63, go_sem, k0, k1, k2, k3]) rfl ?_
  exact ⟨rfl, hB1⟩

theorem pbof_blind {q : Option Addr} {t : List UInt8} {e : Int} {skip : Bool} (h : ∀ W, Calls Tryz.prog 80 #[.pointer q, .string ⟨t.toArray⟩] W fun e w' => e = .returned (.bool true) ∧ w' = W) (w : World) :
    Calls Tryz.prog 63 #[.pointer q, .string ⟨t.toArray⟩, .int .i64 e, .bool skip] w (RetE ⟨0, 0, 0, []⟩ w) :=
  (pbof_blindZ h w).mono fun _ _ h => by obtain ⟨rfl, h⟩ := h; exact zero_rec _ _ h

set_option maxRecDepth 100000 in
set_option maxHeartbeats 4000000 in
theorem pbof_own {w : World} {b : Nat} {us : List (List UInt8)} (h : IsProbe w b us) {s t : List UInt8} {e : Nat} (ht : IsTail us s e t) (hs : t.length ≤ 1000000) (he : e ≤ 1000000) (hu : ∀ t ∈ us, 0 < t.length ∧ t.length ≤ 1000000) (hn : us.length ≤ 1000000) (skip : Bool) :
    Calls Tryz.prog 63 #[.pointer (some ⟨b, 0, none⟩), .string ⟨t.toArray⟩, .int .i64 (e : Int), .bool skip] w (RetF (ofR us s e skip) w) := by
  have ho := ht.some
  have HB := Lib.hid (fun W => pbblind_any b t W false (full_of_pos t ho))
  have hB1 := (Below.refl w.heap.size w).alloc (Nat.le_refl _) (.cells #[.int .i64 0, .int .i64 0, .int .i64 0, .slice none 0 0] 45)
  have hX := heap_alloc_new w (.cells #[.int .i64 0, .int .i64 0, .int .i64 0, .slice none 0 0] 45)
  have HJ := Lib.hid (fun (W : World) (hW : Below w.heap.size w W) => pbjump_any (h.below hW) ht hs)
  have HH := Lib.hid (fun (W : World) (hW : Below w.heap.size w W) => pbhits_any (h.below hW) ht hs (fun t ht => (hu t ht).1) hn)
  have HM := Lib.hid (fun (W : World) (hW : Below w.heap.size w W) => pbmiss_any (h.below hW) ht hs he hu hn)
  have hil : (idsK us s e us.length).length ≤ us.length := ids_length us s e _
  have hji := jmp_ids us s e
  have HOy : Hid (skip = true → 0 < (jmpR us s e).k → ofR us s e skip = jmpR us s e) := Lib.hid (fun h1 h2 => if_pos ⟨h1, h2⟩)
  have HO : Hid (skip = false ∨ ¬ 0 < (jmpR us s e).k → ofR us s e skip = if (idsK us s e us.length).length = 0 ∧ 0 < misN us s e then ⟨3, misN us s e, 1, []⟩ else ⟨4, 0, 0, idsK us s e us.length⟩) :=
    Lib.hid (fun h => if_neg (fun h' => h.elim (fun h1 => by rw [h1] at h'; exact absurd h'.1 (by decide)) (fun h1 => h1 h'.2)))
  generalize ofR us s e skip = O at *
  generalize jmpR us s e = J at *
  generalize idsK us s e us.length = ids at *
  generalize misN us s e = M at *
  obtain ⟨k, n, r, jids⟩ := J
  dsimp only at hji HO HOy
  subst hji
  clear h ht hu
  go_enter Tryz.func63, Tryz.ntmps63
  go_wp2_with fail
  refine (HB.out _).mono ?_
  rintro E w' ⟨rfl, hw'⟩
  obtain rfl := hw'.symm
  cases skip with
  | true =>
    go_wp2_with fail
    refine (HJ.out _ hB1).mono ?_
    rintro E w2 ⟨a, cap, rfl, hrow, hb⟩
    have hX2 := (hb.block _ (heap_lt hX)).trans hX
    have d2 := hB1.trans (hb.mono hB1.size)
    have hXn := heap_alloc_new w2 (.cells #[.int .i64 (k : Int), .int .i64 (n : Int), .int .i64 (r : Int), .slice a 0 cap] 45)
    have kA : Below w2.heap.size w2 (w2.alloc (.cells #[.int .i64 (k : Int), .int .i64 (n : Int), .int .i64 (r : Int), .slice a 0 cap] 45)) := (Below.refl _ _).alloc (Nat.le_refl _) _
    have hXW := (kA.block _ (heap_lt hX2)).trans hX2
    have dW := d2.trans (kA.mono d2.size)
    obtain ⟨l0, l1, l2, l3⟩ := rec_reads hXn
    clear hXn kA hX2 d2 hb hrow hX hB1
    dsimp only [List.length_nil]
    by_cases hk : 0 < k
    · have g1 : (0 : Int) < (k : Int) := by omega
      have HO2 : Hid (O = ⟨k, n, r, []⟩) := Lib.hid (HOy.out (by first | rfl | trivial) hk)
      clear HO HOy
      obtain ⟨f0, f1, f2, f3⟩ := rec_free hXW
      obtain ⟨k0, k1, k2, k3⟩ := rec_reads hXW
      have hfin := put_rec hXW (.int .i64 (k : Int)) (.int .i64 (n : Int)) (.int .i64 (r : Int)) (.slice a 0 cap)
      have hbe := below_rec dW (Nat.le_refl _) (.int .i64 (k : Int)) (.int .i64 (n : Int)) (.int .i64 (r : Int)) (.slice a 0 cap)
      have HFIN := Lib.hid hfin
      have HBE := Lib.hid hbe
      clear hfin hbe
      go_wp2
      obtain ⟨j0, j1, j2, j3⟩ := rec_reads HFIN.out
      refine bodyPost_ret (v := .agg #[.int .i64 (k : Int), .int .i64 (n : Int), .int .i64 (r : Int), .slice a 0 cap]) (by simp [results, Tryz.results63, go_sem, j0, j1, j2, j3]) rfl ?_
      exact rec_endF HO2.out (.inl rfl) (.inl rfl) HBE.out
    · have g1 : ¬ (0 : Int) < (k : Int) := by omega
      have HON := Lib.hid (HO.out (.inr hk))
      clear HO HOy
      clear l1 l2 l3
      go_wp2_with fail
      refine (HH.out _ dW).mono ?_
      rintro E w5 ⟨v5, rfl, hown, hb5⟩
      obtain ⟨a5, cap5, rfl, hrow⟩ := row_of_ints hown (by unfold maxLen; omega)
      have hX5 := (hb5.block _ (heap_lt hXW)).trans hXW
      have d5 := dW.trans (hb5.mono dW.size)
      have HR5 := Lib.hid hrow
      have HW5 := Lib.hid hown
      have hrW := Lib.hid (heap_lt hXW)
      clear hown hrow hXW dW hb5
      by_cases h0 : ids.length = 0
      · have g2 : ((ids.length : Int) == 0) = true := by rw [h0]; rfl
        have H0 := Lib.hid h0
        clear h0
        go_wp2_with fail
        refine (HM.out _ d5).mono ?_
        rintro E w6 ⟨rfl, hb6⟩
        have hX6 := (hb6.block _ (heap_lt hX5)).trans hX5
        have d6 := d5.trans (hb6.mono d5.size)
        have HR6 := Lib.hid (HR5.out.below hb6)
        clear hb6 hX5 d5 HR5
        by_cases hM : 0 < M
        · have hMd : decide (0 < M) = true := decide_eq_true hM
          have HO2 : Hid (O = ⟨3, M, 1, []⟩) := Lib.hid (by rw [HON.out, if_pos ⟨H0.out, hM⟩])
          clear HON HR6
          obtain ⟨f0, f1, f2, f3⟩ := rec_free hX6
          obtain ⟨k0, k1, k2, k3⟩ := rec_reads hX6
          have hfin := put_rec hX6 (.int .i64 3) (.int .i64 (M : Int)) (.int .i64 1) (.slice none 0 0)
          have hbe := below_rec d6 (Nat.le_refl _) (.int .i64 3) (.int .i64 (M : Int)) (.int .i64 1) (.slice none 0 0)
          have HFIN := Lib.hid hfin
          have HBE := Lib.hid hbe
          clear hfin hbe
          go_wp2
          obtain ⟨j0, j1, j2, j3⟩ := rec_reads HFIN.out
          refine bodyPost_ret (v := .agg #[.int .i64 3, .int .i64 (M : Int), .int .i64 1, .slice none 0 0]) (by simp [results, Tryz.results63, go_sem, j0, j1, j2, j3]) rfl ?_
          exact jmp_endF HO2.out HBE.out
        · have hMd : decide (0 < M) = false := decide_eq_false hM
          have HO2 : Hid (O = ⟨4, 0, 0, ids⟩) := Lib.hid (by rw [HON.out, if_neg (fun h => hM h.2)])
          clear HON
          obtain ⟨f0, f1, f2, f3⟩ := rec_free hX6
          obtain ⟨k0, k1, k2, k3⟩ := rec_reads hX6
          have hfin := put_rec hX6 (.int .i64 4) (.int .i64 0) (.int .i64 0) (.slice a5 ids.length cap5)
          have hbe := below_rec d6 (Nat.le_refl _) (.int .i64 4) (.int .i64 0) (.int .i64 0) (.slice a5 ids.length cap5)
          have HFIN := Lib.hid hfin
          have HBE := Lib.hid hbe
          clear hfin hbe
          go_wp2
          obtain ⟨j0, j1, j2, j3⟩ := rec_reads HFIN.out
          refine bodyPost_ret (v := .agg #[.int .i64 4, .int .i64 0, .int .i64 0, .slice a5 ids.length cap5]) (by simp [results, Tryz.results63, go_sem, j0, j1, j2, j3]) rfl ?_
          exact rec_endF HO2.out (.inl H0.out) (.inl H0.out) HBE.out
      · have g2 : ((ids.length : Int) == 0) = false := by rw [beq_eq_false_iff_ne]; omega
        have H0 := Lib.hid h0
        clear h0
        have HO2 : Hid (O = ⟨4, 0, 0, ids⟩) := Lib.hid (by rw [HON.out, if_neg (fun h => H0.out h.1)])
        clear HON
        obtain ⟨f0, f1, f2, f3⟩ := rec_free hX5
        obtain ⟨k0, k1, k2, k3⟩ := rec_reads hX5
        have hfin := put_rec hX5 (.int .i64 4) (.int .i64 0) (.int .i64 0) (.slice a5 ids.length cap5)
        have hbe := below_rec d5 (Nat.le_refl _) (.int .i64 4) (.int .i64 0) (.int .i64 0) (.slice a5 ids.length cap5)
        have HFIN := Lib.hid hfin
        have HBE := Lib.hid hbe
        clear hfin hbe
        go_wp2
        obtain ⟨j0, j1, j2, j3⟩ := rec_reads HFIN.out
        refine bodyPost_ret (v := .agg #[.int .i64 4, .int .i64 0, .int .i64 0, .slice a5 ids.length cap5]) (by simp [results, Tryz.results63, go_sem, j0, j1, j2, j3]) rfl ?_
        have HI : Hid (Into w.heap.size w5 ((((w5.setCell ⟨w.heap.size, 0, none⟩ (.int .i64 4)).setCell ⟨w.heap.size, 1, none⟩ (.int .i64 0)).setCell ⟨w.heap.size, 2, none⟩ (.int .i64 0)).setCell ⟨w.heap.size, 3, none⟩ (.slice a5 ids.length cap5))) := Lib.hid (((((Into.refl _ _).set _ _).set _ _).set _ _).set _ _)
        obtain ⟨a6, c6, hv6, hr6⟩ := row_of_ints (HI.out.owns hrW.out HW5.out) (by unfold maxLen; omega)
        obtain rfl : a5 = a6 := by cases hv6; rfl
        exact rec_endF HO2.out hr6 (.inr (owns_less (by have := hrW.out; omega) (HI.out.owns hrW.out HW5.out))) HBE.out
  | false =>
    have HON := Lib.hid (HO.out (.inl (by first | rfl | trivial)))
    clear HO HOy
    have hXW := hX
    have dW := hB1
    clear hX hB1
    go_wp2_with fail
    refine (HH.out _ dW).mono ?_
    rintro E w5 ⟨v5, rfl, hown, hb5⟩
    obtain ⟨a5, cap5, rfl, hrow⟩ := row_of_ints hown (by unfold maxLen; omega)
    have hX5 := (hb5.block _ (heap_lt hXW)).trans hXW
    have d5 := dW.trans (hb5.mono dW.size)
    have HR5 := Lib.hid hrow
    have HW5 := Lib.hid hown
    have hrW := Lib.hid (heap_lt hXW)
    clear hown hrow hXW dW hb5
    by_cases h0 : ids.length = 0
    · have g2 : ((ids.length : Int) == 0) = true := by rw [h0]; rfl
      have H0 := Lib.hid h0
      clear h0
      go_wp2_with fail
      refine (HM.out _ d5).mono ?_
      rintro E w6 ⟨rfl, hb6⟩
      have hX6 := (hb6.block _ (heap_lt hX5)).trans hX5
      have d6 := d5.trans (hb6.mono d5.size)
      have HR6 := Lib.hid (HR5.out.below hb6)
      clear hb6 hX5 d5 HR5
      by_cases hM : 0 < M
      · have hMd : decide (0 < M) = true := decide_eq_true hM
        have HO2 : Hid (O = ⟨3, M, 1, []⟩) := Lib.hid (by rw [HON.out, if_pos ⟨H0.out, hM⟩])
        clear HON HR6
        obtain ⟨f0, f1, f2, f3⟩ := rec_free hX6
        obtain ⟨k0, k1, k2, k3⟩ := rec_reads hX6
        have hfin := put_rec hX6 (.int .i64 3) (.int .i64 (M : Int)) (.int .i64 1) (.slice none 0 0)
        have hbe := below_rec d6 (Nat.le_refl _) (.int .i64 3) (.int .i64 (M : Int)) (.int .i64 1) (.slice none 0 0)
        have HFIN := Lib.hid hfin
        have HBE := Lib.hid hbe
        clear hfin hbe
        go_wp2
        obtain ⟨j0, j1, j2, j3⟩ := rec_reads HFIN.out
        refine bodyPost_ret (v := .agg #[.int .i64 3, .int .i64 (M : Int), .int .i64 1, .slice none 0 0]) (by simp [results, Tryz.results63, go_sem, j0, j1, j2, j3]) rfl ?_
        exact jmp_endF HO2.out HBE.out
      · have hMd : decide (0 < M) = false := decide_eq_false hM
        have HO2 : Hid (O = ⟨4, 0, 0, ids⟩) := Lib.hid (by rw [HON.out, if_neg (fun h => hM h.2)])
        clear HON
        obtain ⟨f0, f1, f2, f3⟩ := rec_free hX6
        obtain ⟨k0, k1, k2, k3⟩ := rec_reads hX6
        have hfin := put_rec hX6 (.int .i64 4) (.int .i64 0) (.int .i64 0) (.slice a5 ids.length cap5)
        have hbe := below_rec d6 (Nat.le_refl _) (.int .i64 4) (.int .i64 0) (.int .i64 0) (.slice a5 ids.length cap5)
        have HFIN := Lib.hid hfin
        have HBE := Lib.hid hbe
        clear hfin hbe
        go_wp2
        obtain ⟨j0, j1, j2, j3⟩ := rec_reads HFIN.out
        refine bodyPost_ret (v := .agg #[.int .i64 4, .int .i64 0, .int .i64 0, .slice a5 ids.length cap5]) (by simp [results, Tryz.results63, go_sem, j0, j1, j2, j3]) rfl ?_
        exact rec_endF HO2.out (.inl H0.out) (.inl H0.out) HBE.out
    · have g2 : ((ids.length : Int) == 0) = false := by rw [beq_eq_false_iff_ne]; omega
      have H0 := Lib.hid h0
      clear h0
      have HO2 : Hid (O = ⟨4, 0, 0, ids⟩) := Lib.hid (by rw [HON.out, if_neg (fun h => H0.out h.1)])
      clear HON
      obtain ⟨f0, f1, f2, f3⟩ := rec_free hX5
      obtain ⟨k0, k1, k2, k3⟩ := rec_reads hX5
      have hfin := put_rec hX5 (.int .i64 4) (.int .i64 0) (.int .i64 0) (.slice a5 ids.length cap5)
      have hbe := below_rec d5 (Nat.le_refl _) (.int .i64 4) (.int .i64 0) (.int .i64 0) (.slice a5 ids.length cap5)
      have HFIN := Lib.hid hfin
      have HBE := Lib.hid hbe
      clear hfin hbe
      go_wp2
      obtain ⟨j0, j1, j2, j3⟩ := rec_reads HFIN.out
      refine bodyPost_ret (v := .agg #[.int .i64 4, .int .i64 0, .int .i64 0, .slice a5 ids.length cap5]) (by simp [results, Tryz.results63, go_sem, j0, j1, j2, j3]) rfl ?_
      have HI : Hid (Into w.heap.size w5 ((((w5.setCell ⟨w.heap.size, 0, none⟩ (.int .i64 4)).setCell ⟨w.heap.size, 1, none⟩ (.int .i64 0)).setCell ⟨w.heap.size, 2, none⟩ (.int .i64 0)).setCell ⟨w.heap.size, 3, none⟩ (.slice a5 ids.length cap5))) := Lib.hid (((((Into.refl _ _).set _ _).set _ _).set _ _).set _ _)
      obtain ⟨a6, c6, hv6, hr6⟩ := row_of_ints (HI.out.owns hrW.out HW5.out) (by unfold maxLen; omega)
      obtain rfl : a5 = a6 := by cases hv6; rfl
      exact rec_endF HO2.out hr6 (.inr (owns_less (by have := hrW.out; omega) (HI.out.owns hrW.out HW5.out))) HBE.out


theorem pbof_any {w : World} {b : Nat} {us : List (List UInt8)} (h : IsProbe w b us) {s t : List UInt8} {e : Nat} (ht : IsTail us s e t) (hs : t.length ≤ 1000000) (he : e ≤ 1000000) (hu : ∀ t ∈ us, 0 < t.length ∧ t.length ≤ 1000000) (hn : us.length ≤ 1000000) (skip : Bool) :
    Calls Tryz.prog 63 #[.pointer (some ⟨b, 0, none⟩), .string ⟨t.toArray⟩, .int .i64 (e : Int), .bool skip] w (RetE (ofR us s e skip) w) :=
  (pbof_own h ht hs he hu hn skip).mono fun _ _ h => h.toE
end Go.Proofs.YtmgcdhcidojdhaaGreat
