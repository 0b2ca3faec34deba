/-
  The document's own answers for layer 24: Of: walked.
-/
import Derived.Test.YtmgcdhcidojdhaaGreatPbS
import Derived.Test.YtmgcdhcidojdhaaGreatPbO
set_option linter.unusedSimpArgs false
set_option linter.unusedVariables false
namespace Go.Proofs.YtmgcdhcidojdhaaGreat
open Go.RowKit

set_option maxRecDepth 100000 in
set_option maxHeartbeats 4000000 in
theorem rof_own (a : Option Addr) (len cap : Nat) (us : List (List UInt8)) (s : List UInt8) (e : Nat) (w : World) (hlen : len ≤ 1000000) (hr : IsStrs w a len us) (hu : ∀ t ∈ us, 0 < t.length ∧ t.length ≤ 65535) (hs : s.length ≤ 1000000) (he : 0 < e) (hes : e ≤ s.length) (skip : Bool) :
    Calls Tryz.prog 33 #[.slice a len cap, .string ⟨s.toArray⟩, .int .i64 (e : Int), .bool skip] w (RetF (ofR us s e skip) w) := by
  have hwl := hr.1
  have hB1 := (Below.refl w.heap.size w).alloc (Nat.le_refl _) (.cells #[.int .i64 0, .int .i64 0, .int .i64 0, .slice none 0 0] 45)
  have hX := heap_alloc_new w (.cells #[.int .i64 0, .int .i64 0, .int .i64 0, .slice none 0 0] 45)
  have HJ := Lib.hid (fun (W : World) (hW : Below w.heap.size w W) => rjump_any a len cap us s e W hlen (hr.below hW) (fun t h => (hu t h).2) hs he hes)
  have HH := Lib.hid (fun (W : World) (hW : Below w.heap.size w W) => rat_any a len cap us s (e : Int) W hlen (hr.below hW) (fun t h => by have := (hu t h).2; omega) hs (by omega))
  rw [atZ_in hes] at HH
  have HM := Lib.hid (fun (W : World) (hW : Below w.heap.size w W) => rmissN_any a len cap us s e W hlen (hr.below hW) hu hs he hes)
  have hil : (idsK us s e us.length).length ≤ us.length := ids_length us s e _
  have hji := jmp_ids us s e
  have HOy : Hid (skip = true → 0 < (jmpR us s e).k → ofR us s e skip = jmpR us s e) := Lib.hid (fun h1 h2 => if_pos ⟨h1, h2⟩)
  have HO : Hid (skip = false ∨ ¬ 0 < (jmpR us s e).k → ofR us s e skip = if (idsK us s e us.length).length = 0 ∧ 0 < misN us s e then ⟨3, misN us s e, 1, []⟩ else ⟨4, 0, 0, idsK us s e us.length⟩) :=
    Lib.hid (fun h => if_neg (fun h' => h.elim (fun h1 => by rw [h1] at h'; exact absurd h'.1 (by decide)) (fun h1 => h1 h'.2)))
  generalize ofR us s e skip = O at *
  generalize jmpR us s e = J at *
  generalize idsK us s e us.length = ids at *
  generalize misN us s e = M at *
  obtain ⟨k, n, r, jids⟩ := J
  dsimp only at hji HO HOy
  subst hji
  clear hr hu
  go_enter Tryz.func33, Tryz.ntmps33
  go_wp2_with fail
  refine (HJ.out _ hB1).mono ?_
  rintro E w2 ⟨a, cap, rfl, hrow, hb⟩
  have hX2 := (hb.block _ (heap_lt hX)).trans hX
  have d2 := hB1.trans (hb.mono hB1.size)
  have hXn := heap_alloc_new w2 (.cells #[.int .i64 (k : Int), .int .i64 (n : Int), .int .i64 (r : Int), .slice a 0 cap] 45)
  have kA : Below w2.heap.size w2 (w2.alloc (.cells #[.int .i64 (k : Int), .int .i64 (n : Int), .int .i64 (r : Int), .slice a 0 cap] 45)) := (Below.refl _ _).alloc (Nat.le_refl _) _
  have hXW := (kA.block _ (heap_lt hX2)).trans hX2
  have dW := d2.trans (kA.mono d2.size)
  obtain ⟨l0, l1, l2, l3⟩ := rec_reads hXn
  clear hXn kA hX2 d2 hb hrow hX hB1
  dsimp only [List.length_nil]
  cases skip with
  | true =>
    by_cases hk : 0 < k
    · have g1 : ((k : Int) != 0) = true := by simp; omega
      have HO2 : Hid (O = ⟨k, n, r, []⟩) := Lib.hid (HOy.out (by first | rfl | trivial) hk)
      clear HO HOy
      obtain ⟨f0, f1, f2, f3⟩ := rec_free hXW
      obtain ⟨k0, k1, k2, k3⟩ := rec_reads hXW
      have hfin := put_rec hXW (.int .i64 (k : Int)) (.int .i64 (n : Int)) (.int .i64 (r : Int)) (.slice a 0 cap)
      have hbe := below_rec dW (Nat.le_refl _) (.int .i64 (k : Int)) (.int .i64 (n : Int)) (.int .i64 (r : Int)) (.slice a 0 cap)
      have HFIN := Lib.hid hfin
      have HBE := Lib.hid hbe
      clear hfin hbe
      go_wp2
      obtain ⟨j0, j1, j2, j3⟩ := rec_reads HFIN.out
      refine bodyPost_ret (v := .agg #[.int .i64 (k : Int), .int .i64 (n : Int), .int .i64 (r : Int), .slice a 0 cap]) (by simp [results, Tryz.results33, go_sem, j0, j1, j2, j3]) rfl ?_
      exact rec_endF HO2.out (.inl rfl) (.inl rfl) HBE.out
    · have g1 : ((k : Int) != 0) = false := by simp; omega
      have HON := Lib.hid (HO.out (.inr hk))
      clear HO HOy l1 l2 l3
      go_wp2_with fail
      refine (HH.out _ dW).mono ?_
      rintro E w5 ⟨v5, rfl, hown, hb5⟩
      obtain ⟨a5, cap5, rfl, hrow⟩ := row_of_ints hown (by unfold maxLen; omega)
      have hX5 := (hb5.block _ (heap_lt hXW)).trans hXW
      have d5 := dW.trans (hb5.mono dW.size)
      have HW5 := Lib.hid hown
      have hrW := Lib.hid (heap_lt hXW)
      clear hown hrow hXW dW hb5
      by_cases h0 : ids.length = 0
      · have g2 : ¬ (0 : Int) < (ids.length : Int) := by omega
        have H0 := Lib.hid h0
        clear h0
        go_wp2_with fail
        refine (HM.out _ d5).mono ?_
        rintro E w6 ⟨rfl, hb6⟩
        have hX6 := (hb6.block _ (heap_lt hX5)).trans hX5
        have d6 := d5.trans (hb6.mono d5.size)
        clear hb6 hX5 d5 HW5
        by_cases hM : 0 < M
        · have g3 : (0 : Int) < (M : Int) := by omega
          have HO2 : Hid (O = ⟨3, M, 1, []⟩) := Lib.hid (by rw [HON.out, if_pos ⟨H0.out, hM⟩])
          clear HON
          obtain ⟨f0, f1, f2, f3⟩ := rec_free hX6
          obtain ⟨k0, k1, k2, k3⟩ := rec_reads hX6
          have hfin := put_rec hX6 (.int .i64 3) (.int .i64 (M : Int)) (.int .i64 1) (.slice none 0 0)
          have hbe := below_rec d6 (Nat.le_refl _) (.int .i64 3) (.int .i64 (M : Int)) (.int .i64 1) (.slice none 0 0)
          have HFIN := Lib.hid hfin
          have HBE := Lib.hid hbe
          clear hfin hbe
          go_wp2
          obtain ⟨j0, j1, j2, j3⟩ := rec_reads HFIN.out
          refine bodyPost_ret (v := .agg #[.int .i64 3, .int .i64 (M : Int), .int .i64 1, .slice none 0 0]) (by simp [results, Tryz.results33, go_sem, j0, j1, j2, j3]) rfl ?_
          exact jmp_endF HO2.out HBE.out
        · have g3 : ¬ (0 : Int) < (M : Int) := by omega
          have HO2 : Hid (O = ⟨4, 0, 0, []⟩) := Lib.hid (by rw [HON.out, if_neg (fun h => hM h.2), List.length_eq_zero_iff.1 H0.out])
          clear HON
          obtain ⟨f0, f1, f2, f3⟩ := rec_free hX6
          obtain ⟨k0, k1, k2, k3⟩ := rec_reads hX6
          have hfin := put_rec hX6 (.int .i64 4) (.int .i64 0) (.int .i64 0) (.slice none 0 0)
          have hbe := below_rec d6 (Nat.le_refl _) (.int .i64 4) (.int .i64 0) (.int .i64 0) (.slice none 0 0)
          have HFIN := Lib.hid hfin
          have HBE := Lib.hid hbe
          clear hfin hbe
          go_wp2
          obtain ⟨j0, j1, j2, j3⟩ := rec_reads HFIN.out
          refine bodyPost_ret (v := .agg #[.int .i64 4, .int .i64 0, .int .i64 0, .slice none 0 0]) (by simp [results, Tryz.results33, go_sem, j0, j1, j2, j3]) rfl ?_
          exact jmp_endF HO2.out HBE.out
      · have g2 : (0 : Int) < (ids.length : Int) := by omega
        have HO2 : Hid (O = ⟨4, 0, 0, ids⟩) := Lib.hid (by rw [HON.out, if_neg (fun h => h0 h.1)])
        clear HON h0
        obtain ⟨f0, f1, f2, f3⟩ := rec_free hX5
        obtain ⟨k0, k1, k2, k3⟩ := rec_reads hX5
        have hfin := put_rec hX5 (.int .i64 4) (.int .i64 0) (.int .i64 0) (.slice a5 ids.length cap5)
        have hbe := below_rec d5 (Nat.le_refl _) (.int .i64 4) (.int .i64 0) (.int .i64 0) (.slice a5 ids.length cap5)
        have HFIN := Lib.hid hfin
        have HBE := Lib.hid hbe
        clear hfin hbe
        go_wp2
        obtain ⟨j0, j1, j2, j3⟩ := rec_reads HFIN.out
        refine bodyPost_ret (v := .agg #[.int .i64 4, .int .i64 0, .int .i64 0, .slice a5 ids.length cap5]) (by simp [results, Tryz.results33, go_sem, j0, j1, j2, j3]) rfl ?_
        have HI : Hid (Into w.heap.size w5 ((((w5.setCell ⟨w.heap.size, 0, none⟩ (.int .i64 4)).setCell ⟨w.heap.size, 1, none⟩ (.int .i64 0)).setCell ⟨w.heap.size, 2, none⟩ (.int .i64 0)).setCell ⟨w.heap.size, 3, none⟩ (.slice a5 ids.length cap5))) := Lib.hid (((((Into.refl _ _).set _ _).set _ _).set _ _).set _ _)
        obtain ⟨a6, c6, hv6, hr6⟩ := row_of_ints (HI.out.owns hrW.out HW5.out) (by unfold maxLen; omega)
        obtain rfl : a5 = a6 := by cases hv6; rfl
        exact rec_endF HO2.out hr6 (.inr (owns_less (by have := hrW.out; omega) (HI.out.owns hrW.out HW5.out))) HBE.out
  | false =>
    have HON := Lib.hid (HO.out (.inl (by first | rfl | trivial)))
    clear HO HOy l0 l1 l2 l3
    go_wp2_with fail
    refine (HH.out _ dW).mono ?_
    rintro E w5 ⟨v5, rfl, hown, hb5⟩
    obtain ⟨a5, cap5, rfl, hrow⟩ := row_of_ints hown (by unfold maxLen; omega)
    have hX5 := (hb5.block _ (heap_lt hXW)).trans hXW
    have d5 := dW.trans (hb5.mono dW.size)
    have HW5 := Lib.hid hown
    have hrW := Lib.hid (heap_lt hXW)
    clear hown hrow hXW dW hb5
    by_cases h0 : ids.length = 0
    · have g2 : ¬ (0 : Int) < (ids.length : Int) := by omega
      have H0 := Lib.hid h0
      clear h0
      go_wp2_with fail
      refine (HM.out _ d5).mono ?_
      rintro E w6 ⟨rfl, hb6⟩
      have hX6 := (hb6.block _ (heap_lt hX5)).trans hX5
      have d6 := d5.trans (hb6.mono d5.size)
      clear hb6 hX5 d5 HW5
      by_cases hM : 0 < M
      · have g3 : (0 : Int) < (M : Int) := by omega
        have HO2 : Hid (O = ⟨3, M, 1, []⟩) := Lib.hid (by rw [HON.out, if_pos ⟨H0.out, hM⟩])
        clear HON
        obtain ⟨f0, f1, f2, f3⟩ := rec_free hX6
        obtain ⟨k0, k1, k2, k3⟩ := rec_reads hX6
        have hfin := put_rec hX6 (.int .i64 3) (.int .i64 (M : Int)) (.int .i64 1) (.slice none 0 0)
        have hbe := below_rec d6 (Nat.le_refl _) (.int .i64 3) (.int .i64 (M : Int)) (.int .i64 1) (.slice none 0 0)
        have HFIN := Lib.hid hfin
        have HBE := Lib.hid hbe
        clear hfin hbe
        go_wp2
        obtain ⟨j0, j1, j2, j3⟩ := rec_reads HFIN.out
        refine bodyPost_ret (v := .agg #[.int .i64 3, .int .i64 (M : Int), .int .i64 1, .slice none 0 0]) (by simp [results, Tryz.results33, go_sem, j0, j1, j2, j3]) rfl ?_
        exact jmp_endF HO2.out HBE.out
      · have g3 : ¬ (0 : Int) < (M : Int) := by omega
        have HO2 : Hid (O = ⟨4, 0, 0, []⟩) := Lib.hid (by rw [HON.out, if_neg (fun h => hM h.2), List.length_eq_zero_iff.1 H0.out])
        clear HON
        obtain ⟨f0, f1, f2, f3⟩ := rec_free hX6
        obtain ⟨k0, k1, k2, k3⟩ := rec_reads hX6
        have hfin := put_rec hX6 (.int .i64 4) (.int .i64 0) (.int .i64 0) (.slice none 0 0)
        have hbe := below_rec d6 (Nat.le_refl _) (.int .i64 4) (.int .i64 0) (.int .i64 0) (.slice none 0 0)
        have HFIN := Lib.hid hfin
        have HBE := Lib.hid hbe
        clear hfin hbe
        go_wp2
        obtain ⟨j0, j1, j2, j3⟩ := rec_reads HFIN.out
        refine bodyPost_ret (v := .agg #[.int .i64 4, .int .i64 0, .int .i64 0, .slice none 0 0]) (by simp [results, Tryz.results33, go_sem, j0, j1, j2, j3]) rfl ?_
        exact jmp_endF HO2.out HBE.out
    · have g2 : (0 : Int) < (ids.length : Int) := by omega
      have HO2 : Hid (O = ⟨4, 0, 0, ids⟩) := Lib.hid (by rw [HON.out, if_neg (fun h => h0 h.1)])
      clear HON h0
      obtain ⟨f0, f1, f2, f3⟩ := rec_free hX5
      obtain ⟨k0, k1, k2, k3⟩ := rec_reads hX5
      have hfin := put_rec hX5 (.int .i64 4) (.int .i64 0) (.int .i64 0) (.slice a5 ids.length cap5)
      have hbe := below_rec d5 (Nat.le_refl _) (.int .i64 4) (.int .i64 0) (.int .i64 0) (.slice a5 ids.length cap5)
      have HFIN := Lib.hid hfin
      have HBE := Lib.hid hbe
      clear hfin hbe
      go_wp2
      obtain ⟨j0, j1, j2, j3⟩ := rec_reads HFIN.out
      refine bodyPost_ret (v := .agg #[.int .i64 4, .int .i64 0, .int .i64 0, .slice a5 ids.length cap5]) (by simp [results, Tryz.results33, go_sem, j0, j1, j2, j3]) rfl ?_
      have HI : Hid (Into w.heap.size w5 ((((w5.setCell ⟨w.heap.size, 0, none⟩ (.int .i64 4)).setCell ⟨w.heap.size, 1, none⟩ (.int .i64 0)).setCell ⟨w.heap.size, 2, none⟩ (.int .i64 0)).setCell ⟨w.heap.size, 3, none⟩ (.slice a5 ids.length cap5))) := Lib.hid (((((Into.refl _ _).set _ _).set _ _).set _ _).set _ _)
      obtain ⟨a6, c6, hv6, hr6⟩ := row_of_ints (HI.out.owns hrW.out HW5.out) (by unfold maxLen; omega)
      obtain rfl : a5 = a6 := by cases hv6; rfl
      exact rec_endF HO2.out hr6 (.inr (owns_less (by have := hrW.out; omega) (HI.out.owns hrW.out HW5.out))) HBE.out
theorem rof_any (a : Option Addr) (len cap : Nat) (us : List (List UInt8)) (s : List UInt8) (e : Nat) (w : World) (hlen : len ≤ 1000000) (hr : IsStrs w a len us) (hu : ∀ t ∈ us, 0 < t.length ∧ t.length ≤ 65535) (hs : s.length ≤ 1000000) (he : 0 < e) (hes : e ≤ s.length) (skip : Bool) :
    Calls Tryz.prog 33 #[.slice a len cap, .string ⟨s.toArray⟩, .int .i64 (e : Int), .bool skip] w (RetE (ofR us s e skip) w) :=
  (rof_own a len cap us s e w hlen hr hu hs he hes skip).mono fun _ _ h => h.toE
end Go.Proofs.YtmgcdhcidojdhaaGreat
