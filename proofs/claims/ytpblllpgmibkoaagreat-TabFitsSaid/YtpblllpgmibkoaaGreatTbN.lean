/-
  tab: the reader's rows: walked.
-/
import Derived.Test.YtpblllpgmibkoaaGreatBn9
import Derived.Test.YtpblllpgmibkoaaGreatBn13
import Derived.Lib.MinMax
set_option linter.unusedSimpArgs false
set_option linter.unusedVariables false
namespace Go.Proofs.YtpblllpgmibkoaaGreat
open Go.RowKit

/-- What is known ahead of a state: so many are read, these numbers; what is left, what was wrong. -/
def RelS (m : Int) (K n : Nat) (S : Int × List (List Int)) (j : Nat) (L : List Int) (t : List UInt8) (y : Int) : Prop :=
  (y = 0 ∧ ∃ R : List (List Int), L = R.flatten ∧ R.length = j ∧ rdS m K (n - j) R t = S) ∨ (¬ y = 0 ∧ S.1 = y)
/-- .. in the midst of one. -/
def RelN (m : Int) (K n : Nat) (S : Int × List (List Int)) (j i : Nat) (L : List Int) (t : List UInt8) (y : Int) : Prop :=
  (y = 0 ∧ ∃ (R : List (List Int)) (a : List Int), L = R.flatten ++ a ∧ R.length = j ∧ (if (rdN m (K - i) a t).1 = 0 then rdS m K (n - (j + 1)) (R ++ [(rdN m (K - i) a t).2.1]) (rdN m (K - i) a t).2.2 else ((rdN m (K - i) a t).1, [])) = S) ∨ (¬ y = 0 ∧ S.1 = y)

theorem rel_depth {m : Int} {K n : Nat} {S : Int × List (List Int)} {j : Nat} {L : List Int} {t t1 : List UInt8} {y y1 y2 d : Int} {q : Bool} (h : RelS m K n S j L t y) (hj : j < n) (e1 : numX y 65535 t = y1) (ed : (if y1 = 0 then tN t else 0) = d) (et : (if y1 = 0 then pasT t else t) = t1)
    (hq : q = true ↔ (d = 0 ↔ j = 0)) (e2 : askX y1 q 3 = y2) : RelN m K n S j 0 (L ++ [d]) t1 y2 ∧ 0 ≤ d ∧ d ≤ 65535 := by
  have hd : 0 ≤ d ∧ d ≤ 65535 := by
    rw [← ed]
    split
    · rename_i h0
      rw [← e1] at h0
      unfold numX at h0
      by_cases hy : y = 0
      · rw [if_pos hy] at h0
        exact (nm_ok h0).2
      · rw [if_neg hy] at h0; exact absurd h0 hy
    · omega
  refine ⟨?_, hd⟩
  rcases h with ⟨rfl, R, rfl, hR, hS⟩ | ⟨hy, hS⟩
  · rw [show n - j = (n - (j + 1)) + 1 by omega, rdS] at hS
    rw [numX, if_pos rfl] at e1
    by_cases h1 : nmE 65535 t = 0
    · rw [if_pos h1] at hS
      rw [h1] at e1
      subst e1
      rw [if_pos rfl] at ed et
      subst ed et
      by_cases h2 : (tN t = 0) ↔ (R.length = 0)
      · rw [if_pos h2] at hS
        rw [hq.2 (by rw [← hR]; exact h2), ask_true] at e2
        subst e2
        exact .inl ⟨rfl, R, [tN t], rfl, hR, by rw [Nat.sub_zero]; exact hS⟩
      · rw [if_neg h2] at hS
        have hqf : q = false := by
          rw [Bool.eq_false_iff]
          intro h3
          exact h2 (by rw [hR]; exact hq.1 h3)
        rw [hqf] at e2
        have : y2 = 3 := by rw [← e2]; rfl
        exact .inr ⟨by omega, by rw [← hS, this]⟩
    · rw [if_neg h1] at hS
      rw [← e1, ask_stuck h1] at e2
      exact .inr ⟨by omega, by rw [← hS, ← e2]⟩
  · rw [num_stuck hy] at e1
    subst e1
    rw [ask_stuck hy] at e2
    subst e2
    exact .inr ⟨hy, hS⟩

theorem rel_num {m : Int} {K n : Nat} {S : Int × List (List Int)} {j i : Nat} {L : List Int} {t t1 : List UInt8} {y y1 x : Int} (h : RelN m K n S j i L t y) (hi : i < K) (hm : 0 ≤ m) (e1 : numX y m t = y1) (ex : (if y1 = 0 then tN t else 0) = x) (et : (if y1 = 0 then pasT t else t) = t1) : RelN m K n S j (i + 1) (L ++ [x]) t1 y1 ∧ 0 ≤ x ∧ x ≤ m := by
  have hx : 0 ≤ x ∧ x ≤ m := by
    rw [← ex]
    split
    · rename_i h0
      rw [← e1] at h0
      unfold numX at h0
      by_cases hy : y = 0
      · rw [if_pos hy] at h0
        exact (nm_ok h0).2
      · rw [if_neg hy] at h0; exact absurd h0 hy
    · omega
  refine ⟨?_, hx⟩
  rcases h with ⟨rfl, R, a, rfl, hR, hS⟩ | ⟨hy, hS⟩
  · rw [show K - i = (K - (i + 1)) + 1 by omega, rdN] at hS
    rw [numX, if_pos rfl] at e1
    by_cases h1 : nmE m t = 0
    · rw [if_pos h1] at hS
      rw [h1] at e1
      subst e1
      rw [if_pos rfl] at ex et
      subst ex et
      exact .inl ⟨rfl, R, a ++ [tN t], by simp, hR, hS⟩
    · rw [if_neg h1] at hS
      simp only [if_neg h1] at hS
      subst e1
      exact .inr ⟨h1, by rw [← hS]⟩
  · rw [num_stuck hy] at e1
    subst e1
    exact .inr ⟨hy, hS⟩

theorem rel_row {m : Int} {K n : Nat} {S : Int × List (List Int)} {j : Nat} {L : List Int} {t : List UInt8} {y : Int} (h : RelN m K n S j K L t y) : RelS m K n S (j + 1) L t y := by
  rcases h with ⟨rfl, R, a, rfl, hR, hS⟩ | h
  · rw [Nat.sub_self] at hS
    simp only [rdN, if_true] at hS
    exact .inl ⟨rfl, R ++ [a], by simp, by simp [hR], hS⟩
  · exact .inr h

theorem rel_end {m : Int} {K n : Nat} {S : Int × List (List Int)} {L : List Int} {t : List UInt8} {y y1 : Int} {q : Bool} (h : RelS m K n S n L t y) (hq : q = true ↔ t.length = 0) (e : askX y q 20 = y1) : S.1 = y1 ∧ (y1 = 0 → L = S.2.flatten) := by
  rcases h with ⟨rfl, R, rfl, hR, hS⟩ | ⟨hy, hS⟩
  · rw [Nat.sub_self, rdS] at hS
    rw [← hS]
    cases q with
    | true =>
      rw [ask_true] at e
      exact ⟨by simp [hq.1 rfl, e], fun _ => rfl⟩
    | false =>
      have h0 : ¬ t.length = 0 := fun h0 => by have := hq.2 h0; cases this
      have : y1 = 20 := by rw [← e]; rfl
      exact ⟨by simp [h0, this], fun _ => rfl⟩
  · rw [ask_stuck hy] at e
    subst e
    exact ⟨hS, fun h => absurd h hy⟩
theorem rel_stop {m : Int} {K n : Nat} {S : Int × List (List Int)} {j : Nat} {L : List Int} {t : List UInt8} {y : Int} (h : RelS m K n S j L t y) (hy : ¬ y = 0) (q : Bool) : S.1 = askX y q 20 ∧ (askX y q 20 = 0 → L = S.2.flatten) := by
  rcases h with ⟨rfl, _⟩ | ⟨_, hS⟩
  · exact absurd rfl hy
  · rw [ask_stuck hy]
    exact ⟨hS, fun h => absurd h hy⟩

theorem IsRd.kept {w w' : World} {b : Nat} {s : List UInt8} {x : Int} (h : IsRd w b s x) (e : w'.heap[b]? = w.heap[b]?) : IsRd w' b s x := e.trans h
theorem IsRd.lt {w : World} {b : Nat} {s : List UInt8} {x : Int} (h : IsRd w b s x) : b < w.heap.size := heap_lt h

/-- What rows answers: rows, if nothing is wrong. -/
def RetRows (S : Int × List (List Int)) (own : List UInt8) (b : Nat) (w : World) (e : Ending) (w' : World) : Prop :=
  ∃ p t, e = .returned (.pointer (some ⟨p, 0, none⟩)) ∧ IsRd w' b t S.1 ∧ (S.1 = 0 → IsTab w' p own S.2) ∧ Below b w w'

set_option maxRecDepth 100000 in
set_option maxHeartbeats 8000000 in
theorem tbrows_any {w : World} {b : Nat} {s : List UInt8} (h : IsRd w b s 0) (hs : s.length ≤ 1000000000) :
    Calls Tryz.prog 41 #[.pointer (some ⟨b, 0, none⟩)] w (RetRows (tbT s) (hdO s) b w) := by
  obtain ⟨c0, c1, f0, f1⟩ := h.reads
  have HP := Lib.hid (Tryz.strings_HasPrefix ⟨s.toArray⟩ ⟨hdT.toArray⟩ w)
  simp only at HP
  obtain ⟨q0, hq0⟩ : ∃ q, Lib.hasPrefix s hdT = q := ⟨_, rfl⟩
  rw [show Lib.hasPrefix s.toArray.toList hdT.toArray.toList = q0 from hq0] at HP
  obtain ⟨x1, e1⟩ : ∃ x, askX 0 q0 15 = x := ⟨_, rfl⟩
  have H1 := Lib.hid (tbask_any h q0 15)
  rw [e1] at H1
  obtain ⟨y1, e2⟩ : ∃ y, askX x1 (decide (4 ≤ s.length)) 4 = y := ⟨_, rfl⟩
  have H2 := Lib.hid (fun (W : World) (hW : IsRd W b s x1) => tbtext_any hW 4 (by omega) y1 e2 hs)
  obtain ⟨s1, f1'⟩ : ∃ t, (if y1 = 0 then s.drop 4 else s) = t := ⟨_, rfl⟩
  obtain ⟨tx, fx⟩ : ∃ t, (if y1 = 0 then s.take 4 else []) = t := ⟨_, rfl⟩
  rw [fx, f1'] at H2
  have l1 : s1.length ≤ 1000000000 := by rw [← f1']; split <;> (try rw [List.length_drop]) <;> omega
  obtain ⟨y2, e3⟩ : ∃ y, numX y1 16777217 s1 = y := ⟨_, rfl⟩
  have H3 := Lib.hid (fun (W : World) (hW : IsRd W b s1 y1) => tbnum_any hW 16777217 (by omega) y2 e3 l1)
  obtain ⟨n, fn⟩ : ∃ n, (if y2 = 0 then tN s1 else 0) = n := ⟨_, rfl⟩
  obtain ⟨s2, f2⟩ : ∃ t, (if y2 = 0 then pasT s1 else s1) = t := ⟨_, rfl⟩
  rw [fn, f2] at H3
  have l2 : s2.length ≤ 1000000000 := by rw [← f2]; have := pas_le s1; split <;> omega
  have hn : 0 ≤ n ∧ n ≤ 16777217 := by
    rw [← fn]
    split
    · rename_i h0
      rw [← e3] at h0
      unfold numX at h0
      split at h0
      · exact (nm_ok h0).2
      · omega
    · omega
  obtain ⟨y3, e4⟩ : ∃ y, askX y2 (decide (0 < n)) 14 = y := ⟨_, rfl⟩
  have H4 := Lib.hid (fun (W : World) (hW : IsRd W b s2 y2) => tbask_any hW (decide (0 < n)) 14)
  rw [e4] at H4
  obtain ⟨y4, e5⟩ : ∃ y, numX y3 256 s2 = y := ⟨_, rfl⟩
  have H5 := Lib.hid (fun (W : World) (hW : IsRd W b s2 y3) => tbnum_any hW 256 (by omega) y4 e5 l2)
  obtain ⟨k, fk⟩ : ∃ k, (if y4 = 0 then tN s2 else 0) = k := ⟨_, rfl⟩
  obtain ⟨s3, f3⟩ : ∃ t, (if y4 = 0 then pasT s2 else s2) = t := ⟨_, rfl⟩
  rw [fk, f3] at H5
  have l3 : s3.length ≤ 1000000000 := by rw [← f3]; have := pas_le s2; split <;> omega
  have hk : 0 ≤ k ∧ k ≤ 256 := by
    rw [← fk]
    split
    · rename_i h0
      rw [← e5] at h0
      unfold numX at h0
      split at h0
      · exact (nm_ok h0).2
      · omega
    · omega
  obtain ⟨y5, e6⟩ : ∃ y, askX y4 (decide (k.toNat ≤ s3.length)) 4 = y := ⟨_, rfl⟩
  have H6 := Lib.hid (fun (W : World) (hW : IsRd W b s3 y4) => tbtext_any hW k.toNat (by omega) y5 e6 l3)
  rw [Int.toNat_of_nonneg hk.1] at H6
  obtain ⟨own, fo⟩ : ∃ t, (if y5 = 0 then s3.take k.toNat else []) = t := ⟨_, rfl⟩
  obtain ⟨s4, f4⟩ : ∃ t, (if y5 = 0 then s3.drop k.toNat else s3) = t := ⟨_, rfl⟩
  rw [fo, f4] at H6
  have l4 : s4.length ≤ 1000000000 := by rw [← f4]; split <;> (try rw [List.length_drop]) <;> omega
  have hol : own.length ≤ 256 := by rw [← fo]; split <;> (try rw [List.length_take]) <;> (try rw [List.length_nil]) <;> omega
  obtain ⟨y6, e7⟩ : ∃ y, askX y5 (riseT own) 9 = y := ⟨_, rfl⟩
  have H7 := Lib.hid (fun (W : World) (hW : IsRd W b s4 y5) => tbrise_any hW own (by omega))
  rw [e7] at H7
  have HD := hd_run (by rw [hq0]; exact e1) e2 f1' e3 fn f2 e4 e5 fk f3 e6 fo f4 e7
  obtain ⟨N, rfl⟩ := Int.eq_ofNat_of_zero_le hn.1
  obtain ⟨q4, hq4⟩ : ∃ q, decide ((0 : Int) < (N : Int)) = q := ⟨_, rfl⟩
  rw [hq4] at H4
  have hq5 : decide (0 < N) = q4 := by rw [← hq4]; simp
  obtain ⟨S, hS⟩ : ∃ S, tbT s = S := ⟨_, rfl⟩
  have HR0 : Hid (RelS ((N : Int) - 1) own.length N S 0 [] s4 y6) := Lib.hid (by
    rw [← hS]
    unfold tbT
    by_cases h0 : y6 = 0
    · obtain ⟨d1, d2, d3, d4, d5⟩ := HD.2 h0
      rw [if_pos (by rw [← HD.1]; exact h0), d3, d4, d1, show hdN s = N by omega]
      exact .inl ⟨h0, [], rfl, rfl, rfl⟩
    · rw [if_neg (by rw [← HD.1]; exact h0)]
      exact .inr ⟨h0, HD.1.symm⟩)
  have HGo : Hid (S.1 = 0 → hdO s = own ∧ GoodT own S.2) := Lib.hid (fun h0 => by
    rw [← hS] at h0 ⊢
    obtain ⟨t1, t2, _⟩ := tb_take h0
    have := (HD.2 (by rw [HD.1]; exact t1)).2.1
    exact ⟨this, by rw [← this]; exact t2⟩)
  have hN := hn.2
  have hb := h.lt
  rw [hS]
  clear HD hS e1 e2 e3 e4 e5 e6 e7 f1' fn f2 fk f3 fo f4 hq0 fx
  have SO := Lib.hid (bsize own)
  go_enter Tryz.func41, Tryz.ntmps41
  go_wp2_with fail
  refine HP.out.mono ?_
  rintro e w' ⟨rfl, hw⟩
  obtain rfl := hw.symm
  clear hw
  go_wp2_with fail
  refine H1.out.mono ?_
  rintro e w1 ⟨rfl, hr1, hi1⟩
  clear HP H1 h
  go_wp2_with fail
  refine (H2.out w1 hr1).mono ?_
  rintro e w2 ⟨rfl, hr2, hi2⟩
  have hi2 := hi1.trans hi2
  clear H2 hr1 hi1
  go_wp2_with fail
  refine (H3.out w2 hr2).mono ?_
  rintro e w3 ⟨rfl, hr3, hi3⟩
  have hi3 := hi2.trans hi3
  clear H3 hr2 hi2
  go_wp2_with fail
  refine (H4.out w3 hr3).mono ?_
  rintro e w4 ⟨rfl, hr4, hi4⟩
  have hi4 := hi3.trans hi4
  clear H4 hr3 hi3
  go_wp2_with fail
  refine (H5.out w4 hr4).mono ?_
  rintro e w5 ⟨rfl, hr5, hi5⟩
  have hi5 := hi4.trans hi5
  clear H5 hr4 hi4
  go_wp2_with fail
  refine (H6.out w5 hr5).mono ?_
  rintro e w6 ⟨rfl, hr6, hi6⟩
  have hi6 := hi5.trans hi6
  clear H6 hr5 hi5
  go_wp2_with fail
  refine (H7.out w6 hr6).mono ?_
  rintro e w7 ⟨rfl, hr7, hi7⟩
  have hi7 := hi6.trans hi7
  obtain ⟨c0, c1, f0, f1⟩ := hr7.reads
  clear H7 hr6 hi6
  obtain ⟨K, hK⟩ : ∃ K, own.length = K := ⟨_, rfl⟩
  have hKl : K ≤ 256 := by omega
  rw [hK] at HR0
  have hmost : N * (K + 1) ≤ 4311744769 := by
    have := Nat.mul_le_mul (show N ≤ 16777217 by omega) (show K + 1 ≤ 257 by omega)
    omega
  have hmul : IntKind.i64.wrap ((N : Int) * (1 + (K : Int))) = ((N * (K + 1) : Nat) : Int) := by
    rw [show (N : Int) * (1 + (K : Int)) = ((N * (K + 1) : Nat) : Int) by rw [Int.natCast_mul]; congr 1; omega, IntKind.wrap_i64]; omega
  obtain ⟨m, hm⟩ : ∃ m, N * (K + 1) = m := ⟨_, rfl⟩
  rw [hm] at hmul hmost
  have HM := Lib.hid hm
  have hmin : min (m : Int) (s4.length : Int) = ((min m s4.length : Nat) : Int) := by omega
  have hcl : min m s4.length ≤ 4311744769 := by omega
  generalize min m s4.length = C at hmin hcl
  obtain ⟨w8, hmake, hown8, hb8, hz8⟩ := make_cells C w7 hcl
  have HR7 := Lib.hid hr7
  have HI7 := Lib.hid hi7
  have HO8 := Lib.hid hown8
  have HB8 := Lib.hid hb8
  have HZ8 := Lib.hid hz8
  have HK := Lib.hid hK
  have HBz : Hid (b < w7.heap.size) := Lib.hid (by have := HI7.out.size; omega)
  have HI8 : Hid (IsRd w8 b s4 y6) := Lib.hid (HR7.out.kept (hb8.block b HR7.out.lt))
  have HB9 : Hid (Below b w w8) := Lib.hid ((HI7.out.belowTo (Nat.le_refl _)).trans (hb8.mono (by have := HBz.out; omega)))
  obtain ⟨i0, hi, hz0, hz1, hz2⟩ := info_parts dn32_all
  clear hr7 hi7 hown8 hb8 hz8 hm
  generalize hB : w7.heap.size = B at *
  go_wp2_with fail
  go_loopw [5, 6] (fun v i wr => ∃ (j : Nat) (L : List Int) (t : List UInt8) (y : Int), j ≤ N ∧ i = .int .i64 j ∧ Hid (wr.ownsRow B 21 1 v L.length (c32 L)) ∧ Hid (L.length = j * (K + 1)) ∧ Hid (IsRd wr b t y) ∧ t.length ≤ 1000000000 ∧ Hid (RelS ((N : Int) - 1) K N S j L t y) ∧ Hid (Below b w wr) ∧ B ≤ wr.heap.size) (fun _ i _ => N - (RowKit.intOf i).toNat)
  case atStart => exact ⟨0, [], s4, y6, Nat.zero_le _, rfl, HO8, Lib.hid (by simp), HI8, l4, HR0, HB9, by have := HZ8.out; omega⟩
  case round =>
    clear HO8 HI8 HR0 HB9
    obtain ⟨j, L, t, y, hj, rfl, HO, HL, HI, hts, HR, HB, hBw⟩ := hrel
    by_cases hlt : j < N
    · have g0 : (j : Int) < (N : Int) := by omega
      by_cases hy : y = 0
      · obtain ⟨c0, c1, f0, f1⟩ := HI.out.reads
        obtain ⟨y1, e1⟩ : ∃ z, numX y 65535 t = z := ⟨_, rfl⟩
        have H1 := Lib.hid (tbnum_any HI.out 65535 (by omega) y1 e1 hts)
        obtain ⟨d, ed⟩ : ∃ z, (if y1 = 0 then tN t else 0) = z := ⟨_, rfl⟩
        obtain ⟨t1, et⟩ : ∃ z, (if y1 = 0 then pasT t else t) = z := ⟨_, rfl⟩
        rw [ed, et] at H1
        have ht1 : t1.length ≤ 1000000000 := by rw [← et]; have := pas_le t; split <;> omega
        obtain ⟨q, hq⟩ : ∃ q, ((d == 0) == ((j : Int) == 0)) = q := ⟨_, rfl⟩
        have hq2 : q = true ↔ (d = 0 ↔ j = 0) := by
          have a1 : (d == 0) = decide (d = 0) := by by_cases h : d = 0 <;> simp [h]
          have a2 : ((j : Int) == 0) = decide (j = 0) := by by_cases h : j = 0 <;> simp [h]
          rw [← hq, a1, a2]
          by_cases h1 : d = 0 <;> by_cases h2 : j = 0 <;> simp [h1, h2]
        obtain ⟨y2, e2⟩ : ∃ z, askX y1 q 3 = z := ⟨_, rfl⟩
        have H2 := Lib.hid (fun (W : World) (hW : IsRd W b t1 y1) => tbask_any hW q 3)
        rw [e2] at H2
        obtain ⟨hRel, hd0, hd1⟩ := rel_depth HR.out hlt e1 ed et hq2 e2
        have HN := Lib.hid hRel
        subst hy
        clear e1 e2 ed et hq2 HR hRel
        go_wp2_with fail
        refine H1.out.mono ?_
        rintro e w9 ⟨rfl, hr9, hi9⟩
        have H3 := Lib.hid (H2.out w9 hr9)
        clear H1 H2 hr9
        go_wp2_with fail
        refine H3.out.mono ?_
        rintro e w10 ⟨rfl, hr10, hi10⟩
        have hi10 := hi9.trans hi10
        have HR10 := Lib.hid hr10
        have HB10 := Lib.hid (HB.out.trans (hi10.belowTo (Nat.le_refl _)))
        have hown := hi10.owns (by have := HBz.out; omega) HO.out
        have hBs : B ≤ w10.heap.size := by have := hi10.size; omega
        have hLb : L.length + 1 ≤ 4311744769 := by have := HL.out; have := seg_in (W := K + 1) hlt; have := HM.out; omega
        clear H3 hi9 hi10 hr10 HO HI HB c0 c1 f0 f1
        have w0 : IntKind.i32.wrap d = d := by rw [IntKind.wrap_i32]; omega
        obtain ⟨ao, cv, rfl⟩ := owns_slice hown
        go_wp2_with (at_builtin; refine wpList_append_own _ rfl _ _ 65 rfl B 21 i0 (.int .i32 0) 1 4 Tryz.underlying65 hi hz0 hz1 hz2 rfl (by decide) _ _ _ rfl (hown.alloc _) ⟨w10.heap.size, 0, none⟩ 1 1 [.int .i32 d] rfl rfl (one_news (heap_alloc_new _ _)) c32_one (by unfold maxLen; omega) (by omega) (by simp; omega) ?_)
        intro v' w11 hown11 hgrow _
        obtain ⟨hb11, hk11, hs11⟩ := tb_grow HB10.out (Nat.le_of_lt HBz.out) hBs hown hgrow
        have HR11 : Hid (IsRd w11 b t1 y2) := Lib.hid (HR10.out.kept (hk11 b HBz.out))
        have HB11 := Lib.hid hb11
        have hB11 : B ≤ w11.heap.size := by omega
        have HO11 : Hid (w11.ownsRow B 21 1 v' (L ++ [d]).length (c32 (L ++ [d]))) := Lib.hid (by rw [c32_snoc, List.length_append]; exact hown11)
        have HL11 : Hid ((L ++ [d]).length = j * (K + 1) + 1 + 0) := Lib.hid (by rw [List.length_append, HL.out]; rfl)
        generalize L ++ [d] = L1 at HN HO11 HL11
        clear hown hown11 hgrow hb11 hk11 hs11 hBs hLb w0 HR10 HB10 HL hd0 hd1
        go_wp2
        go_loopw [5, 70] (fun v i wr => ∃ (i0 : Nat) (L : List Int) (t : List UInt8) (y : Int), i0 ≤ K ∧ i = .int .i64 i0 ∧ Hid (wr.ownsRow B 21 1 v L.length (c32 L)) ∧ Hid (L.length = j * (K + 1) + 1 + i0) ∧ Hid (IsRd wr b t y) ∧ t.length ≤ 1000000000 ∧ Hid (RelN ((N : Int) - 1) K N S j i0 L t y) ∧ Hid (Below b w wr) ∧ B ≤ wr.heap.size) (fun _ i _ => K - (RowKit.intOf i).toNat)
        case atStart => exact ⟨0, L1, t1, y2, Nat.zero_le _, rfl, HO11, HL11, HR11, ht1, HN, HB11, hB11⟩
        case round =>
          clear HO11 HL11 HR11 ht1 HN HB11 hB11
          obtain ⟨i, L, t, y, hi9, rfl, HO, HL, HI, hts, HR, HB, hBw⟩ := hrel
          by_cases hli : i < K
          · have g1 : (i : Int) < (K : Int) := by omega
            obtain ⟨c0, c1, f0, f1⟩ := HI.out.reads
            obtain ⟨y1, e1⟩ : ∃ z, numX y ((N : Int) - 1) t = z := ⟨_, rfl⟩
            have H1 := Lib.hid (tbnum_any HI.out ((N : Int) - 1) (by omega) y1 e1 hts)
            obtain ⟨x, ex⟩ : ∃ z, (if y1 = 0 then tN t else 0) = z := ⟨_, rfl⟩
            obtain ⟨t1, et⟩ : ∃ z, (if y1 = 0 then pasT t else t) = z := ⟨_, rfl⟩
            rw [ex, et] at H1
            have ht1 : t1.length ≤ 1000000000 := by rw [← et]; have := pas_le t; split <;> omega
            obtain ⟨hRel, hx0, hx1⟩ := rel_num HR.out hli (by omega) e1 ex et
            have HN := Lib.hid hRel
            clear e1 ex et HR hRel
            go_wp2_with fail
            refine H1.out.mono ?_
            rintro e w9 ⟨rfl, hr9, hi9⟩
            have HR9 := Lib.hid hr9
            have HB9 := Lib.hid (HB.out.trans (hi9.belowTo (Nat.le_refl _)))
            have hown := hi9.owns (by have := HBz.out; omega) HO.out
            have hBs : B ≤ w9.heap.size := by have := hi9.size; omega
            have hLb : L.length + 1 ≤ 4311744769 := by have := HL.out; have := seg_in (W := K + 1) hlt; have := HM.out; omega
            clear H1 hi9 hr9 HO HI HB c0 c1 f0 f1
            have w0 : IntKind.i32.wrap x = x := by rw [IntKind.wrap_i32]; omega
            obtain ⟨ao, cv, rfl⟩ := owns_slice hown
            go_wp2_with (at_builtin; refine wpList_append_own _ rfl _ _ 65 rfl B 21 i0 (.int .i32 0) 1 4 Tryz.underlying65 hi hz0 hz1 hz2 rfl (by decide) _ _ _ rfl (hown.alloc _) ⟨w9.heap.size, 0, none⟩ 1 1 [.int .i32 x] rfl rfl (one_news (heap_alloc_new _ _)) c32_one (by unfold maxLen; omega) (by omega) (by simp; omega) ?_)
            intro v' w11 hown11 hgrow _
            obtain ⟨hb11, hk11, hs11⟩ := tb_grow HB9.out (Nat.le_of_lt HBz.out) hBs hown hgrow
            have HR11 : Hid (IsRd w11 b t1 y1) := Lib.hid (HR9.out.kept (hk11 b HBz.out))
            have HB11 := Lib.hid hb11
            have hB11 : B ≤ w11.heap.size := by omega
            have HO11 : Hid (w11.ownsRow B 21 1 v' (L ++ [x]).length (c32 (L ++ [x]))) := Lib.hid (by rw [c32_snoc, List.length_append]; exact hown11)
            have HL11 : Hid ((L ++ [x]).length = j * (K + 1) + 1 + (i + 1)) := Lib.hid (by rw [List.length_append, HL.out]; rfl)
            generalize L ++ [x] = L1 at HN HO11 HL11
            clear hown hown11 hgrow hb11 hk11 hs11 hBs hLb w0 HR9 HB9 HL hx0 hx1
            go_wp2
            exact ⟨⟨i + 1, L1, t1, y1, by omega, by go_num, HO11, HL11, HR11, ht1, HN, HB11, hB11⟩, by simp [RowKit.intOf]; omega⟩
          · have hiK : i = K := by omega
            subst hiK
            have hz : ¬ (i : Int) < (i : Int) := by omega
            have HR2 := Lib.hid (rel_row HR.out)
            have HL2 : Hid (L.length = (j + 1) * (i + 1)) := Lib.hid (by rw [HL.out, Nat.succ_mul]; omega)
            clear HR HL
            go_wp2
            exact ⟨⟨j + 1, L, t, y, by omega, by go_num, HO, HL2, HI, hts, HR2, HB, hBw⟩, by simp [RowKit.intOf]; omega⟩
      · have g1 : (y == 0) = false := by simpa using hy
        obtain ⟨c0, c1, f0, f1⟩ := HI.out.reads
        obtain ⟨ao, cv, rfl⟩ := owns_slice HO.out
        obtain ⟨q7, hq7⟩ : ∃ q, t.isEmpty = q := ⟨_, rfl⟩
        have hq8 : q7 = true ↔ t.length = 0 := by rw [← hq7, List.isEmpty_iff, List.length_eq_zero_iff]
        obtain ⟨y8, hy8⟩ : ∃ z, askX y q7 20 = z := ⟨_, rfl⟩
        have HF : Hid (S.1 = y8 ∧ (y8 = 0 → L = S.2.flatten)) := Lib.hid (by first | exact rel_end HR.out hq8 hy8 | exact hy8 ▸ rel_stop HR.out hy q7)
        have HA := Lib.hid (tbask_any HI.out q7 20)
        rw [hy8] at HA
        obtain ⟨c0, c1, f0, f1⟩ := HI.out.reads
        clear hq8 hy8 HR
        go_wp2_with fail
        refine HA.out.mono ?_
        rintro e wa ⟨rfl, hra, hia⟩
        have HRa := Lib.hid hra
        have HBa := Lib.hid (HB.out.trans (hia.belowTo (Nat.le_refl _)))
        have HOa := Lib.hid (hia.owns (by have := HBz.out; omega) HO.out)
        have HC := Lib.hid (sclone_any ⟨own.toArray⟩ wa (by rw [SO.out]; omega))
        clear hra hia HA HI HB HO c0 c1 f0 f1
        go_wp2_with fail
        refine HC.out.mono ?_
        rintro e wb ⟨rfl, hbb⟩
        have HRb : Hid (IsRd wb b t y8) := Lib.hid (HRa.out.kept (hbb.block b HRa.out.lt))
        have HBb := Lib.hid (HBa.out.trans (hbb.mono (by have := HRa.out.lt; omega)))
        have HOb := Lib.hid (tx_below HOa.out hbb)
        clear hbb HC HRa HBa HOa
        go_wp2
        go_ret
        have hbl : b < wb.heap.size := HRb.out.lt
        refine ⟨wb.heap.size, t, rfl, ?_, fun h0 => ?_, HBb.out.alloc (by omega) _⟩
        · rw [HF.out.1]
          exact HRb.out.kept (Below.heap_alloc _ _ _ hbl)
        · obtain ⟨ho, hg⟩ := HGo.out h0
          have hL := HF.out.2 (by rw [← HF.out.1]; exact h0)
          rw [ho]
          refine tab_of (B := B) (heap_alloc_new _ _) ?_ hg
          rw [← hL]
          exact HOb.out.alloc _
    · have hjN : j = N := by omega
      subst hjN
      have hz : ¬ (j : Int) < (j : Int) := by omega
      obtain ⟨ao, cv, rfl⟩ := owns_slice HO.out
      obtain ⟨q7, hq7⟩ : ∃ q, t.isEmpty = q := ⟨_, rfl⟩
      have hq8 : q7 = true ↔ t.length = 0 := by rw [← hq7, List.isEmpty_iff, List.length_eq_zero_iff]
      obtain ⟨y8, hy8⟩ : ∃ z, askX y q7 20 = z := ⟨_, rfl⟩
      have HF : Hid (S.1 = y8 ∧ (y8 = 0 → L = S.2.flatten)) := Lib.hid (by first | exact rel_end HR.out hq8 hy8 | exact hy8 ▸ rel_stop HR.out hy q7)
      have HA := Lib.hid (tbask_any HI.out q7 20)
      rw [hy8] at HA
      obtain ⟨c0, c1, f0, f1⟩ := HI.out.reads
      clear hq8 hy8 HR
      go_wp2_with fail
      refine HA.out.mono ?_
      rintro e wa ⟨rfl, hra, hia⟩
      have HRa := Lib.hid hra
      have HBa := Lib.hid (HB.out.trans (hia.belowTo (Nat.le_refl _)))
      have HOa := Lib.hid (hia.owns (by have := HBz.out; omega) HO.out)
      have HC := Lib.hid (sclone_any ⟨own.toArray⟩ wa (by rw [SO.out]; omega))
      clear hra hia HA HI HB HO c0 c1 f0 f1
      go_wp2_with fail
      refine HC.out.mono ?_
      rintro e wb ⟨rfl, hbb⟩
      have HRb : Hid (IsRd wb b t y8) := Lib.hid (HRa.out.kept (hbb.block b HRa.out.lt))
      have HBb := Lib.hid (HBa.out.trans (hbb.mono (by have := HRa.out.lt; omega)))
      have HOb := Lib.hid (tx_below HOa.out hbb)
      clear hbb HC HRa HBa HOa
      go_wp2
      go_ret
      have hbl : b < wb.heap.size := HRb.out.lt
      refine ⟨wb.heap.size, t, rfl, ?_, fun h0 => ?_, HBb.out.alloc (by omega) _⟩
      · rw [HF.out.1]
        exact HRb.out.kept (Below.heap_alloc _ _ _ hbl)
      · obtain ⟨ho, hg⟩ := HGo.out h0
        have hL := HF.out.2 (by rw [← HF.out.1]; exact h0)
        rw [ho]
        refine tab_of (B := B) (heap_alloc_new _ _) ?_ hg
        rw [← hL]
        exact HOb.out.alloc _
end Go.Proofs.YtpblllpgmibkoaaGreat
