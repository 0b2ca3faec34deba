/-
  The law CarryParts: walked.
-/
import Derived.Test.YtnjkblifikllbaaCaA
set_option linter.unusedSimpArgs false
set_option linter.unusedVariables false
namespace Go.Proofs.Ytnjkblifikllbaa
open Go.RowKit

theorem But.less {B B' c : Nat} {w w' : World} (h : But B c w w') (hB : B' ≤ B) : But B' c w w' := ⟨h.os, h.tape, h.output, h.size, fun k hk => h.block k (by omega)⟩

set_option maxHeartbeats 1000000 in
theorem carryparts_bad (n : Int) (s : ByteArray) (e : Int) (w : World) (h : 100 < s.size ∨ n < 1 ∨ 200 < n) (hm : s.size ≤ 9223372036854775807) :
    Calls Try.prog 3 #[.int .i64 n, .string s, .int .i64 e] w fun e w' => e = .returned (.bool true) ∧ Below w.heap.size w w' := by
  have H8 := Lib.hid (caawake_any w)
  by_cases h1 : 100 < s.size
  · go_enter Try.func3, Try.ntmps3
    go_wp2_with fail
    refine H8.out.mono ?_
    rintro e w' ⟨rfl, hb⟩
    go_wp2
    go_ret
    exact ⟨rfl, hb⟩
  by_cases h2 : n < 1
  · go_enter Try.func3, Try.ntmps3
    go_wp2_with fail
    refine H8.out.mono ?_
    rintro e w' ⟨rfl, hb⟩
    go_wp2
    go_ret
    exact ⟨rfl, hb⟩
  have h3 : 200 < n := by omega
  go_enter Try.func3, Try.ntmps3
  go_wp2_with fail
  refine H8.out.mono ?_
  rintro e w' ⟨rfl, hb⟩
  go_wp2
  go_ret
  exact ⟨rfl, hb⟩

/-- What an answer holds. -/
theorem tlR_is (o : Option (List UInt8)) : ∃ (T : ByteArray) (ok : Bool), cvR (tlR o) = .returned (.tuple #[.string T, .bool ok]) := by
  cases o with
  | none => exact ⟨_, _, rfl⟩
  | some l => exact ⟨_, _, rfl⟩
theorem byR_is (o : Option UInt8) : ∃ (c : Int) (ok : Bool), cvR (byR o) = .returned (.tuple #[.int .u8 c, .bool ok]) := by
  cases o with
  | none => exact ⟨_, _, rfl⟩
  | some l => exact ⟨_, _, rfl⟩

set_option maxHeartbeats 4000000 in
theorem carryparts_good (n : Nat) (s : List UInt8) (e : Int) (w : World) (hs : s.length ≤ 100) (h1 : 1 ≤ n) (h2 : n ≤ 200) :
    Calls Try.prog 3 #[.int .i64 n, .string ⟨s.toArray⟩, .int .i64 e] w fun e w' => e = .returned (.bool true) ∧ Below w.heap.size w w' := by
  have HS := Lib.hid (bsize s)
  have HA := Lib.hid (fun w => canew_w n w h1 (by omega))
  have HAw := Lib.hid caawake_any
  go_enter Try.func3, Try.ntmps3
  go_wp2_with fail
  refine (HA.out w).mono ?_
  rintro e' w1 ⟨rfl, hw1⟩
  have s1 : w1.heap.size = w.heap.size + 1 := by rw [hw1]; simp
  have g1 : w1.heap[w.heap.size]? = some (.cells #[.int .i64 n, .slice none 0 0, .int .i64 0, .int .i64 0] 38 (0, 0)) := by rw [hw1]; exact heap_alloc_new w _
  have b1 : Below w.heap.size w w1 := by rw [hw1]; exact (Below.refl _ _).alloc (Nat.le_refl _) _
  clear hw1
  go_wp2_with fail
  refine (HA.out w1).mono ?_
  rintro e' w2 ⟨rfl, hw2⟩
  have s2 : w2.heap.size = w1.heap.size + 1 := by rw [hw2]; simp
  have g2 : w2.heap[w.heap.size]? = some (.cells #[.int .i64 n, .slice none 0 0, .int .i64 0, .int .i64 0] 38 (0, 0)) := by rw [hw2, Lib.alloc_old _ _ _ (by omega)]; exact g1
  have g3 : w2.heap[w1.heap.size]? = some (.cells #[.int .i64 n, .slice none 0 0, .int .i64 0, .int .i64 0] 38 (0, 0)) := by rw [hw2]; exact heap_alloc_new w1 _
  have b2 : Below w.heap.size w w2 := by rw [hw2]; exact b1.alloc (by omega) _
  clear hw2 g1 b1 HA
  have ra : IsCarry w2 w2.heap.size w.heap.size n [] 0 := carry_new h1 (by omega) (by omega) (Nat.le_refl _) g2
  obtain ⟨A, HAA⟩ : ∃ A, Hid (w.heap.size = A) := ⟨_, Lib.hid rfl⟩
  obtain ⟨B, HBB⟩ : ∃ B, Hid (w1.heap.size = B) := ⟨_, Lib.hid rfl⟩
  rw [HAA.out] at s1 b2 ra ⊢
  rw [HBB.out] at s1 s2 g3 ⊢
  subst s1
  clear g2
  have HWA := Lib.hid (caadd_any ra s (by simp; omega))
  clear ra
  go_wp2_with fail
  refine HWA.out.mono ?_
  rintro e' w3 ⟨rfl, ra3, k3⟩
  rw [List.nil_append] at ra3
  have s3 := k3.size
  have rb3 : IsCarry w3 w3.heap.size (A + 1) n [] 0 := carry_new h1 (by omega) (by omega) (Nat.le_refl _) ((k3.block (A + 1) (by omega) (by omega)).trans g3)
  have b3 : Below A w w3 := b2.trans ((k3.below (by omega)).mono (by omega))
  have RA := Lib.hid ra3
  have RB := Lib.hid rb3
  have B3 := Lib.hid b3
  have S2 := Lib.hid s2
  have S3 := Lib.hid s3
  clear g3 k3 b2 b3 HWA ra3 rb3 s2 s3
  go_wp2
  go_loopw [11] (fun i wr => ∃ k : Nat, k ≤ s.length ∧ i = .int .i64 (k : Int) ∧ Hid (IsCarry wr w3.heap.size (A + 1) n (s.take k) k ∧ But w3.heap.size (A + 1) w3 wr)) (fun i _ => s.length - (RowKit.intOf i).toNat)
  case atStart => exact ⟨0, Nat.zero_le _, rfl, Lib.hid ⟨by simpa using RB.out, But.refl _ _ _⟩⟩
  case round =>
    obtain ⟨k, hk, rfl, HR⟩ := hrel
    by_cases hlt : k < s.length
    · have hx : (⟨s.toArray⟩ : ByteArray).extract k (k + 1) = ⟨[s[k]].toArray⟩ := by
        rw [Lib.extract_eq]
        simp only [List.extract_eq_take_drop, Nat.add_sub_cancel_left]
        congr 1
        rw [List.drop_eq_getElem_cons hlt]
        rfl
      have HP : Hid (Calls Try.prog 7 #[.pointer (some ⟨A + 1, 0, none⟩), .string ((⟨s.toArray⟩ : ByteArray).extract k (k + 1))] wr fun e w' => e = .returned (.tuple #[]) ∧ IsCarry w' w3.heap.size (A + 1) n (s.take (k + 1)) k ∧ But w3.heap.size (A + 1) wr w') := by
        rw [hx, List.take_succ_eq_append_getElem hlt]
        exact Lib.hid (caadd_any HR.out.1 [s[k]] (by simp; omega))
      have HQ : Hid (∀ w4, IsCarry w4 w3.heap.size (A + 1) n (s.take (k + 1)) k → Calls Try.prog 8 #[.pointer (some ⟨A + 1, 0, none⟩), .int .i64 ((k : Int) + 1)] w4 fun e w' => e = .returned (.int .i64 0) ∧ IsCarry w' w3.heap.size (A + 1) n (s.take (k + 1)) (k + 1) ∧ But w4.heap.size (A + 1) w4 w') :=
        Lib.hid fun w4 h => capass_any h (by simp; omega) (k + 1) (by omega) (by simp; omega)
      have HH : Hid (∀ w4, IsCarry w4 w3.heap.size (A + 1) n (s.take (k + 1)) (k + 1) → ∃ m : Nat, m ≤ n ∧ Calls Try.prog 9 #[.pointer (some ⟨A + 1, 0, none⟩)] w4 fun e w' => e = .returned (.int .i64 (m : Int)) ∧ ∃ q, w' = w4.drewN q) :=
        Lib.hid fun w4 h => ⟨_, by simp; omega, caheld_any h (by simp; omega)⟩
      clear hx
      go_wp2_with fail
      refine HP.out.mono ?_
      rintro e' w4 ⟨rfl, hi4, hb4⟩
      have R4 := Lib.hid (HQ.out w4 hi4)
      have B4 := Lib.hid (HR.out.2.trans hb4)
      clear HP HQ HR hi4 hb4
      go_wp2_with fail
      refine R4.out.mono ?_
      rintro e' w5 ⟨rfl, hi5, hb5⟩
      obtain ⟨m, hm, hc⟩ := HH.out w5 hi5
      have R5 := Lib.hid hc
      have B5 := Lib.hid (B4.out.trans (hb5.less B4.out.size))
      have I5 := Lib.hid hi5
      have hm2 : (m : Int) ≤ (n : Int) := by omega
      clear R4 B4 hi5 hb5 hc HH
      go_wp2_with fail
      refine R5.out.mono ?_
      rintro e' w6 ⟨rfl, q, rfl⟩
      go_wp2
      exact ⟨⟨k + 1, by omega, by go_num, Lib.hid ⟨I5.out.drewN q, B5.out.trans ⟨rfl, rfl, rfl, Nat.le_refl _, fun _ _ _ => rfl⟩⟩⟩, by simp [RowKit.intOf]; omega⟩
    · obtain rfl : k = s.length := by omega
      obtain ⟨hi, hb⟩ := HR.out
      rw [List.take_length] at hi
      have hia : IsCarry wr w2.heap.size A n s 0 := RA.out.apart hb (Nat.le_refl _) (by have := S2.out; omega) (by omega)
      have HP := Lib.hid (capass_any hia (by omega) s.length (by omega) (Nat.le_refl _))
      have IB := Lib.hid hi
      have BR := Lib.hid (B3.out.trans ((hb.below (by have := S2.out; have := S3.out; omega)).mono (by omega)))
      clear HR RA RB B3 hi hb hia
      go_wp2_with fail
      refine HP.out.mono ?_
      rintro e' w4 ⟨rfl, hi4, hb4⟩
      have hib := IB.out.apart hb4 (Nat.le_refl _) (show A < w3.heap.size by have := S2.out; have := S3.out; omega) (by omega)
      have B4 := Lib.hid (BR.out.trans ((hb4.below (by have := hi4.lt; have := BR.out.size; have := IB.out.lt; omega)).mono (Nat.le_refl A)))
      obtain ⟨m, hm⟩ : ∃ m : Nat, s.length - (s.length - n) = m := ⟨_, rfl⟩
      have hmn : m ≤ n := by omega
      have hmn2 : (m : Int) ≤ (n : Int) := by omega
      obtain ⟨T, ok, hT⟩ := tlR_is (tlK s s.length n e)
      obtain ⟨c, has, hc⟩ := byR_is (byK s s.length n e)
      have h1 := fun q => caheld_any (hi4.drewN q) (by omega)
      have h2 := fun q => caheld_any (hib.drewN q) (by omega)
      have h3 := fun q => catail_any (hi4.drewN q) (by omega) e
      have h4 := fun q => catail_any (hib.drewN q) (by omega) e
      have h5 := fun q => cabyte_any (hi4.drewN q) (by omega) e
      have h6 := fun q => cabyte_any (hib.drewN q) (by omega) e
      rw [hm] at h1 h2
      rw [hT] at h3 h4
      rw [hc] at h5 h6
      have P1 := Lib.hid h1
      have P2 := Lib.hid h2
      have P3 := Lib.hid h3
      have P4 := Lib.hid h4
      have P5 := Lib.hid h5
      have P6 := Lib.hid h6
      clear h1 h2 h3 h4 h5 h6 hT hc hm HP IB BR hi4 hb4 hib
      go_wp2_with fail
      refine (P1.out 0).mono ?_
      rintro e' w' ⟨rfl, q1, rfl⟩
      go_wp2_with fail
      refine (P3.out q1).mono ?_
      rintro e' w' ⟨rfl, q2, rfl⟩
      go_wp2_with fail
      refine (P4.out (q1 + q2)).mono ?_
      rintro e' w' ⟨rfl, q3, rfl⟩
      go_wp2_with fail
      refine (P5.out (q1 + q2 + q3)).mono ?_
      rintro e' w' ⟨rfl, q4, rfl⟩
      go_wp2_with fail
      refine (P6.out (q1 + q2 + q3 + q4)).mono ?_
      rintro e' w' ⟨rfl, q5, rfl⟩
      go_wp2_with fail
      refine (P1.out (q1 + q2 + q3 + q4 + q5)).mono ?_
      rintro e' w' ⟨rfl, q6, rfl⟩
      go_wp2_with fail
      refine (P2.out (q1 + q2 + q3 + q4 + q5 + q6)).mono ?_
      rintro e' w' ⟨rfl, q7, rfl⟩
      obtain ⟨w9, HW⟩ : ∃ w9, Hid (w4.drewN (q1 + q2 + q3 + q4 + q5 + q6 + q7) = w9) := ⟨_, Lib.hid rfl⟩
      have B9 : Hid (Below A w w9) := Lib.hid (by rw [← HW.out]; exact ca_drewN B4.out _)
      go_wp2_with fail
      rw [HW.out]
      refine (HAw.out w9).mono ?_
      rintro e' w' ⟨rfl, hb⟩
      have B10 := Lib.hid (B9.out.trans (hb.mono (by have := B9.out.size; rw [HAA.out] at this; exact this)))
      go_wp2
      go_ret
      refine ⟨rfl, ?_⟩
      rw [HAA.out]
      exact B10.out
end Go.Proofs.Ytnjkblifikllbaa
