/-
  book: reader's fault: walked.
-/
import Derived.Test.YtoeakmpfkbmbcaaBkR
import Derived.Test.YtoeakmpfkbmbcaaAfP
set_option linter.unusedSimpArgs false
set_option linter.unusedVariables false
namespace Go.Proofs.Ytoeakmpfkbmbcaa
open Go.RowKit

set_option maxHeartbeats 2000000 in
theorem fault_len {w : World} {B b : Nat} {L : List (List UInt8)} {s : List UInt8} (h : IsReader w B b L s) (hs : s.length ≤ 1000000000) (a : List UInt8) (x y : Int) (ha : a.length ≤ 65535) (hT : totalL L ≤ 16777216)
    (hx : 0 ≤ x) (hx2 : x ≤ 9223372036854775807) (hy : 0 ≤ y) (hy2 : y ≤ 9223372036854775807) (hE : ¬ lenE x y a.length (totalL L : Int) s.length = 0) :
    Calls Try.prog 51 #[.pointer (some ⟨b, 0, none⟩), .string ⟨a.toArray⟩, .int .i64 x, .int .i64 y] w fun e w' => e = .returned (.int .i64 (lenE x y a.length (totalL L : Int) s.length)) ∧ w' = w := by
  obtain ⟨ao, cap, c0, c1, c2, f0, f1, f2, _⟩ := h.reads
  have S1 := Lib.hid (bsize a)
  have S2 := Lib.hid (bsize s)
  generalize totalL L = T at c1 hT hE ⊢
  have h0 := Lib.hid hE
  clear h hE
  by_cases q1 : (a.length : Int) < x
  · have HE : Hid (lenE x y a.length (T : Int) s.length = 3) := Lib.hid (by unfold lenE; (repeat' split) <;> omega)
    clear h0
    go_enter Try.func51, Try.ntmps51
    go_wp2
    go_ret
    exact ⟨by rw [HE.out]; rfl, rfl⟩
  · by_cases q2 : y = 0
    · by_cases q3 : x = 0
      · have HE : Hid (lenE x y a.length (T : Int) s.length = 7) := Lib.hid (by unfold lenE; (repeat' split) <;> omega)
        clear h0
        rw [HE.out]
        subst q2 q3
        go_enter Try.func51, Try.ntmps51
        go_wp2
        go_ret
        exact ⟨rfl, rfl⟩
      · have HE : Hid (lenE x y a.length (T : Int) s.length = 9) := Lib.hid (by unfold lenE; (repeat' split) <;> omega)
        have g3 : (x == 0) = false := by simpa using q3
        clear h0
        rw [HE.out]
        subst q2
        go_enter Try.func51, Try.ntmps51
        go_wp2
        go_ret
        exact ⟨rfl, rfl⟩
    · have g2 : (y == 0) = false := by simpa using q2
      by_cases q4 : 65535 - x < y
      · have HE : Hid (lenE x y a.length (T : Int) s.length = 5) := Lib.hid (by unfold lenE; (repeat' split) <;> omega)
        clear h0
        rw [HE.out]
        by_cases q3 : x = 0
        · subst q3
          go_enter Try.func51, Try.ntmps51
          go_wp2
          go_ret
          exact ⟨rfl, rfl⟩
        · have g3 : (x == 0) = false := by simpa using q3
          go_enter Try.func51, Try.ntmps51
          go_wp2
          go_ret
          exact ⟨rfl, rfl⟩
      · have g5 : y ≤ 65535 - x := by omega
        obtain ⟨β, hβ⟩ : ∃ β, (x == 0) = β := ⟨_, rfl⟩
        by_cases q5 : 16777216 < (T : Int) + x + y
        · have HE : Hid (lenE x y a.length (T : Int) s.length = 13) := Lib.hid (by unfold lenE; (repeat' split) <;> omega)
          clear h0
          rw [HE.out]
          cases β
          · go_enter Try.func51, Try.ntmps51
            go_wp2
            go_ret
            exact ⟨rfl, rfl⟩
          · go_enter Try.func51, Try.ntmps51
            go_wp2
            go_ret
            exact ⟨rfl, rfl⟩
        · have q6 : (s.length : Int) < y := Classical.byContradiction fun hh => h0.out (by unfold lenE; (repeat' split) <;> omega)
          have HE : Hid (lenE x y a.length (T : Int) s.length = 4) := Lib.hid (by unfold lenE; (repeat' split) <;> omega)
          clear h0
          rw [HE.out]
          cases β
          · go_enter Try.func51, Try.ntmps51
            go_wp2
            go_ret
            exact ⟨rfl, rfl⟩
          · go_enter Try.func51, Try.ntmps51
            go_wp2
            go_ret
            exact ⟨rfl, rfl⟩

/-- What 'no fault in both numbers' says. -/
theorem len_ok {A B : Nat} {a : List UInt8} {T l : Nat} (h : lenE (A : Int) (B : Int) a.length (T : Int) l = 0) : A ≤ a.length ∧ 1 ≤ B ∧ A + B ≤ 65535 ∧ T + A + B ≤ 16777216 ∧ B ≤ l := by
  unfold lenE at h
  (repeat' split at h) <;> omega

theorem byte_head (s : List UInt8) (k : Nat) (h : k < s.length) (h' : k < (⟨s.toArray⟩ : ByteArray).size) : (⟨s.toArray⟩ : ByteArray)[k]'h' = s.getD k 0 := by
  rw [byteAt s k h h']
  simp [List.getD, h]

set_option maxHeartbeats 2000000 in
theorem fault_nxt {w : World} {B b : Nat} {L : List (List UInt8)} {s : List UInt8} (h : IsReader w B b L s) (hs : s.length ≤ 1000000000) (a : List UInt8) (x y : Nat) (ha : a.length ≤ 65535)
    (hE : lenE (x : Int) (y : Int) a.length (totalL L : Int) s.length = 0) :
    Calls Try.prog 51 #[.pointer (some ⟨b, 0, none⟩), .string ⟨a.toArray⟩, .int .i64 (x : Int), .int .i64 (y : Int)] w fun e w' => e = .returned (.int .i64 (nxtE a x s)) ∧ ∃ q, w' = w.drewN q := by
  obtain ⟨ao, cap, c0, c1, c2, f0, f1, f2, _⟩ := h.reads
  have S1 := Lib.hid (bsize a)
  have S2 := Lib.hid (bsize s)
  generalize totalL L = T at c1 hE ⊢
  obtain ⟨g1, g2, g3, g4, g5⟩ := len_ok hE
  clear h hE
  have p1 : (x : Int) ≤ (a.length : Int) := by omega
  have p2 : ((y : Int) == 0) = false := by simp; omega
  have p3 : (y : Int) ≤ 65535 - (x : Int) := by omega
  have p4 : (T : Int) + (x : Int) + (y : Int) ≤ 16777216 := by omega
  have p5 : (y : Int) ≤ (s.length : Int) := by omega
  obtain ⟨β, hβ⟩ : ∃ β, ((x : Int) == 0) = β := ⟨_, rfl⟩
  by_cases hx : x = a.length
  · have HE : Hid (nxtE a x s = 0) := Lib.hid (by unfold nxtE; rw [if_neg (by omega)])
    have p6 : ((x : Int) == (a.length : Int)) = true := by rw [hx]; simp
    rw [HE.out]
    clear hx g1 g2 g3 g4 g5
    cases β
    · go_enter Try.func51, Try.ntmps51
      go_wp2
      go_ret
      exact ⟨rfl, 0, rfl⟩
    · go_enter Try.func51, Try.ntmps51
      go_wp2
      go_ret
      exact ⟨rfl, 0, rfl⟩
  · have p6 : ((x : Int) == (a.length : Int)) = false := by simp; omega
    have p7 : x < a.length := by omega
    have p8 : 0 < s.length := by omega
    have z1 : x < (⟨a.toArray⟩ : ByteArray).size := by rw [bsize]; omega
    have z2 : 0 < (⟨s.toArray⟩ : ByteArray).size := by rw [bsize]; omega
    have HA := byte_head a x (by omega) z1
    have HB := byte_head s 0 (by omega) z2
    have HN : Hid (nxtE a x s = if s.getD 0 0 = a.getD x 0 then 3 else if s.getD 0 0 < a.getD x 0 then 9 else 0) := Lib.hid (by unfold nxtE; rw [if_pos p7])
    have p9 : (x : Int) < (a.length : Int) := by omega
    generalize s.getD 0 0 = c at HB HN
    generalize a.getD x 0 = d at HA HN
    clear hx g1 g2 g3 g4 g5
    by_cases r1 : c = d
    · have HE : Hid (nxtE a x s = 3) := Lib.hid (by rw [HN.out, if_pos r1])
      have hq : (((((⟨s.toArray⟩ : ByteArray)[0]'z2).toNat : Int)) == ((((⟨a.toArray⟩ : ByteArray)[x]'z1).toNat : Int))) = true := by rw [HA, HB, r1]; simp
      rw [HE.out]
      clear HA HB HN r1
      cases β
      · go_enter Try.func51, Try.ntmps51
        go_wp2_with fail
        go_quiet (fail)
        go_wp2
        go_ret
        exact ⟨rfl, _, rfl⟩
      · go_enter Try.func51, Try.ntmps51
        go_wp2_with fail
        go_quiet (fail)
        go_wp2
        go_ret
        exact ⟨rfl, _, rfl⟩
    · have hq : (((((⟨s.toArray⟩ : ByteArray)[0]'z2).toNat : Int)) == ((((⟨a.toArray⟩ : ByteArray)[x]'z1).toNat : Int))) = false := by
        rw [HA, HB]
        simp only [beq_eq_false_iff_ne, ne_eq]
        exact fun e => r1 (UInt8.toNat_inj.1 (by omega))
      by_cases r2 : c < d
      · have HE : Hid (nxtE a x s = 9) := Lib.hid (by rw [HN.out, if_neg r1, if_pos r2])
        have hr : (((⟨s.toArray⟩ : ByteArray)[0]'z2).toNat : Int) < (((⟨a.toArray⟩ : ByteArray)[x]'z1).toNat : Int) := by
          rw [HA, HB]; have := UInt8.lt_iff_toNat_lt.1 r2; omega
        rw [HE.out]
        clear HA HB HN r1
        cases β
        · go_enter Try.func51, Try.ntmps51
          go_wp2_with fail
          go_quiet (fail)
          go_wp2_with fail
          go_quiet (fail)
          go_wp2
          go_ret
          exact ⟨rfl, _, drew_all _ _ _⟩
        · go_enter Try.func51, Try.ntmps51
          go_wp2_with fail
          go_quiet (fail)
          go_wp2_with fail
          go_quiet (fail)
          go_wp2
          go_ret
          exact ⟨rfl, _, drew_all _ _ _⟩
      · have HE : Hid (nxtE a x s = 0) := Lib.hid (by rw [HN.out, if_neg r1, if_neg r2])
        have hr : ¬ (((⟨s.toArray⟩ : ByteArray)[0]'z2).toNat : Int) < (((⟨a.toArray⟩ : ByteArray)[x]'z1).toNat : Int) := by
          rw [HA, HB]; have := UInt8.not_lt.1 r2; have := UInt8.le_iff_toNat_le.1 this; omega
        rw [HE.out]
        clear HA HB HN r1
        cases β
        · go_enter Try.func51, Try.ntmps51
          go_wp2_with fail
          go_quiet (fail)
          go_wp2_with fail
          go_quiet (fail)
          go_wp2
          go_ret
          exact ⟨rfl, _, drew_all _ _ _⟩
        · go_enter Try.func51, Try.ntmps51
          go_wp2_with fail
          go_quiet (fail)
          go_wp2_with fail
          go_quiet (fail)
          go_wp2
          go_ret
          exact ⟨rfl, _, drew_all _ _ _⟩
end Go.Proofs.Ytoeakmpfkbmbcaa
