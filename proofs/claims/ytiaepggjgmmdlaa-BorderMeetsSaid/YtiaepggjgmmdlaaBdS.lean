/-
  The document's own answers for layer 8: Period, Whole, Reach, Find: walked.
-/
import Derived.Test.YtiaepggjgmmdlaaBdR
set_option linter.unusedSimpArgs false
set_option linter.unusedVariables false
namespace Go.Proofs.Ytiaepggjgmmdlaa
open Go.RowKit

set_option maxHeartbeats 1000000 in
theorem rperiod_any (l : List UInt8) (w : World) (h : l.length ≤ 100000000) :
    Calls Try.prog 13 #[.string ⟨l.toArray⟩] w fun e w' => e = .returned (.int .i64 (per l : Int)) ∧ Below w.heap.size w w' := by
  have HS := Lib.hid (bsize l)
  have HP : Hid (1 ≤ per l ∨ l.length = 0) := Lib.hid (by
    rcases Nat.eq_zero_or_pos l.length with h | h
    · exact .inr h
    · exact .inl (per_pos h))
  have HP2 : Hid (per l ≤ l.length) := Lib.hid (Nat.sub_le _ _)
  go_enter Try.func13, Try.ntmps13
  go_wp2
  go_loopw [3] (fun i wr => ∃ p : Nat, 1 ≤ p ∧ i = .int .i64 p ∧ Hid (p ≤ per l ∨ l.length = 0) ∧ Below w.heap.size w wr) (fun i _ => l.length + 1 - (RowKit.intOf i).toNat)
  case atStart => exact ⟨1, Nat.le_refl _, rfl, HP, Below.refl _ _⟩
  case round =>
    obtain ⟨p, hp1, rfl, HW, hbe⟩ := hrel
    by_cases hlt : p ≤ l.length
    · have hpp : Hid (p ≤ per l) := Lib.hid (by
        rcases HW.out with h | h
        · exact h
        · omega)
      have x1 := ext_rest l p
      have x2 := ext_front l (l.length - p)
      have g1 : (p : Int) ≤ (l.length : Int) := by omega
      have g2 : ((l.length : Int) - (p : Int)).toNat = l.length - p := by omega
      cases hq : (l.drop p == l.take (l.length - p)) with
      | true =>
        have HR : Hid (per l = p) := Lib.hid (per_hit hp1 hpp.out (by simpa using hq)).symm
        clear HW hpp HP HP2
        go_wp2_with fail
        go_quiet (fail)
        go_wp2
        go_ret
        exact ⟨by rw [HR.out]; rfl, below_drewS hbe _⟩
      | false =>
        have HR : Hid (p + 1 ≤ per l ∨ l.length = 0) := Lib.hid (.inl (per_miss hpp.out (by simpa using hq)))
        clear HW hpp HP HP2
        go_wp2_with fail
        go_quiet (fail)
        go_wp2
        exact ⟨⟨p + 1, by omega, by go_num, HR, below_drewS hbe _⟩, by simp [RowKit.intOf]; omega⟩
    · have HR : Hid (per l = 0) := Lib.hid (by
        have := HW.out; have := HP2.out; omega)
      clear HW HP HP2
      go_wp2
      go_ret
      exact ⟨by rw [HR.out]; rfl, hbe⟩

/-- A string's length. -/
def slen : Value → Nat
  | .string b => b.size
  | _ => 0

set_option maxHeartbeats 1000000 in
theorem rwhole_any (l : List UInt8) (w : World) (h : l.length ≤ 100000000) :
    Calls Try.prog 15 #[.string ⟨l.toArray⟩] w fun e w' => e = .returned (.bool (wholeB l)) ∧ Below w.heap.size w w' := by
  have HS := Lib.hid (bsize l)
  go_enter Try.func15, Try.ntmps15
  go_wp2
  go_loopw [3, 4] (fun i x wr => ∃ n : Nat, 1 ≤ n ∧ i = .int .i64 n ∧ Hid (∀ m, 1 ≤ m → m < n → wn l m = false) ∧ Below w.heap.size w wr) (fun i _ _ => l.length + 1 - (RowKit.intOf i).toNat)
  case atStart => exact ⟨1, Nat.le_refl _, rfl, Lib.hid (fun m h1 h2 => by omega), Below.refl _ _⟩
  case round =>
    obtain ⟨n, hn1, rfl, HW, hbe⟩ := hrel
    by_cases hlt : n < l.length
    · have x1 := ext_front l n
      have hul := len_take l (show n ≤ l.length by omega)
      have HS2 := Lib.hid (bsize (l.take n))
      go_wp2
      obtain ⟨W1, h⟩ : ∃ W1, W1 = wr := ⟨_, rfl⟩
      subst h
      go_loopw [4] (fun x wr2 => ∃ (j : Nat) (cur : List UInt8), x = .string ⟨cur.toArray⟩ ∧ Hid (cur = rep (l.take n) j) ∧ Hid (cur.length = j * n ∧ (j = 0 ∨ (j - 1) * n < l.length)) ∧ cur.length < l.length + n ∧ W1 = wr2) (fun x _ => l.length - slen x)
      case atStart => exact ⟨0, [], rfl, Lib.hid rfl, Lib.hid ⟨by simp, .inl rfl⟩, by simp; omega, rfl⟩
      case round =>
        obtain ⟨j, cur, rfl, HC, HJ, hcl, rfl⟩ := hrel
        have S1 := bsize cur
        by_cases hq : cur.length < l.length
        · have HC2 : Hid (cur ++ l.take n = rep (l.take n) (j + 1)) := Lib.hid (by rw [HC.out]; rfl)
          have HJ2 : Hid ((cur ++ l.take n).length = (j + 1) * n ∧ (j + 1 = 0 ∨ (j + 1 - 1) * n < l.length)) := Lib.hid (by
            rw [List.length_append, hul, Nat.add_mul, Nat.one_mul, HJ.out.1, Nat.add_sub_cancel, ← HJ.out.1]
            exact ⟨rfl, .inr hq⟩)
          have S2 := bsize (l.take n)
          have hm : l.length - (cur.length + n) < l.length - cur.length := by omega
          clear HC HJ HW
          go_wp2
          refine ⟨⟨j + 1, cur ++ l.take n, by simp [ByteArray.mk_append_mk], HC2, HJ2, by rw [List.length_append, hul]; omega, trivial⟩, ?_⟩
          simp [slen, hul]; omega
        · have hle : l.length ≤ cur.length := by omega
          have HQ : Hid ((cur == l) = wn l n) := Lib.hid (by
            rw [HC.out]
            exact rep_is hn1 (by omega) (by rw [← HJ.out.1]; exact hle) HJ.out.2)
          cases hw : wn l n with
          | true =>
            have HR : Hid (wholeB l = true) := Lib.hid (whole_true hn1 hlt hw)
            have he : (cur == l) = true := by rw [HQ.out, hw]
            clear HQ HC HJ HW hw
            go_wp2
            go_ret
            exact ⟨by rw [HR.out]; rfl, hbe⟩
          | false =>
            have HR : Hid (∀ m, 1 ≤ m → m < n + 1 → wn l m = false) := Lib.hid (fun m h1 h2 => by
              by_cases e : m = n
              · rw [e]; exact hw
              · exact HW.out m h1 (by omega))
            have he : (cur == l) = false := by rw [HQ.out, hw]
            clear HQ HC HJ HW hw
            go_wp2
            exact ⟨⟨n + 1, by omega, by go_num, HR, hbe⟩, by simp [RowKit.intOf]; omega⟩
    · have HR : Hid (wholeB l = false) := Lib.hid (whole_false (fun m h1 h2 => HW.out m h1 (by omega)))
      clear HW
      go_wp2
      go_ret
      exact ⟨by rw [HR.out]; rfl, hbe⟩

set_option maxHeartbeats 1000000 in
theorem rreach_any (a b : List UInt8) (w : World) (ha : a.length ≤ 100000000) (hb : b.length ≤ 100000000) :
    Calls Try.prog 17 #[.string ⟨a.toArray⟩, .string ⟨b.toArray⟩] w fun e w' => e = .returned (.int .i64 (endK b a : Int)) ∧ Below w.heap.size w w' := by
  have S1 := Lib.hid (bsize a)
  have S2 := Lib.hid (bsize b)
  have HE := Lib.hid (rch_is a b)
  generalize endK b a = E at HE
  go_enter Try.func17, Try.ntmps17
  go_wp2
  go_loopw [5] (fun i wr => ∃ n : Nat, n ≤ b.length ∧ i = .int .i64 n ∧ Hid (mx (rc a b) n = E) ∧ Below w.heap.size w wr) (fun i _ => (RowKit.intOf i).toNat)
  case atStart => exact ⟨b.length, Nat.le_refl _, rfl, HE, Below.refl _ _⟩
  case round =>
    obtain ⟨n, hn, rfl, HW, hbe⟩ := hrel
    by_cases h0 : 0 < n
    · have g0 : (0 : Int) < (n : Int) := by omega
      have hm : Hid (rc a b n = false → mx (rc a b) (n - 1) = E) := Lib.hid (fun h => by
        have := HW.out
        rw [show n = (n - 1) + 1 by omega, mx_next, if_neg (by rw [show n - 1 + 1 = n by omega, h]; decide)] at this
        exact this)
      have hm2 : ((n - 1 : Nat) : Int) = (n : Int) - 1 := by omega
      by_cases hle : n ≤ a.length
      · have HB : Hid (rc a b n = (a.drop (a.length - n) == b.take n)) := Lib.hid (by unfold rc; rw [decide_eq_true hle, Bool.true_and])
        have x1 := ext_rest a (a.length - n)
        have x2 := ext_front b n
        have g1 : (n : Int) ≤ (a.length : Int) := by omega
        have g2 : ((a.length : Int) - (n : Int)).toNat = a.length - n := by omega
        have g3 : (n : Int) ≤ (b.length : Int) := by omega
        cases hq : (a.drop (a.length - n) == b.take n) with
        | true =>
          have HR : Hid (E = n) := Lib.hid (by
            have := HW.out
            rw [show n = (n - 1) + 1 by omega, mx_next, if_pos (by rw [show n - 1 + 1 = n by omega, HB.out, hq])] at this
            omega)
          clear HW HE hm HB
          go_wp2_with fail
          go_quiet (fail)
          go_wp2
          go_ret
          exact ⟨by rw [HR.out]; rfl, below_drewS hbe _⟩
        | false =>
          have HR : Hid (mx (rc a b) (n - 1) = E) := Lib.hid (hm.out (by rw [HB.out, hq]))
          clear HW HE hm HB
          go_wp2_with fail
          go_quiet (fail)
          go_wp2
          exact ⟨⟨n - 1, by omega, by rw [hm2], HR, below_drewS hbe _⟩, by simp [RowKit.intOf]; omega⟩
      · have HR : Hid (mx (rc a b) (n - 1) = E) := Lib.hid (hm.out (by unfold rc; rw [decide_eq_false hle]; rfl))
        have g1 : ¬ (n : Int) ≤ (a.length : Int) := by omega
        have g2 : decide ((n : Int) ≤ (a.length : Int)) = false := decide_eq_false g1
        clear HW HE hm
        go_wp2_with fail
        go_quiet (fail)
        go_wp2
        exact ⟨⟨n - 1, by omega, by rw [hm2], HR, below_drewS hbe _⟩, by simp [RowKit.intOf]; omega⟩
    · obtain rfl : n = 0 := by omega
      have HR : Hid (E = 0) := Lib.hid (by rw [← HW.out]; rfl)
      clear HW HE
      go_wp2
      go_ret
      exact ⟨by rw [HR.out]; rfl, hbe⟩
end Go.Proofs.Ytiaepggjgmmdlaa
