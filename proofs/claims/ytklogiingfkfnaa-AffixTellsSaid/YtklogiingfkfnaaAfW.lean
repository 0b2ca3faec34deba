/-
  affix: Prefix, Suffix, Begins, Ends, Compare, walked.
-/
import Derived.Test.YtklogiingfkfnaaAfM
import Derived.Test.YtklogiingfkfnaaStr
import Derived.Test.YtklogiingfkfnaaShelf
import Derived.Lib.MinMax
set_option linter.unusedSimpArgs false
set_option linter.unusedVariables false
namespace Go.Proofs.Ytklogiingfkfnaa
open Go.RowKit

/-- An answer; some draws. -/
def Drew (v : Value) (w : World) (e : Ending) (w' : World) : Prop := e = .returned v ∧ ∃ q, w' = w.drewN q
theorem Drew.below {v : Value} {w : World} {e : Ending} {w' : World} (h : Drew v w e w') : e = .returned v ∧ Below w.heap.size w w' := by
  obtain ⟨he, q, rfl⟩ := h
  exact ⟨he, below_drewS (Below.refl _ _) q⟩

theorem least_eq (a b : List UInt8) : ∃ m : Nat, min (a.length : Int) (b.length : Int) = (m : Int) ∧ m ≤ a.length ∧ m ≤ b.length ∧ (m = a.length ∨ m = b.length) :=
  ⟨min a.length b.length, by omega, by omega, by omega, by omega⟩

theorem drew_all (w : World) (n m : Nat) : (w.drewN n).drewN m = w.drewN (n + m) := by simp [World.drewN, Nat.add_assoc]

set_option maxHeartbeats 1000000 in
theorem prefix_draws (a b : List UInt8) (w : World) (ha : a.length ≤ 1000000000) (hb : b.length ≤ 1000000000) :
    Calls Try.prog 9 #[.string ⟨a.toArray⟩, .string ⟨b.toArray⟩] w (Drew (.int .i64 (preL a b : Int)) w) := by
  have S1 := Lib.hid (bsize a)
  have S2 := Lib.hid (bsize b)
  obtain ⟨m, hm, hma, hmb, hme⟩ := least_eq a b
  have HM := Lib.hid hme
  clear hme
  go_enter Try.func9, Try.ntmps9
  go_wp2
  go_loopw [13] (fun i wr => ∃ k : Nat, k ≤ m ∧ i = .int .i64 k ∧ Hid (∀ i, i < k → a[i]? = b[i]?) ∧ ∃ q, wr = w.drewN q) (fun i _ => m - (RowKit.intOf i).toNat)
  case atStart => exact ⟨0, Nat.zero_le _, rfl, Lib.hid (fun i h => absurd h (Nat.not_lt_zero _)), 0, rfl⟩
  case round =>
    obtain ⟨k, hk, rfl, HK, q, rfl⟩ := hrel
    by_cases hlt : k < m
    · have g1 : (k : Int) < (m : Int) := by omega
      have g2 : k < a.length := by omega
      have g3 : k < b.length := by omega
      have hza : k < (⟨a.toArray⟩ : ByteArray).size := by rw [bsize]; omega
      have hzb : k < (⟨b.toArray⟩ : ByteArray).size := by rw [bsize]; omega
      have HA := byteAt a k (by omega) hza
      have HB := byteAt b k (by omega) hzb
      have ea : a[k]? = some a[k] := List.getElem?_eq_getElem (by omega)
      have eb : b[k]? = some b[k] := List.getElem?_eq_getElem (by omega)
      by_cases hc : a[k] = b[k]
      · have HN : Hid (∀ i, i < k + 1 → a[i]? = b[i]?) := Lib.hid (fun i hi => by
          rcases Nat.lt_succ_iff_lt_or_eq.1 hi with h | h
          · exact HK.out i h
          · subst h; rw [ea, eb, hc])
        have hq : (((((⟨a.toArray⟩ : ByteArray)[k]'hza).toNat : Int)) = ((((⟨b.toArray⟩ : ByteArray)[k]'hzb).toNat : Int))) := by rw [HA, HB, hc]
        clear HA HB HK ea eb hc
        go_wp2_with fail
        go_quiet (fail)
        go_wp2
        exact ⟨⟨k + 1, by omega, by go_num, HN, _, rfl⟩, by simp [RowKit.intOf]; omega⟩
      · have HE : Hid (preL a b = k) := Lib.hid (preL_is a b k (by omega) (by omega) HK.out (.inr (.inr (by rw [ea, eb]; simpa using hc))))
        have hq : ¬ (((((⟨a.toArray⟩ : ByteArray)[k]'hza).toNat : Int)) = ((((⟨b.toArray⟩ : ByteArray)[k]'hzb).toNat : Int))) := by
          rw [HA, HB]
          exact fun e => hc (UInt8.toNat_inj.1 (by omega))
        clear HA HB HK ea eb hc
        go_wp2_with fail
        go_quiet (fail)
        go_wp2
        go_ret
        exact ⟨by rw [HE.out]; rfl, _, drew_all _ _ _⟩
    · obtain rfl : k = m := by omega
      have HE : Hid (preL a b = k) := Lib.hid (preL_is a b k hma hmb HK.out (by rcases HM.out with h | h; exact .inl h; exact .inr (.inl h)))
      clear HK
      go_wp2
      go_ret
      exact ⟨by rw [HE.out]; rfl, _, rfl⟩

theorem prefix_any (a b : List UInt8) (w : World) (ha : a.length ≤ 1000000000) (hb : b.length ≤ 1000000000) :
    Calls Try.prog 9 #[.string ⟨a.toArray⟩, .string ⟨b.toArray⟩] w fun e w' => e = .returned (.int .i64 (preL a b : Int)) ∧ Below w.heap.size w w' :=
  (prefix_draws a b w ha hb).mono fun _ _ h => h.below

theorem cut_at (a : List UInt8) (n j : Nat) (h : n ≤ a.length) (hj : j < n) : (a.drop (a.length - n))[n - 1 - j]? = a[a.length - 1 - j]? := by
  rw [List.getElem?_drop]; congr 1; omega

set_option maxHeartbeats 2000000 in
theorem suffix_any (a b : List UInt8) (w : World) (ha : a.length ≤ 1000000000) (hb : b.length ≤ 1000000000) :
    Calls Try.prog 10 #[.string ⟨a.toArray⟩, .string ⟨b.toArray⟩] w fun e w' => e = .returned (.int .i64 (sufL a b : Int)) ∧ Below w.heap.size w w' := by
  have S1 := Lib.hid (bsize a)
  have S2 := Lib.hid (bsize b)
  obtain ⟨n, hm, hna, hnb, hne⟩ := least_eq a b
  have HM := Lib.hid hm
  have HE := Lib.hid hne
  have HCA := Lib.hid (fun j (hj : j < n) => cut_at a n j hna hj)
  have HCB := Lib.hid (fun j (hj : j < n) => cut_at b n j hnb hj)
  clear hne hm
  have x1 := ext_rest a (a.length - n)
  have x2 := ext_rest b (b.length - n)
  have g1 : (n : Int) ≤ (a.length : Int) := by omega
  have g2 : ((a.length : Int) - (n : Int)).toNat = a.length - n := by omega
  have g3 : (n : Int) ≤ (b.length : Int) := by omega
  have g4 : ((b.length : Int) - (n : Int)).toNat = b.length - n := by omega
  have hal : (a.drop (a.length - n)).length = n := by rw [List.length_drop]; omega
  have hbl : (b.drop (b.length - n)).length = n := by rw [List.length_drop]; omega
  go_enter Try.func10, Try.ntmps10
  go_wp2_with fail
  rw [HM.out]
  go_quiet (fail)
  go_wp2_with fail
  clear x1 x2 g1 g2 g3 g4
  generalize a.drop (a.length - n) = u at hal HCA
  generalize b.drop (b.length - n) = v at hbl HCB
  have hb0 := below_drewS (Below.refl w.heap.size w) nq
  go_loopw [25] (fun i wr => ∃ k : Nat, k ≤ n ∧ i = .int .i64 k ∧ Hid (∀ i, i < k → a[a.length - 1 - i]? = b[b.length - 1 - i]?) ∧ Below w.heap.size w wr) (fun i _ => n - (RowKit.intOf i).toNat)
  case atStart => exact ⟨0, Nat.zero_le _, rfl, Lib.hid (fun i h => absurd h (Nat.not_lt_zero _)), hb0⟩
  case round =>
    obtain ⟨k, hk, rfl, HK, hbe⟩ := hrel
    by_cases hlt : k < n
    · have g1 : (k : Int) < (n : Int) := by omega
      obtain ⟨j, hj⟩ : ∃ j, n - 1 - k = j := ⟨_, rfl⟩
      have w1 : IntKind.i64.wrap ((n : Int) - 1) = (n : Int) - 1 := by rw [IntKind.wrap_i64]; omega
      have w2 : IntKind.i64.wrap ((n : Int) - 1 - (k : Int)) = (j : Int) := by rw [IntKind.wrap_i64]; omega
      have g3 : j < n := by omega
      have hza : j < (⟨u.toArray⟩ : ByteArray).size := by rw [bsize]; omega
      have hzb : j < (⟨v.toArray⟩ : ByteArray).size := by rw [bsize]; omega
      have HA := byteAt u j (by omega) hza
      have HB := byteAt v j (by omega) hzb
      have ea : a[a.length - 1 - k]? = some u[j] := by rw [← HCA.out k hlt, hj]; exact List.getElem?_eq_getElem (by omega)
      have eb : b[b.length - 1 - k]? = some v[j] := by rw [← HCB.out k hlt, hj]; exact List.getElem?_eq_getElem (by omega)
      by_cases hc : u[j] = v[j]
      · have HN : Hid (∀ i, i < k + 1 → a[a.length - 1 - i]? = b[b.length - 1 - i]?) := Lib.hid (fun i hi => by
          rcases Nat.lt_succ_iff_lt_or_eq.1 hi with h | h
          · exact HK.out i h
          · subst h; rw [ea, eb, hc])
        have hq : (((((⟨u.toArray⟩ : ByteArray)[j]'hza).toNat : Int)) = ((((⟨v.toArray⟩ : ByteArray)[j]'hzb).toNat : Int))) := by rw [HA, HB, hc]
        clear HA HB HK ea eb hc hj
        go_wp2_with fail
        go_quiet (fail)
        go_wp2
        exact ⟨⟨k + 1, by omega, by go_num, HN, below_drewS hbe _⟩, by simp [RowKit.intOf]; omega⟩
      · have HF : Hid (sufL a b = k) := Lib.hid (sufL_is a b k (by omega) (by omega) HK.out (.inr (.inr (by rw [ea, eb]; simpa using hc))))
        have hq : ¬ (((((⟨u.toArray⟩ : ByteArray)[j]'hza).toNat : Int)) = ((((⟨v.toArray⟩ : ByteArray)[j]'hzb).toNat : Int))) := by
          rw [HA, HB]
          exact fun e => hc (UInt8.toNat_inj.1 (by omega))
        clear HA HB HK ea eb hc hj
        go_wp2_with fail
        go_quiet (fail)
        go_wp2
        go_ret
        exact ⟨by rw [HF.out]; rfl, below_drewS hbe _⟩
    · obtain rfl : k = n := by omega
      have HF : Hid (sufL a b = k) := Lib.hid (sufL_is a b k hna hnb HK.out (by rcases HE.out with h | h; exact .inl h; exact .inr (.inl h)))
      clear HK
      go_wp2
      go_ret
      exact ⟨by rw [HF.out]; rfl, hbe⟩

theorem bool_pre (a b : List UInt8) : Lib.hasPrefix a b = decide ((preL a b : Int) = (b.length : Int)) := by
  rw [Bool.eq_iff_iff]
  simp only [Lib.hasPrefix, List.isPrefixOf_iff_prefix, decide_eq_true_eq]
  rw [← preL_whole]; omega
theorem bool_suf (a b : List UInt8) : Lib.hasSuffix a b = decide ((sufL a b : Int) = (b.length : Int)) := by
  rw [Bool.eq_iff_iff]
  simp only [Lib.hasSuffix, List.isSuffixOf_iff_suffix, decide_eq_true_eq]
  rw [← sufL_whole]; omega

set_option maxHeartbeats 1000000 in
theorem begins_any (a b : List UInt8) (w : World) :
    Calls Try.prog 11 #[.string ⟨a.toArray⟩, .string ⟨b.toArray⟩] w fun e w' => e = .returned (.bool (Lib.hasPrefix a b)) ∧ w' = w := by
  have h := Try.strings_HasPrefix ⟨a.toArray⟩ ⟨b.toArray⟩ w
  simp only at h
  generalize Lib.hasPrefix a b = r at h ⊢
  have H := Lib.hid h
  clear h
  go_enter Try.func11, Try.ntmps11
  go_wp2_with fail
  refine H.out.mono ?_
  rintro e w' ⟨rfl, rfl⟩
  go_wp2
  go_ret
  exact ⟨rfl, rfl⟩

set_option maxHeartbeats 1000000 in
theorem ends_any (a b : List UInt8) (w : World) (ha : a.length ≤ 1000000000) :
    Calls Try.prog 12 #[.string ⟨a.toArray⟩, .string ⟨b.toArray⟩] w fun e w' => e = .returned (.bool (Lib.hasSuffix a b)) ∧ w' = w := by
  have h := Try.strings_HasSuffix ⟨a.toArray⟩ ⟨b.toArray⟩ w (by rw [bsize]; omega)
  simp only at h
  generalize Lib.hasSuffix a b = r at h ⊢
  have H := Lib.hid h
  clear h
  go_enter Try.func12, Try.ntmps12
  go_wp2_with fail
  refine H.out.mono ?_
  rintro e w' ⟨rfl, rfl⟩
  go_wp2
  go_ret
  exact ⟨rfl, rfl⟩

set_option maxHeartbeats 1000000 in
theorem compare_any (a b : List UInt8) (w : World) :
    Calls Try.prog 13 #[.string ⟨a.toArray⟩, .string ⟨b.toArray⟩] w fun e w' => e = .returned (.int .i64 (Lib.compareBytes a b)) ∧ w' = w := by
  have h := Try.strings_Compare ⟨a.toArray⟩ ⟨b.toArray⟩ w
  simp only at h
  generalize Lib.compareBytes a b = r at h ⊢
  have H := Lib.hid h
  clear h
  go_enter Try.func13, Try.ntmps13
  go_wp2_with fail
  refine H.out.mono ?_
  rintro e w' ⟨rfl, rfl⟩
  go_wp2
  go_ret
  exact ⟨rfl, rfl⟩
end Go.Proofs.Ytklogiingfkfnaa
