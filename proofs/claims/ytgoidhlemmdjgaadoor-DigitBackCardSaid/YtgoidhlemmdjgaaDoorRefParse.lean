/-
  The document's own Parse, walked.
-/
import Derived.Test.YtgoidhlemmdjgaaDoorRefForm
set_option linter.unusedSimpArgs false
set_option linter.unusedVariables false
namespace Go.Proofs.YtgoidhlemmdjgaaDoor
open Go.RowKit

theorem refParse_bad (l : List UInt8) (least most : Int) (w : World) (hlen : l.length ≤ 9223372036854775000) (hf : formB l = false) :
    Calls Tryd.prog 7 #[.string ⟨l.toArray⟩, .int .i64 least, .int .i64 most] w (RetP (parN l least most) (parE l least most) w) := by
  have HF := Lib.hid hf
  obtain ⟨e1, e2⟩ := par_form l least most hf
  rw [e1, e2]
  clear e1 e2 hf
  go_enter Tryd.func7, Tryd.ntmps7
  go_wp2_with (go_at_call 13; refine (refForm_any _ _ _ hlen HF).mono ?_; rintro e w' ⟨rfl, rfl⟩)
  go_ret2
  exact ⟨rfl, rfl⟩

set_option maxHeartbeats 2000000 in
theorem refParse_good (l : List UInt8) (least most : Int) (w : World) (hlen : l.length ≤ 9223372036854775000) (hf : formB l = true) :
    Calls Tryd.prog 7 #[.string ⟨l.toArray⟩, .int .i64 least, .int .i64 most] w (RetP (parN l least most) (parE l least most) w) := by
  have HF := Lib.hid hf
  have HD := Lib.hid (form_digits l hf)
  have hl0 := form_pos l hf
  have HNB := Lib.hid (noSign_body l HD.out)
  clear hf
  go_enter Tryd.func7, Tryd.ntmps7
  go_wp2_with (go_at_call 13; refine (refForm_any _ _ _ hlen HF).mono ?_; rintro e w' ⟨rfl, rfl⟩)
  go_loop [8, 9] (fun n i => ∃ k m : Nat, k ≤ l.length ∧ i = .int .i64 k ∧ n = .int .i64 (-(m : Int)) ∧ Hid (mag (noSign (l.take k)) = m) ∧ m ≤ 9223372036854775808) (fun _ i => l.length - (RowKit.intOf i).toNat)
  case atStart => exact ⟨0, 0, Nat.zero_le _, rfl, rfl, Lib.hid (by simp [noSign, mag]), by omega⟩
  case round =>
    obtain ⟨k, m, hk, rfl, rfl, hm, hml⟩ := hrel
    by_cases hlt : k < l.length
    · have hsz : k < (⟨l.toArray⟩ : ByteArray).size := by rw [bsize l]; exact hlt
      have ha := byteAt l k hlt hsz
      have hst := noSign_step l k hlt
      by_cases hc : l[k] = 45
      · have hq : ((((⟨l.toArray⟩ : ByteArray)[k]'hsz).toNat : Int) == 45) = true := by rw [ha, hc]; rfl
        have HM := Lib.hid (show mag (noSign (l.take (k + 1))) = m by rw [hst, if_pos hc]; exact hm.out)
        clear ha hst hc hm
        go_wp2
        exact ⟨⟨k + 1, m, by omega, by go_num, rfl, HM, hml⟩, by simp [RowKit.intOf]; omega⟩
      · have hg : isDig l[k] = true := (digit_or_sign l HD.out k hlt).resolve_left hc
        obtain ⟨hd1, hd2⟩ := (isDig_iff _).1 hg
        rw [← ha] at hd1 hd2
        have hq : ((((⟨l.toArray⟩ : ByteArray)[k]'hsz).toNat : Int) == 45) = false := by rw [beq_eq_false_iff_ne]; omega
        have hmg : mag (noSign (l.take (k + 1))) = 10 * m + (((⟨l.toArray⟩ : ByteArray)[k]'hsz).toNat - 48) := by rw [hst, if_neg hc, mag_snoc, hm.out, ha]
        by_cases ho : lim < 10 * m + (((⟨l.toArray⟩ : ByteArray)[k]'hsz).toNat - 48)
        · have HV := Lib.hid (val_over l (by
            have h1 := mag_prefix l (k + 1)
            rw [hmg, HNB.out] at h1
            omega))
          have HP := Lib.hid (par_range l least most HF.out (.inl HV.out.2))
          have hcase := (edge_iff m _ (by omega : ((⟨l.toArray⟩ : ByteArray)[k]'hsz).toNat - 48 ≤ 9)).2 ho
          clear ha hst hmg hm ho hg
          rcases hcase with h1 | ⟨h1, h2⟩
          · go_wp2
            go_ret2
            exact ⟨by rw [HP.out.1, HP.out.2]; rfl, rfl⟩
          · have h3 : ¬ (-(m : Int) < -922337203685477580) := by omega
            have h4 : (-(m : Int) == -922337203685477580) = true := by rw [beq_iff_eq]; omega
            have h5 : 8 < (((⟨l.toArray⟩ : ByteArray)[k]'hsz).toNat : Int) - 48 := by omega
            clear h1 h2
            go_wp2
            go_ret2
            exact ⟨by rw [HP.out.1, HP.out.2]; rfl, rfl⟩
        · have hcase := fun h => ho ((edge_iff m _ (by omega : ((⟨l.toArray⟩ : ByteArray)[k]'hsz).toNat - 48 ≤ 9)).1 h)
          have hlim : 10 * (m : Int) + ((((⟨l.toArray⟩ : ByteArray)[k]'hsz).toNat : Int) - 48) ≤ 9223372036854775808 := by
            unfold lim at ho; omega
          have HM := Lib.hid hmg
          have h3 : ¬ (-(m : Int) < -922337203685477580) := by
            intro h; exact hcase (.inl (by omega))
          by_cases he : m = 922337203685477580
          · have h4 : (-(m : Int) == -922337203685477580) = true := by rw [beq_iff_eq]; omega
            have h5 : ¬ (8 < (((⟨l.toArray⟩ : ByteArray)[k]'hsz).toNat : Int) - 48) := by
              intro h; exact hcase (.inr ⟨he, by omega⟩)
            clear ha hst hmg hm ho hg hcase he
            go_wp2
            refine ⟨⟨k + 1, _, by omega, by go_num, ?_, HM, by omega⟩, by simp [RowKit.intOf]; omega⟩
            refine congrArg (Value.int IntKind.i64) ?_
            omega
          · have h4 : (-(m : Int) == -922337203685477580) = false := by rw [beq_eq_false_iff_ne]; omega
            clear ha hst hmg hm ho hg hcase he
            go_wp2
            refine ⟨⟨k + 1, _, by omega, by go_num, ?_, HM, by omega⟩, by simp [RowKit.intOf]; omega⟩
            refine congrArg (Value.int IntKind.i64) ?_
            omega
    · have hkl : k = l.length := by omega
      subst hkl
      have hmb : mag (body l) = m := by
        have := hm.out
        rw [List.take_length, HNB.out] at this
        exact this
      have hsz : 0 < (⟨l.toArray⟩ : ByteArray).size := by rw [bsize l]; exact hl0
      have ha := byteAt l 0 hl0 hsz
      have hnh := neg_head l hl0
      clear hm
      by_cases hc : l[0] = 45
      · rw [decide_eq_true hc] at hnh
        have hq : ((((⟨l.toArray⟩ : ByteArray)[0]'hsz).toNat : Int) != 45) = false := by rw [ha, hc]; rfl
        obtain ⟨v1, v2⟩ := val_neg l m hmb hml hnh
        by_cases h1 : -(m : Int) < least
        · have HP := Lib.hid (par_range l least most HF.out (.inr (.inl (by rw [v1]; exact h1))))
          clear hmb hnh ha hc v1 v2
          go_wp2
          go_ret2
          exact ⟨by rw [HP.out.1, HP.out.2]; rfl, rfl⟩
        · by_cases h2 : most < -(m : Int)
          · have HP := Lib.hid (par_range l least most HF.out (.inr (.inr (by rw [v1]; exact h2))))
            clear hmb hnh ha hc v1 v2
            go_wp2
            go_ret2
            exact ⟨by rw [HP.out.1, HP.out.2]; rfl, rfl⟩
          · have HP := Lib.hid (par_ok l least most HF.out (by rw [v1, v2]; simp; omega))
            have HV := Lib.hid v1
            clear hmb hnh ha hc v1 v2
            go_wp2
            go_ret2
            exact ⟨by rw [HP.out.1, HP.out.2, HV.out]; rfl, rfl⟩
      · rw [decide_eq_false hc] at hnh
        have hq : ((((⟨l.toArray⟩ : ByteArray)[0]'hsz).toNat : Int) != 45) = true := by
          rw [ha, bne_iff_ne]; intro e; exact hc (UInt8.toNat.inj (by have : (45 : UInt8).toNat = 45 := rfl; omega))
        by_cases he : m = 9223372036854775808
        · obtain ⟨v1, v2⟩ := val_edge l m hmb he hnh
          have HP := Lib.hid (par_range l least most HF.out (.inl v2))
          have hq2 : (-(m : Int) == -9223372036854775808) = true := by rw [beq_iff_eq]; omega
          clear hmb hnh ha hc v1 v2 he
          go_wp2
          go_ret2
          exact ⟨by rw [HP.out.1, HP.out.2]; rfl, rfl⟩
        · have hlt' : m < 9223372036854775808 := by omega
          obtain ⟨v1, v2⟩ := val_pos l m hmb hlt' hnh
          have hq2 : (-(m : Int) == -9223372036854775808) = false := by rw [beq_eq_false_iff_ne]; omega
          by_cases h1 : (m : Int) < least
          · have HP := Lib.hid (par_range l least most HF.out (.inr (.inl (by rw [v1]; exact h1))))
            clear hmb hnh ha hc v1 v2 he
            go_wp2
            go_ret2
            exact ⟨by rw [HP.out.1, HP.out.2]; rfl, rfl⟩
          · by_cases h2 : most < (m : Int)
            · have HP := Lib.hid (par_range l least most HF.out (.inr (.inr (by rw [v1]; exact h2))))
              clear hmb hnh ha hc v1 v2 he
              go_wp2
              go_ret2
              exact ⟨by rw [HP.out.1, HP.out.2]; rfl, rfl⟩
            · have HP := Lib.hid (par_ok l least most HF.out (by rw [v1, v2]; simp; omega))
              have HV := Lib.hid v1
              clear hmb hnh ha hc v1 v2 he
              go_wp2
              go_ret2
              exact ⟨by rw [HP.out.1, HP.out.2, HV.out]; rfl, rfl⟩

/-- What the document's Parse answers. -/
theorem refParse_any (l : List UInt8) (least most : Int) (w : World) (hlen : l.length ≤ 9223372036854775000) :
    Calls Tryd.prog 7 #[.string ⟨l.toArray⟩, .int .i64 least, .int .i64 most] w (RetP (parN l least most) (parE l least most) w) := by
  by_cases hf : formB l = true
  · exact refParse_good l least most w hlen hf
  · exact refParse_bad l least most w hlen (by simpa using hf)
end Go.Proofs.YtgoidhlemmdjgaaDoor
