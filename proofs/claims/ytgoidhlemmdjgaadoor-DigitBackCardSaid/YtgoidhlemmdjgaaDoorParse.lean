/-
  digit.Parse: the walk, with isText and value.
-/
import Derived.Test.YtgoidhlemmdjgaaDoorParM
import Derived.Test.YtgoidhlemmdjgaaDoorRows
import Derived.Test.YtgoidhlemmdjgaaDoorShelf
import Derived.WalkKit
import Derived.WalkSpells
import Derived.WalkLawsBesides
import Derived.Lib.Hide
import Derived.BigQuiet
import Derived.Deep.QuietTactic
set_option linter.unusedSimpArgs false
set_option linter.unusedVariables false
namespace Go.Proofs.YtgoidhlemmdjgaaDoor
open Go.RowKit

theorem trim_any (l d : List UInt8) (w : World) (h : Hid (body l = d)) :
    Calls Tryd.prog 20 #[.string ⟨l.toArray⟩, .string ⟨#[45]⟩] w fun e w' => e = .returned (.string ⟨d.toArray⟩) ∧ w = w' := by
  refine (Tryd.strings_TrimPrefix ⟨l.toArray⟩ ⟨#[45]⟩ w).mono ?_
  rintro e w' ⟨rfl, rfl⟩
  exact ⟨congrArg (fun l : List UInt8 => Ending.returned (.string ⟨l.toArray⟩)) h.out, rfl⟩

theorem cut_any (l d : List UInt8) (b : Bool) (w : World) (h : Hid (body l = d)) (hb : Hid (neg l = b)) :
    Calls Tryd.prog 21 #[.string ⟨l.toArray⟩, .string ⟨#[45]⟩] w fun e w' => e = .returned (.tuple #[.string ⟨d.toArray⟩, .bool b]) ∧ w = w' := by
  refine (Tryd.strings_CutPrefix ⟨l.toArray⟩ ⟨#[45]⟩ w).mono ?_
  rintro e w' ⟨rfl, rfl⟩
  exact ⟨by rw [← h.out, ← hb.out]; rfl, rfl⟩

def RetB (b : Bool) (w : World) (e : Ending) (w' : World) : Prop := e = .returned (.bool b) ∧ w = w'

set_option maxHeartbeats 400000 in
theorem isText_nil (l : List UInt8) (w : World) (h : Hid (body l = [])) :
    Calls Tryd.prog 14 #[.string ⟨l.toArray⟩] w (RetB false w) := by
  go_enter Tryd.func14, Tryd.ntmps14
  go_wp2_with (go_at_call 20; refine (trim_any _ _ _ h).mono ?_; rintro e w' ⟨rfl, rfl⟩)
  go_ret
  exact ⟨rfl, rfl⟩

set_option maxHeartbeats 400000 in
theorem isText_zero (l r : List UInt8) (w : World) (h : Hid (body l = 48 :: r)) :
    Calls Tryd.prog 14 #[.string ⟨l.toArray⟩] w (RetB (l == [48]) w) := by
  go_enter Tryd.func14, Tryd.ntmps14
  go_wp2_with (go_at_call 20; refine (trim_any _ _ _ h).mono ?_; rintro e w' ⟨rfl, rfl⟩)
  go_ret
  exact ⟨rfl, rfl⟩

set_option maxHeartbeats 400000 in
theorem isText_more (l d : List UInt8) (w : World) (h : Hid (body l = d)) (h0 : 0 < d.length) (hc : d[0] ≠ 48) (hlen : d.length ≤ 9223372036854775807) :
    Calls Tryd.prog 14 #[.string ⟨l.toArray⟩] w (RetB (d.all isDig) w) := by
  have he := full_of_pos d h0
  have hsz0 : 0 < (⟨d.toArray⟩ : ByteArray).size := by rw [bsize d]; exact h0
  have hb := head_ne d h0 hsz0 hc
  have HC := Lib.hid hc
  clear hc
  go_enter Tryd.func14, Tryd.ntmps14
  go_wp2_with (go_at_call 20; refine (trim_any _ _ _ h).mono ?_; rintro e w' ⟨rfl, rfl⟩)
  go_loop [16] (fun i => ∃ k : Nat, k ≤ d.length ∧ i = .int .i64 k ∧ Hid ((d.take k).all isDig = true)) (fun i => d.length - (RowKit.intOf i).toNat)
  case atStart => exact ⟨0, Nat.zero_le _, rfl, Lib.hid (by simp)⟩
  case round =>
    obtain ⟨k, hk, rfl, hall⟩ := hrel
    by_cases hlt : k < d.length
    · have hsz : k < (⟨d.toArray⟩ : ByteArray).size := by rw [bsize d]; exact hlt
      have ha := byteAt d k hlt hsz
      by_cases hg : isDig d[k] = true
      · have hd : 48 ≤ (((⟨d.toArray⟩ : ByteArray)[k]'hsz).toNat : Int) ∧ (((⟨d.toArray⟩ : ByteArray)[k]'hsz).toNat : Int) ≤ 57 := by
          rw [ha]; unfold isDig at hg; simp at hg; omega
        obtain ⟨hd1, hd2⟩ := hd
        have HN := Lib.hid (show (d.take (k + 1)).all isDig = true by rw [all_snoc d k hlt, hall.out, hg]; rfl)
        clear hg ha hall
        go_wp2
        exact ⟨⟨k + 1, by omega, by go_num, HN⟩, by simp [RowKit.intOf]; omega⟩
      · have HF := Lib.hid (all_false d k hlt (by simpa using hg))
        by_cases hlo : (((⟨d.toArray⟩ : ByteArray)[k]'hsz).toNat : Int) < 48
        · clear hg ha hall
          go_wp2
          go_ret
          exact ⟨congrArg (fun b => Ending.returned (.bool b)) HF.out.symm, rfl⟩
        · have hhi : 57 < (((⟨d.toArray⟩ : ByteArray)[k]'hsz).toNat : Int) := by
            rw [ha] at hlo ⊢; unfold isDig at hg; simp at hg; omega
          clear hg ha hall
          go_wp2
          go_ret
          exact ⟨congrArg (fun b => Ending.returned (.bool b)) HF.out.symm, rfl⟩
    · have hkl : k = d.length := by omega
      subst hkl
      have HA := Lib.hid (show d.all isDig = true by have := hall.out; rwa [List.take_length] at this)
      clear hall
      go_wp2
      go_ret
      exact ⟨congrArg (fun b => Ending.returned (.bool b)) HA.out.symm, rfl⟩

/-- What isText answers. -/
theorem isText_any (l : List UInt8) (w : World) (hlen : l.length ≤ 9223372036854775807) :
    Calls Tryd.prog 14 #[.string ⟨l.toArray⟩] w (RetB (formB l) w) := by
  unfold formB
  have hbl := body_length l
  match hb : body l with
  | [] => exact isText_nil l w (Lib.hid hb)
  | c :: r =>
    by_cases hc : c = 48
    · subst hc
      exact isText_zero l r w (Lib.hid hb)
    · simp only [hc, if_false]
      exact isText_more l (c :: r) w (Lib.hid hb) (by simp) hc (by rw [← hb]; omega)

def Ret2 (n : Int) (b : Bool) (w : World) (e : Ending) (w' : World) : Prop := e = .returned (.tuple #[.int .i64 n, .bool b]) ∧ w = w'

set_option maxHeartbeats 400000 in
theorem value_walk (l d : List UInt8) (b : Bool) (w : World) (h : Hid (body l = d)) (hb : Hid (neg l = b)) (hall : Hid (d.all isDig = true)) (hlen : d.length ≤ 9223372036854775807) :
    Calls Tryd.prog 15 #[.string ⟨l.toArray⟩] w (Ret2 (valN l) (valB l) w) := by
  go_enter Tryd.func15, Tryd.ntmps15
  go_wp2_with (go_at_call 21; refine (cut_any _ _ _ _ h hb).mono ?_; rintro e w' ⟨rfl, rfl⟩)
  go_loop [6, 16] (fun n i => ∃ k m : Nat, k ≤ d.length ∧ i = .int .i64 k ∧ n = .int .i64 (-(m : Int)) ∧ Hid (mag (d.take k) = m) ∧ m ≤ 9223372036854775808) (fun _ i => d.length - (RowKit.intOf i).toNat)
  case atStart => exact ⟨0, 0, Nat.zero_le _, rfl, rfl, Lib.hid rfl, by omega⟩
  case round =>
    obtain ⟨k, m, hk, rfl, rfl, hm, hml⟩ := hrel
    by_cases hlt : k < d.length
    · have hsz : k < (⟨d.toArray⟩ : ByteArray).size := by rw [bsize d]; exact hlt
      have ha := byteAt d k hlt hsz
      have hg : isDig d[k] = true := by
        have := hall.out
        rw [List.all_eq_true] at this
        exact this _ (List.getElem_mem _)
      have hd : 48 ≤ (((⟨d.toArray⟩ : ByteArray)[k]'hsz).toNat : Int) ∧ (((⟨d.toArray⟩ : ByteArray)[k]'hsz).toNat : Int) ≤ 57 := by
        rw [ha]; unfold isDig at hg; simp at hg; omega
      obtain ⟨hd1, hd2⟩ := hd
      by_cases ho : lim < 10 * m + ((⟨d.toArray⟩ : ByteArray)[k]'hsz).toNat - 48
      · have hy := over_yes m _ hd1 hd2 (by omega)
        have HV := Lib.hid (val_over l (by
          have h1 := mag_take_le d (k + 1)
          rw [mag_step d k hlt, hm.out, ← ha] at h1
          rw [h.out]
          omega))
        clear ha hg ho
        go_wp2
        go_ret2
        exact ⟨by rw [HV.out.1, HV.out.2]; rfl, rfl⟩
      · have hn := over_no m _ hd1 hd2 (by omega)
        have hlim : 10 * (m : Int) + ((((⟨d.toArray⟩ : ByteArray)[k]'hsz).toNat : Int) - 48) ≤ 9223372036854775808 := by
          unfold lim at ho; omega
        have HM := Lib.hid (show mag (d.take (k + 1)) = 10 * m + (((⟨d.toArray⟩ : ByteArray)[k]'hsz).toNat - 48) by rw [mag_step d k hlt, hm.out, ← ha])
        clear ha hg ho
        go_wp2
        refine ⟨⟨k + 1, _, by omega, by go_num, ?_, HM, by omega⟩, by simp [RowKit.intOf]; omega⟩
        refine congrArg (Value.int IntKind.i64) ?_
        omega
    · have hkl : k = d.length := by omega
      subst hkl
      have hmb : mag (body l) = m := by
        have := hm.out
        rw [List.take_length] at this
        rw [h.out]; exact this
      by_cases hbb : b = true
      · subst hbb
        have HV := Lib.hid (val_neg l m hmb hml hb.out)
        clear hmb
        go_wp2
        go_ret2
        exact ⟨by rw [HV.out.1, HV.out.2]; rfl, rfl⟩
      · obtain rfl : b = false := by simpa using hbb
        by_cases he : m = 9223372036854775808
        · have HV := Lib.hid (val_edge l m hmb he hb.out)
          have hq : (-(m : Int) == -9223372036854775808) = true := by rw [beq_iff_eq]; omega
          clear hmb he
          go_wp2
          go_ret2
          exact ⟨by rw [HV.out.1, HV.out.2]; rfl, rfl⟩
        · have hlt' : m < 9223372036854775808 := by omega
          have HV := Lib.hid (val_pos l m hmb hlt' hb.out)
          have hq : (-(m : Int) == -9223372036854775808) = false := by rw [beq_eq_false_iff_ne]; omega
          clear hmb he
          go_wp2
          go_ret2
          exact ⟨by rw [HV.out.1, HV.out.2]; rfl, rfl⟩
theorem value_any (l : List UInt8) (n : Int) (b : Bool) (w : World) (hf : Hid (formB l = true)) (hlen : l.length ≤ 9223372036854775807) (hn : Hid (valN l = n)) (hb : Hid (valB l = b)) :
    Calls Tryd.prog 15 #[.string ⟨l.toArray⟩] w (Ret2 n b w) := by
  rw [← hn.out, ← hb.out]
  exact value_walk l (body l) (neg l) w (Lib.hid rfl) (Lib.hid rfl) (Lib.hid (form_digits l hf.out)) (Nat.le_trans (body_length l) hlen)

theorem isText_is (l : List UInt8) (b : Bool) (w : World) (hlen : l.length ≤ 9223372036854775807) (hf : Hid (formB l = b)) :
    Calls Tryd.prog 14 #[.string ⟨l.toArray⟩] w (RetB b w) := by
  rw [← hf.out]
  exact isText_any l w hlen

def RetP (n c : Int) (w : World) (e : Ending) (w' : World) : Prop := e = .returned (.tuple #[.int .i64 n, .int .i64 c]) ∧ w = w'

set_option maxHeartbeats 400000 in
theorem parse_any (l : List UInt8) (least most : Int) (w : World) (hlen : l.length ≤ 9223372036854775807) :
    Calls Tryd.prog 6 #[.string ⟨l.toArray⟩, .int .i64 least, .int .i64 most] w (RetP (parN l least most) (parE l least most) w) := by
  by_cases hf : formB l = true
  · have HF := Lib.hid hf
    obtain ⟨n, hn⟩ : ∃ n, valN l = n := ⟨_, rfl⟩
    obtain ⟨b, hb⟩ : ∃ b, valB l = b := ⟨_, rfl⟩
    have HN := Lib.hid hn
    have HB := Lib.hid hb
    by_cases hbb : b = true
    · subst hbb
      by_cases h1 : n < least
      · obtain ⟨e1, e2⟩ := par_range l least most hf (.inr (.inl (by omega)))
        rw [e1, e2]
        clear e1 e2 hf hn hb
        go_enter Tryd.func6, Tryd.ntmps6
        go_wp2_with (first | (go_at_call 14; refine (isText_is _ _ _ hlen HF).mono ?_; rintro e w' ⟨rfl, rfl⟩) | (go_at_call 15; refine (value_any _ _ _ _ HF hlen HN HB).mono ?_; rintro e w' ⟨rfl, rfl⟩))
        go_ret2
        exact ⟨rfl, rfl⟩
      · by_cases h2 : most < n
        · obtain ⟨e1, e2⟩ := par_range l least most hf (.inr (.inr (by omega)))
          rw [e1, e2]
          clear e1 e2 hf hn hb
          go_enter Tryd.func6, Tryd.ntmps6
          go_wp2_with (first | (go_at_call 14; refine (isText_is _ _ _ hlen HF).mono ?_; rintro e w' ⟨rfl, rfl⟩) | (go_at_call 15; refine (value_any _ _ _ _ HF hlen HN HB).mono ?_; rintro e w' ⟨rfl, rfl⟩))
          go_ret2
          exact ⟨rfl, rfl⟩
        · obtain ⟨e1, e2⟩ := par_ok l least most hf (by rw [hb, hn]; simp; omega)
          rw [e1, e2, hn]
          clear e1 e2 hf hn hb
          go_enter Tryd.func6, Tryd.ntmps6
          go_wp2_with (first | (go_at_call 14; refine (isText_is _ _ _ hlen HF).mono ?_; rintro e w' ⟨rfl, rfl⟩) | (go_at_call 15; refine (value_any _ _ _ _ HF hlen HN HB).mono ?_; rintro e w' ⟨rfl, rfl⟩))
          go_ret2
          exact ⟨rfl, rfl⟩
    · obtain rfl : b = false := by simpa using hbb
      obtain ⟨e1, e2⟩ := par_range l least most hf (.inl hb)
      rw [e1, e2]
      clear e1 e2 hf hn hb
      go_enter Tryd.func6, Tryd.ntmps6
      go_wp2_with (first | (go_at_call 14; refine (isText_is _ _ _ hlen HF).mono ?_; rintro e w' ⟨rfl, rfl⟩) | (go_at_call 15; refine (value_any _ _ _ _ HF hlen HN HB).mono ?_; rintro e w' ⟨rfl, rfl⟩))
      go_ret2
      exact ⟨rfl, rfl⟩
  · have hf' : formB l = false := by simpa using hf
    have HF := Lib.hid hf'
    obtain ⟨e1, e2⟩ := par_form l least most hf'
    rw [e1, e2]
    clear e1 e2 hf hf'
    go_enter Tryd.func6, Tryd.ntmps6
    go_wp2_with (go_at_call 14; refine (isText_is _ _ _ hlen HF).mono ?_; rintro e w' ⟨rfl, rfl⟩)
    go_ret2
    exact ⟨rfl, rfl⟩
end Go.Proofs.YtgoidhlemmdjgaaDoor
