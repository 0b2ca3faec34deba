/-
  The document's own Form and Parse, walked.
-/
import Derived.Test.YtgoidhlemmdjgaaDoorParse
set_option linter.unusedSimpArgs false
set_option linter.unusedVariables false
namespace Go.Proofs.YtgoidhlemmdjgaaDoor
open Go.RowKit

set_option maxHeartbeats 1000000 in
theorem refForm_pos (l : List UInt8) (w : World) (hlen : l.length ≤ 9223372036854775000) (hl0 : 0 < l.length) (hb0 : ∀ h : 0 < (⟨l.toArray⟩ : ByteArray).size, ((((⟨l.toArray⟩ : ByteArray)[0]'h).toNat : Int) == 45) = false)
    (HB : Hid ((body l).length = l.length - 0 ∧ ∀ (k : Nat) (h1 : 0 ≤ k) (h2 : k < l.length), ∃ h : k - 0 < (body l).length, (body l)[k - 0] = l[k])) :
    Calls Tryd.prog 13 #[.string ⟨l.toArray⟩] w (RetB (formB l) w) := by
  have hsz0 : 0 < (⟨l.toArray⟩ : ByteArray).size := by rw [bsize l]; exact hl0
  have hb := hb0 hsz0
  go_enter Tryd.func13, Tryd.ntmps13
  go_wp2
  go_loop [4] (fun i => ∃ k : Nat, 0 ≤ k ∧ k ≤ l.length ∧ i = .int .i64 k ∧ Hid (∀ j (h : j < l.length), 0 ≤ j → j < k → isDig l[j] = true)) (fun i => l.length - (RowKit.intOf i).toNat)
  case atStart => exact ⟨0, by omega, by omega, rfl, Lib.hid (fun j h h1 h2 => absurd h1 (by omega))⟩
  case round =>
    obtain ⟨k, hk1, hk2, rfl, hall⟩ := hrel
    by_cases hlt : k < l.length
    · have hszk : k < (⟨l.toArray⟩ : ByteArray).size := by rw [bsize l]; exact hlt
      have ha := byteAt l k hlt hszk
      by_cases hg : isDig l[k] = true
      · obtain ⟨hd1, hd2⟩ := (isDig_iff _).1 hg
        rw [← ha] at hd1 hd2
        have HN := Lib.hid (show ∀ j (h : j < l.length), 0 ≤ j → j < k + 1 → isDig l[j] = true from fun j h h1 h2 => by
          by_cases e : j = k
          · subst e; exact hg
          · exact hall.out j h h1 (by omega))
        clear hg ha hall
        go_wp2
        exact ⟨⟨k + 1, by omega, by omega, by go_num, HN⟩, by simp [RowKit.intOf]; omega⟩
      · have HF := Lib.hid (form_bad l (k - 0) (by rw [HB.out.1]; omega) (by
          have e : (body l)[k - 0]'(by rw [HB.out.1]; omega) = l[k] := (HB.out.2 k hk1 hlt).2
          rw [e]; simpa using hg))
        have hg' : ¬ (48 ≤ (((⟨l.toArray⟩ : ByteArray)[k]'hszk).toNat : Int) ∧ (((⟨l.toArray⟩ : ByteArray)[k]'hszk).toNat : Int) ≤ 57) := by
          rw [ha]; exact fun h => hg ((isDig_iff _).2 h)
        by_cases hlo : (((⟨l.toArray⟩ : ByteArray)[k]'hszk).toNat : Int) < 48
        · clear hg hg' ha hall
          go_wp2
          go_ret
          exact ⟨congrArg (fun b => Ending.returned (.bool b)) HF.out.symm, rfl⟩
        · have hhi : 57 < (((⟨l.toArray⟩ : ByteArray)[k]'hszk).toNat : Int) := by omega
          clear hg hg' ha hall
          go_wp2
          go_ret
          exact ⟨congrArg (fun b => Ending.returned (.bool b)) HF.out.symm, rfl⟩
    · have hkl : k = l.length := by omega
      subst hkl
      have hall' : (body l).all isDig = true := by
        rw [List.all_eq_true]
        intro c hc
        obtain ⟨j, hj, rfl⟩ := List.getElem_of_mem hc
        have hj' := hj
        rw [HB.out.1] at hj'
        have e := (HB.out.2 (j + 0) (by omega) (by omega)).2
        have e2 : (body l)[j + 0 - 0]'(by rw [Nat.add_sub_cancel]; exact hj) = (body l)[j] := by congr 1
        rw [← e2, e]
        exact hall.out _ _ (by omega) (by omega)
      clear hall
      by_cases h0 : 0 < l.length
      · have hszf : 0 < (⟨l.toArray⟩ : ByteArray).size := by rw [bsize l]; exact h0
        have haf := byteAt l 0 h0 hszf
        have hlenb : 0 < (body l).length := by rw [HB.out.1]; omega
        have e : (body l)[0] = l[0] := (HB.out.2 0 (Nat.le_refl _) h0).2
        by_cases hc : l[0] = 48
        · have HF := Lib.hid (form_zero l hlenb (e.trans hc))
          have hq : ((((⟨l.toArray⟩ : ByteArray)[0]'hszf).toNat : Int) != 48) = false := by rw [haf, hc]; rfl
          by_cases h1 : l.length = 1
          · have hq1 : ((l.length : Int) == 1) = true := by rw [beq_iff_eq]; omega
            have HG := Lib.hid (HF.out.trans (by rw [decide_eq_true h1]))
            clear haf hc e h1 HF
            go_wp2
            go_ret
            exact ⟨congrArg (fun b => Ending.returned (.bool b)) HG.out.symm, rfl⟩
          · have hq1 : ((l.length : Int) == 1) = false := by rw [beq_eq_false_iff_ne]; omega
            have HG := Lib.hid (HF.out.trans (by rw [decide_eq_false h1]))
            clear haf hc e h1 HF
            go_wp2
            go_ret
            exact ⟨congrArg (fun b => Ending.returned (.bool b)) HG.out.symm, rfl⟩
        · have HF := Lib.hid (form_full l hlenb hall' (by rw [e]; exact hc))
          have hq : ((((⟨l.toArray⟩ : ByteArray)[0]'hszf).toNat : Int) != 48) = true := by
            rw [haf, bne_iff_ne]
            intro e'
            exact hc (UInt8.toNat.inj (by have : (48 : UInt8).toNat = 48 := rfl; omega))
          clear haf hc e hall'
          go_wp2
          go_ret
          exact ⟨congrArg (fun b => Ending.returned (.bool b)) HF.out.symm, rfl⟩
      · exact absurd hl0 h0

set_option maxHeartbeats 1000000 in
theorem refForm_neg (l : List UInt8) (w : World) (hlen : l.length ≤ 9223372036854775000) (hl0 : 0 < l.length) (hb0 : ∀ h : 0 < (⟨l.toArray⟩ : ByteArray).size, ((((⟨l.toArray⟩ : ByteArray)[0]'h).toNat : Int) == 45) = true)
    (HB : Hid ((body l).length = l.length - 1 ∧ ∀ (k : Nat) (h1 : 1 ≤ k) (h2 : k < l.length), ∃ h : k - 1 < (body l).length, (body l)[k - 1] = l[k])) :
    Calls Tryd.prog 13 #[.string ⟨l.toArray⟩] w (RetB (formB l) w) := by
  have hsz0 : 0 < (⟨l.toArray⟩ : ByteArray).size := by rw [bsize l]; exact hl0
  have hb := hb0 hsz0
  go_enter Tryd.func13, Tryd.ntmps13
  go_wp2
  go_loop [4] (fun i => ∃ k : Nat, 1 ≤ k ∧ k ≤ l.length ∧ i = .int .i64 k ∧ Hid (∀ j (h : j < l.length), 1 ≤ j → j < k → isDig l[j] = true)) (fun i => l.length - (RowKit.intOf i).toNat)
  case atStart => exact ⟨1, by omega, by omega, rfl, Lib.hid (fun j h h1 h2 => absurd h1 (by omega))⟩
  case round =>
    obtain ⟨k, hk1, hk2, rfl, hall⟩ := hrel
    by_cases hlt : k < l.length
    · have hszk : k < (⟨l.toArray⟩ : ByteArray).size := by rw [bsize l]; exact hlt
      have ha := byteAt l k hlt hszk
      by_cases hg : isDig l[k] = true
      · obtain ⟨hd1, hd2⟩ := (isDig_iff _).1 hg
        rw [← ha] at hd1 hd2
        have HN := Lib.hid (show ∀ j (h : j < l.length), 1 ≤ j → j < k + 1 → isDig l[j] = true from fun j h h1 h2 => by
          by_cases e : j = k
          · subst e; exact hg
          · exact hall.out j h h1 (by omega))
        clear hg ha hall
        go_wp2
        exact ⟨⟨k + 1, by omega, by omega, by go_num, HN⟩, by simp [RowKit.intOf]; omega⟩
      · have HF := Lib.hid (form_bad l (k - 1) (by rw [HB.out.1]; omega) (by
          have e : (body l)[k - 1]'(by rw [HB.out.1]; omega) = l[k] := (HB.out.2 k hk1 hlt).2
          rw [e]; simpa using hg))
        have hg' : ¬ (48 ≤ (((⟨l.toArray⟩ : ByteArray)[k]'hszk).toNat : Int) ∧ (((⟨l.toArray⟩ : ByteArray)[k]'hszk).toNat : Int) ≤ 57) := by
          rw [ha]; exact fun h => hg ((isDig_iff _).2 h)
        by_cases hlo : (((⟨l.toArray⟩ : ByteArray)[k]'hszk).toNat : Int) < 48
        · clear hg hg' ha hall
          go_wp2
          go_ret
          exact ⟨congrArg (fun b => Ending.returned (.bool b)) HF.out.symm, rfl⟩
        · have hhi : 57 < (((⟨l.toArray⟩ : ByteArray)[k]'hszk).toNat : Int) := by omega
          clear hg hg' ha hall
          go_wp2
          go_ret
          exact ⟨congrArg (fun b => Ending.returned (.bool b)) HF.out.symm, rfl⟩
    · have hkl : k = l.length := by omega
      subst hkl
      have hall' : (body l).all isDig = true := by
        rw [List.all_eq_true]
        intro c hc
        obtain ⟨j, hj, rfl⟩ := List.getElem_of_mem hc
        have hj' := hj
        rw [HB.out.1] at hj'
        have e := (HB.out.2 (j + 1) (by omega) (by omega)).2
        have e2 : (body l)[j + 1 - 1]'(by rw [Nat.add_sub_cancel]; exact hj) = (body l)[j] := by congr 1
        rw [← e2, e]
        exact hall.out _ _ (by omega) (by omega)
      clear hall
      by_cases h0 : 1 < l.length
      · have hszf : 1 < (⟨l.toArray⟩ : ByteArray).size := by rw [bsize l]; exact h0
        have haf := byteAt l 1 h0 hszf
        have hlenb : 0 < (body l).length := by rw [HB.out.1]; omega
        have e : (body l)[0] = l[1] := (HB.out.2 1 (Nat.le_refl _) h0).2
        by_cases hc : l[1] = 48
        · have HF := Lib.hid (form_zero l hlenb (e.trans hc))
          have hq : ((((⟨l.toArray⟩ : ByteArray)[1]'hszf).toNat : Int) != 48) = false := by rw [haf, hc]; rfl
          by_cases h1 : l.length = 1
          · have hq1 : ((l.length : Int) == 1) = true := by rw [beq_iff_eq]; omega
            have HG := Lib.hid (HF.out.trans (by rw [decide_eq_true h1]))
            clear haf hc e h1 HF
            go_wp2
            go_ret
            exact ⟨congrArg (fun b => Ending.returned (.bool b)) HG.out.symm, rfl⟩
          · have hq1 : ((l.length : Int) == 1) = false := by rw [beq_eq_false_iff_ne]; omega
            have HG := Lib.hid (HF.out.trans (by rw [decide_eq_false h1]))
            clear haf hc e h1 HF
            go_wp2
            go_ret
            exact ⟨congrArg (fun b => Ending.returned (.bool b)) HG.out.symm, rfl⟩
        · have HF := Lib.hid (form_full l hlenb hall' (by rw [e]; exact hc))
          have hq : ((((⟨l.toArray⟩ : ByteArray)[1]'hszf).toNat : Int) != 48) = true := by
            rw [haf, bne_iff_ne]
            intro e'
            exact hc (UInt8.toNat.inj (by have : (48 : UInt8).toNat = 48 := rfl; omega))
          clear haf hc e hall'
          go_wp2
          go_ret
          exact ⟨congrArg (fun b => Ending.returned (.bool b)) HF.out.symm, rfl⟩
      · have HF := Lib.hid (form_empty l (by rw [HB.out.1]; omega))
        clear hall'
        go_wp2
        go_ret
        exact ⟨congrArg (fun b => Ending.returned (.bool b)) HF.out.symm, rfl⟩

theorem refForm_nil (w : World) : Calls Tryd.prog 13 #[.string ⟨#[]⟩] w (RetB false w) := by
  go_enter Tryd.func13, Tryd.ntmps13
  go_wp2
  refine wp_loop_rounds 1 ?_; rw [rounds_succ]
  go_wp2
  go_ret
  exact ⟨rfl, rfl⟩

theorem head_eq (l : List UInt8) (h : 0 < l.length) (c : UInt8) (h' : 0 < (⟨l.toArray⟩ : ByteArray).size) : ((((⟨l.toArray⟩ : ByteArray)[0]'h').toNat : Int) == (c.toNat : Int)) = (l[0] == c) := by
  rw [byteAt l 0 h h', Bool.eq_iff_iff, beq_iff_eq, beq_iff_eq]
  constructor
  · intro e; exact UInt8.toNat.inj (by omega)
  · intro e; rw [e]

/-- What the document's Form answers. -/
theorem refForm_any (l : List UInt8) (b : Bool) (w : World) (hlen : l.length ≤ 9223372036854775000) (hf : Hid (formB l = b)) :
    Calls Tryd.prog 13 #[.string ⟨l.toArray⟩] w (RetB b w) := by
  rw [← hf.out]
  cases l with
  | nil => exact refForm_nil w
  | cons c r =>
    by_cases hc : c = 45
    · subst hc
      have hb : body (45 :: r) = r := by simp [body, Lib.trimPrefix, Lib.hasPrefix]
      refine refForm_neg _ w hlen (by simp) (fun h => (head_eq (45 :: r) (by simp) 45 h).trans (by simp)) (Lib.hid ⟨by rw [hb]; simp, fun k h1 h2 => ?_⟩)
      have hk : k - 1 < (body (45 :: r)).length := by rw [hb]; simp at h2; omega
      refine ⟨hk, ?_⟩
      obtain ⟨j, rfl⟩ : ∃ j, k = j + 1 := ⟨k - 1, by omega⟩
      simp [hb]
    · have hn : neg (c :: r) = false := by simp [neg, Lib.hasPrefix, List.isPrefixOf, Ne.symm hc]
      have hb := body_pos hn
      refine refForm_pos _ w hlen (by simp) (fun h => (head_eq (c :: r) (by simp) 45 h).trans (by simp [hc])) (Lib.hid ⟨by rw [hb]; rfl, fun k h1 h2 => ?_⟩)
      have hk : k - 0 < (body (c :: r)).length := by rw [hb]; exact h2
      refine ⟨hk, ?_⟩
      simp [hb]

end Go.Proofs.YtgoidhlemmdjgaaDoor
