/-
  Plain facts on texts of numbers: form, magnitude, and what Parse answers. No program here.
-/
import Derived.Test.YtgoidhlemmdjgaaDoorDigM
import Derived.Lib.Strings
set_option linter.unusedSimpArgs false
set_option linter.unusedVariables false
namespace Go.Proofs.YtgoidhlemmdjgaaDoor
open Go.Lib

/-- A text without the - ahead of it, if there is one. -/
def body (l : List UInt8) : List UInt8 := trimPrefix l [45]
/-- Does a text begin with a -? -/
def neg (l : List UInt8) : Bool := hasPrefix l [45]

def isDig (c : UInt8) : Bool := decide (48 ≤ c.toNat) && decide (c.toNat ≤ 57)

/-- Is a text a number's? -/
def formB (l : List UInt8) : Bool := match body l with
  | [] => false
  | c :: r => if c = 48 then l == [48] else (c :: r).all isDig

/-- The number that digits make. -/
def mag (d : List UInt8) : Nat := d.foldl (fun a c => 10 * a + (c.toNat - 48)) 0

theorem mag_snoc (d : List UInt8) (c : UInt8) : mag (d ++ [c]) = 10 * mag d + (c.toNat - 48) := by simp [mag]

theorem mag_take_le : ∀ (d : List UInt8) (k : Nat), mag (d.take k) ≤ mag d := by
  intro d k
  induction h : d.length - k generalizing k with
  | zero => rw [List.take_of_length_le (by omega)]; exact Nat.le_refl _
  | succ n ih =>
    have := ih (k + 1) (by omega)
    rw [List.take_succ_eq_append_getElem (by omega), mag_snoc] at this
    omega

theorem mag_step (d : List UInt8) (k : Nat) (h : k < d.length) : mag (d.take (k + 1)) = 10 * mag (d.take k) + (d[k].toNat - 48) := by
  rw [List.take_succ_eq_append_getElem h, mag_snoc]

theorem body_neg {l : List UInt8} (h : neg l = true) : l = 45 :: body l := by
  unfold neg hasPrefix at h
  cases l with
  | nil => simp at h
  | cons c r =>
    simp only [List.isPrefixOf, Bool.and_eq_true, beq_iff_eq] at h
    obtain ⟨rfl, _⟩ := h
    simp [body, trimPrefix, hasPrefix]

theorem body_pos {l : List UInt8} (h : neg l = false) : body l = l := by
  unfold body trimPrefix
  unfold neg at h
  rw [h]; rfl

/-- The greatest int, and one: the least one's distance from 0. -/
def lim : Nat := 9223372036854775808

/-- What 'value' answers of a number's text. -/
def valN (l : List UInt8) : Int := if lim < mag (body l) then 0 else if neg l then -(mag (body l) : Int) else if mag (body l) = lim then 0 else (mag (body l) : Int)
def valB (l : List UInt8) : Bool := if lim < mag (body l) then false else if neg l then true else if mag (body l) = lim then false else true

/-- What Parse answers: a number and an error's number. -/
def parN (l : List UInt8) (least most : Int) : Int :=
  if formB l = false then 0 else if valB l = false ∨ valN l < least ∨ most < valN l then 0 else valN l
def parE (l : List UInt8) (least most : Int) : Int :=
  if formB l = false then 3 else if valB l = false ∨ valN l < least ∨ most < valN l then 11 else 0

theorem valN_bounds (l : List UInt8) : -9223372036854775808 ≤ valN l ∧ valN l ≤ 9223372036854775807 := by
  unfold valN lim
  split
  · omega
  · split
    · omega
    · split <;> omega

/-- The test ahead of each digit. -/
theorem over_iff (m c : Nat) (hc : c ≤ 9) : ((-(m : Int) < (-9223372036854775808 + (c : Int)).tdiv 10) ↔ lim < 10 * m + c) := by
  have e : (-9223372036854775808 + (c : Int)).tdiv 10 = -(((9223372036854775808 - c) / 10 : Nat) : Int) := by
    rw [show (-9223372036854775808 + (c : Int)) = -((9223372036854775808 - c : Nat) : Int) by omega, Int.neg_tdiv]
    rfl
  rw [e]
  unfold lim
  omega

theorem byteAt (d : List UInt8) (k : Nat) (h : k < d.length) (h' : k < (⟨d.toArray⟩ : ByteArray).size) : (⟨d.toArray⟩ : ByteArray)[k]'h' = d[k] := by
  show d.toArray[k] = d[k]
  simp

theorem all_snoc (d : List UInt8) (k : Nat) (h : k < d.length) : (d.take (k + 1)).all isDig = ((d.take k).all isDig && isDig d[k]) := by
  rw [List.take_succ_eq_append_getElem h, List.all_append]; simp

theorem all_false (d : List UInt8) (k : Nat) (h : k < d.length) (hk : isDig d[k] = false) : d.all isDig = false := by
  rw [List.all_eq_false]
  exact ⟨d[k], List.getElem_mem _, by simp [hk]⟩

theorem head_ne (d : List UInt8) (h : 0 < d.length) (h' : 0 < (⟨d.toArray⟩ : ByteArray).size) (hc : d[0] ≠ 48) : ((((⟨d.toArray⟩ : ByteArray)[0]'h').toNat : Int) == 48) = false := by
  rw [byteAt d 0 h h', beq_eq_false_iff_ne]
  intro e
  have e' : d[0].toNat = (48 : UInt8).toNat := by
    have : (48 : UInt8).toNat = 48 := rfl
    omega
  exact hc (UInt8.toNat.inj e')

theorem full_of_pos (d : List UInt8) (h : 0 < d.length) : d.isEmpty = false := by
  cases d with
  | nil => simp at h
  | cons _ _ => rfl

theorem body_length (l : List UInt8) : (body l).length ≤ l.length := by
  unfold body trimPrefix
  split
  · simp
  · exact Nat.le_refl _

theorem val_over (l : List UInt8) (h : lim < mag (body l)) : valN l = 0 ∧ valB l = false := by
  unfold valN valB; simp [h]
theorem val_neg (l : List UInt8) (m : Nat) (h : mag (body l) = m) (hm : m ≤ 9223372036854775808) (hb : neg l = true) : valN l = -(m : Int) ∧ valB l = true := by
  have : ¬ lim < mag (body l) := by rw [h]; unfold lim; omega
  unfold valN valB
  rw [if_neg this, if_neg this, if_pos hb, if_pos hb, h]
  exact ⟨rfl, rfl⟩
theorem val_edge (l : List UInt8) (m : Nat) (h : mag (body l) = m) (hm : m = 9223372036854775808) (hb : neg l = false) : valN l = 0 ∧ valB l = false := by
  have h1 : ¬ lim < mag (body l) := by rw [h]; unfold lim; omega
  have h2 : mag (body l) = lim := by rw [h]; exact hm
  have hb' : ¬ (neg l = true) := by simp [hb]
  unfold valN valB
  rw [if_neg h1, if_neg h1, if_neg hb', if_neg hb', if_pos h2, if_pos h2]
  exact ⟨rfl, rfl⟩
theorem val_pos (l : List UInt8) (m : Nat) (h : mag (body l) = m) (hm : m < 9223372036854775808) (hb : neg l = false) : valN l = (m : Int) ∧ valB l = true := by
  have h1 : ¬ lim < mag (body l) := by rw [h]; unfold lim; omega
  have h2 : ¬ mag (body l) = lim := by rw [h]; unfold lim; omega
  have hb' : ¬ (neg l = true) := by simp [hb]
  unfold valN valB
  rw [if_neg h1, if_neg h1, if_neg hb', if_neg hb', if_neg h2, if_neg h2, h]
  exact ⟨rfl, rfl⟩

/-- The test ahead of each digit, in the spelling of the walk; c: the digit's byte. -/
theorem over_yes (m : Nat) (c : UInt8) (h1 : 48 ≤ (c.toNat : Int)) (h2 : (c.toNat : Int) ≤ 57) (h : lim < 10 * m + (c.toNat - 48)) : -(m : Int) < (-9223372036854775808 + ((c.toNat : Int) - 48)).tdiv 10 := by
  have := (over_iff m (c.toNat - 48) (by omega)).2 h
  rwa [show (((c.toNat - 48 : Nat)) : Int) = (c.toNat : Int) - 48 by omega] at this
theorem over_no (m : Nat) (c : UInt8) (h1 : 48 ≤ (c.toNat : Int)) (h2 : (c.toNat : Int) ≤ 57) (h : ¬ lim < 10 * m + (c.toNat - 48)) : ¬ (-(m : Int) < (-9223372036854775808 + ((c.toNat : Int) - 48)).tdiv 10) := by
  intro hh
  refine h ((over_iff m (c.toNat - 48) (by omega)).1 ?_)
  rwa [show (((c.toNat - 48 : Nat)) : Int) = (c.toNat : Int) - 48 by omega]

theorem form_digits (l : List UInt8) (h : formB l = true) : (body l).all isDig = true := by
  unfold formB at h
  split at h
  · cases h
  · rename_i c r hb
    split at h
    · rename_i hc
      have hl : l = [48] := by simpa using h
      subst hl
      decide
    · rw [hb]; exact h

theorem par_form (l : List UInt8) (least most : Int) (h : formB l = false) : parN l least most = 0 ∧ parE l least most = 3 := by
  unfold parN parE; rw [if_pos h, if_pos h]; exact ⟨rfl, rfl⟩
theorem par_range (l : List UInt8) (least most : Int) (h : formB l = true) (h' : valB l = false ∨ valN l < least ∨ most < valN l) : parN l least most = 0 ∧ parE l least most = 11 := by
  have h1 : ¬ formB l = false := by simp [h]
  unfold parN parE; rw [if_neg h1, if_neg h1, if_pos h', if_pos h']; exact ⟨rfl, rfl⟩
theorem par_ok (l : List UInt8) (least most : Int) (h : formB l = true) (h' : ¬ (valB l = false ∨ valN l < least ∨ most < valN l)) : parN l least most = valN l ∧ parE l least most = 0 := by
  have h1 : ¬ formB l = false := by simp [h]
  unfold parN parE; rw [if_neg h1, if_neg h1, if_neg h', if_neg h']; exact ⟨rfl, rfl⟩

theorem form_bad (l : List UInt8) (k : Nat) (h : k < (body l).length) (hk : isDig (body l)[k] = false) : formB l = false := by
  unfold formB
  split
  · rfl
  · rename_i c r hb
    have hall := all_false _ k h hk
    split
    · rename_i hc
      rw [beq_eq_false_iff_ne]
      intro hl
      subst hl
      exact absurd hall (by decide)
    · rw [← hb]; exact hall

theorem form_empty (l : List UInt8) (h : (body l).length = 0) : formB l = false := by
  unfold formB
  rw [List.eq_nil_of_length_eq_zero h]

theorem form_full (l : List UInt8) (h : 0 < (body l).length) (hall : (body l).all isDig = true) (hc : (body l)[0] ≠ 48) : formB l = true := by
  unfold formB
  split
  · rename_i hb; rw [hb] at h; simp at h
  · rename_i c r hb
    have e : c = (body l)[0] := by simp [hb]
    rw [if_neg (by rw [e]; exact hc), ← hb]
    exact hall

theorem form_zero (l : List UInt8) (h : 0 < (body l).length) (hc : (body l)[0] = 48) : formB l = decide (l.length = 1) := by
  unfold formB
  split
  · rename_i hb; rw [hb] at h; simp at h
  · rename_i c r hb
    have e : c = (body l)[0] := by simp [hb]
    have hc' : c = 48 := by rw [e]; exact hc
    rw [if_pos hc']
    by_cases hn : neg l = true
    · have hl := body_neg hn
      rw [hb] at hl
      rw [hl]; simp
    · have hl := body_pos (by simpa using hn)
      rw [hb] at hl
      rw [← hl, hc']
      cases r <;> simp

theorem isDig_iff (c : UInt8) : isDig c = true ↔ 48 ≤ (c.toNat : Int) ∧ (c.toNat : Int) ≤ 57 := by
  unfold isDig
  rw [Bool.and_eq_true, decide_eq_true_iff, decide_eq_true_iff]
  omega

/-- A text's bytes but for a -. -/
def noSign (l : List UInt8) : List UInt8 := l.filter (fun c => c != 45)

theorem noSign_step (l : List UInt8) (k : Nat) (h : k < l.length) : noSign (l.take (k + 1)) = if l[k] = 45 then noSign (l.take k) else noSign (l.take k) ++ [l[k]] := by
  rw [List.take_succ_eq_append_getElem h]
  unfold noSign
  rw [List.filter_append]
  split
  · rename_i hc; simp [hc]
  · rename_i hc; simp [hc]

theorem noSign_body (l : List UInt8) (h : (body l).all isDig = true) : noSign l = body l := by
  have hd : ∀ d : List UInt8, d.all isDig = true → noSign d = d := fun d hd => by
    unfold noSign
    rw [List.filter_eq_self]
    intro c hc
    rw [List.all_eq_true] at hd
    have := (isDig_iff c).1 (hd c hc)
    rw [bne_iff_ne]
    intro e
    subst e
    have : (45 : UInt8).toNat = 45 := rfl
    omega
  by_cases hn : neg l = true
  · have hl := body_neg hn
    have := hd _ h
    rw [hl]
    generalize body l = d at this ⊢
    simpa [noSign, body, trimPrefix, hasPrefix] using this
  · have hl := body_pos (by simpa using hn)
    have := hd _ h
    rw [hl] at this ⊢
    exact this

theorem mag_prefix (l : List UInt8) (k : Nat) : mag (noSign (l.take k)) ≤ mag (noSign l) := by
  have hp : noSign (l.take k) <+: noSign l := by
    unfold noSign
    exact List.IsPrefix.filter _ (List.take_prefix k l)
  obtain ⟨r, hr⟩ := hp
  have := mag_take_le (noSign l) (noSign (l.take k)).length
  rw [← hr, List.take_left'] at this
  · rw [← hr]; exact this
  · rfl

/-- The document's own test ahead of each digit. -/
theorem edge_iff (m c : Nat) (hc : c ≤ 9) : (922337203685477580 < m ∨ (m = 922337203685477580 ∧ 8 < c)) ↔ lim < 10 * m + c := by
  unfold lim; omega

theorem digit_or_sign (l : List UInt8) (h : (body l).all isDig = true) (k : Nat) (hk : k < l.length) : l[k] = 45 ∨ isDig l[k] = true := by
  by_cases hn : neg l = true
  · have hl := body_neg hn
    rcases Nat.eq_zero_or_pos k with e | e
    · subst e; left
      have : l[0]? = (45 :: body l)[0]? := by rw [← hl]
      simpa [hk] using this
    · right
      obtain ⟨j, rfl⟩ : ∃ j, k = j + 1 := ⟨k - 1, by omega⟩
      have : l[j + 1]? = (45 :: body l)[j + 1]? := by rw [← hl]
      rw [List.getElem?_eq_getElem hk, List.getElem?_cons_succ] at this
      rw [List.all_eq_true] at h
      exact h _ (List.mem_of_getElem? this.symm)
  · right
    rw [body_pos (by simpa using hn), List.all_eq_true] at h
    exact h _ (List.getElem_mem _)

theorem neg_head (l : List UInt8) (h : 0 < l.length) : neg l = decide (l[0] = 45) := by
  cases l with
  | nil => simp at h
  | cons c r =>
    by_cases hc : c = 45
    · subst hc; simp [neg, hasPrefix]
    · simp [neg, hasPrefix, List.isPrefixOf, Ne.symm hc, hc]

theorem form_pos (l : List UInt8) (h : formB l = true) : 0 < l.length := by
  cases l with
  | nil => exact absurd h (by decide)
  | cons _ _ => simp

end Go.Proofs.YtgoidhlemmdjgaaDoor
