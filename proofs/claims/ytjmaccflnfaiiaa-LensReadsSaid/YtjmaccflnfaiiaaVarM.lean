/-
  Plain facts on numbers as bytes to the base 128. No program here.
-/
import Derived.Test.YtjmaccflnfaiiaaBn1
import Derived.Lib.Varint
import Derived.Lib.BitFns
set_option linter.unusedSimpArgs false
set_option linter.unusedVariables false
namespace Go.Proofs.Ytjmaccflnfaiiaa
open Go.Lib

/-- A number's bytes; none of a number below 0. -/
def vput (n : Int) : List UInt8 := if n < 0 then [] else uvarint n.toNat

theorem vput_neg (n : Int) (h : n < 0) : vput n = [] := by unfold vput; rw [if_pos h]

/-- The byte of a number below 256. -/
def vb (n : Int) : UInt8 := UInt8.ofNat n.toNat

theorem vb_toNat (n : Int) (h0 : 0 ≤ n) (h : n < 256) : ((vb n).toNat : Int) = n := by
  unfold vb; simp; omega

theorem vput_small (n : Int) (h0 : 0 ≤ n) (h : n < 128) : vput n = [vb n] := by
  unfold vput vb; rw [if_neg (by omega), uvarint_small (by omega)]

theorem vput_big (n : Int) (h : 128 ≤ n) : vput n = vb (n % 128 + 128) :: vput (n / 128) := by
  unfold vput vb
  rw [if_neg (by omega), if_neg (by omega), uvarint_big (by omega), show (n / 128).toNat = n.toNat / 128 by omega, show (n % 128 + 128).toNat = n.toNat % 128 + 128 by omega]

theorem vput_length (n : Int) (h : n ≤ 9223372036854775807) : (vput n).length ≤ 9 := by
  unfold vput
  split
  · simp
  · exact uvarint_length 8 _ (by omega)

theorem vput_pos (n : Int) (h : 0 ≤ n) : 1 ≤ (vput n).length := by
  unfold vput; rw [if_neg (by omega)]; exact uvarint_pos _

theorem ulen_mono : ∀ (b a : Nat), a ≤ b → (uvarint a).length ≤ (uvarint b).length := by
  intro b
  induction b using Nat.strongRecOn with
  | _ b ih =>
    intro a h
    by_cases hb : b < 128
    · rw [uvarint_small hb, uvarint_small (by omega)]; simp
    · rw [uvarint_big (x := b) (by omega)]
      by_cases ha : a < 128
      · rw [uvarint_small ha]; simp
      · rw [uvarint_big (x := a) (by omega), List.length_cons, List.length_cons]
        have := ih (b / 128) (by omega) (a / 128) (by omega)
        omega

theorem vlen_mono (n m : Int) (h : m ≤ n) : (vput m).length ≤ (vput n).length := by
  unfold vput
  by_cases hm : m < 0
  · rw [if_pos hm]; simp
  · rw [if_neg hm, if_neg (by omega)]; exact ulen_mono _ _ (by omega)

theorem bitLen_small : ∀ n : Fin 128, 1 ≤ n.val → 1 ≤ bitLen n.val ∧ bitLen n.val ≤ 7 := by decide +kernel

theorem bitLen_ulen : ∀ (m : Nat), 1 ≤ m → m < 2 ^ 64 → (bitLen m + 6) / 7 = (uvarint m).length := by
  intro m
  induction m using Nat.strongRecOn with
  | _ m ih =>
    intro h1 h
    by_cases hs : m < 128
    · have := bitLen_small ⟨m, hs⟩ h1
      rw [uvarint_small hs, List.length_singleton]
      simp only at this
      omega
    · have e := bitLen_shift 7 m (by omega) h
      have := ih (m / 128) (by omega) (by omega) (by omega)
      rw [uvarint_big (by omega), List.length_cons, e]
      have e2 : m / 2 ^ 7 = m / 128 := rfl
      rw [e2]
      omega

theorem or_one (n : Nat) : (n ||| 1) = 2 * (n / 2) + 1 := by
  have h := Nat.two_pow_add_eq_or_of_lt (i := 1) (b := 1) (by decide) (n / 2)
  have h2 : 2 ^ 1 * (n / 2) ||| 1 = n ||| 1 := by
    apply Nat.eq_of_testBit_eq
    intro i
    rw [Nat.testBit_or, Nat.testBit_or]
    cases i with
    | zero => simp
    | succ i => simp [Nat.testBit_succ]
  rw [← h2, ← h]

theorem ulen_or (n : Nat) : (uvarint (n ||| 1)).length = (uvarint n).length := by
  rw [or_one]
  by_cases h : n < 128
  · rw [uvarint_small h, uvarint_small (by omega)]; simp
  · rw [uvarint_big (x := n) (by omega), uvarint_big (by omega), show (2 * (n / 2) + 1) / 128 = n / 128 by omega]; simp

theorem wraps_i64 (n : Int) (h₀ : 0 ≤ n) (h₁ : n < 2 ^ 63) : IntKind.i64.wrap n = n := by rw [IntKind.wrap_i64]; omega

theorem or_i64_one (n : Int) (h0 : 0 ≤ n) (h1 : n ≤ 9223372036854775807) : bits .or .i64 n 1 = ((n.toNat ||| 1 : Nat) : Int) := by
  obtain ⟨a, rfl⟩ := Int.eq_ofNat_of_zero_le h0
  have := (bits_nat .i64 63 (by decide) wraps_i64 a 1 (by omega) (by decide)).2
  simpa using this

theorem or_i64_seven (x c : Int) (h0 : 0 ≤ x) (h1 : x < 72057594037927936) (c0 : 0 ≤ c) (c1 : c < 128) : bits .or .i64 (x * 128) c = x * 128 + c :=
  bits_join .i64 63 (by decide) wraps_i64 7 _ _ (by omega) (by omega) (by omega) c0 (by omega) (by omega)

/-- How many bits a number needs, and so how many bytes. -/
theorem size_bits (n : Int) (h0 : 0 ≤ n) (h1 : n ≤ 9223372036854775807) :
    0 ≤ bits .or .i64 n 1 ∧ bits .or .i64 n 1 ≤ 9223372036854775807 ∧ bitLen (bits .or .i64 n 1).toNat ≤ 64 ∧ ((bitLen (bits .or .i64 n 1).toNat : Int) + 6) / 7 = ((vput n).length : Int) := by
  rw [or_i64_one n h0 h1]
  have ho := or_one n.toNat
  have hl : (n.toNat ||| 1) < 2 ^ 63 := by omega
  have hb := bitLen_ulen (n.toNat ||| 1) (by omega) (by omega)
  rw [ulen_or] at hb
  have hle := bitLen_le (n.toNat ||| 1) 64 (by omega) (by omega)
  rw [show (((n.toNat ||| 1 : Nat) : Int)).toNat = (n.toNat ||| 1) from by simp]
  unfold vput
  rw [if_neg (by omega)]
  refine ⟨by omega, by omega, hle, ?_⟩
  omega

/-- The bytes of numbers, one behind the other. -/
def vall : List Int → List UInt8
  | [] => []
  | n :: r => vput n ++ vall r

theorem vall_snoc (l : List Int) (n : Int) : vall (l ++ [n]) = vall l ++ vput n := by
  induction l with
  | nil => simp [vall]
  | cons x r ih => simp [vall, ih]

theorem vall_length (l : List Int) (h : Int64s l) : (vall l).length ≤ 9 * l.length := by
  induction l with
  | nil => simp [vall]
  | cons x r ih =>
    have hx := vput_length x (h x (by simp)).2
    have := ih (fun y hy => h y (by simp [hy]))
    simp only [vall, List.length_append, List.length_cons]
    omega

/-- The number that bytes make, the lowest digit first. -/
def val : List UInt8 → Nat
  | [] => 0
  | c :: r => c.toNat % 128 + 128 * val r

theorem val_lt : ∀ (l : List UInt8), val l < 128 ^ l.length
  | [] => by simp [val]
  | c :: r => by
    have := val_lt r
    simp only [val, List.length_cons, Nat.pow_succ]
    omega

/-- Bytes that are of the form of a number's: all but the last one are 128 or more, the last one is below, and not 0 unless alone. -/
def Form (p : List UInt8) (c : UInt8) : Prop := (∀ x ∈ p, 128 ≤ x.toNat) ∧ c.toNat < 128 ∧ (c.toNat ≠ 0 ∨ p = [])

theorem form_val_pos : ∀ (p : List UInt8) (c : UInt8), c.toNat < 128 → c.toNat ≠ 0 → 1 ≤ val (p ++ [c])
  | [], c, h, h0 => by simp [val]; omega
  | a :: p, c, h, h0 => by
    have := form_val_pos p c h h0
    simp only [List.cons_append, val]
    omega

theorem byte_of (c : UInt8) (h : 128 ≤ c.toNat) : (c.toNat % 128 + 128).toUInt8 = c := by
  have hl := c.toNat_lt
  rw [show c.toNat % 128 + 128 = c.toNat by omega]
  simp

theorem form_put : ∀ (p : List UInt8) (c : UInt8), Form p c → uvarint (val (p ++ [c])) = p ++ [c]
  | [], c, ⟨_, h, _⟩ => by
    have e : val ([] ++ [c]) = c.toNat := by simp [val]; omega
    rw [e, uvarint_small h]; simp
  | a :: p, c, ⟨hp, h, h0⟩ => by
    have hc : c.toNat ≠ 0 := by rcases h0 with h0 | h0; exact h0; simp at h0
    have ih := form_put p c ⟨fun x hx => hp x (by simp [hx]), h, .inl hc⟩
    have hpos := form_val_pos p c h hc
    have ha := hp a (by simp)
    simp only [List.cons_append, val]
    rw [uvarint_big (by omega), show (a.toNat % 128 + 128 * val (p ++ [c])) % 128 = a.toNat % 128 by omega, show (a.toNat % 128 + 128 * val (p ++ [c])) / 128 = val (p ++ [c]) by omega, byte_of a ha, ih]

theorem put_form (n : Nat) : ∃ p c, uvarint n = p ++ [c] ∧ Form p c ∧ val (p ++ [c]) = n := by
  induction n using Nat.strongRecOn with
  | _ n ih =>
    by_cases h : n < 128
    · have e : (n.toUInt8).toNat = n := by simp; omega
      refine ⟨[], n.toUInt8, uvarint_small h, ⟨by simp, by omega, .inr rfl⟩, ?_⟩
      simp only [List.nil_append, val, e]; omega
    · obtain ⟨p, c, e, ⟨hp, hc, h0⟩, hv⟩ := ih (n / 128) (by omega)
      have eb : ((n % 128 + 128).toUInt8).toNat = n % 128 + 128 := by simp; omega
      refine ⟨(n % 128 + 128).toUInt8 :: p, c, by rw [uvarint_big (by omega), e]; rfl, ⟨?_, hc, .inl ?_⟩, ?_⟩
      · intro x hx
        simp only [List.mem_cons] at hx
        rcases hx with rfl | hx
        · omega
        · exact hp x hx
      · rcases h0 with h0 | h0
        · exact h0
        · subst h0
          simp only [List.nil_append, val] at hv
          intro hz
          omega
      · simp only [List.cons_append, val, hv, eb]; omega

/-- How many bytes of 128 or more stand ahead. -/
def hi : List UInt8 → Nat
  | [] => 0
  | c :: r => if 128 ≤ c.toNat then hi r + 1 else 0

theorem hi_le : ∀ (l : List UInt8), hi l ≤ l.length
  | [] => Nat.le_refl _
  | c :: r => by have := hi_le r; simp only [hi, List.length_cons]; split <;> omega

theorem hi_high : ∀ (l : List UInt8) (i : Nat) (h : i < l.length), i < hi l → 128 ≤ l[i].toNat
  | c :: r, i, h, hl => by
    simp only [hi] at hl
    split at hl
    · cases i with
      | zero => simpa using ‹128 ≤ c.toNat›
      | succ i => simpa using hi_high r i (by simpa using h) (by omega)
    · omega

theorem hi_low : ∀ (l : List UInt8) (h : hi l < l.length), l[hi l].toNat < 128
  | c :: r, h => by
    by_cases hc : 128 ≤ c.toNat
    · have e : hi (c :: r) = hi r + 1 := by simp [hi, hc]
      have h' : hi r < r.length := by rw [e] at h; simpa using h
      have := hi_low r h'
      simp only [e, List.getElem_cons_succ]
      exact this
    · have e : hi (c :: r) = 0 := by simp [hi, hc]
      simp only [e, List.getElem_cons_zero]
      omega

/-- The first byte below 128 tells it. -/
theorem hi_at (l : List UInt8) (k : Nat) (h : k < l.length) (hb : ∀ i (hi : i < l.length), i < k → 128 ≤ l[i].toNat) (hk : l[k].toNat < 128) : hi l = k := by
  have h1 : ¬ k < hi l := fun hlt => by have := hi_high l k h hlt; omega
  have h2 : ¬ hi l < k := fun hlt => by
    have := hi_low l (by omega)
    have := hb (hi l) (by omega) hlt
    omega
  omega

theorem hi_ge (l : List UInt8) (k : Nat) (h : k ≤ l.length) (hb : ∀ i (hi : i < l.length), i < k → 128 ≤ l[i].toNat) : k ≤ hi l := by
  rcases Nat.lt_or_ge (hi l) k with hlt | hge
  · have := hi_low l (by omega)
    have := hb (hi l) (by omega) hlt
    omega
  · exact hge

/-- What Take answers of bytes: the error, the size, the number. -/
def tE (l : List UInt8) : Int := if 9 ≤ hi l then 5 else if hi l = l.length then 4 else if l.getD (hi l) 0 = 0 ∧ 0 < hi l then 3 else 0
def tS (l : List UInt8) : Int := if tE l = 0 then (hi l : Int) + 1 else 0
def tN (l : List UInt8) : Int := if tE l = 0 then (val (l.take (hi l + 1)) : Int) else 0

theorem t_long (l : List UInt8) (h : 9 ≤ hi l) : tE l = 5 ∧ tS l = 0 ∧ tN l = 0 := by
  have e : tE l = 5 := by unfold tE; rw [if_pos h]
  unfold tS tN; rw [e]; simp

theorem t_short (l : List UInt8) (h : ¬ 9 ≤ hi l) (h2 : hi l = l.length) : tE l = 4 ∧ tS l = 0 ∧ tN l = 0 := by
  have e : tE l = 4 := by unfold tE; rw [if_neg h, if_pos h2]
  unfold tS tN; rw [e]; simp

theorem t_form (l : List UInt8) (h : ¬ 9 ≤ hi l) (h2 : hi l < l.length) (h3 : l[hi l].toNat = 0) (h4 : 0 < hi l) : tE l = 3 ∧ tS l = 0 ∧ tN l = 0 := by
  have hz : l.getD (hi l) 0 = 0 := by
    have : l[hi l] = 0 := UInt8.toNat_inj.1 (by simpa using h3)
    simp [List.getD, h2, this]
  have e : tE l = 3 := by unfold tE; rw [if_neg h, if_neg (by omega), if_pos ⟨hz, h4⟩]
  unfold tS tN; rw [e]; simp

theorem t_ok (l : List UInt8) (h : ¬ 9 ≤ hi l) (h2 : hi l < l.length) (h3 : l[hi l].toNat ≠ 0 ∨ hi l = 0) : tE l = 0 ∧ tS l = (hi l : Int) + 1 ∧ tN l = (val (l.take (hi l + 1)) : Int) := by
  have e : tE l = 0 := by
    unfold tE
    rw [if_neg h, if_neg (by omega), if_neg]
    rintro ⟨hz, h4⟩
    have : l[hi l] = 0 := by simpa [List.getD, h2] using hz
    rw [this] at h3
    simp at h3; omega
  unfold tS tN; rw [e]; simp

/-- What was put is taken as it was, whatever stands behind it. -/
theorem take_put (n : Int) (h0 : 0 ≤ n) (h1 : n ≤ 9223372036854775807) (s : List UInt8) :
    tN (vput n ++ s) = n ∧ tS (vput n ++ s) = ((vput n).length : Int) ∧ tE (vput n ++ s) = 0 := by
  have hlen := vput_length n h1
  unfold vput at hlen ⊢
  rw [if_neg (by omega)] at hlen ⊢
  obtain ⟨p, c, e, ⟨hp, hc, hz⟩, hv⟩ := put_form n.toNat
  rw [e] at hlen ⊢
  have hpl : p.length ≤ 8 := by simp at hlen; omega
  have hh : hi (p ++ [c] ++ s) = p.length := by
    refine hi_at _ _ (by simp) (fun i hi hlt => ?_) (by simp; exact hc)
    have : (p ++ [c] ++ s)[i] = p[i] := by simp [List.getElem_append, hlt]
    rw [this]
    exact hp _ (List.getElem_mem _)
  have ho := t_ok (p ++ [c] ++ s) (by rw [hh]; omega) (by rw [hh]; simp) (by
    rcases hz with hz | hz
    · left; simp only [hh]; simpa using hz
    · right; rw [hh, hz]; rfl)
  obtain ⟨o1, o2, o3⟩ := ho
  refine ⟨?_, ?_, o1⟩
  · rw [o3, hh]
    have : (p ++ [c] ++ s).take (p.length + 1) = p ++ [c] := by
      rw [List.take_append_of_le_length (by simp)]
      rw [List.take_of_length_le (by simp)]
    rw [this, hv, Int.toNat_of_nonneg h0]
  · rw [o2, hh]; simp

/-- Bytes that are taken are those that are put of the number. -/
theorem put_take (l : List UInt8) (h : tE l = 0) : 1 ≤ tS l ∧ tS l ≤ l.length ∧ vput (tN l) = l.take (tS l).toNat := by
  have hle := hi_le l
  by_cases h9 : 9 ≤ hi l
  · have := (t_long l h9).1; omega
  by_cases hs : hi l = l.length
  · have := (t_short l h9 hs).1; omega
  have hlt : hi l < l.length := by omega
  by_cases hz : l[hi l].toNat = 0 ∧ 0 < hi l
  · have := (t_form l h9 hlt hz.1 hz.2).1; omega
  obtain ⟨_, e2, e3⟩ := t_ok l h9 hlt (by omega)
  have hlow := hi_low l hlt
  have ht : l.take (hi l + 1) = l.take (hi l) ++ [l[hi l]] := List.take_succ_eq_append_getElem hlt
  have hf : Form (l.take (hi l)) l[hi l] := by
    refine ⟨fun x hx => ?_, hlow, ?_⟩
    · obtain ⟨i, hi', rfl⟩ := List.getElem_of_mem hx
      rw [List.length_take] at hi'
      rw [List.getElem_take]
      exact hi_high l i (by omega) (by omega)
    · by_cases h0 : hi l = 0
      · right; rw [h0]; simp
      · left; omega
  have hp := form_put _ _ hf
  rw [e2, e3]
  refine ⟨by omega, by omega, ?_⟩
  unfold vput
  rw [if_neg (by omega), show ((hi l : Int) + 1).toNat = hi l + 1 by omega, ht, Int.toNat_natCast, hp]

/-- One digit more, from the highest one on. -/
theorem val_drop (l : List UInt8) (k : Nat) (h : k < l.length) : val (l.drop k) = l[k].toNat % 128 + 128 * val (l.drop (k + 1)) := by
  rw [List.drop_eq_getElem_cons h]; rfl

/-- The number that the bytes from the k-th on make, of those that are a number's. -/
def upto (l : List UInt8) (k : Nat) : Nat := val ((l.take (hi l + 1)).drop k)

theorem upto_step (l : List UInt8) (j : Nat) (hj : j ≤ hi l) (hlt : hi l < l.length) : upto l j = (l[j]'(by omega)).toNat % 128 + 128 * upto l (j + 1) := by
  unfold upto
  rw [val_drop _ j (by rw [List.length_take]; omega), List.getElem_take]

theorem upto_lt (l : List UInt8) (j : Nat) (h1 : 1 ≤ j) (h9 : ¬ 9 ≤ hi l) : upto l j < 72057594037927936 := by
  unfold upto
  have h := val_lt ((l.take (hi l + 1)).drop j)
  have hl : ((l.take (hi l + 1)).drop j).length ≤ 8 := by rw [List.length_drop, List.length_take]; omega
  exact Nat.lt_of_lt_of_le h (Nat.le_trans (Nat.pow_le_pow_right (by decide) hl) (by decide))

theorem upto_end (l : List UInt8) : upto l (hi l + 1) = 0 := by
  unfold upto
  rw [List.drop_of_length_le (by rw [List.length_take]; omega)]; rfl

theorem upto_all (l : List UInt8) : upto l 0 = val (l.take (hi l + 1)) := rfl

theorem tN_bounds (l : List UInt8) : 0 ≤ tN l ∧ tN l ≤ 9223372036854775807 := by
  unfold tN
  split
  · rename_i h
    have h9 : ¬ 9 ≤ hi l := fun h' => by have := (t_long l h').1; omega
    have hv := val_lt (l.take (hi l + 1))
    have hl : (l.take (hi l + 1)).length ≤ 9 := by rw [List.length_take]; omega
    have := Nat.lt_of_lt_of_le hv (Nat.pow_le_pow_right (by decide) hl)
    have e : 128 ^ 9 = 9223372036854775808 := by decide
    omega
  · omega

end Go.Proofs.Ytjmaccflnfaiiaa
