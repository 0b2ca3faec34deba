/-
  Plain facts on offsets: sums, differences, products bit by bit, steps. No program here.
-/
import Derived.Test.YtbaifcbjkmmnbaaGen
import Derived.Lib.BitFns
set_option linter.unusedSimpArgs false
set_option linter.unusedVariables false
namespace Go.Proofs.Ytbaifcbjkmmnbaa
open Go.Lib

/-- An offset. -/
def ofs (n : Int) : Bool := decide (0 ≤ n) && decide (n ≤ 4611686018427387903)

theorem ofs_true {n : Int} (h : ofs n = true) : 0 ≤ n ∧ n ≤ 4611686018427387903 := by
  unfold ofs at h; simpa using h

theorem ofs_mk {n : Int} (h0 : 0 ≤ n) (h1 : n ≤ 4611686018427387903) : ofs n = true := by
  unfold ofs; simp [h0, h1]

theorem ofs_low {n : Int} (h : n < 0) : ofs n = false := by
  unfold ofs; simp; omega

theorem ofs_high {n : Int} (h : 4611686018427387903 < n) : ofs n = false := by
  unfold ofs; simp; omega

theorem ofs_false {n : Int} (h : ofs n = false) : n < 0 ∨ 4611686018427387903 < n := by
  by_cases h0 : n < 0
  · exact .inl h0
  · by_cases h1 : 4611686018427387903 < n
    · exact .inr h1
    · rw [ofs_mk (by omega) (by omega)] at h; cases h

/-- The errors and the numbers, as the document has them. -/
def addE (a b : Int) : Int := if (ofs a && ofs b) = true then (if a + b ≤ 4611686018427387903 then 0 else 10) else 2
def addV (a b : Int) : Int := if addE a b = 0 then a + b else 0
def subE (a b : Int) : Int := if (ofs a && ofs b) = true then (if b ≤ a then 0 else 11) else 2
def subV (a b : Int) : Int := if subE a b = 0 then a - b else 0
def mulE (a n : Int) : Int := if (ofs a && ofs n) = true then (if a * n ≤ 4611686018427387903 then 0 else 10) else 2
def mulV (a n : Int) : Int := if mulE a n = 0 then a * n else 0
def stepE (s l t : Int) : Int := if (ofs s && (ofs l && ofs t)) = true then (if s + l * t ≤ 4611686018427387903 then 0 else 10) else 2
def stepV (s l t : Int) : Int := if stepE s l t = 0 then s + l * t else 0
def timeE (f t l : Int) : Int := if subE t f = 0 then (if l = 0 ∨ ofs l = false then 2 else 0) else subE t f
def timeV (f t l : Int) : Int := if timeE f t l = 0 then (t - f) / l else 0

theorem add_arg {a b : Int} (h : (ofs a && ofs b) = false) : addE a b = 2 ∧ addV a b = 0 := by
  have e : addE a b = 2 := by unfold addE; rw [h]; rfl
  exact ⟨e, by unfold addV; rw [e]; rfl⟩
theorem add_over {a b : Int} (h : (ofs a && ofs b) = true) (ho : 4611686018427387903 < a + b) : addE a b = 10 ∧ addV a b = 0 := by
  have e : addE a b = 10 := by unfold addE; rw [if_pos h, if_neg (by omega)]
  exact ⟨e, by unfold addV; rw [e]; rfl⟩
theorem add_good {a b : Int} (h : (ofs a && ofs b) = true) (ho : a + b ≤ 4611686018427387903) : addE a b = 0 ∧ addV a b = a + b := by
  have e : addE a b = 0 := by unfold addE; rw [if_pos h, if_pos ho]
  exact ⟨e, by unfold addV; rw [if_pos e]⟩

theorem sub_arg {a b : Int} (h : (ofs a && ofs b) = false) : subE a b = 2 ∧ subV a b = 0 := by
  have e : subE a b = 2 := by unfold subE; rw [h]; rfl
  exact ⟨e, by unfold subV; rw [e]; rfl⟩
theorem sub_range {a b : Int} (h : (ofs a && ofs b) = true) (ho : a < b) : subE a b = 11 ∧ subV a b = 0 := by
  have e : subE a b = 11 := by unfold subE; rw [if_pos h, if_neg (by omega)]
  exact ⟨e, by unfold subV; rw [e]; rfl⟩
theorem sub_good {a b : Int} (h : (ofs a && ofs b) = true) (ho : b ≤ a) : subE a b = 0 ∧ subV a b = a - b := by
  have e : subE a b = 0 := by unfold subE; rw [if_pos h, if_pos ho]
  exact ⟨e, by unfold subV; rw [if_pos e]⟩

theorem mul_arg {a b : Int} (h : (ofs a && ofs b) = false) : mulE a b = 2 ∧ mulV a b = 0 := by
  have e : mulE a b = 2 := by unfold mulE; rw [h]; rfl
  exact ⟨e, by unfold mulV; rw [e]; rfl⟩
theorem mul_over {a b : Int} (h : (ofs a && ofs b) = true) (ho : 4611686018427387903 < a * b) : mulE a b = 10 ∧ mulV a b = 0 := by
  have e : mulE a b = 10 := by unfold mulE; rw [if_pos h, if_neg (by omega)]
  exact ⟨e, by unfold mulV; rw [e]; rfl⟩
theorem mul_good {a b : Int} (h : (ofs a && ofs b) = true) (ho : a * b ≤ 4611686018427387903) : mulE a b = 0 ∧ mulV a b = a * b := by
  have e : mulE a b = 0 := by unfold mulE; rw [if_pos h, if_pos ho]
  exact ⟨e, by unfold mulV; rw [if_pos e]⟩

theorem step_arg {s l t : Int} (h : (ofs s && (ofs l && ofs t)) = false) : stepE s l t = 2 ∧ stepV s l t = 0 := by
  have e : stepE s l t = 2 := by unfold stepE; rw [h]; rfl
  exact ⟨e, by unfold stepV; rw [e]; rfl⟩
theorem step_over {s l t : Int} (h : (ofs s && (ofs l && ofs t)) = true) (ho : 4611686018427387903 < s + l * t) : stepE s l t = 10 ∧ stepV s l t = 0 := by
  have e : stepE s l t = 10 := by unfold stepE; rw [if_pos h, if_neg (by omega)]
  exact ⟨e, by unfold stepV; rw [e]; rfl⟩
theorem step_good {s l t : Int} (h : (ofs s && (ofs l && ofs t)) = true) (ho : s + l * t ≤ 4611686018427387903) : stepE s l t = 0 ∧ stepV s l t = s + l * t := by
  have e : stepE s l t = 0 := by unfold stepE; rw [if_pos h, if_pos ho]
  exact ⟨e, by unfold stepV; rw [if_pos e]⟩

theorem time_sub {f t l : Int} (h : subE t f ≠ 0) : timeE f t l = subE t f ∧ timeV f t l = 0 := by
  have e : timeE f t l = subE t f := by unfold timeE; rw [if_neg h]
  exact ⟨e, by unfold timeV; rw [e, if_neg h]⟩
theorem time_arg {f t l : Int} (h : subE t f = 0) (hl : l = 0 ∨ ofs l = false) : timeE f t l = 2 ∧ timeV f t l = 0 := by
  have e : timeE f t l = 2 := by unfold timeE; rw [if_pos h, if_pos hl]
  exact ⟨e, by unfold timeV; rw [e]; rfl⟩
theorem time_good {f t l : Int} (h : subE t f = 0) (h0 : l ≠ 0) (hl : ofs l = true) : timeE f t l = 0 ∧ timeV f t l = (t - f) / l := by
  have e : timeE f t l = 0 := by unfold timeE; rw [if_pos h, if_neg (by rw [hl]; simp [h0])]
  exact ⟨e, by unfold timeV; rw [if_pos e]⟩

theorem both {x y : Bool} (h : (x && y) = true) : x = true ∧ y = true := by simpa using h

/-- The product's bounds, by how often the one goes into what there is. -/
theorem mul_fits {a n : Int} (ha : 0 < a) (hn : 0 ≤ n) : (n ≤ 4611686018427387903 / a ↔ a * n ≤ 4611686018427387903) := by
  rw [Int.le_ediv_iff_mul_le ha, Int.mul_comm]

theorem quo_top {a : Int} (ha : 0 < a) : Int.tdiv 4611686018427387903 a = 4611686018427387903 / a ∧ 0 ≤ 4611686018427387903 / a ∧ 4611686018427387903 / a ≤ 4611686018427387903 := by
  refine ⟨Int.tdiv_eq_ediv_of_nonneg (by decide), Int.ediv_nonneg (by decide) (by omega), ?_⟩
  exact Int.ediv_le_self _ (by decide)

theorem quo_any {d l : Int} (hd : 0 ≤ d) (hl : 0 < l) : Int.tdiv d l = d / l ∧ 0 ≤ d / l ∧ d / l ≤ d :=
  ⟨Int.tdiv_eq_ediv_of_nonneg hd, Int.ediv_nonneg hd (by omega), Int.ediv_le_self _ hd⟩

/-- One bit more of the second factor. -/
theorem mul_bit (a n : Int) (i : Nat) (ha : 0 ≤ a) (hn : 0 ≤ n) :
    0 ≤ n / 2 ^ i ∧ n / 2 ^ i ≤ n ∧ n / 2 ^ i = 2 * (n / 2 ^ (i + 1)) + n / 2 ^ i % 2 ∧
    a * (n / 2 ^ i) = 2 * (a * (n / 2 ^ (i + 1))) + a * (n / 2 ^ i % 2) ∧ 0 ≤ a * (n / 2 ^ (i + 1)) ∧ a * (n / 2 ^ i) ≤ a * n := by
  have hp : (0 : Int) < 2 ^ i := Int.pow_pos (by decide)
  have h0 : 0 ≤ n / 2 ^ i := Int.ediv_nonneg hn (by omega)
  have h1 : n / 2 ^ i ≤ n := Int.ediv_le_self _ hn
  have h2 : n / 2 ^ (i + 1) = n / 2 ^ i / 2 := by rw [Int.pow_succ, Int.ediv_ediv_of_nonneg (by omega)]
  have h3 : n / 2 ^ i = 2 * (n / 2 ^ (i + 1)) + n / 2 ^ i % 2 := by rw [h2]; omega
  refine ⟨h0, h1, h3, ?_, Int.mul_nonneg ha (by rw [h2]; omega), Int.mul_le_mul_of_nonneg_left h1 ha⟩
  rw [h2]
  generalize n / 2 ^ i = q at *
  rw [← Int.mul_assoc, Int.mul_comm 2 a, Int.mul_assoc, ← Int.mul_add]
  congr 1
  omega

theorem mul_none (n : Int) (h0 : 0 ≤ n) (h1 : n ≤ 4611686018427387903) : n / 2 ^ 62 = 0 := Int.ediv_eq_zero_of_lt h0 (by omega)

theorem and_one (n : Int) (h0 : 0 ≤ n) (h1 : n ≤ 9223372036854775807) : bits .and .i64 n 1 = n % 2 := by
  obtain ⟨a, rfl⟩ := Int.eq_ofNat_of_zero_le h0
  have h := (bits_nat .i64 63 (by decide) (fun n h0 h1 => by rw [IntKind.wrap_i64]; omega) a 1 (by omega) (by decide)).1
  rw [Nat.and_one_is_mod] at h
  simpa using h

/-- Steps between two offsets: so many do not lead beyond, one more does. -/
theorem steps_between {f t l : Int} (hf : 0 ≤ f) (hl : 0 < l) (ht : f ≤ t) :
    0 ≤ (t - f) / l ∧ 0 ≤ l * ((t - f) / l) ∧ f + l * ((t - f) / l) ≤ t ∧ t < f + l * ((t - f) / l) + l ∧ (t - f) / l ≤ t := by
  have h0 : 0 ≤ (t - f) / l := Int.ediv_nonneg (by omega) (by omega)
  have h1 := Int.mul_ediv_add_emod (t - f) l
  have h2 := Int.emod_nonneg (t - f) (show l ≠ 0 by omega)
  have h3 := Int.emod_lt_of_pos (t - f) hl
  have h4 : (t - f) / l ≤ t - f := Int.ediv_le_self _ (by omega)
  refine ⟨h0, Int.mul_nonneg (by omega) h0, ?_, ?_, ?_⟩ <;> omega

end Go.Proofs.Ytbaifcbjkmmnbaa
