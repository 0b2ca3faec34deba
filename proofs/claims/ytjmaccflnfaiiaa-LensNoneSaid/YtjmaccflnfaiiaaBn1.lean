/-
  Texts put together: Gen, RkM, AfM, PtM, BuM.
-/
import Derived.Lib.Builder
import Derived.Laws.IdiomStrings
import Derived.Lib.BitFns
import Derived.Lib.Bytealg
set_option linter.unusedSimpArgs false
set_option linter.unusedVariables false
namespace Go.Proofs.Ytjmaccflnfaiiaa
open Go.Lib

theorem bsize (l : List UInt8) : (⟨l.toArray⟩ : ByteArray).size = l.length := by simp [ByteArray.size]

theorem byteAt (d : List UInt8) (k : Nat) (h : k < d.length) (h' : k < (⟨d.toArray⟩ : ByteArray).size) : (⟨d.toArray⟩ : ByteArray)[k]'h' = d[k] := by
  show d.toArray[k] = d[k]
  simp

theorem full_of_pos (d : List UInt8) (h : 0 < d.length) : d.isEmpty = false := by
  cases d with
  | nil => simp at h
  | cons _ _ => rfl

def Int64s (l : List Int) : Prop := ∀ x ∈ l, -9223372036854775808 ≤ x ∧ x ≤ 9223372036854775807

theorem BuilderAt.below {T e : TypeId} {B b : Nat} {p : Value} {bs : List Value} {W W' : World} (h : Lib.BuilderAt T e B b p bs W) (hb : RowKit.Below W.heap.size W W') : Lib.BuilderAt T e B b p bs W' := by
  have hlt := h.lt
  obtain ⟨hB, v, hv, hown, hne⟩ := h
  exact ⟨hB, v, (hb.block b hlt).trans hv, hown.kept (row := none) ⟨hb.os, hb.tape, hb.output, hb.size, fun k hk _ => hb.block k hk⟩ (Classical.em _), hne⟩

theorem IsBuilder.below {T e : TypeId} {B b : Nat} {bs : List Value} {W W' : World} (h : Lib.IsBuilder T e B b bs W) (hb : RowKit.Below W.heap.size W W') : Lib.IsBuilder T e B b bs W' :=
  h.elim (fun x => .inl (BuilderAt.below x hb)) (fun x => .inr (BuilderAt.below x hb))

theorem IsBuilder.lt {T e : TypeId} {B b : Nat} {bs : List Value} {W : World} (h : Lib.IsBuilder T e B b bs W) : b < W.heap.size :=
  h.elim (fun x => x.lt) (fun x => x.lt)

theorem getD_at (l : List Int) (k : Nat) (h : k < l.length) : l.getD k 0 = l[k] := by simp [List.getD, h]

theorem getD_in (l : List Int) (k : Nat) (h : k < l.length) : l.getD k 0 ∈ l := by rw [getD_at l k h]; exact List.getElem_mem _

theorem take_snoc (l : List Int) (k : Nat) (h : k < l.length) : l.take (k + 1) = l.take k ++ [l.getD k 0] := by
  rw [List.take_succ_eq_append_getElem h, getD_at l k h]

/-- A slice of integers that came in: empty, or a row of 'cap' cells, the numbers 'zs' (the first 'len' are its elements). -/
def IsRow (k : IntKind) (w : World) (a : Option Addr) (len cap : Nat) (zs : List Int) : Prop :=
  len = 0 ∨ ∃ b off, a = some ⟨b, off, none⟩ ∧ len ≤ cap ∧ cap ≤ maxLen ∧ zs.length = cap ∧ (∀ i, i < cap → w.cell? ⟨b, off + i, none⟩ = some (.int k (zs.getD i 0)))

theorem IsRow.below {k : IntKind} {w w' : World} {a : Option Addr} {len cap : Nat} {zs : List Int} (h : IsRow k w a len cap zs) (hb : RowKit.Below w.heap.size w w') : IsRow k w' a len cap zs := by
  rcases h with h | ⟨b, off, ha, hl, hm, hz, hc⟩
  · exact .inl h
  · refine .inr ⟨b, off, ha, hl, hm, hz, fun i hi => ?_⟩
    have h1 := hc i hi
    rw [hb.cell (p := ⟨b, off + i, none⟩) (World.block_lt_of_cell? w _ h1)]
    exact h1

theorem heap_lt {w : World} {b : Nat} {o : Obj} (h : w.heap[b]? = some o) : b < w.heap.size := (Array.getElem?_eq_some_iff.1 h).1

theorem set_put {w : World} {b i : Nat} {cs : Array Value} {T : TypeId} (h : w.heap[b]? = some (.cells cs T (0, 0))) (u : Value) : (w.setCell ⟨b, i, none⟩ u).heap[b]? = some (.cells (cs.setIfInBounds i u) T (0, 0)) := by
  simp [World.setCell, Array.getElem?_modify, h]

theorem addPlain (b o j : Nat) : (⟨b, o, none⟩ : Addr).add j = ⟨b, o + j, none⟩ := by simp [Addr.add]

end Go.Proofs.Ytjmaccflnfaiiaa

namespace Go.Proofs.Ytjmaccflnfaiiaa
open Go.Lib

/-- An offset. -/
def ofs (n : Int) : Bool := decide (0 ≤ n) && decide (n ≤ 4611686018427387903)

theorem ofs_true {n : Int} (h : ofs n = true) : 0 ≤ n ∧ n ≤ 4611686018427387903 := by
  unfold ofs at h; simpa using h

theorem ofs_mk {n : Int} (h0 : 0 ≤ n) (h1 : n ≤ 4611686018427387903) : ofs n = true := by
  unfold ofs; simp [h0, h1]

theorem ofs_low {n : Int} (h : n < 0) : ofs n = false := by
  unfold ofs; simp; omega

theorem ofs_high {n : Int} (h : 4611686018427387903 < n) : ofs n = false := by
  unfold ofs; simp; omega

theorem ofs_false {n : Int} (h : ofs n = false) : n < 0 ∨ 4611686018427387903 < n := by
  by_cases h0 : n < 0
  · exact .inl h0
  · by_cases h1 : 4611686018427387903 < n
    · exact .inr h1
    · rw [ofs_mk (by omega) (by omega)] at h; cases h

/-- The errors and the numbers, as the document has them. -/
def addE (a b : Int) : Int := if (ofs a && ofs b) = true then (if a + b ≤ 4611686018427387903 then 0 else 10) else 2
def addV (a b : Int) : Int := if addE a b = 0 then a + b else 0
def subE (a b : Int) : Int := if (ofs a && ofs b) = true then (if b ≤ a then 0 else 11) else 2
def subV (a b : Int) : Int := if subE a b = 0 then a - b else 0
def mulE (a n : Int) : Int := if (ofs a && ofs n) = true then (if a * n ≤ 4611686018427387903 then 0 else 10) else 2
def mulV (a n : Int) : Int := if mulE a n = 0 then a * n else 0
def stepE (s l t : Int) : Int := if (ofs s && (ofs l && ofs t)) = true then (if s + l * t ≤ 4611686018427387903 then 0 else 10) else 2
def stepV (s l t : Int) : Int := if stepE s l t = 0 then s + l * t else 0
def timeE (f t l : Int) : Int := if subE t f = 0 then (if l = 0 ∨ ofs l = false then 2 else 0) else subE t f
def timeV (f t l : Int) : Int := if timeE f t l = 0 then (t - f) / l else 0

theorem add_arg {a b : Int} (h : (ofs a && ofs b) = false) : addE a b = 2 ∧ addV a b = 0 := by
  have e : addE a b = 2 := by unfold addE; rw [h]; rfl
  exact ⟨e, by unfold addV; rw [e]; rfl⟩
theorem add_over {a b : Int} (h : (ofs a && ofs b) = true) (ho : 4611686018427387903 < a + b) : addE a b = 10 ∧ addV a b = 0 := by
  have e : addE a b = 10 := by unfold addE; rw [if_pos h, if_neg (by omega)]
  exact ⟨e, by unfold addV; rw [e]; rfl⟩
theorem add_good {a b : Int} (h : (ofs a && ofs b) = true) (ho : a + b ≤ 4611686018427387903) : addE a b = 0 ∧ addV a b = a + b := by
  have e : addE a b = 0 := by unfold addE; rw [if_pos h, if_pos ho]
  exact ⟨e, by unfold addV; rw [if_pos e]⟩

theorem sub_arg {a b : Int} (h : (ofs a && ofs b) = false) : subE a b = 2 ∧ subV a b = 0 := by
  have e : subE a b = 2 := by unfold subE; rw [h]; rfl
  exact ⟨e, by unfold subV; rw [e]; rfl⟩
theorem sub_range {a b : Int} (h : (ofs a && ofs b) = true) (ho : a < b) : subE a b = 11 ∧ subV a b = 0 := by
  have e : subE a b = 11 := by unfold subE; rw [if_pos h, if_neg (by omega)]
  exact ⟨e, by unfold subV; rw [e]; rfl⟩
theorem sub_good {a b : Int} (h : (ofs a && ofs b) = true) (ho : b ≤ a) : subE a b = 0 ∧ subV a b = a - b := by
  have e : subE a b = 0 := by unfold subE; rw [if_pos h, if_pos ho]
  exact ⟨e, by unfold subV; rw [if_pos e]⟩

theorem mul_arg {a b : Int} (h : (ofs a && ofs b) = false) : mulE a b = 2 ∧ mulV a b = 0 := by
  have e : mulE a b = 2 := by unfold mulE; rw [h]; rfl
  exact ⟨e, by unfold mulV; rw [e]; rfl⟩
theorem mul_over {a b : Int} (h : (ofs a && ofs b) = true) (ho : 4611686018427387903 < a * b) : mulE a b = 10 ∧ mulV a b = 0 := by
  have e : mulE a b = 10 := by unfold mulE; rw [if_pos h, if_neg (by omega)]
  exact ⟨e, by unfold mulV; rw [e]; rfl⟩
theorem mul_good {a b : Int} (h : (ofs a && ofs b) = true) (ho : a * b ≤ 4611686018427387903) : mulE a b = 0 ∧ mulV a b = a * b := by
  have e : mulE a b = 0 := by unfold mulE; rw [if_pos h, if_pos ho]
  exact ⟨e, by unfold mulV; rw [if_pos e]⟩

theorem step_arg {s l t : Int} (h : (ofs s && (ofs l && ofs t)) = false) : stepE s l t = 2 ∧ stepV s l t = 0 := by
  have e : stepE s l t = 2 := by unfold stepE; rw [h]; rfl
  exact ⟨e, by unfold stepV; rw [e]; rfl⟩
theorem step_over {s l t : Int} (h : (ofs s && (ofs l && ofs t)) = true) (ho : 4611686018427387903 < s + l * t) : stepE s l t = 10 ∧ stepV s l t = 0 := by
  have e : stepE s l t = 10 := by unfold stepE; rw [if_pos h, if_neg (by omega)]
  exact ⟨e, by unfold stepV; rw [e]; rfl⟩
theorem step_good {s l t : Int} (h : (ofs s && (ofs l && ofs t)) = true) (ho : s + l * t ≤ 4611686018427387903) : stepE s l t = 0 ∧ stepV s l t = s + l * t := by
  have e : stepE s l t = 0 := by unfold stepE; rw [if_pos h, if_pos ho]
  exact ⟨e, by unfold stepV; rw [if_pos e]⟩

theorem time_sub {f t l : Int} (h : subE t f ≠ 0) : timeE f t l = subE t f ∧ timeV f t l = 0 := by
  have e : timeE f t l = subE t f := by unfold timeE; rw [if_neg h]
  exact ⟨e, by unfold timeV; rw [e, if_neg h]⟩
theorem time_arg {f t l : Int} (h : subE t f = 0) (hl : l = 0 ∨ ofs l = false) : timeE f t l = 2 ∧ timeV f t l = 0 := by
  have e : timeE f t l = 2 := by unfold timeE; rw [if_pos h, if_pos hl]
  exact ⟨e, by unfold timeV; rw [e]; rfl⟩
theorem time_good {f t l : Int} (h : subE t f = 0) (h0 : l ≠ 0) (hl : ofs l = true) : timeE f t l = 0 ∧ timeV f t l = (t - f) / l := by
  have e : timeE f t l = 0 := by unfold timeE; rw [if_pos h, if_neg (by rw [hl]; simp [h0])]
  exact ⟨e, by unfold timeV; rw [if_pos e]⟩

theorem both {x y : Bool} (h : (x && y) = true) : x = true ∧ y = true := by simpa using h

/-- The product's bounds, by how often the one goes into what there is. -/
theorem mul_fits {a n : Int} (ha : 0 < a) (hn : 0 ≤ n) : (n ≤ 4611686018427387903 / a ↔ a * n ≤ 4611686018427387903) := by
  rw [Int.le_ediv_iff_mul_le ha, Int.mul_comm]

theorem quo_top {a : Int} (ha : 0 < a) : Int.tdiv 4611686018427387903 a = 4611686018427387903 / a ∧ 0 ≤ 4611686018427387903 / a ∧ 4611686018427387903 / a ≤ 4611686018427387903 := by
  refine ⟨Int.tdiv_eq_ediv_of_nonneg (by decide), Int.ediv_nonneg (by decide) (by omega), ?_⟩
  exact Int.ediv_le_self _ (by decide)

theorem quo_any {d l : Int} (hd : 0 ≤ d) (hl : 0 < l) : Int.tdiv d l = d / l ∧ 0 ≤ d / l ∧ d / l ≤ d :=
  ⟨Int.tdiv_eq_ediv_of_nonneg hd, Int.ediv_nonneg hd (by omega), Int.ediv_le_self _ hd⟩

/-- One bit more of the second factor. -/
theorem mul_bit (a n : Int) (i : Nat) (ha : 0 ≤ a) (hn : 0 ≤ n) :
    0 ≤ n / 2 ^ i ∧ n / 2 ^ i ≤ n ∧ n / 2 ^ i = 2 * (n / 2 ^ (i + 1)) + n / 2 ^ i % 2 ∧
    a * (n / 2 ^ i) = 2 * (a * (n / 2 ^ (i + 1))) + a * (n / 2 ^ i % 2) ∧ 0 ≤ a * (n / 2 ^ (i + 1)) ∧ a * (n / 2 ^ i) ≤ a * n := by
  have hp : (0 : Int) < 2 ^ i := Int.pow_pos (by decide)
  have h0 : 0 ≤ n / 2 ^ i := Int.ediv_nonneg hn (by omega)
  have h1 : n / 2 ^ i ≤ n := Int.ediv_le_self _ hn
  have h2 : n / 2 ^ (i + 1) = n / 2 ^ i / 2 := by rw [Int.pow_succ, Int.ediv_ediv_of_nonneg (by omega)]
  have h3 : n / 2 ^ i = 2 * (n / 2 ^ (i + 1)) + n / 2 ^ i % 2 := by rw [h2]; omega
  refine ⟨h0, h1, h3, ?_, Int.mul_nonneg ha (by rw [h2]; omega), Int.mul_le_mul_of_nonneg_left h1 ha⟩
  rw [h2]
  generalize n / 2 ^ i = q at *
  rw [← Int.mul_assoc, Int.mul_comm 2 a, Int.mul_assoc, ← Int.mul_add]
  congr 1
  omega

theorem mul_none (n : Int) (h0 : 0 ≤ n) (h1 : n ≤ 4611686018427387903) : n / 2 ^ 62 = 0 := Int.ediv_eq_zero_of_lt h0 (by omega)

theorem and_one (n : Int) (h0 : 0 ≤ n) (h1 : n ≤ 9223372036854775807) : bits .and .i64 n 1 = n % 2 := by
  obtain ⟨a, rfl⟩ := Int.eq_ofNat_of_zero_le h0
  have h := (bits_nat .i64 63 (by decide) (fun n h0 h1 => by rw [IntKind.wrap_i64]; omega) a 1 (by omega) (by decide)).1
  rw [Nat.and_one_is_mod] at h
  simpa using h

/-- Steps between two offsets: so many do not lead beyond, one more does. -/
theorem steps_between {f t l : Int} (hf : 0 ≤ f) (hl : 0 < l) (ht : f ≤ t) :
    0 ≤ (t - f) / l ∧ 0 ≤ l * ((t - f) / l) ∧ f + l * ((t - f) / l) ≤ t ∧ t < f + l * ((t - f) / l) + l ∧ (t - f) / l ≤ t := by
  have h0 : 0 ≤ (t - f) / l := Int.ediv_nonneg (by omega) (by omega)
  have h1 := Int.mul_ediv_add_emod (t - f) l
  have h2 := Int.emod_nonneg (t - f) (show l ≠ 0 by omega)
  have h3 := Int.emod_lt_of_pos (t - f) hl
  have h4 : (t - f) / l ≤ t - f := Int.ediv_le_self _ (by omega)
  refine ⟨h0, Int.mul_nonneg (by omega) h0, ?_, ?_, ?_⟩ <;> omega

end Go.Proofs.Ytjmaccflnfaiiaa

namespace Go.Proofs.Ytjmaccflnfaiiaa
open Go.Lib

/-- With how many bytes two texts begin alike. -/
def preL : List UInt8 → List UInt8 → Nat
  | a :: x, b :: y => if a = b then preL x y + 1 else 0
  | _, _ => 0

theorem preL_nil (b : List UInt8) : preL [] b = 0 := by cases b <;> rfl
theorem preL_nil' (a : List UInt8) : preL a [] = 0 := by cases a <;> rfl
theorem preL_cons (a : UInt8) (x : List UInt8) (b : UInt8) (y : List UInt8) : preL (a :: x) (b :: y) = if a = b then preL x y + 1 else 0 := rfl

theorem preL_le : ∀ (a b : List UInt8), preL a b ≤ a.length ∧ preL a b ≤ b.length
  | [], b => by simp [preL_nil]
  | _ :: _, [] => by simp [preL_nil']
  | a :: x, b :: y => by
    have := preL_le x y
    rw [preL_cons]
    split <;> simp <;> omega

/-- So far they are alike, and no farther. -/
theorem preL_is : ∀ (a b : List UInt8) (n : Nat), n ≤ a.length → n ≤ b.length → (∀ i, i < n → a[i]? = b[i]?) → (n = a.length ∨ n = b.length ∨ a[n]? ≠ b[n]?) → preL a b = n
  | [], b, n, h1, _, _, _ => by simp at h1; rw [preL_nil, h1]
  | _ :: _, [], n, _, h2, _, _ => by simp at h2; rw [preL_nil', h2]
  | a :: x, b :: y, 0, _, _, _, h => by
    rw [preL_cons]
    by_cases e : a = b
    · subst e; simp at h
    · rw [if_neg e]
  | a :: x, b :: y, n + 1, h1, h2, h3, h4 => by
    have e : a = b := by simpa using h3 0 (by omega)
    subst e
    rw [preL_cons, if_pos rfl, preL_is x y n (by simpa using h1) (by simpa using h2) (fun i hi => by simpa using h3 (i + 1) (by omega)) (by simpa using h4)]

theorem preL_whole : ∀ (a b : List UInt8), (preL a b = b.length) ↔ b <+: a
  | a, [] => by simp [preL_nil']
  | [], b :: y => by simp [preL_nil]
  | a :: x, b :: y => by
    rw [preL_cons, List.cons_prefix_cons]
    by_cases e : a = b
    · subst e; simp [preL_whole x y]
    · have e' : ¬ b = a := fun h => e h.symm
      simp [e, e']

theorem preL_self (a : List UInt8) : preL a a = a.length := (preL_whole a a).2 (List.prefix_refl a)

/-- With how many bytes two texts end alike. -/
def sufL (a b : List UInt8) : Nat := preL a.reverse b.reverse
theorem sufL_le (a b : List UInt8) : sufL a b ≤ a.length ∧ sufL a b ≤ b.length := by
  have := preL_le a.reverse b.reverse
  simpa [sufL] using this
theorem sufL_whole (a b : List UInt8) : (sufL a b = b.length) ↔ b <:+ a := by
  have := preL_whole a.reverse b.reverse
  simpa [sufL, List.reverse_prefix] using this
theorem sufL_is (a b : List UInt8) (n : Nat) (h1 : n ≤ a.length) (h2 : n ≤ b.length) (h3 : ∀ i, i < n → a[a.length - 1 - i]? = b[b.length - 1 - i]?)
    (h4 : n = a.length ∨ n = b.length ∨ a[a.length - 1 - n]? ≠ b[b.length - 1 - n]?) : sufL a b = n := by
  refine preL_is a.reverse b.reverse n (by simpa using h1) (by simpa using h2) (fun i hi => ?_) ?_
  · rw [List.getElem?_reverse (by omega), List.getElem?_reverse (by omega)]
    exact h3 i hi
  · by_cases ha : n = a.length
    · exact .inl (by simpa using ha)
    · by_cases hb : n = b.length
      · exact .inr (.inl (by simpa using hb))
      · refine .inr (.inr ?_)
        rw [List.getElem?_reverse (by omega), List.getElem?_reverse (by omega)]
        rcases h4 with h4 | h4 | h4
        · exact absurd h4 ha
        · exact absurd h4 hb
        · exact h4

/-- The order, as the model says it. -/
theorem less_eq : ∀ (x y : List UInt8), Op.bytesLess x y = decide (x < y)
  | [], [] => by simp [Op.bytesLess]
  | _ :: _, [] => by simp [Op.bytesLess]
  | [], _ :: _ => by simp [Op.bytesLess]
  | a :: x, b :: y => by
    rw [Op.bytesLess, less_eq x y]
    simp only [List.cons_lt_cons_iff]
    by_cases h1 : a < b <;> by_cases h2 : a = b <;> by_cases h3 : x < y <;> simp [h1, h2, h3]

theorem cmp_cases : ∀ (x y : List UInt8), (x < y ∧ compareBytes x y = -1) ∨ (x = y ∧ compareBytes x y = 0) ∨ (y < x ∧ compareBytes x y = 1)
  | [], [] => by simp [compareBytes]
  | [], _ :: _ => by simp [compareBytes]
  | _ :: _, [] => by simp [compareBytes]
  | a :: x, b :: y => by
    unfold compareBytes
    by_cases h1 : a < b
    · simp [List.cons_lt_cons_iff, h1]
    · by_cases h2 : b < a
      · simp [List.cons_lt_cons_iff, h1, h2]
      · have e : a = b := UInt8.le_antisymm (UInt8.not_lt.1 h2) (UInt8.not_lt.1 h1)
        subst e
        have := cmp_cases x y
        simpa [List.cons_lt_cons_iff, h1] using this

theorem cmp_neg (x y : List UInt8) : compareBytes x y < 0 ↔ x < y := by
  rcases cmp_cases x y with ⟨h, e⟩ | ⟨h, e⟩ | ⟨h, e⟩
  · simp [h, e]
  · subst h; simp [e, List.lt_irrefl]
  · simp [e]; exact fun h' => List.lt_irrefl x (List.lt_trans h' h)
theorem cmp_zero (x y : List UInt8) : compareBytes x y = 0 ↔ x = y := by
  rcases cmp_cases x y with ⟨h, e⟩ | ⟨h, e⟩ | ⟨h, e⟩
  · rw [e]; simp; intro h'; subst h'; exact List.lt_irrefl x h
  · exact ⟨fun _ => h, fun _ => e⟩
  · rw [e]; simp; intro h'; subst h'; exact List.lt_irrefl x h
theorem cmp_swap (x y : List UInt8) : compareBytes y x = - compareBytes x y := by
  rcases cmp_cases x y with ⟨h, e⟩ | ⟨h, e⟩ | ⟨h, e⟩ <;> rcases cmp_cases y x with ⟨h', e'⟩ | ⟨h', e'⟩ | ⟨h', e'⟩ <;> rw [e, e'] <;> try rfl
  · exact absurd (List.lt_trans h h') (List.lt_irrefl x)
  · subst h'; exact absurd h (List.lt_irrefl _)
  · subst h; exact absurd h' (List.lt_irrefl _)
  · subst h; exact absurd h' (List.lt_irrefl _)
  · subst h'; exact absurd h (List.lt_irrefl _)
  · exact absurd (List.lt_trans h h') (List.lt_irrefl _)
theorem cmp_le (x y : List UInt8) : compareBytes x y ≤ 0 ↔ x ≤ y := by
  rw [← List.not_lt, ← cmp_neg y x, cmp_swap x y]; omega
theorem cmp_trans (x y z : List UInt8) (h1 : compareBytes x y ≤ 0) (h2 : compareBytes y z ≤ 0) : compareBytes x z ≤ 0 := by
  rw [cmp_le] at *; exact List.le_trans h1 h2

/-- Between two texts none shares less with the second one than they do. -/
theorem pre_mid : ∀ (a b d : List UInt8), compareBytes a b ≤ 0 → compareBytes b d ≤ 0 → preL a d ≤ preL a b ∧ preL a d ≤ preL b d
  | [], b, d, _, _ => by simp [preL_nil]
  | x :: a, b, [], _, _ => by simp [preL_nil']
  | x :: a, [], z :: d, h, _ => by simp [compareBytes] at h
  | x :: a, y :: b, z :: d, h1, h2 => by
    rw [preL_cons]
    by_cases e : x = z
    · subst e
      rw [if_pos rfl]
      unfold compareBytes at h1 h2
      by_cases hxy : x < y
      · have hyx : ¬ y < x := UInt8.lt_asymm hxy
        rw [if_neg hyx, if_pos hxy] at h2
        omega
      · rw [if_neg hxy] at h1
        by_cases hyx : y < x
        · rw [if_pos hyx] at h1; omega
        · have e : x = y := UInt8.le_antisymm (UInt8.not_lt.1 hyx) (UInt8.not_lt.1 hxy)
          subst e
          rw [if_neg hyx] at h1
          rw [if_neg hyx, if_neg hyx] at h2
          have := pre_mid a b d h1 h2
          rw [preL_cons, preL_cons, if_pos rfl, if_pos rfl]
          omega
    · rw [if_neg e]
      omega

/-- Texts in order. -/
def Asc (ws : List (List UInt8)) : Prop := ws.Pairwise fun x y => compareBytes x y ≤ 0

theorem Asc.at {ws : List (List UInt8)} (h : Asc ws) {i j : Nat} {a b : List UInt8} (hij : i ≤ j) (ha : ws[i]? = some a) (hb : ws[j]? = some b) : compareBytes a b ≤ 0 := by
  obtain ⟨hi, rfl⟩ := List.getElem?_eq_some_iff.1 ha
  obtain ⟨hj, rfl⟩ := List.getElem?_eq_some_iff.1 hb
  rcases Nat.lt_or_ge i j with h' | h'
  · exact List.pairwise_iff_getElem.1 h i j hi hj h'
  · have : i = j := by omega
    subst this
    rw [(cmp_zero _ _).2 rfl]; omega

/-- Of texts in order two share no more than each two neighbours between them. -/
theorem Asc.share {ws : List (List UInt8)} (h : Asc ws) {i j k : Nat} {a b c d : List UInt8} (hij : i ≤ j) (hjk : j + 1 ≤ k) (ha : ws[i]? = some a) (hb : ws[j]? = some b) (hc : ws[j + 1]? = some c) (hd : ws[k]? = some d) :
    preL a d ≤ preL b c :=
  Nat.le_trans (pre_mid a b d (h.at hij ha hb) (h.at (by omega) hb hd)).2 (pre_mid b c d (h.at (by omega) hb hc) (h.at hjk hc hd)).1

/-- The texts, in order. -/
def srt (ws : List (List UInt8)) : List (List UInt8) := ws.mergeSort fun x y => decide (x ≤ y)
theorem srt_perm (ws : List (List UInt8)) : (srt ws).Perm ws := List.mergeSort_perm ws _
theorem srt_length (ws : List (List UInt8)) : (srt ws).length = ws.length := (srt_perm ws).length_eq
theorem srt_asc (ws : List (List UInt8)) : Asc (srt ws) := by
  have h := List.pairwise_mergeSort (le := fun (x y : List UInt8) => decide (x ≤ y)) (fun a b c h1 h2 => by simp only [decide_eq_true_eq] at *; exact List.le_trans h1 h2)
    (fun a b => by simp only [Bool.or_eq_true, decide_eq_true_eq]; exact List.le_total a b) ws
  exact h.imp fun {a b} hab => (cmp_le a b).2 (by simpa using hab)
theorem asc_unique {l m : List (List UInt8)} (hl : Asc l) (hm : Asc m) (hp : l.Perm m) : l = m :=
  List.Perm.eq_of_pairwise (le := fun x y => compareBytes x y ≤ 0) (fun a b _ _ h1 h2 => by
    rw [cmp_swap a b] at h2
    exact (cmp_zero a b).1 (by omega)) hl hm hp

/-- One more, put where it belongs. -/
def posS (out : List (List UInt8)) (x : List UInt8) : Nat → Nat
  | 0 => 0
  | k + 1 => match out[k]? with
    | some t => if Op.bytesLess x t then posS out x k else k + 1
    | none => k + 1
def insS (out : List (List UInt8)) (x : List UInt8) : List (List UInt8) := out.take (posS out x out.length) ++ ([x] ++ out.drop (posS out x out.length))
theorem posS_le (out : List (List UInt8)) (x : List UInt8) : ∀ k, posS out x k ≤ k
  | 0 => Nat.le_refl _
  | k + 1 => by
    unfold posS
    have := posS_le out x k
    split
    · split <;> omega
    · omega
theorem posS_hit {out : List (List UInt8)} {x t : List UInt8} {k : Nat} (h : out[k]? = some t) (hl : Op.bytesLess x t = true) : posS out x (k + 1) = posS out x k := by
  rw [posS, h]; simp [hl]
theorem posS_miss {out : List (List UInt8)} {x t : List UInt8} {k : Nat} (h : out[k]? = some t) (hl : Op.bytesLess x t = false) : posS out x (k + 1) = k + 1 := by
  rw [posS, h]; simp [hl]

theorem insS_perm (out : List (List UInt8)) (x : List UInt8) : (insS out x).Perm (x :: out) := by
  unfold insS
  rw [List.singleton_append]
  refine List.perm_middle.trans ?_
  rw [List.take_append_drop]

theorem posS_spec (out : List (List UInt8)) (x : List UInt8) : ∀ k, k ≤ out.length → (∀ t, posS out x k ≠ 0 → out[posS out x k - 1]? = some t → compareBytes t x ≤ 0) ∧ (∀ i t, posS out x k ≤ i → i < k → out[i]? = some t → compareBytes x t ≤ 0)
  | 0, _ => by refine ⟨fun t h => absurd rfl h, fun i t _ h => by omega⟩
  | k + 1, hk => by
    have hlt : k < out.length := by omega
    have he : out[k]? = some out[k] := List.getElem?_eq_getElem hlt
    cases hl : Op.bytesLess x out[k] with
    | true =>
      rw [posS_hit he hl]
      have ih := posS_spec out x k (by omega)
      refine ⟨ih.1, fun i t h1 h2 h3 => ?_⟩
      by_cases hi : i < k
      · exact ih.2 i t h1 hi h3
      · have : i = k := by omega
        subst this
        rw [he] at h3
        obtain rfl := Option.some.inj h3
        rw [less_eq] at hl
        have := (cmp_neg x out[i]).2 (by simpa using hl)
        omega
    | false =>
      rw [posS_miss he hl]
      refine ⟨fun t _ h => ?_, fun i t h1 h2 => by omega⟩
      rw [Nat.add_sub_cancel, he] at h
      obtain rfl := Option.some.inj h
      rw [less_eq] at hl
      exact (cmp_le _ _).2 (List.not_lt.1 (by simpa using hl))

theorem insS_asc {out : List (List UInt8)} (h : Asc out) (x : List UInt8) : Asc (insS out x) := by
  have hp := posS_le out x out.length
  have hs := posS_spec out x out.length (Nat.le_refl _)
  unfold insS
  generalize posS out x out.length = p at *
  have hbef : ∀ a ∈ out.take p, compareBytes a x ≤ 0 := fun a ha => by
    obtain ⟨i, hi, rfl⟩ := List.getElem_of_mem ha
    have hi' : i < p ∧ i < out.length := by rw [List.length_take] at hi; omega
    rw [List.getElem_take]
    have h1 := h.at (i := i) (j := p - 1) (by omega) (List.getElem?_eq_getElem hi'.2) (List.getElem?_eq_getElem (by omega))
    exact cmp_trans _ _ _ h1 (hs.1 _ (by omega) (List.getElem?_eq_getElem (by omega)))
  have haft : ∀ b ∈ out.drop p, compareBytes x b ≤ 0 := fun b hb => by
    obtain ⟨i, hi, rfl⟩ := List.getElem_of_mem hb
    rw [List.length_drop] at hi
    rw [List.getElem_drop]
    exact hs.2 (p + i) _ (by omega) (by omega) (List.getElem?_eq_getElem (by omega))
  unfold Asc
  rw [List.pairwise_append]
  refine ⟨h.sublist (List.take_sublist _ _), ?_, fun a ha b hb => ?_⟩
  · rw [List.singleton_append, List.pairwise_cons]
    exact ⟨haft, h.sublist (List.drop_sublist _ _)⟩
  · rw [List.singleton_append, List.mem_cons] at hb
    rcases hb with rfl | hb
    · exact hbef a ha
    · exact cmp_trans _ _ _ (hbef a ha) (haft b hb)

theorem ins_all : ∀ (ws out : List (List UInt8)), Asc out → Asc (ws.foldl insS out) ∧ (ws.foldl insS out).Perm (ws ++ out)
  | [], out, h => ⟨h, List.Perm.refl _⟩
  | x :: r, out, h => by
    have ih := ins_all r (insS out x) (insS_asc h x)
    refine ⟨ih.1, ih.2.trans ?_⟩
    refine (List.Perm.append_left r (insS_perm out x)).trans ?_
    exact List.perm_middle
theorem ins_srt (ws : List (List UInt8)) : ws.foldl insS [] = srt ws := by
  have h := ins_all ws [] List.Pairwise.nil
  rw [List.append_nil] at h
  exact asc_unique h.1 (srt_asc ws) (h.2.trans (srt_perm ws).symm)

/-- How many of texts come ahead of one. -/
def ahdS (s : List UInt8) (ws : List (List UInt8)) : Nat := ws.countP fun x => decide (compareBytes x s < 0)
theorem ahd_snoc {ws : List (List UInt8)} {k : Nat} {t : List UInt8} (s : List UInt8) (h : ws[k]? = some t) : ahdS s (ws.take (k + 1)) = ahdS s (ws.take k) + (if Op.bytesLess t s then 1 else 0) := by
  obtain ⟨hk, rfl⟩ := List.getElem?_eq_some_iff.1 h
  unfold ahdS
  rw [List.take_succ_eq_append_getElem hk, List.countP_append, List.countP_singleton, less_eq]
  simp only [cmp_neg, decide_eq_true_eq]
theorem ahd_le (s : List UInt8) (ws : List (List UInt8)) : ahdS s ws ≤ ws.length := List.countP_le_length
theorem mem_snoc {ws : List (List UInt8)} {k : Nat} {t : List UInt8} (s : List UInt8) (h : ws[k]? = some t) : decide (s ∈ ws.take (k + 1)) = (decide (s ∈ ws.take k) || (t == s)) := by
  obtain ⟨hk, rfl⟩ := List.getElem?_eq_some_iff.1 h
  rw [List.take_succ_eq_append_getElem hk]
  have e : ∀ a b : List UInt8, (a == b) = decide (b = a) := fun a b => by
    rw [Bool.eq_iff_iff]; simp; exact eq_comm
  rw [e, Bool.eq_iff_iff]
  simp only [List.mem_append, List.mem_singleton, decide_eq_true_eq, Bool.or_eq_true]

/-- What a search tells of texts in order. -/
theorem find_there {s : List UInt8} : ∀ {ws : List (List UInt8)}, Asc ws → (decide (ahdS s ws < ws.length) && decide (compareBytes (ws[ahdS s ws]?.getD []) s = 0)) = decide (s ∈ ws)
  | [], _ => by simp [ahdS]
  | x :: r, h => by
    have hr : Asc r := (List.pairwise_cons.1 h).2
    have hx := (List.pairwise_cons.1 h).1
    by_cases hlt : compareBytes x s < 0
    · have e : ahdS s (x :: r) = ahdS s r + 1 := by
        unfold ahdS; rw [List.countP_cons_of_pos (by simpa using hlt)]
      rw [e]
      have ih := find_there (s := s) hr
      have hne : s ≠ x := fun he => by subst he; rw [(cmp_zero s s).2 rfl] at hlt; omega
      simpa [hne] using ih
    · have e : ahdS s (x :: r) = 0 := by
        unfold ahdS
        rw [List.countP_eq_zero]
        intro y hy
        simp only [decide_eq_true_eq]
        rw [List.mem_cons] at hy
        rcases hy with rfl | hy
        · exact hlt
        · have h1 := hx y hy
          intro h2
          have := cmp_trans _ _ _ h1 (Int.le_of_lt h2)
          have h3 : compareBytes x s = 0 := by omega
          have h4 := (cmp_zero x s).1 h3
          subst h4
          have h5 : compareBytes x y = 0 := by rw [cmp_swap x y] at h2; omega
          have h6 := (cmp_zero x y).1 h5
          subst h6
          omega
      rw [e]
      by_cases hs : compareBytes x s = 0
      · have := (cmp_zero x s).1 hs
        subst this
        simp [hs]
      · have hne : s ≠ x := fun he => by subst he; exact hs ((cmp_zero s s).2 rfl)
        have hnr : s ∉ r := fun hm => by have := hx s hm; omega
        simp [hs, hne, hnr]

theorem ahd_mono {s : List UInt8} {ws : List (List UInt8)} (h : Asc ws) {i j : Nat} {a b : List UInt8} (hij : i ≤ j) (ha : ws[i]? = some a) (hb : ws[j]? = some b) (hlt : compareBytes b s < 0) : compareBytes a s < 0 := by
  have h1 := h.at hij ha hb
  have h2 := cmp_trans _ _ _ h1 (Int.le_of_lt hlt)
  rcases Int.lt_or_eq_of_le h2 with h3 | h3
  · exact h3
  · have := (cmp_zero a s).1 h3
    subst this
    rw [cmp_swap b a] at h1
    omega

/-- The place of the first text that is there again. -/
def twS (seen : List (List UInt8)) : List (List UInt8) → Nat → Int
  | [], _ => -1
  | t :: r, k => if t ∈ seen then k else twS (seen ++ [t]) r (k + 1)
theorem tw_hit {ws : List (List UInt8)} {k : Nat} {t : List UInt8} (h : ws[k]? = some t) (hm : t ∈ ws.take k) : twS (ws.take k) (ws.drop k) k = k := by
  obtain ⟨hk, rfl⟩ := List.getElem?_eq_some_iff.1 h
  rw [List.drop_eq_getElem_cons hk, twS, if_pos hm]
theorem tw_miss {ws : List (List UInt8)} {k : Nat} {t : List UInt8} (h : ws[k]? = some t) (hm : t ∉ ws.take k) : twS (ws.take k) (ws.drop k) k = twS (ws.take (k + 1)) (ws.drop (k + 1)) (k + 1) := by
  obtain ⟨hk, rfl⟩ := List.getElem?_eq_some_iff.1 h
  rw [List.drop_eq_getElem_cons hk, twS, if_neg hm, List.take_succ_eq_append_getElem hk]
theorem tw_end (ws : List (List UInt8)) : twS (ws.take ws.length) (ws.drop ws.length) ws.length = -1 := by
  rw [List.drop_length]; rfl

/-- What each text shares with the one ahead. -/
def shrS : List UInt8 → List (List UInt8) → List Int
  | _, [] => []
  | a, t :: r => (preL a t : Int) :: shrS t r
def shr (ws : List (List UInt8)) : List Int := shrS [] ws
theorem shrS_length : ∀ (a : List UInt8) (ws : List (List UInt8)), (shrS a ws).length = ws.length
  | _, [] => rfl
  | a, t :: r => by simp [shrS, shrS_length t r]
theorem shr_length (ws : List (List UInt8)) : (shr ws).length = ws.length := shrS_length _ _
theorem shrS_get : ∀ (a : List UInt8) (ws : List (List UInt8)) (j : Nat) {b c : List UInt8}, (a :: ws)[j]? = some b → ws[j]? = some c → (shrS a ws)[j]? = some (preL b c : Int)
  | a, t :: r, 0, b, c, h1, h2 => by simp at h1 h2; subst h1; subst h2; rfl
  | a, t :: r, j + 1, b, c, h1, h2 => by
    rw [List.getElem?_cons_succ] at h1 h2
    have := shrS_get t r j h1 h2
    simpa [shrS] using this
theorem shr_zero {ws : List (List UInt8)} (h : 0 < ws.length) : (shr ws)[0]? = some 0 := by
  obtain ⟨c, hc⟩ : ∃ c, ws[0]? = some c := ⟨ws[0], List.getElem?_eq_getElem h⟩
  have := shrS_get [] ws 0 (b := []) rfl hc
  rw [preL_nil] at this
  exact this
theorem shr_get {ws : List (List UInt8)} {j : Nat} {b c : List UInt8} (h1 : ws[j]? = some b) (h2 : ws[j + 1]? = some c) : (shr ws)[j + 1]? = some (preL b c : Int) :=
  shrS_get [] ws (j + 1) (by rw [List.getElem?_cons_succ]; exact h1) h2
end Go.Proofs.Ytjmaccflnfaiiaa

namespace Go.Proofs.Ytjmaccflnfaiiaa

/-- How long the shortest, the longest one is, and all together. -/
def leastL (ws : List (List UInt8)) : Nat := ws.foldl (fun n t => min n t.length) 65535
def mostL (ws : List (List UInt8)) : Nat := ws.foldl (fun n t => max n t.length) 0
def totalL (ws : List (List UInt8)) : Nat := ws.foldl (fun n t => n + t.length) 0

theorem foldl_snoc {β : Type} {ws : List (List UInt8)} {k : Nat} {t : List UInt8} (f : β → List UInt8 → β) (z : β) (h : ws[k]? = some t) : (ws.take (k + 1)).foldl f z = f ((ws.take k).foldl f z) t := by
  obtain ⟨hk, rfl⟩ := List.getElem?_eq_some_iff.1 h
  rw [List.take_succ_eq_append_getElem hk, List.foldl_append]; rfl
theorem least_snoc {ws : List (List UInt8)} {k : Nat} {t : List UInt8} (h : ws[k]? = some t) : leastL (ws.take (k + 1)) = min (leastL (ws.take k)) t.length := foldl_snoc _ _ h
theorem most_snoc {ws : List (List UInt8)} {k : Nat} {t : List UInt8} (h : ws[k]? = some t) : mostL (ws.take (k + 1)) = max (mostL (ws.take k)) t.length := foldl_snoc _ _ h
theorem total_snoc {ws : List (List UInt8)} {k : Nat} {t : List UInt8} (h : ws[k]? = some t) : totalL (ws.take (k + 1)) = totalL (ws.take k) + t.length := foldl_snoc _ _ h

theorem least_le (ws : List (List UInt8)) : leastL ws ≤ 65535 := by
  suffices h : ∀ (ws : List (List UInt8)) (n : Nat), ws.foldl (fun n t => min n t.length) n ≤ n from h ws 65535
  intro ws
  induction ws with
  | nil => intro n; exact Nat.le_refl _
  | cons t r ih => intro n; exact Nat.le_trans (ih _) (Nat.min_le_left _ _)
theorem most_le {ws : List (List UInt8)} {m : Nat} (h : ∀ t ∈ ws, t.length ≤ m) : mostL ws ≤ m := by
  suffices g : ∀ (ws : List (List UInt8)) (n : Nat), n ≤ m → (∀ t ∈ ws, t.length ≤ m) → ws.foldl (fun n t => max n t.length) n ≤ m from g ws 0 (Nat.zero_le _) h
  intro ws
  induction ws with
  | nil => intro n hn _; exact hn
  | cons t r ih => intro n hn ht; exact ih _ (Nat.max_le.2 ⟨hn, ht t List.mem_cons_self⟩) (fun u hu => ht u (List.mem_cons_of_mem _ hu))
theorem foldl_total (ws : List (List UInt8)) : ∀ n : Nat, ws.foldl (fun n t => n + t.length) n = n + totalL ws := by
  unfold totalL
  induction ws with
  | nil => intro n; rfl
  | cons t r ih => intro n; rw [List.foldl_cons, List.foldl_cons, ih, ih (0 + t.length)]; omega
theorem total_cons (t : List UInt8) (r : List (List UInt8)) : totalL (t :: r) = t.length + totalL r := by
  show r.foldl (fun n t => n + t.length) (0 + t.length) = _
  rw [foldl_total, Nat.zero_add]
theorem total_append (ws us : List (List UInt8)) : totalL (ws ++ us) = totalL ws + totalL us := by
  unfold totalL
  rw [List.foldl_append]
  exact foldl_total us _
theorem total_take_le (ws : List (List UInt8)) (k : Nat) : totalL (ws.take k) ≤ totalL ws := by
  have := total_append (ws.take k) (ws.drop k)
  rw [List.take_append_drop] at this
  omega
theorem total_perm {ws us : List (List UInt8)} (h : ws.Perm us) : totalL ws = totalL us := by
  induction h with
  | nil => rfl
  | cons t _ ih => rw [total_cons, total_cons, ih]
  | swap a b r => rw [total_cons, total_cons, total_cons, total_cons]; omega
  | trans _ _ i1 i2 => exact i1.trans i2
theorem total_le {ws : List (List UInt8)} {m : Nat} (h : ∀ t ∈ ws, t.length ≤ m) : totalL ws ≤ ws.length * m := by
  induction ws with
  | nil => simp [totalL]
  | cons t r ih =>
    rw [total_cons, List.length_cons, Nat.succ_mul]
    have := ih (fun u hu => h u (List.mem_cons_of_mem _ hu))
    have := h t List.mem_cons_self
    omega

/-- The first one that is no pattern: why. -/
def badS : List (List UInt8) → Option Int
  | [] => none
  | t :: r => if t.length = 0 then some 7 else if 65535 < t.length then some 5 else badS r
theorem bad_append : ∀ (a b : List (List UInt8)), badS (a ++ b) = (badS a).or (badS b)
  | [], b => by simp [badS]
  | t :: r, b => by
    rw [List.cons_append, badS, badS]
    split
    · rfl
    · split
      · rfl
      · exact bad_append r b
theorem bad_zero {ws : List (List UInt8)} {k : Nat} {t : List UInt8} (hn : badS (ws.take k) = none) (h : ws[k]? = some t) (h0 : t.length = 0) : badS ws = some 7 := by
  obtain ⟨hk, rfl⟩ := List.getElem?_eq_some_iff.1 h
  rw [← List.take_append_drop k ws, bad_append, hn, List.drop_eq_getElem_cons hk, badS, if_pos h0]; rfl
theorem bad_long {ws : List (List UInt8)} {k : Nat} {t : List UInt8} (hn : badS (ws.take k) = none) (h : ws[k]? = some t) (h0 : 65535 < t.length) : badS ws = some 5 := by
  obtain ⟨hk, rfl⟩ := List.getElem?_eq_some_iff.1 h
  rw [← List.take_append_drop k ws, bad_append, hn, List.drop_eq_getElem_cons hk, badS, if_neg (by omega), if_pos h0]; rfl
theorem bad_snoc {ws : List (List UInt8)} {k : Nat} {t : List UInt8} (hn : badS (ws.take k) = none) (h : ws[k]? = some t) (h0 : ¬ t.length = 0) (h1 : ¬ 65535 < t.length) : badS (ws.take (k + 1)) = none := by
  obtain ⟨hk, rfl⟩ := List.getElem?_eq_some_iff.1 h
  rw [List.take_succ_eq_append_getElem hk, bad_append, hn, badS, if_neg h0, if_neg h1]; rfl
theorem bad_none : ∀ (ws : List (List UInt8)), badS ws = none ↔ ∀ t ∈ ws, 1 ≤ t.length ∧ t.length ≤ 65535
  | [] => by simp [badS]
  | t :: r => by
    rw [badS]
    have ih := bad_none r
    by_cases h0 : t.length = 0
    · rw [if_pos h0]
      simp only [reduceCtorEq, List.mem_cons, forall_eq_or_imp, false_iff]
      intro h; omega
    · by_cases h1 : 65535 < t.length
      · rw [if_neg h0, if_pos h1]
        simp only [reduceCtorEq, List.mem_cons, forall_eq_or_imp, false_iff]
        intro h; omega
      · rw [if_neg h0, if_neg h1, ih]
        simp only [List.mem_cons, forall_eq_or_imp]
        exact ⟨fun h => ⟨⟨by omega, by omega⟩, h⟩, fun h => h.2⟩

/-- Why texts are no set; 0: they are one. -/
def faultL (ws : List (List UInt8)) : Int :=
  if ws.length = 0 then 14 else if 65535 < ws.length then 6 else match badS ws with
    | some e => e
    | none => if 16777216 < totalL ws then 13 else if 0 ≤ twS [] ws 0 then 8 else 0

theorem fault_none {ws : List (List UInt8)} (h : ws.length = 0) : faultL ws = 14 := by unfold faultL; rw [if_pos h]
theorem fault_many {ws : List (List UInt8)} (h : 65535 < ws.length) : faultL ws = 6 := by unfold faultL; rw [if_neg (by omega), if_pos h]
theorem fault_bad {ws : List (List UInt8)} {e : Int} (h0 : ¬ ws.length = 0) (h1 : ¬ 65535 < ws.length) (h : badS ws = some e) : faultL ws = e := by unfold faultL; rw [if_neg h0, if_neg h1, h]
theorem fault_full {ws : List (List UInt8)} (h0 : ¬ ws.length = 0) (h1 : ¬ 65535 < ws.length) (h : badS ws = none) (h2 : 16777216 < totalL ws) : faultL ws = 13 := by unfold faultL; rw [if_neg h0, if_neg h1, h]; exact if_pos h2
theorem fault_twice {ws : List (List UInt8)} (h0 : ¬ ws.length = 0) (h1 : ¬ 65535 < ws.length) (h : badS ws = none) (h2 : ¬ 16777216 < totalL ws) (h3 : 0 ≤ twS [] ws 0) : faultL ws = 8 := by
  unfold faultL; rw [if_neg h0, if_neg h1, h]; exact (if_neg h2).trans (if_pos h3)
theorem fault_good {ws : List (List UInt8)} (h0 : ¬ ws.length = 0) (h1 : ¬ 65535 < ws.length) (h : badS ws = none) (h2 : ¬ 16777216 < totalL ws) (h3 : ¬ 0 ≤ twS [] ws 0) : faultL ws = 0 := by
  unfold faultL; rw [if_neg h0, if_neg h1, h]; exact (if_neg h2).trans (if_neg h3)

theorem tw_nodup : ∀ (ws seen : List (List UInt8)) (k : Nat), 0 ≤ twS seen ws k ↔ ¬ (ws.Nodup ∧ ∀ t ∈ ws, t ∉ seen)
  | [], seen, k => by simp [twS]
  | t :: r, seen, k => by
    rw [twS]
    by_cases h : t ∈ seen
    · rw [if_pos h]
      refine ⟨fun _ hh => hh.2 t List.mem_cons_self h, fun _ => by omega⟩
    · rw [if_neg h, tw_nodup r (seen ++ [t]) (k + 1)]
      refine not_congr ⟨fun ⟨h1, h2⟩ => ⟨List.nodup_cons.2 ⟨fun hm => ?_, h1⟩, fun u hu => ?_⟩, fun ⟨h1, h2⟩ => ⟨(List.nodup_cons.1 h1).2, fun u hu hs => ?_⟩⟩
      · exact h2 t hm (List.mem_append_right _ (List.mem_singleton.2 rfl))
      · rcases List.mem_cons.1 hu with rfl | hu
        · exact h
        · exact fun hs => h2 u hu (List.mem_append_left _ hs)
      · rcases List.mem_append.1 hs with hs | hs
        · exact h2 u (List.mem_cons_of_mem _ hu) hs
        · rw [List.mem_singleton] at hs
          subst hs
          exact (List.nodup_cons.1 h1).1 hu

/-- Texts that are a set. -/
structure Pats (ws : List (List UInt8)) : Prop where
  some : 1 ≤ ws.length
  few : ws.length ≤ 65535
  each : ∀ t ∈ ws, 1 ≤ t.length ∧ t.length ≤ 65535
  total : totalL ws ≤ 16777216
  once : ws.Nodup

theorem fault_zero (ws : List (List UInt8)) : faultL ws = 0 ↔ Pats ws := by
  by_cases h0 : ws.length = 0
  · rw [fault_none h0]
    exact ⟨fun h => absurd h (by decide), fun h => by have := h.some; omega⟩
  · by_cases h1 : 65535 < ws.length
    · rw [fault_many h1]
      exact ⟨fun h => absurd h (by decide), fun h => by have := h.few; omega⟩
    · cases hb : badS ws with
      | some e =>
        rw [fault_bad h0 h1 hb]
        have hn : ¬ badS ws = none := by rw [hb]; simp
        have he : e = 7 ∨ e = 5 := by
          clear hn h0 h1
          induction ws with
          | nil => simp [badS] at hb
          | cons t r ih =>
            rw [badS] at hb
            split at hb
            · simp at hb; exact .inl hb.symm
            · split at hb
              · simp at hb; exact .inr hb.symm
              · exact ih hb
        refine ⟨fun h => by omega, fun h => absurd ((bad_none ws).2 h.each) hn⟩
      | none =>
        by_cases h2 : 16777216 < totalL ws
        · rw [fault_full h0 h1 hb h2]
          exact ⟨fun h => absurd h (by decide), fun h => by have := h.total; omega⟩
        · have htw := tw_nodup ws [] 0
          by_cases h3 : 0 ≤ twS [] ws 0
          · rw [fault_twice h0 h1 hb h2 h3]
            exact ⟨fun h => absurd h (by decide), fun h => absurd ⟨h.once, by simp⟩ (htw.1 h3)⟩
          · rw [fault_good h0 h1 hb h2 h3]
            have hn : ws.Nodup := Classical.byContradiction fun hh => h3 (htw.2 (fun hx => hh hx.1))
            exact ⟨fun _ => ⟨by omega, by omega, (bad_none ws).1 hb, by omega, hn⟩, fun _ => rfl⟩

theorem Pats.perm {ws us : List (List UInt8)} (h : Pats ws) (hp : ws.Perm us) : Pats us :=
  ⟨by rw [← hp.length_eq]; exact h.some, by rw [← hp.length_eq]; exact h.few, fun t ht => h.each t (hp.mem_iff.2 ht), by rw [← total_perm hp]; exact h.total, hp.nodup_iff.1 h.once⟩
theorem Pats.srt {ws : List (List UInt8)} (h : Pats ws) : Pats (srt ws) := h.perm (srt_perm ws).symm
theorem srt_of_perm {ws us : List (List UInt8)} (h : ws.Perm us) : srt ws = srt us := asc_unique (srt_asc ws) (srt_asc us) ((srt_perm ws).trans (h.trans (srt_perm us).symm))
theorem srt_srt (ws : List (List UInt8)) : srt (srt ws) = srt ws := srt_of_perm (srt_perm ws)

/-- The place of a text in texts in order; -1: none. -/
def fndP (s : List UInt8) (ws : List (List UInt8)) : Int := if s ∈ ws then (ahdS s ws : Int) else -1

theorem ahd_at {s : List UInt8} {ws : List (List UInt8)} (ha : Asc ws) (hm : s ∈ ws) : ws[ahdS s ws]? = some s := by
  have h := find_there (s := s) ha
  rw [decide_eq_true hm, Bool.and_eq_true, decide_eq_true_eq, decide_eq_true_eq] at h
  have h1 := (cmp_zero _ _).1 h.2
  rw [List.getElem?_eq_getElem h.1] at h1 ⊢
  simp only [Option.getD_some] at h1
  rw [h1]
theorem ahd_is {s : List UInt8} {ws : List (List UInt8)} {k : Nat} (ha : Asc ws) (hn : ws.Nodup) (h : ws[k]? = some s) : ahdS s ws = k := by
  have hm : s ∈ ws := List.mem_of_getElem? h
  have h1 := ahd_at ha hm
  obtain ⟨i, e1⟩ := List.getElem?_eq_some_iff.1 h1
  obtain ⟨j, e2⟩ := List.getElem?_eq_some_iff.1 h
  exact (List.getElem_inj hn).1 (e1.trans e2.symm)
theorem fndp_hit {s : List UInt8} {ws : List (List UInt8)} {k : Nat} (ha : Asc ws) (hn : ws.Nodup) (h : ws[k]? = some s) : fndP s ws = k := by
  unfold fndP
  rw [if_pos (List.mem_of_getElem? h), ahd_is ha hn h]
theorem fndp_miss {s : List UInt8} {ws : List (List UInt8)} (h : s ∉ ws) : fndP s ws = -1 := if_neg h

/-- The document's least: of no texts it is 0. -/
def leastR (ws : List (List UInt8)) : Nat := if ws.length = 0 then 0 else leastL ws
theorem leastR_some {ws : List (List UInt8)} (h : Pats ws) : leastR ws = leastL ws := if_neg (by have := h.some; omega)
end Go.Proofs.Ytjmaccflnfaiiaa

namespace Go.Proofs.Ytjmaccflnfaiiaa

/-- A text's last byte. -/
def lastN (t : List UInt8) : Option Nat := t.getLast?.map UInt8.toNat
/-- Does this one of the texts end with the byte? -/
def endsN (ws : List (List UInt8)) (c k : Nat) : Bool := lastN (ws.getD k []) == some c
/-- The numbers of those of the first k texts that end with a byte. -/
def bidsK (ws : List (List UInt8)) (c : Nat) : Nat → List Int
  | 0 => []
  | k + 1 => if endsN ws c k = true then bidsK ws c k ++ [(k : Int)] else bidsK ws c k
def idsL (ws : List (List UInt8)) (c : Nat) : List Int := bidsK ws c ws.length
/-- How long one of the texts is. -/
def lenAt (ws : List (List UInt8)) (x : Int) : Nat := (ws.getD x.toNat []).length
/-- How long the shortest of the first j of these is. -/
def lstK (ws : List (List UInt8)) (ids : List Int) : Nat → Nat
  | 0 => 0
  | j + 1 => if j = 0 ∨ lenAt ws (ids.getD j 0) < lstK ws ids j then lenAt ws (ids.getD j 0) else lstK ws ids j
def lstA (ws : List (List UInt8)) (ids : List Int) : Nat := lstK ws ids ids.length
def lstL (ws : List (List UInt8)) (c : Nat) : Nat := lstA ws (idsL ws c)
/-- Those of the first n bytes with which a text ends. -/
def bytK (ws : List (List UInt8)) : Nat → List UInt8
  | 0 => []
  | n + 1 => if (idsL ws n).length = 0 then bytK ws n else bytK ws n ++ [UInt8.ofNat n]
def bytL (ws : List (List UInt8)) : List UInt8 := bytK ws 256

theorem lastN_lt {t : List UInt8} {c : Nat} (h : lastN t = some c) : c < 256 := by
  unfold lastN at h
  cases hg : t.getLast? with
  | none => simp [hg] at h
  | some x => simp [hg] at h; have := UInt8.toNat_lt x; omega
theorem lastN_some {t : List UInt8} (h : 0 < t.length) : ∃ c, c < 256 ∧ lastN t = some c ∧ (t[t.length - 1]'(by omega)).toNat = c := by
  refine ⟨(t[t.length - 1]'(by omega)).toNat, UInt8.toNat_lt _, ?_, rfl⟩
  unfold lastN
  rw [List.getLast?_eq_getElem?, List.getElem?_eq_getElem (show t.length - 1 < t.length by omega)]
  rfl
theorem lastN_at {t : List UInt8} {c : Nat} (h : 0 < t.length) : lastN t = some c ↔ (t[t.length - 1]'(by omega)).toNat = c := by
  obtain ⟨d, _, h1, h2⟩ := lastN_some h
  rw [h1, h2]
  simp
theorem lastN_nil : lastN [] = none := rfl

theorem getD_of {ws : List (List UInt8)} {k : Nat} {t : List UInt8} (h : ws[k]? = some t) : ws.getD k [] = t := by simp [List.getD, h]
theorem ends_of {ws : List (List UInt8)} {k c : Nat} {t : List UInt8} (h : ws[k]? = some t) : endsN ws c k = true ↔ lastN t = some c := by
  unfold endsN; rw [getD_of h]; simp

theorem bids_hit {ws : List (List UInt8)} {c k : Nat} (h : endsN ws c k = true) : bidsK ws c (k + 1) = bidsK ws c k ++ [(k : Int)] := if_pos h
theorem bids_miss {ws : List (List UInt8)} {c k : Nat} (h : ¬ endsN ws c k = true) : bidsK ws c (k + 1) = bidsK ws c k := if_neg h
theorem bids_length (ws : List (List UInt8)) (c : Nat) : ∀ k, (bidsK ws c k).length ≤ k
  | 0 => Nat.le_refl _
  | k + 1 => by
    have := bids_length ws c k
    unfold bidsK
    split
    · rw [List.length_append]; simp; omega
    · omega
theorem bids_mem {ws : List (List UInt8)} {c : Nat} {x : Int} : ∀ {k : Nat}, x ∈ bidsK ws c k → ∃ m : Nat, x = m ∧ m < k ∧ endsN ws c m = true
  | 0, h => by simp [bidsK] at h
  | k + 1, h => by
    unfold bidsK at h
    split at h
    · rename_i he
      rcases List.mem_append.1 h with h | h
      · obtain ⟨m, h1, h2, h3⟩ := bids_mem h
        exact ⟨m, h1, by omega, h3⟩
      · simp at h
        exact ⟨k, h, by omega, he⟩
    · obtain ⟨m, h1, h2, h3⟩ := bids_mem h
      exact ⟨m, h1, by omega, h3⟩
/-- What one of a bucket's numbers is. -/
theorem ids_at {ws : List (List UInt8)} {c j : Nat} (h : j < (idsL ws c).length) : ∃ m t, (idsL ws c).getD j 0 = ((m : Nat) : Int) ∧ ws[m]? = some t ∧ lastN t = some c ∧ 0 < t.length := by
  have hm : (idsL ws c).getD j 0 ∈ idsL ws c := by
    simp only [List.getD, List.getElem?_eq_getElem h, Option.getD_some]
    exact List.getElem_mem _
  obtain ⟨m, h1, h2, h3⟩ := bids_mem hm
  obtain ⟨t, ht⟩ : ∃ t, ws[m]? = some t := ⟨_, List.getElem?_eq_getElem h2⟩
  have hl := (ends_of ht).1 h3
  refine ⟨m, t, h1, ht, hl, ?_⟩
  rcases Nat.eq_zero_or_pos t.length with h0 | h0
  · rw [List.length_eq_zero_iff.1 h0, lastN_nil] at hl; cases hl
  · exact h0

theorem lst_congr (ws : List (List UInt8)) (ids more : List Int) : ∀ j, j ≤ ids.length → lstK ws (ids ++ more) j = lstK ws ids j
  | 0, _ => rfl
  | j + 1, h => by
    have e : (ids ++ more).getD j 0 = ids.getD j 0 := by simp only [List.getD, List.getElem?_append_left (show j < ids.length by omega)]
    unfold lstK
    rw [e, lst_congr ws ids more j (by omega)]
theorem lst_snoc (ws : List (List UInt8)) (ids : List Int) (x : Int) : lstA ws (ids ++ [x]) = if ids.length = 0 ∨ lenAt ws x < lstA ws ids then lenAt ws x else lstA ws ids := by
  unfold lstA
  rw [List.length_append, List.length_singleton]
  have e : (ids ++ [x]).getD ids.length 0 = x := by simp [List.getD]
  rw [lstK, e, lst_congr ws ids [x] _ (Nat.le_refl _)]
theorem lst_nil (ws : List (List UInt8)) : lstA ws [] = 0 := rfl
theorem lst_le {ws : List (List UInt8)} {m : Nat} (h : ∀ t ∈ ws, t.length ≤ m) (ids : List Int) : ∀ j, lstK ws ids j ≤ m
  | 0 => Nat.zero_le _
  | j + 1 => by
    have h1 : lenAt ws (ids.getD j 0) ≤ m := by
      unfold lenAt
      simp only [List.getD]
      cases hg : ws[(ids[j]?.getD 0).toNat]? with
      | none => simp
      | some t => exact h t (List.mem_of_getElem? hg)
    have := lst_le h ids j
    unfold lstK
    split <;> omega
theorem lenAt_of {ws : List (List UInt8)} {k : Nat} {t : List UInt8} (h : ws[k]? = some t) : lenAt ws (k : Int) = t.length := by
  unfold lenAt; rw [Int.toNat_natCast, getD_of h]

theorem byt_miss {ws : List (List UInt8)} {n : Nat} (h : (idsL ws n).length = 0) : bytK ws (n + 1) = bytK ws n := if_pos h
theorem byt_hit {ws : List (List UInt8)} {n : Nat} (h : ¬ (idsL ws n).length = 0) : bytK ws (n + 1) = bytK ws n ++ [UInt8.ofNat n] := if_neg h
theorem byt_length (ws : List (List UInt8)) : ∀ n, (bytK ws n).length ≤ n
  | 0 => Nat.le_refl _
  | n + 1 => by
    have := byt_length ws n
    unfold bytK
    split
    · omega
    · rw [List.length_append]; simp; omega

/-- So many patterns are in the buckets of these bytes. -/
def bcntL (ws : List (List UInt8)) : List UInt8 → Nat
  | [] => 0
  | c :: l => (idsL ws c.toNat).length + bcntL ws l
theorem cnt_append (ws : List (List UInt8)) : ∀ a b, bcntL ws (a ++ b) = bcntL ws a + bcntL ws b
  | [], b => by simp [bcntL]
  | c :: a, b => by rw [List.cons_append, bcntL, bcntL, cnt_append ws a b]; omega
theorem cnt_snoc {ws : List (List UInt8)} {l : List UInt8} {i : Nat} (h : i < l.length) : bcntL ws (l.take (i + 1)) = bcntL ws (l.take i) + (idsL ws (l[i]).toNat).length := by
  rw [List.take_succ_eq_append_getElem h, cnt_append]
  simp [bcntL]
theorem cnt_take_le (ws : List (List UInt8)) (l : List UInt8) (i : Nat) : bcntL ws (l.take i) ≤ bcntL ws l := by
  have := cnt_append ws (l.take i) (l.drop i)
  rw [List.take_append_drop] at this
  omega
/-- .. and of the first k in those of the first n bytes. -/
def sumK (ws : List (List UInt8)) (k : Nat) : Nat → Nat
  | 0 => 0
  | n + 1 => sumK ws k n + (bidsK ws n k).length
theorem sum_zero (ws : List (List UInt8)) : ∀ n, sumK ws 0 n = 0
  | 0 => rfl
  | n + 1 => by rw [sumK, sum_zero ws n]; rfl
theorem sum_miss {ws : List (List UInt8)} {k : Nat} : ∀ {n : Nat}, (∀ c, c < n → ¬ endsN ws c k = true) → sumK ws (k + 1) n = sumK ws k n
  | 0, _ => rfl
  | n + 1, h => by rw [sumK, sumK, sum_miss (fun c hc => h c (by omega)), bids_miss (h n (by omega))]
theorem sum_hit {ws : List (List UInt8)} {k c : Nat} (he : ∀ d, endsN ws d k = true ↔ d = c) : ∀ {n : Nat}, c < n → sumK ws (k + 1) n = sumK ws k n + 1
  | 0, h => by omega
  | n + 1, h => by
    rw [sumK, sumK]
    by_cases hc : c = n
    · rw [sum_miss (fun d hd => by rw [he]; omega), bids_hit ((he n).2 hc.symm), List.length_append]
      simp; omega
    · rw [sum_hit he (show c < n by omega), bids_miss (by rw [he]; omega)]
      omega
theorem sum_all {ws : List (List UInt8)} (h : ∀ t ∈ ws, 0 < t.length) : ∀ k, k ≤ ws.length → sumK ws k 256 = k
  | 0, _ => sum_zero ws 256
  | k + 1, hk => by
    obtain ⟨t, ht⟩ : ∃ t, ws[k]? = some t := ⟨_, List.getElem?_eq_getElem (by omega)⟩
    obtain ⟨c, hc, hl, _⟩ := lastN_some (h t (List.mem_of_getElem? ht))
    rw [sum_hit (c := c) (fun d => by rw [ends_of ht, hl]; simp [eq_comm]) hc, sum_all h k (by omega)]
theorem cnt_byt (ws : List (List UInt8)) : ∀ n, n ≤ 256 → bcntL ws (bytK ws n) = sumK ws ws.length n
  | 0, _ => rfl
  | n + 1, h => by
    have ih := cnt_byt ws n (by omega)
    rw [sumK]
    by_cases h0 : (idsL ws n).length = 0
    · rw [byt_miss h0, ih]
      unfold idsL at h0
      omega
    · rw [byt_hit h0, cnt_append, ih]
      simp only [bcntL, Nat.add_zero]
      rw [show (UInt8.ofNat n).toNat = n from by simp; omega]
      rfl
/-- Each pattern is in just one bucket. -/
theorem cnt_all {ws : List (List UInt8)} (h : ∀ t ∈ ws, 0 < t.length) : bcntL ws (bytL ws) = ws.length := by
  unfold bytL
  rw [cnt_byt ws 256 (Nat.le_refl _), sum_all h _ (Nat.le_refl _)]

theorem bids_none (c : Nat) : idsL [] c = [] := rfl
theorem lst_none (c : Nat) : lstL [] c = 0 := rfl
theorem byt_none : bytL [] = [] := by
  unfold bytL
  suffices h : ∀ n, bytK [] n = [] from h 256
  intro n
  induction n with
  | zero => rfl
  | succ n ih => rw [byt_miss (by rw [bids_none]; rfl), ih]
end Go.Proofs.Ytjmaccflnfaiiaa
