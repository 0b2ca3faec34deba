/-
  Plain facts on decimal numerals and on the array into which digits are laid from its end on. No program here.
-/
import Derived.Lib.ItoaNum
import Derived.Lib.ItoaLen
import Derived.Lib.ItoaMem
import Derived.Lib.Builder
import Derived.Lib.UnsafeStr
import Derived.Laws.IdiomStrings
set_option linter.unusedSimpArgs false
set_option linter.unusedVariables false
namespace Go.Proofs.YtgoidhlemmdjgaaDoor
open Go.Lib

/-- The array of bytes: k zeros ahead, then the digits that are there. -/
def arr (k : Nat) (ds : List UInt8) : Array Value := ((List.replicate k (0 : UInt8) ++ ds).map fun b => Value.int .u8 (b.toNat : Int)).toArray

theorem arr_size (k : Nat) (ds : List UInt8) : (arr k ds).size = k + ds.length := by simp [arr]

theorem arr_at (k : Nat) (ds : List UInt8) : (arr (k + 1) ds)[k]? = some (.int .u8 0) := by
  simp [arr, List.getElem?_append]

theorem arr_digit (k : Nat) (ds : List UInt8) (j : Nat) (hj : j < ds.length) : (arr k ds)[k + j]? = some (.int .u8 (ds[j].toNat : Int)) := by
  simp [arr, List.getElem?_append, hj]

theorem arr_set (k : Nat) (ds : List UInt8) (b : UInt8) : (arr (k + 1) ds).setIfInBounds k (.int .u8 (b.toNat : Int)) = arr k (b :: ds) := by
  unfold arr
  rw [List.setIfInBounds_toArray, ← List.map_set (f := fun b : UInt8 => Value.int .u8 (b.toNat : Int)) (a := b)]
  congr 2
  have e : List.replicate (k + 1) (0 : UInt8) = List.replicate k 0 ++ [0] := by rw [List.replicate_succ']
  rw [e, List.append_assoc, List.set_append_right _ _ (by simp)]
  simp

theorem decDigits_step {r : Nat} (h : 9 < r) (ds : List UInt8) : decDigits r ++ ds = decDigits (r / 10) ++ (UInt8.ofNat (48 + r % 10) :: ds) := by
  rw [decDigits, dif_neg (by omega)]; simp

theorem decDigits_end {r : Nat} (h : ¬ 9 < r) (ds : List UInt8) : decDigits r ++ ds = UInt8.ofNat (48 + r) :: ds := by
  rw [decDigits, dif_pos (by omega)]; simp

theorem pow_step {r k : Nat} (h9 : 9 < r) (hk : r < 10 ^ k) (h1 : 1 ≤ k) : 2 ≤ k ∧ r / 10 < 10 ^ (k - 1) := by
  obtain ⟨j, rfl⟩ : ∃ j, k = j + 1 := ⟨k - 1, by omega⟩
  rw [Nat.pow_succ] at hk
  refine ⟨?_, ?_⟩
  · rcases Nat.eq_zero_or_pos j with e | e
    · subst e; simp at hk; omega
    · omega
  · simp only [Nat.add_sub_cancel]; omega

/-- One digit, as the document's own text cuts it out of ten. -/
def ten : ByteArray := ⟨#[48, 49, 50, 51, 52, 53, 54, 55, 56, 57]⟩
/-- A digit's byte. -/
def dch (n : Int) : UInt8 := UInt8.ofNat (48 + n.toNat)
theorem ten_fin : ∀ i : Fin 10, ten.extract i.val (i.val + 1) = ⟨#[UInt8.ofNat (48 + i.val)]⟩ := by decide +kernel
theorem ten_at (n : Int) (h0 : 0 ≤ n) (h : n < 10) : ten.extract n.toNat (n + 1).toNat = ⟨#[dch n]⟩ := by
  have := ten_fin ⟨n.toNat, by omega⟩
  rw [show (n + 1).toNat = n.toNat + 1 by omega]
  exact this

theorem itoa_neg1 (n : Int) (h1 : -10 < n) (h0 : n < 0) : itoa n = [45, dch (-n)] := by
  unfold itoa dch
  rw [if_pos h0, decDigits, dif_pos (by omega), show n.natAbs = (-n).toNat by omega]

theorem itoa_neg2 (n : Int) (h1 : n ≤ -10) : itoa n = itoa (n.tdiv 10) ++ [dch (-n.tmod 10)] := by
  unfold dch
  obtain ⟨u, rfl⟩ : ∃ u : Nat, n = -(u : Int) := ⟨n.natAbs, by omega⟩
  have e1 : (-(u : Int)).tdiv 10 = -((u / 10 : Nat) : Int) := by rw [Int.neg_tdiv]; rfl
  have e2 : (-(-(u : Int)).tmod 10).toNat = u % 10 := by rw [Int.neg_tmod, Int.tmod_eq_emod_of_nonneg (by omega)]; omega
  rw [e1, e2, itoa_neg u (by omega), itoa_neg (u / 10) (by omega), decDigits, dif_neg (by omega)]
  rfl

theorem quo_bounds (n : Int) (k : Nat) (h1 : n ≤ -10) (h2 : -9223372036854775808 ≤ n) (hk : n.natAbs ≤ k + 1) :
    -9223372036854775808 ≤ n.tdiv 10 ∧ n.tdiv 10 ≤ 9223372036854775807 ∧ (n.tdiv 10).natAbs ≤ k ∧ 0 ≤ -n.tmod 10 ∧ -n.tmod 10 < 10 := by
  obtain ⟨u, rfl⟩ : ∃ u : Nat, n = -(u : Int) := ⟨n.natAbs, by omega⟩
  have e1 : (-(u : Int)).tdiv 10 = -((u / 10 : Nat) : Int) := by rw [Int.neg_tdiv]; rfl
  have e2 : (-(u : Int)).tmod 10 = -((u % 10 : Nat) : Int) := by rw [Int.neg_tmod, Int.tmod_eq_emod_of_nonneg (by omega)]; rfl
  rw [e1, e2]
  omega

theorem itoa_pos1 (n : Int) (h1 : 0 ≤ n) (h0 : n < 10) : itoa n = [dch n] := by
  unfold itoa dch
  rw [if_neg (by omega), decDigits, dif_pos (by omega)]

theorem itoa_pos2 (n : Int) (h1 : 10 ≤ n) : itoa n = itoa (n / 10) ++ [dch (n % 10)] := by
  unfold dch
  obtain ⟨u, rfl⟩ : ∃ u : Nat, n = (u : Int) := ⟨n.toNat, by omega⟩
  rw [show ((u : Int) / 10) = ((u / 10 : Nat) : Int) by omega, show ((u : Int) % 10).toNat = u % 10 by omega, itoa_nonneg, itoa_nonneg, decDigits, dif_neg (by omega)]

/-- The texts of numbers, with a comma between each two. -/
def rowTo : List Int → List UInt8
  | [] => []
  | x :: r => itoa x ++ (match r with | [] => [] | _ :: _ => 44 :: rowTo r)

/-- A row's text. -/
def rowL (l : List Int) : List UInt8 := match l with | [] => [45] | _ :: _ => rowTo l

theorem rowTo_snoc : ∀ (l : List Int) (x : Int), rowTo (l ++ [x]) = (match l with | [] => itoa x | _ :: _ => rowTo l ++ 44 :: itoa x)
  | [], x => by simp [rowTo]
  | [y], x => by simp [rowTo]
  | y :: z :: r, x => by
    have ih := rowTo_snoc (z :: r) x
    simp only [List.cons_append] at ih ⊢
    rw [rowTo, ih]
    simp [rowTo]

theorem rowTo_one (x : Int) : rowTo [x] = itoa x := by simp [rowTo]

theorem rowTo_more (l : List Int) (x : Int) (h : l ≠ []) : rowTo (l ++ [x]) = rowTo l ++ 44 :: itoa x := by
  rw [rowTo_snoc]
  cases l with
  | nil => exact absurd rfl h
  | cons _ _ => rfl

theorem bsize (l : List UInt8) : (⟨l.toArray⟩ : ByteArray).size = l.length := by simp [ByteArray.size]

theorem itoa_ne_nil (n : Int) : itoa n ≠ [] := by
  have h : ∀ u, decDigits u ≠ [] := fun u => by
    have := nDigits_pos u
    intro e
    have := congrArg List.length e
    rw [decDigits_length] at this
    simp at this; omega
  unfold itoa
  split
  · simp
  · exact h _

theorem rowTo_full (l : List Int) (h : l ≠ []) : (rowTo l).isEmpty = false := by
  cases l with
  | nil => exact absurd rfl h
  | cons x r =>
    have := itoa_ne_nil x
    cases hx : itoa x with
    | nil => exact absurd hx this
    | cons _ _ => cases r <;> simp [rowTo, hx]

def Int64s (l : List Int) : Prop := ∀ x ∈ l, -9223372036854775808 ≤ x ∧ x ≤ 9223372036854775807

theorem rowTo_length : ∀ (l : List Int), Int64s l → (rowTo l).length ≤ 22 * l.length
  | [], _ => by simp [rowTo]
  | x :: r, h => by
    have hx := itoa_length_le x (h x (by simp)).1 (h x (by simp)).2
    have ih := rowTo_length r (fun y hy => h y (by simp [hy]))
    cases r with
    | nil => simp [rowTo]; omega
    | cons y r' =>
      simp only [rowTo, List.length_append, List.length_cons] at ih ⊢
      omega

theorem BuilderAt.below {T e : TypeId} {B b : Nat} {p : Value} {bs : List Value} {W W' : World} (h : Lib.BuilderAt T e B b p bs W) (hb : RowKit.Below W.heap.size W W') : Lib.BuilderAt T e B b p bs W' := by
  have hlt := h.lt
  obtain ⟨hB, v, hv, hown, hne⟩ := h
  exact ⟨hB, v, (hb.block b hlt).trans hv, hown.kept (row := none) ⟨hb.os, hb.tape, hb.output, hb.size, fun k hk _ => hb.block k hk⟩ (Classical.em _), hne⟩

theorem IsBuilder.below {T e : TypeId} {B b : Nat} {bs : List Value} {W W' : World} (h : Lib.IsBuilder T e B b bs W) (hb : RowKit.Below W.heap.size W W') : Lib.IsBuilder T e B b bs W' :=
  h.elim (fun x => .inl (BuilderAt.below x hb)) (fun x => .inr (BuilderAt.below x hb))

theorem IsBuilder.lt {T e : TypeId} {B b : Nat} {bs : List Value} {W : World} (h : Lib.IsBuilder T e B b bs W) : b < W.heap.size :=
  h.elim (fun x => x.lt) (fun x => x.lt)

theorem getD_at (l : List Int) (k : Nat) (h : k < l.length) : l.getD k 0 = l[k] := by simp [List.getD, h]

theorem getD_in (l : List Int) (k : Nat) (h : k < l.length) : l.getD k 0 ∈ l := by rw [getD_at l k h]; exact List.getElem_mem _

theorem take_snoc (l : List Int) (k : Nat) (h : k < l.length) : l.take (k + 1) = l.take k ++ [l.getD k 0] := by
  rw [List.take_succ_eq_append_getElem h, getD_at l k h]

/-- A slice of integers that came in: empty, or a row of 'cap' cells, the numbers 'zs' (the first 'len' are its elements). -/
def IsRow (k : IntKind) (w : World) (a : Option Addr) (len cap : Nat) (zs : List Int) : Prop :=
  len = 0 ∨ ∃ b off, a = some ⟨b, off, none⟩ ∧ len ≤ cap ∧ cap ≤ maxLen ∧ zs.length = cap ∧ (∀ i, i < cap → w.cell? ⟨b, off + i, none⟩ = some (.int k (zs.getD i 0)))

theorem IsRow.below {k : IntKind} {w w' : World} {a : Option Addr} {len cap : Nat} {zs : List Int} (h : IsRow k w a len cap zs) (hb : RowKit.Below w.heap.size w w') : IsRow k w' a len cap zs := by
  rcases h with h | ⟨b, off, ha, hl, hm, hz, hc⟩
  · exact .inl h
  · refine .inr ⟨b, off, ha, hl, hm, hz, fun i hi => ?_⟩
    have h1 := hc i hi
    rw [hb.cell (p := ⟨b, off + i, none⟩) (World.block_lt_of_cell? w _ h1)]
    exact h1

end Go.Proofs.YtgoidhlemmdjgaaDoor
