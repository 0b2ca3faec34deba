/-
  Classes of bytes as lists: which bytes stand in texts, which class each has, how many of a text's last bytes have none. No program here.
-/
import Derived.Test.YthmihhacfhjimaaShM
import Derived.Lib.Hide
set_option linter.unusedSimpArgs false
set_option linter.unusedVariables false
namespace Go.Proofs.Ythmihhacfhjimaa

/-- Does a byte stand in a text? -/
def inT (t : List UInt8) (c : Nat) : Bool := t.any fun x => x.toNat == c
/-- .. in one of some texts? -/
def hasC (us : List (List UInt8)) (c : Nat) : Bool := us.any fun t => inT t c
theorem inT_iff {t : List UInt8} {c : Nat} : inT t c = true ↔ ∃ x ∈ t, x.toNat = c := by
  unfold inT
  simp only [List.any_eq_true, beq_iff_eq]
theorem hasC_iff {us : List (List UInt8)} {c : Nat} : hasC us c = true ↔ ∃ t ∈ us, ∃ x ∈ t, x.toNat = c := by
  unfold hasC
  simp only [List.any_eq_true, inT_iff]
theorem hasC_lt {us : List (List UInt8)} {c : Nat} (h : hasC us c = true) : c < 256 := by
  obtain ⟨t, _, x, _, rfl⟩ := hasC_iff.1 h
  exact x.toNat_lt

theorem any_snoc {α : Type} {p : α → Bool} {l : List α} {k : Nat} {x : α} (h : l[k]? = some x) : (l.take (k + 1)).any p = ((l.take k).any p || p x) := by
  obtain ⟨hk, rfl⟩ := List.getElem?_eq_some_iff.1 h
  rw [List.take_succ_eq_append_getElem hk, List.any_append]
  simp
theorem inT_snoc {t : List UInt8} {k : Nat} {x : UInt8} (h : t[k]? = some x) (c : Nat) : inT (t.take (k + 1)) c = (inT (t.take k) c || x.toNat == c) := any_snoc h
theorem hasC_snoc {us : List (List UInt8)} {k : Nat} {t : List UInt8} (h : us[k]? = some t) (c : Nat) : hasC (us.take (k + 1)) c = (hasC (us.take k) c || inT t c) := any_snoc h
theorem hasC_mem {us : List (List UInt8)} {t : List UInt8} {x : UInt8} (h : t ∈ us) (hx : x ∈ t) : hasC us x.toNat = true := hasC_iff.2 ⟨t, h, x, hx, rfl⟩

/-- The bytes below n that stand in texts, rising. -/
def bcK (us : List (List UInt8)) : Nat → List UInt8
  | 0 => []
  | n + 1 => bcK us n ++ if hasC us n then [UInt8.ofNat n] else []
theorem bc_hit {us : List (List UInt8)} {n : Nat} (h : hasC us n = true) : bcK us (n + 1) = bcK us n ++ [UInt8.ofNat n] := by rw [bcK, if_pos h]
theorem bc_miss {us : List (List UInt8)} {n : Nat} (h : hasC us n = false) : bcK us (n + 1) = bcK us n := by rw [bcK, if_neg (by rw [h]; decide), List.append_nil]
theorem bc_length (us : List (List UInt8)) : ∀ n, (bcK us n).length ≤ n
  | 0 => Nat.le_refl _
  | n + 1 => by
    have := bc_length us n
    rw [bcK, List.length_append]
    split <;> simp <;> omega
theorem bc_mono (us : List (List UInt8)) (n : Nat) : ∀ m, (bcK us n).length ≤ (bcK us (n + m)).length
  | 0 => Nat.le_refl _
  | m + 1 => by
    have := bc_mono us n m
    rw [← Nat.add_assoc, bcK, List.length_append]
    omega
theorem bc_le (us : List (List UInt8)) {m n : Nat} (h : m ≤ n) : (bcK us m).length ≤ (bcK us n).length := by
  have := bc_mono us m (n - m)
  rwa [Nat.add_sub_cancel' h] at this

/-- A byte's class. -/
def ofC (us : List (List UInt8)) (c : Nat) : Nat := if hasC us c then (bcK us (c + 1)).length else 0
theorem of_hit {us : List (List UInt8)} {c : Nat} (h : hasC us c = true) : ofC us c = (bcK us c).length + 1 := by
  unfold ofC
  rw [if_pos h, bc_hit h]
  simp
theorem of_miss {us : List (List UInt8)} {c : Nat} (h : hasC us c = false) : ofC us c = 0 := by
  unfold ofC
  rw [h]; rfl
theorem of_pos {us : List (List UInt8)} {c : Nat} : 0 < ofC us c ↔ hasC us c = true := by
  cases h : hasC us c with
  | true => rw [of_hit h]; simp
  | false => rw [of_miss h]; simp
theorem of_le (us : List (List UInt8)) (c : Nat) : ofC us c ≤ 256 := by
  cases h : hasC us c with
  | true =>
    rw [of_hit h]
    have h1 := bc_length us c
    have h2 := hasC_lt h
    omega
  | false => rw [of_miss h]; omega
/-- Of two bytes that are not foreign the greater one has the greater class. -/
theorem of_lt {us : List (List UInt8)} {a b : Nat} (ha : 0 < ofC us a) (hb : 0 < ofC us b) : ofC us a < ofC us b ↔ a < b := by
  have ha' := of_pos.1 ha
  have hb' := of_pos.1 hb
  have key : ∀ {x y : Nat}, hasC us x = true → hasC us y = true → x < y → ofC us x < ofC us y := by
    intro x y hx hy h
    rw [of_hit hy]
    have h1 := bc_le us (show x + 1 ≤ y by omega)
    have h2 := of_hit hx
    rw [bc_hit hx, List.length_append, List.length_singleton] at h1
    omega
  refine ⟨fun h => ?_, fun h => key ha' hb' h⟩
  rcases Nat.lt_trichotomy a b with h' | h' | h'
  · exact h'
  · subst h'; omega
  · have := key hb' ha' h'; omega

/-- How many of a text's last bytes have no class. -/
def forL (F : Nat → Nat) (s : List UInt8) : Nat := mn (fun k => decide (0 < F (s.getD (s.length - 1 - k) 0).toNat)) s.length
theorem forL_is {F : Nat → Nat} {s : List UInt8} {n : Nat} (h1 : n ≤ s.length) (h2 : ∀ k, k < n → F (s.getD (s.length - 1 - k) 0).toNat = 0) (h3 : n < s.length → 0 < F (s.getD (s.length - 1 - n) 0).toNat) : forL F s = n := by
  unfold forL
  exact mn_is h1 (fun d hd => decide_eq_false (by rw [h2 d hd]; omega)) (fun hl => decide_eq_true (h3 hl))
end Go.Proofs.Ythmihhacfhjimaa
