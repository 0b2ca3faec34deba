/-
  A text cut at its commas, and what a row's parts answer. No program here.
-/
import Derived.Test.YtgoidhlemmdjgaaDoorParM
import Derived.Lib.IndexLaws
import Derived.Lib.IndexBytes
set_option linter.unusedSimpArgs false
set_option linter.unusedVariables false
namespace Go.Proofs.YtgoidhlemmdjgaaDoor
open Go.Lib

/-- The parts of a text between its commas. -/
def pieces : List UInt8 → List (List UInt8)
  | [] => [[]]
  | c :: r => if c = 44 then [] :: pieces r else match pieces r with
    | [] => [[c]]
    | p :: ps => (c :: p) :: ps

theorem pieces_ne (l : List UInt8) : pieces l ≠ [] := by
  cases l with
  | nil => simp [pieces]
  | cons c r =>
    rw [pieces]
    split
    · simp
    · split <;> simp

theorem pieces_none : ∀ (l : List UInt8), (∀ k : Nat, l[k]? ≠ some 44) → pieces l = [l]
  | [], _ => rfl
  | c :: r, h => by
    have hc : c ≠ 44 := fun e => h 0 (by simp [e])
    have ih := pieces_none r (fun k => by have := h (k + 1); simpa using this)
    rw [pieces, if_neg hc, ih]

theorem pieces_some : ∀ (l : List UInt8) (i : Nat), l[i]? = some 44 → (∀ k, k < i → l[k]? ≠ some 44) → pieces l = l.take i :: pieces (l.drop (i + 1))
  | [], i, h, _ => by simp at h
  | c :: r, 0, h, _ => by
    have : c = 44 := by simpa using h
    rw [pieces, if_pos this]; simp
  | c :: r, i + 1, h, hk => by
    have hc : c ≠ 44 := fun e => hk 0 (by omega) (by simp [e])
    have ih := pieces_some r i (by simpa using h) (fun k hki => by have := hk (k + 1) (by omega); simpa using this)
    rw [pieces, if_neg hc, ih]
    simp

/-- What a row's parts answer: the first error that is none of 0, and all numbers where there is none. -/
def rowE (least most : Int) : List (List UInt8) → Int
  | [] => 0
  | p :: r => if parE p least most = 0 then rowE least most r else parE p least most

def rowN (least most : Int) (ps : List (List UInt8)) : List Int := ps.map fun p => parN p least most

theorem rowE_ok (least most : Int) : ∀ (ps : List (List UInt8)), (∀ p ∈ ps, parE p least most = 0) → rowE least most ps = 0
  | [], _ => rfl
  | p :: r, h => by rw [rowE, if_pos (h p (by simp)), rowE_ok least most r (fun q hq => h q (by simp [hq]))]

theorem rowE_bad (least most : Int) : ∀ (pre : List (List UInt8)) (p : List UInt8) (r : List (List UInt8)), (∀ q ∈ pre, parE q least most = 0) → parE p least most ≠ 0 → rowE least most (pre ++ p :: r) = parE p least most
  | [], p, r, _, hp => by rw [List.nil_append, rowE, if_neg hp]
  | q :: pre, p, r, h, hp => by
    rw [List.cons_append, rowE, if_pos (h q (by simp)), rowE_bad least most pre p r (fun q hq => h q (by simp [hq])) hp]

theorem pieces_length : ∀ (l : List UInt8), (pieces l).length ≤ l.length + 1
  | [] => by simp [pieces]
  | c :: r => by
    have ih := pieces_length r
    rw [pieces]
    split
    · simp; omega
    · split
      · simp
      · rename_i p ps e; rw [e] at ih; simp at ih ⊢; omega

theorem pieces_short : ∀ (l p : List UInt8), p ∈ pieces l → p.length ≤ l.length
  | [], p, h => by simp [pieces] at h; simp [h]
  | c :: r, p, h => by
    rw [pieces] at h
    split at h
    · rcases List.mem_cons.1 h with rfl | h
      · simp
      · have := pieces_short r p h; simp; omega
    · split at h
      · simp at h; simp [h]
      · rename_i q qs e
        rcases List.mem_cons.1 h with rfl | h
        · have := pieces_short r q (by rw [e]; simp); simp; omega
        · have := pieces_short r p (by rw [e]; simp [h]); simp; omega

theorem ext_take (l : List UInt8) (i : Nat) : (⟨(l.take i).toArray⟩ : ByteArray) = (⟨l.toArray⟩ : ByteArray).extract 0 i := by
  have h := Lib.extract_data (⟨l.toArray⟩ : ByteArray) 0 i
  apply ByteArray.ext
  apply Array.toList_inj.1
  rw [h]; simp

theorem ext_drop (l : List UInt8) (i : Nat) : (⟨(l.drop i).toArray⟩ : ByteArray) = (⟨l.toArray⟩ : ByteArray).extract i (⟨l.toArray⟩ : ByteArray).size := by
  have h := Lib.extract_data (⟨l.toArray⟩ : ByteArray) i (⟨l.toArray⟩ : ByteArray).size
  apply ByteArray.ext
  apply Array.toList_inj.1
  rw [h, bsize]; simp [List.take_of_length_le]

theorem ext_drop' (l : List UInt8) (i : Nat) : (⟨l.toArray⟩ : ByteArray).extract i l.length = ⟨(l.drop i).toArray⟩ := by
  rw [ext_drop, bsize]

theorem ext_mid (l : List UInt8) (f k : Nat) : (⟨l.toArray⟩ : ByteArray).extract f k = ⟨((l.drop f).take (k - f)).toArray⟩ := by
  have h := Lib.extract_data (⟨l.toArray⟩ : ByteArray) f k
  apply ByteArray.ext
  apply Array.toList_inj.1
  rw [h]

/-- How far the document's own loop has come: all ahead of 'f' is cut, and from there to 'k' stands no comma. -/
def Cut (l : List UInt8) (pre : List (List UInt8)) (f k : Nat) : Prop :=
  (k ≤ l.length ∧ f ≤ k ∧ pieces l = pre ++ pieces (l.drop f) ∧ ∀ j, f ≤ j → j < k → l[j]? ≠ some 44) ∨ (k = l.length + 1 ∧ pieces l = pre)

theorem cut_start (l : List UInt8) : Cut l [] 0 0 := .inl ⟨Nat.zero_le _, Nat.le_refl _, rfl, fun j h1 h2 => absurd h2 (by omega)⟩

theorem cut_on {l : List UInt8} {pre : List (List UInt8)} {f k : Nat} (h : Cut l pre f k) (hk : k < l.length) (hc : l[k] ≠ 44) : Cut l pre f (k + 1) := by
  rcases h with ⟨h1, h2, h3, h4⟩ | ⟨h1, _⟩
  · refine .inl ⟨by omega, by omega, h3, fun j hj1 hj2 => ?_⟩
    by_cases e : j = k
    · subst e; rw [List.getElem?_eq_getElem hk]; simpa using hc
    · exact h4 j hj1 (by omega)
  · omega

theorem cut_piece {l : List UInt8} {pre : List (List UInt8)} {f k : Nat} (h : Cut l pre f k) (hk : k ≤ l.length) (hc : k = l.length ∨ l[k]? = some 44) :
    f ≤ k ∧ (∃ r, pieces l = pre ++ (l.drop f).take (k - f) :: r) ∧ Cut l (pre ++ [(l.drop f).take (k - f)]) (k + 1) (k + 1) := by
  rcases h with ⟨h1, h2, h3, h4⟩ | ⟨h1, _⟩
  · refine ⟨h2, ?_⟩
    have hno : ∀ j, j < k - f → (l.drop f)[j]? ≠ some 44 := fun j hj => by
      rw [List.getElem?_drop]
      exact h4 (f + j) (by omega) (by omega)
    rcases Nat.lt_or_ge k l.length with hlt | hge
    · have h44 : l[k]? = some 44 := hc.resolve_left (by omega)
      have hp := pieces_some (l.drop f) (k - f) (by rw [List.getElem?_drop, show f + (k - f) = k by omega]; exact h44) hno
      rw [List.drop_drop, show f + (k - f + 1) = k + 1 by omega] at hp
      rw [hp] at h3
      exact ⟨⟨_, h3⟩, .inl ⟨by omega, Nat.le_refl _, by rw [h3]; simp, fun j hj1 hj2 => absurd hj2 (by omega)⟩⟩
    · have hkl : k = l.length := by omega
      have ht : (l.drop f).take (k - f) = l.drop f := List.take_of_length_le (by rw [List.length_drop]; omega)
      have hp := pieces_none (l.drop f) (fun j => by
        by_cases hj : j < k - f
        · exact hno j hj
        · rw [List.getElem?_eq_none (by rw [List.length_drop]; omega)]; simp)
      rw [hp] at h3
      rw [ht]
      exact ⟨⟨[], h3⟩, .inr ⟨by omega, h3⟩⟩
  · omega

end Go.Proofs.YtgoidhlemmdjgaaDoor
