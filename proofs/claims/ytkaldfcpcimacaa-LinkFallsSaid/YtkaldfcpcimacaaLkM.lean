/-
  Where states fall back to, as lists. No program here.
-/
import Derived.Test.YtkaldfcpcimacaaTrR
set_option linter.unusedSimpArgs false
set_option linter.unusedVariables false
namespace Go.Proofs.Ytkaldfcpcimacaa
open Go.Lib

/-- The longest text that stands in a list and with which these bytes end; none: no bytes. -/
def lgL (P : List (List UInt8)) : List UInt8 → List UInt8
  | [] => []
  | c :: q => if c :: q ∈ P then c :: q else lgL P q
theorem lg_nil (P : List (List UInt8)) : lgL P [] = [] := rfl
theorem lg_hit {P : List (List UInt8)} {q : List UInt8} (h : q ∈ P) : lgL P q = q := by
  cases q with
  | nil => rfl
  | cons c q => unfold lgL; rw [if_pos h]
theorem lg_miss {P : List (List UInt8)} {q : List UInt8} (h : q ∉ P) : lgL P q = lgL P q.tail := by
  cases q with
  | nil => rfl
  | cons c q => rw [lgL, if_neg h]; rfl
theorem lg_end (P : List (List UInt8)) (q : List UInt8) : lgL P q <:+ q := by
  induction q with
  | nil => exact List.suffix_refl _
  | cons c q ih =>
    by_cases h : c :: q ∈ P
    · rw [lg_hit h]; exact List.suffix_refl _
    · rw [lg_miss h]; exact ih.trans (List.suffix_cons c q)
theorem lg_mem {P : List (List UInt8)} (h0 : [] ∈ P) (q : List UInt8) : lgL P q ∈ P := by
  induction q with
  | nil => exact h0
  | cons c q ih =>
    by_cases h : c :: q ∈ P
    · rw [lg_hit h]; exact h
    · rw [lg_miss h]; exact ih
theorem lg_or (P : List (List UInt8)) (q : List UInt8) : lgL P q = [] ∨ lgL P q ∈ P := by
  induction q with
  | nil => exact .inl rfl
  | cons c q ih =>
    by_cases h : c :: q ∈ P
    · rw [lg_hit h]; exact .inr h
    · rw [lg_miss h]; exact ih
theorem lg_len (P : List (List UInt8)) (q : List UInt8) : (lgL P q).length ≤ q.length := (lg_end P q).length_le
/-- What stands there and ends these bytes ends the longest one. -/
theorem lg_max {P : List (List UInt8)} {t : List UInt8} : ∀ {q : List UInt8}, t ∈ P → t <:+ q → t <:+ lgL P q
  | [], _, h => h
  | c :: q, ht, h => by
    by_cases hq : c :: q ∈ P
    · rw [lg_hit hq]; exact h
    · rw [lg_miss hq]
      rcases List.suffix_cons_iff.1 h with h | h
      · subst h; exact absurd ht hq
      · exact lg_max ht h
/-- The longest one of a list ends the longest one of another that holds it. -/
theorem lg_in {U P : List (List UInt8)} (hs : ∀ t ∈ U, t ∈ P) : ∀ q : List UInt8, lgL U q = lgL U (lgL P q)
  | [] => rfl
  | c :: q => by
    by_cases h : c :: q ∈ P
    · rw [lg_hit h]
    · rw [lg_miss (P := P) h, lg_miss (P := U) fun hm => h (hs _ hm)]
      exact lg_in hs q
/-- One more byte behind: only the longest one counts. -/
theorem lg_snoc {P : List (List UInt8)} (hc : ∀ t ∈ P, t.dropLast ∈ P) (c : UInt8) : ∀ q : List UInt8, lgL P (q ++ [c]) = lgL P (lgL P q ++ [c])
  | [] => rfl
  | d :: q => by
    by_cases h : d :: q ∈ P
    · rw [lg_hit h]
    · rw [lg_miss (P := P) (q := d :: q) h, lg_miss (P := P) (q := d :: q ++ [c]) fun hm => h (by have := hc _ hm; rwa [List.dropLast_concat] at this)]
      exact lg_snoc hc c q
theorem st_closed {us S : List (List UInt8)} (h : IsSt us S) : ∀ t ∈ S, t.dropLast ∈ S := fun t ht => by
  rcases (h.2 t).1 ht with rfl | hb
  · exact ht
  · exact (h.2 _).2 (.inr (beg_short hb (List.dropLast_prefix t)))
theorem st_pats {us S : List (List UInt8)} (h : IsSt us S) : ∀ t ∈ us, t ∈ S := fun t ht => (h.2 t).2 (.inr (beg_iff.2 ⟨t, ht, List.prefix_refl t⟩))
theorem st_root {us S : List (List UInt8)} (h : IsSt us S) : [] ∈ S := (h.2 []).2 (.inl rfl)

/-- Where a state falls back to. -/
def fbL (S : List (List UInt8)) (q : List UInt8) : List UInt8 := lgL S q.tail
theorem fb_less {S : List (List UInt8)} {q : List UInt8} (h : q ≠ []) : (fbL S q).length < q.length := by
  have := lg_len S q.tail
  cases q with
  | nil => exact absurd rfl h
  | cons c q => simp only [fbL, List.tail_cons, List.length_cons] at *; omega
/-- A step that leads nowhere goes on from where the state falls back to. -/
theorem lg_step {us S : List (List UInt8)} (hs : IsSt us S) {q : List UInt8} (c : UInt8) (h0 : q ≠ []) (h : q ++ [c] ∉ S) : lgL S (q ++ [c]) = lgL S (fbL S q ++ [c]) := by
  rw [lg_miss h]
  cases q with
  | nil => exact absurd rfl h0
  | cons d q => exact lg_snoc (st_closed hs) c q
/-- Where a state falls back to, out of the one above it. -/
theorem fb_above {us S : List (List UInt8)} (hs : IsSt us S) {a : List UInt8} (c : UInt8) (h0 : a ≠ []) : fbL S (a ++ [c]) = lgL S (fbL S a ++ [c]) := by
  cases a with
  | nil => exact absurd rfl h0
  | cons d q => exact lg_snoc (st_closed hs) c q
theorem fb_one (S : List (List UInt8)) (c : UInt8) : fbL S [c] = [] := rfl
theorem out_via {us S : List (List UInt8)} (hs : IsSt us S) (q : List UInt8) : fbL us q = lgL us (fbL S q) := lg_in (st_pats hs) q.tail
theorem out_hit {us S : List (List UInt8)} (hs : IsSt us S) {q : List UInt8} (h : fbL S q ∈ us) : fbL us q = fbL S q := (out_via hs q).trans (lg_hit h)
theorem out_miss {us S : List (List UInt8)} (hs : IsSt us S) {q : List UInt8} (h : fbL S q ∉ us) : fbL us q = fbL us (fbL S q) := (out_via hs q).trans (lg_miss h)

/-- The texts of a list with which these bytes end, the longest one first. -/
def tlL (U : List (List UInt8)) : List UInt8 → List (List UInt8)
  | [] => []
  | c :: q => if c :: q ∈ U then (c :: q) :: tlL U q else tlL U q
theorem tl_mem {U : List (List UInt8)} {t : List UInt8} : ∀ {q : List UInt8}, t ∈ tlL U q ↔ t ∈ U ∧ t ≠ [] ∧ t <:+ q
  | [] => by simp only [tlL, List.not_mem_nil, false_iff, not_and]; intro _ h hs; exact h (List.suffix_nil.1 hs)
  | c :: q => by
    unfold tlL
    rw [List.suffix_cons_iff]
    split
    · rename_i h
      rw [List.mem_cons, tl_mem]
      constructor
      · rintro (rfl | ⟨h1, h2, h3⟩)
        · exact ⟨h, by simp, .inl rfl⟩
        · exact ⟨h1, h2, .inr h3⟩
      · rintro ⟨h1, h2, h3 | h3⟩
        · exact .inl h3
        · exact .inr ⟨h1, h2, h3⟩
    · rename_i h
      rw [tl_mem]
      constructor
      · rintro ⟨h1, h2, h3⟩
        exact ⟨h1, h2, .inr h3⟩
      · rintro ⟨h1, h2, h3 | h3⟩
        · subst h3; exact absurd h1 h
        · exact ⟨h1, h2, h3⟩
theorem tl_less {U : List (List UInt8)} : ∀ q : List UInt8, (tlL U q).Pairwise (fun a b => b.length < a.length) ∧ ∀ t ∈ tlL U q, t.length ≤ q.length
  | [] => ⟨List.Pairwise.nil, fun t h => by simp [tlL] at h⟩
  | c :: q => by
    obtain ⟨h1, h2⟩ := tl_less (U := U) q
    unfold tlL
    split
    · refine ⟨List.Pairwise.cons (fun t ht => ?_) h1, fun t ht => ?_⟩
      · have := h2 t ht; simp; omega
      · rcases List.mem_cons.1 ht with rfl | ht
        · exact Nat.le_refl _
        · have := h2 t ht; simp; omega
    · exact ⟨h1, fun t ht => by have := h2 t ht; simp; omega⟩
theorem tl_step {U : List (List UInt8)} : ∀ q : List UInt8, tlL U q = tlL U (lgL U q)
  | [] => rfl
  | c :: q => by
    by_cases h : c :: q ∈ U
    · rw [lg_hit h]
    · rw [lg_miss h, show tlL U (c :: q) = tlL U q by unfold tlL; rw [if_neg h]; cases q <;> rfl]
      exact tl_step q
theorem tl_at {U : List (List UInt8)} (hu : [] ∉ U) (q : List UInt8) : tlL U q = (if q ∈ U then [q] else []) ++ tlL U (fbL U q) := by
  cases q with
  | nil => rw [if_neg hu]; rfl
  | cons c q =>
    show (if c :: q ∈ U then (c :: q) :: tlL U q else tlL U q) = _
    rw [show fbL U (c :: q) = lgL U q from rfl, ← tl_step]
    split <;> rfl

/-- The numbers of the first k patterns with which bytes end. -/
def hkL (us : List (List UInt8)) (q : List UInt8) : Nat → List Int
  | 0 => []
  | k + 1 => hkL us q k ++ if us.getD k [] <:+ q then [(k : Int)] else []
/-- The numbers of all patterns with which bytes end. -/
def hsL (us : List (List UInt8)) (q : List UInt8) : List Int := hkL us q us.length
theorem hk_hit {us : List (List UInt8)} {q t : List UInt8} {k : Nat} (h : us[k]? = some t) (hs : t <:+ q) : hkL us q (k + 1) = hkL us q k ++ [(k : Int)] := by
  simp [hkL, List.getD, h, hs]
theorem hk_miss {us : List (List UInt8)} {q t : List UInt8} {k : Nat} (h : us[k]? = some t) (hs : ¬ t <:+ q) : hkL us q (k + 1) = hkL us q k := by
  simp [hkL, List.getD, h, hs]
theorem hk_mem {us : List (List UInt8)} {q : List UInt8} {z : Int} : ∀ {k : Nat}, z ∈ hkL us q k ↔ ∃ i : Nat, i < k ∧ z = (i : Int) ∧ us.getD i [] <:+ q
  | 0 => by simp [hkL]
  | k + 1 => by
    unfold hkL
    rw [List.mem_append, hk_mem]
    constructor
    · rintro (⟨i, h1, h2, h3⟩ | h)
      · exact ⟨i, by omega, h2, h3⟩
      · split at h
        · rename_i hs
          exact ⟨k, by omega, by simpa using h, hs⟩
        · simp at h
    · rintro ⟨i, h1, h2, h3⟩
      by_cases hi : i = k
      · subst hi; rw [if_pos h3]; exact .inr (by simp [h2])
      · exact .inl ⟨i, by omega, h2, h3⟩
theorem hk_rise {us : List (List UInt8)} {q : List UInt8} : ∀ k : Nat, (hkL us q k).Pairwise (· < ·)
  | 0 => List.Pairwise.nil
  | k + 1 => by
    unfold hkL
    rw [List.pairwise_append]
    refine ⟨hk_rise k, by split <;> simp, fun x hx y hy => ?_⟩
    obtain ⟨i, h1, rfl, _⟩ := hk_mem.1 hx
    split at hy
    · simp at hy; subst hy; omega
    · simp at hy
theorem hk_few (us : List (List UInt8)) (q : List UInt8) : ∀ k : Nat, (hkL us q k).length ≤ k
  | 0 => Nat.le_refl _
  | k + 1 => by
    have := hk_few us q k
    unfold hkL
    split <;> simp <;> omega

/-- The numbers of patterns, in the order in which a state's are met. -/
def nuL (us : List (List UInt8)) (l : List (List UInt8)) : List Int := l.map fun t => (frL us t : Int)
/-- Put in order, these are the numbers of all patterns with which the bytes end. -/
theorem nu_sorts {us : List (List UInt8)} (he : ∀ t ∈ us, t ≠ []) (hn : us.Nodup) (hf : ∀ t ∈ us, us[frL us t]? = some t) (q : List UInt8) :
    ((nuL us (tlL us q)).mergeSort fun x y => decide (x ≤ y)) = hsL us q := by
  have hmem : ∀ z, z ∈ nuL us (tlL us q) ↔ z ∈ hsL us q := fun z => by
    unfold nuL hsL
    rw [List.mem_map, hk_mem]
    constructor
    · rintro ⟨t, ht, rfl⟩
      obtain ⟨h1, h2, h3⟩ := tl_mem.1 ht
      have h4 := hf t h1
      exact ⟨_, (List.getElem?_eq_some_iff.1 h4).1, rfl, by rw [List.getD_eq_getElem?_getD, h4]; exact h3⟩
    · rintro ⟨i, h1, rfl, h3⟩
      have e : us[i]? = some (us.getD i []) := by rw [List.getD_eq_getElem?_getD, List.getElem?_eq_getElem h1]; rfl
      have hm := List.mem_of_getElem? e
      refine ⟨us.getD i [], tl_mem.2 ⟨hm, he _ hm, h3⟩, ?_⟩
      have h4 := hf _ hm
      obtain ⟨a1, b1⟩ := List.getElem?_eq_some_iff.1 e
      obtain ⟨a2, b2⟩ := List.getElem?_eq_some_iff.1 h4
      have := (List.getElem_inj hn).1 (b2.trans b1.symm)
      omega
  have hnd : (nuL us (tlL us q)).Nodup := by
    unfold nuL
    rw [List.Nodup, List.pairwise_map]
    refine (tl_less q).1.imp_of_mem ?_
    intro a b ha hb hab e
    have h1 := hf a (tl_mem.1 ha).1
    have h2 := hf b (tl_mem.1 hb).1
    rw [show frL us a = frL us b by omega, h2] at h1
    cases h1
    omega
  have hr := hk_rise (us := us) (q := q) us.length
  have hnr : (hsL us q).Nodup := hr.imp fun {a b} hab e => by omega
  have hp : (nuL us (tlL us q)).Perm (hsL us q) := (List.perm_ext_iff_of_nodup hnd hnr).2 hmem
  refine List.Perm.eq_of_pairwise (le := fun x y => x ≤ y) (fun a b _ _ h1 h2 => by omega) ?_ (hr.imp fun {a b} h => by omega) ((List.mergeSort_perm _ _).trans hp)
  have := List.pairwise_mergeSort (le := fun (x y : Int) => decide (x ≤ y)) (fun a b c h1 h2 => by simp at *; omega) (fun a b => by simp; omega) (nuL us (tlL us q))
  exact this.imp fun {a b} h => by simpa using h
end Go.Proofs.Ytkaldfcpcimacaa
