/-
  Hits as lists: which patterns end at an end of a text, all hits end by end, and what the places of each pattern make of them. No program here.
-/
import Derived.Test.YtikhjofpioegbaaBdM
import Derived.Lib.Hide
set_option linter.unusedSimpArgs false
set_option linter.unusedVariables false
namespace Go.Proofs.Ytikhjofpioegbaa

/-- A hit: its end, its number. -/
abbrev Ht := Int × Int

/-- Does a text end at an end of a text? -/
def stB (p s : List UInt8) (e : Nat) : Bool := decide (e ≤ s.length) && decide (p <:+ s.take e)
theorem st_iff {p s : List UInt8} {e : Nat} : stB p s e = true ↔ e ≤ s.length ∧ p <:+ s.take e := by
  unfold stB
  rw [Bool.and_eq_true, decide_eq_true_eq, decide_eq_true_eq]
theorem st_len {p s : List UInt8} {e : Nat} (h : stB p s e = true) : p.length ≤ e ∧ e ≤ s.length := by
  obtain ⟨h1, h2⟩ := st_iff.1 h
  have := h2.length_le
  rw [len_take s h1] at this
  exact ⟨this, h1⟩
theorem st_cut {p s : List UInt8} {e : Nat} (h1 : p.length ≤ e) (h2 : e ≤ s.length) : stB p s e = ((s.take e).drop (e - p.length) == p) := by
  rw [Bool.eq_iff_iff, st_iff, beq_iff_eq, List.suffix_iff_eq_drop, len_take s h2]
  exact ⟨fun h => h.2.symm, fun h => ⟨h2, h.symm⟩⟩
theorem st_no {p s : List UInt8} {e : Nat} (h : e < p.length ∨ s.length < e) : stB p s e = false := by
  rw [Bool.eq_false_iff]
  intro hh
  have := st_len hh
  omega
theorem st_app (p s t : List UInt8) {e : Nat} (h : e ≤ s.length) : stB p (s ++ t) e = stB p s e := by
  rw [Bool.eq_iff_iff, st_iff, st_iff, List.take_append_of_le_length h, List.length_append]
  exact ⟨fun x => ⟨h, x.2⟩, fun x => ⟨by omega, x.2⟩⟩

/-- The numbers of the first k patterns that end at an end. -/
def idsK (us : List (List UInt8)) (s : List UInt8) (e : Nat) : Nat → List Int
  | 0 => []
  | k + 1 => idsK us s e k ++ if stB (us.getD k []) s e then [(k : Int)] else []
theorem ids_hit {us : List (List UInt8)} {s t : List UInt8} {e k : Nat} (h : us[k]? = some t) (hs : stB t s e = true) : idsK us s e (k + 1) = idsK us s e k ++ [(k : Int)] := by
  simp [idsK, List.getD, h, hs]
theorem ids_miss {us : List (List UInt8)} {s t : List UInt8} {e k : Nat} (h : us[k]? = some t) (hs : stB t s e = false) : idsK us s e (k + 1) = idsK us s e k := by
  simp [idsK, List.getD, h, hs]
theorem ids_mem (us : List (List UInt8)) (s : List UInt8) (e : Nat) : ∀ (n : Nat) (x : Int), x ∈ idsK us s e n ↔ ∃ k : Nat, x = (k : Int) ∧ k < n ∧ stB (us.getD k []) s e = true
  | 0, x => by simp [idsK]
  | n + 1, x => by
    rw [idsK, List.mem_append, ids_mem us s e n x]
    constructor
    · rintro (⟨k, a, b, c⟩ | h)
      · exact ⟨k, a, by omega, c⟩
      · split at h
        · rename_i hs
          rw [List.mem_singleton] at h
          exact ⟨n, h, by omega, hs⟩
        · cases h
    · rintro ⟨k, a, b, c⟩
      by_cases hk : k = n
      · subst hk
        exact .inr (by rw [if_pos c, a]; exact List.mem_singleton.2 rfl)
      · exact .inl ⟨k, a, by omega, c⟩
theorem ids_rise (us : List (List UInt8)) (s : List UInt8) (e : Nat) : ∀ n, (idsK us s e n).Pairwise fun x y => x < y
  | 0 => List.Pairwise.nil
  | n + 1 => by
    rw [idsK]
    refine List.pairwise_append.2 ⟨ids_rise us s e n, ?_, fun x hx y hy => ?_⟩
    · split
      · exact List.pairwise_singleton _ _
      · exact List.Pairwise.nil
    · obtain ⟨k, a, b, _⟩ := (ids_mem us s e n x).1 hx
      split at hy
      · rw [List.mem_singleton] at hy; omega
      · cases hy
theorem ids_length (us : List (List UInt8)) (s : List UInt8) (e : Nat) : ∀ n, (idsK us s e n).length ≤ n
  | 0 => Nat.le_refl _
  | n + 1 => by
    have := ids_length us s e n
    rw [idsK, List.length_append]
    split <;> simp <;> omega
theorem ids_none {us : List (List UInt8)} {s : List UInt8} {e : Nat} (h : s.length < e) : ∀ n, idsK us s e n = []
  | 0 => rfl
  | n + 1 => by
    rw [idsK, ids_none h n, st_no (.inr h)]
    rfl
theorem ids_app (us : List (List UInt8)) (s t : List UInt8) {e : Nat} (h : e ≤ s.length) : ∀ n, idsK us (s ++ t) e n = idsK us s e n
  | 0 => rfl
  | n + 1 => by rw [idsK, idsK, ids_app us s t h n, st_app _ _ _ h]

/-- The numbers of all patterns that end at an end. -/
def atZ (us : List (List UInt8)) (s : List UInt8) (e : Int) : List Int := if 0 ≤ e ∧ e ≤ (s.length : Int) then idsK us s e.toNat us.length else []
theorem atZ_in {us : List (List UInt8)} {s : List UInt8} {e : Nat} (h : e ≤ s.length) : atZ us s (e : Int) = idsK us s e us.length := by
  unfold atZ
  rw [if_pos ⟨by omega, by omega⟩, Int.toNat_natCast]
theorem atZ_out {us : List (List UInt8)} {s : List UInt8} {e : Int} (h : e < 0 ∨ (s.length : Int) < e) : atZ us s e = [] := by
  unfold atZ
  rw [if_neg (by omega)]
theorem atZ_length (us : List (List UInt8)) (s : List UInt8) (e : Int) : (atZ us s e).length ≤ us.length := by
  unfold atZ
  split
  · exact ids_length _ _ _ _
  · exact Nat.zero_le _

/-- The hits with an end, of the first k patterns. -/
def hitE (us : List (List UInt8)) (s : List UInt8) (e k : Nat) : List Ht := (idsK us s e k).map fun i => ((e : Int), i)
theorem hitE_hit {us : List (List UInt8)} {s t : List UInt8} {e k : Nat} (h : us[k]? = some t) (hs : stB t s e = true) : hitE us s e (k + 1) = hitE us s e k ++ [((e : Int), (k : Int))] := by
  unfold hitE
  rw [ids_hit h hs, List.map_append]; rfl
theorem hitE_miss {us : List (List UInt8)} {s t : List UInt8} {e k : Nat} (h : us[k]? = some t) (hs : stB t s e = false) : hitE us s e (k + 1) = hitE us s e k := by
  unfold hitE
  rw [ids_miss h hs]
/-- The hits whose ends are less than n. -/
def hitK (us : List (List UInt8)) (s : List UInt8) : Nat → List Ht
  | 0 => []
  | n + 1 => hitK us s n ++ hitE us s n us.length
theorem hitK_next (us : List (List UInt8)) (s : List UInt8) (n : Nat) : hitK us s (n + 1) = hitK us s n ++ hitE us s n us.length := rfl
/-- All hits. -/
def hitL (us : List (List UInt8)) (s : List UInt8) : List Ht := hitK us s (s.length + 1)

theorem hitE_length (us : List (List UInt8)) (s : List UInt8) (e k : Nat) : (hitE us s e k).length ≤ k := by
  unfold hitE
  rw [List.length_map]
  exact ids_length _ _ _ _
theorem hitK_length (us : List (List UInt8)) (s : List UInt8) : ∀ n, (hitK us s n).length ≤ n * us.length
  | 0 => by simp [hitK]
  | n + 1 => by
    have h1 := hitK_length us s n
    have h2 := hitE_length us s n us.length
    rw [hitK, List.length_append, Nat.succ_mul]
    omega
theorem hitK_mem (us : List (List UInt8)) (s : List UInt8) : ∀ (n : Nat) (x : Ht), x ∈ hitK us s n ↔ ∃ e k : Nat, x = ((e : Int), (k : Int)) ∧ e < n ∧ k < us.length ∧ stB (us.getD k []) s e = true
  | 0, x => by simp [hitK]
  | n + 1, x => by
    rw [hitK, List.mem_append, hitK_mem us s n x]
    unfold hitE
    simp only [List.mem_map, ids_mem]
    constructor
    · rintro (⟨e, k, a, b, c, d⟩ | ⟨i, ⟨k, rfl, b, c⟩, rfl⟩)
      · exact ⟨e, k, a, by omega, c, d⟩
      · exact ⟨n, k, rfl, by omega, b, c⟩
    · rintro ⟨e, k, a, b, c, d⟩
      by_cases he : e = n
      · subst he
        exact .inr ⟨k, ⟨k, rfl, c, d⟩, a.symm⟩
      · exact .inl ⟨e, k, a, by omega, c, d⟩

/-- Does a hit come ahead of another one? -/
def ahB (a b : Ht) : Bool := decide (a.1 < b.1) || (decide (a.1 = b.1) && decide (a.2 < b.2))
theorem ah_iff {a b : Ht} : ahB a b = true ↔ a.1 < b.1 ∨ (a.1 = b.1 ∧ a.2 < b.2) := by
  unfold ahB
  simp only [Bool.or_eq_true, Bool.and_eq_true, decide_eq_true_eq]
/-- Which of two comes first. -/
def cfH (a b : Ht) : Int := if a = b then 0 else if ahB a b then -1 else 1
theorem cf_same {a b : Ht} (h : a = b) : cfH a b = 0 := if_pos h
theorem cf_ah {a b : Ht} (h : ahB a b = true) : cfH a b = -1 := by
  unfold cfH
  rw [if_neg ?_, if_pos h]
  rintro rfl
  have := ah_iff.1 h
  omega
theorem cf_else {a b : Ht} (h0 : ¬ a = b) (h : ahB a b = false) : cfH a b = 1 := by
  unfold cfH
  rw [if_neg h0, if_neg (by rw [h]; decide)]
theorem cf_neg {a b : Ht} : cfH a b < 0 ↔ ahB a b = true := by
  constructor
  · intro h
    unfold cfH at h
    split at h
    · omega
    · split at h
      · assumption
      · omega
  · intro h
    rw [cf_ah h]; omega

/-- Is each ahead of the one behind it? -/
def riseB : List Ht → Bool
  | [] => true
  | [_] => true
  | a :: b :: r => ahB a b && riseB (b :: r)
theorem rise_of : ∀ {l : List Ht}, l.Pairwise (fun x y => ahB x y = true) → riseB l = true
  | [], _ => rfl
  | [_], _ => rfl
  | a :: b :: r, h => by
    rw [riseB, Bool.and_eq_true]
    cases h with
    | cons h1 h2 => exact ⟨h1 b List.mem_cons_self, rise_of h2⟩
theorem rise_yes : ∀ {l : List Ht}, (∀ k a b, l[k]? = some a → l[k + 1]? = some b → ahB a b = true) → riseB l = true
  | [], _ => rfl
  | [_], _ => rfl
  | a :: b :: r, h => by
    rw [riseB, Bool.and_eq_true]
    exact ⟨h 0 a b rfl rfl, rise_yes (fun k x y hx hy => h (k + 1) x y (by simpa using hx) (by simpa using hy))⟩
theorem rise_no : ∀ {l : List Ht} {k : Nat} {a b : Ht}, l[k]? = some a → l[k + 1]? = some b → ahB a b = false → riseB l = false
  | [], k, a, b, h, _, _ => by simp at h
  | [_], k, a, b, _, h, _ => by simp at h
  | x :: y :: r, 0, a, b, h1, h2, h => by
    simp at h1 h2
    subst h1 h2
    rw [riseB, h]; rfl
  | x :: y :: r, k + 1, a, b, h1, h2, h => by
    have := rise_no (l := y :: r) (k := k) (a := a) (b := b) (by simpa using h1) (by simpa using h2) h
    rw [riseB, this, Bool.and_false]

theorem hitE_rise (us : List (List UInt8)) (s : List UInt8) (e k : Nat) : (hitE us s e k).Pairwise fun x y => ahB x y = true := by
  unfold hitE
  rw [List.pairwise_map]
  refine List.Pairwise.imp ?_ (ids_rise us s e k)
  intro a b h
  exact ah_iff.2 (.inr ⟨rfl, h⟩)
theorem hitK_rise (us : List (List UInt8)) (s : List UInt8) : ∀ n, (hitK us s n).Pairwise fun x y => ahB x y = true
  | 0 => List.Pairwise.nil
  | n + 1 => by
    rw [hitK]
    refine List.pairwise_append.2 ⟨hitK_rise us s n, hitE_rise us s n _, fun x hx y hy => ?_⟩
    obtain ⟨e, k, rfl, h, _⟩ := (hitK_mem us s n x).1 hx
    unfold hitE at hy
    obtain ⟨i, _, rfl⟩ := List.mem_map.1 hy
    exact ah_iff.2 (.inl (by show (e : Int) < (n : Int); omega))
theorem hit_rise (us : List (List UInt8)) (s : List UInt8) : (hitL us s).Pairwise fun x y => ahB x y = true := hitK_rise us s _
theorem ah_irr (a : Ht) : ahB a a = false := by
  rw [Bool.eq_false_iff]
  intro h
  have := ah_iff.1 h
  omega
theorem ah_asym {a b : Ht} (h1 : ahB a b = true) (h2 : ahB b a = true) : False := by
  have := ah_iff.1 h1
  have := ah_iff.1 h2
  omega
theorem nodup_rise {l : List Ht} (h : l.Pairwise fun x y => ahB x y = true) : l.Nodup := by
  refine h.imp ?_
  rintro a b hh rfl
  rw [ah_irr] at hh
  cases hh

/-! the places of each pattern -/
/-- The hits of the first k patterns, pattern by pattern, by their places. -/
def rawK (us : List (List UInt8)) (F : List UInt8 → List Int) : Nat → List Ht
  | 0 => []
  | k + 1 => rawK us F k ++ (F (us.getD k [])).map fun p => (p + ((us.getD k []).length : Int), (k : Int))
theorem raw_next {us : List (List UInt8)} {F : List UInt8 → List Int} {k : Nat} {t : List UInt8} (h : us[k]? = some t) : rawK us F (k + 1) = rawK us F k ++ (F t).map fun p => (p + (t.length : Int), (k : Int)) := by
  simp [rawK, List.getD, h]

theorem fnd_mem_iff {s t : List UInt8} (ht : 0 < t.length) : ∀ m, m ≤ s.length → ∀ x : Int, x ∈ fnd s t m ↔ ∃ j : Nat, x = (j : Int) ∧ j + t.length ≤ m ∧ t <:+ s.take (j + t.length)
  | 0, _, x => by
    simp only [fnd, List.not_mem_nil, false_iff]
    rintro ⟨j, _, h, _⟩
    omega
  | m + 1, hm, x => by
    have ih := fnd_mem_iff (s := s) ht m (by omega) x
    by_cases hs : t <:+ s.take (m + 1)
    · have hl := hs.length_le
      rw [len_take s hm] at hl
      rw [fnd_hit hs, List.mem_append, List.mem_singleton, ih]
      constructor
      · rintro (⟨j, a, b, c⟩ | h)
        · exact ⟨j, a, by omega, c⟩
        · exact ⟨_, h, by omega, by rw [Nat.sub_add_cancel hl]; exact hs⟩
      · rintro ⟨j, a, b, c⟩
        by_cases hj : j + t.length = m + 1
        · exact .inr (by rw [a]; congr 1; omega)
        · exact .inl ⟨j, a, by omega, c⟩
    · rw [fnd_miss hs, ih]
      constructor
      · rintro ⟨j, a, b, c⟩
        exact ⟨j, a, by omega, c⟩
      · rintro ⟨j, a, b, c⟩
        refine ⟨j, a, ?_, c⟩
        by_cases hj : j + t.length = m + 1
        · rw [hj] at c; exact absurd c hs
        · omega

theorem getD_some {us : List (List UInt8)} {k : Nat} (h : k < us.length) : us[k]? = some (us.getD k []) ∧ us.getD k [] ∈ us := by
  rw [List.getD_eq_getElem?_getD, List.getElem?_eq_getElem h]
  exact ⟨rfl, List.getElem_mem _⟩

theorem raw_mem {us : List (List UInt8)} {s : List UInt8} (hu : ∀ t ∈ us, 0 < t.length) : ∀ (n : Nat), n ≤ us.length → ∀ x : Ht, x ∈ rawK us (fun t => fnd s t s.length) n ↔ ∃ e k : Nat, x = ((e : Int), (k : Int)) ∧ e < s.length + 1 ∧ k < n ∧ stB (us.getD k []) s e = true
  | 0, _, x => by simp [rawK]
  | n + 1, hn, x => by
    have hp := hu _ (getD_some (show n < us.length by omega)).2
    rw [rawK, List.mem_append, raw_mem hu n (by omega) x, List.mem_map]
    constructor
    · rintro (⟨e, k, a, b, c, d⟩ | ⟨p, hp2, rfl⟩)
      · exact ⟨e, k, a, b, by omega, d⟩
      · obtain ⟨j, rfl, h1, h2⟩ := (fnd_mem_iff hp _ (Nat.le_refl _) p).1 hp2
        exact ⟨j + (us.getD n []).length, n, by simp, by omega, by omega, st_iff.2 ⟨h1, h2⟩⟩
    · rintro ⟨e, k, a, b, c, d⟩
      by_cases hk : k = n
      · subst hk
        obtain ⟨h1, h2⟩ := st_iff.1 d
        have h3 := (st_len d).1
        refine .inr ⟨((e - (us.getD k []).length : Nat) : Int), (fnd_mem_iff hp _ (Nat.le_refl _) _).2 ⟨e - (us.getD k []).length, rfl, by omega, by rw [Nat.sub_add_cancel h3]; exact h2⟩, ?_⟩
        rw [a]
        congr 1
        omega
      · exact .inl ⟨e, k, a, b, by omega, d⟩
theorem raw_nodup {us : List (List UInt8)} {s : List UInt8} (hu : ∀ t ∈ us, 0 < t.length) : ∀ (n : Nat), n ≤ us.length → (rawK us (fun t => fnd s t s.length) n).Nodup
  | 0, _ => List.nodup_nil
  | n + 1, hn => by
    rw [rawK]
    refine List.nodup_append.2 ⟨raw_nodup hu n (by omega), ?_, fun x hx y hy => ?_⟩
    · refine List.pairwise_map.2 ((fnd_rises s.length (Nat.le_refl _)).imp ?_)
      intro a b h e
      have := (Prod.mk.inj e).1
      omega
    · obtain ⟨e, k, rfl, _, hk, _⟩ := (raw_mem hu n (by omega) x).1 hx
      obtain ⟨p, _, rfl⟩ := List.mem_map.1 hy
      intro e
      have := (Prod.mk.inj e).2
      omega
theorem raw_perm {us : List (List UInt8)} {s : List UInt8} (hu : ∀ t ∈ us, 0 < t.length) : (rawK us (fun t => fnd s t s.length) us.length).Perm (hitL us s) :=
  (List.perm_ext_iff_of_nodup (raw_nodup hu _ (Nat.le_refl _)) (nodup_rise (hit_rise us s))).2 (fun x => by
    rw [raw_mem hu _ (Nat.le_refl _) x]
    unfold hitL
    rw [hitK_mem])

/-- Hits in order. -/
def srtH (l : List Ht) : List Ht := l.mergeSort fun x y => !decide (cfH y x < 0)
theorem srtH_length (l : List Ht) : (srtH l).length = l.length := (List.mergeSort_perm l _).length_eq
theorem nah_trans {a b c : Ht} (h1 : ahB b a = false) (h2 : ahB c b = false) : ahB c a = false := by
  rw [Bool.eq_false_iff] at *
  intro h
  have := ah_iff.1 h
  have n1 : ¬ (b.1 < a.1 ∨ (b.1 = a.1 ∧ b.2 < a.2)) := fun h => h1 (ah_iff.2 h)
  have n2 : ¬ (c.1 < b.1 ∨ (c.1 = b.1 ∧ c.2 < b.2)) := fun h => h2 (ah_iff.2 h)
  omega
theorem nah_eq {a b : Ht} (h1 : ahB b a = false) (h2 : ahB a b = false) : a = b := by
  rw [Bool.eq_false_iff] at *
  have n1 : ¬ (b.1 < a.1 ∨ (b.1 = a.1 ∧ b.2 < a.2)) := fun h => h1 (ah_iff.2 h)
  have n2 : ¬ (a.1 < b.1 ∨ (a.1 = b.1 ∧ a.2 < b.2)) := fun h => h2 (ah_iff.2 h)
  obtain ⟨a1, a2⟩ := a
  obtain ⟨b1, b2⟩ := b
  simp only at n1 n2
  rw [show a1 = b1 by omega, show a2 = b2 by omega]
theorem nah_total (a b : Ht) : ahB b a = false ∨ ahB a b = false := by
  cases h : ahB b a with
  | false => exact .inl rfl
  | true =>
    right
    rw [Bool.eq_false_iff]
    exact fun h2 => ah_asym h h2
theorem neg_ah (a b : Ht) : (!decide (cfH b a < 0)) = !ahB b a := by
  congr 1
  rw [Bool.eq_iff_iff, decide_eq_true_eq]
  exact cf_neg
theorem srtH_is {l m : List Ht} (hp : l.Perm m) (hm : m.Pairwise fun x y => ahB x y = true) : srtH l = m := by
  unfold srtH
  refine List.Perm.eq_of_pairwise (le := fun x y => ahB y x = false) (fun a b _ _ h1 h2 => nah_eq h1 h2) ?_ ?_ ((List.mergeSort_perm l _).trans hp)
  · have := List.pairwise_mergeSort (le := fun x y : Ht => !decide (cfH y x < 0)) (fun a b c h1 h2 => by
      rw [neg_ah] at *
      simp only [Bool.not_eq_true'] at *
      exact nah_trans h1 h2) (fun a b => by
      rw [neg_ah, neg_ah]
      rcases nah_total a b with h | h <;> simp [h]) l
    refine this.imp ?_
    intro a b h
    rw [neg_ah] at h
    simpa using h
  · refine hm.imp ?_
    intro a b h
    rw [Bool.eq_false_iff]
    exact fun h2 => ah_asym h h2

/-! counts -/
/-- How many of the first n ends have it. -/
def cntE (p s : List UInt8) : Nat → Nat
  | 0 => 0
  | n + 1 => cntE p s n + if stB p s n then 1 else 0
theorem cntE_next (p s : List UInt8) (n : Nat) : cntE p s (n + 1) = cntE p s n + if stB p s n then 1 else 0 := rfl
theorem cntE_le (p s : List UInt8) : ∀ n, cntE p s n ≤ n
  | 0 => Nat.le_refl _
  | n + 1 => by
    have := cntE_le p s n
    rw [cntE]
    split <;> omega
theorem cnt_fnd {p s : List UInt8} (hp : 0 < p.length) : ∀ n, n ≤ s.length → (fnd s p n).length = cntE p s (n + 1)
  | 0, _ => by rw [cntE, cntE, st_no (.inl hp)]; rfl
  | n + 1, hn => by
    rw [cntE_next, ← cnt_fnd hp n (by omega)]
    by_cases hs : p <:+ s.take (n + 1)
    · rw [fnd_hit hs, st_iff.2 ⟨hn, hs⟩, List.length_append]; rfl
    · rw [fnd_miss hs, if_neg (fun h => hs (st_iff.1 h).2)]; rfl
/-- Of each of the first k patterns, how many hits it has. -/
def cntL (us : List (List UInt8)) (F : List UInt8 → List Int) (k : Nat) : List Int := (us.take k).map fun t => ((F t).length : Int)
theorem cntL_next {us : List (List UInt8)} {F : List UInt8 → List Int} {k : Nat} {t : List UInt8} (h : us[k]? = some t) : cntL us F (k + 1) = cntL us F k ++ [((F t).length : Int)] := by
  obtain ⟨hk, rfl⟩ := List.getElem?_eq_some_iff.1 h
  unfold cntL
  rw [List.take_succ_eq_append_getElem hk, List.map_append]; rfl

/-! a longer text, a set without its last pattern -/
theorem hitK_app (us : List (List UInt8)) (s t : List UInt8) : ∀ n, n ≤ s.length + 1 → hitK us (s ++ t) n = hitK us s n
  | 0, _ => rfl
  | n + 1, hn => by
    rw [hitK, hitK, hitK_app us s t n (by omega), hitE, hitE, ids_app us s t (by omega)]
theorem hitK_grow (us : List (List UInt8)) (s : List UInt8) (n : Nat) : ∀ m, ∃ r, hitK us s (n + m) = hitK us s n ++ r ∧ ∀ x ∈ r, (n : Int) ≤ x.1
  | 0 => ⟨[], by simp, by simp⟩
  | m + 1 => by
    obtain ⟨r, h1, h2⟩ := hitK_grow us s n m
    refine ⟨r ++ hitE us s (n + m) us.length, by rw [← Nat.add_assoc, hitK, h1, List.append_assoc], fun x hx => ?_⟩
    rcases List.mem_append.1 hx with h | h
    · exact h2 x h
    · obtain ⟨i, _, rfl⟩ := List.mem_map.1 h
      show (n : Int) ≤ ((n + m : Nat) : Int)
      omega
theorem hit_grow (us : List (List UInt8)) (s t : List UInt8) : ∃ r, hitL us (s ++ t) = hitL us s ++ r ∧ ∀ x ∈ r, (s.length : Int) < x.1 := by
  obtain ⟨r, h1, h2⟩ := hitK_grow us (s ++ t) (s.length + 1) t.length
  refine ⟨r, ?_, fun x hx => ?_⟩
  · unfold hitL
    rw [List.length_append, show s.length + t.length + 1 = s.length + 1 + t.length by omega, h1, hitK_app us s t _ (Nat.le_refl _)]
  · have := h2 x hx
    omega

theorem ids_less (us : List (List UInt8)) (u s : List UInt8) (e : Nat) : ∀ n, n ≤ us.length → idsK (us ++ [u]) s e n = idsK us s e n
  | 0, _ => rfl
  | n + 1, h => by
    rw [idsK, idsK, ids_less us u s e n (by omega)]
    congr 2
    simp [List.getD, List.getElem?_append_left (show n < us.length by omega)]
theorem hitE_less (us : List (List UInt8)) (u s : List UInt8) (e : Nat) : (hitE (us ++ [u]) s e (us.length + 1)).filter (fun h => decide (h.2 < (us.length : Int))) = hitE us s e us.length := by
  unfold hitE
  rw [idsK, ids_less us u s e _ (Nat.le_refl _), List.map_append, List.filter_append]
  rw [List.filter_eq_self.2 (by
    intro x hx
    obtain ⟨i, hi, rfl⟩ := List.mem_map.1 hx
    obtain ⟨k, rfl, h, _⟩ := (ids_mem us s e _ i).1 hi
    simp only [decide_eq_true_eq]
    omega)]
  rw [List.filter_eq_nil_iff.2 (by
    intro x hx
    obtain ⟨i, hi, rfl⟩ := List.mem_map.1 hx
    split at hi
    · rw [List.mem_singleton] at hi
      simp [hi]
    · cases hi), List.append_nil]
theorem hitK_less (us : List (List UInt8)) (u s : List UInt8) : ∀ n, (hitK (us ++ [u]) s n).filter (fun h => decide (h.2 < (us.length : Int))) = hitK us s n
  | 0 => rfl
  | n + 1 => by
    rw [hitK, hitK, List.filter_append, hitK_less us u s n, List.length_append, List.length_singleton, hitE_less]
theorem hit_less (us : List (List UInt8)) (u s : List UInt8) : (hitL (us ++ [u]) s).filter (fun h => decide (h.2 < (us.length : Int))) = hitL us s := hitK_less us u s _

theorem filter_snoc (p : Ht → Bool) {l : List Ht} {k : Nat} {h : Ht} (hk : l[k]? = some h) : (l.take (k + 1)).filter p = (l.take k).filter p ++ if p h then [h] else [] := by
  obtain ⟨h1, rfl⟩ := List.getElem?_eq_some_iff.1 hk
  rw [List.take_succ_eq_append_getElem h1, List.filter_append]
  congr 1
  rw [List.filter_cons, List.filter_nil]
end Go.Proofs.Ytikhjofpioegbaa
