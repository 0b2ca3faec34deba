/-
  Texts put together: OcM, PbM, IntsB, LpG, LpM.
-/
import Derived.Test.YtmgcdhcidojdhaaGreatBn3
import Derived.Lib.Hide
import Derived.Test.YtmgcdhcidojdhaaGreatBn1
import Derived.Laws.CopyOwn
set_option linter.unusedSimpArgs false
set_option linter.unusedVariables false
namespace Go.Proofs.YtmgcdhcidojdhaaGreat

/-- A hit: its end, its number. -/
abbrev Ht := Int × Int

/-- Does a text end at an end of a text? -/
def stB (p s : List UInt8) (e : Nat) : Bool := decide (e ≤ s.length) && decide (p <:+ s.take e)
theorem st_iff {p s : List UInt8} {e : Nat} : stB p s e = true ↔ e ≤ s.length ∧ p <:+ s.take e := by
  unfold stB
  rw [Bool.and_eq_true, decide_eq_true_eq, decide_eq_true_eq]
theorem st_len {p s : List UInt8} {e : Nat} (h : stB p s e = true) : p.length ≤ e ∧ e ≤ s.length := by
  obtain ⟨h1, h2⟩ := st_iff.1 h
  have := h2.length_le
  rw [len_take s h1] at this
  exact ⟨this, h1⟩
theorem st_cut {p s : List UInt8} {e : Nat} (h1 : p.length ≤ e) (h2 : e ≤ s.length) : stB p s e = ((s.take e).drop (e - p.length) == p) := by
  rw [Bool.eq_iff_iff, st_iff, beq_iff_eq, List.suffix_iff_eq_drop, len_take s h2]
  exact ⟨fun h => h.2.symm, fun h => ⟨h2, h.symm⟩⟩
theorem st_no {p s : List UInt8} {e : Nat} (h : e < p.length ∨ s.length < e) : stB p s e = false := by
  rw [Bool.eq_false_iff]
  intro hh
  have := st_len hh
  omega
theorem st_app (p s t : List UInt8) {e : Nat} (h : e ≤ s.length) : stB p (s ++ t) e = stB p s e := by
  rw [Bool.eq_iff_iff, st_iff, st_iff, List.take_append_of_le_length h, List.length_append]
  exact ⟨fun x => ⟨h, x.2⟩, fun x => ⟨by omega, x.2⟩⟩

/-- The numbers of the first k patterns that end at an end. -/
def idsK (us : List (List UInt8)) (s : List UInt8) (e : Nat) : Nat → List Int
  | 0 => []
  | k + 1 => idsK us s e k ++ if stB (us.getD k []) s e then [(k : Int)] else []
theorem ids_hit {us : List (List UInt8)} {s t : List UInt8} {e k : Nat} (h : us[k]? = some t) (hs : stB t s e = true) : idsK us s e (k + 1) = idsK us s e k ++ [(k : Int)] := by
  simp [idsK, List.getD, h, hs]
theorem ids_miss {us : List (List UInt8)} {s t : List UInt8} {e k : Nat} (h : us[k]? = some t) (hs : stB t s e = false) : idsK us s e (k + 1) = idsK us s e k := by
  simp [idsK, List.getD, h, hs]
theorem ids_mem (us : List (List UInt8)) (s : List UInt8) (e : Nat) : ∀ (n : Nat) (x : Int), x ∈ idsK us s e n ↔ ∃ k : Nat, x = (k : Int) ∧ k < n ∧ stB (us.getD k []) s e = true
  | 0, x => by simp [idsK]
  | n + 1, x => by
    rw [idsK, List.mem_append, ids_mem us s e n x]
    constructor
    · rintro (⟨k, a, b, c⟩ | h)
      · exact ⟨k, a, by omega, c⟩
      · split at h
        · rename_i hs
          rw [List.mem_singleton] at h
          exact ⟨n, h, by omega, hs⟩
        · cases h
    · rintro ⟨k, a, b, c⟩
      by_cases hk : k = n
      · subst hk
        exact .inr (by rw [if_pos c, a]; exact List.mem_singleton.2 rfl)
      · exact .inl ⟨k, a, by omega, c⟩
theorem ids_rise (us : List (List UInt8)) (s : List UInt8) (e : Nat) : ∀ n, (idsK us s e n).Pairwise fun x y => x < y
  | 0 => List.Pairwise.nil
  | n + 1 => by
    rw [idsK]
    refine List.pairwise_append.2 ⟨ids_rise us s e n, ?_, fun x hx y hy => ?_⟩
    · split
      · exact List.pairwise_singleton _ _
      · exact List.Pairwise.nil
    · obtain ⟨k, a, b, _⟩ := (ids_mem us s e n x).1 hx
      split at hy
      · rw [List.mem_singleton] at hy; omega
      · cases hy
theorem ids_length (us : List (List UInt8)) (s : List UInt8) (e : Nat) : ∀ n, (idsK us s e n).length ≤ n
  | 0 => Nat.le_refl _
  | n + 1 => by
    have := ids_length us s e n
    rw [idsK, List.length_append]
    split <;> simp <;> omega
theorem ids_none {us : List (List UInt8)} {s : List UInt8} {e : Nat} (h : s.length < e) : ∀ n, idsK us s e n = []
  | 0 => rfl
  | n + 1 => by
    rw [idsK, ids_none h n, st_no (.inr h)]
    rfl
theorem ids_app (us : List (List UInt8)) (s t : List UInt8) {e : Nat} (h : e ≤ s.length) : ∀ n, idsK us (s ++ t) e n = idsK us s e n
  | 0 => rfl
  | n + 1 => by rw [idsK, idsK, ids_app us s t h n, st_app _ _ _ h]

/-- The numbers of all patterns that end at an end. -/
def atZ (us : List (List UInt8)) (s : List UInt8) (e : Int) : List Int := if 0 ≤ e ∧ e ≤ (s.length : Int) then idsK us s e.toNat us.length else []
theorem atZ_in {us : List (List UInt8)} {s : List UInt8} {e : Nat} (h : e ≤ s.length) : atZ us s (e : Int) = idsK us s e us.length := by
  unfold atZ
  rw [if_pos ⟨by omega, by omega⟩, Int.toNat_natCast]
theorem atZ_out {us : List (List UInt8)} {s : List UInt8} {e : Int} (h : e < 0 ∨ (s.length : Int) < e) : atZ us s e = [] := by
  unfold atZ
  rw [if_neg (by omega)]
theorem atZ_length (us : List (List UInt8)) (s : List UInt8) (e : Int) : (atZ us s e).length ≤ us.length := by
  unfold atZ
  split
  · exact ids_length _ _ _ _
  · exact Nat.zero_le _

/-- The hits with an end, of the first k patterns. -/
def hitE (us : List (List UInt8)) (s : List UInt8) (e k : Nat) : List Ht := (idsK us s e k).map fun i => ((e : Int), i)
theorem hitE_hit {us : List (List UInt8)} {s t : List UInt8} {e k : Nat} (h : us[k]? = some t) (hs : stB t s e = true) : hitE us s e (k + 1) = hitE us s e k ++ [((e : Int), (k : Int))] := by
  unfold hitE
  rw [ids_hit h hs, List.map_append]; rfl
theorem hitE_miss {us : List (List UInt8)} {s t : List UInt8} {e k : Nat} (h : us[k]? = some t) (hs : stB t s e = false) : hitE us s e (k + 1) = hitE us s e k := by
  unfold hitE
  rw [ids_miss h hs]
/-- The hits whose ends are less than n. -/
def hitK (us : List (List UInt8)) (s : List UInt8) : Nat → List Ht
  | 0 => []
  | n + 1 => hitK us s n ++ hitE us s n us.length
theorem hitK_next (us : List (List UInt8)) (s : List UInt8) (n : Nat) : hitK us s (n + 1) = hitK us s n ++ hitE us s n us.length := rfl
/-- All hits. -/
def hitL (us : List (List UInt8)) (s : List UInt8) : List Ht := hitK us s (s.length + 1)

theorem hitE_length (us : List (List UInt8)) (s : List UInt8) (e k : Nat) : (hitE us s e k).length ≤ k := by
  unfold hitE
  rw [List.length_map]
  exact ids_length _ _ _ _
theorem hitK_length (us : List (List UInt8)) (s : List UInt8) : ∀ n, (hitK us s n).length ≤ n * us.length
  | 0 => by simp [hitK]
  | n + 1 => by
    have h1 := hitK_length us s n
    have h2 := hitE_length us s n us.length
    rw [hitK, List.length_append, Nat.succ_mul]
    omega
theorem hitK_mem (us : List (List UInt8)) (s : List UInt8) : ∀ (n : Nat) (x : Ht), x ∈ hitK us s n ↔ ∃ e k : Nat, x = ((e : Int), (k : Int)) ∧ e < n ∧ k < us.length ∧ stB (us.getD k []) s e = true
  | 0, x => by simp [hitK]
  | n + 1, x => by
    rw [hitK, List.mem_append, hitK_mem us s n x]
    unfold hitE
    simp only [List.mem_map, ids_mem]
    constructor
    · rintro (⟨e, k, a, b, c, d⟩ | ⟨i, ⟨k, rfl, b, c⟩, rfl⟩)
      · exact ⟨e, k, a, by omega, c, d⟩
      · exact ⟨n, k, rfl, by omega, b, c⟩
    · rintro ⟨e, k, a, b, c, d⟩
      by_cases he : e = n
      · subst he
        exact .inr ⟨k, ⟨k, rfl, c, d⟩, a.symm⟩
      · exact .inl ⟨e, k, a, by omega, c, d⟩

/-- Does a hit come ahead of another one? -/
def ahB (a b : Ht) : Bool := decide (a.1 < b.1) || (decide (a.1 = b.1) && decide (a.2 < b.2))
theorem ah_iff {a b : Ht} : ahB a b = true ↔ a.1 < b.1 ∨ (a.1 = b.1 ∧ a.2 < b.2) := by
  unfold ahB
  simp only [Bool.or_eq_true, Bool.and_eq_true, decide_eq_true_eq]
/-- Which of two comes first. -/
def cfH (a b : Ht) : Int := if a = b then 0 else if ahB a b then -1 else 1
theorem cf_same {a b : Ht} (h : a = b) : cfH a b = 0 := if_pos h
theorem cf_ah {a b : Ht} (h : ahB a b = true) : cfH a b = -1 := by
  unfold cfH
  rw [if_neg ?_, if_pos h]
  rintro rfl
  have := ah_iff.1 h
  omega
theorem cf_else {a b : Ht} (h0 : ¬ a = b) (h : ahB a b = false) : cfH a b = 1 := by
  unfold cfH
  rw [if_neg h0, if_neg (by rw [h]; decide)]
theorem cf_neg {a b : Ht} : cfH a b < 0 ↔ ahB a b = true := by
  constructor
  · intro h
    unfold cfH at h
    split at h
    · omega
    · split at h
      · assumption
      · omega
  · intro h
    rw [cf_ah h]; omega

/-- Is each ahead of the one behind it? -/
def riseB : List Ht → Bool
  | [] => true
  | [_] => true
  | a :: b :: r => ahB a b && riseB (b :: r)
theorem rise_of : ∀ {l : List Ht}, l.Pairwise (fun x y => ahB x y = true) → riseB l = true
  | [], _ => rfl
  | [_], _ => rfl
  | a :: b :: r, h => by
    rw [riseB, Bool.and_eq_true]
    cases h with
    | cons h1 h2 => exact ⟨h1 b List.mem_cons_self, rise_of h2⟩
theorem rise_yes : ∀ {l : List Ht}, (∀ k a b, l[k]? = some a → l[k + 1]? = some b → ahB a b = true) → riseB l = true
  | [], _ => rfl
  | [_], _ => rfl
  | a :: b :: r, h => by
    rw [riseB, Bool.and_eq_true]
    exact ⟨h 0 a b rfl rfl, rise_yes (fun k x y hx hy => h (k + 1) x y (by simpa using hx) (by simpa using hy))⟩
theorem rise_no : ∀ {l : List Ht} {k : Nat} {a b : Ht}, l[k]? = some a → l[k + 1]? = some b → ahB a b = false → riseB l = false
  | [], k, a, b, h, _, _ => by simp at h
  | [_], k, a, b, _, h, _ => by simp at h
  | x :: y :: r, 0, a, b, h1, h2, h => by
    simp at h1 h2
    subst h1 h2
    rw [riseB, h]; rfl
  | x :: y :: r, k + 1, a, b, h1, h2, h => by
    have := rise_no (l := y :: r) (k := k) (a := a) (b := b) (by simpa using h1) (by simpa using h2) h
    rw [riseB, this, Bool.and_false]

theorem hitE_rise (us : List (List UInt8)) (s : List UInt8) (e k : Nat) : (hitE us s e k).Pairwise fun x y => ahB x y = true := by
  unfold hitE
  rw [List.pairwise_map]
  refine List.Pairwise.imp ?_ (ids_rise us s e k)
  intro a b h
  exact ah_iff.2 (.inr ⟨rfl, h⟩)
theorem hitK_rise (us : List (List UInt8)) (s : List UInt8) : ∀ n, (hitK us s n).Pairwise fun x y => ahB x y = true
  | 0 => List.Pairwise.nil
  | n + 1 => by
    rw [hitK]
    refine List.pairwise_append.2 ⟨hitK_rise us s n, hitE_rise us s n _, fun x hx y hy => ?_⟩
    obtain ⟨e, k, rfl, h, _⟩ := (hitK_mem us s n x).1 hx
    unfold hitE at hy
    obtain ⟨i, _, rfl⟩ := List.mem_map.1 hy
    exact ah_iff.2 (.inl (by show (e : Int) < (n : Int); omega))
theorem hit_rise (us : List (List UInt8)) (s : List UInt8) : (hitL us s).Pairwise fun x y => ahB x y = true := hitK_rise us s _
theorem ah_irr (a : Ht) : ahB a a = false := by
  rw [Bool.eq_false_iff]
  intro h
  have := ah_iff.1 h
  omega
theorem ah_asym {a b : Ht} (h1 : ahB a b = true) (h2 : ahB b a = true) : False := by
  have := ah_iff.1 h1
  have := ah_iff.1 h2
  omega
theorem nodup_rise {l : List Ht} (h : l.Pairwise fun x y => ahB x y = true) : l.Nodup := by
  refine h.imp ?_
  rintro a b hh rfl
  rw [ah_irr] at hh
  cases hh

/-! the places of each pattern -/
/-- The hits of the first k patterns, pattern by pattern, by their places. -/
def rawK (us : List (List UInt8)) (F : List UInt8 → List Int) : Nat → List Ht
  | 0 => []
  | k + 1 => rawK us F k ++ (F (us.getD k [])).map fun p => (p + ((us.getD k []).length : Int), (k : Int))
theorem raw_next {us : List (List UInt8)} {F : List UInt8 → List Int} {k : Nat} {t : List UInt8} (h : us[k]? = some t) : rawK us F (k + 1) = rawK us F k ++ (F t).map fun p => (p + (t.length : Int), (k : Int)) := by
  simp [rawK, List.getD, h]

theorem fnd_mem_iff {s t : List UInt8} (ht : 0 < t.length) : ∀ m, m ≤ s.length → ∀ x : Int, x ∈ fnd s t m ↔ ∃ j : Nat, x = (j : Int) ∧ j + t.length ≤ m ∧ t <:+ s.take (j + t.length)
  | 0, _, x => by
    simp only [fnd, List.not_mem_nil, false_iff]
    rintro ⟨j, _, h, _⟩
    omega
  | m + 1, hm, x => by
    have ih := fnd_mem_iff (s := s) ht m (by omega) x
    by_cases hs : t <:+ s.take (m + 1)
    · have hl := hs.length_le
      rw [len_take s hm] at hl
      rw [fnd_hit hs, List.mem_append, List.mem_singleton, ih]
      constructor
      · rintro (⟨j, a, b, c⟩ | h)
        · exact ⟨j, a, by omega, c⟩
        · exact ⟨_, h, by omega, by rw [Nat.sub_add_cancel hl]; exact hs⟩
      · rintro ⟨j, a, b, c⟩
        by_cases hj : j + t.length = m + 1
        · exact .inr (by rw [a]; congr 1; omega)
        · exact .inl ⟨j, a, by omega, c⟩
    · rw [fnd_miss hs, ih]
      constructor
      · rintro ⟨j, a, b, c⟩
        exact ⟨j, a, by omega, c⟩
      · rintro ⟨j, a, b, c⟩
        refine ⟨j, a, ?_, c⟩
        by_cases hj : j + t.length = m + 1
        · rw [hj] at c; exact absurd c hs
        · omega

theorem getD_some {us : List (List UInt8)} {k : Nat} (h : k < us.length) : us[k]? = some (us.getD k []) ∧ us.getD k [] ∈ us := by
  rw [List.getD_eq_getElem?_getD, List.getElem?_eq_getElem h]
  exact ⟨rfl, List.getElem_mem _⟩

theorem raw_mem {us : List (List UInt8)} {s : List UInt8} (hu : ∀ t ∈ us, 0 < t.length) : ∀ (n : Nat), n ≤ us.length → ∀ x : Ht, x ∈ rawK us (fun t => fnd s t s.length) n ↔ ∃ e k : Nat, x = ((e : Int), (k : Int)) ∧ e < s.length + 1 ∧ k < n ∧ stB (us.getD k []) s e = true
  | 0, _, x => by simp [rawK]
  | n + 1, hn, x => by
    have hp := hu _ (getD_some (show n < us.length by omega)).2
    rw [rawK, List.mem_append, raw_mem hu n (by omega) x, List.mem_map]
    constructor
    · rintro (⟨e, k, a, b, c, d⟩ | ⟨p, hp2, rfl⟩)
      · exact ⟨e, k, a, b, by omega, d⟩
      · obtain ⟨j, rfl, h1, h2⟩ := (fnd_mem_iff hp _ (Nat.le_refl _) p).1 hp2
        exact ⟨j + (us.getD n []).length, n, by simp, by omega, by omega, st_iff.2 ⟨h1, h2⟩⟩
    · rintro ⟨e, k, a, b, c, d⟩
      by_cases hk : k = n
      · subst hk
        obtain ⟨h1, h2⟩ := st_iff.1 d
        have h3 := (st_len d).1
        refine .inr ⟨((e - (us.getD k []).length : Nat) : Int), (fnd_mem_iff hp _ (Nat.le_refl _) _).2 ⟨e - (us.getD k []).length, rfl, by omega, by rw [Nat.sub_add_cancel h3]; exact h2⟩, ?_⟩
        rw [a]
        congr 1
        omega
      · exact .inl ⟨e, k, a, b, by omega, d⟩
theorem raw_nodup {us : List (List UInt8)} {s : List UInt8} (hu : ∀ t ∈ us, 0 < t.length) : ∀ (n : Nat), n ≤ us.length → (rawK us (fun t => fnd s t s.length) n).Nodup
  | 0, _ => List.nodup_nil
  | n + 1, hn => by
    rw [rawK]
    refine List.nodup_append.2 ⟨raw_nodup hu n (by omega), ?_, fun x hx y hy => ?_⟩
    · refine List.pairwise_map.2 ((fnd_rises s.length (Nat.le_refl _)).imp ?_)
      intro a b h e
      have := (Prod.mk.inj e).1
      omega
    · obtain ⟨e, k, rfl, _, hk, _⟩ := (raw_mem hu n (by omega) x).1 hx
      obtain ⟨p, _, rfl⟩ := List.mem_map.1 hy
      intro e
      have := (Prod.mk.inj e).2
      omega
theorem raw_perm {us : List (List UInt8)} {s : List UInt8} (hu : ∀ t ∈ us, 0 < t.length) : (rawK us (fun t => fnd s t s.length) us.length).Perm (hitL us s) :=
  (List.perm_ext_iff_of_nodup (raw_nodup hu _ (Nat.le_refl _)) (nodup_rise (hit_rise us s))).2 (fun x => by
    rw [raw_mem hu _ (Nat.le_refl _) x]
    unfold hitL
    rw [hitK_mem])

/-- Hits in order. -/
def srtH (l : List Ht) : List Ht := l.mergeSort fun x y => !decide (cfH y x < 0)
theorem srtH_length (l : List Ht) : (srtH l).length = l.length := (List.mergeSort_perm l _).length_eq
theorem nah_trans {a b c : Ht} (h1 : ahB b a = false) (h2 : ahB c b = false) : ahB c a = false := by
  rw [Bool.eq_false_iff] at *
  intro h
  have := ah_iff.1 h
  have n1 : ¬ (b.1 < a.1 ∨ (b.1 = a.1 ∧ b.2 < a.2)) := fun h => h1 (ah_iff.2 h)
  have n2 : ¬ (c.1 < b.1 ∨ (c.1 = b.1 ∧ c.2 < b.2)) := fun h => h2 (ah_iff.2 h)
  omega
theorem nah_eq {a b : Ht} (h1 : ahB b a = false) (h2 : ahB a b = false) : a = b := by
  rw [Bool.eq_false_iff] at *
  have n1 : ¬ (b.1 < a.1 ∨ (b.1 = a.1 ∧ b.2 < a.2)) := fun h => h1 (ah_iff.2 h)
  have n2 : ¬ (a.1 < b.1 ∨ (a.1 = b.1 ∧ a.2 < b.2)) := fun h => h2 (ah_iff.2 h)
  obtain ⟨a1, a2⟩ := a
  obtain ⟨b1, b2⟩ := b
  simp only at n1 n2
  rw [show a1 = b1 by omega, show a2 = b2 by omega]
theorem nah_total (a b : Ht) : ahB b a = false ∨ ahB a b = false := by
  cases h : ahB b a with
  | false => exact .inl rfl
  | true =>
    right
    rw [Bool.eq_false_iff]
    exact fun h2 => ah_asym h h2
theorem neg_ah (a b : Ht) : (!decide (cfH b a < 0)) = !ahB b a := by
  congr 1
  rw [Bool.eq_iff_iff, decide_eq_true_eq]
  exact cf_neg
theorem srtH_is {l m : List Ht} (hp : l.Perm m) (hm : m.Pairwise fun x y => ahB x y = true) : srtH l = m := by
  unfold srtH
  refine List.Perm.eq_of_pairwise (le := fun x y => ahB y x = false) (fun a b _ _ h1 h2 => nah_eq h1 h2) ?_ ?_ ((List.mergeSort_perm l _).trans hp)
  · have := List.pairwise_mergeSort (le := fun x y : Ht => !decide (cfH y x < 0)) (fun a b c h1 h2 => by
      rw [neg_ah] at *
      simp only [Bool.not_eq_true'] at *
      exact nah_trans h1 h2) (fun a b => by
      rw [neg_ah, neg_ah]
      rcases nah_total a b with h | h <;> simp [h]) l
    refine this.imp ?_
    intro a b h
    rw [neg_ah] at h
    simpa using h
  · refine hm.imp ?_
    intro a b h
    rw [Bool.eq_false_iff]
    exact fun h2 => ah_asym h h2

/-! counts -/
/-- How many of the first n ends have it. -/
def cntE (p s : List UInt8) : Nat → Nat
  | 0 => 0
  | n + 1 => cntE p s n + if stB p s n then 1 else 0
theorem cntE_next (p s : List UInt8) (n : Nat) : cntE p s (n + 1) = cntE p s n + if stB p s n then 1 else 0 := rfl
theorem cntE_le (p s : List UInt8) : ∀ n, cntE p s n ≤ n
  | 0 => Nat.le_refl _
  | n + 1 => by
    have := cntE_le p s n
    rw [cntE]
    split <;> omega
theorem cnt_fnd {p s : List UInt8} (hp : 0 < p.length) : ∀ n, n ≤ s.length → (fnd s p n).length = cntE p s (n + 1)
  | 0, _ => by rw [cntE, cntE, st_no (.inl hp)]; rfl
  | n + 1, hn => by
    rw [cntE_next, ← cnt_fnd hp n (by omega)]
    by_cases hs : p <:+ s.take (n + 1)
    · rw [fnd_hit hs, st_iff.2 ⟨hn, hs⟩, List.length_append]; rfl
    · rw [fnd_miss hs, if_neg (fun h => hs (st_iff.1 h).2)]; rfl
/-- Of each of the first k patterns, how many hits it has. -/
def cntL (us : List (List UInt8)) (F : List UInt8 → List Int) (k : Nat) : List Int := (us.take k).map fun t => ((F t).length : Int)
theorem cntL_next {us : List (List UInt8)} {F : List UInt8 → List Int} {k : Nat} {t : List UInt8} (h : us[k]? = some t) : cntL us F (k + 1) = cntL us F k ++ [((F t).length : Int)] := by
  obtain ⟨hk, rfl⟩ := List.getElem?_eq_some_iff.1 h
  unfold cntL
  rw [List.take_succ_eq_append_getElem hk, List.map_append]; rfl

/-! a longer text, a set without its last pattern -/
theorem hitK_app (us : List (List UInt8)) (s t : List UInt8) : ∀ n, n ≤ s.length + 1 → hitK us (s ++ t) n = hitK us s n
  | 0, _ => rfl
  | n + 1, hn => by
    rw [hitK, hitK, hitK_app us s t n (by omega), hitE, hitE, ids_app us s t (by omega)]
theorem hitK_grow (us : List (List UInt8)) (s : List UInt8) (n : Nat) : ∀ m, ∃ r, hitK us s (n + m) = hitK us s n ++ r ∧ ∀ x ∈ r, (n : Int) ≤ x.1
  | 0 => ⟨[], by simp, by simp⟩
  | m + 1 => by
    obtain ⟨r, h1, h2⟩ := hitK_grow us s n m
    refine ⟨r ++ hitE us s (n + m) us.length, by rw [← Nat.add_assoc, hitK, h1, List.append_assoc], fun x hx => ?_⟩
    rcases List.mem_append.1 hx with h | h
    · exact h2 x h
    · obtain ⟨i, _, rfl⟩ := List.mem_map.1 h
      show (n : Int) ≤ ((n + m : Nat) : Int)
      omega
theorem hit_grow (us : List (List UInt8)) (s t : List UInt8) : ∃ r, hitL us (s ++ t) = hitL us s ++ r ∧ ∀ x ∈ r, (s.length : Int) < x.1 := by
  obtain ⟨r, h1, h2⟩ := hitK_grow us (s ++ t) (s.length + 1) t.length
  refine ⟨r, ?_, fun x hx => ?_⟩
  · unfold hitL
    rw [List.length_append, show s.length + t.length + 1 = s.length + 1 + t.length by omega, h1, hitK_app us s t _ (Nat.le_refl _)]
  · have := h2 x hx
    omega

theorem ids_less (us : List (List UInt8)) (u s : List UInt8) (e : Nat) : ∀ n, n ≤ us.length → idsK (us ++ [u]) s e n = idsK us s e n
  | 0, _ => rfl
  | n + 1, h => by
    rw [idsK, idsK, ids_less us u s e n (by omega)]
    congr 2
    simp [List.getD, List.getElem?_append_left (show n < us.length by omega)]
theorem hitE_less (us : List (List UInt8)) (u s : List UInt8) (e : Nat) : (hitE (us ++ [u]) s e (us.length + 1)).filter (fun h => decide (h.2 < (us.length : Int))) = hitE us s e us.length := by
  unfold hitE
  rw [idsK, ids_less us u s e _ (Nat.le_refl _), List.map_append, List.filter_append]
  rw [List.filter_eq_self.2 (by
    intro x hx
    obtain ⟨i, hi, rfl⟩ := List.mem_map.1 hx
    obtain ⟨k, rfl, h, _⟩ := (ids_mem us s e _ i).1 hi
    simp only [decide_eq_true_eq]
    omega)]
  rw [List.filter_eq_nil_iff.2 (by
    intro x hx
    obtain ⟨i, hi, rfl⟩ := List.mem_map.1 hx
    split at hi
    · rw [List.mem_singleton] at hi
      simp [hi]
    · cases hi), List.append_nil]
theorem hitK_less (us : List (List UInt8)) (u s : List UInt8) : ∀ n, (hitK (us ++ [u]) s n).filter (fun h => decide (h.2 < (us.length : Int))) = hitK us s n
  | 0 => rfl
  | n + 1 => by
    rw [hitK, hitK, List.filter_append, hitK_less us u s n, List.length_append, List.length_singleton, hitE_less]
theorem hit_less (us : List (List UInt8)) (u s : List UInt8) : (hitL (us ++ [u]) s).filter (fun h => decide (h.2 < (us.length : Int))) = hitL us s := hitK_less us u s _

theorem filter_snoc (p : Ht → Bool) {l : List Ht} {k : Nat} {h : Ht} (hk : l[k]? = some h) : (l.take (k + 1)).filter p = (l.take k).filter p ++ if p h then [h] else [] := by
  obtain ⟨h1, rfl⟩ := List.getElem?_eq_some_iff.1 hk
  rw [List.take_succ_eq_append_getElem h1, List.filter_append]
  congr 1
  rw [List.filter_cons, List.filter_nil]
end Go.Proofs.YtmgcdhcidojdhaaGreat

namespace Go.Proofs.YtmgcdhcidojdhaaGreat

/-- Might a pattern end at this end, by its last byte and its length? -/
def canP (t s : List UInt8) (e : Nat) : Bool := (byN t (t.length - 1) == byN s (e - 1)) && decide (t.length ≤ e)
/-- Has it another byte at a distance? -/
def difP (t s : List UInt8) (e d : Nat) : Bool := decide (d < t.length) && !(byN t (t.length - 1 - d) == byN s (e - 1 - d))
/-- Does a distance refute all patterns? -/
def msB (us : List (List UInt8)) (s : List UInt8) (e d : Nat) : Bool := us.all fun t => !canP t s e || difP t s e d
/-- The least distance that does, below a bound; 0: none. -/
def misK (p : Nat → Bool) (n : Nat) : Nat := if mn (fun j => p (j + 1)) (n - 1) < n - 1 then mn (fun j => p (j + 1)) (n - 1) + 1 else 0
def misN (us : List (List UInt8)) (s : List UInt8) (e : Nat) : Nat := misK (msB us s e) (max (mostL us) 2)

theorem misK_hit {p : Nat → Bool} {n d : Nat} (h1 : 0 < d) (h2 : d < n) (h3 : p d = true) (h4 : ∀ j, 0 < j → j < d → p j = false) : misK p n = d := by
  have h : mn (fun j => p (j + 1)) (n - 1) = d - 1 :=
    mn_is (by omega) (fun j hj => h4 (j + 1) (by omega) (by omega)) (fun _ => by show p (d - 1 + 1) = true; rw [show d - 1 + 1 = d by omega]; exact h3)
  unfold misK
  rw [h, if_pos (by omega)]
  omega
theorem misK_none {p : Nat → Bool} {n : Nat} (h : ∀ j, 0 < j → j < n → p j = false) : misK p n = 0 := by
  have h : mn (fun j => p (j + 1)) (n - 1) = n - 1 := mn_none fun j hj => h (j + 1) (by omega) (by omega)
  unfold misK
  rw [h, if_neg (by omega)]
theorem misK_lt (p : Nat → Bool) (n : Nat) (hn : 0 < n) : misK p n < n := by
  unfold misK
  split <;> omega
theorem misK_says (p : Nat → Bool) (n : Nat) (h : 0 < misK p n) : p (misK p n) = true := by
  unfold misK at h ⊢
  split
  · rename_i h1
    exact (mn_spec (fun j => p (j + 1)) (n - 1)).2.2 h1
  · rename_i h1; rw [if_neg h1] at h; omega

theorem most_mem {ws : List (List UInt8)} {t : List UInt8} (h : t ∈ ws) : t.length ≤ mostL ws := by
  have up : ∀ (ws : List (List UInt8)) (n : Nat), n ≤ ws.foldl (fun n t => max n t.length) n := by
    intro ws
    induction ws with
    | nil => intro n; exact Nat.le_refl _
    | cons x l ih => intro n; exact Nat.le_trans (Nat.le_max_left _ _) (ih _)
  have go : ∀ (ws : List (List UInt8)) (n : Nat), t ∈ ws → t.length ≤ ws.foldl (fun n t => max n t.length) n := by
    intro ws
    induction ws with
    | nil => intro n h; cases h
    | cons x l ih =>
      intro n h
      rcases List.mem_cons.1 h with rfl | h
      · exact Nat.le_trans (Nat.le_max_right _ _) (up l _)
      · exact ih _ h
  exact go ws 0 h

/-- The last bytes up to an end. -/
def IsTail (us : List (List UInt8)) (s : List UInt8) (e : Nat) (t : List UInt8) : Prop :=
  0 < e ∧ e ≤ s.length ∧ t <:+ s.take e ∧ t.length ≤ e ∧ (t.length = e ∨ max (mostL us) 2 ≤ t.length)
theorem IsTail.some {us : List (List UInt8)} {s t : List UInt8} {e : Nat} (h : IsTail us s e t) : 0 < t.length := by
  obtain ⟨h1, _, _, _, h5⟩ := h
  omega
theorem IsTail.byte {us : List (List UInt8)} {s t : List UInt8} {e d : Nat} (h : IsTail us s e t) (hd : d < t.length) : byN t (t.length - 1 - d) = byN s (e - 1 - d) := by
  unfold byN
  rw [suf_at h.2.1 h.2.2.1 hd]
theorem IsTail.whole {us : List (List UInt8)} {s : List UInt8} {e : Nat} (h1 : 0 < e) (h2 : e ≤ s.length) : IsTail us s e (s.take e) :=
  ⟨h1, h2, List.suffix_refl _, by rw [List.length_take]; omega, .inl (by rw [List.length_take]; omega)⟩
theorem IsTail.drop {us : List (List UInt8)} {s : List UInt8} {e n : Nat} (h1 : 0 < e) (h2 : e ≤ s.length) (h3 : n = e ∨ max (mostL us) 2 ≤ n) (h4 : n ≤ e) : IsTail us s e ((s.take e).drop (e - n)) := by
  have hl : ((s.take e).drop (e - n)).length = n := by rw [List.length_drop, List.length_take]; omega
  refine ⟨h1, h2, List.drop_suffix _ _, by omega, ?_⟩
  rw [hl]
  exact h3
theorem IsTail.pair {us : List (List UInt8)} {s t : List UInt8} {e : Nat} (h : IsTail us s e t) (he : 2 ≤ e) : 2 ≤ t.length ∧ prS t t.length = prS s e := by
  have h5 := h.2.2.2.2
  have hl : 2 ≤ t.length := by omega
  refine ⟨hl, ?_⟩
  unfold prS
  have a := h.byte (d := 1) (by omega)
  have b := h.byte (d := 0) (by omega)
  rw [show t.length - 2 = t.length - 1 - 1 by omega, a, show e - 2 = e - 1 - 1 by omega]
  rw [Nat.sub_zero, Nat.sub_zero] at b
  rw [b]
/-- A pattern ends at the end if the last bytes end with it. -/
theorem IsTail.ends {us : List (List UInt8)} {s t q : List UInt8} {e : Nat} (h : IsTail us s e t) (hq : q ∈ us) : decide (q <:+ t) = stB q s e := by
  obtain ⟨h1, h2, h3, h4, h5⟩ := h
  rw [Bool.eq_iff_iff, st_iff, decide_eq_true_eq]
  constructor
  · intro h; exact ⟨h2, h.trans h3⟩
  · rintro ⟨_, h⟩
    refine List.suffix_of_suffix_length_le h h3 ?_
    have a := most_mem hq
    have b := h.length_le
    rw [List.length_take] at b
    omega

theorem bids_in {ws : List (List UInt8)} {c m : Nat} (h : endsN ws c m = true) : ∀ {k : Nat}, m < k → (m : Int) ∈ bidsK ws c k
  | 0, hk => by omega
  | k + 1, hk => by
    by_cases he : endsN ws c k = true
    · rw [bids_hit he, List.mem_append]
      by_cases hm : m = k
      · subst hm; exact .inr (List.mem_singleton.2 rfl)
      · exact .inl (bids_in h (by omega))
    · rw [bids_miss he]
      have : m ≠ k := fun e => he (e ▸ h)
      exact bids_in h (by omega)

/-- One of the texts, by its number. -/
def txN (us : List (List UInt8)) (x : Int) : List UInt8 := us.getD x.toNat []
theorem ids_all {us : List (List UInt8)} {c : Nat} {x : Int} (h : x ∈ idsL us c) : ∃ m : Nat, x = (m : Int) ∧ us[m]? = some (txN us x) ∧ txN us x ∈ us ∧ 0 < (txN us x).length ∧ byN (txN us x) ((txN us x).length - 1) = c := by
  obtain ⟨m, rfl, h2, h3⟩ := bids_mem h
  obtain ⟨t, ht⟩ : ∃ t, us[m]? = some t := ⟨_, List.getElem?_eq_getElem h2⟩
  have hl := (ends_of ht).1 h3
  have e : txN us (m : Int) = t := by unfold txN; rw [Int.toNat_natCast, getD_of ht]
  have h0 : 0 < t.length := by
    rcases Nat.eq_zero_or_pos t.length with h0 | h0
    · rw [List.length_eq_zero_iff.1 h0, lastN_nil] at hl; cases hl
    · exact h0
  refine ⟨m, rfl, by rw [e]; exact ht, by rw [e]; exact List.mem_of_getElem? ht, by rw [e]; exact h0, ?_⟩
  rw [e]
  have := (lastN_at h0).1 hl
  unfold byN
  rw [List.getD_eq_getElem?_getD, List.getElem?_eq_getElem (by omega)]
  exact this
theorem ids_of {us : List (List UInt8)} {t : List UInt8} (ht : t ∈ us) (h0 : 0 < t.length) : ∃ x ∈ idsL us (byN t (t.length - 1)), txN us x = t := by
  obtain ⟨m, hm⟩ := List.getElem?_of_mem ht
  have hlt := (List.getElem?_eq_some_iff.1 hm).1
  refine ⟨(m : Int), bids_in ((ends_of hm).2 ((lastN_at h0).2 ?_)) hlt, by unfold txN; rw [Int.toNat_natCast, getD_of hm]⟩
  unfold byN
  rw [List.getD_eq_getElem?_getD, List.getElem?_eq_getElem (by omega)]
  rfl

theorem lst_min (ws : List (List UInt8)) (ids : List Int) : ∀ j x, x < j → lstK ws ids j ≤ lenAt ws (ids.getD x 0)
  | 0, x, h => by omega
  | j + 1, x, h => by
    by_cases hx : x = j
    · subst hx
      unfold lstK
      split <;> omega
    · have := lst_min ws ids j x (by omega)
      unfold lstK
      split <;> omega
theorem lst_has (ws : List (List UInt8)) (ids : List Int) : ∀ j, 0 < j → ∃ x, x < j ∧ lstK ws ids j = lenAt ws (ids.getD x 0)
  | 0, h => by omega
  | j + 1, h => by
    by_cases hc : j = 0 ∨ lenAt ws (ids.getD j 0) < lstK ws ids j
    · exact ⟨j, by omega, by unfold lstK; rw [if_pos hc]⟩
    · obtain ⟨x, hx, e⟩ := lst_has ws ids j (by omega)
      exact ⟨x, by omega, by rw [lstK, if_neg hc]; exact e⟩
theorem lst_all {us : List (List UInt8)} {c : Nat} {x : Int} (h : x ∈ idsL us c) : lstL us c ≤ (txN us x).length := by
  obtain ⟨j, hj, rfl⟩ := List.getElem_of_mem h
  have := lst_min us (idsL us c) (idsL us c).length j hj
  unfold lstL lstA
  unfold lenAt at this
  unfold txN
  simp only [List.getD_eq_getElem?_getD, List.getElem?_eq_getElem hj, Option.getD_some] at this ⊢
  exact this
theorem lst_some {us : List (List UInt8)} {c : Nat} (h : 0 < (idsL us c).length) : ∃ x ∈ idsL us c, lstL us c = (txN us x).length := by
  obtain ⟨j, hj, e⟩ := lst_has us (idsL us c) _ h
  refine ⟨_, List.getElem_mem hj, ?_⟩
  unfold lstL lstA
  rw [e]
  unfold lenAt txN
  simp only [List.getD_eq_getElem?_getD, List.getElem?_eq_getElem hj, Option.getD_some]

/-- Is one of a bucket's patterns not refuted by a distance? -/
def badX (us : List (List UInt8)) (s : List UInt8) (e d : Nat) (x : Int) : Bool := decide ((txN us x).length ≤ e) && (byN (txN us x) ((txN us x).length - 1 - d) == byN s (e - 1 - d))

theorem can_iff {t s : List UInt8} {e : Nat} : canP t s e = true ↔ byN t (t.length - 1) = byN s (e - 1) ∧ t.length ≤ e := by
  unfold canP; rw [Bool.and_eq_true, beq_iff_eq, decide_eq_true_eq]
theorem dif_iff {t s : List UInt8} {e d : Nat} : difP t s e d = true ↔ d < t.length ∧ ¬ byN t (t.length - 1 - d) = byN s (e - 1 - d) := by
  unfold difP
  rw [Bool.and_eq_true, decide_eq_true_eq, Bool.not_eq_true', beq_eq_false_iff_ne]
theorem ms_iff {us : List (List UInt8)} {s : List UInt8} {e d : Nat} : msB us s e d = true ↔ ∀ t ∈ us, canP t s e = true → difP t s e d = true := by
  unfold msB
  rw [List.all_eq_true]
  refine forall_congr' fun t => forall_congr' fun _ => ?_
  cases canP t s e <;> simp
theorem ms_not {us : List (List UInt8)} {s t : List UInt8} {e d : Nat} (ht : t ∈ us) (hc : canP t s e = true) (hd : difP t s e d = false) : msB us s e d = false := by
  rw [Bool.eq_false_iff]
  intro h
  rw [ms_iff.1 h t ht hc] at hd
  cases hd
theorem bad_ms {us : List (List UInt8)} {s : List UInt8} {e d : Nat} {x : Int} (hx : x ∈ idsL us (byN s (e - 1))) (h : badX us s e d x = true) : msB us s e d = false := by
  obtain ⟨m, rfl, h2, h3, h4, h5⟩ := ids_all hx
  unfold badX at h
  rw [Bool.and_eq_true, decide_eq_true_eq, beq_iff_eq] at h
  refine ms_not h3 (can_iff.2 ⟨h5, h.1⟩) ?_
  rw [Bool.eq_false_iff]
  intro h'
  exact (dif_iff.1 h').2 h.2
theorem all_ms {us : List (List UInt8)} {s : List UInt8} {e d : Nat} (hu : ∀ t ∈ us, 0 < t.length) (hd : d < lstL us (byN s (e - 1))) (h : ∀ x ∈ idsL us (byN s (e - 1)), badX us s e d x = false) : msB us s e d = true := by
  refine ms_iff.2 fun t ht hc => ?_
  obtain ⟨h1, h2⟩ := can_iff.1 hc
  obtain ⟨x, hx, rfl⟩ := ids_of ht (hu t ht)
  rw [h1] at hx
  have hm := lst_all hx
  refine dif_iff.2 ⟨by omega, fun h' => ?_⟩
  have := h x hx
  unfold badX at this
  rw [decide_eq_true h2, h', beq_self_eq_true] at this
  cases this
theorem long_ms {us : List (List UInt8)} {s : List UInt8} {e d : Nat} (h0 : 0 < lstL us (byN s (e - 1))) (he : lstL us (byN s (e - 1)) ≤ e) (hd : lstL us (byN s (e - 1)) ≤ d) : msB us s e d = false := by
  have hn : 0 < (idsL us (byN s (e - 1))).length := by
    rcases Nat.eq_zero_or_pos (idsL us (byN s (e - 1))).length with h | h
    · have e0 : lstL us (byN s (e - 1)) = 0 := by unfold lstL lstA; rw [h]; rfl
      omega
    · exact h
  obtain ⟨x, hx, e1⟩ := lst_some hn
  obtain ⟨m, rfl, h2, h3, h4, h5⟩ := ids_all hx
  refine ms_not h3 (can_iff.2 ⟨h5, by omega⟩) ?_
  rw [Bool.eq_false_iff]
  intro h'
  have := (dif_iff.1 h').1
  omega
theorem room_ms {us : List (List UInt8)} {s : List UInt8} {e : Nat} (hu : ∀ t ∈ us, 0 < t.length) (h : lstL us (byN s (e - 1)) = 0 ∨ e < lstL us (byN s (e - 1))) (d : Nat) : msB us s e d = true := by
  refine ms_iff.2 fun t ht hc => ?_
  obtain ⟨h1, h2⟩ := can_iff.1 hc
  obtain ⟨x, hx, rfl⟩ := ids_of ht (hu t ht)
  rw [h1] at hx
  have hm := lst_all hx
  obtain ⟨y, hy, e1⟩ := lst_some (List.length_pos_of_mem hx)
  obtain ⟨m, rfl, h2', h3', h4', h5'⟩ := ids_all hy
  omega

theorem mis_room {us : List (List UInt8)} {s : List UInt8} {e : Nat} (hu : ∀ t ∈ us, 0 < t.length) (h : lstL us (byN s (e - 1)) = 0 ∨ e < lstL us (byN s (e - 1))) : misN us s e = 1 :=
  misK_hit (by omega) (by omega) (room_ms hu h 1) (fun j h1 h2 => by omega)
theorem mis_here {us : List (List UInt8)} {s : List UInt8} {e d : Nat} (hu : ∀ t ∈ us, 0 < t.length) (h0 : 0 < d) (hd : d < lstL us (byN s (e - 1))) (h1 : msB us s e d = true) (h2 : ∀ j, 0 < j → j < d → msB us s e j = false) : misN us s e = d := by
  refine misK_hit h0 ?_ h1 h2
  have hn : 0 < (idsL us (byN s (e - 1))).length := by
    rcases Nat.eq_zero_or_pos (idsL us (byN s (e - 1))).length with h | h
    · have e0 : lstL us (byN s (e - 1)) = 0 := by unfold lstL lstA; rw [h]; rfl
      omega
    · exact h
  obtain ⟨x, hx, e1⟩ := lst_some hn
  obtain ⟨m, rfl, _, h3, _, _⟩ := ids_all hx
  have := most_mem h3
  omega
theorem mis_nowhere {us : List (List UInt8)} {s : List UInt8} {e : Nat} (h0 : 0 < lstL us (byN s (e - 1))) (he : lstL us (byN s (e - 1)) ≤ e) (h2 : ∀ j, 0 < j → j < lstL us (byN s (e - 1)) → msB us s e j = false) : misN us s e = 0 := by
  refine misK_none fun j hj _ => ?_
  by_cases hl : j < lstL us (byN s (e - 1))
  · exact h2 j hj hl
  · exact long_ms h0 he (by omega)

/-- The patterns that end here are among those with the last byte. -/
theorem st_last {t s : List UInt8} {e : Nat} (h0 : 0 < t.length) (h : stB t s e = true) : byN t (t.length - 1) = byN s (e - 1) := by
  obtain ⟨h1, h2⟩ := st_iff.1 h
  have := suf_at h1 h2 (d := 0) h0
  unfold byN
  rw [Nat.sub_zero, Nat.sub_zero] at this
  rw [this]
theorem hit_ids {us : List (List UInt8)} {s : List UInt8} {e : Nat} (hu : ∀ t ∈ us, 0 < t.length) : ∀ k, k ≤ us.length → idsK us s e k = (bidsK us (byN s (e - 1)) k).filter fun x => stB (txN us x) s e
  | 0, _ => rfl
  | k + 1, hk => by
    obtain ⟨t, ht⟩ : ∃ t, us[k]? = some t := ⟨_, List.getElem?_eq_getElem (by omega)⟩
    have h0 := hu t (List.mem_of_getElem? ht)
    have e1 : txN us (k : Int) = t := by unfold txN; rw [Int.toNat_natCast, getD_of ht]
    have ih := hit_ids (s := s) (e := e) hu k (by omega)
    by_cases he : endsN us (byN s (e - 1)) k = true
    · rw [bids_hit he, List.filter_append, ← ih]
      cases hs : stB t s e with
      | true => rw [ids_hit ht hs]; simp [List.filter, e1, hs]
      | false => rw [ids_miss ht hs]; simp [List.filter, e1, hs]
    · rw [bids_miss he, ← ih]
      have hs : stB t s e = false := by
        rw [Bool.eq_false_iff]
        intro h
        refine he ((ends_of ht).2 ((lastN_at h0).2 ?_))
        have := st_last h0 h
        unfold byN at this
        rw [List.getD_eq_getElem?_getD, List.getElem?_eq_getElem (by omega)] at this
        exact this
      exact ids_miss ht hs
theorem hit_all {us : List (List UInt8)} {s : List UInt8} {e : Nat} (hu : ∀ t ∈ us, 0 < t.length) : idsK us s e us.length = (idsL us (byN s (e - 1))).filter fun x => stB (txN us x) s e := hit_ids hu _ (Nat.le_refl _)

/-- Evidence: kind, N, R, Ids. -/
structure EvR where
  k : Nat
  n : Nat
  r : Nat
  ids : List Int
/-- How far the two bytes clear. -/
def twoN (us : List (List UInt8)) (s : List UInt8) (e : Nat) : Nat := if 2 ≤ e then nearL us (prS s e) else 0
def jmpR (us : List (List UInt8)) (s : List UInt8) (e : Nat) : EvR :=
  if fstL us (byN s (e - 1)) < twoN us s e then ⟨2, twoN us s e, 1, []⟩ else if 0 < fstL us (byN s (e - 1)) then ⟨1, fstL us (byN s (e - 1)), 1, []⟩ else ⟨0, 0, 0, []⟩
def ofR (us : List (List UInt8)) (s : List UInt8) (e : Nat) (skip : Bool) : EvR :=
  if skip = true ∧ 0 < (jmpR us s e).k then jmpR us s e
  else if (idsK us s e us.length).length = 0 ∧ 0 < misN us s e then ⟨3, misN us s e, 1, []⟩ else ⟨4, 0, 0, idsK us s e us.length⟩
/-- How many ends a record covers. -/
def covZ (k n : Int) : Int := if k = 1 ∨ k = 2 then max n 0 else if k = 3 ∨ k = 4 then 1 else 0

theorem two_le (us : List (List UInt8)) (s : List UInt8) (e : Nat) : twoN us s e ≤ farL us := by
  unfold twoN
  split
  · exact near_le _ _
  · omega
theorem jmp_ids (us : List (List UInt8)) (s : List UInt8) (e : Nat) : (jmpR us s e).ids = [] := by
  unfold jmpR; split
  · rfl
  · split <;> rfl
theorem jmp_cases (us : List (List UInt8)) (s : List UInt8) (e : Nat) :
    (fstL us (byN s (e - 1)) < twoN us s e ∧ jmpR us s e = ⟨2, twoN us s e, 1, []⟩) ∨ (¬ fstL us (byN s (e - 1)) < twoN us s e ∧ 0 < fstL us (byN s (e - 1)) ∧ jmpR us s e = ⟨1, fstL us (byN s (e - 1)), 1, []⟩) ∨
      (¬ fstL us (byN s (e - 1)) < twoN us s e ∧ fstL us (byN s (e - 1)) = 0 ∧ jmpR us s e = ⟨0, 0, 0, []⟩) := by
  unfold jmpR
  by_cases h : fstL us (byN s (e - 1)) < twoN us s e
  · rw [if_pos h]; exact .inl ⟨h, rfl⟩
  · rw [if_neg h]
    by_cases h0 : 0 < fstL us (byN s (e - 1))
    · rw [if_pos h0]; exact .inr (.inl ⟨h, h0, rfl⟩)
    · rw [if_neg h0]; exact .inr (.inr ⟨h, by omega, rfl⟩)
theorem of_cases (us : List (List UInt8)) (s : List UInt8) (e : Nat) (skip : Bool) :
    (skip = true ∧ fstL us (byN s (e - 1)) < twoN us s e ∧ ofR us s e skip = ⟨2, twoN us s e, 1, []⟩) ∨ (skip = true ∧ 0 < fstL us (byN s (e - 1)) ∧ ofR us s e skip = ⟨1, fstL us (byN s (e - 1)), 1, []⟩) ∨
      (idsK us s e us.length = [] ∧ 0 < misN us s e ∧ ofR us s e skip = ⟨3, misN us s e, 1, []⟩) ∨ ofR us s e skip = ⟨4, 0, 0, idsK us s e us.length⟩ := by
  by_cases h : skip = true ∧ 0 < (jmpR us s e).k
  · rcases jmp_cases us s e with ⟨h1, h2⟩ | ⟨h1, h2, h3⟩ | ⟨h1, h2, h3⟩
    · exact .inl ⟨h.1, h1, by rw [ofR, if_pos h, h2]⟩
    · exact .inr (.inl ⟨h.1, h2, by rw [ofR, if_pos h, h3]⟩)
    · rw [h3] at h; exact absurd h.2 (Nat.lt_irrefl 0)
  · by_cases h1 : (idsK us s e us.length).length = 0 ∧ 0 < misN us s e
    · exact .inr (.inr (.inl ⟨List.length_eq_zero_iff.1 h1.1, h1.2, by rw [ofR, if_neg h, if_pos h1]⟩))
    · exact .inr (.inr (.inr (by rw [ofR, if_neg h, if_neg h1])))

theorem ids_empty {us : List (List UInt8)} {s : List UInt8} {e : Nat} : ∀ {k : Nat}, (∀ t ∈ us, stB t s e = false) → k ≤ us.length → idsK us s e k = []
  | 0, _, _ => rfl
  | k + 1, h, hk => by
    obtain ⟨t, ht⟩ : ∃ t, us[k]? = some t := ⟨_, List.getElem?_eq_getElem (by omega)⟩
    rw [ids_miss ht (h t (List.mem_of_getElem? ht)), ids_empty h (by omega)]
/-- What evidence covers has no hits but those that it names. -/
theorem of_clears {us : List (List UInt8)} {s : List UInt8} {e : Nat} {skip : Bool} (he : 0 < e) (hs : e ≤ s.length) {i : Nat} (hi : (i : Int) < covZ (ofR us s e skip).k (ofR us s e skip).n) (hE : e + i ≤ s.length) :
    idsK us s (e + i) us.length = (ofR us s e skip).ids := by
  rcases of_cases us s e skip with ⟨_, h, h1⟩ | ⟨_, h, h1⟩ | ⟨h, _, h1⟩ | h1
  · rw [h1] at hi ⊢
    have hi : i < twoN us s e := by simp [covZ] at hi; omega
    refine ids_empty (fun t ht => ?_) (Nat.le_refl _)
    rw [Bool.eq_false_iff]
    intro hq
    obtain ⟨_, h3⟩ := st_iff.1 hq
    unfold twoN at hi
    split at hi
    · exact near_clears ht hE h3 (by omega) (by omega) (by omega)
    · omega
  · rw [h1] at hi ⊢
    have hi : i < fstL us (byN s (e - 1)) := by simp [covZ] at hi; omega
    refine ids_empty (fun t ht => ?_) (Nat.le_refl _)
    rw [Bool.eq_false_iff]
    intro hq
    obtain ⟨_, h3⟩ := st_iff.1 hq
    exact fst_clears ht hE h3 he (by omega) (by omega)
  · rw [h1] at hi ⊢
    have hi : i = 0 := by simp [covZ] at hi; omega
    subst hi
    exact h
  · rw [h1] at hi ⊢
    have hi : i = 0 := by simp [covZ] at hi; omega
    subst hi
    rfl
theorem of_covers (us : List (List UInt8)) (s : List UInt8) (e : Nat) (skip : Bool) : 0 < covZ (ofR us s e skip).k (ofR us s e skip).n := by
  rcases of_cases us s e skip with ⟨_, h, h1⟩ | ⟨_, h, h1⟩ | ⟨h, _, h1⟩ | h1 <;> rw [h1] <;> simp [covZ] <;> omega
end Go.Proofs.YtmgcdhcidojdhaaGreat

namespace Go.Proofs.YtmgcdhcidojdhaaGreat
open Go.RowKit

theorem int_info : (Tryz.prog.info? 3).map (fun i => (i.zero, i.size, i.bytes)) = some (some (.int .i64 0), 1, 8) := by kernel_rfl

/-- The cells of numbers. -/
def inCells (zs : List Int) : List Value := zs.map (Value.int .i64)
theorem inCells_snoc (zs : List Int) (x : Int) : inCells (zs ++ [x]) = inCells zs ++ [.int .i64 x] := by simp [inCells]

theorem owns_ints {w : World} {base : Nat} {e : TypeId} {v : Value} {zs : List Int} (h : w.ownsRow base e 1 v zs.length (inCells zs)) :
    ∃ ao cap, v = .slice ao zs.length cap ∧ (zs.length = 0 ∨ ∃ g, ao = some ⟨g, 0, none⟩ ∧ base ≤ g ∧ g < w.heap.size ∧ ∀ i, i < zs.length → w.cell? ⟨g, 0 + i, none⟩ = some (.int .i64 (zs.getD i 0))) := by
  rcases h.2 with ⟨hv, h0⟩ | ⟨g, cap, cur, hv, hg, _⟩
  · have h0' : zs.length = 0 := h0
    exact ⟨none, 0, by rw [h0']; exact hv, .inl h0'⟩
  · have hlt := h.lt (k := g) (by rw [hv]; rfl)
    refine ⟨some ⟨g, 0, none⟩, cap, hv, .inr ⟨g, rfl, hlt.1, hlt.2, fun i hi => ?_⟩⟩
    have hc := h.cells (g := g) (by rw [hv]; rfl) i (.int .i64 (zs.getD i 0)) (by simp [inCells, List.getD, List.getElem?_eq_getElem hi])
    rwa [addPlain] at hc

/-- Numbers in memory: all cells, not just those of a slice that came in. -/
theorem row_of_ints {w : World} {base : Nat} {e : TypeId} {v : Value} {zs : List Int} (h : w.ownsRow base e 1 v zs.length (inCells zs)) (hm : zs.length ≤ maxLen) :
    ∃ ao cap, v = .slice ao zs.length cap ∧ IsRow .i64 w ao zs.length zs.length zs := by
  obtain ⟨ao, cap, hv, h0 | ⟨g, hao, _, _, hc⟩⟩ := owns_ints h
  · exact ⟨ao, cap, hv, .inl h0⟩
  · exact ⟨ao, cap, hv, .inr ⟨g, 0, hao, Nat.le_refl _, hm, rfl, hc⟩⟩

/-- A number's one cell, in a block of its own. -/
theorem int_news {w : World} {X : Nat} {T : TypeId} {u : Value} (h : w.heap[X]? = some (.cells #[u] T (0, 0))) : ∀ j x, [u][j]? = some x → w.cell? ((⟨X, 0, none⟩ : Addr).add j) = some x := one_news h
theorem int_one {x : Int} : ∀ v ∈ [Value.int .i64 x], v.oneCell' = true := by
  intro v hv
  simp at hv
  subst hv; rfl

/-- A list of numbers, as an answer: a slice of the call's own; nothing that was there is written. -/
def RetN (zs : List Int) (w : World) (e : Ending) (w' : World) : Prop := ∃ (v : Value), e = .returned v ∧ w'.ownsRow w.heap.size 3 1 v zs.length (inCells zs) ∧ Below w.heap.size w w'

/-- A list of numbers, to be read: a slice; nothing that was there is written. -/
def RetI (zs : List Int) (w : World) (e : Ending) (w' : World) : Prop := ∃ (a : Option Addr) (cap : Nat), e = .returned (.slice a zs.length cap) ∧ IsRow .i64 w' a zs.length zs.length zs ∧ Below w.heap.size w w'
theorem RetI.of {zs L : List Int} {w0 w w' : World} {v : Value} (e : zs = L) (h : w'.ownsRow w0.heap.size 3 1 v L.length (inCells L)) (hm : L.length ≤ maxLen) (hb : Below w.heap.size w w') : ∃ a cap, v = .slice a L.length cap ∧ RetI zs w (.returned (.slice a L.length cap)) w' := by
  obtain ⟨ao, cap, hv, hr⟩ := row_of_ints h hm
  subst e
  exact ⟨ao, cap, hv, ao, cap, rfl, hr, hb⟩

/-- A row in one block of its own. -/
theorem row_heap {w : World} {g n : Nat} {zs : List Int} {T : TypeId} (h : w.heap[g]? = some (.cells (inCells zs).toArray T (0, 0))) (hn : zs.length = n) (hm : n ≤ maxLen) : IsRow .i64 w (some ⟨g, 0, none⟩) n n zs := by
  refine .inr ⟨g, 0, rfl, Nat.le_refl _, hm, hn, fun i hi => ?_⟩
  rw [Nat.zero_add, Lib.cell_of_heap h]
  simp [inCells, List.getD, List.getElem?_eq_getElem (show i < zs.length by omega)]
end Go.Proofs.YtmgcdhcidojdhaaGreat

namespace Go.Proofs.YtmgcdhcidojdhaaGreat
open Go.RowKit

/-- All blocks of cells of a type are as they were. -/
def Keep (T : TypeId) (w w' : World) : Prop := ∀ (k : Nat) (cs : Array Value) (m : Nat × Nat), w.heap[k]? = some (.cells cs T m) → w'.heap[k]? = some (.cells cs T m)
theorem Keep.refl (T : TypeId) (w : World) : Keep T w w := fun _ _ _ h => h
theorem Keep.trans {T : TypeId} {u v w : World} (h : Keep T u v) (k : Keep T v w) : Keep T u w := fun i cs m hh => k i cs m (h i cs m hh)
theorem Keep.below {T : TypeId} {w w' : World} (h : Below w.heap.size w w') : Keep T w w' := fun i cs m hh => (h.block i (heap_lt hh)).trans hh
theorem Keep.heap {T : TypeId} {w w' : World} (e : w'.heap = w.heap) : Keep T w w' := fun i cs m hh => by rw [e]; exact hh
/-- A block of another type. -/
theorem type_ne {w : World} {k b : Nat} {cs ds : Array Value} {T U : TypeId} {m n : Nat × Nat} (h : w.heap[k]? = some (.cells cs T m)) (hb : w.heap[b]? = some (.cells ds U n)) (hT : T ≠ U) : k ≠ b := by
  rintro rfl
  rw [h] at hb
  injection hb with hb
  injection hb with h1 h2 h3
  exact hT h2
theorem Keep.but {T U : TypeId} {b : Nat} {w w' : World} (h : But w.heap.size b w w') {ds : Array Value} {n : Nat × Nat} (hb : w.heap[b]? = some (.cells ds U n)) (hT : T ≠ U) : Keep T w w' := fun i cs m hh =>
  (h.block i (heap_lt hh) (type_ne hh hb hT)).trans hh
theorem Keep.kept {T U e : TypeId} {b : Nat} {w w' : World} (h : Kept b e w w') {ds : Array Value} {n : Nat × Nat} (hb : w.heap[b]? = some (.cells ds U n)) (hT : T ≠ U) (he : T ≠ e) : Keep T w w' := fun i cs m hh =>
  h i cs T m (type_ne hh hb hT) he hh
theorem Keep.grown {T e : TypeId} {w w' : World} {base size n : Nat} {v : Value} {xs : List Value} (hown : w.ownsRow base e size v n xs) (hg : w.grownBy w' v.ownBlock) (hT : T ≠ e) : Keep T w w' := fun i cs m hh => by
  rw [hg.block i (heap_lt hh) (fun h => ?_)]
  · exact hh
  · rcases hown.2 with ⟨rfl, _⟩ | ⟨g, cap, cur, rfl, _, hb, _⟩
    · simp [Value.ownBlock] at h
    · simp only [Value.ownBlock, Option.some.injEq] at h
      exact type_ne hh hb hT h
theorem Keep.into {T U : TypeId} {b : Nat} {w w' : World} (h : Into b w w') {ds : Array Value} {n : Nat × Nat} (hb : w.heap[b]? = some (.cells ds U n)) (hT : T ≠ U) : Keep T w w' := fun i cs m hh =>
  (h.block i (type_ne hh hb hT)).trans hh
theorem Keep.owns {T : TypeId} {w w' : World} (h : Keep T w w') {base n size : Nat} {v : Value} {xs : List Value} (ho : w.ownsRow base T size v n xs) : w'.ownsRow base T size v n xs := by
  obtain ⟨hl, hx⟩ := ho
  refine ⟨hl, ?_⟩
  rcases hx with hx | ⟨g, cap, cur, hv, hg, hh, r⟩
  · exact .inl hx
  · exact .inr ⟨g, cap, cur, hv, hg, h g _ _ hh, r⟩

/-- A record as it lies: what it is, its slice of numbers. -/
structure Rc where
  R : EvR
  a : Option Addr
  c : Nat
def Rc.sl (x : Rc) : Value := .slice x.a x.R.ids.length x.c
def Rc.val (x : Rc) : Value := .agg #[.int .i64 (x.R.k : Int), .int .i64 (x.R.n : Int), .int .i64 (x.R.r : Int), x.sl]
def Rc.cells (x : Rc) : List Value := [.int .i64 (x.R.k : Int), .int .i64 (x.R.n : Int), .int .i64 (x.R.r : Int), x.sl]
/-- Its numbers. -/
def IdsAt (w : World) (x : Rc) : Prop := x.R.ids.length = 0 ∨ ∃ base, w.ownsRow base 3 1 x.sl x.R.ids.length (inCells x.R.ids)
theorem IdsAt.keep {w w' : World} {x : Rc} (h : IdsAt w x) (hk : Keep 3 w w') : IdsAt w' x := h.elim .inl fun ⟨b, h⟩ => .inr ⟨b, hk.owns h⟩
theorem IdsAt.row {w : World} {x : Rc} (h : IdsAt w x) (hm : x.R.ids.length ≤ maxLen) : IsRow .i64 w x.a x.R.ids.length x.R.ids.length x.R.ids := by
  rcases h with h | ⟨b, h⟩
  · exact .inl h
  · obtain ⟨ao, cap, hv, hr⟩ := row_of_ints h hm
    obtain ⟨R, a, c⟩ := x
    simp only [Rc.sl, Value.slice.injEq] at hv
    obtain ⟨rfl, _, _⟩ := hv
    exact hr

/-- The cells of records. -/
def rcCells (rs : List Rc) : List Value := rs.flatMap Rc.cells
theorem rcCells_app (l k : List Rc) : rcCells (l ++ k) = rcCells l ++ rcCells k := by simp [rcCells]
theorem rcCells_one (x : Rc) : rcCells [x] = x.cells := by simp [rcCells]
theorem rcCells_length : ∀ rs : List Rc, (rcCells rs).length = rs.length * 4
  | [] => rfl
  | x :: l => by
    have e : rcCells (x :: l) = x.cells ++ rcCells l := by simp [rcCells]
    rw [e, List.length_append, rcCells_length l, List.length_cons]
    simp [Rc.cells]
    omega
theorem rcCells_at : ∀ (rs : List Rc) (i : Nat) (x : Rc), rs[i]? = some x → ∀ j, j < 4 → (rcCells rs)[i * 4 + j]? = x.cells[j]?
  | [], i, x, h, _, _ => by simp at h
  | y :: l, 0, x, h, j, hj => by
    simp at h
    subst h
    have e : rcCells (y :: l) = y.cells ++ rcCells l := by simp [rcCells]
    rw [e, List.getElem?_append_left (by simp [Rc.cells]; omega), Nat.zero_mul, Nat.zero_add]
  | y :: l, i + 1, x, h, j, hj => by
    have e : rcCells (y :: l) = y.cells ++ rcCells l := by simp [rcCells]
    rw [e, List.getElem?_append_right (by simp [Rc.cells]; omega)]
    have hl : y.cells.length = 4 := rfl
    rw [hl, show (i + 1) * 4 + j - 4 = i * 4 + j by omega]
    exact rcCells_at l i x (by simpa using h) j hj
theorem rc_one {rs : List Rc} : ∀ u ∈ rcCells rs, u.oneCell' = true := by
  intro u hu
  simp only [rcCells, List.mem_flatMap] at hu
  obtain ⟨x, _, hx⟩ := hu
  simp [Rc.cells, Rc.sl] at hx
  rcases hx with rfl | rfl | rfl | rfl <;> rfl

/-- A slice that holds these records, to be read. -/
def IsRecs (w : World) (a : Option Addr) (rs : List Rc) : Prop :=
  (rs.length = 0 ∨ ∃ b, a = some ⟨b, 0, none⟩ ∧ ∀ j u, (rcCells rs)[j]? = some u → w.cell? ⟨b, j, none⟩ = some u) ∧ ∀ x ∈ rs, IdsAt w x
theorem cells_below {w w' : World} {b j : Nat} {u : Value} (h : w.cell? ⟨b, j, none⟩ = some u) (hb : Below w.heap.size w w') : w'.cell? ⟨b, j, none⟩ = some u := by
  rw [hb.cell (p := ⟨b, j, none⟩) (World.block_lt_of_cell? w _ h)]; exact h
theorem IsRecs.below {w w' : World} {a : Option Addr} {rs : List Rc} (h : IsRecs w a rs) (hb : Below w.heap.size w w') : IsRecs w' a rs := by
  obtain ⟨h1, h2⟩ := h
  refine ⟨?_, fun x hx => (h2 x hx).keep (.below hb)⟩
  rcases h1 with h1 | ⟨b, ha, hc⟩
  · exact .inl h1
  · exact .inr ⟨b, ha, fun j u hu => cells_below (hc j u hu) hb⟩
/-- One of them. -/
theorem IsRecs.get {w : World} {a : Option Addr} {rs : List Rc} (h : IsRecs w a rs) {i : Nat} (hi : i < rs.length) : ∃ b x, a = some ⟨b, 0, none⟩ ∧ rs[i]? = some x ∧ IdsAt w x ∧
    w.cell? ⟨b, i * 4, none⟩ = some (.int .i64 (x.R.k : Int)) ∧ w.cell? ⟨b, i * 4 + 1, none⟩ = some (.int .i64 (x.R.n : Int)) ∧ w.cell? ⟨b, i * 4 + 2, none⟩ = some (.int .i64 (x.R.r : Int)) ∧ w.cell? ⟨b, i * 4 + 3, none⟩ = some (.slice x.a x.R.ids.length x.c) := by
  obtain ⟨h1, h2⟩ := h
  rcases h1 with h1 | ⟨b, ha, hc⟩
  · omega
  · obtain ⟨x, hx⟩ : ∃ x, rs[i]? = some x := ⟨_, List.getElem?_eq_getElem hi⟩
    have hm := rcCells_at rs i x hx
    refine ⟨b, x, ha, hx, h2 x (List.mem_of_getElem? hx), ?_, ?_, ?_, ?_⟩
    · exact hc _ _ (hm 0 (by omega))
    · exact hc _ _ (hm 1 (by omega))
    · exact hc _ _ (hm 2 (by omega))
    · exact hc _ _ (hm 3 (by omega))
/-- Records that are owned, as ones that are read. -/
theorem owns_recs {w : World} {base : Nat} {v : Value} {rs : List Rc} (h : w.ownsRow base 45 4 v rs.length (rcCells rs)) (hi : ∀ x ∈ rs, IdsAt w x) :
    ∃ ao cap, v = .slice ao rs.length cap ∧ IsRecs w ao rs := by
  rcases h.2 with ⟨hv, h0⟩ | ⟨g, cap, cur, hv, _⟩
  · exact ⟨none, 0, by rw [h0]; exact hv, .inl h0, hi⟩
  · refine ⟨some ⟨g, 0, none⟩, cap, hv, .inr ⟨g, rfl, fun j u hu => ?_⟩, hi⟩
    have hc := h.cells (g := g) (by rw [hv]; rfl) j u hu
    rw [addPlain, Nat.zero_add] at hc
    exact hc
theorem owns_form4 {w : World} {base n : Nat} {e : TypeId} {size : Nat} {v : Value} {xs : List Value} (h : w.ownsRow base e size v n xs) : ∃ ao cap, v = .slice ao n cap := by
  rcases h.2 with ⟨hv, h0⟩ | ⟨g, cap, cur, hv, _⟩
  · exact ⟨none, 0, by rw [h0]; exact hv⟩
  · exact ⟨_, _, hv⟩
theorem rec_info : (Tryz.prog.info? 45).map (fun i => (i.zero, i.size, i.bytes)) = some (some (.agg #[.int .i64 0, .int .i64 0, .int .i64 0, .slice none 0 0]), 4, 48) := by kernel_rfl
/-- A record's four cells, in a block of their own. -/
theorem rec_news {w : World} {X : Nat} {T : TypeId} {x : Rc} (h : w.heap[X]? = some (.cells x.cells.toArray T (0, 0))) : ∀ j u, x.cells[j]? = some u → w.cell? ((⟨X, 0, none⟩ : Addr).add j) = some u := by
  intro j u hj
  rw [addPlain, Nat.zero_add, Lib.cell_of_heap h]
  simpa using hj

/-- The list of what they are. -/
def evs (rs : List Rc) : List EvR := rs.map Rc.R
theorem evs_app (l k : List Rc) : evs (l ++ k) = evs l ++ evs k := by simp [evs]
theorem evs_length (l : List Rc) : (evs l).length = l.length := by simp [evs]
theorem evs_at {l : List Rc} {i : Nat} {x : Rc} (h : l[i]? = some x) : (evs l)[i]? = some x.R := by simp [evs, h]
end Go.Proofs.YtmgcdhcidojdhaaGreat

namespace Go.Proofs.YtmgcdhcidojdhaaGreat

/-- What is found at an end hangs on nothing behind it. -/
theorem byN_app (s t : List UInt8) {i : Nat} (h : i < s.length) : byN (s ++ t) i = byN s i := by
  unfold byN
  rw [List.getD_eq_getElem?_getD, List.getD_eq_getElem?_getD, List.getElem?_append_left h]
theorem ms_app (us : List (List UInt8)) (s t : List UInt8) {e : Nat} (h0 : 0 < e) (he : e ≤ s.length) : msB us (s ++ t) e = msB us s e := by
  funext d
  unfold msB canP difP
  rw [byN_app s t (by omega), byN_app s t (by omega)]
theorem of_app (us : List (List UInt8)) (s t : List UInt8) {e : Nat} (h0 : 0 < e) (he : e ≤ s.length) (skip : Bool) : ofR us (s ++ t) e skip = ofR us s e skip := by
  have h1 : jmpR us (s ++ t) e = jmpR us s e := by
    unfold jmpR twoN prS
    rw [byN_app s t (show e - 1 < s.length by omega), byN_app s t (show e - 2 < s.length by omega)]
  have h2 : misN us (s ++ t) e = misN us s e := by
    unfold misN
    rw [ms_app us s t h0 he]
  unfold ofR
  rw [h1, h2, ids_app us s t he]

/-- How many ends a record covers. -/
def covN (R : EvR) : Nat := if R.k = 1 ∨ R.k = 2 then R.n else if R.k = 3 ∨ R.k = 4 then 1 else 0
theorem cov_z (R : EvR) : covZ R.k R.n = (covN R : Int) := by
  unfold covZ covN
  by_cases h1 : R.k = 1 ∨ R.k = 2
  · rw [if_pos h1, if_pos (by omega)]; omega
  · rw [if_neg h1, if_neg (by omega)]
    by_cases h2 : R.k = 3 ∨ R.k = 4
    · rw [if_pos h2, if_pos (by omega)]; rfl
    · rw [if_neg h2, if_neg (by omega)]; rfl
theorem cov_pos (us : List (List UInt8)) (s : List UInt8) (e : Nat) (skip : Bool) : 0 < covN (ofR us s e skip) := by
  have := of_covers us s e skip
  rw [cov_z] at this
  omega
/-- Kind 1 or 2: it names no hits; kind 3 or 4: it covers one end. -/
theorem of_kind (us : List (List UInt8)) (s : List UInt8) (e : Nat) (skip : Bool) : ((ofR us s e skip).k = 1 ∨ (ofR us s e skip).k = 2) ∧ (ofR us s e skip).ids = [] ∧ 0 < (ofR us s e skip).n ∨ ¬ ((ofR us s e skip).k = 1 ∨ (ofR us s e skip).k = 2) ∧ covN (ofR us s e skip) = 1 := by
  rcases of_cases us s e skip with ⟨_, h, h1⟩ | ⟨_, h, h1⟩ | ⟨_, _, h1⟩ | h1 <;> rw [h1]
  · exact .inl ⟨.inr rfl, rfl, by dsimp only; omega⟩
  · exact .inl ⟨.inl rfl, rfl, h⟩
  · exact .inr ⟨by simp, rfl⟩
  · exact .inr ⟨by simp, rfl⟩

/-- Evidence from an end on to an end. -/
def Goes (us : List (List UInt8)) (s : List UInt8) (skip : Bool) : Nat → List EvR → Nat → Prop
  | a, [], b => a = b
  | a, R :: l, b => a < s.length ∧ R = ofR us s (a + 1) skip ∧ a + covN R ≤ s.length ∧ Goes us s skip (a + covN R) l b
/-- It goes no further. -/
def Rest (us : List (List UInt8)) (s : List UInt8) (skip : Bool) (b : Nat) : Prop := s.length ≤ b ∨ s.length < b + covN (ofR us s (b + 1) skip)

theorem Goes.app {us : List (List UInt8)} {s : List UInt8} {skip : Bool} : ∀ {a b c : Nat} {l k : List EvR}, Goes us s skip a l b → Goes us s skip b k c → Goes us s skip a (l ++ k) c
  | a, b, c, [], k, h, h2 => by
    have h : a = b := h
    subst h
    exact h2
  | a, b, c, R :: l, k, ⟨h1, h2, h3, h4⟩, h5 => ⟨h1, h2, h3, h4.app h5⟩
theorem Goes.one {us : List (List UInt8)} {s : List UInt8} {skip : Bool} {a : Nat} (h1 : a < s.length) (h2 : a + covN (ofR us s (a + 1) skip) ≤ s.length) : Goes us s skip a [ofR us s (a + 1) skip] (a + covN (ofR us s (a + 1) skip)) := ⟨h1, rfl, h2, rfl⟩
theorem Goes.le {us : List (List UInt8)} {s : List UInt8} {skip : Bool} : ∀ {a b : Nat} {l : List EvR}, Goes us s skip a l b → a ≤ s.length → a ≤ b ∧ b ≤ s.length ∧ l.length ≤ b - a
  | a, b, [], h, h1 => by
    have h : a = b := h
    subst h
    exact ⟨Nat.le_refl _, h1, by simp⟩
  | a, b, R :: l, ⟨h1, h2, h3, h4⟩, _ => by
    have := h4.le h3
    have hp : 0 < covN R := by rw [h2]; exact cov_pos _ _ _ _
    refine ⟨by omega, this.2.1, ?_⟩
    rw [List.length_cons]
    omega
theorem Goes.more {us : List (List UInt8)} {s t : List UInt8} {skip : Bool} : ∀ {a b : Nat} {l : List EvR}, Goes us s skip a l b → Goes us (s ++ t) skip a l b
  | a, b, [], h => h
  | a, b, R :: l, ⟨h1, h2, h3, h4⟩ => ⟨by rw [List.length_append]; omega, by rw [of_app us s t (by omega) (by omega)]; exact h2, by rw [List.length_append]; omega, h4.more⟩
/-- There is but one. -/
theorem Goes.same {us : List (List UInt8)} {s : List UInt8} {skip : Bool} : ∀ {a b c : Nat} {l k : List EvR}, Goes us s skip a l b → Rest us s skip b → Goes us s skip a k c → Rest us s skip c → l = k ∧ b = c
  | a, b, c, [], [], h, _, h2, _ => by
    have h : a = b := h
    have h2 : a = c := h2
    exact ⟨rfl, by omega⟩
  | a, b, c, [], R :: k, h, hr, ⟨h1, h2, h3, h4⟩, _ => by
    have h : a = b := h
    subst h
    rw [h2] at h3
    rcases hr with hr | hr <;> omega
  | a, b, c, R :: l, [], ⟨h1, h2, h3, h4⟩, _, h, hr => by
    have h : a = c := h
    subst h
    rw [h2] at h3
    rcases hr with hr | hr <;> omega
  | a, b, c, R :: l, R' :: k, ⟨h1, h2, h3, h4⟩, hr, ⟨g1, g2, g3, g4⟩, gr => by
    subst h2
    subst g2
    obtain ⟨e1, e2⟩ := h4.same hr g4 gr
    exact ⟨by rw [e1], e2⟩

/-- The last one, for what is left. -/
def lastR (us : List (List UInt8)) (s : List UInt8) (skip : Bool) (b : Nat) : EvR := ⟨(ofR us s (b + 1) skip).k, s.length - b, (ofR us s (b + 1) skip).r, (ofR us s (b + 1) skip).ids⟩
def lastE (us : List (List UInt8)) (s : List UInt8) (skip : Bool) (b : Nat) : List EvR := if b < s.length then [lastR us s skip b] else []

/-- Evidence at an end, or for fewer ends. -/
def OkE (us : List (List UInt8)) (s : List UInt8) (skip : Bool) (e : Nat) (R : EvR) : Prop :=
  R = ofR us s e skip ∨ (((ofR us s e skip).k = 1 ∨ (ofR us s e skip).k = 2) ∧ ∃ n, 0 < n ∧ n ≤ (ofR us s e skip).n ∧ R = ⟨(ofR us s e skip).k, n, (ofR us s e skip).r, (ofR us s e skip).ids⟩)
/-- Evidence that covers each end once, from one on. -/
def Cover (us : List (List UInt8)) (s : List UInt8) (skip : Bool) : Nat → List EvR → Prop
  | a, [] => a = s.length
  | a, R :: l => a < s.length ∧ OkE us s skip (a + 1) R ∧ a + covN R ≤ s.length ∧ Cover us s skip (a + covN R) l
theorem OkE.pos {us : List (List UInt8)} {s : List UInt8} {skip : Bool} {e : Nat} {R : EvR} (h : OkE us s skip e R) : 0 < covN R := by
  rcases h with rfl | ⟨hk, n, h1, h2, rfl⟩
  · exact cov_pos _ _ _ _
  · unfold covN
    rw [if_pos hk]
    exact h1
theorem Cover.ofGoes {us : List (List UInt8)} {s : List UInt8} {skip : Bool} : ∀ {a b : Nat} {l : List EvR}, a ≤ s.length → Goes us s skip a l b → Rest us s skip b → Cover us s skip a (l ++ lastE us s skip b)
  | a, b, [], ha, h, hr => by
    have h : a = b := h
    subst h
    unfold lastE
    by_cases hl : a < s.length
    · rw [if_pos hl]
      have hr : s.length < a + covN (ofR us s (a + 1) skip) := by
        rcases hr with hr | hr
        · omega
        · exact hr
      rcases of_kind us s (a + 1) skip with ⟨hk, _, hn⟩ | ⟨_, h1⟩
      · have hc : covN (lastR us s skip a) = s.length - a := by
          unfold covN lastR
          rw [if_pos hk]
        have hc0 : covN (ofR us s (a + 1) skip) = (ofR us s (a + 1) skip).n := by
          unfold covN
          rw [if_pos hk]
        refine ⟨hl, .inr ⟨hk, s.length - a, by omega, by omega, rfl⟩, by omega, ?_⟩
        rw [hc]
        show a + (s.length - a) = s.length
        omega
      · omega
    · rw [if_neg hl]
      show a = s.length
      omega
  | a, b, R :: l, ha, ⟨h1, h2, h3, h4⟩, hr => ⟨h1, .inl h2, h3, Cover.ofGoes h3 h4 hr⟩

/-- The hits that records name. -/
def hitsR : Nat → List EvR → List Ht
  | _, [] => []
  | a, R :: l => (R.ids.map fun i => (((a + covN R : Nat) : Int), i)) ++ hitsR (a + covN R) l
theorem hitE_none {us : List (List UInt8)} {s : List UInt8} {e : Nat} (h : idsK us s e us.length = []) : hitE us s e us.length = [] := by
  unfold hitE
  rw [h]
  rfl
theorem hitK_skip {us : List (List UInt8)} {s : List UInt8} {e : Nat} : ∀ {c : Nat}, (∀ i, i < c → idsK us s (e + i) us.length = []) → hitK us s (e + c) = hitK us s e
  | 0, _ => rfl
  | c + 1, h => by
    rw [show e + (c + 1) = e + c + 1 by omega, hitK_next, hitE_none (h c (by omega)), List.append_nil]
    exact hitK_skip fun i hi => h i (by omega)
theorem OkE.hits {us : List (List UInt8)} {s : List UInt8} {skip : Bool} {a : Nat} {R : EvR} (h : OkE us s skip (a + 1) R) (hc : a + covN R ≤ s.length) : hitK us s (a + covN R + 1) = hitK us s (a + 1) ++ (R.ids.map fun i => (((a + covN R : Nat) : Int), i)) := by
  have hkk : ((ofR us s (a + 1) skip).k = 1 ∨ (ofR us s (a + 1) skip).k = 2) ∧ R.ids = [] ∧ covN R ≤ covN (ofR us s (a + 1) skip) ∨ R = ofR us s (a + 1) skip ∧ covN R = 1 := by
    rcases of_kind us s (a + 1) skip with ⟨hk, hi, hn⟩ | ⟨hk, h1⟩
    · refine .inl ⟨hk, ?_⟩
      rcases h with rfl | ⟨_, n, h2, h3, rfl⟩
      · exact ⟨hi, Nat.le_refl _⟩
      · refine ⟨hi, ?_⟩
        unfold covN
        rw [if_pos hk, if_pos hk]
        exact h3
    · rcases h with rfl | ⟨hk', _⟩
      · exact .inr ⟨rfl, h1⟩
      · exact absurd hk' hk
  rcases hkk with ⟨hk, hi, hcc⟩ | ⟨rfl, h1⟩
  · rw [hi, List.map_nil, List.append_nil, show a + covN R + 1 = a + 1 + covN R by omega]
    have hi0 : (ofR us s (a + 1) skip).ids = [] := by
      rcases of_kind us s (a + 1) skip with ⟨_, hi, _⟩ | ⟨h, _⟩
      · exact hi
      · exact absurd hk h
    refine hitK_skip fun i hlt => ?_
    rw [of_clears (skip := skip) (us := us) (s := s) (e := a + 1) (i := i) (by omega) (by omega) (by rw [cov_z]; omega) (by omega)]
    exact hi0
  · rw [h1] at hc ⊢
    rw [hitK_next]
    have := of_clears (skip := skip) (us := us) (s := s) (e := a + 1) (i := 0) (by omega) (by omega) (by rw [cov_z, h1]; decide) (by omega)
    unfold hitE
    rw [Nat.add_zero] at this
    rw [this]
theorem Cover.hits {us : List (List UInt8)} {s : List UInt8} {skip : Bool} : ∀ {a : Nat} {l : List EvR}, Cover us s skip a l → hitK us s (a + 1) ++ hitsR a l = hitK us s (s.length + 1)
  | a, [], h => by
    have h : a = s.length := h
    subst h
    exact List.append_nil _
  | a, R :: l, ⟨h1, h2, h3, h4⟩ => by
    have := h4.hits
    rw [h2.hits h3] at this
    rw [← this, List.append_assoc]
    rfl
theorem Cover.all {us : List (List UInt8)} {s : List UInt8} {skip : Bool} {l : List EvR} (h : Cover us s skip 0 l) (hu : ∀ t ∈ us, 0 < t.length) : hitsR 0 l = hitL us s := by
  have := h.hits
  have h0 : hitK us s (0 + 1) = [] := by
    rw [hitK_next, hitE_none]
    · rfl
    · refine ids_empty (fun t ht => ?_) (Nat.le_refl _)
      rw [Bool.eq_false_iff]
      intro hq
      have := st_len hq
      have := hu t ht
      omega
  rw [h0, List.nil_append] at this
  exact this
theorem hitsR_app : ∀ (a : Nat) (l k : List EvR), hitsR a (l ++ k) = hitsR a l ++ hitsR (a + (l.map covN).sum) k
  | a, [], k => by simp [hitsR]
  | a, R :: l, k => by
    rw [List.cons_append, hitsR, hitsR, hitsR_app, List.append_assoc, List.map_cons, List.sum_cons, Nat.add_assoc]
end Go.Proofs.YtmgcdhcidojdhaaGreat
