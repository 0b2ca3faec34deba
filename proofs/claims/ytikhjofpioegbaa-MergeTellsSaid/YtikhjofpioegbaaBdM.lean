/-
  Borders, periods and places of texts, as lists: the longest border, with how much of a text another one ends, and how the next one follows from the one before. No program here.
-/
import Derived.Lib.Hide
set_option linter.unusedSimpArgs false
set_option linter.unusedVariables false
namespace Go.Proofs.Ytikhjofpioegbaa

/-- The greatest number up to n of which p holds, or 0. -/
def mx (p : Nat → Bool) : Nat → Nat
  | 0 => 0
  | n + 1 => if p (n + 1) then n + 1 else mx p n

theorem mx_le (p : Nat → Bool) : ∀ n, mx p n ≤ n
  | 0 => Nat.le_refl _
  | n + 1 => by
    have := mx_le p n
    unfold mx
    split <;> omega
theorem mx_holds (p : Nat → Bool) : ∀ n, mx p n = 0 ∨ p (mx p n) = true
  | 0 => .inl rfl
  | n + 1 => by
    have := mx_holds p n
    unfold mx
    split
    · rename_i h; exact .inr h
    · exact this
theorem mx_max (p : Nat → Bool) : ∀ n i, i ≤ n → p i = true → i ≤ mx p n
  | 0, i, hi, _ => hi
  | n + 1, i, hi, h => by
    unfold mx
    split
    · exact hi
    · rename_i hn
      by_cases e : i = n + 1
      · subst e; exact absurd h hn
      · exact mx_max p n i (by omega) h
theorem mx_is {p : Nat → Bool} {n m : Nat} (h1 : m ≤ n) (h2 : m = 0 ∨ p m = true) (h3 : ∀ i, i ≤ n → p i = true → i ≤ m) : mx p n = m := by
  have b := mx_le p n
  refine Nat.le_antisymm ?_ ?_
  · rcases mx_holds p n with a | a
    · omega
    · exact h3 _ b a
  · rcases h2 with h | h
    · omega
    · exact mx_max p n m h1 h
theorem mx_congr {p q : Nat → Bool} : ∀ n, (∀ i, 0 < i → i ≤ n → p i = q i) → mx p n = mx q n
  | 0, _ => rfl
  | n + 1, h => by
    unfold mx
    rw [h (n + 1) (by omega) (Nat.le_refl _), mx_congr n (fun i h0 hi => h i h0 (by omega))]
theorem mx_next (p : Nat → Bool) (n : Nat) : mx p (n + 1) = if p (n + 1) then n + 1 else mx p n := rfl

/-- The numbers up to n of which p holds, the greatest first. -/
def dn (p : Nat → Bool) : Nat → List Int
  | 0 => []
  | n + 1 => if p (n + 1) then ((n + 1 : Nat) : Int) :: dn p n else dn p n
theorem dn_next (p : Nat → Bool) (n : Nat) : dn p (n + 1) = if p (n + 1) then ((n + 1 : Nat) : Int) :: dn p n else dn p n := rfl
theorem dn_mx (p : Nat → Bool) : ∀ n, dn p n = dn p (mx p n)
  | 0 => rfl
  | n + 1 => by
    rw [mx_next]
    split
    · rfl
    · rename_i h
      rw [dn_next, if_neg h]
      exact dn_mx p n
theorem dn_mem (p : Nat → Bool) : ∀ n, ∀ x ∈ dn p n, ∃ j : Nat, x = (j : Int) ∧ 0 < j ∧ j ≤ n ∧ p j = true
  | 0, x, h => by simp [dn] at h
  | n + 1, x, h => by
    rw [dn_next] at h
    have := dn_mem p n x
    split at h
    · rename_i hp
      rcases List.mem_cons.1 h with e | h
      · exact ⟨n + 1, e, by omega, Nat.le_refl _, hp⟩
      · obtain ⟨j, a, b, c, d⟩ := this h
        exact ⟨j, a, b, by omega, d⟩
    · obtain ⟨j, a, b, c, d⟩ := this h
      exact ⟨j, a, b, by omega, d⟩
theorem dn_falls (p : Nat → Bool) : ∀ n, (dn p n).Pairwise (fun x y => y < x)
  | 0 => List.Pairwise.nil
  | n + 1 => by
    rw [dn_next]
    split
    · refine List.Pairwise.cons (fun y hy => ?_) (dn_falls p n)
      obtain ⟨j, a, _, c, _⟩ := dn_mem p n y hy
      omega
    · exact dn_falls p n
theorem dn_length (p : Nat → Bool) : ∀ n, (dn p n).length ≤ n
  | 0 => Nat.le_refl _
  | n + 1 => by
    have := dn_length p n
    rw [dn_next]
    split
    · rw [List.length_cons]; omega
    · omega
/-- The first one, if there is any. -/
theorem dn_head (p : Nat → Bool) : ∀ n, (dn p n = [] ∧ mx p n = 0) ∨ ∃ r, dn p n = (mx p n : Int) :: r
  | 0 => .inl ⟨rfl, rfl⟩
  | n + 1 => by
    rw [dn_next, mx_next]
    split
    · exact .inr ⟨_, rfl⟩
    · exact dn_head p n

/-! suffixes -/
theorem snoc_suf {a u : List UInt8} {x c : UInt8} : a ++ [x] <:+ u ++ [c] ↔ a <:+ u ∧ x = c := by
  rw [← List.reverse_prefix, List.reverse_append, List.reverse_append]
  simp only [List.reverse_cons, List.reverse_nil, List.nil_append, List.cons_append, List.cons_prefix_cons, List.reverse_prefix]
  exact And.comm
theorem take_suf {t u : List UInt8} {c : UInt8} {j : Nat} (hj : j < t.length) : t.take (j + 1) <:+ u ++ [c] ↔ t.take j <:+ u ∧ t[j] = c := by
  rw [List.take_succ_eq_append_getElem hj]; exact snoc_suf
theorem suf_len {t u : List UInt8} {k : Nat} (hk : k ≤ t.length) (h : t.take k <:+ u) : k ≤ u.length := by
  have := h.length_le
  rw [List.length_take] at this
  omega
theorem suf_cmp {t u v : List UInt8} (h1 : t <:+ v) (h2 : u <:+ v) (h : t.length ≤ u.length) : t <:+ u := List.suffix_of_suffix_length_le h1 h2 h

/-! the longest border -/
/-- Has a text a border of this length? -/
def bd (l : List UInt8) (n : Nat) : Bool := decide (0 < n ∧ n < l.length) && (l.take n == l.drop (l.length - n))
theorem take_drop_suf {l : List UInt8} {n : Nat} (h : n ≤ l.length) : l.take n = l.drop (l.length - n) ↔ l.take n <:+ l := by
  rw [List.suffix_iff_eq_drop, List.length_take, Nat.min_eq_left h]
theorem bd_iff {l : List UInt8} {n : Nat} : bd l n = true ↔ 0 < n ∧ n < l.length ∧ l.take n <:+ l := by
  unfold bd
  rw [Bool.and_eq_true, decide_eq_true_iff, beq_iff_eq]
  constructor
  · rintro ⟨⟨a, b⟩, c⟩
    exact ⟨a, b, (take_drop_suf (by omega)).1 c⟩
  · rintro ⟨a, b, c⟩
    exact ⟨⟨a, b⟩, (take_drop_suf (by omega)).2 c⟩

/-- How long the longest border is. -/
def lonB (l : List UInt8) : Nat := mx (bd l) (l.length - 1)
theorem lon_le (l : List UInt8) : lonB l ≤ l.length - 1 := mx_le _ _
theorem lon_or (l : List UInt8) : lonB l = 0 ∨ bd l (lonB l) = true := mx_holds _ _
theorem lon_suf (l : List UInt8) : l.take (lonB l) <:+ l := by
  rcases lon_or l with h | h
  · rw [h]; exact List.nil_suffix
  · exact (bd_iff.1 h).2.2
theorem lon_max {l : List UInt8} {i : Nat} (h : bd l i = true) : i ≤ lonB l := mx_max _ _ _ (by have := bd_iff.1 h; omega) h
theorem lon_is {l : List UInt8} {m : Nat} (h1 : m ≤ l.length - 1) (h2 : l.take m <:+ l) (h3 : ∀ i, bd l i = true → i ≤ m) : lonB l = m := by
  refine mx_is h1 ?_ (fun i _ h => h3 i h)
  rcases Nat.eq_zero_or_pos m with h | h
  · exact .inl h
  · exact .inr (bd_iff.2 ⟨h, by omega, h2⟩)

theorem take_take_le (l : List UInt8) {i k : Nat} (h : i ≤ k) : (l.take k).take i = l.take i := by rw [List.take_take, Nat.min_eq_left h]
theorem len_take (l : List UInt8) {k : Nat} (h : k ≤ l.length) : (l.take k).length = k := by rw [List.length_take]; omega

/-- A border of a border, and the other way. -/
theorem bd_take {l : List UInt8} {n i : Nat} (h : bd l n = true) (hi : i < n) : bd (l.take n) i = bd l i := by
  obtain ⟨a, b, c⟩ := bd_iff.1 h
  rw [Bool.eq_iff_iff, bd_iff, bd_iff, len_take l (by omega), take_take_le l (by omega)]
  constructor
  · rintro ⟨h1, h2, h3⟩
    exact ⟨h1, by omega, h3.trans c⟩
  · rintro ⟨h1, h2, h3⟩
    exact ⟨h1, hi, suf_cmp h3 c (by rw [len_take l (by omega), len_take l (by omega)]; omega)⟩

theorem bds_next {l : List UInt8} {n : Nat} (h : bd l n = true) : dn (bd l) n = (n : Int) :: dn (bd l) (lonB (l.take n)) := by
  have h0 := bd_iff.1 h
  obtain ⟨m, rfl⟩ : ∃ m, n = m + 1 := ⟨n - 1, by omega⟩
  rw [dn_next, if_pos h, dn_mx (bd l) m]
  congr 2
  unfold lonB
  rw [len_take l (by omega), Nat.add_sub_cancel]
  exact mx_congr m (fun i _ hi => (bd_take h (by omega)).symm)

/-! with how much of t does u end? -/
def endK (t u : List UInt8) : Nat := mx (fun k => decide (k ≤ t.length ∧ t.take k <:+ u)) t.length
theorem endK_le (t u : List UInt8) : endK t u ≤ t.length := mx_le _ _
theorem endK_suf (t u : List UInt8) : t.take (endK t u) <:+ u := by
  rcases mx_holds (fun k => decide (k ≤ t.length ∧ t.take k <:+ u)) t.length with h | h
  · show t.take (mx _ _) <:+ u
    rw [h]; exact List.nil_suffix
  · exact (of_decide_eq_true h).2
theorem endK_max {t u : List UInt8} {i : Nat} (hi : i ≤ t.length) (h : t.take i <:+ u) : i ≤ endK t u := mx_max _ _ _ hi (decide_eq_true ⟨hi, h⟩)
theorem endK_is {t u : List UInt8} {m : Nat} (h1 : m ≤ t.length) (h2 : t.take m <:+ u) (h3 : ∀ i, i ≤ t.length → t.take i <:+ u → i ≤ m) : endK t u = m :=
  mx_is h1 (.inr (decide_eq_true ⟨h1, h2⟩)) (fun i hi h => h3 i hi (of_decide_eq_true h).2)
theorem endK_len (t u : List UInt8) : endK t u ≤ u.length := suf_len (endK_le t u) (endK_suf t u)
theorem endK_all {t u : List UInt8} : endK t u = t.length ↔ t <:+ u := by
  constructor
  · intro h
    have := endK_suf t u
    rwa [h, List.take_length] at this
  · intro h
    exact Nat.le_antisymm (endK_le t u) (endK_max (Nat.le_refl _) (by rwa [List.take_length]))
theorem endK_congr {t u v : List UInt8} {c : UInt8} (h : ∀ j (hj : j < t.length), t[j] = c → (t.take j <:+ u ↔ t.take j <:+ v)) : endK t (u ++ [c]) = endK t (v ++ [c]) := by
  refine mx_congr _ (fun i h0 hi => ?_)
  obtain ⟨j, rfl⟩ : ∃ j, i = j + 1 := ⟨i - 1, by omega⟩
  congr 1
  rw [take_suf (u := u) (show j < t.length by omega), take_suf (u := v) (show j < t.length by omega)]
  refine propext ⟨?_, ?_⟩
  · rintro ⟨a, b, e⟩; exact ⟨a, (h j _ e).1 b, e⟩
  · rintro ⟨a, b, e⟩; exact ⟨a, (h j _ e).2 b, e⟩
/-- One byte more: what was there ahead of the end is not asked for. -/
theorem endK_step (t u : List UInt8) (c : UInt8) : endK t (u ++ [c]) = endK t (t.take (endK t u) ++ [c]) :=
  endK_congr (fun j hj _ => ⟨fun h => suf_cmp h (endK_suf t u) (by
    have := endK_max (show j ≤ t.length by omega) h
    have := endK_le t u
    rw [len_take t (by omega), len_take t (by omega)]; omega), fun h => h.trans (endK_suf t u)⟩)
theorem endK_hit {t : List UInt8} {k : Nat} {c : UInt8} (hk : k < t.length) (h : t[k] = c) : endK t (t.take k ++ [c]) = k + 1 := by
  rw [← h, ← List.take_succ_eq_append_getElem hk]
  refine endK_is hk (List.suffix_refl _) (fun i hi hs => ?_)
  have := suf_len hi hs
  rwa [len_take t hk] at this
theorem endK_zero {t : List UInt8} {c : UInt8} (h : ∀ (hk : 0 < t.length), t[0] ≠ c) : endK t (t.take 0 ++ [c]) = 0 := by
  refine endK_is (Nat.zero_le _) List.nil_suffix (fun i hi hs => ?_)
  have := suf_len hi hs
  simp at this
  rcases Nat.eq_zero_or_pos i with h0 | h0
  · omega
  · obtain rfl : i = 0 + 1 := by omega
    exact absurd ((take_suf (show 0 < t.length by omega)).1 hs).2 (h (by omega))
theorem endK_fall {t : List UInt8} {k : Nat} {c : UInt8} (h0 : 0 < k) (hk : k ≤ t.length) (h : ∀ (hk : k < t.length), t[k] ≠ c) : endK t (t.take k ++ [c]) = endK t (t.take (lonB (t.take k)) ++ [c]) := by
  have hl := lon_le (t.take k)
  have hs := lon_suf (t.take k)
  rw [len_take t hk] at hl
  rw [take_take_le t (by omega)] at hs
  refine endK_congr (fun j hj e => ⟨fun hx => ?_, fun hx => hx.trans hs⟩)
  have hjk := suf_len (by omega) hx
  rw [len_take t hk] at hjk
  have hne : j ≠ k := fun e2 => h (by omega) (by subst e2; exact e)
  refine suf_cmp hx hs ?_
  rw [len_take t (by omega), len_take t (by omega)]
  rcases Nat.eq_zero_or_pos j with hz | hz
  · omega
  · exact lon_max (bd_iff.2 ⟨hz, by rw [len_take t hk]; omega, by rw [take_take_le t (by omega)]; exact hx⟩)

/-- The table's next number. -/
theorem lon_step {l : List UInt8} {n : Nat} (h0 : 0 < n) (hn : n < l.length) : lonB (l.take (n + 1)) = endK l (l.take (lonB (l.take n)) ++ [l[n]]) := by
  have hl := lon_le (l.take n)
  have hs := lon_suf (l.take n)
  rw [len_take l (by omega)] at hl
  rw [take_take_le l (by omega)] at hs
  have he := endK_len l (l.take (lonB (l.take n)) ++ [l[n]])
  rw [List.length_append, List.length_singleton, len_take l (by omega)] at he
  have hx := List.take_succ_eq_append_getElem hn
  refine lon_is ?_ ?_ (fun i hi => ?_)
  · rw [len_take l hn]; omega
  · rw [take_take_le l (by omega), hx]
    exact (endK_suf l _).trans (snoc_suf.2 ⟨hs, rfl⟩)
  · obtain ⟨a, b, c⟩ := bd_iff.1 hi
    rw [len_take l hn] at b
    rw [take_take_le l (by omega), hx] at c
    obtain ⟨j, rfl⟩ : ∃ j, i = j + 1 := ⟨i - 1, by omega⟩
    obtain ⟨c1, c2⟩ := (take_suf (show j < l.length by omega)).1 c
    refine endK_max (by omega) ((take_suf (show j < l.length by omega)).2 ⟨suf_cmp c1 hs ?_, c2⟩)
    rw [len_take l (by omega), len_take l (by omega)]
    rcases Nat.eq_zero_or_pos j with hz | hz
    · omega
    · exact lon_max (bd_iff.2 ⟨hz, by rw [len_take l (by omega)]; omega, by rw [take_take_le l (by omega)]; exact c1⟩)
theorem lon_none {l : List UInt8} (h : l.length ≤ 1) : lonB l = 0 := by have := lon_le l; omega

/-! tables -/
/-- For each beginning that is shorter than n, its longest border. -/
def tabQ (l : List UInt8) (n : Nat) : List Int := (List.range n).map fun j => (lonB (l.take j) : Int)
theorem tabQ_next (l : List UInt8) (n : Nat) : tabQ l (n + 1) = tabQ l n ++ [(lonB (l.take n) : Int)] := by simp [tabQ, List.range_succ]
theorem tabQ_length (l : List UInt8) (n : Nat) : (tabQ l n).length = n := by simp [tabQ]
theorem tabQ_get (l : List UInt8) (n j : Nat) (h : j < n) : (tabQ l n).getD j 0 = (lonB (l.take j) : Int) := by simp [tabQ, List.getD, h]
/-- The same, and zeros behind. -/
def tabP (l : List UInt8) (n : Nat) : List Int := tabQ l n ++ List.replicate (l.length + 1 - n) 0
theorem tabP_length (l : List UInt8) (n : Nat) (h : n ≤ l.length + 1) : (tabP l n).length = l.length + 1 := by simp [tabP, tabQ_length]; omega
theorem tabP_get (l : List UInt8) (n j : Nat) (h : j < n) : (tabP l n).getD j 0 = (lonB (l.take j) : Int) := by
  have := tabQ_get l n j h
  rw [← this]
  simp [tabP, List.getD, List.getElem?_append, tabQ_length, h]
theorem tabP_zero (l : List UInt8) (h : 0 < l.length + 1) : tabP l 1 = List.replicate (l.length + 1) 0 := by
  rw [show l.length + 1 = (l.length + 1 - 1) + 1 by omega, List.replicate_succ, tabP, show tabQ l 1 = [0] by simp [tabQ, lon_none]]
  simp
theorem tabP_full (l : List UInt8) : tabP l (l.length + 1) = tabQ l (l.length + 1) := by simp [tabP]
theorem tabP_set (l : List UInt8) (n : Nat) (h : n ≤ l.length) : (tabP l n).set n (lonB (l.take n) : Int) = tabP l (n + 1) := by
  rw [tabP, tabP, tabQ_next, List.set_append_right _ _ (by rw [tabQ_length]; exact Nat.le_refl _), tabQ_length, Nat.sub_self, show l.length + 1 - n = (l.length + 1 - (n + 1)) + 1 by omega, List.replicate_succ, List.set_cons_zero, List.append_assoc, List.singleton_append]

/-! periods -/
/-- The least period. -/
def per (l : List UInt8) : Nat := l.length - lonB l
theorem per_border {l : List UInt8} {p : Nat} (h : p ≤ l.length) : l.drop p = l.take (l.length - p) ↔ l.take (l.length - p) <:+ l := by
  rw [← take_drop_suf (by omega), show l.length - (l.length - p) = p by omega]
  exact eq_comm
theorem per_hit {l : List UInt8} {p : Nat} (h0 : 1 ≤ p) (hp : p ≤ per l) (h : l.drop p = l.take (l.length - p)) : p = per l := by
  have hle : p ≤ l.length := Nat.le_trans hp (Nat.sub_le _ _)
  have hs := (per_border hle).1 h
  have hl := lon_le l
  unfold per at hp ⊢
  rcases Nat.eq_zero_or_pos (l.length - p) with hz | hz
  · omega
  · have := lon_max (bd_iff.2 ⟨hz, by omega, hs⟩)
    omega
theorem per_is (l : List UInt8) : l.drop (per l) = l.take (l.length - per l) := by
  have hl := lon_le l
  have hle : per l ≤ l.length := Nat.sub_le _ _
  have e : l.length - per l = lonB l := by unfold per; omega
  rw [per_border hle, e]
  exact lon_suf l
theorem per_miss {l : List UInt8} {p : Nat} (hp : p ≤ per l) (h : ¬ l.drop p = l.take (l.length - p)) : p + 1 ≤ per l := by
  rcases Nat.lt_or_ge p (per l) with h1 | h1
  · exact h1
  · exact absurd (by rw [show p = per l by omega]; exact per_is l) h
theorem per_least {l : List UInt8} {q : Nat} (h0 : 1 ≤ q) (h : l.drop q = l.take (l.length - q)) (hq : q ≤ l.length) : per l ≤ q := by
  rcases Nat.lt_or_ge q (per l) with h1 | h1
  · have := per_hit h0 (by omega) h; omega
  · exact h1
theorem per_pos {l : List UInt8} (h : 0 < l.length) : 1 ≤ per l := by have := lon_le l; unfold per; omega

/-- Place by place. -/
theorem prd_iff {l : List UInt8} {p : Nat} (h : p ≤ l.length) : l.drop p = l.take (l.length - p) ↔ ∀ i, i + p < l.length → l[i + p]? = l[i]? := by
  constructor
  · intro e i hi
    have := congrArg (fun x => x[i]?) e
    simp only [List.getElem?_drop, List.getElem?_take] at this
    rw [if_pos (by omega), Nat.add_comm] at this
    exact this
  · intro hx
    refine List.ext_getElem? fun i => ?_
    rw [List.getElem?_drop, List.getElem?_take]
    by_cases hi : i + p < l.length
    · rw [if_pos (by omega), Nat.add_comm]; exact hx i hi
    · rw [if_neg (by omega), List.getElem?_eq_none (by omega)]

/-- The least period goes into each one that is short enough. -/
theorem per_divides {l : List UInt8} (hl : 0 < l.length) : ∀ (k q : Nat), q ≤ k → 1 ≤ q → per l + q ≤ l.length → (∀ i, i + q < l.length → l[i + q]? = l[i]?) → per l ∣ q
  | 0, q, hk, h0, _, _ => by omega
  | k + 1, q, hk, h0, hs, hq => by
    have hp := (prd_iff (l := l) (p := per l) (by omega)).1 (per_is l)
    have hp0 := per_pos hl
    have hle := per_least h0 ((prd_iff (by omega)).2 hq) (by omega)
    by_cases e : q = per l
    · rw [e]; exact Nat.dvd_refl _
    · have hd := per_divides hl k (q - per l) (by omega) (by omega) (by omega) (fun i hi => by
        by_cases hi2 : i + q < l.length
        · have h1 := hq i hi2
          have h2 := hp (i + (q - per l)) (by omega)
          rw [show i + (q - per l) + per l = i + q by omega] at h2
          rw [← h2, h1]
        · have h1 := hq (i - per l) (by omega)
          have h2 := hp (i - per l) (by omega)
          rw [show i - per l + per l = i by omega] at h2
          rw [show i - per l + q = i + (q - per l) by omega] at h1
          rw [h1, h2])
      have := Nat.dvd_add hd (Nat.dvd_refl (per l))
      rwa [show q - per l + per l = q by omega] at this

/-- Is a text its first n bytes, several times? -/
def wn (l : List UInt8) (n : Nat) : Bool := decide (l.length % n = 0) && (l.drop n == l.take (l.length - n))
def wholeB (l : List UInt8) : Bool := decide (per l < l.length ∧ l.length % per l = 0)
theorem whole_true {l : List UInt8} {n : Nat} (h0 : 1 ≤ n) (hn : n < l.length) (h : wn l n = true) : wholeB l = true := by
  simp only [wn, Bool.and_eq_true, decide_eq_true_iff, beq_iff_eq] at h
  obtain ⟨h1, h2⟩ := h
  have hle := per_least h0 h2 (by omega)
  obtain ⟨q, hq⟩ := Nat.dvd_of_mod_eq_zero h1
  have hq2 : 2 ≤ q := by
    rcases q with _ | _ | q
    · omega
    · omega
    · omega
  have := Nat.mul_le_mul_left n hq2
  have hd := per_divides (by omega) n n (Nat.le_refl _) h0 (by omega) ((prd_iff (by omega)).1 h2)
  unfold wholeB
  rw [decide_eq_true_iff]
  exact ⟨by omega, Nat.mod_eq_zero_of_dvd (Nat.dvd_trans hd ⟨q, hq⟩)⟩
theorem whole_false {l : List UInt8} (h : ∀ n, 1 ≤ n → n < l.length → wn l n = false) : wholeB l = false := by
  unfold wholeB
  rw [decide_eq_false_iff_not]
  rintro ⟨h1, h2⟩
  have := h (per l) (per_pos (by omega)) h1
  simp only [wn, h2, decide_true, Bool.true_and, beq_eq_false_iff_ne] at this
  exact this (per_is l)

/-- A text so many times. -/
def rep (u : List UInt8) : Nat → List UInt8
  | 0 => []
  | j + 1 => rep u j ++ u
theorem rep_length (u : List UInt8) : ∀ j, (rep u j).length = j * u.length
  | 0 => by simp [rep]
  | j + 1 => by rw [rep, List.length_append, rep_length u j, Nat.add_mul, Nat.one_mul]
theorem rep_front (u : List UInt8) : ∀ j, u ++ rep u j = rep u (j + 1)
  | 0 => by simp [rep]
  | j + 1 => by rw [rep, ← List.append_assoc, rep_front u j]; rfl
theorem rep_period {l : List UInt8} {n : Nat} (hn : n ≤ l.length) (h : l.drop n = l.take (l.length - n)) : ∀ j, j * n ≤ l.length → rep (l.take n) j = l.take (j * n)
  | 0, _ => by simp [rep]
  | j + 1, hj => by
    rw [Nat.add_mul, Nat.one_mul] at hj
    rw [← rep_front, rep_period hn h j (by omega), Nat.add_mul, Nat.one_mul, Nat.add_comm, List.take_add, h, take_take_le l (by omega)]
theorem rep_is {l : List UInt8} {n j : Nat} (h0 : 1 ≤ n) (hn : n ≤ l.length) (h1 : l.length ≤ j * n) (h2 : j = 0 ∨ (j - 1) * n < l.length) : (rep (l.take n) j == l) = wn l n := by
  have hul := len_take l hn
  rw [Bool.eq_iff_iff, beq_iff_eq, wn, Bool.and_eq_true, decide_eq_true_iff, beq_iff_eq]
  constructor
  · intro e
    have hl := rep_length (l.take n) j
    rw [e, hul] at hl
    refine ⟨by rw [hl]; exact Nat.mul_mod_left _ _, ?_⟩
    obtain ⟨i, rfl⟩ : ∃ i, j = i + 1 := ⟨j - 1, by
      rcases j with _ | j
      · omega
      · rfl⟩
    have hr := rep_length (l.take n) i
    rw [hul] at hr
    rw [Nat.add_mul, Nat.one_mul] at hl
    have e1 : l.drop n = rep (l.take n) i := by
      have := congrArg (List.drop n) ((rep_front (l.take n) i).trans e)
      rw [← this]
      exact List.drop_left' hul
    have e2 : l.take (l.length - n) = rep (l.take n) i := by
      have := congrArg (List.take (l.length - n)) (show rep (l.take n) i ++ l.take n = l from e)
      rw [← this]
      exact List.take_left' (by omega)
    rw [e1, e2]
  · rintro ⟨e1, e2⟩
    obtain ⟨q, hq⟩ := Nat.dvd_of_mod_eq_zero e1
    rw [Nat.mul_comm] at hq
    have hjq : q = j := by
      have a : q ≤ j := Nat.le_of_mul_le_mul_right (by omega : q * n ≤ j * n) h0
      rcases h2 with h2 | h2
      · omega
      · have : j - 1 < q := Nat.lt_of_mul_lt_mul_right (by omega : (j - 1) * n < q * n)
        omega
    subst hjq
    rw [rep_period hn e2 q (by omega), ← hq, List.take_length]

/-! reach -/
def rc (a b : List UInt8) (m : Nat) : Bool := decide (m ≤ a.length) && (a.drop (a.length - m) == b.take m)
theorem rc_iff {a b : List UInt8} {m : Nat} (hm : m ≤ b.length) : rc a b m = decide (m ≤ b.length ∧ b.take m <:+ a) := by
  rw [Bool.eq_iff_iff, rc, Bool.and_eq_true, decide_eq_true_iff, beq_iff_eq, decide_eq_true_iff]
  constructor
  · rintro ⟨h1, h2⟩
    exact ⟨hm, by rw [← h2]; exact List.drop_suffix _ _⟩
  · rintro ⟨_, h2⟩
    refine ⟨suf_len hm h2, ?_⟩
    have := List.suffix_iff_eq_drop.1 h2
    rw [len_take b hm] at this
    exact this.symm
theorem rch_is (a b : List UInt8) : mx (rc a b) b.length = endK b a := mx_congr _ (fun i _ hi => rc_iff hi)
theorem rch_cut (a b : List UInt8) (n : Nat) (ha : n ≤ a.length) (hb : n ≤ b.length) (hn : a.length ≤ n ∨ b.length ≤ n) : endK (b.take n) (a.drop (a.length - n)) = endK b a := by
  have hbl := len_take b hb
  have had : (a.drop (a.length - n)).length = n := by rw [List.length_drop]; omega
  have hk := endK_le b a
  have hka := endK_len b a
  refine endK_is ?_ ?_ (fun i hi hs => ?_)
  · omega
  · rw [take_take_le b (by omega)]
    exact suf_cmp (endK_suf b a) (List.drop_suffix _ _) (by rw [had, len_take b (by omega)]; omega)
  · rw [take_take_le b (by omega)] at hs
    exact endK_max (by omega) (hs.trans (List.drop_suffix _ _))

/-! places -/
/-- The places at which t stands in the first m bytes of s. -/
def fnd (s t : List UInt8) : Nat → List Int
  | 0 => []
  | m + 1 => fnd s t m ++ if t <:+ s.take (m + 1) then [((m + 1 - t.length : Nat) : Int)] else []
theorem fnd_next (s t : List UInt8) (m : Nat) : fnd s t (m + 1) = fnd s t m ++ if t <:+ s.take (m + 1) then [((m + 1 - t.length : Nat) : Int)] else [] := rfl
theorem fnd_hit {s t : List UInt8} {m : Nat} (h : t <:+ s.take (m + 1)) : fnd s t (m + 1) = fnd s t m ++ [((m + 1 - t.length : Nat) : Int)] := by rw [fnd_next, if_pos h]
theorem fnd_miss {s t : List UInt8} {m : Nat} (h : ¬ t <:+ s.take (m + 1)) : fnd s t (m + 1) = fnd s t m := by rw [fnd_next, if_neg h, List.append_nil]
theorem fnd_short {s t : List UInt8} : ∀ {m : Nat}, m < t.length → fnd s t m = []
  | 0, _ => rfl
  | m + 1, h => by
    rw [fnd_miss, fnd_short (by omega)]
    intro hs
    have := hs.length_le
    rw [List.length_take] at this
    omega
theorem fnd_over {s t : List UInt8} (h : s.length < t.length) : ∀ m, fnd s t m = []
  | 0 => rfl
  | m + 1 => by
    rw [fnd_miss, fnd_over h m]
    intro hs
    have := hs.length_le
    rw [List.length_take] at this
    omega
theorem fnd_mem {s t : List UInt8} : ∀ m, ∀ x ∈ fnd s t m, ∃ j : Nat, x = (j : Int) ∧ (m ≤ s.length → j + t.length ≤ m ∧ t <:+ s.take (j + t.length))
  | 0, x, h => by simp [fnd] at h
  | m + 1, x, h => by
    by_cases hs : t <:+ s.take (m + 1)
    · rw [fnd_hit hs, List.mem_append, List.mem_singleton] at h
      rcases h with h | h
      · obtain ⟨j, a, b⟩ := fnd_mem m x h
        exact ⟨j, a, fun hm => by have := b (by omega); exact ⟨by omega, this.2⟩⟩
      · refine ⟨_, h, fun hm => ?_⟩
        have := hs.length_le
        rw [len_take s hm] at this
        rw [Nat.sub_add_cancel this]
        exact ⟨Nat.le_refl _, hs⟩
    · rw [fnd_miss hs] at h
      obtain ⟨j, a, b⟩ := fnd_mem m x h
      exact ⟨j, a, fun hm => by have := b (by omega); exact ⟨by omega, this.2⟩⟩
theorem fnd_rises {s t : List UInt8} : ∀ m, m ≤ s.length → (fnd s t m).Pairwise (fun x y => x < y)
  | 0, _ => List.Pairwise.nil
  | m + 1, hm => by
    by_cases hs : t <:+ s.take (m + 1)
    · rw [fnd_hit hs]
      refine List.pairwise_append.2 ⟨fnd_rises m (by omega), List.pairwise_singleton _ _, fun x hx y hy => ?_⟩
      obtain ⟨j, a, b⟩ := fnd_mem m x hx
      have := b (by omega)
      have := hs.length_le
      rw [len_take s hm] at this
      rw [List.mem_singleton] at hy
      omega
    · rw [fnd_miss hs]; exact fnd_rises m (by omega)
theorem fnd_length (s t : List UInt8) : ∀ m, (fnd s t m).length ≤ m
  | 0 => Nat.le_refl _
  | m + 1 => by
    have := fnd_length s t m
    rw [fnd_next, List.length_append]
    split <;> simp <;> omega
theorem stands_iff {s t : List UInt8} {i : Nat} (h : i + t.length ≤ s.length) : (s.take (i + t.length)).drop i = t ↔ t <:+ s.take (i + t.length) := by
  rw [List.suffix_iff_eq_drop, len_take s h, Nat.add_sub_cancel]
  exact eq_comm
/-- Where a text stands twice, overlapping, the places differ by a period of it. -/
theorem twice {s t : List UInt8} {j p : Nat} (h1 : t <:+ s.take (j + t.length)) (h2 : t <:+ s.take (j + p + t.length)) (hs : j + p + t.length ≤ s.length) (hp : p ≤ t.length) : t.drop p = t.take (t.length - p) := by
  have g : ∀ k, k + t.length ≤ s.length → t <:+ s.take (k + t.length) → ∀ i, i < t.length → t[i]? = s[k + i]? := fun k hk hx i hi => by
    have := congrArg (fun x => x[i]?) ((stands_iff hk).2 hx)
    simp only [List.getElem?_drop, List.getElem?_take] at this
    rw [if_pos (by omega)] at this
    exact this.symm
  refine (prd_iff hp).2 (fun i hi => ?_)
  rw [g j (by omega) h1 (i + p) hi, g (j + p) hs h2 i (by omega)]
  congr 1; omega
end Go.Proofs.Ytikhjofpioegbaa
