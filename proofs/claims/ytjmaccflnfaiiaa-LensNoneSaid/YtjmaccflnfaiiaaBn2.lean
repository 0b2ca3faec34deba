/-
  Texts put together: BdM, ShM, PrM, OcM.
-/
import Derived.Lib.Hide
import Derived.Test.YtjmaccflnfaiiaaBn1
set_option linter.unusedSimpArgs false
set_option linter.unusedVariables false
namespace Go.Proofs.Ytjmaccflnfaiiaa

/-- The greatest number up to n of which p holds, or 0. -/
def mx (p : Nat → Bool) : Nat → Nat
  | 0 => 0
  | n + 1 => if p (n + 1) then n + 1 else mx p n

theorem mx_le (p : Nat → Bool) : ∀ n, mx p n ≤ n
  | 0 => Nat.le_refl _
  | n + 1 => by
    have := mx_le p n
    unfold mx
    split <;> omega
theorem mx_holds (p : Nat → Bool) : ∀ n, mx p n = 0 ∨ p (mx p n) = true
  | 0 => .inl rfl
  | n + 1 => by
    have := mx_holds p n
    unfold mx
    split
    · rename_i h; exact .inr h
    · exact this
theorem mx_max (p : Nat → Bool) : ∀ n i, i ≤ n → p i = true → i ≤ mx p n
  | 0, i, hi, _ => hi
  | n + 1, i, hi, h => by
    unfold mx
    split
    · exact hi
    · rename_i hn
      by_cases e : i = n + 1
      · subst e; exact absurd h hn
      · exact mx_max p n i (by omega) h
theorem mx_is {p : Nat → Bool} {n m : Nat} (h1 : m ≤ n) (h2 : m = 0 ∨ p m = true) (h3 : ∀ i, i ≤ n → p i = true → i ≤ m) : mx p n = m := by
  have b := mx_le p n
  refine Nat.le_antisymm ?_ ?_
  · rcases mx_holds p n with a | a
    · omega
    · exact h3 _ b a
  · rcases h2 with h | h
    · omega
    · exact mx_max p n m h1 h
theorem mx_congr {p q : Nat → Bool} : ∀ n, (∀ i, 0 < i → i ≤ n → p i = q i) → mx p n = mx q n
  | 0, _ => rfl
  | n + 1, h => by
    unfold mx
    rw [h (n + 1) (by omega) (Nat.le_refl _), mx_congr n (fun i h0 hi => h i h0 (by omega))]
theorem mx_next (p : Nat → Bool) (n : Nat) : mx p (n + 1) = if p (n + 1) then n + 1 else mx p n := rfl

/-- The numbers up to n of which p holds, the greatest first. -/
def dn (p : Nat → Bool) : Nat → List Int
  | 0 => []
  | n + 1 => if p (n + 1) then ((n + 1 : Nat) : Int) :: dn p n else dn p n
theorem dn_next (p : Nat → Bool) (n : Nat) : dn p (n + 1) = if p (n + 1) then ((n + 1 : Nat) : Int) :: dn p n else dn p n := rfl
theorem dn_mx (p : Nat → Bool) : ∀ n, dn p n = dn p (mx p n)
  | 0 => rfl
  | n + 1 => by
    rw [mx_next]
    split
    · rfl
    · rename_i h
      rw [dn_next, if_neg h]
      exact dn_mx p n
theorem dn_mem (p : Nat → Bool) : ∀ n, ∀ x ∈ dn p n, ∃ j : Nat, x = (j : Int) ∧ 0 < j ∧ j ≤ n ∧ p j = true
  | 0, x, h => by simp [dn] at h
  | n + 1, x, h => by
    rw [dn_next] at h
    have := dn_mem p n x
    split at h
    · rename_i hp
      rcases List.mem_cons.1 h with e | h
      · exact ⟨n + 1, e, by omega, Nat.le_refl _, hp⟩
      · obtain ⟨j, a, b, c, d⟩ := this h
        exact ⟨j, a, b, by omega, d⟩
    · obtain ⟨j, a, b, c, d⟩ := this h
      exact ⟨j, a, b, by omega, d⟩
theorem dn_falls (p : Nat → Bool) : ∀ n, (dn p n).Pairwise (fun x y => y < x)
  | 0 => List.Pairwise.nil
  | n + 1 => by
    rw [dn_next]
    split
    · refine List.Pairwise.cons (fun y hy => ?_) (dn_falls p n)
      obtain ⟨j, a, _, c, _⟩ := dn_mem p n y hy
      omega
    · exact dn_falls p n
theorem dn_length (p : Nat → Bool) : ∀ n, (dn p n).length ≤ n
  | 0 => Nat.le_refl _
  | n + 1 => by
    have := dn_length p n
    rw [dn_next]
    split
    · rw [List.length_cons]; omega
    · omega
/-- The first one, if there is any. -/
theorem dn_head (p : Nat → Bool) : ∀ n, (dn p n = [] ∧ mx p n = 0) ∨ ∃ r, dn p n = (mx p n : Int) :: r
  | 0 => .inl ⟨rfl, rfl⟩
  | n + 1 => by
    rw [dn_next, mx_next]
    split
    · exact .inr ⟨_, rfl⟩
    · exact dn_head p n

/-! suffixes -/
theorem snoc_suf {a u : List UInt8} {x c : UInt8} : a ++ [x] <:+ u ++ [c] ↔ a <:+ u ∧ x = c := by
  rw [← List.reverse_prefix, List.reverse_append, List.reverse_append]
  simp only [List.reverse_cons, List.reverse_nil, List.nil_append, List.cons_append, List.cons_prefix_cons, List.reverse_prefix]
  exact And.comm
theorem take_suf {t u : List UInt8} {c : UInt8} {j : Nat} (hj : j < t.length) : t.take (j + 1) <:+ u ++ [c] ↔ t.take j <:+ u ∧ t[j] = c := by
  rw [List.take_succ_eq_append_getElem hj]; exact snoc_suf
theorem suf_len {t u : List UInt8} {k : Nat} (hk : k ≤ t.length) (h : t.take k <:+ u) : k ≤ u.length := by
  have := h.length_le
  rw [List.length_take] at this
  omega
theorem suf_cmp {t u v : List UInt8} (h1 : t <:+ v) (h2 : u <:+ v) (h : t.length ≤ u.length) : t <:+ u := List.suffix_of_suffix_length_le h1 h2 h

/-! the longest border -/
/-- Has a text a border of this length? -/
def bd (l : List UInt8) (n : Nat) : Bool := decide (0 < n ∧ n < l.length) && (l.take n == l.drop (l.length - n))
theorem take_drop_suf {l : List UInt8} {n : Nat} (h : n ≤ l.length) : l.take n = l.drop (l.length - n) ↔ l.take n <:+ l := by
  rw [List.suffix_iff_eq_drop, List.length_take, Nat.min_eq_left h]
theorem bd_iff {l : List UInt8} {n : Nat} : bd l n = true ↔ 0 < n ∧ n < l.length ∧ l.take n <:+ l := by
  unfold bd
  rw [Bool.and_eq_true, decide_eq_true_iff, beq_iff_eq]
  constructor
  · rintro ⟨⟨a, b⟩, c⟩
    exact ⟨a, b, (take_drop_suf (by omega)).1 c⟩
  · rintro ⟨a, b, c⟩
    exact ⟨⟨a, b⟩, (take_drop_suf (by omega)).2 c⟩

/-- How long the longest border is. -/
def lonB (l : List UInt8) : Nat := mx (bd l) (l.length - 1)
theorem lon_le (l : List UInt8) : lonB l ≤ l.length - 1 := mx_le _ _
theorem lon_or (l : List UInt8) : lonB l = 0 ∨ bd l (lonB l) = true := mx_holds _ _
theorem lon_suf (l : List UInt8) : l.take (lonB l) <:+ l := by
  rcases lon_or l with h | h
  · rw [h]; exact List.nil_suffix
  · exact (bd_iff.1 h).2.2
theorem lon_max {l : List UInt8} {i : Nat} (h : bd l i = true) : i ≤ lonB l := mx_max _ _ _ (by have := bd_iff.1 h; omega) h
theorem lon_is {l : List UInt8} {m : Nat} (h1 : m ≤ l.length - 1) (h2 : l.take m <:+ l) (h3 : ∀ i, bd l i = true → i ≤ m) : lonB l = m := by
  refine mx_is h1 ?_ (fun i _ h => h3 i h)
  rcases Nat.eq_zero_or_pos m with h | h
  · exact .inl h
  · exact .inr (bd_iff.2 ⟨h, by omega, h2⟩)

theorem take_take_le (l : List UInt8) {i k : Nat} (h : i ≤ k) : (l.take k).take i = l.take i := by rw [List.take_take, Nat.min_eq_left h]
theorem len_take (l : List UInt8) {k : Nat} (h : k ≤ l.length) : (l.take k).length = k := by rw [List.length_take]; omega

/-- A border of a border, and the other way. -/
theorem bd_take {l : List UInt8} {n i : Nat} (h : bd l n = true) (hi : i < n) : bd (l.take n) i = bd l i := by
  obtain ⟨a, b, c⟩ := bd_iff.1 h
  rw [Bool.eq_iff_iff, bd_iff, bd_iff, len_take l (by omega), take_take_le l (by omega)]
  constructor
  · rintro ⟨h1, h2, h3⟩
    exact ⟨h1, by omega, h3.trans c⟩
  · rintro ⟨h1, h2, h3⟩
    exact ⟨h1, hi, suf_cmp h3 c (by rw [len_take l (by omega), len_take l (by omega)]; omega)⟩

theorem bds_next {l : List UInt8} {n : Nat} (h : bd l n = true) : dn (bd l) n = (n : Int) :: dn (bd l) (lonB (l.take n)) := by
  have h0 := bd_iff.1 h
  obtain ⟨m, rfl⟩ : ∃ m, n = m + 1 := ⟨n - 1, by omega⟩
  rw [dn_next, if_pos h, dn_mx (bd l) m]
  congr 2
  unfold lonB
  rw [len_take l (by omega), Nat.add_sub_cancel]
  exact mx_congr m (fun i _ hi => (bd_take h (by omega)).symm)

/-! with how much of t does u end? -/
def endK (t u : List UInt8) : Nat := mx (fun k => decide (k ≤ t.length ∧ t.take k <:+ u)) t.length
theorem endK_le (t u : List UInt8) : endK t u ≤ t.length := mx_le _ _
theorem endK_suf (t u : List UInt8) : t.take (endK t u) <:+ u := by
  rcases mx_holds (fun k => decide (k ≤ t.length ∧ t.take k <:+ u)) t.length with h | h
  · show t.take (mx _ _) <:+ u
    rw [h]; exact List.nil_suffix
  · exact (of_decide_eq_true h).2
theorem endK_max {t u : List UInt8} {i : Nat} (hi : i ≤ t.length) (h : t.take i <:+ u) : i ≤ endK t u := mx_max _ _ _ hi (decide_eq_true ⟨hi, h⟩)
theorem endK_is {t u : List UInt8} {m : Nat} (h1 : m ≤ t.length) (h2 : t.take m <:+ u) (h3 : ∀ i, i ≤ t.length → t.take i <:+ u → i ≤ m) : endK t u = m :=
  mx_is h1 (.inr (decide_eq_true ⟨h1, h2⟩)) (fun i hi h => h3 i hi (of_decide_eq_true h).2)
theorem endK_len (t u : List UInt8) : endK t u ≤ u.length := suf_len (endK_le t u) (endK_suf t u)
theorem endK_all {t u : List UInt8} : endK t u = t.length ↔ t <:+ u := by
  constructor
  · intro h
    have := endK_suf t u
    rwa [h, List.take_length] at this
  · intro h
    exact Nat.le_antisymm (endK_le t u) (endK_max (Nat.le_refl _) (by rwa [List.take_length]))
theorem endK_congr {t u v : List UInt8} {c : UInt8} (h : ∀ j (hj : j < t.length), t[j] = c → (t.take j <:+ u ↔ t.take j <:+ v)) : endK t (u ++ [c]) = endK t (v ++ [c]) := by
  refine mx_congr _ (fun i h0 hi => ?_)
  obtain ⟨j, rfl⟩ : ∃ j, i = j + 1 := ⟨i - 1, by omega⟩
  congr 1
  rw [take_suf (u := u) (show j < t.length by omega), take_suf (u := v) (show j < t.length by omega)]
  refine propext ⟨?_, ?_⟩
  · rintro ⟨a, b, e⟩; exact ⟨a, (h j _ e).1 b, e⟩
  · rintro ⟨a, b, e⟩; exact ⟨a, (h j _ e).2 b, e⟩
/-- One byte more: what was there ahead of the end is not asked for. -/
theorem endK_step (t u : List UInt8) (c : UInt8) : endK t (u ++ [c]) = endK t (t.take (endK t u) ++ [c]) :=
  endK_congr (fun j hj _ => ⟨fun h => suf_cmp h (endK_suf t u) (by
    have := endK_max (show j ≤ t.length by omega) h
    have := endK_le t u
    rw [len_take t (by omega), len_take t (by omega)]; omega), fun h => h.trans (endK_suf t u)⟩)
theorem endK_hit {t : List UInt8} {k : Nat} {c : UInt8} (hk : k < t.length) (h : t[k] = c) : endK t (t.take k ++ [c]) = k + 1 := by
  rw [← h, ← List.take_succ_eq_append_getElem hk]
  refine endK_is hk (List.suffix_refl _) (fun i hi hs => ?_)
  have := suf_len hi hs
  rwa [len_take t hk] at this
theorem endK_zero {t : List UInt8} {c : UInt8} (h : ∀ (hk : 0 < t.length), t[0] ≠ c) : endK t (t.take 0 ++ [c]) = 0 := by
  refine endK_is (Nat.zero_le _) List.nil_suffix (fun i hi hs => ?_)
  have := suf_len hi hs
  simp at this
  rcases Nat.eq_zero_or_pos i with h0 | h0
  · omega
  · obtain rfl : i = 0 + 1 := by omega
    exact absurd ((take_suf (show 0 < t.length by omega)).1 hs).2 (h (by omega))
theorem endK_fall {t : List UInt8} {k : Nat} {c : UInt8} (h0 : 0 < k) (hk : k ≤ t.length) (h : ∀ (hk : k < t.length), t[k] ≠ c) : endK t (t.take k ++ [c]) = endK t (t.take (lonB (t.take k)) ++ [c]) := by
  have hl := lon_le (t.take k)
  have hs := lon_suf (t.take k)
  rw [len_take t hk] at hl
  rw [take_take_le t (by omega)] at hs
  refine endK_congr (fun j hj e => ⟨fun hx => ?_, fun hx => hx.trans hs⟩)
  have hjk := suf_len (by omega) hx
  rw [len_take t hk] at hjk
  have hne : j ≠ k := fun e2 => h (by omega) (by subst e2; exact e)
  refine suf_cmp hx hs ?_
  rw [len_take t (by omega), len_take t (by omega)]
  rcases Nat.eq_zero_or_pos j with hz | hz
  · omega
  · exact lon_max (bd_iff.2 ⟨hz, by rw [len_take t hk]; omega, by rw [take_take_le t (by omega)]; exact hx⟩)

/-- The table's next number. -/
theorem lon_step {l : List UInt8} {n : Nat} (h0 : 0 < n) (hn : n < l.length) : lonB (l.take (n + 1)) = endK l (l.take (lonB (l.take n)) ++ [l[n]]) := by
  have hl := lon_le (l.take n)
  have hs := lon_suf (l.take n)
  rw [len_take l (by omega)] at hl
  rw [take_take_le l (by omega)] at hs
  have he := endK_len l (l.take (lonB (l.take n)) ++ [l[n]])
  rw [List.length_append, List.length_singleton, len_take l (by omega)] at he
  have hx := List.take_succ_eq_append_getElem hn
  refine lon_is ?_ ?_ (fun i hi => ?_)
  · rw [len_take l hn]; omega
  · rw [take_take_le l (by omega), hx]
    exact (endK_suf l _).trans (snoc_suf.2 ⟨hs, rfl⟩)
  · obtain ⟨a, b, c⟩ := bd_iff.1 hi
    rw [len_take l hn] at b
    rw [take_take_le l (by omega), hx] at c
    obtain ⟨j, rfl⟩ : ∃ j, i = j + 1 := ⟨i - 1, by omega⟩
    obtain ⟨c1, c2⟩ := (take_suf (show j < l.length by omega)).1 c
    refine endK_max (by omega) ((take_suf (show j < l.length by omega)).2 ⟨suf_cmp c1 hs ?_, c2⟩)
    rw [len_take l (by omega), len_take l (by omega)]
    rcases Nat.eq_zero_or_pos j with hz | hz
    · omega
    · exact lon_max (bd_iff.2 ⟨hz, by rw [len_take l (by omega)]; omega, by rw [take_take_le l (by omega)]; exact c1⟩)
theorem lon_none {l : List UInt8} (h : l.length ≤ 1) : lonB l = 0 := by have := lon_le l; omega

/-! tables -/
/-- For each beginning that is shorter than n, its longest border. -/
def tabQ (l : List UInt8) (n : Nat) : List Int := (List.range n).map fun j => (lonB (l.take j) : Int)
theorem tabQ_next (l : List UInt8) (n : Nat) : tabQ l (n + 1) = tabQ l n ++ [(lonB (l.take n) : Int)] := by simp [tabQ, List.range_succ]
theorem tabQ_length (l : List UInt8) (n : Nat) : (tabQ l n).length = n := by simp [tabQ]
theorem tabQ_get (l : List UInt8) (n j : Nat) (h : j < n) : (tabQ l n).getD j 0 = (lonB (l.take j) : Int) := by simp [tabQ, List.getD, h]
/-- The same, and zeros behind. -/
def tabP (l : List UInt8) (n : Nat) : List Int := tabQ l n ++ List.replicate (l.length + 1 - n) 0
theorem tabP_length (l : List UInt8) (n : Nat) (h : n ≤ l.length + 1) : (tabP l n).length = l.length + 1 := by simp [tabP, tabQ_length]; omega
theorem tabP_get (l : List UInt8) (n j : Nat) (h : j < n) : (tabP l n).getD j 0 = (lonB (l.take j) : Int) := by
  have := tabQ_get l n j h
  rw [← this]
  simp [tabP, List.getD, List.getElem?_append, tabQ_length, h]
theorem tabP_zero (l : List UInt8) (h : 0 < l.length + 1) : tabP l 1 = List.replicate (l.length + 1) 0 := by
  rw [show l.length + 1 = (l.length + 1 - 1) + 1 by omega, List.replicate_succ, tabP, show tabQ l 1 = [0] by simp [tabQ, lon_none]]
  simp
theorem tabP_full (l : List UInt8) : tabP l (l.length + 1) = tabQ l (l.length + 1) := by simp [tabP]
theorem tabP_set (l : List UInt8) (n : Nat) (h : n ≤ l.length) : (tabP l n).set n (lonB (l.take n) : Int) = tabP l (n + 1) := by
  rw [tabP, tabP, tabQ_next, List.set_append_right _ _ (by rw [tabQ_length]; exact Nat.le_refl _), tabQ_length, Nat.sub_self, show l.length + 1 - n = (l.length + 1 - (n + 1)) + 1 by omega, List.replicate_succ, List.set_cons_zero, List.append_assoc, List.singleton_append]

/-! periods -/
/-- The least period. -/
def per (l : List UInt8) : Nat := l.length - lonB l
theorem per_border {l : List UInt8} {p : Nat} (h : p ≤ l.length) : l.drop p = l.take (l.length - p) ↔ l.take (l.length - p) <:+ l := by
  rw [← take_drop_suf (by omega), show l.length - (l.length - p) = p by omega]
  exact eq_comm
theorem per_hit {l : List UInt8} {p : Nat} (h0 : 1 ≤ p) (hp : p ≤ per l) (h : l.drop p = l.take (l.length - p)) : p = per l := by
  have hle : p ≤ l.length := Nat.le_trans hp (Nat.sub_le _ _)
  have hs := (per_border hle).1 h
  have hl := lon_le l
  unfold per at hp ⊢
  rcases Nat.eq_zero_or_pos (l.length - p) with hz | hz
  · omega
  · have := lon_max (bd_iff.2 ⟨hz, by omega, hs⟩)
    omega
theorem per_is (l : List UInt8) : l.drop (per l) = l.take (l.length - per l) := by
  have hl := lon_le l
  have hle : per l ≤ l.length := Nat.sub_le _ _
  have e : l.length - per l = lonB l := by unfold per; omega
  rw [per_border hle, e]
  exact lon_suf l
theorem per_miss {l : List UInt8} {p : Nat} (hp : p ≤ per l) (h : ¬ l.drop p = l.take (l.length - p)) : p + 1 ≤ per l := by
  rcases Nat.lt_or_ge p (per l) with h1 | h1
  · exact h1
  · exact absurd (by rw [show p = per l by omega]; exact per_is l) h
theorem per_least {l : List UInt8} {q : Nat} (h0 : 1 ≤ q) (h : l.drop q = l.take (l.length - q)) (hq : q ≤ l.length) : per l ≤ q := by
  rcases Nat.lt_or_ge q (per l) with h1 | h1
  · have := per_hit h0 (by omega) h; omega
  · exact h1
theorem per_pos {l : List UInt8} (h : 0 < l.length) : 1 ≤ per l := by have := lon_le l; unfold per; omega

/-- Place by place. -/
theorem prd_iff {l : List UInt8} {p : Nat} (h : p ≤ l.length) : l.drop p = l.take (l.length - p) ↔ ∀ i, i + p < l.length → l[i + p]? = l[i]? := by
  constructor
  · intro e i hi
    have := congrArg (fun x => x[i]?) e
    simp only [List.getElem?_drop, List.getElem?_take] at this
    rw [if_pos (by omega), Nat.add_comm] at this
    exact this
  · intro hx
    refine List.ext_getElem? fun i => ?_
    rw [List.getElem?_drop, List.getElem?_take]
    by_cases hi : i + p < l.length
    · rw [if_pos (by omega), Nat.add_comm]; exact hx i hi
    · rw [if_neg (by omega), List.getElem?_eq_none (by omega)]

/-- The least period goes into each one that is short enough. -/
theorem per_divides {l : List UInt8} (hl : 0 < l.length) : ∀ (k q : Nat), q ≤ k → 1 ≤ q → per l + q ≤ l.length → (∀ i, i + q < l.length → l[i + q]? = l[i]?) → per l ∣ q
  | 0, q, hk, h0, _, _ => by omega
  | k + 1, q, hk, h0, hs, hq => by
    have hp := (prd_iff (l := l) (p := per l) (by omega)).1 (per_is l)
    have hp0 := per_pos hl
    have hle := per_least h0 ((prd_iff (by omega)).2 hq) (by omega)
    by_cases e : q = per l
    · rw [e]; exact Nat.dvd_refl _
    · have hd := per_divides hl k (q - per l) (by omega) (by omega) (by omega) (fun i hi => by
        by_cases hi2 : i + q < l.length
        · have h1 := hq i hi2
          have h2 := hp (i + (q - per l)) (by omega)
          rw [show i + (q - per l) + per l = i + q by omega] at h2
          rw [← h2, h1]
        · have h1 := hq (i - per l) (by omega)
          have h2 := hp (i - per l) (by omega)
          rw [show i - per l + per l = i by omega] at h2
          rw [show i - per l + q = i + (q - per l) by omega] at h1
          rw [h1, h2])
      have := Nat.dvd_add hd (Nat.dvd_refl (per l))
      rwa [show q - per l + per l = q by omega] at this

/-- Is a text its first n bytes, several times? -/
def wn (l : List UInt8) (n : Nat) : Bool := decide (l.length % n = 0) && (l.drop n == l.take (l.length - n))
def wholeB (l : List UInt8) : Bool := decide (per l < l.length ∧ l.length % per l = 0)
theorem whole_true {l : List UInt8} {n : Nat} (h0 : 1 ≤ n) (hn : n < l.length) (h : wn l n = true) : wholeB l = true := by
  simp only [wn, Bool.and_eq_true, decide_eq_true_iff, beq_iff_eq] at h
  obtain ⟨h1, h2⟩ := h
  have hle := per_least h0 h2 (by omega)
  obtain ⟨q, hq⟩ := Nat.dvd_of_mod_eq_zero h1
  have hq2 : 2 ≤ q := by
    rcases q with _ | _ | q
    · omega
    · omega
    · omega
  have := Nat.mul_le_mul_left n hq2
  have hd := per_divides (by omega) n n (Nat.le_refl _) h0 (by omega) ((prd_iff (by omega)).1 h2)
  unfold wholeB
  rw [decide_eq_true_iff]
  exact ⟨by omega, Nat.mod_eq_zero_of_dvd (Nat.dvd_trans hd ⟨q, hq⟩)⟩
theorem whole_false {l : List UInt8} (h : ∀ n, 1 ≤ n → n < l.length → wn l n = false) : wholeB l = false := by
  unfold wholeB
  rw [decide_eq_false_iff_not]
  rintro ⟨h1, h2⟩
  have := h (per l) (per_pos (by omega)) h1
  simp only [wn, h2, decide_true, Bool.true_and, beq_eq_false_iff_ne] at this
  exact this (per_is l)

/-- A text so many times. -/
def rep (u : List UInt8) : Nat → List UInt8
  | 0 => []
  | j + 1 => rep u j ++ u
theorem rep_length (u : List UInt8) : ∀ j, (rep u j).length = j * u.length
  | 0 => by simp [rep]
  | j + 1 => by rw [rep, List.length_append, rep_length u j, Nat.add_mul, Nat.one_mul]
theorem rep_front (u : List UInt8) : ∀ j, u ++ rep u j = rep u (j + 1)
  | 0 => by simp [rep]
  | j + 1 => by rw [rep, ← List.append_assoc, rep_front u j]; rfl
theorem rep_period {l : List UInt8} {n : Nat} (hn : n ≤ l.length) (h : l.drop n = l.take (l.length - n)) : ∀ j, j * n ≤ l.length → rep (l.take n) j = l.take (j * n)
  | 0, _ => by simp [rep]
  | j + 1, hj => by
    rw [Nat.add_mul, Nat.one_mul] at hj
    rw [← rep_front, rep_period hn h j (by omega), Nat.add_mul, Nat.one_mul, Nat.add_comm, List.take_add, h, take_take_le l (by omega)]
theorem rep_is {l : List UInt8} {n j : Nat} (h0 : 1 ≤ n) (hn : n ≤ l.length) (h1 : l.length ≤ j * n) (h2 : j = 0 ∨ (j - 1) * n < l.length) : (rep (l.take n) j == l) = wn l n := by
  have hul := len_take l hn
  rw [Bool.eq_iff_iff, beq_iff_eq, wn, Bool.and_eq_true, decide_eq_true_iff, beq_iff_eq]
  constructor
  · intro e
    have hl := rep_length (l.take n) j
    rw [e, hul] at hl
    refine ⟨by rw [hl]; exact Nat.mul_mod_left _ _, ?_⟩
    obtain ⟨i, rfl⟩ : ∃ i, j = i + 1 := ⟨j - 1, by
      rcases j with _ | j
      · omega
      · rfl⟩
    have hr := rep_length (l.take n) i
    rw [hul] at hr
    rw [Nat.add_mul, Nat.one_mul] at hl
    have e1 : l.drop n = rep (l.take n) i := by
      have := congrArg (List.drop n) ((rep_front (l.take n) i).trans e)
      rw [← this]
      exact List.drop_left' hul
    have e2 : l.take (l.length - n) = rep (l.take n) i := by
      have := congrArg (List.take (l.length - n)) (show rep (l.take n) i ++ l.take n = l from e)
      rw [← this]
      exact List.take_left' (by omega)
    rw [e1, e2]
  · rintro ⟨e1, e2⟩
    obtain ⟨q, hq⟩ := Nat.dvd_of_mod_eq_zero e1
    rw [Nat.mul_comm] at hq
    have hjq : q = j := by
      have a : q ≤ j := Nat.le_of_mul_le_mul_right (by omega : q * n ≤ j * n) h0
      rcases h2 with h2 | h2
      · omega
      · have : j - 1 < q := Nat.lt_of_mul_lt_mul_right (by omega : (j - 1) * n < q * n)
        omega
    subst hjq
    rw [rep_period hn e2 q (by omega), ← hq, List.take_length]

/-! reach -/
def rc (a b : List UInt8) (m : Nat) : Bool := decide (m ≤ a.length) && (a.drop (a.length - m) == b.take m)
theorem rc_iff {a b : List UInt8} {m : Nat} (hm : m ≤ b.length) : rc a b m = decide (m ≤ b.length ∧ b.take m <:+ a) := by
  rw [Bool.eq_iff_iff, rc, Bool.and_eq_true, decide_eq_true_iff, beq_iff_eq, decide_eq_true_iff]
  constructor
  · rintro ⟨h1, h2⟩
    exact ⟨hm, by rw [← h2]; exact List.drop_suffix _ _⟩
  · rintro ⟨_, h2⟩
    refine ⟨suf_len hm h2, ?_⟩
    have := List.suffix_iff_eq_drop.1 h2
    rw [len_take b hm] at this
    exact this.symm
theorem rch_is (a b : List UInt8) : mx (rc a b) b.length = endK b a := mx_congr _ (fun i _ hi => rc_iff hi)
theorem rch_cut (a b : List UInt8) (n : Nat) (ha : n ≤ a.length) (hb : n ≤ b.length) (hn : a.length ≤ n ∨ b.length ≤ n) : endK (b.take n) (a.drop (a.length - n)) = endK b a := by
  have hbl := len_take b hb
  have had : (a.drop (a.length - n)).length = n := by rw [List.length_drop]; omega
  have hk := endK_le b a
  have hka := endK_len b a
  refine endK_is ?_ ?_ (fun i hi hs => ?_)
  · omega
  · rw [take_take_le b (by omega)]
    exact suf_cmp (endK_suf b a) (List.drop_suffix _ _) (by rw [had, len_take b (by omega)]; omega)
  · rw [take_take_le b (by omega)] at hs
    exact endK_max (by omega) (hs.trans (List.drop_suffix _ _))

/-! places -/
/-- The places at which t stands in the first m bytes of s. -/
def fnd (s t : List UInt8) : Nat → List Int
  | 0 => []
  | m + 1 => fnd s t m ++ if t <:+ s.take (m + 1) then [((m + 1 - t.length : Nat) : Int)] else []
theorem fnd_next (s t : List UInt8) (m : Nat) : fnd s t (m + 1) = fnd s t m ++ if t <:+ s.take (m + 1) then [((m + 1 - t.length : Nat) : Int)] else [] := rfl
theorem fnd_hit {s t : List UInt8} {m : Nat} (h : t <:+ s.take (m + 1)) : fnd s t (m + 1) = fnd s t m ++ [((m + 1 - t.length : Nat) : Int)] := by rw [fnd_next, if_pos h]
theorem fnd_miss {s t : List UInt8} {m : Nat} (h : ¬ t <:+ s.take (m + 1)) : fnd s t (m + 1) = fnd s t m := by rw [fnd_next, if_neg h, List.append_nil]
theorem fnd_short {s t : List UInt8} : ∀ {m : Nat}, m < t.length → fnd s t m = []
  | 0, _ => rfl
  | m + 1, h => by
    rw [fnd_miss, fnd_short (by omega)]
    intro hs
    have := hs.length_le
    rw [List.length_take] at this
    omega
theorem fnd_over {s t : List UInt8} (h : s.length < t.length) : ∀ m, fnd s t m = []
  | 0 => rfl
  | m + 1 => by
    rw [fnd_miss, fnd_over h m]
    intro hs
    have := hs.length_le
    rw [List.length_take] at this
    omega
theorem fnd_mem {s t : List UInt8} : ∀ m, ∀ x ∈ fnd s t m, ∃ j : Nat, x = (j : Int) ∧ (m ≤ s.length → j + t.length ≤ m ∧ t <:+ s.take (j + t.length))
  | 0, x, h => by simp [fnd] at h
  | m + 1, x, h => by
    by_cases hs : t <:+ s.take (m + 1)
    · rw [fnd_hit hs, List.mem_append, List.mem_singleton] at h
      rcases h with h | h
      · obtain ⟨j, a, b⟩ := fnd_mem m x h
        exact ⟨j, a, fun hm => by have := b (by omega); exact ⟨by omega, this.2⟩⟩
      · refine ⟨_, h, fun hm => ?_⟩
        have := hs.length_le
        rw [len_take s hm] at this
        rw [Nat.sub_add_cancel this]
        exact ⟨Nat.le_refl _, hs⟩
    · rw [fnd_miss hs] at h
      obtain ⟨j, a, b⟩ := fnd_mem m x h
      exact ⟨j, a, fun hm => by have := b (by omega); exact ⟨by omega, this.2⟩⟩
theorem fnd_rises {s t : List UInt8} : ∀ m, m ≤ s.length → (fnd s t m).Pairwise (fun x y => x < y)
  | 0, _ => List.Pairwise.nil
  | m + 1, hm => by
    by_cases hs : t <:+ s.take (m + 1)
    · rw [fnd_hit hs]
      refine List.pairwise_append.2 ⟨fnd_rises m (by omega), List.pairwise_singleton _ _, fun x hx y hy => ?_⟩
      obtain ⟨j, a, b⟩ := fnd_mem m x hx
      have := b (by omega)
      have := hs.length_le
      rw [len_take s hm] at this
      rw [List.mem_singleton] at hy
      omega
    · rw [fnd_miss hs]; exact fnd_rises m (by omega)
theorem fnd_length (s t : List UInt8) : ∀ m, (fnd s t m).length ≤ m
  | 0 => Nat.le_refl _
  | m + 1 => by
    have := fnd_length s t m
    rw [fnd_next, List.length_append]
    split <;> simp <;> omega
theorem stands_iff {s t : List UInt8} {i : Nat} (h : i + t.length ≤ s.length) : (s.take (i + t.length)).drop i = t ↔ t <:+ s.take (i + t.length) := by
  rw [List.suffix_iff_eq_drop, len_take s h, Nat.add_sub_cancel]
  exact eq_comm
/-- Where a text stands twice, overlapping, the places differ by a period of it. -/
theorem twice {s t : List UInt8} {j p : Nat} (h1 : t <:+ s.take (j + t.length)) (h2 : t <:+ s.take (j + p + t.length)) (hs : j + p + t.length ≤ s.length) (hp : p ≤ t.length) : t.drop p = t.take (t.length - p) := by
  have g : ∀ k, k + t.length ≤ s.length → t <:+ s.take (k + t.length) → ∀ i, i < t.length → t[i]? = s[k + i]? := fun k hk hx i hi => by
    have := congrArg (fun x => x[i]?) ((stands_iff hk).2 hx)
    simp only [List.getElem?_drop, List.getElem?_take] at this
    rw [if_pos (by omega)] at this
    exact this.symm
  refine (prd_iff hp).2 (fun i hi => ?_)
  rw [g j (by omega) h1 (i + p) hi, g (j + p) hs h2 i (by omega)]
  congr 1; omega
end Go.Proofs.Ytjmaccflnfaiiaa

namespace Go.Proofs.Ytjmaccflnfaiiaa

/-- The least number below n of which p holds, else n. -/
def mn (p : Nat → Bool) : Nat → Nat
  | 0 => 0
  | n + 1 => if mn p n < n ∨ p n = true then mn p n else n + 1
theorem mn_spec (p : Nat → Bool) : ∀ n, mn p n ≤ n ∧ (∀ d, d < mn p n → p d = false) ∧ (mn p n < n → p (mn p n) = true)
  | 0 => ⟨Nat.le_refl _, fun d h => by simp [mn] at h, fun h => by simp [mn] at h⟩
  | n + 1 => by
    obtain ⟨h1, h2, h3⟩ := mn_spec p n
    unfold mn
    by_cases hq : mn p n < n ∨ p n = true
    · rw [if_pos hq]
      refine ⟨by omega, h2, fun _ => ?_⟩
      rcases Nat.lt_or_ge (mn p n) n with h | h
      · exact h3 h
      · rcases hq with h' | h'
        · omega
        · rw [show mn p n = n by omega]; exact h'
    · rw [if_neg hq]
      have e : mn p n = n := by
        rcases Nat.lt_or_ge (mn p n) n with h | h
        · exact absurd (.inl h) hq
        · omega
      refine ⟨Nat.le_refl _, fun d hd => ?_, fun h => by omega⟩
      rcases Nat.lt_or_ge d n with h | h
      · exact h2 d (by omega)
      · rw [show d = n by omega]
        cases hp : p n with
        | false => rfl
        | true => exact absurd (.inr hp) hq
theorem mn_le (p : Nat → Bool) (n : Nat) : mn p n ≤ n := (mn_spec p n).1
theorem mn_is {p : Nat → Bool} {n r : Nat} (h1 : r ≤ n) (h2 : ∀ d, d < r → p d = false) (h3 : r < n → p r = true) : mn p n = r := by
  obtain ⟨a, b, c⟩ := mn_spec p n
  rcases Nat.lt_trichotomy (mn p n) r with h | h | h
  · have x := h2 _ h
    rw [c (by omega)] at x
    cases x
  · exact h
  · have x := b _ h
    rw [h3 (by omega)] at x
    cases x
theorem mn_congr {p q : Nat → Bool} {n : Nat} (h : ∀ d, d < n → p d = q d) : mn p n = mn q n := by
  obtain ⟨a, b, c⟩ := mn_spec q n
  exact mn_is a (fun d hd => by rw [h d (by omega)]; exact b d hd) (fun hl => by rw [h _ hl]; exact c hl)
theorem mn_none {p : Nat → Bool} {n : Nat} (h : ∀ d, d < n → p d = false) : mn p n = n := mn_is (Nat.le_refl _) h (fun h => by omega)
theorem mn_or {p q : Nat → Bool} {n j : Nat} (hj : j < n) (hq : ∀ d, q d = (p d || decide (d = j))) : mn q n = min (mn p n) j := by
  obtain ⟨a, b, c⟩ := mn_spec p n
  refine mn_is (by omega) (fun d hd => ?_) (fun hl => ?_)
  · rw [hq, b d (by omega), decide_eq_false (by omega)]; rfl
  · rw [hq]
    rcases Nat.lt_or_ge (mn p n) j with h | h
    · rw [show min (mn p n) j = mn p n by omega, c (by omega)]; rfl
    · rw [show min (mn p n) j = j by omega, decide_eq_true rfl, Bool.or_true]

/-- Has a text the byte at this distance from its end? -/
def atD (t : List UInt8) (c d : Nat) : Bool := decide (d < t.length) && ((t.getD (t.length - 1 - d) 0).toNat == c)
/-- .. one of the texts? -/
def hasD (ws : List (List UInt8)) (c d : Nat) : Bool := ws.any fun t => atD t c d
/-- A byte's shift. -/
def fstL (ws : List (List UInt8)) (c : Nat) : Nat := mn (hasD ws c) (leastR ws)

/-- The shifts behind the first j distances of one more text. -/
def lowF (F : Nat → Nat) (t : List UInt8) : Nat → Nat → Nat
  | 0, c => F c
  | j + 1, c => if atD t c j = true then min (lowF F t j c) j else lowF F t j c
theorem low_mn {F : Nat → Nat} {p : Nat → Nat → Bool} {t : List UInt8} {m : Nat} (h : ∀ c, F c = mn (p c) m) : ∀ j, j ≤ m → ∀ c, lowF F t j c = mn (fun d => p c d || (decide (d < j) && atD t c d)) m
  | 0, _, c => by
    rw [lowF, h]
    exact mn_congr fun d _ => by simp
  | j + 1, hj, c => by
    rw [lowF, low_mn h j (by omega) c]
    by_cases hq : atD t c j = true
    · rw [if_pos hq]
      refine (mn_or (by omega) fun d => ?_).symm
      rcases Nat.lt_trichotomy d j with hd | hd | hd
      · simp [hd, show d < j + 1 by omega, show ¬ d = j by omega]
      · subst hd; simp [hq]
      · simp [show ¬ d < j by omega, show ¬ d < j + 1 by omega, show ¬ d = j by omega]
    · rw [if_neg hq]
      refine mn_congr fun d _ => ?_
      rcases Nat.lt_trichotomy d j with hd | hd | hd
      · simp [hd, show d < j + 1 by omega]
      · subst hd; simp [hq]
      · simp [show ¬ d < j by omega, show ¬ d < j + 1 by omega]
/-- .. behind a whole one. -/
theorem low_done {ws : List (List UInt8)} {k m : Nat} {t : List UInt8} (h : ws[k]? = some t) (c : Nat) : lowF (fun c => mn (hasD (ws.take k) c) m) t m c = mn (hasD (ws.take (k + 1)) c) m := by
  have hlt := (List.getElem?_eq_some_iff.1 h).1
  have ht := (List.getElem?_eq_some_iff.1 h).2
  rw [low_mn (p := fun c => hasD (ws.take k) c) (fun c => rfl) m (Nat.le_refl _) c]
  refine mn_congr fun d hd => ?_
  unfold hasD
  rw [List.take_succ_eq_append_getElem hlt, List.any_append, ht]
  simp [hd]
theorem low_start (m c : Nat) : mn (hasD [] c) m = m := mn_none fun d _ => rfl
theorem low_keep {F : Nat → Nat} {t : List UInt8} {j c : Nat} (h : ¬ atD t c j = true) : lowF F t (j + 1) c = lowF F t j c := if_neg h
theorem low_hit {F : Nat → Nat} {t : List UInt8} {j c : Nat} (h : atD t c j = true) : lowF F t (j + 1) c = min (lowF F t j c) j := if_pos h
theorem low_le {F : Nat → Nat} {t : List UInt8} {m : Nat} (h : ∀ c, F c ≤ m) : ∀ j c, lowF F t j c ≤ m
  | 0, c => h c
  | j + 1, c => by
    have := low_le (t := t) h j c
    rw [lowF]; split <;> omega
theorem at_iff {t : List UInt8} {c d : Nat} (h : d < t.length) : atD t c d = true ↔ (t.getD (t.length - 1 - d) 0).toNat = c := by
  unfold atD
  rw [decide_eq_true h, Bool.true_and, beq_iff_eq]

theorem least_mem {ws : List (List UInt8)} : ∀ {n : Nat} {t : List UInt8}, t ∈ ws → ws.foldl (fun n t => min n t.length) n ≤ t.length := by
  have low : ∀ (ws : List (List UInt8)) (n : Nat), ws.foldl (fun n t => min n t.length) n ≤ n := by
    intro ws
    induction ws with
    | nil => intro n; exact Nat.le_refl _
    | cons a r ih => intro n; exact Nat.le_trans (ih _) (Nat.min_le_left _ _)
  induction ws with
  | nil => intro n t h; cases h
  | cons a r ih =>
    intro n t h
    rcases List.mem_cons.1 h with rfl | h
    · exact Nat.le_trans (low r _) (Nat.min_le_right _ _)
    · exact ih h
theorem leastR_le {ws : List (List UInt8)} {t : List UInt8} (h : t ∈ ws) : leastR ws ≤ t.length := by
  unfold leastR
  split
  · omega
  · exact least_mem h
theorem leastR_nil : leastR [] = 0 := rfl
theorem fst_le (ws : List (List UInt8)) (c : Nat) : fstL ws c ≤ leastR ws := mn_le _ _
theorem fst_nil (c : Nat) : fstL [] c = 0 := by have := fst_le [] c; rw [leastR_nil] at this; omega

/-- One of a text's bytes. -/
def byN (s : List UInt8) (i : Nat) : Nat := (s.getD i 0).toNat
/-- The ends from e on; f more are looked at. -/
def endG (F : Nat → Nat) (s : List UInt8) : Nat → Nat → List Int
  | 0, _ => []
  | f + 1, e => if e ≤ s.length then (if F (byN s (e - 1)) = 0 then [(e : Int)] else []) ++ endG F s f (e + max (F (byN s (e - 1))) 1) else []
def endL (F : Nat → Nat) (m : Nat) (s : List UInt8) : List Int := if m = 0 then [] else endG F s (s.length + 1) m
theorem end_over {F : Nat → Nat} {s : List UInt8} {e : Nat} (h : s.length < e) : ∀ f, endG F s f e = []
  | 0 => rfl
  | f + 1 => by rw [endG, if_neg (by omega)]
theorem end_hit {F : Nat → Nat} {s : List UInt8} {e f : Nat} (h : e ≤ s.length) (hn : F (byN s (e - 1)) = 0) : endG F s (f + 1) e = (e : Int) :: endG F s f (e + 1) := by
  rw [endG, if_pos h, if_pos hn, hn]; rfl
theorem end_miss {F : Nat → Nat} {s : List UInt8} {e f n : Nat} (h : e ≤ s.length) (hn : F (byN s (e - 1)) = n) (h0 : 0 < n) : endG F s (f + 1) e = endG F s f (e + n) := by
  rw [endG, if_pos h, if_neg (by omega), hn, Nat.max_eq_left (by omega)]; rfl
theorem end_length (F : Nat → Nat) (s : List UInt8) : ∀ f e, (endG F s f e).length ≤ f
  | 0, _ => Nat.le_refl _
  | f + 1, e => by
    have := end_length F s f (e + max (F (byN s (e - 1))) 1)
    rw [endG]
    split
    · split <;> simp <;> omega
    · simp
theorem endL_length (F : Nat → Nat) (m : Nat) (s : List UInt8) : (endL F m s).length ≤ s.length + 1 := by
  unfold endL
  split
  · simp
  · exact end_length F s _ _
theorem endL_none (F : Nat → Nat) (s : List UInt8) : endL F 0 s = [] := if_pos rfl
theorem endL_some {F : Nat → Nat} {m : Nat} {s : List UInt8} (h : 0 < m) : endL F m s = endG F s (s.length + 1) m := if_neg (by omega)

theorem suf_at {s t : List UInt8} {E d : Nat} (hE : E ≤ s.length) (h : t <:+ s.take E) (hd : d < t.length) : t.getD (t.length - 1 - d) 0 = s.getD (E - 1 - d) 0 := by
  obtain ⟨r, hr⟩ := h
  have hl : r.length + t.length = E := by
    have := congrArg List.length hr
    rw [List.length_append, List.length_take] at this
    omega
  have h1 : (s.take E)[E - 1 - d]? = t[t.length - 1 - d]? := by
    rw [← hr, List.getElem?_append_right (by omega)]
    congr 1; omega
  rw [List.getElem?_take_of_lt (by omega)] at h1
  simp only [List.getD, h1]
/-- Behind an end ahead of which a byte of shift n stands no pattern ends, up to n - 1 bytes. -/
theorem fst_clears {ws : List (List UInt8)} {s t : List UInt8} {e E : Nat} (ht : t ∈ ws) (hE : E ≤ s.length) (hs : t <:+ s.take E) (he : 0 < e) (h1 : e ≤ E) (h2 : E < e + fstL ws (byN s (e - 1))) : False := by
  have hle := fst_le ws (byN s (e - 1))
  have hm := leastR_le ht
  have h3 := (mn_spec (hasD ws (byN s (e - 1))) (leastR ws)).2.1 (E - e) (by unfold fstL at h2; omega)
  have h4 : atD t (byN s (e - 1)) (E - e) = true := by
    rw [at_iff (by omega), suf_at hE hs (by omega)]
    unfold byN
    congr 2; omega
  have h5 : hasD ws (byN s (e - 1)) (E - e) = true := List.any_eq_true.2 ⟨t, ht, h4⟩
  rw [h5] at h3
  cases h3
/-- .. so that each pattern ends where it is told. -/
theorem end_has {ws : List (List UInt8)} {s t : List UInt8} {E : Nat} (ht : t ∈ ws) (hE : E ≤ s.length) (hs : t <:+ s.take E) : ∀ (f e : Nat), 0 < e → e ≤ E → s.length + 1 ≤ e + f → (E : Int) ∈ endG (fstL ws) s f e
  | 0, e, he, h1, h2 => by omega
  | f + 1, e, he, h1, h2 => by
    have hc : ¬ E < e + fstL ws (byN s (e - 1)) := fun h => fst_clears ht hE hs he h1 h
    by_cases h0 : fstL ws (byN s (e - 1)) = 0
    · rw [end_hit (by omega) h0]
      rcases Nat.lt_or_ge e E with h | h
      · exact List.mem_cons_of_mem _ (end_has ht hE hs f (e + 1) (by omega) (by omega) (by omega))
      · rw [show E = e by omega]; exact List.mem_cons_self
    · rw [end_miss (by omega) rfl (by omega)]
      exact end_has ht hE hs f _ (by omega) (by omega) (by omega)
theorem endL_has {ws : List (List UInt8)} {s t : List UInt8} {E : Nat} (h0 : 0 < leastR ws) (ht : t ∈ ws) (hE : E ≤ s.length) (hs : t <:+ s.take E) (hl : t.length ≤ E) : (E : Int) ∈ endL (fstL ws) (leastR ws) s := by
  rw [endL_some h0]
  have := leastR_le ht
  exact end_has ht hE hs _ _ h0 (by omega) (by omega)
theorem leastR_pos {ws : List (List UInt8)} {t : List UInt8} (ht : t ∈ ws) (h : ∀ t ∈ ws, 0 < t.length) : 0 < leastR ws := by
  have low : ∀ (ws : List (List UInt8)) (n : Nat), 0 < n → (∀ t ∈ ws, 0 < t.length) → 0 < ws.foldl (fun n t => min n t.length) n := by
    intro ws
    induction ws with
    | nil => intro n h _; exact h
    | cons a r ih =>
      intro n hn ha
      have := ha a List.mem_cons_self
      exact ih _ (Nat.lt_min.2 ⟨hn, this⟩) (fun t ht => ha t (List.mem_cons_of_mem _ ht))
  unfold leastR
  split
  · rename_i hl
    rw [List.length_eq_zero_iff.1 hl] at ht; cases ht
  · exact low ws _ (by omega) h
end Go.Proofs.Ytjmaccflnfaiiaa

namespace Go.Proofs.Ytjmaccflnfaiiaa

/-- Two bytes, as one number. -/
def two (x y : Nat) : Nat := x * 256 + y
theorem two_lt {x y : Nat} (hx : x < 256) (hy : y < 256) : two x y < 65536 := by unfold two; omega
theorem two_inj {x y u v : Nat} (hy : y < 256) (hv : v < 256) (h : two x y = two u v) : x = u ∧ y = v := by unfold two at h; omega
theorem two_low {x y : Nat} (hy : y < 256) : two x y % 256 = y := by unfold two; omega

/-- The two bytes at this distance from a text's end. -/
def prN (t : List UInt8) (d : Nat) : Nat := two (t.getD (t.length - 2 - d) 0).toNat (t.getD (t.length - 1 - d) 0).toNat
/-- Has a text these two at this distance? -/
def at2 (t : List UInt8) (c d : Nat) : Bool := decide (d + 1 < t.length) && (prN t d == c)
/-- .. one of the texts? -/
def has2 (ws : List (List UInt8)) (c d : Nat) : Bool := ws.any fun t => at2 t c d
/-- The greatest shift. -/
def farL (ws : List (List UInt8)) : Nat := leastR ws - 1
/-- A pair's shift. -/
def nearL (ws : List (List UInt8)) (c : Nat) : Nat := mn (has2 ws c) (farL ws)
theorem near_le (ws : List (List UInt8)) (c : Nat) : nearL ws c ≤ farL ws := mn_le _ _
theorem far_nil : farL [] = 0 := rfl
theorem near_nil (c : Nat) : nearL [] c = 0 := by have := near_le [] c; rw [far_nil] at this; omega
theorem at2_iff {t : List UInt8} {c d : Nat} (h : d + 1 < t.length) : at2 t c d = true ↔ prN t d = c := by
  unfold at2
  rw [decide_eq_true h, Bool.true_and, beq_iff_eq]
theorem prN_lt (t : List UInt8) (d : Nat) : prN t d < 65536 := two_lt (UInt8.toNat_lt _) (UInt8.toNat_lt _)

/-- The shifts behind the first j distances of one more text. -/
def lowP (F : Nat → Nat) (t : List UInt8) : Nat → Nat → Nat
  | 0, c => F c
  | j + 1, c => if at2 t c j = true then min (lowP F t j c) j else lowP F t j c
theorem lowp_mn {F : Nat → Nat} {p : Nat → Nat → Bool} {t : List UInt8} {m : Nat} (h : ∀ c, F c = mn (p c) m) : ∀ j, j ≤ m → ∀ c, lowP F t j c = mn (fun d => p c d || (decide (d < j) && at2 t c d)) m
  | 0, _, c => by
    rw [lowP, h]
    exact mn_congr fun d _ => by simp
  | j + 1, hj, c => by
    rw [lowP, lowp_mn h j (by omega) c]
    by_cases hq : at2 t c j = true
    · rw [if_pos hq]
      refine (mn_or (by omega) fun d => ?_).symm
      rcases Nat.lt_trichotomy d j with hd | hd | hd
      · simp [hd, show d < j + 1 by omega, show ¬ d = j by omega]
      · subst hd; simp [hq]
      · simp [show ¬ d < j by omega, show ¬ d < j + 1 by omega, show ¬ d = j by omega]
    · rw [if_neg hq]
      refine mn_congr fun d _ => ?_
      rcases Nat.lt_trichotomy d j with hd | hd | hd
      · simp [hd, show d < j + 1 by omega]
      · subst hd; simp [hq]
      · simp [show ¬ d < j by omega, show ¬ d < j + 1 by omega]
/-- .. behind a whole one. -/
theorem lowp_done {ws : List (List UInt8)} {k m : Nat} {t : List UInt8} (h : ws[k]? = some t) (c : Nat) : lowP (fun c => mn (has2 (ws.take k) c) m) t m c = mn (has2 (ws.take (k + 1)) c) m := by
  have hlt := (List.getElem?_eq_some_iff.1 h).1
  have ht := (List.getElem?_eq_some_iff.1 h).2
  rw [lowp_mn (p := fun c => has2 (ws.take k) c) (fun c => rfl) m (Nat.le_refl _) c]
  refine mn_congr fun d hd => ?_
  unfold has2
  rw [List.take_succ_eq_append_getElem hlt, List.any_append, ht]
  simp [hd]
theorem lowp_start (m c : Nat) : mn (has2 [] c) m = m := mn_none fun d _ => rfl
theorem lowp_keep {F : Nat → Nat} {t : List UInt8} {j c : Nat} (h : ¬ at2 t c j = true) : lowP F t (j + 1) c = lowP F t j c := if_neg h
theorem lowp_hit {F : Nat → Nat} {t : List UInt8} {j c : Nat} (h : at2 t c j = true) : lowP F t (j + 1) c = min (lowP F t j c) j := if_pos h
theorem lowp_le {F : Nat → Nat} {t : List UInt8} {m : Nat} (h : ∀ c, F c ≤ m) : ∀ j c, lowP F t j c ≤ m
  | 0, c => h c
  | j + 1, c => by
    have := lowp_le (t := t) h j c
    rw [lowP]; split <;> omega

/-- The two bytes of a text that are the last ones up to an end. -/
def prS (s : List UInt8) (e : Nat) : Nat := two (byN s (e - 2)) (byN s (e - 1))
/-- Behind an end ahead of which two bytes of shift n stand no pattern ends, up to n - 1 bytes. -/
theorem near_clears {ws : List (List UInt8)} {s t : List UInt8} {e E : Nat} (ht : t ∈ ws) (hE : E ≤ s.length) (hs : t <:+ s.take E) (he : 2 ≤ e) (h1 : e ≤ E) (h2 : E < e + nearL ws (prS s e)) : False := by
  have hle := near_le ws (prS s e)
  have hm := leastR_le ht
  have hd : E - e + 1 < t.length := by unfold farL at hle; omega
  have h3 := (mn_spec (has2 ws (prS s e)) (farL ws)).2.1 (E - e) (by unfold nearL at h2; omega)
  have h4 : at2 t (prS s e) (E - e) = true := by
    rw [at2_iff hd]
    have a1 := suf_at (d := E - e) hE hs (by omega)
    have a2 := suf_at (d := E - e + 1) hE hs (by omega)
    rw [show t.length - 1 - (E - e + 1) = t.length - 2 - (E - e) by omega, show E - 1 - (E - e + 1) = e - 2 by omega] at a2
    rw [show E - 1 - (E - e) = e - 1 by omega] at a1
    unfold prN prS byN
    rw [a1, a2]
  have h5 : has2 ws (prS s e) (E - e) = true := List.any_eq_true.2 ⟨t, ht, h4⟩
  rw [h5] at h3
  cases h3
/-- Two bytes' shift is no less than the second one's, or as great as may be. -/
theorem near_second {ws : List (List UInt8)} {x y : Nat} (hy : y < 256) (h : nearL ws (two x y) < farL ws) : fstL ws y ≤ nearL ws (two x y) := by
  obtain ⟨h1, h2, h3⟩ := mn_spec (has2 ws (two x y)) (farL ws)
  have h4 := h3 h
  obtain ⟨t, ht, ha⟩ := List.any_eq_true.1 h4
  have hm := leastR_le ht
  have hn : mn (has2 ws (two x y)) (farL ws) = nearL ws (two x y) := rfl
  rw [hn] at ha
  generalize nearL ws (two x y) = n at h ha ⊢
  have hd : n + 1 < t.length := by unfold farL at h; omega
  rw [at2_iff hd] at ha
  have hb := (two_inj (UInt8.toNat_lt _) hy ha).2
  have hat : hasD ws y n = true := List.any_eq_true.2 ⟨t, ht, (at_iff (by omega)).2 hb⟩
  rcases Nat.lt_or_ge n (fstL ws y) with hl | hl
  · have := (mn_spec (hasD ws y) (leastR ws)).2.1 n hl
    rw [hat] at this
    cases this
  · exact hl

/-- So many numbers have it. -/
def IsCount (p : Nat → Prop) (n : Nat) : Prop := ∃ L : List Nat, L.Nodup ∧ L.length = n ∧ ∀ c, c ∈ L ↔ p c
theorem IsCount.one {p q : Nat → Prop} {m n : Nat} (h : IsCount p m) (h' : IsCount q n) (e : ∀ c, p c ↔ q c) : m = n := by
  obtain ⟨L, hL, rfl, h⟩ := h
  obtain ⟨M, hM, rfl, h'⟩ := h'
  exact ((List.perm_ext_iff_of_nodup hL hM).2 fun c => (h c).trans ((e c).trans (h' c).symm)).length_eq
theorem IsCount.none : IsCount (fun _ => False) 0 := ⟨[], List.nodup_nil, rfl, fun c => ⟨fun h => (by cases h), fun h => False.elim h⟩⟩
theorem IsCount.congr {p q : Nat → Prop} {n : Nat} (h : IsCount p n) (e : ∀ c, p c ↔ q c) : IsCount q n := by
  obtain ⟨L, hL, hn, h⟩ := h
  exact ⟨L, hL, hn, fun c => (h c).trans (e c)⟩
theorem IsCount.snoc {p : Nat → Prop} {n c : Nat} (h : IsCount p n) (hc : ¬ p c) : IsCount (fun d => p d ∨ d = c) (n + 1) := by
  obtain ⟨L, hL, rfl, h⟩ := h
  refine ⟨c :: L, List.nodup_cons.2 ⟨fun hm => hc ((h c).1 hm), hL⟩, rfl, fun d => ?_⟩
  rw [List.mem_cons, h d]
  exact Or.comm
/-- How many pairs stand near an end. -/
def IsLen (ws : List (List UInt8)) (n : Nat) : Prop := IsCount (fun c => nearL ws c < farL ws) n
theorem len_nil : IsLen [] 0 := by
  refine IsCount.congr IsCount.none fun c => ⟨fun h => False.elim h, fun h => ?_⟩
  rw [far_nil] at h
  omega
end Go.Proofs.Ytjmaccflnfaiiaa

namespace Go.Proofs.Ytjmaccflnfaiiaa

/-- A hit: its end, its number. -/
abbrev Ht := Int × Int

/-- Does a text end at an end of a text? -/
def stB (p s : List UInt8) (e : Nat) : Bool := decide (e ≤ s.length) && decide (p <:+ s.take e)
theorem st_iff {p s : List UInt8} {e : Nat} : stB p s e = true ↔ e ≤ s.length ∧ p <:+ s.take e := by
  unfold stB
  rw [Bool.and_eq_true, decide_eq_true_eq, decide_eq_true_eq]
theorem st_len {p s : List UInt8} {e : Nat} (h : stB p s e = true) : p.length ≤ e ∧ e ≤ s.length := by
  obtain ⟨h1, h2⟩ := st_iff.1 h
  have := h2.length_le
  rw [len_take s h1] at this
  exact ⟨this, h1⟩
theorem st_cut {p s : List UInt8} {e : Nat} (h1 : p.length ≤ e) (h2 : e ≤ s.length) : stB p s e = ((s.take e).drop (e - p.length) == p) := by
  rw [Bool.eq_iff_iff, st_iff, beq_iff_eq, List.suffix_iff_eq_drop, len_take s h2]
  exact ⟨fun h => h.2.symm, fun h => ⟨h2, h.symm⟩⟩
theorem st_no {p s : List UInt8} {e : Nat} (h : e < p.length ∨ s.length < e) : stB p s e = false := by
  rw [Bool.eq_false_iff]
  intro hh
  have := st_len hh
  omega
theorem st_app (p s t : List UInt8) {e : Nat} (h : e ≤ s.length) : stB p (s ++ t) e = stB p s e := by
  rw [Bool.eq_iff_iff, st_iff, st_iff, List.take_append_of_le_length h, List.length_append]
  exact ⟨fun x => ⟨h, x.2⟩, fun x => ⟨by omega, x.2⟩⟩

/-- The numbers of the first k patterns that end at an end. -/
def idsK (us : List (List UInt8)) (s : List UInt8) (e : Nat) : Nat → List Int
  | 0 => []
  | k + 1 => idsK us s e k ++ if stB (us.getD k []) s e then [(k : Int)] else []
theorem ids_hit {us : List (List UInt8)} {s t : List UInt8} {e k : Nat} (h : us[k]? = some t) (hs : stB t s e = true) : idsK us s e (k + 1) = idsK us s e k ++ [(k : Int)] := by
  simp [idsK, List.getD, h, hs]
theorem ids_miss {us : List (List UInt8)} {s t : List UInt8} {e k : Nat} (h : us[k]? = some t) (hs : stB t s e = false) : idsK us s e (k + 1) = idsK us s e k := by
  simp [idsK, List.getD, h, hs]
theorem ids_mem (us : List (List UInt8)) (s : List UInt8) (e : Nat) : ∀ (n : Nat) (x : Int), x ∈ idsK us s e n ↔ ∃ k : Nat, x = (k : Int) ∧ k < n ∧ stB (us.getD k []) s e = true
  | 0, x => by simp [idsK]
  | n + 1, x => by
    rw [idsK, List.mem_append, ids_mem us s e n x]
    constructor
    · rintro (⟨k, a, b, c⟩ | h)
      · exact ⟨k, a, by omega, c⟩
      · split at h
        · rename_i hs
          rw [List.mem_singleton] at h
          exact ⟨n, h, by omega, hs⟩
        · cases h
    · rintro ⟨k, a, b, c⟩
      by_cases hk : k = n
      · subst hk
        exact .inr (by rw [if_pos c, a]; exact List.mem_singleton.2 rfl)
      · exact .inl ⟨k, a, by omega, c⟩
theorem ids_rise (us : List (List UInt8)) (s : List UInt8) (e : Nat) : ∀ n, (idsK us s e n).Pairwise fun x y => x < y
  | 0 => List.Pairwise.nil
  | n + 1 => by
    rw [idsK]
    refine List.pairwise_append.2 ⟨ids_rise us s e n, ?_, fun x hx y hy => ?_⟩
    · split
      · exact List.pairwise_singleton _ _
      · exact List.Pairwise.nil
    · obtain ⟨k, a, b, _⟩ := (ids_mem us s e n x).1 hx
      split at hy
      · rw [List.mem_singleton] at hy; omega
      · cases hy
theorem ids_length (us : List (List UInt8)) (s : List UInt8) (e : Nat) : ∀ n, (idsK us s e n).length ≤ n
  | 0 => Nat.le_refl _
  | n + 1 => by
    have := ids_length us s e n
    rw [idsK, List.length_append]
    split <;> simp <;> omega
theorem ids_none {us : List (List UInt8)} {s : List UInt8} {e : Nat} (h : s.length < e) : ∀ n, idsK us s e n = []
  | 0 => rfl
  | n + 1 => by
    rw [idsK, ids_none h n, st_no (.inr h)]
    rfl
theorem ids_app (us : List (List UInt8)) (s t : List UInt8) {e : Nat} (h : e ≤ s.length) : ∀ n, idsK us (s ++ t) e n = idsK us s e n
  | 0 => rfl
  | n + 1 => by rw [idsK, idsK, ids_app us s t h n, st_app _ _ _ h]

/-- The numbers of all patterns that end at an end. -/
def atZ (us : List (List UInt8)) (s : List UInt8) (e : Int) : List Int := if 0 ≤ e ∧ e ≤ (s.length : Int) then idsK us s e.toNat us.length else []
theorem atZ_in {us : List (List UInt8)} {s : List UInt8} {e : Nat} (h : e ≤ s.length) : atZ us s (e : Int) = idsK us s e us.length := by
  unfold atZ
  rw [if_pos ⟨by omega, by omega⟩, Int.toNat_natCast]
theorem atZ_out {us : List (List UInt8)} {s : List UInt8} {e : Int} (h : e < 0 ∨ (s.length : Int) < e) : atZ us s e = [] := by
  unfold atZ
  rw [if_neg (by omega)]
theorem atZ_length (us : List (List UInt8)) (s : List UInt8) (e : Int) : (atZ us s e).length ≤ us.length := by
  unfold atZ
  split
  · exact ids_length _ _ _ _
  · exact Nat.zero_le _

/-- The hits with an end, of the first k patterns. -/
def hitE (us : List (List UInt8)) (s : List UInt8) (e k : Nat) : List Ht := (idsK us s e k).map fun i => ((e : Int), i)
theorem hitE_hit {us : List (List UInt8)} {s t : List UInt8} {e k : Nat} (h : us[k]? = some t) (hs : stB t s e = true) : hitE us s e (k + 1) = hitE us s e k ++ [((e : Int), (k : Int))] := by
  unfold hitE
  rw [ids_hit h hs, List.map_append]; rfl
theorem hitE_miss {us : List (List UInt8)} {s t : List UInt8} {e k : Nat} (h : us[k]? = some t) (hs : stB t s e = false) : hitE us s e (k + 1) = hitE us s e k := by
  unfold hitE
  rw [ids_miss h hs]
/-- The hits whose ends are less than n. -/
def hitK (us : List (List UInt8)) (s : List UInt8) : Nat → List Ht
  | 0 => []
  | n + 1 => hitK us s n ++ hitE us s n us.length
theorem hitK_next (us : List (List UInt8)) (s : List UInt8) (n : Nat) : hitK us s (n + 1) = hitK us s n ++ hitE us s n us.length := rfl
/-- All hits. -/
def hitL (us : List (List UInt8)) (s : List UInt8) : List Ht := hitK us s (s.length + 1)

theorem hitE_length (us : List (List UInt8)) (s : List UInt8) (e k : Nat) : (hitE us s e k).length ≤ k := by
  unfold hitE
  rw [List.length_map]
  exact ids_length _ _ _ _
theorem hitK_length (us : List (List UInt8)) (s : List UInt8) : ∀ n, (hitK us s n).length ≤ n * us.length
  | 0 => by simp [hitK]
  | n + 1 => by
    have h1 := hitK_length us s n
    have h2 := hitE_length us s n us.length
    rw [hitK, List.length_append, Nat.succ_mul]
    omega
theorem hitK_mem (us : List (List UInt8)) (s : List UInt8) : ∀ (n : Nat) (x : Ht), x ∈ hitK us s n ↔ ∃ e k : Nat, x = ((e : Int), (k : Int)) ∧ e < n ∧ k < us.length ∧ stB (us.getD k []) s e = true
  | 0, x => by simp [hitK]
  | n + 1, x => by
    rw [hitK, List.mem_append, hitK_mem us s n x]
    unfold hitE
    simp only [List.mem_map, ids_mem]
    constructor
    · rintro (⟨e, k, a, b, c, d⟩ | ⟨i, ⟨k, rfl, b, c⟩, rfl⟩)
      · exact ⟨e, k, a, by omega, c, d⟩
      · exact ⟨n, k, rfl, by omega, b, c⟩
    · rintro ⟨e, k, a, b, c, d⟩
      by_cases he : e = n
      · subst he
        exact .inr ⟨k, ⟨k, rfl, c, d⟩, a.symm⟩
      · exact .inl ⟨e, k, a, by omega, c, d⟩

/-- Does a hit come ahead of another one? -/
def ahB (a b : Ht) : Bool := decide (a.1 < b.1) || (decide (a.1 = b.1) && decide (a.2 < b.2))
theorem ah_iff {a b : Ht} : ahB a b = true ↔ a.1 < b.1 ∨ (a.1 = b.1 ∧ a.2 < b.2) := by
  unfold ahB
  simp only [Bool.or_eq_true, Bool.and_eq_true, decide_eq_true_eq]
/-- Which of two comes first. -/
def cfH (a b : Ht) : Int := if a = b then 0 else if ahB a b then -1 else 1
theorem cf_same {a b : Ht} (h : a = b) : cfH a b = 0 := if_pos h
theorem cf_ah {a b : Ht} (h : ahB a b = true) : cfH a b = -1 := by
  unfold cfH
  rw [if_neg ?_, if_pos h]
  rintro rfl
  have := ah_iff.1 h
  omega
theorem cf_else {a b : Ht} (h0 : ¬ a = b) (h : ahB a b = false) : cfH a b = 1 := by
  unfold cfH
  rw [if_neg h0, if_neg (by rw [h]; decide)]
theorem cf_neg {a b : Ht} : cfH a b < 0 ↔ ahB a b = true := by
  constructor
  · intro h
    unfold cfH at h
    split at h
    · omega
    · split at h
      · assumption
      · omega
  · intro h
    rw [cf_ah h]; omega

/-- Is each ahead of the one behind it? -/
def riseB : List Ht → Bool
  | [] => true
  | [_] => true
  | a :: b :: r => ahB a b && riseB (b :: r)
theorem rise_of : ∀ {l : List Ht}, l.Pairwise (fun x y => ahB x y = true) → riseB l = true
  | [], _ => rfl
  | [_], _ => rfl
  | a :: b :: r, h => by
    rw [riseB, Bool.and_eq_true]
    cases h with
    | cons h1 h2 => exact ⟨h1 b List.mem_cons_self, rise_of h2⟩
theorem rise_yes : ∀ {l : List Ht}, (∀ k a b, l[k]? = some a → l[k + 1]? = some b → ahB a b = true) → riseB l = true
  | [], _ => rfl
  | [_], _ => rfl
  | a :: b :: r, h => by
    rw [riseB, Bool.and_eq_true]
    exact ⟨h 0 a b rfl rfl, rise_yes (fun k x y hx hy => h (k + 1) x y (by simpa using hx) (by simpa using hy))⟩
theorem rise_no : ∀ {l : List Ht} {k : Nat} {a b : Ht}, l[k]? = some a → l[k + 1]? = some b → ahB a b = false → riseB l = false
  | [], k, a, b, h, _, _ => by simp at h
  | [_], k, a, b, _, h, _ => by simp at h
  | x :: y :: r, 0, a, b, h1, h2, h => by
    simp at h1 h2
    subst h1 h2
    rw [riseB, h]; rfl
  | x :: y :: r, k + 1, a, b, h1, h2, h => by
    have := rise_no (l := y :: r) (k := k) (a := a) (b := b) (by simpa using h1) (by simpa using h2) h
    rw [riseB, this, Bool.and_false]

theorem hitE_rise (us : List (List UInt8)) (s : List UInt8) (e k : Nat) : (hitE us s e k).Pairwise fun x y => ahB x y = true := by
  unfold hitE
  rw [List.pairwise_map]
  refine List.Pairwise.imp ?_ (ids_rise us s e k)
  intro a b h
  exact ah_iff.2 (.inr ⟨rfl, h⟩)
theorem hitK_rise (us : List (List UInt8)) (s : List UInt8) : ∀ n, (hitK us s n).Pairwise fun x y => ahB x y = true
  | 0 => List.Pairwise.nil
  | n + 1 => by
    rw [hitK]
    refine List.pairwise_append.2 ⟨hitK_rise us s n, hitE_rise us s n _, fun x hx y hy => ?_⟩
    obtain ⟨e, k, rfl, h, _⟩ := (hitK_mem us s n x).1 hx
    unfold hitE at hy
    obtain ⟨i, _, rfl⟩ := List.mem_map.1 hy
    exact ah_iff.2 (.inl (by show (e : Int) < (n : Int); omega))
theorem hit_rise (us : List (List UInt8)) (s : List UInt8) : (hitL us s).Pairwise fun x y => ahB x y = true := hitK_rise us s _
theorem ah_irr (a : Ht) : ahB a a = false := by
  rw [Bool.eq_false_iff]
  intro h
  have := ah_iff.1 h
  omega
theorem ah_asym {a b : Ht} (h1 : ahB a b = true) (h2 : ahB b a = true) : False := by
  have := ah_iff.1 h1
  have := ah_iff.1 h2
  omega
theorem nodup_rise {l : List Ht} (h : l.Pairwise fun x y => ahB x y = true) : l.Nodup := by
  refine h.imp ?_
  rintro a b hh rfl
  rw [ah_irr] at hh
  cases hh

/-! the places of each pattern -/
/-- The hits of the first k patterns, pattern by pattern, by their places. -/
def rawK (us : List (List UInt8)) (F : List UInt8 → List Int) : Nat → List Ht
  | 0 => []
  | k + 1 => rawK us F k ++ (F (us.getD k [])).map fun p => (p + ((us.getD k []).length : Int), (k : Int))
theorem raw_next {us : List (List UInt8)} {F : List UInt8 → List Int} {k : Nat} {t : List UInt8} (h : us[k]? = some t) : rawK us F (k + 1) = rawK us F k ++ (F t).map fun p => (p + (t.length : Int), (k : Int)) := by
  simp [rawK, List.getD, h]

theorem fnd_mem_iff {s t : List UInt8} (ht : 0 < t.length) : ∀ m, m ≤ s.length → ∀ x : Int, x ∈ fnd s t m ↔ ∃ j : Nat, x = (j : Int) ∧ j + t.length ≤ m ∧ t <:+ s.take (j + t.length)
  | 0, _, x => by
    simp only [fnd, List.not_mem_nil, false_iff]
    rintro ⟨j, _, h, _⟩
    omega
  | m + 1, hm, x => by
    have ih := fnd_mem_iff (s := s) ht m (by omega) x
    by_cases hs : t <:+ s.take (m + 1)
    · have hl := hs.length_le
      rw [len_take s hm] at hl
      rw [fnd_hit hs, List.mem_append, List.mem_singleton, ih]
      constructor
      · rintro (⟨j, a, b, c⟩ | h)
        · exact ⟨j, a, by omega, c⟩
        · exact ⟨_, h, by omega, by rw [Nat.sub_add_cancel hl]; exact hs⟩
      · rintro ⟨j, a, b, c⟩
        by_cases hj : j + t.length = m + 1
        · exact .inr (by rw [a]; congr 1; omega)
        · exact .inl ⟨j, a, by omega, c⟩
    · rw [fnd_miss hs, ih]
      constructor
      · rintro ⟨j, a, b, c⟩
        exact ⟨j, a, by omega, c⟩
      · rintro ⟨j, a, b, c⟩
        refine ⟨j, a, ?_, c⟩
        by_cases hj : j + t.length = m + 1
        · rw [hj] at c; exact absurd c hs
        · omega

theorem getD_some {us : List (List UInt8)} {k : Nat} (h : k < us.length) : us[k]? = some (us.getD k []) ∧ us.getD k [] ∈ us := by
  rw [List.getD_eq_getElem?_getD, List.getElem?_eq_getElem h]
  exact ⟨rfl, List.getElem_mem _⟩

theorem raw_mem {us : List (List UInt8)} {s : List UInt8} (hu : ∀ t ∈ us, 0 < t.length) : ∀ (n : Nat), n ≤ us.length → ∀ x : Ht, x ∈ rawK us (fun t => fnd s t s.length) n ↔ ∃ e k : Nat, x = ((e : Int), (k : Int)) ∧ e < s.length + 1 ∧ k < n ∧ stB (us.getD k []) s e = true
  | 0, _, x => by simp [rawK]
  | n + 1, hn, x => by
    have hp := hu _ (getD_some (show n < us.length by omega)).2
    rw [rawK, List.mem_append, raw_mem hu n (by omega) x, List.mem_map]
    constructor
    · rintro (⟨e, k, a, b, c, d⟩ | ⟨p, hp2, rfl⟩)
      · exact ⟨e, k, a, b, by omega, d⟩
      · obtain ⟨j, rfl, h1, h2⟩ := (fnd_mem_iff hp _ (Nat.le_refl _) p).1 hp2
        exact ⟨j + (us.getD n []).length, n, by simp, by omega, by omega, st_iff.2 ⟨h1, h2⟩⟩
    · rintro ⟨e, k, a, b, c, d⟩
      by_cases hk : k = n
      · subst hk
        obtain ⟨h1, h2⟩ := st_iff.1 d
        have h3 := (st_len d).1
        refine .inr ⟨((e - (us.getD k []).length : Nat) : Int), (fnd_mem_iff hp _ (Nat.le_refl _) _).2 ⟨e - (us.getD k []).length, rfl, by omega, by rw [Nat.sub_add_cancel h3]; exact h2⟩, ?_⟩
        rw [a]
        congr 1
        omega
      · exact .inl ⟨e, k, a, b, by omega, d⟩
theorem raw_nodup {us : List (List UInt8)} {s : List UInt8} (hu : ∀ t ∈ us, 0 < t.length) : ∀ (n : Nat), n ≤ us.length → (rawK us (fun t => fnd s t s.length) n).Nodup
  | 0, _ => List.nodup_nil
  | n + 1, hn => by
    rw [rawK]
    refine List.nodup_append.2 ⟨raw_nodup hu n (by omega), ?_, fun x hx y hy => ?_⟩
    · refine List.pairwise_map.2 ((fnd_rises s.length (Nat.le_refl _)).imp ?_)
      intro a b h e
      have := (Prod.mk.inj e).1
      omega
    · obtain ⟨e, k, rfl, _, hk, _⟩ := (raw_mem hu n (by omega) x).1 hx
      obtain ⟨p, _, rfl⟩ := List.mem_map.1 hy
      intro e
      have := (Prod.mk.inj e).2
      omega
theorem raw_perm {us : List (List UInt8)} {s : List UInt8} (hu : ∀ t ∈ us, 0 < t.length) : (rawK us (fun t => fnd s t s.length) us.length).Perm (hitL us s) :=
  (List.perm_ext_iff_of_nodup (raw_nodup hu _ (Nat.le_refl _)) (nodup_rise (hit_rise us s))).2 (fun x => by
    rw [raw_mem hu _ (Nat.le_refl _) x]
    unfold hitL
    rw [hitK_mem])

/-- Hits in order. -/
def srtH (l : List Ht) : List Ht := l.mergeSort fun x y => !decide (cfH y x < 0)
theorem srtH_length (l : List Ht) : (srtH l).length = l.length := (List.mergeSort_perm l _).length_eq
theorem nah_trans {a b c : Ht} (h1 : ahB b a = false) (h2 : ahB c b = false) : ahB c a = false := by
  rw [Bool.eq_false_iff] at *
  intro h
  have := ah_iff.1 h
  have n1 : ¬ (b.1 < a.1 ∨ (b.1 = a.1 ∧ b.2 < a.2)) := fun h => h1 (ah_iff.2 h)
  have n2 : ¬ (c.1 < b.1 ∨ (c.1 = b.1 ∧ c.2 < b.2)) := fun h => h2 (ah_iff.2 h)
  omega
theorem nah_eq {a b : Ht} (h1 : ahB b a = false) (h2 : ahB a b = false) : a = b := by
  rw [Bool.eq_false_iff] at *
  have n1 : ¬ (b.1 < a.1 ∨ (b.1 = a.1 ∧ b.2 < a.2)) := fun h => h1 (ah_iff.2 h)
  have n2 : ¬ (a.1 < b.1 ∨ (a.1 = b.1 ∧ a.2 < b.2)) := fun h => h2 (ah_iff.2 h)
  obtain ⟨a1, a2⟩ := a
  obtain ⟨b1, b2⟩ := b
  simp only at n1 n2
  rw [show a1 = b1 by omega, show a2 = b2 by omega]
theorem nah_total (a b : Ht) : ahB b a = false ∨ ahB a b = false := by
  cases h : ahB b a with
  | false => exact .inl rfl
  | true =>
    right
    rw [Bool.eq_false_iff]
    exact fun h2 => ah_asym h h2
theorem neg_ah (a b : Ht) : (!decide (cfH b a < 0)) = !ahB b a := by
  congr 1
  rw [Bool.eq_iff_iff, decide_eq_true_eq]
  exact cf_neg
theorem srtH_is {l m : List Ht} (hp : l.Perm m) (hm : m.Pairwise fun x y => ahB x y = true) : srtH l = m := by
  unfold srtH
  refine List.Perm.eq_of_pairwise (le := fun x y => ahB y x = false) (fun a b _ _ h1 h2 => nah_eq h1 h2) ?_ ?_ ((List.mergeSort_perm l _).trans hp)
  · have := List.pairwise_mergeSort (le := fun x y : Ht => !decide (cfH y x < 0)) (fun a b c h1 h2 => by
      rw [neg_ah] at *
      simp only [Bool.not_eq_true'] at *
      exact nah_trans h1 h2) (fun a b => by
      rw [neg_ah, neg_ah]
      rcases nah_total a b with h | h <;> simp [h]) l
    refine this.imp ?_
    intro a b h
    rw [neg_ah] at h
    simpa using h
  · refine hm.imp ?_
    intro a b h
    rw [Bool.eq_false_iff]
    exact fun h2 => ah_asym h h2

/-! counts -/
/-- How many of the first n ends have it. -/
def cntE (p s : List UInt8) : Nat → Nat
  | 0 => 0
  | n + 1 => cntE p s n + if stB p s n then 1 else 0
theorem cntE_next (p s : List UInt8) (n : Nat) : cntE p s (n + 1) = cntE p s n + if stB p s n then 1 else 0 := rfl
theorem cntE_le (p s : List UInt8) : ∀ n, cntE p s n ≤ n
  | 0 => Nat.le_refl _
  | n + 1 => by
    have := cntE_le p s n
    rw [cntE]
    split <;> omega
theorem cnt_fnd {p s : List UInt8} (hp : 0 < p.length) : ∀ n, n ≤ s.length → (fnd s p n).length = cntE p s (n + 1)
  | 0, _ => by rw [cntE, cntE, st_no (.inl hp)]; rfl
  | n + 1, hn => by
    rw [cntE_next, ← cnt_fnd hp n (by omega)]
    by_cases hs : p <:+ s.take (n + 1)
    · rw [fnd_hit hs, st_iff.2 ⟨hn, hs⟩, List.length_append]; rfl
    · rw [fnd_miss hs, if_neg (fun h => hs (st_iff.1 h).2)]; rfl
/-- Of each of the first k patterns, how many hits it has. -/
def cntL (us : List (List UInt8)) (F : List UInt8 → List Int) (k : Nat) : List Int := (us.take k).map fun t => ((F t).length : Int)
theorem cntL_next {us : List (List UInt8)} {F : List UInt8 → List Int} {k : Nat} {t : List UInt8} (h : us[k]? = some t) : cntL us F (k + 1) = cntL us F k ++ [((F t).length : Int)] := by
  obtain ⟨hk, rfl⟩ := List.getElem?_eq_some_iff.1 h
  unfold cntL
  rw [List.take_succ_eq_append_getElem hk, List.map_append]; rfl

/-! a longer text, a set without its last pattern -/
theorem hitK_app (us : List (List UInt8)) (s t : List UInt8) : ∀ n, n ≤ s.length + 1 → hitK us (s ++ t) n = hitK us s n
  | 0, _ => rfl
  | n + 1, hn => by
    rw [hitK, hitK, hitK_app us s t n (by omega), hitE, hitE, ids_app us s t (by omega)]
theorem hitK_grow (us : List (List UInt8)) (s : List UInt8) (n : Nat) : ∀ m, ∃ r, hitK us s (n + m) = hitK us s n ++ r ∧ ∀ x ∈ r, (n : Int) ≤ x.1
  | 0 => ⟨[], by simp, by simp⟩
  | m + 1 => by
    obtain ⟨r, h1, h2⟩ := hitK_grow us s n m
    refine ⟨r ++ hitE us s (n + m) us.length, by rw [← Nat.add_assoc, hitK, h1, List.append_assoc], fun x hx => ?_⟩
    rcases List.mem_append.1 hx with h | h
    · exact h2 x h
    · obtain ⟨i, _, rfl⟩ := List.mem_map.1 h
      show (n : Int) ≤ ((n + m : Nat) : Int)
      omega
theorem hit_grow (us : List (List UInt8)) (s t : List UInt8) : ∃ r, hitL us (s ++ t) = hitL us s ++ r ∧ ∀ x ∈ r, (s.length : Int) < x.1 := by
  obtain ⟨r, h1, h2⟩ := hitK_grow us (s ++ t) (s.length + 1) t.length
  refine ⟨r, ?_, fun x hx => ?_⟩
  · unfold hitL
    rw [List.length_append, show s.length + t.length + 1 = s.length + 1 + t.length by omega, h1, hitK_app us s t _ (Nat.le_refl _)]
  · have := h2 x hx
    omega

theorem ids_less (us : List (List UInt8)) (u s : List UInt8) (e : Nat) : ∀ n, n ≤ us.length → idsK (us ++ [u]) s e n = idsK us s e n
  | 0, _ => rfl
  | n + 1, h => by
    rw [idsK, idsK, ids_less us u s e n (by omega)]
    congr 2
    simp [List.getD, List.getElem?_append_left (show n < us.length by omega)]
theorem hitE_less (us : List (List UInt8)) (u s : List UInt8) (e : Nat) : (hitE (us ++ [u]) s e (us.length + 1)).filter (fun h => decide (h.2 < (us.length : Int))) = hitE us s e us.length := by
  unfold hitE
  rw [idsK, ids_less us u s e _ (Nat.le_refl _), List.map_append, List.filter_append]
  rw [List.filter_eq_self.2 (by
    intro x hx
    obtain ⟨i, hi, rfl⟩ := List.mem_map.1 hx
    obtain ⟨k, rfl, h, _⟩ := (ids_mem us s e _ i).1 hi
    simp only [decide_eq_true_eq]
    omega)]
  rw [List.filter_eq_nil_iff.2 (by
    intro x hx
    obtain ⟨i, hi, rfl⟩ := List.mem_map.1 hx
    split at hi
    · rw [List.mem_singleton] at hi
      simp [hi]
    · cases hi), List.append_nil]
theorem hitK_less (us : List (List UInt8)) (u s : List UInt8) : ∀ n, (hitK (us ++ [u]) s n).filter (fun h => decide (h.2 < (us.length : Int))) = hitK us s n
  | 0 => rfl
  | n + 1 => by
    rw [hitK, hitK, List.filter_append, hitK_less us u s n, List.length_append, List.length_singleton, hitE_less]
theorem hit_less (us : List (List UInt8)) (u s : List UInt8) : (hitL (us ++ [u]) s).filter (fun h => decide (h.2 < (us.length : Int))) = hitL us s := hitK_less us u s _

theorem filter_snoc (p : Ht → Bool) {l : List Ht} {k : Nat} {h : Ht} (hk : l[k]? = some h) : (l.take (k + 1)).filter p = (l.take k).filter p ++ if p h then [h] else [] := by
  obtain ⟨h1, rfl⟩ := List.getElem?_eq_some_iff.1 hk
  rw [List.take_succ_eq_append_getElem h1, List.filter_append]
  congr 1
  rw [List.filter_cons, List.filter_nil]
end Go.Proofs.Ytjmaccflnfaiiaa
