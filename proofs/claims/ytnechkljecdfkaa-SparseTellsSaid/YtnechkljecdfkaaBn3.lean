/-
  Texts put together: BdM, ShM, ClM, DnM, SpM.
-/
import Derived.Lib.Hide
import Derived.Test.YtnechkljecdfkaaBn1
import Derived.Test.YtnechkljecdfkaaBn2
import Derived.Laws.CopyOwn
set_option linter.unusedSimpArgs false
set_option linter.unusedVariables false
namespace Go.Proofs.Ytnechkljecdfkaa

/-- The greatest number up to n of which p holds, or 0. -/
def mx (p : Nat → Bool) : Nat → Nat
  | 0 => 0
  | n + 1 => if p (n + 1) then n + 1 else mx p n

theorem mx_le (p : Nat → Bool) : ∀ n, mx p n ≤ n
  | 0 => Nat.le_refl _
  | n + 1 => by
    have := mx_le p n
    unfold mx
    split <;> omega
theorem mx_holds (p : Nat → Bool) : ∀ n, mx p n = 0 ∨ p (mx p n) = true
  | 0 => .inl rfl
  | n + 1 => by
    have := mx_holds p n
    unfold mx
    split
    · rename_i h; exact .inr h
    · exact this
theorem mx_max (p : Nat → Bool) : ∀ n i, i ≤ n → p i = true → i ≤ mx p n
  | 0, i, hi, _ => hi
  | n + 1, i, hi, h => by
    unfold mx
    split
    · exact hi
    · rename_i hn
      by_cases e : i = n + 1
      · subst e; exact absurd h hn
      · exact mx_max p n i (by omega) h
theorem mx_is {p : Nat → Bool} {n m : Nat} (h1 : m ≤ n) (h2 : m = 0 ∨ p m = true) (h3 : ∀ i, i ≤ n → p i = true → i ≤ m) : mx p n = m := by
  have b := mx_le p n
  refine Nat.le_antisymm ?_ ?_
  · rcases mx_holds p n with a | a
    · omega
    · exact h3 _ b a
  · rcases h2 with h | h
    · omega
    · exact mx_max p n m h1 h
theorem mx_congr {p q : Nat → Bool} : ∀ n, (∀ i, 0 < i → i ≤ n → p i = q i) → mx p n = mx q n
  | 0, _ => rfl
  | n + 1, h => by
    unfold mx
    rw [h (n + 1) (by omega) (Nat.le_refl _), mx_congr n (fun i h0 hi => h i h0 (by omega))]
theorem mx_next (p : Nat → Bool) (n : Nat) : mx p (n + 1) = if p (n + 1) then n + 1 else mx p n := rfl

/-- The numbers up to n of which p holds, the greatest first. -/
def dn (p : Nat → Bool) : Nat → List Int
  | 0 => []
  | n + 1 => if p (n + 1) then ((n + 1 : Nat) : Int) :: dn p n else dn p n
theorem dn_next (p : Nat → Bool) (n : Nat) : dn p (n + 1) = if p (n + 1) then ((n + 1 : Nat) : Int) :: dn p n else dn p n := rfl
theorem dn_mx (p : Nat → Bool) : ∀ n, dn p n = dn p (mx p n)
  | 0 => rfl
  | n + 1 => by
    rw [mx_next]
    split
    · rfl
    · rename_i h
      rw [dn_next, if_neg h]
      exact dn_mx p n
theorem dn_mem (p : Nat → Bool) : ∀ n, ∀ x ∈ dn p n, ∃ j : Nat, x = (j : Int) ∧ 0 < j ∧ j ≤ n ∧ p j = true
  | 0, x, h => by simp [dn] at h
  | n + 1, x, h => by
    rw [dn_next] at h
    have := dn_mem p n x
    split at h
    · rename_i hp
      rcases List.mem_cons.1 h with e | h
      · exact ⟨n + 1, e, by omega, Nat.le_refl _, hp⟩
      · obtain ⟨j, a, b, c, d⟩ := this h
        exact ⟨j, a, b, by omega, d⟩
    · obtain ⟨j, a, b, c, d⟩ := this h
      exact ⟨j, a, b, by omega, d⟩
theorem dn_falls (p : Nat → Bool) : ∀ n, (dn p n).Pairwise (fun x y => y < x)
  | 0 => List.Pairwise.nil
  | n + 1 => by
    rw [dn_next]
    split
    · refine List.Pairwise.cons (fun y hy => ?_) (dn_falls p n)
      obtain ⟨j, a, _, c, _⟩ := dn_mem p n y hy
      omega
    · exact dn_falls p n
theorem dn_length (p : Nat → Bool) : ∀ n, (dn p n).length ≤ n
  | 0 => Nat.le_refl _
  | n + 1 => by
    have := dn_length p n
    rw [dn_next]
    split
    · rw [List.length_cons]; omega
    · omega
/-- The first one, if there is any. -/
theorem dn_head (p : Nat → Bool) : ∀ n, (dn p n = [] ∧ mx p n = 0) ∨ ∃ r, dn p n = (mx p n : Int) :: r
  | 0 => .inl ⟨rfl, rfl⟩
  | n + 1 => by
    rw [dn_next, mx_next]
    split
    · exact .inr ⟨_, rfl⟩
    · exact dn_head p n

/-! suffixes -/
theorem snoc_suf {a u : List UInt8} {x c : UInt8} : a ++ [x] <:+ u ++ [c] ↔ a <:+ u ∧ x = c := by
  rw [← List.reverse_prefix, List.reverse_append, List.reverse_append]
  simp only [List.reverse_cons, List.reverse_nil, List.nil_append, List.cons_append, List.cons_prefix_cons, List.reverse_prefix]
  exact And.comm
theorem take_suf {t u : List UInt8} {c : UInt8} {j : Nat} (hj : j < t.length) : t.take (j + 1) <:+ u ++ [c] ↔ t.take j <:+ u ∧ t[j] = c := by
  rw [List.take_succ_eq_append_getElem hj]; exact snoc_suf
theorem suf_len {t u : List UInt8} {k : Nat} (hk : k ≤ t.length) (h : t.take k <:+ u) : k ≤ u.length := by
  have := h.length_le
  rw [List.length_take] at this
  omega
theorem suf_cmp {t u v : List UInt8} (h1 : t <:+ v) (h2 : u <:+ v) (h : t.length ≤ u.length) : t <:+ u := List.suffix_of_suffix_length_le h1 h2 h

/-! the longest border -/
/-- Has a text a border of this length? -/
def bd (l : List UInt8) (n : Nat) : Bool := decide (0 < n ∧ n < l.length) && (l.take n == l.drop (l.length - n))
theorem take_drop_suf {l : List UInt8} {n : Nat} (h : n ≤ l.length) : l.take n = l.drop (l.length - n) ↔ l.take n <:+ l := by
  rw [List.suffix_iff_eq_drop, List.length_take, Nat.min_eq_left h]
theorem bd_iff {l : List UInt8} {n : Nat} : bd l n = true ↔ 0 < n ∧ n < l.length ∧ l.take n <:+ l := by
  unfold bd
  rw [Bool.and_eq_true, decide_eq_true_iff, beq_iff_eq]
  constructor
  · rintro ⟨⟨a, b⟩, c⟩
    exact ⟨a, b, (take_drop_suf (by omega)).1 c⟩
  · rintro ⟨a, b, c⟩
    exact ⟨⟨a, b⟩, (take_drop_suf (by omega)).2 c⟩

/-- How long the longest border is. -/
def lonB (l : List UInt8) : Nat := mx (bd l) (l.length - 1)
theorem lon_le (l : List UInt8) : lonB l ≤ l.length - 1 := mx_le _ _
theorem lon_or (l : List UInt8) : lonB l = 0 ∨ bd l (lonB l) = true := mx_holds _ _
theorem lon_suf (l : List UInt8) : l.take (lonB l) <:+ l := by
  rcases lon_or l with h | h
  · rw [h]; exact List.nil_suffix
  · exact (bd_iff.1 h).2.2
theorem lon_max {l : List UInt8} {i : Nat} (h : bd l i = true) : i ≤ lonB l := mx_max _ _ _ (by have := bd_iff.1 h; omega) h
theorem lon_is {l : List UInt8} {m : Nat} (h1 : m ≤ l.length - 1) (h2 : l.take m <:+ l) (h3 : ∀ i, bd l i = true → i ≤ m) : lonB l = m := by
  refine mx_is h1 ?_ (fun i _ h => h3 i h)
  rcases Nat.eq_zero_or_pos m with h | h
  · exact .inl h
  · exact .inr (bd_iff.2 ⟨h, by omega, h2⟩)

theorem take_take_le (l : List UInt8) {i k : Nat} (h : i ≤ k) : (l.take k).take i = l.take i := by rw [List.take_take, Nat.min_eq_left h]
theorem len_take (l : List UInt8) {k : Nat} (h : k ≤ l.length) : (l.take k).length = k := by rw [List.length_take]; omega

/-- A border of a border, and the other way. -/
theorem bd_take {l : List UInt8} {n i : Nat} (h : bd l n = true) (hi : i < n) : bd (l.take n) i = bd l i := by
  obtain ⟨a, b, c⟩ := bd_iff.1 h
  rw [Bool.eq_iff_iff, bd_iff, bd_iff, len_take l (by omega), take_take_le l (by omega)]
  constructor
  · rintro ⟨h1, h2, h3⟩
    exact ⟨h1, by omega, h3.trans c⟩
  · rintro ⟨h1, h2, h3⟩
    exact ⟨h1, hi, suf_cmp h3 c (by rw [len_take l (by omega), len_take l (by omega)]; omega)⟩

theorem bds_next {l : List UInt8} {n : Nat} (h : bd l n = true) : dn (bd l) n = (n : Int) :: dn (bd l) (lonB (l.take n)) := by
  have h0 := bd_iff.1 h
  obtain ⟨m, rfl⟩ : ∃ m, n = m + 1 := ⟨n - 1, by omega⟩
  rw [dn_next, if_pos h, dn_mx (bd l) m]
  congr 2
  unfold lonB
  rw [len_take l (by omega), Nat.add_sub_cancel]
  exact mx_congr m (fun i _ hi => (bd_take h (by omega)).symm)

/-! with how much of t does u end? -/
def endK (t u : List UInt8) : Nat := mx (fun k => decide (k ≤ t.length ∧ t.take k <:+ u)) t.length
theorem endK_le (t u : List UInt8) : endK t u ≤ t.length := mx_le _ _
theorem endK_suf (t u : List UInt8) : t.take (endK t u) <:+ u := by
  rcases mx_holds (fun k => decide (k ≤ t.length ∧ t.take k <:+ u)) t.length with h | h
  · show t.take (mx _ _) <:+ u
    rw [h]; exact List.nil_suffix
  · exact (of_decide_eq_true h).2
theorem endK_max {t u : List UInt8} {i : Nat} (hi : i ≤ t.length) (h : t.take i <:+ u) : i ≤ endK t u := mx_max _ _ _ hi (decide_eq_true ⟨hi, h⟩)
theorem endK_is {t u : List UInt8} {m : Nat} (h1 : m ≤ t.length) (h2 : t.take m <:+ u) (h3 : ∀ i, i ≤ t.length → t.take i <:+ u → i ≤ m) : endK t u = m :=
  mx_is h1 (.inr (decide_eq_true ⟨h1, h2⟩)) (fun i hi h => h3 i hi (of_decide_eq_true h).2)
theorem endK_len (t u : List UInt8) : endK t u ≤ u.length := suf_len (endK_le t u) (endK_suf t u)
theorem endK_all {t u : List UInt8} : endK t u = t.length ↔ t <:+ u := by
  constructor
  · intro h
    have := endK_suf t u
    rwa [h, List.take_length] at this
  · intro h
    exact Nat.le_antisymm (endK_le t u) (endK_max (Nat.le_refl _) (by rwa [List.take_length]))
theorem endK_congr {t u v : List UInt8} {c : UInt8} (h : ∀ j (hj : j < t.length), t[j] = c → (t.take j <:+ u ↔ t.take j <:+ v)) : endK t (u ++ [c]) = endK t (v ++ [c]) := by
  refine mx_congr _ (fun i h0 hi => ?_)
  obtain ⟨j, rfl⟩ : ∃ j, i = j + 1 := ⟨i - 1, by omega⟩
  congr 1
  rw [take_suf (u := u) (show j < t.length by omega), take_suf (u := v) (show j < t.length by omega)]
  refine propext ⟨?_, ?_⟩
  · rintro ⟨a, b, e⟩; exact ⟨a, (h j _ e).1 b, e⟩
  · rintro ⟨a, b, e⟩; exact ⟨a, (h j _ e).2 b, e⟩
/-- One byte more: what was there ahead of the end is not asked for. -/
theorem endK_step (t u : List UInt8) (c : UInt8) : endK t (u ++ [c]) = endK t (t.take (endK t u) ++ [c]) :=
  endK_congr (fun j hj _ => ⟨fun h => suf_cmp h (endK_suf t u) (by
    have := endK_max (show j ≤ t.length by omega) h
    have := endK_le t u
    rw [len_take t (by omega), len_take t (by omega)]; omega), fun h => h.trans (endK_suf t u)⟩)
theorem endK_hit {t : List UInt8} {k : Nat} {c : UInt8} (hk : k < t.length) (h : t[k] = c) : endK t (t.take k ++ [c]) = k + 1 := by
  rw [← h, ← List.take_succ_eq_append_getElem hk]
  refine endK_is hk (List.suffix_refl _) (fun i hi hs => ?_)
  have := suf_len hi hs
  rwa [len_take t hk] at this
theorem endK_zero {t : List UInt8} {c : UInt8} (h : ∀ (hk : 0 < t.length), t[0] ≠ c) : endK t (t.take 0 ++ [c]) = 0 := by
  refine endK_is (Nat.zero_le _) List.nil_suffix (fun i hi hs => ?_)
  have := suf_len hi hs
  simp at this
  rcases Nat.eq_zero_or_pos i with h0 | h0
  · omega
  · obtain rfl : i = 0 + 1 := by omega
    exact absurd ((take_suf (show 0 < t.length by omega)).1 hs).2 (h (by omega))
theorem endK_fall {t : List UInt8} {k : Nat} {c : UInt8} (h0 : 0 < k) (hk : k ≤ t.length) (h : ∀ (hk : k < t.length), t[k] ≠ c) : endK t (t.take k ++ [c]) = endK t (t.take (lonB (t.take k)) ++ [c]) := by
  have hl := lon_le (t.take k)
  have hs := lon_suf (t.take k)
  rw [len_take t hk] at hl
  rw [take_take_le t (by omega)] at hs
  refine endK_congr (fun j hj e => ⟨fun hx => ?_, fun hx => hx.trans hs⟩)
  have hjk := suf_len (by omega) hx
  rw [len_take t hk] at hjk
  have hne : j ≠ k := fun e2 => h (by omega) (by subst e2; exact e)
  refine suf_cmp hx hs ?_
  rw [len_take t (by omega), len_take t (by omega)]
  rcases Nat.eq_zero_or_pos j with hz | hz
  · omega
  · exact lon_max (bd_iff.2 ⟨hz, by rw [len_take t hk]; omega, by rw [take_take_le t (by omega)]; exact hx⟩)

/-- The table's next number. -/
theorem lon_step {l : List UInt8} {n : Nat} (h0 : 0 < n) (hn : n < l.length) : lonB (l.take (n + 1)) = endK l (l.take (lonB (l.take n)) ++ [l[n]]) := by
  have hl := lon_le (l.take n)
  have hs := lon_suf (l.take n)
  rw [len_take l (by omega)] at hl
  rw [take_take_le l (by omega)] at hs
  have he := endK_len l (l.take (lonB (l.take n)) ++ [l[n]])
  rw [List.length_append, List.length_singleton, len_take l (by omega)] at he
  have hx := List.take_succ_eq_append_getElem hn
  refine lon_is ?_ ?_ (fun i hi => ?_)
  · rw [len_take l hn]; omega
  · rw [take_take_le l (by omega), hx]
    exact (endK_suf l _).trans (snoc_suf.2 ⟨hs, rfl⟩)
  · obtain ⟨a, b, c⟩ := bd_iff.1 hi
    rw [len_take l hn] at b
    rw [take_take_le l (by omega), hx] at c
    obtain ⟨j, rfl⟩ : ∃ j, i = j + 1 := ⟨i - 1, by omega⟩
    obtain ⟨c1, c2⟩ := (take_suf (show j < l.length by omega)).1 c
    refine endK_max (by omega) ((take_suf (show j < l.length by omega)).2 ⟨suf_cmp c1 hs ?_, c2⟩)
    rw [len_take l (by omega), len_take l (by omega)]
    rcases Nat.eq_zero_or_pos j with hz | hz
    · omega
    · exact lon_max (bd_iff.2 ⟨hz, by rw [len_take l (by omega)]; omega, by rw [take_take_le l (by omega)]; exact c1⟩)
theorem lon_none {l : List UInt8} (h : l.length ≤ 1) : lonB l = 0 := by have := lon_le l; omega

/-! tables -/
/-- For each beginning that is shorter than n, its longest border. -/
def tabQ (l : List UInt8) (n : Nat) : List Int := (List.range n).map fun j => (lonB (l.take j) : Int)
theorem tabQ_next (l : List UInt8) (n : Nat) : tabQ l (n + 1) = tabQ l n ++ [(lonB (l.take n) : Int)] := by simp [tabQ, List.range_succ]
theorem tabQ_length (l : List UInt8) (n : Nat) : (tabQ l n).length = n := by simp [tabQ]
theorem tabQ_get (l : List UInt8) (n j : Nat) (h : j < n) : (tabQ l n).getD j 0 = (lonB (l.take j) : Int) := by simp [tabQ, List.getD, h]
/-- The same, and zeros behind. -/
def tabP (l : List UInt8) (n : Nat) : List Int := tabQ l n ++ List.replicate (l.length + 1 - n) 0
theorem tabP_length (l : List UInt8) (n : Nat) (h : n ≤ l.length + 1) : (tabP l n).length = l.length + 1 := by simp [tabP, tabQ_length]; omega
theorem tabP_get (l : List UInt8) (n j : Nat) (h : j < n) : (tabP l n).getD j 0 = (lonB (l.take j) : Int) := by
  have := tabQ_get l n j h
  rw [← this]
  simp [tabP, List.getD, List.getElem?_append, tabQ_length, h]
theorem tabP_zero (l : List UInt8) (h : 0 < l.length + 1) : tabP l 1 = List.replicate (l.length + 1) 0 := by
  rw [show l.length + 1 = (l.length + 1 - 1) + 1 by omega, List.replicate_succ, tabP, show tabQ l 1 = [0] by simp [tabQ, lon_none]]
  simp
theorem tabP_full (l : List UInt8) : tabP l (l.length + 1) = tabQ l (l.length + 1) := by simp [tabP]
theorem tabP_set (l : List UInt8) (n : Nat) (h : n ≤ l.length) : (tabP l n).set n (lonB (l.take n) : Int) = tabP l (n + 1) := by
  rw [tabP, tabP, tabQ_next, List.set_append_right _ _ (by rw [tabQ_length]; exact Nat.le_refl _), tabQ_length, Nat.sub_self, show l.length + 1 - n = (l.length + 1 - (n + 1)) + 1 by omega, List.replicate_succ, List.set_cons_zero, List.append_assoc, List.singleton_append]

/-! periods -/
/-- The least period. -/
def per (l : List UInt8) : Nat := l.length - lonB l
theorem per_border {l : List UInt8} {p : Nat} (h : p ≤ l.length) : l.drop p = l.take (l.length - p) ↔ l.take (l.length - p) <:+ l := by
  rw [← take_drop_suf (by omega), show l.length - (l.length - p) = p by omega]
  exact eq_comm
theorem per_hit {l : List UInt8} {p : Nat} (h0 : 1 ≤ p) (hp : p ≤ per l) (h : l.drop p = l.take (l.length - p)) : p = per l := by
  have hle : p ≤ l.length := Nat.le_trans hp (Nat.sub_le _ _)
  have hs := (per_border hle).1 h
  have hl := lon_le l
  unfold per at hp ⊢
  rcases Nat.eq_zero_or_pos (l.length - p) with hz | hz
  · omega
  · have := lon_max (bd_iff.2 ⟨hz, by omega, hs⟩)
    omega
theorem per_is (l : List UInt8) : l.drop (per l) = l.take (l.length - per l) := by
  have hl := lon_le l
  have hle : per l ≤ l.length := Nat.sub_le _ _
  have e : l.length - per l = lonB l := by unfold per; omega
  rw [per_border hle, e]
  exact lon_suf l
theorem per_miss {l : List UInt8} {p : Nat} (hp : p ≤ per l) (h : ¬ l.drop p = l.take (l.length - p)) : p + 1 ≤ per l := by
  rcases Nat.lt_or_ge p (per l) with h1 | h1
  · exact h1
  · exact absurd (by rw [show p = per l by omega]; exact per_is l) h
theorem per_least {l : List UInt8} {q : Nat} (h0 : 1 ≤ q) (h : l.drop q = l.take (l.length - q)) (hq : q ≤ l.length) : per l ≤ q := by
  rcases Nat.lt_or_ge q (per l) with h1 | h1
  · have := per_hit h0 (by omega) h; omega
  · exact h1
theorem per_pos {l : List UInt8} (h : 0 < l.length) : 1 ≤ per l := by have := lon_le l; unfold per; omega

/-- Place by place. -/
theorem prd_iff {l : List UInt8} {p : Nat} (h : p ≤ l.length) : l.drop p = l.take (l.length - p) ↔ ∀ i, i + p < l.length → l[i + p]? = l[i]? := by
  constructor
  · intro e i hi
    have := congrArg (fun x => x[i]?) e
    simp only [List.getElem?_drop, List.getElem?_take] at this
    rw [if_pos (by omega), Nat.add_comm] at this
    exact this
  · intro hx
    refine List.ext_getElem? fun i => ?_
    rw [List.getElem?_drop, List.getElem?_take]
    by_cases hi : i + p < l.length
    · rw [if_pos (by omega), Nat.add_comm]; exact hx i hi
    · rw [if_neg (by omega), List.getElem?_eq_none (by omega)]

/-- The least period goes into each one that is short enough. -/
theorem per_divides {l : List UInt8} (hl : 0 < l.length) : ∀ (k q : Nat), q ≤ k → 1 ≤ q → per l + q ≤ l.length → (∀ i, i + q < l.length → l[i + q]? = l[i]?) → per l ∣ q
  | 0, q, hk, h0, _, _ => by omega
  | k + 1, q, hk, h0, hs, hq => by
    have hp := (prd_iff (l := l) (p := per l) (by omega)).1 (per_is l)
    have hp0 := per_pos hl
    have hle := per_least h0 ((prd_iff (by omega)).2 hq) (by omega)
    by_cases e : q = per l
    · rw [e]; exact Nat.dvd_refl _
    · have hd := per_divides hl k (q - per l) (by omega) (by omega) (by omega) (fun i hi => by
        by_cases hi2 : i + q < l.length
        · have h1 := hq i hi2
          have h2 := hp (i + (q - per l)) (by omega)
          rw [show i + (q - per l) + per l = i + q by omega] at h2
          rw [← h2, h1]
        · have h1 := hq (i - per l) (by omega)
          have h2 := hp (i - per l) (by omega)
          rw [show i - per l + per l = i by omega] at h2
          rw [show i - per l + q = i + (q - per l) by omega] at h1
          rw [h1, h2])
      have := Nat.dvd_add hd (Nat.dvd_refl (per l))
      rwa [show q - per l + per l = q by omega] at this

/-- Is a text its first n bytes, several times? -/
def wn (l : List UInt8) (n : Nat) : Bool := decide (l.length % n = 0) && (l.drop n == l.take (l.length - n))
def wholeB (l : List UInt8) : Bool := decide (per l < l.length ∧ l.length % per l = 0)
theorem whole_true {l : List UInt8} {n : Nat} (h0 : 1 ≤ n) (hn : n < l.length) (h : wn l n = true) : wholeB l = true := by
  simp only [wn, Bool.and_eq_true, decide_eq_true_iff, beq_iff_eq] at h
  obtain ⟨h1, h2⟩ := h
  have hle := per_least h0 h2 (by omega)
  obtain ⟨q, hq⟩ := Nat.dvd_of_mod_eq_zero h1
  have hq2 : 2 ≤ q := by
    rcases q with _ | _ | q
    · omega
    · omega
    · omega
  have := Nat.mul_le_mul_left n hq2
  have hd := per_divides (by omega) n n (Nat.le_refl _) h0 (by omega) ((prd_iff (by omega)).1 h2)
  unfold wholeB
  rw [decide_eq_true_iff]
  exact ⟨by omega, Nat.mod_eq_zero_of_dvd (Nat.dvd_trans hd ⟨q, hq⟩)⟩
theorem whole_false {l : List UInt8} (h : ∀ n, 1 ≤ n → n < l.length → wn l n = false) : wholeB l = false := by
  unfold wholeB
  rw [decide_eq_false_iff_not]
  rintro ⟨h1, h2⟩
  have := h (per l) (per_pos (by omega)) h1
  simp only [wn, h2, decide_true, Bool.true_and, beq_eq_false_iff_ne] at this
  exact this (per_is l)

/-- A text so many times. -/
def rep (u : List UInt8) : Nat → List UInt8
  | 0 => []
  | j + 1 => rep u j ++ u
theorem rep_length (u : List UInt8) : ∀ j, (rep u j).length = j * u.length
  | 0 => by simp [rep]
  | j + 1 => by rw [rep, List.length_append, rep_length u j, Nat.add_mul, Nat.one_mul]
theorem rep_front (u : List UInt8) : ∀ j, u ++ rep u j = rep u (j + 1)
  | 0 => by simp [rep]
  | j + 1 => by rw [rep, ← List.append_assoc, rep_front u j]; rfl
theorem rep_period {l : List UInt8} {n : Nat} (hn : n ≤ l.length) (h : l.drop n = l.take (l.length - n)) : ∀ j, j * n ≤ l.length → rep (l.take n) j = l.take (j * n)
  | 0, _ => by simp [rep]
  | j + 1, hj => by
    rw [Nat.add_mul, Nat.one_mul] at hj
    rw [← rep_front, rep_period hn h j (by omega), Nat.add_mul, Nat.one_mul, Nat.add_comm, List.take_add, h, take_take_le l (by omega)]
theorem rep_is {l : List UInt8} {n j : Nat} (h0 : 1 ≤ n) (hn : n ≤ l.length) (h1 : l.length ≤ j * n) (h2 : j = 0 ∨ (j - 1) * n < l.length) : (rep (l.take n) j == l) = wn l n := by
  have hul := len_take l hn
  rw [Bool.eq_iff_iff, beq_iff_eq, wn, Bool.and_eq_true, decide_eq_true_iff, beq_iff_eq]
  constructor
  · intro e
    have hl := rep_length (l.take n) j
    rw [e, hul] at hl
    refine ⟨by rw [hl]; exact Nat.mul_mod_left _ _, ?_⟩
    obtain ⟨i, rfl⟩ : ∃ i, j = i + 1 := ⟨j - 1, by
      rcases j with _ | j
      · omega
      · rfl⟩
    have hr := rep_length (l.take n) i
    rw [hul] at hr
    rw [Nat.add_mul, Nat.one_mul] at hl
    have e1 : l.drop n = rep (l.take n) i := by
      have := congrArg (List.drop n) ((rep_front (l.take n) i).trans e)
      rw [← this]
      exact List.drop_left' hul
    have e2 : l.take (l.length - n) = rep (l.take n) i := by
      have := congrArg (List.take (l.length - n)) (show rep (l.take n) i ++ l.take n = l from e)
      rw [← this]
      exact List.take_left' (by omega)
    rw [e1, e2]
  · rintro ⟨e1, e2⟩
    obtain ⟨q, hq⟩ := Nat.dvd_of_mod_eq_zero e1
    rw [Nat.mul_comm] at hq
    have hjq : q = j := by
      have a : q ≤ j := Nat.le_of_mul_le_mul_right (by omega : q * n ≤ j * n) h0
      rcases h2 with h2 | h2
      · omega
      · have : j - 1 < q := Nat.lt_of_mul_lt_mul_right (by omega : (j - 1) * n < q * n)
        omega
    subst hjq
    rw [rep_period hn e2 q (by omega), ← hq, List.take_length]

/-! reach -/
def rc (a b : List UInt8) (m : Nat) : Bool := decide (m ≤ a.length) && (a.drop (a.length - m) == b.take m)
theorem rc_iff {a b : List UInt8} {m : Nat} (hm : m ≤ b.length) : rc a b m = decide (m ≤ b.length ∧ b.take m <:+ a) := by
  rw [Bool.eq_iff_iff, rc, Bool.and_eq_true, decide_eq_true_iff, beq_iff_eq, decide_eq_true_iff]
  constructor
  · rintro ⟨h1, h2⟩
    exact ⟨hm, by rw [← h2]; exact List.drop_suffix _ _⟩
  · rintro ⟨_, h2⟩
    refine ⟨suf_len hm h2, ?_⟩
    have := List.suffix_iff_eq_drop.1 h2
    rw [len_take b hm] at this
    exact this.symm
theorem rch_is (a b : List UInt8) : mx (rc a b) b.length = endK b a := mx_congr _ (fun i _ hi => rc_iff hi)
theorem rch_cut (a b : List UInt8) (n : Nat) (ha : n ≤ a.length) (hb : n ≤ b.length) (hn : a.length ≤ n ∨ b.length ≤ n) : endK (b.take n) (a.drop (a.length - n)) = endK b a := by
  have hbl := len_take b hb
  have had : (a.drop (a.length - n)).length = n := by rw [List.length_drop]; omega
  have hk := endK_le b a
  have hka := endK_len b a
  refine endK_is ?_ ?_ (fun i hi hs => ?_)
  · omega
  · rw [take_take_le b (by omega)]
    exact suf_cmp (endK_suf b a) (List.drop_suffix _ _) (by rw [had, len_take b (by omega)]; omega)
  · rw [take_take_le b (by omega)] at hs
    exact endK_max (by omega) (hs.trans (List.drop_suffix _ _))

/-! places -/
/-- The places at which t stands in the first m bytes of s. -/
def fnd (s t : List UInt8) : Nat → List Int
  | 0 => []
  | m + 1 => fnd s t m ++ if t <:+ s.take (m + 1) then [((m + 1 - t.length : Nat) : Int)] else []
theorem fnd_next (s t : List UInt8) (m : Nat) : fnd s t (m + 1) = fnd s t m ++ if t <:+ s.take (m + 1) then [((m + 1 - t.length : Nat) : Int)] else [] := rfl
theorem fnd_hit {s t : List UInt8} {m : Nat} (h : t <:+ s.take (m + 1)) : fnd s t (m + 1) = fnd s t m ++ [((m + 1 - t.length : Nat) : Int)] := by rw [fnd_next, if_pos h]
theorem fnd_miss {s t : List UInt8} {m : Nat} (h : ¬ t <:+ s.take (m + 1)) : fnd s t (m + 1) = fnd s t m := by rw [fnd_next, if_neg h, List.append_nil]
theorem fnd_short {s t : List UInt8} : ∀ {m : Nat}, m < t.length → fnd s t m = []
  | 0, _ => rfl
  | m + 1, h => by
    rw [fnd_miss, fnd_short (by omega)]
    intro hs
    have := hs.length_le
    rw [List.length_take] at this
    omega
theorem fnd_over {s t : List UInt8} (h : s.length < t.length) : ∀ m, fnd s t m = []
  | 0 => rfl
  | m + 1 => by
    rw [fnd_miss, fnd_over h m]
    intro hs
    have := hs.length_le
    rw [List.length_take] at this
    omega
theorem fnd_mem {s t : List UInt8} : ∀ m, ∀ x ∈ fnd s t m, ∃ j : Nat, x = (j : Int) ∧ (m ≤ s.length → j + t.length ≤ m ∧ t <:+ s.take (j + t.length))
  | 0, x, h => by simp [fnd] at h
  | m + 1, x, h => by
    by_cases hs : t <:+ s.take (m + 1)
    · rw [fnd_hit hs, List.mem_append, List.mem_singleton] at h
      rcases h with h | h
      · obtain ⟨j, a, b⟩ := fnd_mem m x h
        exact ⟨j, a, fun hm => by have := b (by omega); exact ⟨by omega, this.2⟩⟩
      · refine ⟨_, h, fun hm => ?_⟩
        have := hs.length_le
        rw [len_take s hm] at this
        rw [Nat.sub_add_cancel this]
        exact ⟨Nat.le_refl _, hs⟩
    · rw [fnd_miss hs] at h
      obtain ⟨j, a, b⟩ := fnd_mem m x h
      exact ⟨j, a, fun hm => by have := b (by omega); exact ⟨by omega, this.2⟩⟩
theorem fnd_rises {s t : List UInt8} : ∀ m, m ≤ s.length → (fnd s t m).Pairwise (fun x y => x < y)
  | 0, _ => List.Pairwise.nil
  | m + 1, hm => by
    by_cases hs : t <:+ s.take (m + 1)
    · rw [fnd_hit hs]
      refine List.pairwise_append.2 ⟨fnd_rises m (by omega), List.pairwise_singleton _ _, fun x hx y hy => ?_⟩
      obtain ⟨j, a, b⟩ := fnd_mem m x hx
      have := b (by omega)
      have := hs.length_le
      rw [len_take s hm] at this
      rw [List.mem_singleton] at hy
      omega
    · rw [fnd_miss hs]; exact fnd_rises m (by omega)
theorem fnd_length (s t : List UInt8) : ∀ m, (fnd s t m).length ≤ m
  | 0 => Nat.le_refl _
  | m + 1 => by
    have := fnd_length s t m
    rw [fnd_next, List.length_append]
    split <;> simp <;> omega
theorem stands_iff {s t : List UInt8} {i : Nat} (h : i + t.length ≤ s.length) : (s.take (i + t.length)).drop i = t ↔ t <:+ s.take (i + t.length) := by
  rw [List.suffix_iff_eq_drop, len_take s h, Nat.add_sub_cancel]
  exact eq_comm
/-- Where a text stands twice, overlapping, the places differ by a period of it. -/
theorem twice {s t : List UInt8} {j p : Nat} (h1 : t <:+ s.take (j + t.length)) (h2 : t <:+ s.take (j + p + t.length)) (hs : j + p + t.length ≤ s.length) (hp : p ≤ t.length) : t.drop p = t.take (t.length - p) := by
  have g : ∀ k, k + t.length ≤ s.length → t <:+ s.take (k + t.length) → ∀ i, i < t.length → t[i]? = s[k + i]? := fun k hk hx i hi => by
    have := congrArg (fun x => x[i]?) ((stands_iff hk).2 hx)
    simp only [List.getElem?_drop, List.getElem?_take] at this
    rw [if_pos (by omega)] at this
    exact this.symm
  refine (prd_iff hp).2 (fun i hi => ?_)
  rw [g j (by omega) h1 (i + p) hi, g (j + p) hs h2 i (by omega)]
  congr 1; omega
end Go.Proofs.Ytnechkljecdfkaa

namespace Go.Proofs.Ytnechkljecdfkaa

/-- The least number below n of which p holds, else n. -/
def mn (p : Nat → Bool) : Nat → Nat
  | 0 => 0
  | n + 1 => if mn p n < n ∨ p n = true then mn p n else n + 1
theorem mn_spec (p : Nat → Bool) : ∀ n, mn p n ≤ n ∧ (∀ d, d < mn p n → p d = false) ∧ (mn p n < n → p (mn p n) = true)
  | 0 => ⟨Nat.le_refl _, fun d h => by simp [mn] at h, fun h => by simp [mn] at h⟩
  | n + 1 => by
    obtain ⟨h1, h2, h3⟩ := mn_spec p n
    unfold mn
    by_cases hq : mn p n < n ∨ p n = true
    · rw [if_pos hq]
      refine ⟨by omega, h2, fun _ => ?_⟩
      rcases Nat.lt_or_ge (mn p n) n with h | h
      · exact h3 h
      · rcases hq with h' | h'
        · omega
        · rw [show mn p n = n by omega]; exact h'
    · rw [if_neg hq]
      have e : mn p n = n := by
        rcases Nat.lt_or_ge (mn p n) n with h | h
        · exact absurd (.inl h) hq
        · omega
      refine ⟨Nat.le_refl _, fun d hd => ?_, fun h => by omega⟩
      rcases Nat.lt_or_ge d n with h | h
      · exact h2 d (by omega)
      · rw [show d = n by omega]
        cases hp : p n with
        | false => rfl
        | true => exact absurd (.inr hp) hq
theorem mn_le (p : Nat → Bool) (n : Nat) : mn p n ≤ n := (mn_spec p n).1
theorem mn_is {p : Nat → Bool} {n r : Nat} (h1 : r ≤ n) (h2 : ∀ d, d < r → p d = false) (h3 : r < n → p r = true) : mn p n = r := by
  obtain ⟨a, b, c⟩ := mn_spec p n
  rcases Nat.lt_trichotomy (mn p n) r with h | h | h
  · have x := h2 _ h
    rw [c (by omega)] at x
    cases x
  · exact h
  · have x := b _ h
    rw [h3 (by omega)] at x
    cases x
theorem mn_congr {p q : Nat → Bool} {n : Nat} (h : ∀ d, d < n → p d = q d) : mn p n = mn q n := by
  obtain ⟨a, b, c⟩ := mn_spec q n
  exact mn_is a (fun d hd => by rw [h d (by omega)]; exact b d hd) (fun hl => by rw [h _ hl]; exact c hl)
theorem mn_none {p : Nat → Bool} {n : Nat} (h : ∀ d, d < n → p d = false) : mn p n = n := mn_is (Nat.le_refl _) h (fun h => by omega)
theorem mn_or {p q : Nat → Bool} {n j : Nat} (hj : j < n) (hq : ∀ d, q d = (p d || decide (d = j))) : mn q n = min (mn p n) j := by
  obtain ⟨a, b, c⟩ := mn_spec p n
  refine mn_is (by omega) (fun d hd => ?_) (fun hl => ?_)
  · rw [hq, b d (by omega), decide_eq_false (by omega)]; rfl
  · rw [hq]
    rcases Nat.lt_or_ge (mn p n) j with h | h
    · rw [show min (mn p n) j = mn p n by omega, c (by omega)]; rfl
    · rw [show min (mn p n) j = j by omega, decide_eq_true rfl, Bool.or_true]

/-- Has a text the byte at this distance from its end? -/
def atD (t : List UInt8) (c d : Nat) : Bool := decide (d < t.length) && ((t.getD (t.length - 1 - d) 0).toNat == c)
/-- .. one of the texts? -/
def hasD (ws : List (List UInt8)) (c d : Nat) : Bool := ws.any fun t => atD t c d
/-- A byte's shift. -/
def fstL (ws : List (List UInt8)) (c : Nat) : Nat := mn (hasD ws c) (leastR ws)

/-- The shifts behind the first j distances of one more text. -/
def lowF (F : Nat → Nat) (t : List UInt8) : Nat → Nat → Nat
  | 0, c => F c
  | j + 1, c => if atD t c j = true then min (lowF F t j c) j else lowF F t j c
theorem low_mn {F : Nat → Nat} {p : Nat → Nat → Bool} {t : List UInt8} {m : Nat} (h : ∀ c, F c = mn (p c) m) : ∀ j, j ≤ m → ∀ c, lowF F t j c = mn (fun d => p c d || (decide (d < j) && atD t c d)) m
  | 0, _, c => by
    rw [lowF, h]
    exact mn_congr fun d _ => by simp
  | j + 1, hj, c => by
    rw [lowF, low_mn h j (by omega) c]
    by_cases hq : atD t c j = true
    · rw [if_pos hq]
      refine (mn_or (by omega) fun d => ?_).symm
      rcases Nat.lt_trichotomy d j with hd | hd | hd
      · simp [hd, show d < j + 1 by omega, show ¬ d = j by omega]
      · subst hd; simp [hq]
      · simp [show ¬ d < j by omega, show ¬ d < j + 1 by omega, show ¬ d = j by omega]
    · rw [if_neg hq]
      refine mn_congr fun d _ => ?_
      rcases Nat.lt_trichotomy d j with hd | hd | hd
      · simp [hd, show d < j + 1 by omega]
      · subst hd; simp [hq]
      · simp [show ¬ d < j by omega, show ¬ d < j + 1 by omega]
/-- .. behind a whole one. -/
theorem low_done {ws : List (List UInt8)} {k m : Nat} {t : List UInt8} (h : ws[k]? = some t) (c : Nat) : lowF (fun c => mn (hasD (ws.take k) c) m) t m c = mn (hasD (ws.take (k + 1)) c) m := by
  have hlt := (List.getElem?_eq_some_iff.1 h).1
  have ht := (List.getElem?_eq_some_iff.1 h).2
  rw [low_mn (p := fun c => hasD (ws.take k) c) (fun c => rfl) m (Nat.le_refl _) c]
  refine mn_congr fun d hd => ?_
  unfold hasD
  rw [List.take_succ_eq_append_getElem hlt, List.any_append, ht]
  simp [hd]
theorem low_start (m c : Nat) : mn (hasD [] c) m = m := mn_none fun d _ => rfl
theorem low_keep {F : Nat → Nat} {t : List UInt8} {j c : Nat} (h : ¬ atD t c j = true) : lowF F t (j + 1) c = lowF F t j c := if_neg h
theorem low_hit {F : Nat → Nat} {t : List UInt8} {j c : Nat} (h : atD t c j = true) : lowF F t (j + 1) c = min (lowF F t j c) j := if_pos h
theorem low_le {F : Nat → Nat} {t : List UInt8} {m : Nat} (h : ∀ c, F c ≤ m) : ∀ j c, lowF F t j c ≤ m
  | 0, c => h c
  | j + 1, c => by
    have := low_le (t := t) h j c
    rw [lowF]; split <;> omega
theorem at_iff {t : List UInt8} {c d : Nat} (h : d < t.length) : atD t c d = true ↔ (t.getD (t.length - 1 - d) 0).toNat = c := by
  unfold atD
  rw [decide_eq_true h, Bool.true_and, beq_iff_eq]

theorem least_mem {ws : List (List UInt8)} : ∀ {n : Nat} {t : List UInt8}, t ∈ ws → ws.foldl (fun n t => min n t.length) n ≤ t.length := by
  have low : ∀ (ws : List (List UInt8)) (n : Nat), ws.foldl (fun n t => min n t.length) n ≤ n := by
    intro ws
    induction ws with
    | nil => intro n; exact Nat.le_refl _
    | cons a r ih => intro n; exact Nat.le_trans (ih _) (Nat.min_le_left _ _)
  induction ws with
  | nil => intro n t h; cases h
  | cons a r ih =>
    intro n t h
    rcases List.mem_cons.1 h with rfl | h
    · exact Nat.le_trans (low r _) (Nat.min_le_right _ _)
    · exact ih h
theorem leastR_le {ws : List (List UInt8)} {t : List UInt8} (h : t ∈ ws) : leastR ws ≤ t.length := by
  unfold leastR
  split
  · omega
  · exact least_mem h
theorem leastR_nil : leastR [] = 0 := rfl
theorem fst_le (ws : List (List UInt8)) (c : Nat) : fstL ws c ≤ leastR ws := mn_le _ _
theorem fst_nil (c : Nat) : fstL [] c = 0 := by have := fst_le [] c; rw [leastR_nil] at this; omega

/-- One of a text's bytes. -/
def byN (s : List UInt8) (i : Nat) : Nat := (s.getD i 0).toNat
/-- The ends from e on; f more are looked at. -/
def endG (F : Nat → Nat) (s : List UInt8) : Nat → Nat → List Int
  | 0, _ => []
  | f + 1, e => if e ≤ s.length then (if F (byN s (e - 1)) = 0 then [(e : Int)] else []) ++ endG F s f (e + max (F (byN s (e - 1))) 1) else []
def endL (F : Nat → Nat) (m : Nat) (s : List UInt8) : List Int := if m = 0 then [] else endG F s (s.length + 1) m
theorem end_over {F : Nat → Nat} {s : List UInt8} {e : Nat} (h : s.length < e) : ∀ f, endG F s f e = []
  | 0 => rfl
  | f + 1 => by rw [endG, if_neg (by omega)]
theorem end_hit {F : Nat → Nat} {s : List UInt8} {e f : Nat} (h : e ≤ s.length) (hn : F (byN s (e - 1)) = 0) : endG F s (f + 1) e = (e : Int) :: endG F s f (e + 1) := by
  rw [endG, if_pos h, if_pos hn, hn]; rfl
theorem end_miss {F : Nat → Nat} {s : List UInt8} {e f n : Nat} (h : e ≤ s.length) (hn : F (byN s (e - 1)) = n) (h0 : 0 < n) : endG F s (f + 1) e = endG F s f (e + n) := by
  rw [endG, if_pos h, if_neg (by omega), hn, Nat.max_eq_left (by omega)]; rfl
theorem end_length (F : Nat → Nat) (s : List UInt8) : ∀ f e, (endG F s f e).length ≤ f
  | 0, _ => Nat.le_refl _
  | f + 1, e => by
    have := end_length F s f (e + max (F (byN s (e - 1))) 1)
    rw [endG]
    split
    · split <;> simp <;> omega
    · simp
theorem endL_length (F : Nat → Nat) (m : Nat) (s : List UInt8) : (endL F m s).length ≤ s.length + 1 := by
  unfold endL
  split
  · simp
  · exact end_length F s _ _
theorem endL_none (F : Nat → Nat) (s : List UInt8) : endL F 0 s = [] := if_pos rfl
theorem endL_some {F : Nat → Nat} {m : Nat} {s : List UInt8} (h : 0 < m) : endL F m s = endG F s (s.length + 1) m := if_neg (by omega)

theorem suf_at {s t : List UInt8} {E d : Nat} (hE : E ≤ s.length) (h : t <:+ s.take E) (hd : d < t.length) : t.getD (t.length - 1 - d) 0 = s.getD (E - 1 - d) 0 := by
  obtain ⟨r, hr⟩ := h
  have hl : r.length + t.length = E := by
    have := congrArg List.length hr
    rw [List.length_append, List.length_take] at this
    omega
  have h1 : (s.take E)[E - 1 - d]? = t[t.length - 1 - d]? := by
    rw [← hr, List.getElem?_append_right (by omega)]
    congr 1; omega
  rw [List.getElem?_take_of_lt (by omega)] at h1
  simp only [List.getD, h1]
/-- Behind an end ahead of which a byte of shift n stands no pattern ends, up to n - 1 bytes. -/
theorem fst_clears {ws : List (List UInt8)} {s t : List UInt8} {e E : Nat} (ht : t ∈ ws) (hE : E ≤ s.length) (hs : t <:+ s.take E) (he : 0 < e) (h1 : e ≤ E) (h2 : E < e + fstL ws (byN s (e - 1))) : False := by
  have hle := fst_le ws (byN s (e - 1))
  have hm := leastR_le ht
  have h3 := (mn_spec (hasD ws (byN s (e - 1))) (leastR ws)).2.1 (E - e) (by unfold fstL at h2; omega)
  have h4 : atD t (byN s (e - 1)) (E - e) = true := by
    rw [at_iff (by omega), suf_at hE hs (by omega)]
    unfold byN
    congr 2; omega
  have h5 : hasD ws (byN s (e - 1)) (E - e) = true := List.any_eq_true.2 ⟨t, ht, h4⟩
  rw [h5] at h3
  cases h3
/-- .. so that each pattern ends where it is told. -/
theorem end_has {ws : List (List UInt8)} {s t : List UInt8} {E : Nat} (ht : t ∈ ws) (hE : E ≤ s.length) (hs : t <:+ s.take E) : ∀ (f e : Nat), 0 < e → e ≤ E → s.length + 1 ≤ e + f → (E : Int) ∈ endG (fstL ws) s f e
  | 0, e, he, h1, h2 => by omega
  | f + 1, e, he, h1, h2 => by
    have hc : ¬ E < e + fstL ws (byN s (e - 1)) := fun h => fst_clears ht hE hs he h1 h
    by_cases h0 : fstL ws (byN s (e - 1)) = 0
    · rw [end_hit (by omega) h0]
      rcases Nat.lt_or_ge e E with h | h
      · exact List.mem_cons_of_mem _ (end_has ht hE hs f (e + 1) (by omega) (by omega) (by omega))
      · rw [show E = e by omega]; exact List.mem_cons_self
    · rw [end_miss (by omega) rfl (by omega)]
      exact end_has ht hE hs f _ (by omega) (by omega) (by omega)
theorem endL_has {ws : List (List UInt8)} {s t : List UInt8} {E : Nat} (h0 : 0 < leastR ws) (ht : t ∈ ws) (hE : E ≤ s.length) (hs : t <:+ s.take E) (hl : t.length ≤ E) : (E : Int) ∈ endL (fstL ws) (leastR ws) s := by
  rw [endL_some h0]
  have := leastR_le ht
  exact end_has ht hE hs _ _ h0 (by omega) (by omega)
theorem leastR_pos {ws : List (List UInt8)} {t : List UInt8} (ht : t ∈ ws) (h : ∀ t ∈ ws, 0 < t.length) : 0 < leastR ws := by
  have low : ∀ (ws : List (List UInt8)) (n : Nat), 0 < n → (∀ t ∈ ws, 0 < t.length) → 0 < ws.foldl (fun n t => min n t.length) n := by
    intro ws
    induction ws with
    | nil => intro n h _; exact h
    | cons a r ih =>
      intro n hn ha
      have := ha a List.mem_cons_self
      exact ih _ (Nat.lt_min.2 ⟨hn, this⟩) (fun t ht => ha t (List.mem_cons_of_mem _ ht))
  unfold leastR
  split
  · rename_i hl
    rw [List.length_eq_zero_iff.1 hl] at ht; cases ht
  · exact low ws _ (by omega) h
end Go.Proofs.Ytnechkljecdfkaa

namespace Go.Proofs.Ytnechkljecdfkaa

/-- Does a byte stand in a text? -/
def inT (t : List UInt8) (c : Nat) : Bool := t.any fun x => x.toNat == c
/-- .. in one of some texts? -/
def hasC (us : List (List UInt8)) (c : Nat) : Bool := us.any fun t => inT t c
theorem inT_iff {t : List UInt8} {c : Nat} : inT t c = true ↔ ∃ x ∈ t, x.toNat = c := by
  unfold inT
  simp only [List.any_eq_true, beq_iff_eq]
theorem hasC_iff {us : List (List UInt8)} {c : Nat} : hasC us c = true ↔ ∃ t ∈ us, ∃ x ∈ t, x.toNat = c := by
  unfold hasC
  simp only [List.any_eq_true, inT_iff]
theorem hasC_lt {us : List (List UInt8)} {c : Nat} (h : hasC us c = true) : c < 256 := by
  obtain ⟨t, _, x, _, rfl⟩ := hasC_iff.1 h
  exact x.toNat_lt

theorem any_snoc {α : Type} {p : α → Bool} {l : List α} {k : Nat} {x : α} (h : l[k]? = some x) : (l.take (k + 1)).any p = ((l.take k).any p || p x) := by
  obtain ⟨hk, rfl⟩ := List.getElem?_eq_some_iff.1 h
  rw [List.take_succ_eq_append_getElem hk, List.any_append]
  simp
theorem inT_snoc {t : List UInt8} {k : Nat} {x : UInt8} (h : t[k]? = some x) (c : Nat) : inT (t.take (k + 1)) c = (inT (t.take k) c || x.toNat == c) := any_snoc h
theorem hasC_snoc {us : List (List UInt8)} {k : Nat} {t : List UInt8} (h : us[k]? = some t) (c : Nat) : hasC (us.take (k + 1)) c = (hasC (us.take k) c || inT t c) := any_snoc h
theorem hasC_mem {us : List (List UInt8)} {t : List UInt8} {x : UInt8} (h : t ∈ us) (hx : x ∈ t) : hasC us x.toNat = true := hasC_iff.2 ⟨t, h, x, hx, rfl⟩

/-- The bytes below n that stand in texts, rising. -/
def bcK (us : List (List UInt8)) : Nat → List UInt8
  | 0 => []
  | n + 1 => bcK us n ++ if hasC us n then [UInt8.ofNat n] else []
theorem bc_hit {us : List (List UInt8)} {n : Nat} (h : hasC us n = true) : bcK us (n + 1) = bcK us n ++ [UInt8.ofNat n] := by rw [bcK, if_pos h]
theorem bc_miss {us : List (List UInt8)} {n : Nat} (h : hasC us n = false) : bcK us (n + 1) = bcK us n := by rw [bcK, if_neg (by rw [h]; decide), List.append_nil]
theorem bc_length (us : List (List UInt8)) : ∀ n, (bcK us n).length ≤ n
  | 0 => Nat.le_refl _
  | n + 1 => by
    have := bc_length us n
    rw [bcK, List.length_append]
    split <;> simp <;> omega
theorem bc_mono (us : List (List UInt8)) (n : Nat) : ∀ m, (bcK us n).length ≤ (bcK us (n + m)).length
  | 0 => Nat.le_refl _
  | m + 1 => by
    have := bc_mono us n m
    rw [← Nat.add_assoc, bcK, List.length_append]
    omega
theorem bc_le (us : List (List UInt8)) {m n : Nat} (h : m ≤ n) : (bcK us m).length ≤ (bcK us n).length := by
  have := bc_mono us m (n - m)
  rwa [Nat.add_sub_cancel' h] at this

/-- A byte's class. -/
def ofC (us : List (List UInt8)) (c : Nat) : Nat := if hasC us c then (bcK us (c + 1)).length else 0
theorem of_hit {us : List (List UInt8)} {c : Nat} (h : hasC us c = true) : ofC us c = (bcK us c).length + 1 := by
  unfold ofC
  rw [if_pos h, bc_hit h]
  simp
theorem of_miss {us : List (List UInt8)} {c : Nat} (h : hasC us c = false) : ofC us c = 0 := by
  unfold ofC
  rw [h]; rfl
theorem of_pos {us : List (List UInt8)} {c : Nat} : 0 < ofC us c ↔ hasC us c = true := by
  cases h : hasC us c with
  | true => rw [of_hit h]; simp
  | false => rw [of_miss h]; simp
theorem of_le (us : List (List UInt8)) (c : Nat) : ofC us c ≤ 256 := by
  cases h : hasC us c with
  | true =>
    rw [of_hit h]
    have h1 := bc_length us c
    have h2 := hasC_lt h
    omega
  | false => rw [of_miss h]; omega
/-- Of two bytes that are not foreign the greater one has the greater class. -/
theorem of_lt {us : List (List UInt8)} {a b : Nat} (ha : 0 < ofC us a) (hb : 0 < ofC us b) : ofC us a < ofC us b ↔ a < b := by
  have ha' := of_pos.1 ha
  have hb' := of_pos.1 hb
  have key : ∀ {x y : Nat}, hasC us x = true → hasC us y = true → x < y → ofC us x < ofC us y := by
    intro x y hx hy h
    rw [of_hit hy]
    have h1 := bc_le us (show x + 1 ≤ y by omega)
    have h2 := of_hit hx
    rw [bc_hit hx, List.length_append, List.length_singleton] at h1
    omega
  refine ⟨fun h => ?_, fun h => key ha' hb' h⟩
  rcases Nat.lt_trichotomy a b with h' | h' | h'
  · exact h'
  · subst h'; omega
  · have := key hb' ha' h'; omega

/-- How many of a text's last bytes have no class. -/
def forL (F : Nat → Nat) (s : List UInt8) : Nat := mn (fun k => decide (0 < F (s.getD (s.length - 1 - k) 0).toNat)) s.length
theorem forL_is {F : Nat → Nat} {s : List UInt8} {n : Nat} (h1 : n ≤ s.length) (h2 : ∀ k, k < n → F (s.getD (s.length - 1 - k) 0).toNat = 0) (h3 : n < s.length → 0 < F (s.getD (s.length - 1 - n) 0).toNat) : forL F s = n := by
  unfold forL
  exact mn_is h1 (fun d hd => decide_eq_false (by rw [h2 d hd]; omega)) (fun hl => decide_eq_true (h3 hl))
end Go.Proofs.Ytnechkljecdfkaa

namespace Go.Proofs.Ytnechkljecdfkaa

/-- A byte stands in its place among the bytes of classes. -/
theorem bc_snoc_at (us : List (List UInt8)) : ∀ (n : Nat), n ≤ 256 → ∀ (j : Nat) (c : UInt8), (bcK us n)[j]? = some c ↔ c.toNat < n ∧ hasC us c.toNat = true ∧ ofC us c.toNat = j + 1
  | 0, _, j, c => by simp [bcK]
  | n + 1, hn, j, c => by
    have ih := bc_snoc_at us n (by omega)
    have hcl := c.toNat_lt
    cases hq : hasC us n with
    | true =>
      rw [bc_hit hq]
      have hnn : (UInt8.ofNat n).toNat = n := by simp; omega
      by_cases hj : j < (bcK us n).length
      · rw [List.getElem?_append_left hj, ih]
        constructor
        · rintro ⟨h1, h2⟩; exact ⟨by omega, h2⟩
        · rintro ⟨h1, h2, h3⟩
          refine ⟨?_, h2, h3⟩
          rcases Nat.lt_or_ge c.toNat n with h | h
          · exact h
          · have hcn : c.toNat = n := by omega
            rw [hcn, of_hit hq] at h3
            omega
      · rw [List.getElem?_append_right (by omega)]
        constructor
        · intro h
          obtain ⟨h1, h2⟩ := List.getElem?_eq_some_iff.1 h
          have h0 : j - (bcK us n).length = 0 := by simp at h1; omega
          simp only [h0, List.getElem_cons_zero] at h2
          have hcn : c.toNat = n := by rw [← h2, hnn]
          rw [hcn]
          exact ⟨by omega, hq, by rw [of_hit hq]; omega⟩
        · rintro ⟨h1, h2, h3⟩
          rcases Nat.lt_or_ge c.toNat n with h | h
          · have := (List.getElem?_eq_some_iff.1 ((ih j c).2 ⟨h, h2, h3⟩)).1
            omega
          · have hcn : c.toNat = n := by omega
            rw [hcn, of_hit hq] at h3
            rw [show j - (bcK us n).length = 0 by omega]
            have : UInt8.ofNat n = c := by rw [← hcn]; simp
            simp [this]
    | false =>
      rw [bc_miss hq, ih]
      constructor
      · rintro ⟨h1, h2⟩; exact ⟨by omega, h2⟩
      · rintro ⟨h1, h2, h3⟩
        refine ⟨?_, h2, h3⟩
        rcases Nat.lt_or_ge c.toNat n with h | h
        · exact h
        · have hcn : c.toNat = n := by omega
          rw [hcn, hq] at h2
          cases h2
theorem bc_at (us : List (List UInt8)) (j : Nat) (c : UInt8) : (bcK us 256)[j]? = some c ↔ hasC us c.toNat = true ∧ ofC us c.toNat = j + 1 := by
  rw [bc_snoc_at us 256 (Nat.le_refl _)]
  exact ⟨fun h => h.2, fun h => ⟨c.toNat_lt, h⟩⟩
theorem of_few (us : List (List UInt8)) (c : UInt8) : ofC us c.toNat < (bcK us 256).length + 1 := by
  cases hq : hasC us c.toNat with
  | true =>
    have h1 := of_pos.2 hq
    have := (List.getElem?_eq_some_iff.1 ((bc_at us (ofC us c.toNat - 1) c).2 ⟨hq, by omega⟩)).1
    omega
  | false => rw [of_miss hq]; omega

/-- A byte that stands in no text leads to the root. -/
theorem lg_foreign {us S : List (List UInt8)} (hs : IsSt us S) {c : UInt8} (h : hasC us c.toNat = false) (q : List UInt8) : lgL S (q ++ [c]) = [] := by
  rcases lg_or S (q ++ [c]) with h1 | h1
  · exact h1
  · obtain ⟨a, ha⟩ := lg_end S (q ++ [c])
    generalize lgL S (q ++ [c]) = t at h1 ha
    rcases List.eq_nil_or_concat t with rfl | ⟨t', d, rfl⟩
    · rfl
    · exfalso
      rw [List.concat_eq_append, ← List.append_assoc] at ha
      obtain ⟨_, e⟩ := List.append_inj' ha rfl
      cases e
      rcases (hs.2 _).1 h1 with h2 | h2
      · simp at h2
      · obtain ⟨p, hp, hpre⟩ := beg_iff.1 h2
        have hd : c ∈ p := hpre.subset (by simp)
        rw [hasC_mem hp hd] at h
        cases h

/-- The number of the state to which a byte leads. -/
def dnS (S : List (List UInt8)) (s : List UInt8) (c : UInt8) : Nat := (ixL (lgL S (s ++ [c])) S).toNat
theorem dn_ix {S : List (List UInt8)} (h0 : [] ∈ S) (s : List UInt8) (c : UInt8) : ixL (lgL S (s ++ [c])) S = (dnS S s c : Int) := by
  unfold dnS ixL
  rw [if_pos (lg_mem h0 _)]
  rfl
theorem dn_is {S : List (List UInt8)} (hn : S.Nodup) {s : List UInt8} {c : UInt8} {n : Nat} (h : S[n]? = some (lgL S (s ++ [c]))) : dnS S s c = n := by
  unfold dnS
  rw [ix_is hn h]
  rfl
theorem dn_at {S : List (List UInt8)} (hn : S.Nodup) (h0 : [] ∈ S) (s : List UInt8) (c : UInt8) : S[dnS S s c]? = some (lgL S (s ++ [c])) := by
  obtain ⟨n, hn', e⟩ := List.getElem_of_mem (lg_mem h0 (s ++ [c]))
  have h : S[n]? = some (lgL S (s ++ [c])) := by rw [List.getElem?_eq_getElem hn', e]
  rw [dn_is hn h]
  exact h
theorem dn_lt {S : List (List UInt8)} (hn : S.Nodup) (h0 : [] ∈ S) (s : List UInt8) (c : UInt8) : dnS S s c < S.length := (List.getElem?_eq_some_iff.1 (dn_at hn h0 s c)).1
theorem dn_root {S : List (List UInt8)} (hn : S.Nodup) (h0 : S[0]? = some []) {s : List UInt8} {c : UInt8} (h : lgL S (s ++ [c]) = []) : dnS S s c = 0 := dn_is hn (by rw [h]; exact h0)

/-- Where each class leads from a state. -/
def rwF (us S : List (List UInt8)) (s : List UInt8) : List Nat := 0 :: (bcK us 256).map (dnS S s)
/-- .. where it is known by these bytes, and by the state to which it falls back. -/
def rwP (us S : List (List UInt8)) (s ks : List UInt8) : List Nat := 0 :: (bcK us 256).map fun c => if c ∈ ks then dnS S s c else if s = [] then 0 else dnS S (fbL S s) c
theorem rwF_length (us S : List (List UInt8)) (s : List UInt8) : (rwF us S s).length = (bcK us 256).length + 1 := by simp [rwF]
theorem rwP_length (us S : List (List UInt8)) (s ks : List UInt8) : (rwP us S s ks).length = (bcK us 256).length + 1 := by simp [rwP]
theorem rwP_fall (us S : List (List UInt8)) {s : List UInt8} (h : s ≠ []) : rwP us S s [] = rwF us S (fbL S s) := by
  unfold rwP rwF
  simp [h]
theorem rwP_root (us S : List (List UInt8)) : rwP us S [] [] = List.replicate ((bcK us 256).length + 1) 0 := by
  unfold rwP
  rw [List.replicate_succ]
  refine congrArg (List.cons 0) ?_
  simp only [List.not_mem_nil, if_false, if_true]
  exact List.map_const' ..
theorem rwP_all {us S : List (List UInt8)} (hs : IsSt us S) (hn : S.Nodup) (h0 : S[0]? = some []) (s : List UInt8) (hm : s ∈ S) : rwP us S s (kidsL us s) = rwF us S s := by
  unfold rwP rwF
  refine congrArg (List.cons 0) ?_
  refine List.map_congr_left fun c _ => ?_
  by_cases hk : c ∈ kidsL us s
  · rw [if_pos hk]
  · rw [if_neg hk]
    have hmiss : s ++ [c] ∉ S := fun h => by
      rcases (hs.2 _).1 h with h | h
      · simp at h
      · exact hk (kids_mem.2 h)
    by_cases e : s = []
    · subst e
      rw [if_pos rfl, dn_root hn h0]
      rw [lg_miss hmiss]; rfl
    · rw [if_neg e]
      unfold dnS
      rw [← lg_step hs c e hmiss]
/-- One more byte by which the state leads on. -/
theorem rwP_set {us S : List (List UInt8)} {s ks : List UInt8} {c : UInt8} (hc : hasC us c.toNat = true) : (rwP us S s ks).set (ofC us c.toNat) (dnS S s c) = rwP us S s (ks ++ [c]) := by
  have h1 := of_pos.2 hc
  obtain ⟨j, hj⟩ : ∃ j, ofC us c.toNat = j + 1 := ⟨ofC us c.toNat - 1, by omega⟩
  have hat := (bc_at us j c).2 ⟨hc, hj⟩
  unfold rwP
  rw [hj, List.set_cons_succ]
  refine congrArg (List.cons 0) ?_
  apply List.ext_getElem?
  intro i
  rw [List.getElem?_set, List.getElem?_map, List.getElem?_map, List.length_map]
  by_cases e : j = i
  · subst e
    rw [if_pos rfl, if_pos (List.getElem?_eq_some_iff.1 hat).1, hat]
    simp
  · rw [if_neg e]
    cases hx : (bcK us 256)[i]? with
    | none => rfl
    | some d =>
      have hd := (bc_at us i d).1 hx
      have hne : d ≠ c := fun h => by
        subst h
        omega
      simp [hne]
/-- What a row says of a byte. -/
theorem rw_of {us S : List (List UInt8)} (hs : IsSt us S) (hn : S.Nodup) (h0 : S[0]? = some []) (s : List UInt8) (c : UInt8) : (rwF us S s)[ofC us c.toNat]? = some (dnS S s c) := by
  cases hq : hasC us c.toNat with
  | true =>
    have h1 := of_pos.2 hq
    obtain ⟨j, hj⟩ : ∃ j, ofC us c.toNat = j + 1 := ⟨ofC us c.toNat - 1, by omega⟩
    have hat := (bc_at us j c).2 ⟨hq, hj⟩
    unfold rwF
    rw [hj, List.getElem?_cons_succ, List.getElem?_map, hat]
    rfl
  | false =>
    rw [of_miss hq, dn_root hn h0 (lg_foreign hs hq s)]
    rfl
theorem kid_has {us S : List (List UInt8)} {s : List UInt8} {c : UInt8} (h : c ∈ kidsL us s) : hasC us c.toNat = true := by
  obtain ⟨p, hp, hpre⟩ := beg_iff.1 (kids_mem.1 h)
  exact hasC_mem hp (hpre.subset (by simp))
theorem rw_le {us S : List (List UInt8)} (hn : S.Nodup) (h0 : [] ∈ S) (s : List UInt8) : ∀ x ∈ rwF us S s, x ≤ S.length := fun x hx => by
  unfold rwF at hx
  rcases List.mem_cons.1 hx with rfl | hx
  · omega
  · obtain ⟨c, _, rfl⟩ := List.mem_map.1 hx
    exact Nat.le_of_lt (dn_lt hn h0 s c)

/-- One row of them all. -/
def seg (L : List Nat) (W i : Nat) : List Nat := (L.drop (i * W)).take W
theorem seg_at (L : List Nat) (W i j : Nat) : (seg L W i)[j]? = if j < W then L[i * W + j]? else none := by
  unfold seg
  by_cases h : j < W
  · rw [if_pos h, List.getElem?_take_of_lt h, List.getElem?_drop]
  · rw [if_neg h, List.getElem?_eq_none]
    simp; omega
theorem seg_in {n W i : Nat} (h : i < n) : i * W + W ≤ n * W := by
  have := Nat.mul_le_mul_right W (show i + 1 ≤ n from h)
  rwa [Nat.succ_mul] at this
theorem seg_length {L : List Nat} {n W i : Nat} (hl : L.length = n * W) (h : i < n) : (seg L W i).length = W := by
  have := seg_in (W := W) h
  unfold seg
  rw [List.length_take, List.length_drop]
  omega
theorem seg_apart {W i j a b : Nat} (h : i ≠ j) (ha : a < W) (hb : b < W) : i * W + a ≠ j * W + b := by
  rcases Nat.lt_or_gt_of_ne h with h | h
  · have := seg_in (W := W) h; omega
  · have := seg_in (W := W) h; omega
theorem seg_set_same {L : List Nat} {n W i k : Nat} (hl : L.length = n * W) (hi : i < n) (hk : k < W) (v : Nat) : seg (L.set (i * W + k) v) W i = (seg L W i).set k v := by
  have hin := seg_in (W := W) hi
  apply List.ext_getElem?
  intro j
  rw [List.getElem?_set, seg_length hl hi, seg_at, seg_at, List.getElem?_set]
  by_cases e : k = j
  · subst e
    rw [if_pos hk, if_pos rfl, if_pos rfl, if_pos (by omega), if_pos hk]
  · rw [if_neg e, if_neg (show ¬ i * W + k = i * W + j by omega)]
theorem seg_set_other {L : List Nat} {W i j k : Nat} (h : i ≠ j) (hk : k < W) (v : Nat) : seg (L.set (i * W + k) v) W j = seg L W j := by
  apply List.ext_getElem?
  intro a
  rw [seg_at, seg_at]
  by_cases ha : a < W
  · rw [if_pos ha, if_pos ha, List.getElem?_set_ne (seg_apart h hk ha)]
  · rw [if_neg ha, if_neg ha]
theorem splice_at {L R : List Nat} {o j : Nat} (h : o + R.length ≤ L.length) : (splice L o R)[j]? = if o ≤ j ∧ j < o + R.length then R[j - o]? else L[j]? := by
  unfold splice
  have ht : (L.take o).length = o := by rw [List.length_take]; omega
  by_cases h1 : j < o
  · rw [List.getElem?_append_left (by omega), List.getElem?_take_of_lt h1, if_neg (by omega)]
  · rw [List.getElem?_append_right (by omega), ht]
    by_cases h2 : j < o + R.length
    · rw [List.getElem?_append_left (by omega), if_pos (by omega)]
    · rw [List.getElem?_append_right (by omega), List.getElem?_drop, if_neg (by omega)]
      congr 1; omega
theorem seg_splice_same {L R : List Nat} {n W i : Nat} (hl : L.length = n * W) (hi : i < n) (hR : R.length = W) : seg (splice L (i * W) R) W i = R := by
  have hin := seg_in (W := W) hi
  apply List.ext_getElem?
  intro j
  rw [seg_at]
  by_cases h : j < W
  · rw [if_pos h, splice_at (by omega), if_pos (by omega)]
    congr 1; omega
  · rw [if_neg h, List.getElem?_eq_none (by omega)]
theorem seg_splice_other {L R : List Nat} {n W i j : Nat} (hl : L.length = n * W) (hi : i < n) (hR : R.length = W) (h : i ≠ j) : seg (splice L (i * W) R) W j = seg L W j := by
  have hin := seg_in (W := W) hi
  apply List.ext_getElem?
  intro a
  rw [seg_at, seg_at]
  by_cases ha : a < W
  · rw [if_pos ha, if_pos ha, splice_at (by omega), if_neg]
    rintro ⟨h1, h2⟩
    exact seg_apart h (show j * W + a - i * W < W by omega) ha (by omega)
  · rw [if_neg ha, if_neg ha]
theorem seg_zero {n W i : Nat} (h : i < n) : seg (List.replicate (n * W) 0) W i = List.replicate W 0 := by
  have := seg_in (W := W) h
  unfold seg
  rw [List.drop_replicate, List.take_replicate]
  congr 1; omega
end Go.Proofs.Ytnechkljecdfkaa

namespace Go.Proofs.Ytnechkljecdfkaa
open Go.Lib

/-- How many of the first m states lead on. -/
def ldN (us S : List (List UInt8)) : Nat → Nat
  | 0 => 0
  | m + 1 => ldN us S m + if kidsL us (S.getD m []) = [] then 0 else 1
theorem ld_hit {us S : List (List UInt8)} {m : Nat} {s : List UInt8} (hs : S[m]? = some s) (h : kidsL us s ≠ []) : ldN us S (m + 1) = ldN us S m + 1 := by
  rw [ldN, List.getD_eq_getElem?_getD, hs]
  simp [h]
theorem ld_miss {us S : List (List UInt8)} {m : Nat} {s : List UInt8} (hs : S[m]? = some s) (h : kidsL us s = []) : ldN us S (m + 1) = ldN us S m := by
  rw [ldN, List.getD_eq_getElem?_getD, hs]
  simp [h]
theorem ld_le (us S : List (List UInt8)) : ∀ m, ldN us S m ≤ m
  | 0 => Nat.le_refl _
  | m + 1 => by
    have := ld_le us S m
    unfold ldN
    split <;> omega

/-- Does a cell belong to a state? -/
def tkC (C : List (Nat × Nat)) (j : Nat) : Bool := decide (0 < (C.getD j (0, 0)).2)
theorem tk_out {C : List (Nat × Nat)} {j : Nat} (h : C.length ≤ j) : tkC C j = false := by
  unfold tkC
  rw [List.getD_eq_getElem?_getD, List.getElem?_eq_none h]; rfl
theorem tk_in {C : List (Nat × Nat)} {j o x : Nat} (h : C[j]? = some (o, x)) : tkC C j = decide (0 < x) := by
  unfold tkC
  rw [List.getD_eq_getElem?_getD, h]; rfl
/-- Are the cells of these bytes free, from a place on? -/
def FreeAt (C : List (Nat × Nat)) (K : List UInt8) (p : Nat) : Prop := ∀ c ∈ K, tkC C (p + c.toNat) = false
theorem free_behind (C : List (Nat × Nat)) (K : List UInt8) {p : Nat} (h : C.length ≤ p) : FreeAt C K p := fun c _ => tk_out (by omega)

/-- The rows of the first m states are laid. -/
structure SpOk (us S : List (List UInt8)) (m : Nat) (P : List Nat) (C : List (Nat × Nat)) : Prop where
  plen : P.length = S.length
  has : ∀ (i : Nat) (s : List UInt8) (c : UInt8), i < m → S[i]? = some s → c ∈ kidsL us s → ∃ p x, P[i]? = some p ∧ C[p + c.toNat]? = some (i, x) ∧ S[x]? = some (s ++ [c])
  own : ∀ j o x : Nat, C[j]? = some (o, x) → 0 < x → o < m ∧ ∃ s p c, S[o]? = some s ∧ P[o]? = some p ∧ j = p + UInt8.toNat c ∧ c ∈ kidsL us s
  few : C.length ≤ 256 * ldN us S m
theorem SpOk.start (us S : List (List UInt8)) : SpOk us S 0 (List.replicate S.length 0) [] :=
  ⟨List.length_replicate .., fun i s c hi => absurd hi (Nat.not_lt_zero _), fun j o x h => by simp at h, by simp [ldN]⟩
theorem SpOk.none {us S : List (List UInt8)} {m : Nat} {P : List Nat} {C : List (Nat × Nat)} (h : SpOk us S m P C) {s : List UInt8} (hs : S[m]? = some s) (hk : kidsL us s = []) : SpOk us S (m + 1) P C := by
  refine ⟨h.plen, fun i t c hi ht hc => ?_, fun j o x hj hx => ?_, by rw [ld_miss hs hk]; exact h.few⟩
  · by_cases e : i = m
    · subst e
      obtain rfl : t = s := Option.some.inj (ht.symm.trans hs)
      rw [hk] at hc; cases hc
    · exact h.has i t c (by omega) ht hc
  · obtain ⟨h1, h2⟩ := h.own j o x hj hx
    exact ⟨by omega, h2⟩

/-- The cells of the first k bytes of a row are laid. -/
structure SpMid (S : List (List UInt8)) (i p : Nat) (s : List UInt8) (C1 : List (Nat × Nat)) (ks : List UInt8) (C : List (Nat × Nat)) : Prop where
  len : C.length = C1.length
  done : ∀ c ∈ ks, ∃ x, C[p + c.toNat]? = some (i, x) ∧ S[x]? = some (s ++ [c])
  rest : ∀ j, (∀ c ∈ ks, j ≠ p + UInt8.toNat c) → C[j]? = C1[j]?
theorem SpMid.start (S : List (List UInt8)) (i p : Nat) (s : List UInt8) (C1 : List (Nat × Nat)) : SpMid S i p s C1 [] C1 := ⟨rfl, fun c hc => absurd hc List.not_mem_nil, fun j _ => rfl⟩
theorem SpMid.put {S : List (List UInt8)} {i p : Nat} {s : List UInt8} {C1 C : List (Nat × Nat)} {ks : List UInt8} (h : SpMid S i p s C1 ks C) {c : UInt8} {x : Nat} (hx : S[x]? = some (s ++ [c])) (hl : p + c.toNat < C1.length) : SpMid S i p s C1 (ks ++ [c]) (C.set (p + c.toNat) (i, x)) := by
  refine ⟨by rw [List.length_set]; exact h.len, fun d hd => ?_, fun j hj => ?_⟩
  · by_cases e : d = c
    · subst e
      exact ⟨x, List.getElem?_set_self (by rw [h.len]; exact hl), hx⟩
    · rw [List.mem_append, List.mem_singleton] at hd
      obtain ⟨y, h1, h2⟩ := h.done d (hd.resolve_right e)
      refine ⟨y, ?_, h2⟩
      rw [List.getElem?_set_ne (fun e2 => e (UInt8.toNat_inj.1 (by omega)))]
      exact h1
  · rw [List.getElem?_set_ne (Ne.symm (hj c (by simp)))]
    exact h.rest j fun d hd => hj d (by simp [hd])

/-- A list with free cells behind it. -/
def moreC (C : List (Nat × Nat)) (n : Nat) : List (Nat × Nat) := C ++ List.replicate (n - C.length) (0, 0)
theorem more_length (C : List (Nat × Nat)) (n : Nat) : (moreC C n).length = max C.length n := by unfold moreC; simp; omega
theorem more_at {C : List (Nat × Nat)} {n j o x : Nat} (h : (moreC C n)[j]? = some (o, x)) (hx : 0 < x) : C[j]? = some (o, x) := by
  unfold moreC at h
  by_cases hj : j < C.length
  · rwa [List.getElem?_append_left hj] at h
  · rw [List.getElem?_append_right (by omega)] at h
    have := List.eq_of_mem_replicate (List.mem_of_getElem? h)
    cases this
    omega
theorem more_old {C : List (Nat × Nat)} {n j : Nat} {r : Nat × Nat} (h : C[j]? = some r) : (moreC C n)[j]? = some r := by
  unfold moreC
  rw [List.getElem?_append_left (List.getElem?_eq_some_iff.1 h).1]; exact h

/-- One more row is laid. -/
theorem SpOk.row {us S : List (List UInt8)} {m : Nat} {P : List Nat} {C C' : List (Nat × Nat)} (h : SpOk us S m P C) (h0 : S[0]? = some []) {s : List UInt8} (hs : S[m]? = some s) {p n : Nat} (hne : kidsL us s ≠ [])
    (hf : FreeAt C (kidsL us s) p) (hp : p ≤ C.length) (hn : n ≤ p + 256) (hM : SpMid S m p s (moreC C n) (kidsL us s) C') : SpOk us S (m + 1) (P.set m p) C' := by
  have hml := (List.getElem?_eq_some_iff.1 hs).1
  have hnew : ∀ (c : UInt8), c ∈ kidsL us s → ∀ o x, C[p + c.toNat]? = some (o, x) → x = 0 := fun c hc o x hx => by
    have h1 := hf c hc
    rw [tk_in hx] at h1
    have : ¬ 0 < x := by simpa using h1
    omega
  refine ⟨by rw [List.length_set]; exact h.plen, fun i t c hi ht hc => ?_, fun j o x hj hx => ?_, ?_⟩
  · by_cases e : i = m
    · subst e
      obtain rfl : t = s := Option.some.inj (ht.symm.trans hs)
      obtain ⟨x, h1, h2⟩ := hM.done c hc
      exact ⟨p, x, List.getElem?_set_self (by rw [h.plen]; exact hml), h1, h2⟩
    · obtain ⟨q, x, h1, h2, h3⟩ := h.has i t c (by omega) ht hc
      refine ⟨q, x, by rw [List.getElem?_set_ne (Ne.symm e)]; exact h1, ?_, h3⟩
      rw [hM.rest _ fun d hd e2 => ?_]
      · exact more_old h2
      · rw [e2] at h2
        have hx := hnew d hd _ _ h2
        subst hx
        rw [h0] at h3
        simp at h3
  · by_cases e : ∃ c ∈ kidsL us s, j = p + UInt8.toNat c
    · obtain ⟨c, hc, rfl⟩ := e
      obtain ⟨y, h1, h2⟩ := hM.done c hc
      rw [h1] at hj
      cases hj
      exact ⟨by omega, s, p, c, hs, List.getElem?_set_self (by rw [h.plen]; exact hml), rfl, hc⟩
    · rw [hM.rest j fun c hc e2 => e ⟨c, hc, e2⟩] at hj
      obtain ⟨h1, t, q, c, h2, h3, h4, h5⟩ := h.own j o x (more_at hj hx) hx
      exact ⟨by omega, t, q, c, h2, by rw [List.getElem?_set_ne (by omega)]; exact h3, h4, h5⟩
  · rw [ld_hit hs hne, hM.len, more_length]
    have := h.few
    omega

/-- What is told of a state and a byte. -/
theorem SpOk.hit {us S : List (List UInt8)} {P : List Nat} {C : List (Nat × Nat)} (h : SpOk us S S.length P C) (hst : IsSt us S) {i : Nat} {s : List UInt8} (hs : S[i]? = some s) {c : UInt8} (hc : s ++ [c] ∈ S) : ∃ p x, P[i]? = some p ∧ C[p + c.toNat]? = some (i, x) ∧ S[x]? = some (s ++ [c]) := by
  refine h.has i s c (List.getElem?_eq_some_iff.1 hs).1 hs (kids_mem.2 ?_)
  rcases (hst.2 _).1 hc with h1 | h1
  · simp at h1
  · exact h1
theorem SpOk.miss {us S : List (List UInt8)} {P : List Nat} {C : List (Nat × Nat)} (h : SpOk us S S.length P C) (hst : IsSt us S) {i : Nat} {s : List UInt8} (hs : S[i]? = some s) {c : UInt8} (hc : s ++ [c] ∉ S) {p o x : Nat} (hp : P[i]? = some p) (hx : C[p + c.toNat]? = some (o, x)) : x = 0 ∨ o ≠ i := by
  by_cases h0 : x = 0
  · exact .inl h0
  · refine .inr fun e => ?_
    subst e
    obtain ⟨_, t, q, d, h1, h2, h3, h4⟩ := h.own _ _ _ hx (by omega)
    obtain rfl : t = s := Option.some.inj (h1.symm.trans hs)
    obtain rfl : q = p := Option.some.inj (h2.symm.trans hp)
    have : d = c := UInt8.toNat_inj.1 (by omega)
    subst this
    exact hc ((hst.2 _).2 (.inr (kids_mem.1 h4)))
/-- There are as many cells as states but the root. -/
theorem SpOk.least {us S : List (List UInt8)} {P : List Nat} {C : List (Nat × Nat)} (h : SpOk us S S.length P C) (hst : IsSt us S) (h0 : S[0]? = some []) : S.length ≤ C.length + 1 := by
  have hnd := slx_nodup hst.1
  have h1 : ((List.range (S.length - 1)).map (· + 1)).Nodup := by
    rw [List.Nodup, List.pairwise_map]
    exact List.nodup_range.imp fun {a b} hab e => hab (by omega)
  have := subset_length ((List.range (S.length - 1)).map (· + 1)) (C.map (·.2)) h1 fun x hx => by
    obtain ⟨y, hy, rfl⟩ := List.mem_map.1 hx
    rw [List.mem_range] at hy
    obtain ⟨q, hq⟩ : ∃ q, S[y + 1]? = some q := ⟨_, List.getElem?_eq_getElem (show y + 1 < S.length by omega)⟩
    rcases List.eq_nil_or_concat q with rfl | ⟨s, c, rfl⟩
    · have := rise_same hst.1 hq h0
      omega
    · rw [List.concat_eq_append] at hq
      have hm := List.mem_of_getElem? hq
      have hd := st_closed hst _ hm
      rw [List.dropLast_concat] at hd
      obtain ⟨i, hi⟩ := List.mem_iff_getElem?.1 hd
      obtain ⟨p, x, _, h2, h3⟩ := h.hit hst hi hm
      have e := rise_same hst.1 h3 hq
      subst e
      exact List.mem_map.2 ⟨_, List.mem_of_getElem? h2, rfl⟩
  simp at this
  omega
theorem SpOk.most {us S : List (List UInt8)} {m : Nat} {P : List Nat} {C : List (Nat × Nat)} (h : SpOk us S m P C) : C.length ≤ 256 * m := by
  have h1 := h.few
  have h2 := ld_le us S m
  omega
end Go.Proofs.Ytnechkljecdfkaa
