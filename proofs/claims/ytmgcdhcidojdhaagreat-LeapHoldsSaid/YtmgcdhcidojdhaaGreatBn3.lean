/-
  Texts put together: BuM, BdM, ShM, PrM.
-/
import Derived.Test.YtmgcdhcidojdhaaGreatBn2
import Derived.Lib.Hide
set_option linter.unusedSimpArgs false
set_option linter.unusedVariables false
namespace Go.Proofs.YtmgcdhcidojdhaaGreat

/-- A text's last byte. -/
def lastN (t : List UInt8) : Option Nat := t.getLast?.map UInt8.toNat
/-- Does this one of the texts end with the byte? -/
def endsN (ws : List (List UInt8)) (c k : Nat) : Bool := lastN (ws.getD k []) == some c
/-- The numbers of those of the first k texts that end with a byte. -/
def bidsK (ws : List (List UInt8)) (c : Nat) : Nat → List Int
  | 0 => []
  | k + 1 => if endsN ws c k = true then bidsK ws c k ++ [(k : Int)] else bidsK ws c k
def idsL (ws : List (List UInt8)) (c : Nat) : List Int := bidsK ws c ws.length
/-- How long one of the texts is. -/
def lenAt (ws : List (List UInt8)) (x : Int) : Nat := (ws.getD x.toNat []).length
/-- How long the shortest of the first j of these is. -/
def lstK (ws : List (List UInt8)) (ids : List Int) : Nat → Nat
  | 0 => 0
  | j + 1 => if j = 0 ∨ lenAt ws (ids.getD j 0) < lstK ws ids j then lenAt ws (ids.getD j 0) else lstK ws ids j
def lstA (ws : List (List UInt8)) (ids : List Int) : Nat := lstK ws ids ids.length
def lstL (ws : List (List UInt8)) (c : Nat) : Nat := lstA ws (idsL ws c)
/-- Those of the first n bytes with which a text ends. -/
def bytK (ws : List (List UInt8)) : Nat → List UInt8
  | 0 => []
  | n + 1 => if (idsL ws n).length = 0 then bytK ws n else bytK ws n ++ [UInt8.ofNat n]
def bytL (ws : List (List UInt8)) : List UInt8 := bytK ws 256

theorem lastN_lt {t : List UInt8} {c : Nat} (h : lastN t = some c) : c < 256 := by
  unfold lastN at h
  cases hg : t.getLast? with
  | none => simp [hg] at h
  | some x => simp [hg] at h; have := UInt8.toNat_lt x; omega
theorem lastN_some {t : List UInt8} (h : 0 < t.length) : ∃ c, c < 256 ∧ lastN t = some c ∧ (t[t.length - 1]'(by omega)).toNat = c := by
  refine ⟨(t[t.length - 1]'(by omega)).toNat, UInt8.toNat_lt _, ?_, rfl⟩
  unfold lastN
  rw [List.getLast?_eq_getElem?, List.getElem?_eq_getElem (show t.length - 1 < t.length by omega)]
  rfl
theorem lastN_at {t : List UInt8} {c : Nat} (h : 0 < t.length) : lastN t = some c ↔ (t[t.length - 1]'(by omega)).toNat = c := by
  obtain ⟨d, _, h1, h2⟩ := lastN_some h
  rw [h1, h2]
  simp
theorem lastN_nil : lastN [] = none := rfl

theorem getD_of {ws : List (List UInt8)} {k : Nat} {t : List UInt8} (h : ws[k]? = some t) : ws.getD k [] = t := by simp [List.getD, h]
theorem ends_of {ws : List (List UInt8)} {k c : Nat} {t : List UInt8} (h : ws[k]? = some t) : endsN ws c k = true ↔ lastN t = some c := by
  unfold endsN; rw [getD_of h]; simp

theorem bids_hit {ws : List (List UInt8)} {c k : Nat} (h : endsN ws c k = true) : bidsK ws c (k + 1) = bidsK ws c k ++ [(k : Int)] := if_pos h
theorem bids_miss {ws : List (List UInt8)} {c k : Nat} (h : ¬ endsN ws c k = true) : bidsK ws c (k + 1) = bidsK ws c k := if_neg h
theorem bids_length (ws : List (List UInt8)) (c : Nat) : ∀ k, (bidsK ws c k).length ≤ k
  | 0 => Nat.le_refl _
  | k + 1 => by
    have := bids_length ws c k
    unfold bidsK
    split
    · rw [List.length_append]; simp; omega
    · omega
theorem bids_mem {ws : List (List UInt8)} {c : Nat} {x : Int} : ∀ {k : Nat}, x ∈ bidsK ws c k → ∃ m : Nat, x = m ∧ m < k ∧ endsN ws c m = true
  | 0, h => by simp [bidsK] at h
  | k + 1, h => by
    unfold bidsK at h
    split at h
    · rename_i he
      rcases List.mem_append.1 h with h | h
      · obtain ⟨m, h1, h2, h3⟩ := bids_mem h
        exact ⟨m, h1, by omega, h3⟩
      · simp at h
        exact ⟨k, h, by omega, he⟩
    · obtain ⟨m, h1, h2, h3⟩ := bids_mem h
      exact ⟨m, h1, by omega, h3⟩
/-- What one of a bucket's numbers is. -/
theorem ids_at {ws : List (List UInt8)} {c j : Nat} (h : j < (idsL ws c).length) : ∃ m t, (idsL ws c).getD j 0 = ((m : Nat) : Int) ∧ ws[m]? = some t ∧ lastN t = some c ∧ 0 < t.length := by
  have hm : (idsL ws c).getD j 0 ∈ idsL ws c := by
    simp only [List.getD, List.getElem?_eq_getElem h, Option.getD_some]
    exact List.getElem_mem _
  obtain ⟨m, h1, h2, h3⟩ := bids_mem hm
  obtain ⟨t, ht⟩ : ∃ t, ws[m]? = some t := ⟨_, List.getElem?_eq_getElem h2⟩
  have hl := (ends_of ht).1 h3
  refine ⟨m, t, h1, ht, hl, ?_⟩
  rcases Nat.eq_zero_or_pos t.length with h0 | h0
  · rw [List.length_eq_zero_iff.1 h0, lastN_nil] at hl; cases hl
  · exact h0

theorem lst_congr (ws : List (List UInt8)) (ids more : List Int) : ∀ j, j ≤ ids.length → lstK ws (ids ++ more) j = lstK ws ids j
  | 0, _ => rfl
  | j + 1, h => by
    have e : (ids ++ more).getD j 0 = ids.getD j 0 := by simp only [List.getD, List.getElem?_append_left (show j < ids.length by omega)]
    unfold lstK
    rw [e, lst_congr ws ids more j (by omega)]
theorem lst_snoc (ws : List (List UInt8)) (ids : List Int) (x : Int) : lstA ws (ids ++ [x]) = if ids.length = 0 ∨ lenAt ws x < lstA ws ids then lenAt ws x else lstA ws ids := by
  unfold lstA
  rw [List.length_append, List.length_singleton]
  have e : (ids ++ [x]).getD ids.length 0 = x := by simp [List.getD]
  rw [lstK, e, lst_congr ws ids [x] _ (Nat.le_refl _)]
theorem lst_nil (ws : List (List UInt8)) : lstA ws [] = 0 := rfl
theorem lst_le {ws : List (List UInt8)} {m : Nat} (h : ∀ t ∈ ws, t.length ≤ m) (ids : List Int) : ∀ j, lstK ws ids j ≤ m
  | 0 => Nat.zero_le _
  | j + 1 => by
    have h1 : lenAt ws (ids.getD j 0) ≤ m := by
      unfold lenAt
      simp only [List.getD]
      cases hg : ws[(ids[j]?.getD 0).toNat]? with
      | none => simp
      | some t => exact h t (List.mem_of_getElem? hg)
    have := lst_le h ids j
    unfold lstK
    split <;> omega
theorem lenAt_of {ws : List (List UInt8)} {k : Nat} {t : List UInt8} (h : ws[k]? = some t) : lenAt ws (k : Int) = t.length := by
  unfold lenAt; rw [Int.toNat_natCast, getD_of h]

theorem byt_miss {ws : List (List UInt8)} {n : Nat} (h : (idsL ws n).length = 0) : bytK ws (n + 1) = bytK ws n := if_pos h
theorem byt_hit {ws : List (List UInt8)} {n : Nat} (h : ¬ (idsL ws n).length = 0) : bytK ws (n + 1) = bytK ws n ++ [UInt8.ofNat n] := if_neg h
theorem byt_length (ws : List (List UInt8)) : ∀ n, (bytK ws n).length ≤ n
  | 0 => Nat.le_refl _
  | n + 1 => by
    have := byt_length ws n
    unfold bytK
    split
    · omega
    · rw [List.length_append]; simp; omega

/-- So many patterns are in the buckets of these bytes. -/
def bcntL (ws : List (List UInt8)) : List UInt8 → Nat
  | [] => 0
  | c :: l => (idsL ws c.toNat).length + bcntL ws l
theorem cnt_append (ws : List (List UInt8)) : ∀ a b, bcntL ws (a ++ b) = bcntL ws a + bcntL ws b
  | [], b => by simp [bcntL]
  | c :: a, b => by rw [List.cons_append, bcntL, bcntL, cnt_append ws a b]; omega
theorem cnt_snoc {ws : List (List UInt8)} {l : List UInt8} {i : Nat} (h : i < l.length) : bcntL ws (l.take (i + 1)) = bcntL ws (l.take i) + (idsL ws (l[i]).toNat).length := by
  rw [List.take_succ_eq_append_getElem h, cnt_append]
  simp [bcntL]
theorem cnt_take_le (ws : List (List UInt8)) (l : List UInt8) (i : Nat) : bcntL ws (l.take i) ≤ bcntL ws l := by
  have := cnt_append ws (l.take i) (l.drop i)
  rw [List.take_append_drop] at this
  omega
/-- .. and of the first k in those of the first n bytes. -/
def sumK (ws : List (List UInt8)) (k : Nat) : Nat → Nat
  | 0 => 0
  | n + 1 => sumK ws k n + (bidsK ws n k).length
theorem sum_zero (ws : List (List UInt8)) : ∀ n, sumK ws 0 n = 0
  | 0 => rfl
  | n + 1 => by rw [sumK, sum_zero ws n]; rfl
theorem sum_miss {ws : List (List UInt8)} {k : Nat} : ∀ {n : Nat}, (∀ c, c < n → ¬ endsN ws c k = true) → sumK ws (k + 1) n = sumK ws k n
  | 0, _ => rfl
  | n + 1, h => by rw [sumK, sumK, sum_miss (fun c hc => h c (by omega)), bids_miss (h n (by omega))]
theorem sum_hit {ws : List (List UInt8)} {k c : Nat} (he : ∀ d, endsN ws d k = true ↔ d = c) : ∀ {n : Nat}, c < n → sumK ws (k + 1) n = sumK ws k n + 1
  | 0, h => by omega
  | n + 1, h => by
    rw [sumK, sumK]
    by_cases hc : c = n
    · rw [sum_miss (fun d hd => by rw [he]; omega), bids_hit ((he n).2 hc.symm), List.length_append]
      simp; omega
    · rw [sum_hit he (show c < n by omega), bids_miss (by rw [he]; omega)]
      omega
theorem sum_all {ws : List (List UInt8)} (h : ∀ t ∈ ws, 0 < t.length) : ∀ k, k ≤ ws.length → sumK ws k 256 = k
  | 0, _ => sum_zero ws 256
  | k + 1, hk => by
    obtain ⟨t, ht⟩ : ∃ t, ws[k]? = some t := ⟨_, List.getElem?_eq_getElem (by omega)⟩
    obtain ⟨c, hc, hl, _⟩ := lastN_some (h t (List.mem_of_getElem? ht))
    rw [sum_hit (c := c) (fun d => by rw [ends_of ht, hl]; simp [eq_comm]) hc, sum_all h k (by omega)]
theorem cnt_byt (ws : List (List UInt8)) : ∀ n, n ≤ 256 → bcntL ws (bytK ws n) = sumK ws ws.length n
  | 0, _ => rfl
  | n + 1, h => by
    have ih := cnt_byt ws n (by omega)
    rw [sumK]
    by_cases h0 : (idsL ws n).length = 0
    · rw [byt_miss h0, ih]
      unfold idsL at h0
      omega
    · rw [byt_hit h0, cnt_append, ih]
      simp only [bcntL, Nat.add_zero]
      rw [show (UInt8.ofNat n).toNat = n from by simp; omega]
      rfl
/-- Each pattern is in just one bucket. -/
theorem cnt_all {ws : List (List UInt8)} (h : ∀ t ∈ ws, 0 < t.length) : bcntL ws (bytL ws) = ws.length := by
  unfold bytL
  rw [cnt_byt ws 256 (Nat.le_refl _), sum_all h _ (Nat.le_refl _)]

theorem bids_none (c : Nat) : idsL [] c = [] := rfl
theorem lst_none (c : Nat) : lstL [] c = 0 := rfl
theorem byt_none : bytL [] = [] := by
  unfold bytL
  suffices h : ∀ n, bytK [] n = [] from h 256
  intro n
  induction n with
  | zero => rfl
  | succ n ih => rw [byt_miss (by rw [bids_none]; rfl), ih]
end Go.Proofs.YtmgcdhcidojdhaaGreat

namespace Go.Proofs.YtmgcdhcidojdhaaGreat

/-- The greatest number up to n of which p holds, or 0. -/
def mx (p : Nat → Bool) : Nat → Nat
  | 0 => 0
  | n + 1 => if p (n + 1) then n + 1 else mx p n

theorem mx_le (p : Nat → Bool) : ∀ n, mx p n ≤ n
  | 0 => Nat.le_refl _
  | n + 1 => by
    have := mx_le p n
    unfold mx
    split <;> omega
theorem mx_holds (p : Nat → Bool) : ∀ n, mx p n = 0 ∨ p (mx p n) = true
  | 0 => .inl rfl
  | n + 1 => by
    have := mx_holds p n
    unfold mx
    split
    · rename_i h; exact .inr h
    · exact this
theorem mx_max (p : Nat → Bool) : ∀ n i, i ≤ n → p i = true → i ≤ mx p n
  | 0, i, hi, _ => hi
  | n + 1, i, hi, h => by
    unfold mx
    split
    · exact hi
    · rename_i hn
      by_cases e : i = n + 1
      · subst e; exact absurd h hn
      · exact mx_max p n i (by omega) h
theorem mx_is {p : Nat → Bool} {n m : Nat} (h1 : m ≤ n) (h2 : m = 0 ∨ p m = true) (h3 : ∀ i, i ≤ n → p i = true → i ≤ m) : mx p n = m := by
  have b := mx_le p n
  refine Nat.le_antisymm ?_ ?_
  · rcases mx_holds p n with a | a
    · omega
    · exact h3 _ b a
  · rcases h2 with h | h
    · omega
    · exact mx_max p n m h1 h
theorem mx_congr {p q : Nat → Bool} : ∀ n, (∀ i, 0 < i → i ≤ n → p i = q i) → mx p n = mx q n
  | 0, _ => rfl
  | n + 1, h => by
    unfold mx
    rw [h (n + 1) (by omega) (Nat.le_refl _), mx_congr n (fun i h0 hi => h i h0 (by omega))]
theorem mx_next (p : Nat → Bool) (n : Nat) : mx p (n + 1) = if p (n + 1) then n + 1 else mx p n := rfl

/-- The numbers up to n of which p holds, the greatest first. -/
def dn (p : Nat → Bool) : Nat → List Int
  | 0 => []
  | n + 1 => if p (n + 1) then ((n + 1 : Nat) : Int) :: dn p n else dn p n
theorem dn_next (p : Nat → Bool) (n : Nat) : dn p (n + 1) = if p (n + 1) then ((n + 1 : Nat) : Int) :: dn p n else dn p n := rfl
theorem dn_mx (p : Nat → Bool) : ∀ n, dn p n = dn p (mx p n)
  | 0 => rfl
  | n + 1 => by
    rw [mx_next]
    split
    · rfl
    · rename_i h
      rw [dn_next, if_neg h]
      exact dn_mx p n
theorem dn_mem (p : Nat → Bool) : ∀ n, ∀ x ∈ dn p n, ∃ j : Nat, x = (j : Int) ∧ 0 < j ∧ j ≤ n ∧ p j = true
  | 0, x, h => by simp [dn] at h
  | n + 1, x, h => by
    rw [dn_next] at h
    have := dn_mem p n x
    split at h
    · rename_i hp
      rcases List.mem_cons.1 h with e | h
      · exact ⟨n + 1, e, by omega, Nat.le_refl _, hp⟩
      · obtain ⟨j, a, b, c, d⟩ := this h
        exact ⟨j, a, b, by omega, d⟩
    · obtain ⟨j, a, b, c, d⟩ := this h
      exact ⟨j, a, b, by omega, d⟩
theorem dn_falls (p : Nat → Bool) : ∀ n, (dn p n).Pairwise (fun x y => y < x)
  | 0 => List.Pairwise.nil
  | n + 1 => by
    rw [dn_next]
    split
    · refine List.Pairwise.cons (fun y hy => ?_) (dn_falls p n)
      obtain ⟨j, a, _, c, _⟩ := dn_mem p n y hy
      omega
    · exact dn_falls p n
theorem dn_length (p : Nat → Bool) : ∀ n, (dn p n).length ≤ n
  | 0 => Nat.le_refl _
  | n + 1 => by
    have := dn_length p n
    rw [dn_next]
    split
    · rw [List.length_cons]; omega
    · omega
/-- The first one, if there is any. -/
theorem dn_head (p : Nat → Bool) : ∀ n, (dn p n = [] ∧ mx p n = 0) ∨ ∃ r, dn p n = (mx p n : Int) :: r
  | 0 => .inl ⟨rfl, rfl⟩
  | n + 1 => by
    rw [dn_next, mx_next]
    split
    · exact .inr ⟨_, rfl⟩
    · exact dn_head p n

/-! suffixes -/
theorem snoc_suf {a u : List UInt8} {x c : UInt8} : a ++ [x] <:+ u ++ [c] ↔ a <:+ u ∧ x = c := by
  rw [← List.reverse_prefix, List.reverse_append, List.reverse_append]
  simp only [List.reverse_cons, List.reverse_nil, List.nil_append, List.cons_append, List.cons_prefix_cons, List.reverse_prefix]
  exact And.comm
theorem take_suf {t u : List UInt8} {c : UInt8} {j : Nat} (hj : j < t.length) : t.take (j + 1) <:+ u ++ [c] ↔ t.take j <:+ u ∧ t[j] = c := by
  rw [List.take_succ_eq_append_getElem hj]; exact snoc_suf
theorem suf_len {t u : List UInt8} {k : Nat} (hk : k ≤ t.length) (h : t.take k <:+ u) : k ≤ u.length := by
  have := h.length_le
  rw [List.length_take] at this
  omega
theorem suf_cmp {t u v : List UInt8} (h1 : t <:+ v) (h2 : u <:+ v) (h : t.length ≤ u.length) : t <:+ u := List.suffix_of_suffix_length_le h1 h2 h

/-! the longest border -/
/-- Has a text a border of this length? -/
def bd (l : List UInt8) (n : Nat) : Bool := decide (0 < n ∧ n < l.length) && (l.take n == l.drop (l.length - n))
theorem take_drop_suf {l : List UInt8} {n : Nat} (h : n ≤ l.length) : l.take n = l.drop (l.length - n) ↔ l.take n <:+ l := by
  rw [List.suffix_iff_eq_drop, List.length_take, Nat.min_eq_left h]
theorem bd_iff {l : List UInt8} {n : Nat} : bd l n = true ↔ 0 < n ∧ n < l.length ∧ l.take n <:+ l := by
  unfold bd
  rw [Bool.and_eq_true, decide_eq_true_iff, beq_iff_eq]
  constructor
  · rintro ⟨⟨a, b⟩, c⟩
    exact ⟨a, b, (take_drop_suf (by omega)).1 c⟩
  · rintro ⟨a, b, c⟩
    exact ⟨⟨a, b⟩, (take_drop_suf (by omega)).2 c⟩

/-- How long the longest border is. -/
def lonB (l : List UInt8) : Nat := mx (bd l) (l.length - 1)
theorem lon_le (l : List UInt8) : lonB l ≤ l.length - 1 := mx_le _ _
theorem lon_or (l : List UInt8) : lonB l = 0 ∨ bd l (lonB l) = true := mx_holds _ _
theorem lon_suf (l : List UInt8) : l.take (lonB l) <:+ l := by
  rcases lon_or l with h | h
  · rw [h]; exact List.nil_suffix
  · exact (bd_iff.1 h).2.2
theorem lon_max {l : List UInt8} {i : Nat} (h : bd l i = true) : i ≤ lonB l := mx_max _ _ _ (by have := bd_iff.1 h; omega) h
theorem lon_is {l : List UInt8} {m : Nat} (h1 : m ≤ l.length - 1) (h2 : l.take m <:+ l) (h3 : ∀ i, bd l i = true → i ≤ m) : lonB l = m := by
  refine mx_is h1 ?_ (fun i _ h => h3 i h)
  rcases Nat.eq_zero_or_pos m with h | h
  · exact .inl h
  · exact .inr (bd_iff.2 ⟨h, by omega, h2⟩)

theorem take_take_le (l : List UInt8) {i k : Nat} (h : i ≤ k) : (l.take k).take i = l.take i := by rw [List.take_take, Nat.min_eq_left h]
theorem len_take (l : List UInt8) {k : Nat} (h : k ≤ l.length) : (l.take k).length = k := by rw [List.length_take]; omega

/-- A border of a border, and the other way. -/
theorem bd_take {l : List UInt8} {n i : Nat} (h : bd l n = true) (hi : i < n) : bd (l.take n) i = bd l i := by
  obtain ⟨a, b, c⟩ := bd_iff.1 h
  rw [Bool.eq_iff_iff, bd_iff, bd_iff, len_take l (by omega), take_take_le l (by omega)]
  constructor
  · rintro ⟨h1, h2, h3⟩
    exact ⟨h1, by omega, h3.trans c⟩
  · rintro ⟨h1, h2, h3⟩
    exact ⟨h1, hi, suf_cmp h3 c (by rw [len_take l (by omega), len_take l (by omega)]; omega)⟩

theorem bds_next {l : List UInt8} {n : Nat} (h : bd l n = true) : dn (bd l) n = (n : Int) :: dn (bd l) (lonB (l.take n)) := by
  have h0 := bd_iff.1 h
  obtain ⟨m, rfl⟩ : ∃ m, n = m + 1 := ⟨n - 1, by omega⟩
  rw [dn_next, if_pos h, dn_mx (bd l) m]
  congr 2
  unfold lonB
  rw [len_take l (by omega), Nat.add_sub_cancel]
  exact mx_congr m (fun i _ hi => (bd_take h (by omega)).symm)

/-! with how much of t does u end? -/
def endK (t u : List UInt8) : Nat := mx (fun k => decide (k ≤ t.length ∧ t.take k <:+ u)) t.length
theorem endK_le (t u : List UInt8) : endK t u ≤ t.length := mx_le _ _
theorem endK_suf (t u : List UInt8) : t.take (endK t u) <:+ u := by
  rcases mx_holds (fun k => decide (k ≤ t.length ∧ t.take k <:+ u)) t.length with h | h
  · show t.take (mx _ _) <:+ u
    rw [h]; exact List.nil_suffix
  · exact (of_decide_eq_true h).2
theorem endK_max {t u : List UInt8} {i : Nat} (hi : i ≤ t.length) (h : t.take i <:+ u) : i ≤ endK t u := mx_max _ _ _ hi (decide_eq_true ⟨hi, h⟩)
theorem endK_is {t u : List UInt8} {m : Nat} (h1 : m ≤ t.length) (h2 : t.take m <:+ u) (h3 : ∀ i, i ≤ t.length → t.take i <:+ u → i ≤ m) : endK t u = m :=
  mx_is h1 (.inr (decide_eq_true ⟨h1, h2⟩)) (fun i hi h => h3 i hi (of_decide_eq_true h).2)
theorem endK_len (t u : List UInt8) : endK t u ≤ u.length := suf_len (endK_le t u) (endK_suf t u)
theorem endK_all {t u : List UInt8} : endK t u = t.length ↔ t <:+ u := by
  constructor
  · intro h
    have := endK_suf t u
    rwa [h, List.take_length] at this
  · intro h
    exact Nat.le_antisymm (endK_le t u) (endK_max (Nat.le_refl _) (by rwa [List.take_length]))
theorem endK_congr {t u v : List UInt8} {c : UInt8} (h : ∀ j (hj : j < t.length), t[j] = c → (t.take j <:+ u ↔ t.take j <:+ v)) : endK t (u ++ [c]) = endK t (v ++ [c]) := by
  refine mx_congr _ (fun i h0 hi => ?_)
  obtain ⟨j, rfl⟩ : ∃ j, i = j + 1 := ⟨i - 1, by omega⟩
  congr 1
  rw [take_suf (u := u) (show j < t.length by omega), take_suf (u := v) (show j < t.length by omega)]
  refine propext ⟨?_, ?_⟩
  · rintro ⟨a, b, e⟩; exact ⟨a, (h j _ e).1 b, e⟩
  · rintro ⟨a, b, e⟩; exact ⟨a, (h j _ e).2 b, e⟩
/-- One byte more: what was there ahead of the end is not asked for. -/
theorem endK_step (t u : List UInt8) (c : UInt8) : endK t (u ++ [c]) = endK t (t.take (endK t u) ++ [c]) :=
  endK_congr (fun j hj _ => ⟨fun h => suf_cmp h (endK_suf t u) (by
    have := endK_max (show j ≤ t.length by omega) h
    have := endK_le t u
    rw [len_take t (by omega), len_take t (by omega)]; omega), fun h => h.trans (endK_suf t u)⟩)
theorem endK_hit {t : List UInt8} {k : Nat} {c : UInt8} (hk : k < t.length) (h : t[k] = c) : endK t (t.take k ++ [c]) = k + 1 := by
  rw [← h, ← List.take_succ_eq_append_getElem hk]
  refine endK_is hk (List.suffix_refl _) (fun i hi hs => ?_)
  have := suf_len hi hs
  rwa [len_take t hk] at this
theorem endK_zero {t : List UInt8} {c : UInt8} (h : ∀ (hk : 0 < t.length), t[0] ≠ c) : endK t (t.take 0 ++ [c]) = 0 := by
  refine endK_is (Nat.zero_le _) List.nil_suffix (fun i hi hs => ?_)
  have := suf_len hi hs
  simp at this
  rcases Nat.eq_zero_or_pos i with h0 | h0
  · omega
  · obtain rfl : i = 0 + 1 := by omega
    exact absurd ((take_suf (show 0 < t.length by omega)).1 hs).2 (h (by omega))
theorem endK_fall {t : List UInt8} {k : Nat} {c : UInt8} (h0 : 0 < k) (hk : k ≤ t.length) (h : ∀ (hk : k < t.length), t[k] ≠ c) : endK t (t.take k ++ [c]) = endK t (t.take (lonB (t.take k)) ++ [c]) := by
  have hl := lon_le (t.take k)
  have hs := lon_suf (t.take k)
  rw [len_take t hk] at hl
  rw [take_take_le t (by omega)] at hs
  refine endK_congr (fun j hj e => ⟨fun hx => ?_, fun hx => hx.trans hs⟩)
  have hjk := suf_len (by omega) hx
  rw [len_take t hk] at hjk
  have hne : j ≠ k := fun e2 => h (by omega) (by subst e2; exact e)
  refine suf_cmp hx hs ?_
  rw [len_take t (by omega), len_take t (by omega)]
  rcases Nat.eq_zero_or_pos j with hz | hz
  · omega
  · exact lon_max (bd_iff.2 ⟨hz, by rw [len_take t hk]; omega, by rw [take_take_le t (by omega)]; exact hx⟩)

/-- The table's next number. -/
theorem lon_step {l : List UInt8} {n : Nat} (h0 : 0 < n) (hn : n < l.length) : lonB (l.take (n + 1)) = endK l (l.take (lonB (l.take n)) ++ [l[n]]) := by
  have hl := lon_le (l.take n)
  have hs := lon_suf (l.take n)
  rw [len_take l (by omega)] at hl
  rw [take_take_le l (by omega)] at hs
  have he := endK_len l (l.take (lonB (l.take n)) ++ [l[n]])
  rw [List.length_append, List.length_singleton, len_take l (by omega)] at he
  have hx := List.take_succ_eq_append_getElem hn
  refine lon_is ?_ ?_ (fun i hi => ?_)
  · rw [len_take l hn]; omega
  · rw [take_take_le l (by omega), hx]
    exact (endK_suf l _).trans (snoc_suf.2 ⟨hs, rfl⟩)
  · obtain ⟨a, b, c⟩ := bd_iff.1 hi
    rw [len_take l hn] at b
    rw [take_take_le l (by omega), hx] at c
    obtain ⟨j, rfl⟩ : ∃ j, i = j + 1 := ⟨i - 1, by omega⟩
    obtain ⟨c1, c2⟩ := (take_suf (show j < l.length by omega)).1 c
    refine endK_max (by omega) ((take_suf (show j < l.length by omega)).2 ⟨suf_cmp c1 hs ?_, c2⟩)
    rw [len_take l (by omega), len_take l (by omega)]
    rcases Nat.eq_zero_or_pos j with hz | hz
    · omega
    · exact lon_max (bd_iff.2 ⟨hz, by rw [len_take l (by omega)]; omega, by rw [take_take_le l (by omega)]; exact c1⟩)
theorem lon_none {l : List UInt8} (h : l.length ≤ 1) : lonB l = 0 := by have := lon_le l; omega

/-! tables -/
/-- For each beginning that is shorter than n, its longest border. -/
def tabQ (l : List UInt8) (n : Nat) : List Int := (List.range n).map fun j => (lonB (l.take j) : Int)
theorem tabQ_next (l : List UInt8) (n : Nat) : tabQ l (n + 1) = tabQ l n ++ [(lonB (l.take n) : Int)] := by simp [tabQ, List.range_succ]
theorem tabQ_length (l : List UInt8) (n : Nat) : (tabQ l n).length = n := by simp [tabQ]
theorem tabQ_get (l : List UInt8) (n j : Nat) (h : j < n) : (tabQ l n).getD j 0 = (lonB (l.take j) : Int) := by simp [tabQ, List.getD, h]
/-- The same, and zeros behind. -/
def tabP (l : List UInt8) (n : Nat) : List Int := tabQ l n ++ List.replicate (l.length + 1 - n) 0
theorem tabP_length (l : List UInt8) (n : Nat) (h : n ≤ l.length + 1) : (tabP l n).length = l.length + 1 := by simp [tabP, tabQ_length]; omega
theorem tabP_get (l : List UInt8) (n j : Nat) (h : j < n) : (tabP l n).getD j 0 = (lonB (l.take j) : Int) := by
  have := tabQ_get l n j h
  rw [← this]
  simp [tabP, List.getD, List.getElem?_append, tabQ_length, h]
theorem tabP_zero (l : List UInt8) (h : 0 < l.length + 1) : tabP l 1 = List.replicate (l.length + 1) 0 := by
  rw [show l.length + 1 = (l.length + 1 - 1) + 1 by omega, List.replicate_succ, tabP, show tabQ l 1 = [0] by simp [tabQ, lon_none]]
  simp
theorem tabP_full (l : List UInt8) : tabP l (l.length + 1) = tabQ l (l.length + 1) := by simp [tabP]
theorem tabP_set (l : List UInt8) (n : Nat) (h : n ≤ l.length) : (tabP l n).set n (lonB (l.take n) : Int) = tabP l (n + 1) := by
  rw [tabP, tabP, tabQ_next, List.set_append_right _ _ (by rw [tabQ_length]; exact Nat.le_refl _), tabQ_length, Nat.sub_self, show l.length + 1 - n = (l.length + 1 - (n + 1)) + 1 by omega, List.replicate_succ, List.set_cons_zero, List.append_assoc, List.singleton_append]

/-! periods -/
/-- The least period. -/
def per (l : List UInt8) : Nat := l.length - lonB l
theorem per_border {l : List UInt8} {p : Nat} (h : p ≤ l.length) : l.drop p = l.take (l.length - p) ↔ l.take (l.length - p) <:+ l := by
  rw [← take_drop_suf (by omega), show l.length - (l.length - p) = p by omega]
  exact eq_comm
theorem per_hit {l : List UInt8} {p : Nat} (h0 : 1 ≤ p) (hp : p ≤ per l) (h : l.drop p = l.take (l.length - p)) : p = per l := by
  have hle : p ≤ l.length := Nat.le_trans hp (Nat.sub_le _ _)
  have hs := (per_border hle).1 h
  have hl := lon_le l
  unfold per at hp ⊢
  rcases Nat.eq_zero_or_pos (l.length - p) with hz | hz
  · omega
  · have := lon_max (bd_iff.2 ⟨hz, by omega, hs⟩)
    omega
theorem per_is (l : List UInt8) : l.drop (per l) = l.take (l.length - per l) := by
  have hl := lon_le l
  have hle : per l ≤ l.length := Nat.sub_le _ _
  have e : l.length - per l = lonB l := by unfold per; omega
  rw [per_border hle, e]
  exact lon_suf l
theorem per_miss {l : List UInt8} {p : Nat} (hp : p ≤ per l) (h : ¬ l.drop p = l.take (l.length - p)) : p + 1 ≤ per l := by
  rcases Nat.lt_or_ge p (per l) with h1 | h1
  · exact h1
  · exact absurd (by rw [show p = per l by omega]; exact per_is l) h
theorem per_least {l : List UInt8} {q : Nat} (h0 : 1 ≤ q) (h : l.drop q = l.take (l.length - q)) (hq : q ≤ l.length) : per l ≤ q := by
  rcases Nat.lt_or_ge q (per l) with h1 | h1
  · have := per_hit h0 (by omega) h; omega
  · exact h1
theorem per_pos {l : List UInt8} (h : 0 < l.length) : 1 ≤ per l := by have := lon_le l; unfold per; omega

/-- Place by place. -/
theorem prd_iff {l : List UInt8} {p : Nat} (h : p ≤ l.length) : l.drop p = l.take (l.length - p) ↔ ∀ i, i + p < l.length → l[i + p]? = l[i]? := by
  constructor
  · intro e i hi
    have := congrArg (fun x => x[i]?) e
    simp only [List.getElem?_drop, List.getElem?_take] at this
    rw [if_pos (by omega), Nat.add_comm] at this
    exact this
  · intro hx
    refine List.ext_getElem? fun i => ?_
    rw [List.getElem?_drop, List.getElem?_take]
    by_cases hi : i + p < l.length
    · rw [if_pos (by omega), Nat.add_comm]; exact hx i hi
    · rw [if_neg (by omega), List.getElem?_eq_none (by omega)]

/-- The least period goes into each one that is short enough. -/
theorem per_divides {l : List UInt8} (hl : 0 < l.length) : ∀ (k q : Nat), q ≤ k → 1 ≤ q → per l + q ≤ l.length → (∀ i, i + q < l.length → l[i + q]? = l[i]?) → per l ∣ q
  | 0, q, hk, h0, _, _ => by omega
  | k + 1, q, hk, h0, hs, hq => by
    have hp := (prd_iff (l := l) (p := per l) (by omega)).1 (per_is l)
    have hp0 := per_pos hl
    have hle := per_least h0 ((prd_iff (by omega)).2 hq) (by omega)
    by_cases e : q = per l
    · rw [e]; exact Nat.dvd_refl _
    · have hd := per_divides hl k (q - per l) (by omega) (by omega) (by omega) (fun i hi => by
        by_cases hi2 : i + q < l.length
        · have h1 := hq i hi2
          have h2 := hp (i + (q - per l)) (by omega)
          rw [show i + (q - per l) + per l = i + q by omega] at h2
          rw [← h2, h1]
        · have h1 := hq (i - per l) (by omega)
          have h2 := hp (i - per l) (by omega)
          rw [show i - per l + per l = i by omega] at h2
          rw [show i - per l + q = i + (q - per l) by omega] at h1
          rw [h1, h2])
      have := Nat.dvd_add hd (Nat.dvd_refl (per l))
      rwa [show q - per l + per l = q by omega] at this

/-- Is a text its first n bytes, several times? -/
def wn (l : List UInt8) (n : Nat) : Bool := decide (l.length % n = 0) && (l.drop n == l.take (l.length - n))
def wholeB (l : List UInt8) : Bool := decide (per l < l.length ∧ l.length % per l = 0)
theorem whole_true {l : List UInt8} {n : Nat} (h0 : 1 ≤ n) (hn : n < l.length) (h : wn l n = true) : wholeB l = true := by
  simp only [wn, Bool.and_eq_true, decide_eq_true_iff, beq_iff_eq] at h
  obtain ⟨h1, h2⟩ := h
  have hle := per_least h0 h2 (by omega)
  obtain ⟨q, hq⟩ := Nat.dvd_of_mod_eq_zero h1
  have hq2 : 2 ≤ q := by
    rcases q with _ | _ | q
    · omega
    · omega
    · omega
  have := Nat.mul_le_mul_left n hq2
  have hd := per_divides (by omega) n n (Nat.le_refl _) h0 (by omega) ((prd_iff (by omega)).1 h2)
  unfold wholeB
  rw [decide_eq_true_iff]
  exact ⟨by omega, Nat.mod_eq_zero_of_dvd (Nat.dvd_trans hd ⟨q, hq⟩)⟩
theorem whole_false {l : List UInt8} (h : ∀ n, 1 ≤ n → n < l.length → wn l n = false) : wholeB l = false := by
  unfold wholeB
  rw [decide_eq_false_iff_not]
  rintro ⟨h1, h2⟩
  have := h (per l) (per_pos (by omega)) h1
  simp only [wn, h2, decide_true, Bool.true_and, beq_eq_false_iff_ne] at this
  exact this (per_is l)

/-- A text so many times. -/
def rep (u : List UInt8) : Nat → List UInt8
  | 0 => []
  | j + 1 => rep u j ++ u
theorem rep_length (u : List UInt8) : ∀ j, (rep u j).length = j * u.length
  | 0 => by simp [rep]
  | j + 1 => by rw [rep, List.length_append, rep_length u j, Nat.add_mul, Nat.one_mul]
theorem rep_front (u : List UInt8) : ∀ j, u ++ rep u j = rep u (j + 1)
  | 0 => by simp [rep]
  | j + 1 => by rw [rep, ← List.append_assoc, rep_front u j]; rfl
theorem rep_period {l : List UInt8} {n : Nat} (hn : n ≤ l.length) (h : l.drop n = l.take (l.length - n)) : ∀ j, j * n ≤ l.length → rep (l.take n) j = l.take (j * n)
  | 0, _ => by simp [rep]
  | j + 1, hj => by
    rw [Nat.add_mul, Nat.one_mul] at hj
    rw [← rep_front, rep_period hn h j (by omega), Nat.add_mul, Nat.one_mul, Nat.add_comm, List.take_add, h, take_take_le l (by omega)]
theorem rep_is {l : List UInt8} {n j : Nat} (h0 : 1 ≤ n) (hn : n ≤ l.length) (h1 : l.length ≤ j * n) (h2 : j = 0 ∨ (j - 1) * n < l.length) : (rep (l.take n) j == l) = wn l n := by
  have hul := len_take l hn
  rw [Bool.eq_iff_iff, beq_iff_eq, wn, Bool.and_eq_true, decide_eq_true_iff, beq_iff_eq]
  constructor
  · intro e
    have hl := rep_length (l.take n) j
    rw [e, hul] at hl
    refine ⟨by rw [hl]; exact Nat.mul_mod_left _ _, ?_⟩
    obtain ⟨i, rfl⟩ : ∃ i, j = i + 1 := ⟨j - 1, by
      rcases j with _ | j
      · omega
      · rfl⟩
    have hr := rep_length (l.take n) i
    rw [hul] at hr
    rw [Nat.add_mul, Nat.one_mul] at hl
    have e1 : l.drop n = rep (l.take n) i := by
      have := congrArg (List.drop n) ((rep_front (l.take n) i).trans e)
      rw [← this]
      exact List.drop_left' hul
    have e2 : l.take (l.length - n) = rep (l.take n) i := by
      have := congrArg (List.take (l.length - n)) (show rep (l.take n) i ++ l.take n = l from e)
      rw [← this]
      exact List.take_left' (by omega)
    rw [e1, e2]
  · rintro ⟨e1, e2⟩
    obtain ⟨q, hq⟩ := Nat.dvd_of_mod_eq_zero e1
    rw [Nat.mul_comm] at hq
    have hjq : q = j := by
      have a : q ≤ j := Nat.le_of_mul_le_mul_right (by omega : q * n ≤ j * n) h0
      rcases h2 with h2 | h2
      · omega
      · have : j - 1 < q := Nat.lt_of_mul_lt_mul_right (by omega : (j - 1) * n < q * n)
        omega
    subst hjq
    rw [rep_period hn e2 q (by omega), ← hq, List.take_length]

/-! reach -/
def rc (a b : List UInt8) (m : Nat) : Bool := decide (m ≤ a.length) && (a.drop (a.length - m) == b.take m)
theorem rc_iff {a b : List UInt8} {m : Nat} (hm : m ≤ b.length) : rc a b m = decide (m ≤ b.length ∧ b.take m <:+ a) := by
  rw [Bool.eq_iff_iff, rc, Bool.and_eq_true, decide_eq_true_iff, beq_iff_eq, decide_eq_true_iff]
  constructor
  · rintro ⟨h1, h2⟩
    exact ⟨hm, by rw [← h2]; exact List.drop_suffix _ _⟩
  · rintro ⟨_, h2⟩
    refine ⟨suf_len hm h2, ?_⟩
    have := List.suffix_iff_eq_drop.1 h2
    rw [len_take b hm] at this
    exact this.symm
theorem rch_is (a b : List UInt8) : mx (rc a b) b.length = endK b a := mx_congr _ (fun i _ hi => rc_iff hi)
theorem rch_cut (a b : List UInt8) (n : Nat) (ha : n ≤ a.length) (hb : n ≤ b.length) (hn : a.length ≤ n ∨ b.length ≤ n) : endK (b.take n) (a.drop (a.length - n)) = endK b a := by
  have hbl := len_take b hb
  have had : (a.drop (a.length - n)).length = n := by rw [List.length_drop]; omega
  have hk := endK_le b a
  have hka := endK_len b a
  refine endK_is ?_ ?_ (fun i hi hs => ?_)
  · omega
  · rw [take_take_le b (by omega)]
    exact suf_cmp (endK_suf b a) (List.drop_suffix _ _) (by rw [had, len_take b (by omega)]; omega)
  · rw [take_take_le b (by omega)] at hs
    exact endK_max (by omega) (hs.trans (List.drop_suffix _ _))

/-! places -/
/-- The places at which t stands in the first m bytes of s. -/
def fnd (s t : List UInt8) : Nat → List Int
  | 0 => []
  | m + 1 => fnd s t m ++ if t <:+ s.take (m + 1) then [((m + 1 - t.length : Nat) : Int)] else []
theorem fnd_next (s t : List UInt8) (m : Nat) : fnd s t (m + 1) = fnd s t m ++ if t <:+ s.take (m + 1) then [((m + 1 - t.length : Nat) : Int)] else [] := rfl
theorem fnd_hit {s t : List UInt8} {m : Nat} (h : t <:+ s.take (m + 1)) : fnd s t (m + 1) = fnd s t m ++ [((m + 1 - t.length : Nat) : Int)] := by rw [fnd_next, if_pos h]
theorem fnd_miss {s t : List UInt8} {m : Nat} (h : ¬ t <:+ s.take (m + 1)) : fnd s t (m + 1) = fnd s t m := by rw [fnd_next, if_neg h, List.append_nil]
theorem fnd_short {s t : List UInt8} : ∀ {m : Nat}, m < t.length → fnd s t m = []
  | 0, _ => rfl
  | m + 1, h => by
    rw [fnd_miss, fnd_short (by omega)]
    intro hs
    have := hs.length_le
    rw [List.length_take] at this
    omega
theorem fnd_over {s t : List UInt8} (h : s.length < t.length) : ∀ m, fnd s t m = []
  | 0 => rfl
  | m + 1 => by
    rw [fnd_miss, fnd_over h m]
    intro hs
    have := hs.length_le
    rw [List.length_take] at this
    omega
theorem fnd_mem {s t : List UInt8} : ∀ m, ∀ x ∈ fnd s t m, ∃ j : Nat, x = (j : Int) ∧ (m ≤ s.length → j + t.length ≤ m ∧ t <:+ s.take (j + t.length))
  | 0, x, h => by simp [fnd] at h
  | m + 1, x, h => by
    by_cases hs : t <:+ s.take (m + 1)
    · rw [fnd_hit hs, List.mem_append, List.mem_singleton] at h
      rcases h with h | h
      · obtain ⟨j, a, b⟩ := fnd_mem m x h
        exact ⟨j, a, fun hm => by have := b (by omega); exact ⟨by omega, this.2⟩⟩
      · refine ⟨_, h, fun hm => ?_⟩
        have := hs.length_le
        rw [len_take s hm] at this
        rw [Nat.sub_add_cancel this]
        exact ⟨Nat.le_refl _, hs⟩
    · rw [fnd_miss hs] at h
      obtain ⟨j, a, b⟩ := fnd_mem m x h
      exact ⟨j, a, fun hm => by have := b (by omega); exact ⟨by omega, this.2⟩⟩
theorem fnd_rises {s t : List UInt8} : ∀ m, m ≤ s.length → (fnd s t m).Pairwise (fun x y => x < y)
  | 0, _ => List.Pairwise.nil
  | m + 1, hm => by
    by_cases hs : t <:+ s.take (m + 1)
    · rw [fnd_hit hs]
      refine List.pairwise_append.2 ⟨fnd_rises m (by omega), List.pairwise_singleton _ _, fun x hx y hy => ?_⟩
      obtain ⟨j, a, b⟩ := fnd_mem m x hx
      have := b (by omega)
      have := hs.length_le
      rw [len_take s hm] at this
      rw [List.mem_singleton] at hy
      omega
    · rw [fnd_miss hs]; exact fnd_rises m (by omega)
theorem fnd_length (s t : List UInt8) : ∀ m, (fnd s t m).length ≤ m
  | 0 => Nat.le_refl _
  | m + 1 => by
    have := fnd_length s t m
    rw [fnd_next, List.length_append]
    split <;> simp <;> omega
theorem stands_iff {s t : List UInt8} {i : Nat} (h : i + t.length ≤ s.length) : (s.take (i + t.length)).drop i = t ↔ t <:+ s.take (i + t.length) := by
  rw [List.suffix_iff_eq_drop, len_take s h, Nat.add_sub_cancel]
  exact eq_comm
/-- Where a text stands twice, overlapping, the places differ by a period of it. -/
theorem twice {s t : List UInt8} {j p : Nat} (h1 : t <:+ s.take (j + t.length)) (h2 : t <:+ s.take (j + p + t.length)) (hs : j + p + t.length ≤ s.length) (hp : p ≤ t.length) : t.drop p = t.take (t.length - p) := by
  have g : ∀ k, k + t.length ≤ s.length → t <:+ s.take (k + t.length) → ∀ i, i < t.length → t[i]? = s[k + i]? := fun k hk hx i hi => by
    have := congrArg (fun x => x[i]?) ((stands_iff hk).2 hx)
    simp only [List.getElem?_drop, List.getElem?_take] at this
    rw [if_pos (by omega)] at this
    exact this.symm
  refine (prd_iff hp).2 (fun i hi => ?_)
  rw [g j (by omega) h1 (i + p) hi, g (j + p) hs h2 i (by omega)]
  congr 1; omega
end Go.Proofs.YtmgcdhcidojdhaaGreat

namespace Go.Proofs.YtmgcdhcidojdhaaGreat

/-- The least number below n of which p holds, else n. -/
def mn (p : Nat → Bool) : Nat → Nat
  | 0 => 0
  | n + 1 => if mn p n < n ∨ p n = true then mn p n else n + 1
theorem mn_spec (p : Nat → Bool) : ∀ n, mn p n ≤ n ∧ (∀ d, d < mn p n → p d = false) ∧ (mn p n < n → p (mn p n) = true)
  | 0 => ⟨Nat.le_refl _, fun d h => by simp [mn] at h, fun h => by simp [mn] at h⟩
  | n + 1 => by
    obtain ⟨h1, h2, h3⟩ := mn_spec p n
    unfold mn
    by_cases hq : mn p n < n ∨ p n = true
    · rw [if_pos hq]
      refine ⟨by omega, h2, fun _ => ?_⟩
      rcases Nat.lt_or_ge (mn p n) n with h | h
      · exact h3 h
      · rcases hq with h' | h'
        · omega
        · rw [show mn p n = n by omega]; exact h'
    · rw [if_neg hq]
      have e : mn p n = n := by
        rcases Nat.lt_or_ge (mn p n) n with h | h
        · exact absurd (.inl h) hq
        · omega
      refine ⟨Nat.le_refl _, fun d hd => ?_, fun h => by omega⟩
      rcases Nat.lt_or_ge d n with h | h
      · exact h2 d (by omega)
      · rw [show d = n by omega]
        cases hp : p n with
        | false => rfl
        | true => exact absurd (.inr hp) hq
theorem mn_le (p : Nat → Bool) (n : Nat) : mn p n ≤ n := (mn_spec p n).1
theorem mn_is {p : Nat → Bool} {n r : Nat} (h1 : r ≤ n) (h2 : ∀ d, d < r → p d = false) (h3 : r < n → p r = true) : mn p n = r := by
  obtain ⟨a, b, c⟩ := mn_spec p n
  rcases Nat.lt_trichotomy (mn p n) r with h | h | h
  · have x := h2 _ h
    rw [c (by omega)] at x
    cases x
  · exact h
  · have x := b _ h
    rw [h3 (by omega)] at x
    cases x
theorem mn_congr {p q : Nat → Bool} {n : Nat} (h : ∀ d, d < n → p d = q d) : mn p n = mn q n := by
  obtain ⟨a, b, c⟩ := mn_spec q n
  exact mn_is a (fun d hd => by rw [h d (by omega)]; exact b d hd) (fun hl => by rw [h _ hl]; exact c hl)
theorem mn_none {p : Nat → Bool} {n : Nat} (h : ∀ d, d < n → p d = false) : mn p n = n := mn_is (Nat.le_refl _) h (fun h => by omega)
theorem mn_or {p q : Nat → Bool} {n j : Nat} (hj : j < n) (hq : ∀ d, q d = (p d || decide (d = j))) : mn q n = min (mn p n) j := by
  obtain ⟨a, b, c⟩ := mn_spec p n
  refine mn_is (by omega) (fun d hd => ?_) (fun hl => ?_)
  · rw [hq, b d (by omega), decide_eq_false (by omega)]; rfl
  · rw [hq]
    rcases Nat.lt_or_ge (mn p n) j with h | h
    · rw [show min (mn p n) j = mn p n by omega, c (by omega)]; rfl
    · rw [show min (mn p n) j = j by omega, decide_eq_true rfl, Bool.or_true]

/-- Has a text the byte at this distance from its end? -/
def atD (t : List UInt8) (c d : Nat) : Bool := decide (d < t.length) && ((t.getD (t.length - 1 - d) 0).toNat == c)
/-- .. one of the texts? -/
def hasD (ws : List (List UInt8)) (c d : Nat) : Bool := ws.any fun t => atD t c d
/-- A byte's shift. -/
def fstL (ws : List (List UInt8)) (c : Nat) : Nat := mn (hasD ws c) (leastR ws)

/-- The shifts behind the first j distances of one more text. -/
def lowF (F : Nat → Nat) (t : List UInt8) : Nat → Nat → Nat
  | 0, c => F c
  | j + 1, c => if atD t c j = true then min (lowF F t j c) j else lowF F t j c
theorem low_mn {F : Nat → Nat} {p : Nat → Nat → Bool} {t : List UInt8} {m : Nat} (h : ∀ c, F c = mn (p c) m) : ∀ j, j ≤ m → ∀ c, lowF F t j c = mn (fun d => p c d || (decide (d < j) && atD t c d)) m
  | 0, _, c => by
    rw [lowF, h]
    exact mn_congr fun d _ => by simp
  | j + 1, hj, c => by
    rw [lowF, low_mn h j (by omega) c]
    by_cases hq : atD t c j = true
    · rw [if_pos hq]
      refine (mn_or (by omega) fun d => ?_).symm
      rcases Nat.lt_trichotomy d j with hd | hd | hd
      · simp [hd, show d < j + 1 by omega, show ¬ d = j by omega]
      · subst hd; simp [hq]
      · simp [show ¬ d < j by omega, show ¬ d < j + 1 by omega, show ¬ d = j by omega]
    · rw [if_neg hq]
      refine mn_congr fun d _ => ?_
      rcases Nat.lt_trichotomy d j with hd | hd | hd
      · simp [hd, show d < j + 1 by omega]
      · subst hd; simp [hq]
      · simp [show ¬ d < j by omega, show ¬ d < j + 1 by omega]
/-- .. behind a whole one. -/
theorem low_done {ws : List (List UInt8)} {k m : Nat} {t : List UInt8} (h : ws[k]? = some t) (c : Nat) : lowF (fun c => mn (hasD (ws.take k) c) m) t m c = mn (hasD (ws.take (k + 1)) c) m := by
  have hlt := (List.getElem?_eq_some_iff.1 h).1
  have ht := (List.getElem?_eq_some_iff.1 h).2
  rw [low_mn (p := fun c => hasD (ws.take k) c) (fun c => rfl) m (Nat.le_refl _) c]
  refine mn_congr fun d hd => ?_
  unfold hasD
  rw [List.take_succ_eq_append_getElem hlt, List.any_append, ht]
  simp [hd]
theorem low_start (m c : Nat) : mn (hasD [] c) m = m := mn_none fun d _ => rfl
theorem low_keep {F : Nat → Nat} {t : List UInt8} {j c : Nat} (h : ¬ atD t c j = true) : lowF F t (j + 1) c = lowF F t j c := if_neg h
theorem low_hit {F : Nat → Nat} {t : List UInt8} {j c : Nat} (h : atD t c j = true) : lowF F t (j + 1) c = min (lowF F t j c) j := if_pos h
theorem low_le {F : Nat → Nat} {t : List UInt8} {m : Nat} (h : ∀ c, F c ≤ m) : ∀ j c, lowF F t j c ≤ m
  | 0, c => h c
  | j + 1, c => by
    have := low_le (t := t) h j c
    rw [lowF]; split <;> omega
theorem at_iff {t : List UInt8} {c d : Nat} (h : d < t.length) : atD t c d = true ↔ (t.getD (t.length - 1 - d) 0).toNat = c := by
  unfold atD
  rw [decide_eq_true h, Bool.true_and, beq_iff_eq]

theorem least_mem {ws : List (List UInt8)} : ∀ {n : Nat} {t : List UInt8}, t ∈ ws → ws.foldl (fun n t => min n t.length) n ≤ t.length := by
  have low : ∀ (ws : List (List UInt8)) (n : Nat), ws.foldl (fun n t => min n t.length) n ≤ n := by
    intro ws
    induction ws with
    | nil => intro n; exact Nat.le_refl _
    | cons a r ih => intro n; exact Nat.le_trans (ih _) (Nat.min_le_left _ _)
  induction ws with
  | nil => intro n t h; cases h
  | cons a r ih =>
    intro n t h
    rcases List.mem_cons.1 h with rfl | h
    · exact Nat.le_trans (low r _) (Nat.min_le_right _ _)
    · exact ih h
theorem leastR_le {ws : List (List UInt8)} {t : List UInt8} (h : t ∈ ws) : leastR ws ≤ t.length := by
  unfold leastR
  split
  · omega
  · exact least_mem h
theorem leastR_nil : leastR [] = 0 := rfl
theorem fst_le (ws : List (List UInt8)) (c : Nat) : fstL ws c ≤ leastR ws := mn_le _ _
theorem fst_nil (c : Nat) : fstL [] c = 0 := by have := fst_le [] c; rw [leastR_nil] at this; omega

/-- One of a text's bytes. -/
def byN (s : List UInt8) (i : Nat) : Nat := (s.getD i 0).toNat
/-- The ends from e on; f more are looked at. -/
def endG (F : Nat → Nat) (s : List UInt8) : Nat → Nat → List Int
  | 0, _ => []
  | f + 1, e => if e ≤ s.length then (if F (byN s (e - 1)) = 0 then [(e : Int)] else []) ++ endG F s f (e + max (F (byN s (e - 1))) 1) else []
def endL (F : Nat → Nat) (m : Nat) (s : List UInt8) : List Int := if m = 0 then [] else endG F s (s.length + 1) m
theorem end_over {F : Nat → Nat} {s : List UInt8} {e : Nat} (h : s.length < e) : ∀ f, endG F s f e = []
  | 0 => rfl
  | f + 1 => by rw [endG, if_neg (by omega)]
theorem end_hit {F : Nat → Nat} {s : List UInt8} {e f : Nat} (h : e ≤ s.length) (hn : F (byN s (e - 1)) = 0) : endG F s (f + 1) e = (e : Int) :: endG F s f (e + 1) := by
  rw [endG, if_pos h, if_pos hn, hn]; rfl
theorem end_miss {F : Nat → Nat} {s : List UInt8} {e f n : Nat} (h : e ≤ s.length) (hn : F (byN s (e - 1)) = n) (h0 : 0 < n) : endG F s (f + 1) e = endG F s f (e + n) := by
  rw [endG, if_pos h, if_neg (by omega), hn, Nat.max_eq_left (by omega)]; rfl
theorem end_length (F : Nat → Nat) (s : List UInt8) : ∀ f e, (endG F s f e).length ≤ f
  | 0, _ => Nat.le_refl _
  | f + 1, e => by
    have := end_length F s f (e + max (F (byN s (e - 1))) 1)
    rw [endG]
    split
    · split <;> simp <;> omega
    · simp
theorem endL_length (F : Nat → Nat) (m : Nat) (s : List UInt8) : (endL F m s).length ≤ s.length + 1 := by
  unfold endL
  split
  · simp
  · exact end_length F s _ _
theorem endL_none (F : Nat → Nat) (s : List UInt8) : endL F 0 s = [] := if_pos rfl
theorem endL_some {F : Nat → Nat} {m : Nat} {s : List UInt8} (h : 0 < m) : endL F m s = endG F s (s.length + 1) m := if_neg (by omega)

theorem suf_at {s t : List UInt8} {E d : Nat} (hE : E ≤ s.length) (h : t <:+ s.take E) (hd : d < t.length) : t.getD (t.length - 1 - d) 0 = s.getD (E - 1 - d) 0 := by
  obtain ⟨r, hr⟩ := h
  have hl : r.length + t.length = E := by
    have := congrArg List.length hr
    rw [List.length_append, List.length_take] at this
    omega
  have h1 : (s.take E)[E - 1 - d]? = t[t.length - 1 - d]? := by
    rw [← hr, List.getElem?_append_right (by omega)]
    congr 1; omega
  rw [List.getElem?_take_of_lt (by omega)] at h1
  simp only [List.getD, h1]
/-- Behind an end ahead of which a byte of shift n stands no pattern ends, up to n - 1 bytes. -/
theorem fst_clears {ws : List (List UInt8)} {s t : List UInt8} {e E : Nat} (ht : t ∈ ws) (hE : E ≤ s.length) (hs : t <:+ s.take E) (he : 0 < e) (h1 : e ≤ E) (h2 : E < e + fstL ws (byN s (e - 1))) : False := by
  have hle := fst_le ws (byN s (e - 1))
  have hm := leastR_le ht
  have h3 := (mn_spec (hasD ws (byN s (e - 1))) (leastR ws)).2.1 (E - e) (by unfold fstL at h2; omega)
  have h4 : atD t (byN s (e - 1)) (E - e) = true := by
    rw [at_iff (by omega), suf_at hE hs (by omega)]
    unfold byN
    congr 2; omega
  have h5 : hasD ws (byN s (e - 1)) (E - e) = true := List.any_eq_true.2 ⟨t, ht, h4⟩
  rw [h5] at h3
  cases h3
/-- .. so that each pattern ends where it is told. -/
theorem end_has {ws : List (List UInt8)} {s t : List UInt8} {E : Nat} (ht : t ∈ ws) (hE : E ≤ s.length) (hs : t <:+ s.take E) : ∀ (f e : Nat), 0 < e → e ≤ E → s.length + 1 ≤ e + f → (E : Int) ∈ endG (fstL ws) s f e
  | 0, e, he, h1, h2 => by omega
  | f + 1, e, he, h1, h2 => by
    have hc : ¬ E < e + fstL ws (byN s (e - 1)) := fun h => fst_clears ht hE hs he h1 h
    by_cases h0 : fstL ws (byN s (e - 1)) = 0
    · rw [end_hit (by omega) h0]
      rcases Nat.lt_or_ge e E with h | h
      · exact List.mem_cons_of_mem _ (end_has ht hE hs f (e + 1) (by omega) (by omega) (by omega))
      · rw [show E = e by omega]; exact List.mem_cons_self
    · rw [end_miss (by omega) rfl (by omega)]
      exact end_has ht hE hs f _ (by omega) (by omega) (by omega)
theorem endL_has {ws : List (List UInt8)} {s t : List UInt8} {E : Nat} (h0 : 0 < leastR ws) (ht : t ∈ ws) (hE : E ≤ s.length) (hs : t <:+ s.take E) (hl : t.length ≤ E) : (E : Int) ∈ endL (fstL ws) (leastR ws) s := by
  rw [endL_some h0]
  have := leastR_le ht
  exact end_has ht hE hs _ _ h0 (by omega) (by omega)
theorem leastR_pos {ws : List (List UInt8)} {t : List UInt8} (ht : t ∈ ws) (h : ∀ t ∈ ws, 0 < t.length) : 0 < leastR ws := by
  have low : ∀ (ws : List (List UInt8)) (n : Nat), 0 < n → (∀ t ∈ ws, 0 < t.length) → 0 < ws.foldl (fun n t => min n t.length) n := by
    intro ws
    induction ws with
    | nil => intro n h _; exact h
    | cons a r ih =>
      intro n hn ha
      have := ha a List.mem_cons_self
      exact ih _ (Nat.lt_min.2 ⟨hn, this⟩) (fun t ht => ha t (List.mem_cons_of_mem _ ht))
  unfold leastR
  split
  · rename_i hl
    rw [List.length_eq_zero_iff.1 hl] at ht; cases ht
  · exact low ws _ (by omega) h
end Go.Proofs.YtmgcdhcidojdhaaGreat

namespace Go.Proofs.YtmgcdhcidojdhaaGreat

/-- Two bytes, as one number. -/
def two (x y : Nat) : Nat := x * 256 + y
theorem two_lt {x y : Nat} (hx : x < 256) (hy : y < 256) : two x y < 65536 := by unfold two; omega
theorem two_inj {x y u v : Nat} (hy : y < 256) (hv : v < 256) (h : two x y = two u v) : x = u ∧ y = v := by unfold two at h; omega
theorem two_low {x y : Nat} (hy : y < 256) : two x y % 256 = y := by unfold two; omega

/-- The two bytes at this distance from a text's end. -/
def prN (t : List UInt8) (d : Nat) : Nat := two (t.getD (t.length - 2 - d) 0).toNat (t.getD (t.length - 1 - d) 0).toNat
/-- Has a text these two at this distance? -/
def at2 (t : List UInt8) (c d : Nat) : Bool := decide (d + 1 < t.length) && (prN t d == c)
/-- .. one of the texts? -/
def has2 (ws : List (List UInt8)) (c d : Nat) : Bool := ws.any fun t => at2 t c d
/-- The greatest shift. -/
def farL (ws : List (List UInt8)) : Nat := leastR ws - 1
/-- A pair's shift. -/
def nearL (ws : List (List UInt8)) (c : Nat) : Nat := mn (has2 ws c) (farL ws)
theorem near_le (ws : List (List UInt8)) (c : Nat) : nearL ws c ≤ farL ws := mn_le _ _
theorem far_nil : farL [] = 0 := rfl
theorem near_nil (c : Nat) : nearL [] c = 0 := by have := near_le [] c; rw [far_nil] at this; omega
theorem at2_iff {t : List UInt8} {c d : Nat} (h : d + 1 < t.length) : at2 t c d = true ↔ prN t d = c := by
  unfold at2
  rw [decide_eq_true h, Bool.true_and, beq_iff_eq]
theorem prN_lt (t : List UInt8) (d : Nat) : prN t d < 65536 := two_lt (UInt8.toNat_lt _) (UInt8.toNat_lt _)

/-- The shifts behind the first j distances of one more text. -/
def lowP (F : Nat → Nat) (t : List UInt8) : Nat → Nat → Nat
  | 0, c => F c
  | j + 1, c => if at2 t c j = true then min (lowP F t j c) j else lowP F t j c
theorem lowp_mn {F : Nat → Nat} {p : Nat → Nat → Bool} {t : List UInt8} {m : Nat} (h : ∀ c, F c = mn (p c) m) : ∀ j, j ≤ m → ∀ c, lowP F t j c = mn (fun d => p c d || (decide (d < j) && at2 t c d)) m
  | 0, _, c => by
    rw [lowP, h]
    exact mn_congr fun d _ => by simp
  | j + 1, hj, c => by
    rw [lowP, lowp_mn h j (by omega) c]
    by_cases hq : at2 t c j = true
    · rw [if_pos hq]
      refine (mn_or (by omega) fun d => ?_).symm
      rcases Nat.lt_trichotomy d j with hd | hd | hd
      · simp [hd, show d < j + 1 by omega, show ¬ d = j by omega]
      · subst hd; simp [hq]
      · simp [show ¬ d < j by omega, show ¬ d < j + 1 by omega, show ¬ d = j by omega]
    · rw [if_neg hq]
      refine mn_congr fun d _ => ?_
      rcases Nat.lt_trichotomy d j with hd | hd | hd
      · simp [hd, show d < j + 1 by omega]
      · subst hd; simp [hq]
      · simp [show ¬ d < j by omega, show ¬ d < j + 1 by omega]
/-- .. behind a whole one. -/
theorem lowp_done {ws : List (List UInt8)} {k m : Nat} {t : List UInt8} (h : ws[k]? = some t) (c : Nat) : lowP (fun c => mn (has2 (ws.take k) c) m) t m c = mn (has2 (ws.take (k + 1)) c) m := by
  have hlt := (List.getElem?_eq_some_iff.1 h).1
  have ht := (List.getElem?_eq_some_iff.1 h).2
  rw [lowp_mn (p := fun c => has2 (ws.take k) c) (fun c => rfl) m (Nat.le_refl _) c]
  refine mn_congr fun d hd => ?_
  unfold has2
  rw [List.take_succ_eq_append_getElem hlt, List.any_append, ht]
  simp [hd]
theorem lowp_start (m c : Nat) : mn (has2 [] c) m = m := mn_none fun d _ => rfl
theorem lowp_keep {F : Nat → Nat} {t : List UInt8} {j c : Nat} (h : ¬ at2 t c j = true) : lowP F t (j + 1) c = lowP F t j c := if_neg h
theorem lowp_hit {F : Nat → Nat} {t : List UInt8} {j c : Nat} (h : at2 t c j = true) : lowP F t (j + 1) c = min (lowP F t j c) j := if_pos h
theorem lowp_le {F : Nat → Nat} {t : List UInt8} {m : Nat} (h : ∀ c, F c ≤ m) : ∀ j c, lowP F t j c ≤ m
  | 0, c => h c
  | j + 1, c => by
    have := lowp_le (t := t) h j c
    rw [lowP]; split <;> omega

/-- The two bytes of a text that are the last ones up to an end. -/
def prS (s : List UInt8) (e : Nat) : Nat := two (byN s (e - 2)) (byN s (e - 1))
/-- Behind an end ahead of which two bytes of shift n stand no pattern ends, up to n - 1 bytes. -/
theorem near_clears {ws : List (List UInt8)} {s t : List UInt8} {e E : Nat} (ht : t ∈ ws) (hE : E ≤ s.length) (hs : t <:+ s.take E) (he : 2 ≤ e) (h1 : e ≤ E) (h2 : E < e + nearL ws (prS s e)) : False := by
  have hle := near_le ws (prS s e)
  have hm := leastR_le ht
  have hd : E - e + 1 < t.length := by unfold farL at hle; omega
  have h3 := (mn_spec (has2 ws (prS s e)) (farL ws)).2.1 (E - e) (by unfold nearL at h2; omega)
  have h4 : at2 t (prS s e) (E - e) = true := by
    rw [at2_iff hd]
    have a1 := suf_at (d := E - e) hE hs (by omega)
    have a2 := suf_at (d := E - e + 1) hE hs (by omega)
    rw [show t.length - 1 - (E - e + 1) = t.length - 2 - (E - e) by omega, show E - 1 - (E - e + 1) = e - 2 by omega] at a2
    rw [show E - 1 - (E - e) = e - 1 by omega] at a1
    unfold prN prS byN
    rw [a1, a2]
  have h5 : has2 ws (prS s e) (E - e) = true := List.any_eq_true.2 ⟨t, ht, h4⟩
  rw [h5] at h3
  cases h3
/-- Two bytes' shift is no less than the second one's, or as great as may be. -/
theorem near_second {ws : List (List UInt8)} {x y : Nat} (hy : y < 256) (h : nearL ws (two x y) < farL ws) : fstL ws y ≤ nearL ws (two x y) := by
  obtain ⟨h1, h2, h3⟩ := mn_spec (has2 ws (two x y)) (farL ws)
  have h4 := h3 h
  obtain ⟨t, ht, ha⟩ := List.any_eq_true.1 h4
  have hm := leastR_le ht
  have hn : mn (has2 ws (two x y)) (farL ws) = nearL ws (two x y) := rfl
  rw [hn] at ha
  generalize nearL ws (two x y) = n at h ha ⊢
  have hd : n + 1 < t.length := by unfold farL at h; omega
  rw [at2_iff hd] at ha
  have hb := (two_inj (UInt8.toNat_lt _) hy ha).2
  have hat : hasD ws y n = true := List.any_eq_true.2 ⟨t, ht, (at_iff (by omega)).2 hb⟩
  rcases Nat.lt_or_ge n (fstL ws y) with hl | hl
  · have := (mn_spec (hasD ws y) (leastR ws)).2.1 n hl
    rw [hat] at this
    cases this
  · exact hl

/-- So many numbers have it. -/
def IsCount (p : Nat → Prop) (n : Nat) : Prop := ∃ L : List Nat, L.Nodup ∧ L.length = n ∧ ∀ c, c ∈ L ↔ p c
theorem IsCount.one {p q : Nat → Prop} {m n : Nat} (h : IsCount p m) (h' : IsCount q n) (e : ∀ c, p c ↔ q c) : m = n := by
  obtain ⟨L, hL, rfl, h⟩ := h
  obtain ⟨M, hM, rfl, h'⟩ := h'
  exact ((List.perm_ext_iff_of_nodup hL hM).2 fun c => (h c).trans ((e c).trans (h' c).symm)).length_eq
theorem IsCount.none : IsCount (fun _ => False) 0 := ⟨[], List.nodup_nil, rfl, fun c => ⟨fun h => (by cases h), fun h => False.elim h⟩⟩
theorem IsCount.congr {p q : Nat → Prop} {n : Nat} (h : IsCount p n) (e : ∀ c, p c ↔ q c) : IsCount q n := by
  obtain ⟨L, hL, hn, h⟩ := h
  exact ⟨L, hL, hn, fun c => (h c).trans (e c)⟩
theorem IsCount.snoc {p : Nat → Prop} {n c : Nat} (h : IsCount p n) (hc : ¬ p c) : IsCount (fun d => p d ∨ d = c) (n + 1) := by
  obtain ⟨L, hL, rfl, h⟩ := h
  refine ⟨c :: L, List.nodup_cons.2 ⟨fun hm => hc ((h c).1 hm), hL⟩, rfl, fun d => ?_⟩
  rw [List.mem_cons, h d]
  exact Or.comm
/-- How many pairs stand near an end. -/
def IsLen (ws : List (List UInt8)) (n : Nat) : Prop := IsCount (fun c => nearL ws c < farL ws) n
theorem len_nil : IsLen [] 0 := by
  refine IsCount.congr IsCount.none fun c => ⟨fun h => False.elim h, fun h => ?_⟩
  rw [far_nil] at h
  omega
end Go.Proofs.YtmgcdhcidojdhaaGreat
