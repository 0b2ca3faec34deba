/-
  Patterns by their last bytes, as lists. No program here.
-/
import Derived.Test.YtikhjofpioegbaaPtM
set_option linter.unusedSimpArgs false
set_option linter.unusedVariables false
namespace Go.Proofs.Ytikhjofpioegbaa

/-- A text's last byte. -/
def lastN (t : List UInt8) : Option Nat := t.getLast?.map UInt8.toNat
/-- Does this one of the texts end with the byte? -/
def endsN (ws : List (List UInt8)) (c k : Nat) : Bool := lastN (ws.getD k []) == some c
/-- The numbers of those of the first k texts that end with a byte. -/
def bidsK (ws : List (List UInt8)) (c : Nat) : Nat → List Int
  | 0 => []
  | k + 1 => if endsN ws c k = true then bidsK ws c k ++ [(k : Int)] else bidsK ws c k
def idsL (ws : List (List UInt8)) (c : Nat) : List Int := bidsK ws c ws.length
/-- How long one of the texts is. -/
def lenAt (ws : List (List UInt8)) (x : Int) : Nat := (ws.getD x.toNat []).length
/-- How long the shortest of the first j of these is. -/
def lstK (ws : List (List UInt8)) (ids : List Int) : Nat → Nat
  | 0 => 0
  | j + 1 => if j = 0 ∨ lenAt ws (ids.getD j 0) < lstK ws ids j then lenAt ws (ids.getD j 0) else lstK ws ids j
def lstA (ws : List (List UInt8)) (ids : List Int) : Nat := lstK ws ids ids.length
def lstL (ws : List (List UInt8)) (c : Nat) : Nat := lstA ws (idsL ws c)
/-- Those of the first n bytes with which a text ends. -/
def bytK (ws : List (List UInt8)) : Nat → List UInt8
  | 0 => []
  | n + 1 => if (idsL ws n).length = 0 then bytK ws n else bytK ws n ++ [UInt8.ofNat n]
def bytL (ws : List (List UInt8)) : List UInt8 := bytK ws 256

theorem lastN_lt {t : List UInt8} {c : Nat} (h : lastN t = some c) : c < 256 := by
  unfold lastN at h
  cases hg : t.getLast? with
  | none => simp [hg] at h
  | some x => simp [hg] at h; have := UInt8.toNat_lt x; omega
theorem lastN_some {t : List UInt8} (h : 0 < t.length) : ∃ c, c < 256 ∧ lastN t = some c ∧ (t[t.length - 1]'(by omega)).toNat = c := by
  refine ⟨(t[t.length - 1]'(by omega)).toNat, UInt8.toNat_lt _, ?_, rfl⟩
  unfold lastN
  rw [List.getLast?_eq_getElem?, List.getElem?_eq_getElem (show t.length - 1 < t.length by omega)]
  rfl
theorem lastN_at {t : List UInt8} {c : Nat} (h : 0 < t.length) : lastN t = some c ↔ (t[t.length - 1]'(by omega)).toNat = c := by
  obtain ⟨d, _, h1, h2⟩ := lastN_some h
  rw [h1, h2]
  simp
theorem lastN_nil : lastN [] = none := rfl

theorem getD_of {ws : List (List UInt8)} {k : Nat} {t : List UInt8} (h : ws[k]? = some t) : ws.getD k [] = t := by simp [List.getD, h]
theorem ends_of {ws : List (List UInt8)} {k c : Nat} {t : List UInt8} (h : ws[k]? = some t) : endsN ws c k = true ↔ lastN t = some c := by
  unfold endsN; rw [getD_of h]; simp

theorem bids_hit {ws : List (List UInt8)} {c k : Nat} (h : endsN ws c k = true) : bidsK ws c (k + 1) = bidsK ws c k ++ [(k : Int)] := if_pos h
theorem bids_miss {ws : List (List UInt8)} {c k : Nat} (h : ¬ endsN ws c k = true) : bidsK ws c (k + 1) = bidsK ws c k := if_neg h
theorem bids_length (ws : List (List UInt8)) (c : Nat) : ∀ k, (bidsK ws c k).length ≤ k
  | 0 => Nat.le_refl _
  | k + 1 => by
    have := bids_length ws c k
    unfold bidsK
    split
    · rw [List.length_append]; simp; omega
    · omega
theorem bids_mem {ws : List (List UInt8)} {c : Nat} {x : Int} : ∀ {k : Nat}, x ∈ bidsK ws c k → ∃ m : Nat, x = m ∧ m < k ∧ endsN ws c m = true
  | 0, h => by simp [bidsK] at h
  | k + 1, h => by
    unfold bidsK at h
    split at h
    · rename_i he
      rcases List.mem_append.1 h with h | h
      · obtain ⟨m, h1, h2, h3⟩ := bids_mem h
        exact ⟨m, h1, by omega, h3⟩
      · simp at h
        exact ⟨k, h, by omega, he⟩
    · obtain ⟨m, h1, h2, h3⟩ := bids_mem h
      exact ⟨m, h1, by omega, h3⟩
/-- What one of a bucket's numbers is. -/
theorem ids_at {ws : List (List UInt8)} {c j : Nat} (h : j < (idsL ws c).length) : ∃ m t, (idsL ws c).getD j 0 = ((m : Nat) : Int) ∧ ws[m]? = some t ∧ lastN t = some c ∧ 0 < t.length := by
  have hm : (idsL ws c).getD j 0 ∈ idsL ws c := by
    simp only [List.getD, List.getElem?_eq_getElem h, Option.getD_some]
    exact List.getElem_mem _
  obtain ⟨m, h1, h2, h3⟩ := bids_mem hm
  obtain ⟨t, ht⟩ : ∃ t, ws[m]? = some t := ⟨_, List.getElem?_eq_getElem h2⟩
  have hl := (ends_of ht).1 h3
  refine ⟨m, t, h1, ht, hl, ?_⟩
  rcases Nat.eq_zero_or_pos t.length with h0 | h0
  · rw [List.length_eq_zero_iff.1 h0, lastN_nil] at hl; cases hl
  · exact h0

theorem lst_congr (ws : List (List UInt8)) (ids more : List Int) : ∀ j, j ≤ ids.length → lstK ws (ids ++ more) j = lstK ws ids j
  | 0, _ => rfl
  | j + 1, h => by
    have e : (ids ++ more).getD j 0 = ids.getD j 0 := by simp only [List.getD, List.getElem?_append_left (show j < ids.length by omega)]
    unfold lstK
    rw [e, lst_congr ws ids more j (by omega)]
theorem lst_snoc (ws : List (List UInt8)) (ids : List Int) (x : Int) : lstA ws (ids ++ [x]) = if ids.length = 0 ∨ lenAt ws x < lstA ws ids then lenAt ws x else lstA ws ids := by
  unfold lstA
  rw [List.length_append, List.length_singleton]
  have e : (ids ++ [x]).getD ids.length 0 = x := by simp [List.getD]
  rw [lstK, e, lst_congr ws ids [x] _ (Nat.le_refl _)]
theorem lst_nil (ws : List (List UInt8)) : lstA ws [] = 0 := rfl
theorem lst_le {ws : List (List UInt8)} {m : Nat} (h : ∀ t ∈ ws, t.length ≤ m) (ids : List Int) : ∀ j, lstK ws ids j ≤ m
  | 0 => Nat.zero_le _
  | j + 1 => by
    have h1 : lenAt ws (ids.getD j 0) ≤ m := by
      unfold lenAt
      simp only [List.getD]
      cases hg : ws[(ids[j]?.getD 0).toNat]? with
      | none => simp
      | some t => exact h t (List.mem_of_getElem? hg)
    have := lst_le h ids j
    unfold lstK
    split <;> omega
theorem lenAt_of {ws : List (List UInt8)} {k : Nat} {t : List UInt8} (h : ws[k]? = some t) : lenAt ws (k : Int) = t.length := by
  unfold lenAt; rw [Int.toNat_natCast, getD_of h]

theorem byt_miss {ws : List (List UInt8)} {n : Nat} (h : (idsL ws n).length = 0) : bytK ws (n + 1) = bytK ws n := if_pos h
theorem byt_hit {ws : List (List UInt8)} {n : Nat} (h : ¬ (idsL ws n).length = 0) : bytK ws (n + 1) = bytK ws n ++ [UInt8.ofNat n] := if_neg h
theorem byt_length (ws : List (List UInt8)) : ∀ n, (bytK ws n).length ≤ n
  | 0 => Nat.le_refl _
  | n + 1 => by
    have := byt_length ws n
    unfold bytK
    split
    · omega
    · rw [List.length_append]; simp; omega

/-- So many patterns are in the buckets of these bytes. -/
def bcntL (ws : List (List UInt8)) : List UInt8 → Nat
  | [] => 0
  | c :: l => (idsL ws c.toNat).length + bcntL ws l
theorem cnt_append (ws : List (List UInt8)) : ∀ a b, bcntL ws (a ++ b) = bcntL ws a + bcntL ws b
  | [], b => by simp [bcntL]
  | c :: a, b => by rw [List.cons_append, bcntL, bcntL, cnt_append ws a b]; omega
theorem cnt_snoc {ws : List (List UInt8)} {l : List UInt8} {i : Nat} (h : i < l.length) : bcntL ws (l.take (i + 1)) = bcntL ws (l.take i) + (idsL ws (l[i]).toNat).length := by
  rw [List.take_succ_eq_append_getElem h, cnt_append]
  simp [bcntL]
theorem cnt_take_le (ws : List (List UInt8)) (l : List UInt8) (i : Nat) : bcntL ws (l.take i) ≤ bcntL ws l := by
  have := cnt_append ws (l.take i) (l.drop i)
  rw [List.take_append_drop] at this
  omega
/-- .. and of the first k in those of the first n bytes. -/
def sumK (ws : List (List UInt8)) (k : Nat) : Nat → Nat
  | 0 => 0
  | n + 1 => sumK ws k n + (bidsK ws n k).length
theorem sum_zero (ws : List (List UInt8)) : ∀ n, sumK ws 0 n = 0
  | 0 => rfl
  | n + 1 => by rw [sumK, sum_zero ws n]; rfl
theorem sum_miss {ws : List (List UInt8)} {k : Nat} : ∀ {n : Nat}, (∀ c, c < n → ¬ endsN ws c k = true) → sumK ws (k + 1) n = sumK ws k n
  | 0, _ => rfl
  | n + 1, h => by rw [sumK, sumK, sum_miss (fun c hc => h c (by omega)), bids_miss (h n (by omega))]
theorem sum_hit {ws : List (List UInt8)} {k c : Nat} (he : ∀ d, endsN ws d k = true ↔ d = c) : ∀ {n : Nat}, c < n → sumK ws (k + 1) n = sumK ws k n + 1
  | 0, h => by omega
  | n + 1, h => by
    rw [sumK, sumK]
    by_cases hc : c = n
    · rw [sum_miss (fun d hd => by rw [he]; omega), bids_hit ((he n).2 hc.symm), List.length_append]
      simp; omega
    · rw [sum_hit he (show c < n by omega), bids_miss (by rw [he]; omega)]
      omega
theorem sum_all {ws : List (List UInt8)} (h : ∀ t ∈ ws, 0 < t.length) : ∀ k, k ≤ ws.length → sumK ws k 256 = k
  | 0, _ => sum_zero ws 256
  | k + 1, hk => by
    obtain ⟨t, ht⟩ : ∃ t, ws[k]? = some t := ⟨_, List.getElem?_eq_getElem (by omega)⟩
    obtain ⟨c, hc, hl, _⟩ := lastN_some (h t (List.mem_of_getElem? ht))
    rw [sum_hit (c := c) (fun d => by rw [ends_of ht, hl]; simp [eq_comm]) hc, sum_all h k (by omega)]
theorem cnt_byt (ws : List (List UInt8)) : ∀ n, n ≤ 256 → bcntL ws (bytK ws n) = sumK ws ws.length n
  | 0, _ => rfl
  | n + 1, h => by
    have ih := cnt_byt ws n (by omega)
    rw [sumK]
    by_cases h0 : (idsL ws n).length = 0
    · rw [byt_miss h0, ih]
      unfold idsL at h0
      omega
    · rw [byt_hit h0, cnt_append, ih]
      simp only [bcntL, Nat.add_zero]
      rw [show (UInt8.ofNat n).toNat = n from by simp; omega]
      rfl
/-- Each pattern is in just one bucket. -/
theorem cnt_all {ws : List (List UInt8)} (h : ∀ t ∈ ws, 0 < t.length) : bcntL ws (bytL ws) = ws.length := by
  unfold bytL
  rw [cnt_byt ws 256 (Nat.le_refl _), sum_all h _ (Nat.le_refl _)]

theorem bids_none (c : Nat) : idsL [] c = [] := rfl
theorem lst_none (c : Nat) : lstL [] c = 0 := rfl
theorem byt_none : bytL [] = [] := by
  unfold bytL
  suffices h : ∀ n, bytK [] n = [] from h 256
  intro n
  induction n with
  | zero => rfl
  | succ n ih => rw [byt_miss (by rw [bids_none]; rfl), ih]
end Go.Proofs.Ytikhjofpioegbaa
