/-
  How far one may skip by one byte, as lists. No program here.
-/
import Derived.Test.YtikhjofpioegbaaPtM
import Derived.Test.YtikhjofpioegbaaBdM
set_option linter.unusedSimpArgs false
set_option linter.unusedVariables false
namespace Go.Proofs.Ytikhjofpioegbaa

/-- The least number below n of which p holds, else n. -/
def mn (p : Nat → Bool) : Nat → Nat
  | 0 => 0
  | n + 1 => if mn p n < n ∨ p n = true then mn p n else n + 1
theorem mn_spec (p : Nat → Bool) : ∀ n, mn p n ≤ n ∧ (∀ d, d < mn p n → p d = false) ∧ (mn p n < n → p (mn p n) = true)
  | 0 => ⟨Nat.le_refl _, fun d h => by simp [mn] at h, fun h => by simp [mn] at h⟩
  | n + 1 => by
    obtain ⟨h1, h2, h3⟩ := mn_spec p n
    unfold mn
    by_cases hq : mn p n < n ∨ p n = true
    · rw [if_pos hq]
      refine ⟨by omega, h2, fun _ => ?_⟩
      rcases Nat.lt_or_ge (mn p n) n with h | h
      · exact h3 h
      · rcases hq with h' | h'
        · omega
        · rw [show mn p n = n by omega]; exact h'
    · rw [if_neg hq]
      have e : mn p n = n := by
        rcases Nat.lt_or_ge (mn p n) n with h | h
        · exact absurd (.inl h) hq
        · omega
      refine ⟨Nat.le_refl _, fun d hd => ?_, fun h => by omega⟩
      rcases Nat.lt_or_ge d n with h | h
      · exact h2 d (by omega)
      · rw [show d = n by omega]
        cases hp : p n with
        | false => rfl
        | true => exact absurd (.inr hp) hq
theorem mn_le (p : Nat → Bool) (n : Nat) : mn p n ≤ n := (mn_spec p n).1
theorem mn_is {p : Nat → Bool} {n r : Nat} (h1 : r ≤ n) (h2 : ∀ d, d < r → p d = false) (h3 : r < n → p r = true) : mn p n = r := by
  obtain ⟨a, b, c⟩ := mn_spec p n
  rcases Nat.lt_trichotomy (mn p n) r with h | h | h
  · have x := h2 _ h
    rw [c (by omega)] at x
    cases x
  · exact h
  · have x := b _ h
    rw [h3 (by omega)] at x
    cases x
theorem mn_congr {p q : Nat → Bool} {n : Nat} (h : ∀ d, d < n → p d = q d) : mn p n = mn q n := by
  obtain ⟨a, b, c⟩ := mn_spec q n
  exact mn_is a (fun d hd => by rw [h d (by omega)]; exact b d hd) (fun hl => by rw [h _ hl]; exact c hl)
theorem mn_none {p : Nat → Bool} {n : Nat} (h : ∀ d, d < n → p d = false) : mn p n = n := mn_is (Nat.le_refl _) h (fun h => by omega)
theorem mn_or {p q : Nat → Bool} {n j : Nat} (hj : j < n) (hq : ∀ d, q d = (p d || decide (d = j))) : mn q n = min (mn p n) j := by
  obtain ⟨a, b, c⟩ := mn_spec p n
  refine mn_is (by omega) (fun d hd => ?_) (fun hl => ?_)
  · rw [hq, b d (by omega), decide_eq_false (by omega)]; rfl
  · rw [hq]
    rcases Nat.lt_or_ge (mn p n) j with h | h
    · rw [show min (mn p n) j = mn p n by omega, c (by omega)]; rfl
    · rw [show min (mn p n) j = j by omega, decide_eq_true rfl, Bool.or_true]

/-- Has a text the byte at this distance from its end? -/
def atD (t : List UInt8) (c d : Nat) : Bool := decide (d < t.length) && ((t.getD (t.length - 1 - d) 0).toNat == c)
/-- .. one of the texts? -/
def hasD (ws : List (List UInt8)) (c d : Nat) : Bool := ws.any fun t => atD t c d
/-- A byte's shift. -/
def fstL (ws : List (List UInt8)) (c : Nat) : Nat := mn (hasD ws c) (leastR ws)

/-- The shifts behind the first j distances of one more text. -/
def lowF (F : Nat → Nat) (t : List UInt8) : Nat → Nat → Nat
  | 0, c => F c
  | j + 1, c => if atD t c j = true then min (lowF F t j c) j else lowF F t j c
theorem low_mn {F : Nat → Nat} {p : Nat → Nat → Bool} {t : List UInt8} {m : Nat} (h : ∀ c, F c = mn (p c) m) : ∀ j, j ≤ m → ∀ c, lowF F t j c = mn (fun d => p c d || (decide (d < j) && atD t c d)) m
  | 0, _, c => by
    rw [lowF, h]
    exact mn_congr fun d _ => by simp
  | j + 1, hj, c => by
    rw [lowF, low_mn h j (by omega) c]
    by_cases hq : atD t c j = true
    · rw [if_pos hq]
      refine (mn_or (by omega) fun d => ?_).symm
      rcases Nat.lt_trichotomy d j with hd | hd | hd
      · simp [hd, show d < j + 1 by omega, show ¬ d = j by omega]
      · subst hd; simp [hq]
      · simp [show ¬ d < j by omega, show ¬ d < j + 1 by omega, show ¬ d = j by omega]
    · rw [if_neg hq]
      refine mn_congr fun d _ => ?_
      rcases Nat.lt_trichotomy d j with hd | hd | hd
      · simp [hd, show d < j + 1 by omega]
      · subst hd; simp [hq]
      · simp [show ¬ d < j by omega, show ¬ d < j + 1 by omega]
/-- .. behind a whole one. -/
theorem low_done {ws : List (List UInt8)} {k m : Nat} {t : List UInt8} (h : ws[k]? = some t) (c : Nat) : lowF (fun c => mn (hasD (ws.take k) c) m) t m c = mn (hasD (ws.take (k + 1)) c) m := by
  have hlt := (List.getElem?_eq_some_iff.1 h).1
  have ht := (List.getElem?_eq_some_iff.1 h).2
  rw [low_mn (p := fun c => hasD (ws.take k) c) (fun c => rfl) m (Nat.le_refl _) c]
  refine mn_congr fun d hd => ?_
  unfold hasD
  rw [List.take_succ_eq_append_getElem hlt, List.any_append, ht]
  simp [hd]
theorem low_start (m c : Nat) : mn (hasD [] c) m = m := mn_none fun d _ => rfl
theorem low_keep {F : Nat → Nat} {t : List UInt8} {j c : Nat} (h : ¬ atD t c j = true) : lowF F t (j + 1) c = lowF F t j c := if_neg h
theorem low_hit {F : Nat → Nat} {t : List UInt8} {j c : Nat} (h : atD t c j = true) : lowF F t (j + 1) c = min (lowF F t j c) j := if_pos h
theorem low_le {F : Nat → Nat} {t : List UInt8} {m : Nat} (h : ∀ c, F c ≤ m) : ∀ j c, lowF F t j c ≤ m
  | 0, c => h c
  | j + 1, c => by
    have := low_le (t := t) h j c
    rw [lowF]; split <;> omega
theorem at_iff {t : List UInt8} {c d : Nat} (h : d < t.length) : atD t c d = true ↔ (t.getD (t.length - 1 - d) 0).toNat = c := by
  unfold atD
  rw [decide_eq_true h, Bool.true_and, beq_iff_eq]

theorem least_mem {ws : List (List UInt8)} : ∀ {n : Nat} {t : List UInt8}, t ∈ ws → ws.foldl (fun n t => min n t.length) n ≤ t.length := by
  have low : ∀ (ws : List (List UInt8)) (n : Nat), ws.foldl (fun n t => min n t.length) n ≤ n := by
    intro ws
    induction ws with
    | nil => intro n; exact Nat.le_refl _
    | cons a r ih => intro n; exact Nat.le_trans (ih _) (Nat.min_le_left _ _)
  induction ws with
  | nil => intro n t h; cases h
  | cons a r ih =>
    intro n t h
    rcases List.mem_cons.1 h with rfl | h
    · exact Nat.le_trans (low r _) (Nat.min_le_right _ _)
    · exact ih h
theorem leastR_le {ws : List (List UInt8)} {t : List UInt8} (h : t ∈ ws) : leastR ws ≤ t.length := by
  unfold leastR
  split
  · omega
  · exact least_mem h
theorem leastR_nil : leastR [] = 0 := rfl
theorem fst_le (ws : List (List UInt8)) (c : Nat) : fstL ws c ≤ leastR ws := mn_le _ _
theorem fst_nil (c : Nat) : fstL [] c = 0 := by have := fst_le [] c; rw [leastR_nil] at this; omega

/-- One of a text's bytes. -/
def byN (s : List UInt8) (i : Nat) : Nat := (s.getD i 0).toNat
/-- The ends from e on; f more are looked at. -/
def endG (F : Nat → Nat) (s : List UInt8) : Nat → Nat → List Int
  | 0, _ => []
  | f + 1, e => if e ≤ s.length then (if F (byN s (e - 1)) = 0 then [(e : Int)] else []) ++ endG F s f (e + max (F (byN s (e - 1))) 1) else []
def endL (F : Nat → Nat) (m : Nat) (s : List UInt8) : List Int := if m = 0 then [] else endG F s (s.length + 1) m
theorem end_over {F : Nat → Nat} {s : List UInt8} {e : Nat} (h : s.length < e) : ∀ f, endG F s f e = []
  | 0 => rfl
  | f + 1 => by rw [endG, if_neg (by omega)]
theorem end_hit {F : Nat → Nat} {s : List UInt8} {e f : Nat} (h : e ≤ s.length) (hn : F (byN s (e - 1)) = 0) : endG F s (f + 1) e = (e : Int) :: endG F s f (e + 1) := by
  rw [endG, if_pos h, if_pos hn, hn]; rfl
theorem end_miss {F : Nat → Nat} {s : List UInt8} {e f n : Nat} (h : e ≤ s.length) (hn : F (byN s (e - 1)) = n) (h0 : 0 < n) : endG F s (f + 1) e = endG F s f (e + n) := by
  rw [endG, if_pos h, if_neg (by omega), hn, Nat.max_eq_left (by omega)]; rfl
theorem end_length (F : Nat → Nat) (s : List UInt8) : ∀ f e, (endG F s f e).length ≤ f
  | 0, _ => Nat.le_refl _
  | f + 1, e => by
    have := end_length F s f (e + max (F (byN s (e - 1))) 1)
    rw [endG]
    split
    · split <;> simp <;> omega
    · simp
theorem endL_length (F : Nat → Nat) (m : Nat) (s : List UInt8) : (endL F m s).length ≤ s.length + 1 := by
  unfold endL
  split
  · simp
  · exact end_length F s _ _
theorem endL_none (F : Nat → Nat) (s : List UInt8) : endL F 0 s = [] := if_pos rfl
theorem endL_some {F : Nat → Nat} {m : Nat} {s : List UInt8} (h : 0 < m) : endL F m s = endG F s (s.length + 1) m := if_neg (by omega)

theorem suf_at {s t : List UInt8} {E d : Nat} (hE : E ≤ s.length) (h : t <:+ s.take E) (hd : d < t.length) : t.getD (t.length - 1 - d) 0 = s.getD (E - 1 - d) 0 := by
  obtain ⟨r, hr⟩ := h
  have hl : r.length + t.length = E := by
    have := congrArg List.length hr
    rw [List.length_append, List.length_take] at this
    omega
  have h1 : (s.take E)[E - 1 - d]? = t[t.length - 1 - d]? := by
    rw [← hr, List.getElem?_append_right (by omega)]
    congr 1; omega
  rw [List.getElem?_take_of_lt (by omega)] at h1
  simp only [List.getD, h1]
/-- Behind an end ahead of which a byte of shift n stands no pattern ends, up to n - 1 bytes. -/
theorem fst_clears {ws : List (List UInt8)} {s t : List UInt8} {e E : Nat} (ht : t ∈ ws) (hE : E ≤ s.length) (hs : t <:+ s.take E) (he : 0 < e) (h1 : e ≤ E) (h2 : E < e + fstL ws (byN s (e - 1))) : False := by
  have hle := fst_le ws (byN s (e - 1))
  have hm := leastR_le ht
  have h3 := (mn_spec (hasD ws (byN s (e - 1))) (leastR ws)).2.1 (E - e) (by unfold fstL at h2; omega)
  have h4 : atD t (byN s (e - 1)) (E - e) = true := by
    rw [at_iff (by omega), suf_at hE hs (by omega)]
    unfold byN
    congr 2; omega
  have h5 : hasD ws (byN s (e - 1)) (E - e) = true := List.any_eq_true.2 ⟨t, ht, h4⟩
  rw [h5] at h3
  cases h3
/-- .. so that each pattern ends where it is told. -/
theorem end_has {ws : List (List UInt8)} {s t : List UInt8} {E : Nat} (ht : t ∈ ws) (hE : E ≤ s.length) (hs : t <:+ s.take E) : ∀ (f e : Nat), 0 < e → e ≤ E → s.length + 1 ≤ e + f → (E : Int) ∈ endG (fstL ws) s f e
  | 0, e, he, h1, h2 => by omega
  | f + 1, e, he, h1, h2 => by
    have hc : ¬ E < e + fstL ws (byN s (e - 1)) := fun h => fst_clears ht hE hs he h1 h
    by_cases h0 : fstL ws (byN s (e - 1)) = 0
    · rw [end_hit (by omega) h0]
      rcases Nat.lt_or_ge e E with h | h
      · exact List.mem_cons_of_mem _ (end_has ht hE hs f (e + 1) (by omega) (by omega) (by omega))
      · rw [show E = e by omega]; exact List.mem_cons_self
    · rw [end_miss (by omega) rfl (by omega)]
      exact end_has ht hE hs f _ (by omega) (by omega) (by omega)
theorem endL_has {ws : List (List UInt8)} {s t : List UInt8} {E : Nat} (h0 : 0 < leastR ws) (ht : t ∈ ws) (hE : E ≤ s.length) (hs : t <:+ s.take E) (hl : t.length ≤ E) : (E : Int) ∈ endL (fstL ws) (leastR ws) s := by
  rw [endL_some h0]
  have := leastR_le ht
  exact end_has ht hE hs _ _ h0 (by omega) (by omega)
theorem leastR_pos {ws : List (List UInt8)} {t : List UInt8} (ht : t ∈ ws) (h : ∀ t ∈ ws, 0 < t.length) : 0 < leastR ws := by
  have low : ∀ (ws : List (List UInt8)) (n : Nat), 0 < n → (∀ t ∈ ws, 0 < t.length) → 0 < ws.foldl (fun n t => min n t.length) n := by
    intro ws
    induction ws with
    | nil => intro n h _; exact h
    | cons a r ih =>
      intro n hn ha
      have := ha a List.mem_cons_self
      exact ih _ (Nat.lt_min.2 ⟨hn, this⟩) (fun t ht => ha t (List.mem_cons_of_mem _ ht))
  unfold leastR
  split
  · rename_i hl
    rw [List.length_eq_zero_iff.1 hl] at ht; cases ht
  · exact low ws _ (by omega) h
end Go.Proofs.Ytikhjofpioegbaa
