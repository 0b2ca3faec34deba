/-
  Texts put together: ShM, ClM, DnM, AuM, Oth, ClW, IntsB, Ints, OwnBe, DnW.
-/
import Derived.Test.YtlbgigkkjlfklaaGreatBn1
import Derived.Test.YtlbgigkkjlfklaaGreatBn2
import Derived.Lib.Hide
import Derived.Laws.CopyOwn
set_option linter.unusedSimpArgs false
set_option linter.unusedVariables false
namespace Go.Proofs.YtlbgigkkjlfklaaGreat

/-- The least number below n of which p holds, else n. -/
def mn (p : Nat → Bool) : Nat → Nat
  | 0 => 0
  | n + 1 => if mn p n < n ∨ p n = true then mn p n else n + 1
theorem mn_spec (p : Nat → Bool) : ∀ n, mn p n ≤ n ∧ (∀ d, d < mn p n → p d = false) ∧ (mn p n < n → p (mn p n) = true)
  | 0 => ⟨Nat.le_refl _, fun d h => by simp [mn] at h, fun h => by simp [mn] at h⟩
  | n + 1 => by
    obtain ⟨h1, h2, h3⟩ := mn_spec p n
    unfold mn
    by_cases hq : mn p n < n ∨ p n = true
    · rw [if_pos hq]
      refine ⟨by omega, h2, fun _ => ?_⟩
      rcases Nat.lt_or_ge (mn p n) n with h | h
      · exact h3 h
      · rcases hq with h' | h'
        · omega
        · rw [show mn p n = n by omega]; exact h'
    · rw [if_neg hq]
      have e : mn p n = n := by
        rcases Nat.lt_or_ge (mn p n) n with h | h
        · exact absurd (.inl h) hq
        · omega
      refine ⟨Nat.le_refl _, fun d hd => ?_, fun h => by omega⟩
      rcases Nat.lt_or_ge d n with h | h
      · exact h2 d (by omega)
      · rw [show d = n by omega]
        cases hp : p n with
        | false => rfl
        | true => exact absurd (.inr hp) hq
theorem mn_le (p : Nat → Bool) (n : Nat) : mn p n ≤ n := (mn_spec p n).1
theorem mn_is {p : Nat → Bool} {n r : Nat} (h1 : r ≤ n) (h2 : ∀ d, d < r → p d = false) (h3 : r < n → p r = true) : mn p n = r := by
  obtain ⟨a, b, c⟩ := mn_spec p n
  rcases Nat.lt_trichotomy (mn p n) r with h | h | h
  · have x := h2 _ h
    rw [c (by omega)] at x
    cases x
  · exact h
  · have x := b _ h
    rw [h3 (by omega)] at x
    cases x
theorem mn_congr {p q : Nat → Bool} {n : Nat} (h : ∀ d, d < n → p d = q d) : mn p n = mn q n := by
  obtain ⟨a, b, c⟩ := mn_spec q n
  exact mn_is a (fun d hd => by rw [h d (by omega)]; exact b d hd) (fun hl => by rw [h _ hl]; exact c hl)
theorem mn_none {p : Nat → Bool} {n : Nat} (h : ∀ d, d < n → p d = false) : mn p n = n := mn_is (Nat.le_refl _) h (fun h => by omega)
theorem mn_or {p q : Nat → Bool} {n j : Nat} (hj : j < n) (hq : ∀ d, q d = (p d || decide (d = j))) : mn q n = min (mn p n) j := by
  obtain ⟨a, b, c⟩ := mn_spec p n
  refine mn_is (by omega) (fun d hd => ?_) (fun hl => ?_)
  · rw [hq, b d (by omega), decide_eq_false (by omega)]; rfl
  · rw [hq]
    rcases Nat.lt_or_ge (mn p n) j with h | h
    · rw [show min (mn p n) j = mn p n by omega, c (by omega)]; rfl
    · rw [show min (mn p n) j = j by omega, decide_eq_true rfl, Bool.or_true]

/-- Has a text the byte at this distance from its end? -/
def atD (t : List UInt8) (c d : Nat) : Bool := decide (d < t.length) && ((t.getD (t.length - 1 - d) 0).toNat == c)
/-- .. one of the texts? -/
def hasD (ws : List (List UInt8)) (c d : Nat) : Bool := ws.any fun t => atD t c d
/-- A byte's shift. -/
def fstL (ws : List (List UInt8)) (c : Nat) : Nat := mn (hasD ws c) (leastR ws)

/-- The shifts behind the first j distances of one more text. -/
def lowF (F : Nat → Nat) (t : List UInt8) : Nat → Nat → Nat
  | 0, c => F c
  | j + 1, c => if atD t c j = true then min (lowF F t j c) j else lowF F t j c
theorem low_mn {F : Nat → Nat} {p : Nat → Nat → Bool} {t : List UInt8} {m : Nat} (h : ∀ c, F c = mn (p c) m) : ∀ j, j ≤ m → ∀ c, lowF F t j c = mn (fun d => p c d || (decide (d < j) && atD t c d)) m
  | 0, _, c => by
    rw [lowF, h]
    exact mn_congr fun d _ => by simp
  | j + 1, hj, c => by
    rw [lowF, low_mn h j (by omega) c]
    by_cases hq : atD t c j = true
    · rw [if_pos hq]
      refine (mn_or (by omega) fun d => ?_).symm
      rcases Nat.lt_trichotomy d j with hd | hd | hd
      · simp [hd, show d < j + 1 by omega, show ¬ d = j by omega]
      · subst hd; simp [hq]
      · simp [show ¬ d < j by omega, show ¬ d < j + 1 by omega, show ¬ d = j by omega]
    · rw [if_neg hq]
      refine mn_congr fun d _ => ?_
      rcases Nat.lt_trichotomy d j with hd | hd | hd
      · simp [hd, show d < j + 1 by omega]
      · subst hd; simp [hq]
      · simp [show ¬ d < j by omega, show ¬ d < j + 1 by omega]
/-- .. behind a whole one. -/
theorem low_done {ws : List (List UInt8)} {k m : Nat} {t : List UInt8} (h : ws[k]? = some t) (c : Nat) : lowF (fun c => mn (hasD (ws.take k) c) m) t m c = mn (hasD (ws.take (k + 1)) c) m := by
  have hlt := (List.getElem?_eq_some_iff.1 h).1
  have ht := (List.getElem?_eq_some_iff.1 h).2
  rw [low_mn (p := fun c => hasD (ws.take k) c) (fun c => rfl) m (Nat.le_refl _) c]
  refine mn_congr fun d hd => ?_
  unfold hasD
  rw [List.take_succ_eq_append_getElem hlt, List.any_append, ht]
  simp [hd]
theorem low_start (m c : Nat) : mn (hasD [] c) m = m := mn_none fun d _ => rfl
theorem low_keep {F : Nat → Nat} {t : List UInt8} {j c : Nat} (h : ¬ atD t c j = true) : lowF F t (j + 1) c = lowF F t j c := if_neg h
theorem low_hit {F : Nat → Nat} {t : List UInt8} {j c : Nat} (h : atD t c j = true) : lowF F t (j + 1) c = min (lowF F t j c) j := if_pos h
theorem low_le {F : Nat → Nat} {t : List UInt8} {m : Nat} (h : ∀ c, F c ≤ m) : ∀ j c, lowF F t j c ≤ m
  | 0, c => h c
  | j + 1, c => by
    have := low_le (t := t) h j c
    rw [lowF]; split <;> omega
theorem at_iff {t : List UInt8} {c d : Nat} (h : d < t.length) : atD t c d = true ↔ (t.getD (t.length - 1 - d) 0).toNat = c := by
  unfold atD
  rw [decide_eq_true h, Bool.true_and, beq_iff_eq]

theorem least_mem {ws : List (List UInt8)} : ∀ {n : Nat} {t : List UInt8}, t ∈ ws → ws.foldl (fun n t => min n t.length) n ≤ t.length := by
  have low : ∀ (ws : List (List UInt8)) (n : Nat), ws.foldl (fun n t => min n t.length) n ≤ n := by
    intro ws
    induction ws with
    | nil => intro n; exact Nat.le_refl _
    | cons a r ih => intro n; exact Nat.le_trans (ih _) (Nat.min_le_left _ _)
  induction ws with
  | nil => intro n t h; cases h
  | cons a r ih =>
    intro n t h
    rcases List.mem_cons.1 h with rfl | h
    · exact Nat.le_trans (low r _) (Nat.min_le_right _ _)
    · exact ih h
theorem leastR_le {ws : List (List UInt8)} {t : List UInt8} (h : t ∈ ws) : leastR ws ≤ t.length := by
  unfold leastR
  split
  · omega
  · exact least_mem h
theorem leastR_nil : leastR [] = 0 := rfl
theorem fst_le (ws : List (List UInt8)) (c : Nat) : fstL ws c ≤ leastR ws := mn_le _ _
theorem fst_nil (c : Nat) : fstL [] c = 0 := by have := fst_le [] c; rw [leastR_nil] at this; omega

/-- One of a text's bytes. -/
def byN (s : List UInt8) (i : Nat) : Nat := (s.getD i 0).toNat
/-- The ends from e on; f more are looked at. -/
def endG (F : Nat → Nat) (s : List UInt8) : Nat → Nat → List Int
  | 0, _ => []
  | f + 1, e => if e ≤ s.length then (if F (byN s (e - 1)) = 0 then [(e : Int)] else []) ++ endG F s f (e + max (F (byN s (e - 1))) 1) else []
def endL (F : Nat → Nat) (m : Nat) (s : List UInt8) : List Int := if m = 0 then [] else endG F s (s.length + 1) m
theorem end_over {F : Nat → Nat} {s : List UInt8} {e : Nat} (h : s.length < e) : ∀ f, endG F s f e = []
  | 0 => rfl
  | f + 1 => by rw [endG, if_neg (by omega)]
theorem end_hit {F : Nat → Nat} {s : List UInt8} {e f : Nat} (h : e ≤ s.length) (hn : F (byN s (e - 1)) = 0) : endG F s (f + 1) e = (e : Int) :: endG F s f (e + 1) := by
  rw [endG, if_pos h, if_pos hn, hn]; rfl
theorem end_miss {F : Nat → Nat} {s : List UInt8} {e f n : Nat} (h : e ≤ s.length) (hn : F (byN s (e - 1)) = n) (h0 : 0 < n) : endG F s (f + 1) e = endG F s f (e + n) := by
  rw [endG, if_pos h, if_neg (by omega), hn, Nat.max_eq_left (by omega)]; rfl
theorem end_length (F : Nat → Nat) (s : List UInt8) : ∀ f e, (endG F s f e).length ≤ f
  | 0, _ => Nat.le_refl _
  | f + 1, e => by
    have := end_length F s f (e + max (F (byN s (e - 1))) 1)
    rw [endG]
    split
    · split <;> simp <;> omega
    · simp
theorem endL_length (F : Nat → Nat) (m : Nat) (s : List UInt8) : (endL F m s).length ≤ s.length + 1 := by
  unfold endL
  split
  · simp
  · exact end_length F s _ _
theorem endL_none (F : Nat → Nat) (s : List UInt8) : endL F 0 s = [] := if_pos rfl
theorem endL_some {F : Nat → Nat} {m : Nat} {s : List UInt8} (h : 0 < m) : endL F m s = endG F s (s.length + 1) m := if_neg (by omega)

theorem suf_at {s t : List UInt8} {E d : Nat} (hE : E ≤ s.length) (h : t <:+ s.take E) (hd : d < t.length) : t.getD (t.length - 1 - d) 0 = s.getD (E - 1 - d) 0 := by
  obtain ⟨r, hr⟩ := h
  have hl : r.length + t.length = E := by
    have := congrArg List.length hr
    rw [List.length_append, List.length_take] at this
    omega
  have h1 : (s.take E)[E - 1 - d]? = t[t.length - 1 - d]? := by
    rw [← hr, List.getElem?_append_right (by omega)]
    congr 1; omega
  rw [List.getElem?_take_of_lt (by omega)] at h1
  simp only [List.getD, h1]
/-- Behind an end ahead of which a byte of shift n stands no pattern ends, up to n - 1 bytes. -/
theorem fst_clears {ws : List (List UInt8)} {s t : List UInt8} {e E : Nat} (ht : t ∈ ws) (hE : E ≤ s.length) (hs : t <:+ s.take E) (he : 0 < e) (h1 : e ≤ E) (h2 : E < e + fstL ws (byN s (e - 1))) : False := by
  have hle := fst_le ws (byN s (e - 1))
  have hm := leastR_le ht
  have h3 := (mn_spec (hasD ws (byN s (e - 1))) (leastR ws)).2.1 (E - e) (by unfold fstL at h2; omega)
  have h4 : atD t (byN s (e - 1)) (E - e) = true := by
    rw [at_iff (by omega), suf_at hE hs (by omega)]
    unfold byN
    congr 2; omega
  have h5 : hasD ws (byN s (e - 1)) (E - e) = true := List.any_eq_true.2 ⟨t, ht, h4⟩
  rw [h5] at h3
  cases h3
/-- .. so that each pattern ends where it is told. -/
theorem end_has {ws : List (List UInt8)} {s t : List UInt8} {E : Nat} (ht : t ∈ ws) (hE : E ≤ s.length) (hs : t <:+ s.take E) : ∀ (f e : Nat), 0 < e → e ≤ E → s.length + 1 ≤ e + f → (E : Int) ∈ endG (fstL ws) s f e
  | 0, e, he, h1, h2 => by omega
  | f + 1, e, he, h1, h2 => by
    have hc : ¬ E < e + fstL ws (byN s (e - 1)) := fun h => fst_clears ht hE hs he h1 h
    by_cases h0 : fstL ws (byN s (e - 1)) = 0
    · rw [end_hit (by omega) h0]
      rcases Nat.lt_or_ge e E with h | h
      · exact List.mem_cons_of_mem _ (end_has ht hE hs f (e + 1) (by omega) (by omega) (by omega))
      · rw [show E = e by omega]; exact List.mem_cons_self
    · rw [end_miss (by omega) rfl (by omega)]
      exact end_has ht hE hs f _ (by omega) (by omega) (by omega)
theorem endL_has {ws : List (List UInt8)} {s t : List UInt8} {E : Nat} (h0 : 0 < leastR ws) (ht : t ∈ ws) (hE : E ≤ s.length) (hs : t <:+ s.take E) (hl : t.length ≤ E) : (E : Int) ∈ endL (fstL ws) (leastR ws) s := by
  rw [endL_some h0]
  have := leastR_le ht
  exact end_has ht hE hs _ _ h0 (by omega) (by omega)
theorem leastR_pos {ws : List (List UInt8)} {t : List UInt8} (ht : t ∈ ws) (h : ∀ t ∈ ws, 0 < t.length) : 0 < leastR ws := by
  have low : ∀ (ws : List (List UInt8)) (n : Nat), 0 < n → (∀ t ∈ ws, 0 < t.length) → 0 < ws.foldl (fun n t => min n t.length) n := by
    intro ws
    induction ws with
    | nil => intro n h _; exact h
    | cons a r ih =>
      intro n hn ha
      have := ha a List.mem_cons_self
      exact ih _ (Nat.lt_min.2 ⟨hn, this⟩) (fun t ht => ha t (List.mem_cons_of_mem _ ht))
  unfold leastR
  split
  · rename_i hl
    rw [List.length_eq_zero_iff.1 hl] at ht; cases ht
  · exact low ws _ (by omega) h
end Go.Proofs.YtlbgigkkjlfklaaGreat

namespace Go.Proofs.YtlbgigkkjlfklaaGreat

/-- Does a byte stand in a text? -/
def inT (t : List UInt8) (c : Nat) : Bool := t.any fun x => x.toNat == c
/-- .. in one of some texts? -/
def hasC (us : List (List UInt8)) (c : Nat) : Bool := us.any fun t => inT t c
theorem inT_iff {t : List UInt8} {c : Nat} : inT t c = true ↔ ∃ x ∈ t, x.toNat = c := by
  unfold inT
  simp only [List.any_eq_true, beq_iff_eq]
theorem hasC_iff {us : List (List UInt8)} {c : Nat} : hasC us c = true ↔ ∃ t ∈ us, ∃ x ∈ t, x.toNat = c := by
  unfold hasC
  simp only [List.any_eq_true, inT_iff]
theorem hasC_lt {us : List (List UInt8)} {c : Nat} (h : hasC us c = true) : c < 256 := by
  obtain ⟨t, _, x, _, rfl⟩ := hasC_iff.1 h
  exact x.toNat_lt

theorem any_snoc {α : Type} {p : α → Bool} {l : List α} {k : Nat} {x : α} (h : l[k]? = some x) : (l.take (k + 1)).any p = ((l.take k).any p || p x) := by
  obtain ⟨hk, rfl⟩ := List.getElem?_eq_some_iff.1 h
  rw [List.take_succ_eq_append_getElem hk, List.any_append]
  simp
theorem inT_snoc {t : List UInt8} {k : Nat} {x : UInt8} (h : t[k]? = some x) (c : Nat) : inT (t.take (k + 1)) c = (inT (t.take k) c || x.toNat == c) := any_snoc h
theorem hasC_snoc {us : List (List UInt8)} {k : Nat} {t : List UInt8} (h : us[k]? = some t) (c : Nat) : hasC (us.take (k + 1)) c = (hasC (us.take k) c || inT t c) := any_snoc h
theorem hasC_mem {us : List (List UInt8)} {t : List UInt8} {x : UInt8} (h : t ∈ us) (hx : x ∈ t) : hasC us x.toNat = true := hasC_iff.2 ⟨t, h, x, hx, rfl⟩

/-- The bytes below n that stand in texts, rising. -/
def bcK (us : List (List UInt8)) : Nat → List UInt8
  | 0 => []
  | n + 1 => bcK us n ++ if hasC us n then [UInt8.ofNat n] else []
theorem bc_hit {us : List (List UInt8)} {n : Nat} (h : hasC us n = true) : bcK us (n + 1) = bcK us n ++ [UInt8.ofNat n] := by rw [bcK, if_pos h]
theorem bc_miss {us : List (List UInt8)} {n : Nat} (h : hasC us n = false) : bcK us (n + 1) = bcK us n := by rw [bcK, if_neg (by rw [h]; decide), List.append_nil]
theorem bc_length (us : List (List UInt8)) : ∀ n, (bcK us n).length ≤ n
  | 0 => Nat.le_refl _
  | n + 1 => by
    have := bc_length us n
    rw [bcK, List.length_append]
    split <;> simp <;> omega
theorem bc_mono (us : List (List UInt8)) (n : Nat) : ∀ m, (bcK us n).length ≤ (bcK us (n + m)).length
  | 0 => Nat.le_refl _
  | m + 1 => by
    have := bc_mono us n m
    rw [← Nat.add_assoc, bcK, List.length_append]
    omega
theorem bc_le (us : List (List UInt8)) {m n : Nat} (h : m ≤ n) : (bcK us m).length ≤ (bcK us n).length := by
  have := bc_mono us m (n - m)
  rwa [Nat.add_sub_cancel' h] at this

/-- A byte's class. -/
def ofC (us : List (List UInt8)) (c : Nat) : Nat := if hasC us c then (bcK us (c + 1)).length else 0
theorem of_hit {us : List (List UInt8)} {c : Nat} (h : hasC us c = true) : ofC us c = (bcK us c).length + 1 := by
  unfold ofC
  rw [if_pos h, bc_hit h]
  simp
theorem of_miss {us : List (List UInt8)} {c : Nat} (h : hasC us c = false) : ofC us c = 0 := by
  unfold ofC
  rw [h]; rfl
theorem of_pos {us : List (List UInt8)} {c : Nat} : 0 < ofC us c ↔ hasC us c = true := by
  cases h : hasC us c with
  | true => rw [of_hit h]; simp
  | false => rw [of_miss h]; simp
theorem of_le (us : List (List UInt8)) (c : Nat) : ofC us c ≤ 256 := by
  cases h : hasC us c with
  | true =>
    rw [of_hit h]
    have h1 := bc_length us c
    have h2 := hasC_lt h
    omega
  | false => rw [of_miss h]; omega
/-- Of two bytes that are not foreign the greater one has the greater class. -/
theorem of_lt {us : List (List UInt8)} {a b : Nat} (ha : 0 < ofC us a) (hb : 0 < ofC us b) : ofC us a < ofC us b ↔ a < b := by
  have ha' := of_pos.1 ha
  have hb' := of_pos.1 hb
  have key : ∀ {x y : Nat}, hasC us x = true → hasC us y = true → x < y → ofC us x < ofC us y := by
    intro x y hx hy h
    rw [of_hit hy]
    have h1 := bc_le us (show x + 1 ≤ y by omega)
    have h2 := of_hit hx
    rw [bc_hit hx, List.length_append, List.length_singleton] at h1
    omega
  refine ⟨fun h => ?_, fun h => key ha' hb' h⟩
  rcases Nat.lt_trichotomy a b with h' | h' | h'
  · exact h'
  · subst h'; omega
  · have := key hb' ha' h'; omega

/-- How many of a text's last bytes have no class. -/
def forL (F : Nat → Nat) (s : List UInt8) : Nat := mn (fun k => decide (0 < F (s.getD (s.length - 1 - k) 0).toNat)) s.length
theorem forL_is {F : Nat → Nat} {s : List UInt8} {n : Nat} (h1 : n ≤ s.length) (h2 : ∀ k, k < n → F (s.getD (s.length - 1 - k) 0).toNat = 0) (h3 : n < s.length → 0 < F (s.getD (s.length - 1 - n) 0).toNat) : forL F s = n := by
  unfold forL
  exact mn_is h1 (fun d hd => decide_eq_false (by rw [h2 d hd]; omega)) (fun hl => decide_eq_true (h3 hl))
end Go.Proofs.YtlbgigkkjlfklaaGreat

namespace Go.Proofs.YtlbgigkkjlfklaaGreat

/-- A byte stands in its place among the bytes of classes. -/
theorem bc_snoc_at (us : List (List UInt8)) : ∀ (n : Nat), n ≤ 256 → ∀ (j : Nat) (c : UInt8), (bcK us n)[j]? = some c ↔ c.toNat < n ∧ hasC us c.toNat = true ∧ ofC us c.toNat = j + 1
  | 0, _, j, c => by simp [bcK]
  | n + 1, hn, j, c => by
    have ih := bc_snoc_at us n (by omega)
    have hcl := c.toNat_lt
    cases hq : hasC us n with
    | true =>
      rw [bc_hit hq]
      have hnn : (UInt8.ofNat n).toNat = n := by simp; omega
      by_cases hj : j < (bcK us n).length
      · rw [List.getElem?_append_left hj, ih]
        constructor
        · rintro ⟨h1, h2⟩; exact ⟨by omega, h2⟩
        · rintro ⟨h1, h2, h3⟩
          refine ⟨?_, h2, h3⟩
          rcases Nat.lt_or_ge c.toNat n with h | h
          · exact h
          · have hcn : c.toNat = n := by omega
            rw [hcn, of_hit hq] at h3
            omega
      · rw [List.getElem?_append_right (by omega)]
        constructor
        · intro h
          obtain ⟨h1, h2⟩ := List.getElem?_eq_some_iff.1 h
          have h0 : j - (bcK us n).length = 0 := by simp at h1; omega
          simp only [h0, List.getElem_cons_zero] at h2
          have hcn : c.toNat = n := by rw [← h2, hnn]
          rw [hcn]
          exact ⟨by omega, hq, by rw [of_hit hq]; omega⟩
        · rintro ⟨h1, h2, h3⟩
          rcases Nat.lt_or_ge c.toNat n with h | h
          · have := (List.getElem?_eq_some_iff.1 ((ih j c).2 ⟨h, h2, h3⟩)).1
            omega
          · have hcn : c.toNat = n := by omega
            rw [hcn, of_hit hq] at h3
            rw [show j - (bcK us n).length = 0 by omega]
            have : UInt8.ofNat n = c := by rw [← hcn]; simp
            simp [this]
    | false =>
      rw [bc_miss hq, ih]
      constructor
      · rintro ⟨h1, h2⟩; exact ⟨by omega, h2⟩
      · rintro ⟨h1, h2, h3⟩
        refine ⟨?_, h2, h3⟩
        rcases Nat.lt_or_ge c.toNat n with h | h
        · exact h
        · have hcn : c.toNat = n := by omega
          rw [hcn, hq] at h2
          cases h2
theorem bc_at (us : List (List UInt8)) (j : Nat) (c : UInt8) : (bcK us 256)[j]? = some c ↔ hasC us c.toNat = true ∧ ofC us c.toNat = j + 1 := by
  rw [bc_snoc_at us 256 (Nat.le_refl _)]
  exact ⟨fun h => h.2, fun h => ⟨c.toNat_lt, h⟩⟩
theorem of_few (us : List (List UInt8)) (c : UInt8) : ofC us c.toNat < (bcK us 256).length + 1 := by
  cases hq : hasC us c.toNat with
  | true =>
    have h1 := of_pos.2 hq
    have := (List.getElem?_eq_some_iff.1 ((bc_at us (ofC us c.toNat - 1) c).2 ⟨hq, by omega⟩)).1
    omega
  | false => rw [of_miss hq]; omega

/-- A byte that stands in no text leads to the root. -/
theorem lg_foreign {us S : List (List UInt8)} (hs : IsSt us S) {c : UInt8} (h : hasC us c.toNat = false) (q : List UInt8) : lgL S (q ++ [c]) = [] := by
  rcases lg_or S (q ++ [c]) with h1 | h1
  · exact h1
  · obtain ⟨a, ha⟩ := lg_end S (q ++ [c])
    generalize lgL S (q ++ [c]) = t at h1 ha
    rcases List.eq_nil_or_concat t with rfl | ⟨t', d, rfl⟩
    · rfl
    · exfalso
      rw [List.concat_eq_append, ← List.append_assoc] at ha
      obtain ⟨_, e⟩ := List.append_inj' ha rfl
      cases e
      rcases (hs.2 _).1 h1 with h2 | h2
      · simp at h2
      · obtain ⟨p, hp, hpre⟩ := beg_iff.1 h2
        have hd : c ∈ p := hpre.subset (by simp)
        rw [hasC_mem hp hd] at h
        cases h

/-- The number of the state to which a byte leads. -/
def dnS (S : List (List UInt8)) (s : List UInt8) (c : UInt8) : Nat := (ixL (lgL S (s ++ [c])) S).toNat
theorem dn_ix {S : List (List UInt8)} (h0 : [] ∈ S) (s : List UInt8) (c : UInt8) : ixL (lgL S (s ++ [c])) S = (dnS S s c : Int) := by
  unfold dnS ixL
  rw [if_pos (lg_mem h0 _)]
  rfl
theorem dn_is {S : List (List UInt8)} (hn : S.Nodup) {s : List UInt8} {c : UInt8} {n : Nat} (h : S[n]? = some (lgL S (s ++ [c]))) : dnS S s c = n := by
  unfold dnS
  rw [ix_is hn h]
  rfl
theorem dn_at {S : List (List UInt8)} (hn : S.Nodup) (h0 : [] ∈ S) (s : List UInt8) (c : UInt8) : S[dnS S s c]? = some (lgL S (s ++ [c])) := by
  obtain ⟨n, hn', e⟩ := List.getElem_of_mem (lg_mem h0 (s ++ [c]))
  have h : S[n]? = some (lgL S (s ++ [c])) := by rw [List.getElem?_eq_getElem hn', e]
  rw [dn_is hn h]
  exact h
theorem dn_lt {S : List (List UInt8)} (hn : S.Nodup) (h0 : [] ∈ S) (s : List UInt8) (c : UInt8) : dnS S s c < S.length := (List.getElem?_eq_some_iff.1 (dn_at hn h0 s c)).1
theorem dn_root {S : List (List UInt8)} (hn : S.Nodup) (h0 : S[0]? = some []) {s : List UInt8} {c : UInt8} (h : lgL S (s ++ [c]) = []) : dnS S s c = 0 := dn_is hn (by rw [h]; exact h0)

/-- Where each class leads from a state. -/
def rwF (us S : List (List UInt8)) (s : List UInt8) : List Nat := 0 :: (bcK us 256).map (dnS S s)
/-- .. where it is known by these bytes, and by the state to which it falls back. -/
def rwP (us S : List (List UInt8)) (s ks : List UInt8) : List Nat := 0 :: (bcK us 256).map fun c => if c ∈ ks then dnS S s c else if s = [] then 0 else dnS S (fbL S s) c
theorem rwF_length (us S : List (List UInt8)) (s : List UInt8) : (rwF us S s).length = (bcK us 256).length + 1 := by simp [rwF]
theorem rwP_length (us S : List (List UInt8)) (s ks : List UInt8) : (rwP us S s ks).length = (bcK us 256).length + 1 := by simp [rwP]
theorem rwP_fall (us S : List (List UInt8)) {s : List UInt8} (h : s ≠ []) : rwP us S s [] = rwF us S (fbL S s) := by
  unfold rwP rwF
  simp [h]
theorem rwP_root (us S : List (List UInt8)) : rwP us S [] [] = List.replicate ((bcK us 256).length + 1) 0 := by
  unfold rwP
  rw [List.replicate_succ]
  refine congrArg (List.cons 0) ?_
  simp only [List.not_mem_nil, if_false, if_true]
  exact List.map_const' ..
theorem rwP_all {us S : List (List UInt8)} (hs : IsSt us S) (hn : S.Nodup) (h0 : S[0]? = some []) (s : List UInt8) (hm : s ∈ S) : rwP us S s (kidsL us s) = rwF us S s := by
  unfold rwP rwF
  refine congrArg (List.cons 0) ?_
  refine List.map_congr_left fun c _ => ?_
  by_cases hk : c ∈ kidsL us s
  · rw [if_pos hk]
  · rw [if_neg hk]
    have hmiss : s ++ [c] ∉ S := fun h => by
      rcases (hs.2 _).1 h with h | h
      · simp at h
      · exact hk (kids_mem.2 h)
    by_cases e : s = []
    · subst e
      rw [if_pos rfl, dn_root hn h0]
      rw [lg_miss hmiss]; rfl
    · rw [if_neg e]
      unfold dnS
      rw [← lg_step hs c e hmiss]
/-- One more byte by which the state leads on. -/
theorem rwP_set {us S : List (List UInt8)} {s ks : List UInt8} {c : UInt8} (hc : hasC us c.toNat = true) : (rwP us S s ks).set (ofC us c.toNat) (dnS S s c) = rwP us S s (ks ++ [c]) := by
  have h1 := of_pos.2 hc
  obtain ⟨j, hj⟩ : ∃ j, ofC us c.toNat = j + 1 := ⟨ofC us c.toNat - 1, by omega⟩
  have hat := (bc_at us j c).2 ⟨hc, hj⟩
  unfold rwP
  rw [hj, List.set_cons_succ]
  refine congrArg (List.cons 0) ?_
  apply List.ext_getElem?
  intro i
  rw [List.getElem?_set, List.getElem?_map, List.getElem?_map, List.length_map]
  by_cases e : j = i
  · subst e
    rw [if_pos rfl, if_pos (List.getElem?_eq_some_iff.1 hat).1, hat]
    simp
  · rw [if_neg e]
    cases hx : (bcK us 256)[i]? with
    | none => rfl
    | some d =>
      have hd := (bc_at us i d).1 hx
      have hne : d ≠ c := fun h => by
        subst h
        omega
      simp [hne]
/-- What a row says of a byte. -/
theorem rw_of {us S : List (List UInt8)} (hs : IsSt us S) (hn : S.Nodup) (h0 : S[0]? = some []) (s : List UInt8) (c : UInt8) : (rwF us S s)[ofC us c.toNat]? = some (dnS S s c) := by
  cases hq : hasC us c.toNat with
  | true =>
    have h1 := of_pos.2 hq
    obtain ⟨j, hj⟩ : ∃ j, ofC us c.toNat = j + 1 := ⟨ofC us c.toNat - 1, by omega⟩
    have hat := (bc_at us j c).2 ⟨hq, hj⟩
    unfold rwF
    rw [hj, List.getElem?_cons_succ, List.getElem?_map, hat]
    rfl
  | false =>
    rw [of_miss hq, dn_root hn h0 (lg_foreign hs hq s)]
    rfl
theorem kid_has {us S : List (List UInt8)} {s : List UInt8} {c : UInt8} (h : c ∈ kidsL us s) : hasC us c.toNat = true := by
  obtain ⟨p, hp, hpre⟩ := beg_iff.1 (kids_mem.1 h)
  exact hasC_mem hp (hpre.subset (by simp))
theorem rw_le {us S : List (List UInt8)} (hn : S.Nodup) (h0 : [] ∈ S) (s : List UInt8) : ∀ x ∈ rwF us S s, x ≤ S.length := fun x hx => by
  unfold rwF at hx
  rcases List.mem_cons.1 hx with rfl | hx
  · omega
  · obtain ⟨c, _, rfl⟩ := List.mem_map.1 hx
    exact Nat.le_of_lt (dn_lt hn h0 s c)

/-- One row of them all. -/
def seg (L : List Nat) (W i : Nat) : List Nat := (L.drop (i * W)).take W
theorem seg_at (L : List Nat) (W i j : Nat) : (seg L W i)[j]? = if j < W then L[i * W + j]? else none := by
  unfold seg
  by_cases h : j < W
  · rw [if_pos h, List.getElem?_take_of_lt h, List.getElem?_drop]
  · rw [if_neg h, List.getElem?_eq_none]
    simp; omega
theorem seg_in {n W i : Nat} (h : i < n) : i * W + W ≤ n * W := by
  have := Nat.mul_le_mul_right W (show i + 1 ≤ n from h)
  rwa [Nat.succ_mul] at this
theorem seg_length {L : List Nat} {n W i : Nat} (hl : L.length = n * W) (h : i < n) : (seg L W i).length = W := by
  have := seg_in (W := W) h
  unfold seg
  rw [List.length_take, List.length_drop]
  omega
theorem seg_apart {W i j a b : Nat} (h : i ≠ j) (ha : a < W) (hb : b < W) : i * W + a ≠ j * W + b := by
  rcases Nat.lt_or_gt_of_ne h with h | h
  · have := seg_in (W := W) h; omega
  · have := seg_in (W := W) h; omega
theorem seg_set_same {L : List Nat} {n W i k : Nat} (hl : L.length = n * W) (hi : i < n) (hk : k < W) (v : Nat) : seg (L.set (i * W + k) v) W i = (seg L W i).set k v := by
  have hin := seg_in (W := W) hi
  apply List.ext_getElem?
  intro j
  rw [List.getElem?_set, seg_length hl hi, seg_at, seg_at, List.getElem?_set]
  by_cases e : k = j
  · subst e
    rw [if_pos hk, if_pos rfl, if_pos rfl, if_pos (by omega), if_pos hk]
  · rw [if_neg e, if_neg (show ¬ i * W + k = i * W + j by omega)]
theorem seg_set_other {L : List Nat} {W i j k : Nat} (h : i ≠ j) (hk : k < W) (v : Nat) : seg (L.set (i * W + k) v) W j = seg L W j := by
  apply List.ext_getElem?
  intro a
  rw [seg_at, seg_at]
  by_cases ha : a < W
  · rw [if_pos ha, if_pos ha, List.getElem?_set_ne (seg_apart h hk ha)]
  · rw [if_neg ha, if_neg ha]
theorem splice_at {L R : List Nat} {o j : Nat} (h : o + R.length ≤ L.length) : (splice L o R)[j]? = if o ≤ j ∧ j < o + R.length then R[j - o]? else L[j]? := by
  unfold splice
  have ht : (L.take o).length = o := by rw [List.length_take]; omega
  by_cases h1 : j < o
  · rw [List.getElem?_append_left (by omega), List.getElem?_take_of_lt h1, if_neg (by omega)]
  · rw [List.getElem?_append_right (by omega), ht]
    by_cases h2 : j < o + R.length
    · rw [List.getElem?_append_left (by omega), if_pos (by omega)]
    · rw [List.getElem?_append_right (by omega), List.getElem?_drop, if_neg (by omega)]
      congr 1; omega
theorem seg_splice_same {L R : List Nat} {n W i : Nat} (hl : L.length = n * W) (hi : i < n) (hR : R.length = W) : seg (splice L (i * W) R) W i = R := by
  have hin := seg_in (W := W) hi
  apply List.ext_getElem?
  intro j
  rw [seg_at]
  by_cases h : j < W
  · rw [if_pos h, splice_at (by omega), if_pos (by omega)]
    congr 1; omega
  · rw [if_neg h, List.getElem?_eq_none (by omega)]
theorem seg_splice_other {L R : List Nat} {n W i j : Nat} (hl : L.length = n * W) (hi : i < n) (hR : R.length = W) (h : i ≠ j) : seg (splice L (i * W) R) W j = seg L W j := by
  have hin := seg_in (W := W) hi
  apply List.ext_getElem?
  intro a
  rw [seg_at, seg_at]
  by_cases ha : a < W
  · rw [if_pos ha, if_pos ha, splice_at (by omega), if_neg]
    rintro ⟨h1, h2⟩
    exact seg_apart h (show j * W + a - i * W < W by omega) ha (by omega)
  · rw [if_neg ha, if_neg ha]
theorem seg_zero {n W i : Nat} (h : i < n) : seg (List.replicate (n * W) 0) W i = List.replicate W 0 := by
  have := seg_in (W := W) h
  unfold seg
  rw [List.drop_replicate, List.take_replicate]
  congr 1; omega
end Go.Proofs.YtlbgigkkjlfklaaGreat

namespace Go.Proofs.YtlbgigkkjlfklaaGreat
open Go.RowKit

/-- Where a byte leads: to the root, from what is no state. -/
def auN (S : List (List UInt8)) (s : Int) (c : UInt8) : Nat := if 0 ≤ s then ((S[s.toNat]?).map fun t => dnS S t c).getD 0 else 0
/-- Where bytes lead. -/
def auR (S : List (List UInt8)) (s : Int) (t : List UInt8) : Int := t.foldl (fun s c => (auN S s c : Int)) s
/-- How many bytes a state is. -/
def auD (S : List (List UInt8)) (s : Int) : Nat := if 0 ≤ s then ((S[s.toNat]?).map List.length).getD 0 else 0
/-- The patterns that end at a state. -/
def auH (us S : List (List UInt8)) (s : Int) : List Int := if 0 ≤ s then ((S[s.toNat]?).map fun t => hsL us t).getD [] else []
theorem au_in_out (S : List (List UInt8)) (s : Int) : (∃ i : Nat, s = i ∧ ∃ t, S[i]? = some t) ∨ (s < 0 ∨ (S.length : Int) ≤ s) := by
  by_cases h : s < 0 ∨ (S.length : Int) ≤ s
  · exact .inr h
  · refine .inl ⟨s.toNat, by omega, ?_⟩
    have hk : s.toNat < S.length := by omega
    exact ⟨S[s.toNat], List.getElem?_eq_getElem hk⟩
theorem auN_in {S : List (List UInt8)} {i : Nat} {t : List UInt8} (h : S[i]? = some t) (c : UInt8) : auN S (i : Int) c = dnS S t c := by
  unfold auN
  rw [if_pos (by omega), Int.toNat_natCast, h]; rfl
theorem auN_out {S : List (List UInt8)} {s : Int} (h : s < 0 ∨ (S.length : Int) ≤ s) (c : UInt8) : auN S s c = 0 := by
  unfold auN
  split
  · rw [List.getElem?_eq_none (by omega)]; rfl
  · rfl
theorem auD_in {S : List (List UInt8)} {i : Nat} {t : List UInt8} (h : S[i]? = some t) : auD S (i : Int) = t.length := by
  unfold auD
  rw [if_pos (by omega), Int.toNat_natCast, h]; rfl
theorem auD_out {S : List (List UInt8)} {s : Int} (h : s < 0 ∨ (S.length : Int) ≤ s) : auD S s = 0 := by
  unfold auD
  split
  · rw [List.getElem?_eq_none (by omega)]; rfl
  · rfl
theorem auH_in {us S : List (List UInt8)} {i : Nat} {t : List UInt8} (h : S[i]? = some t) : auH us S (i : Int) = hsL us t := by
  unfold auH
  rw [if_pos (by omega), Int.toNat_natCast, h]; rfl
theorem auH_out {us S : List (List UInt8)} {s : Int} (h : s < 0 ∨ (S.length : Int) ≤ s) : auH us S s = [] := by
  unfold auH
  split
  · rw [List.getElem?_eq_none (by omega)]; rfl
  · rfl
theorem auH_few (us S : List (List UInt8)) (s : Int) : (auH us S s).length ≤ us.length := by
  rcases au_in_out S s with ⟨i, rfl, t, ht⟩ | h
  · rw [auH_in ht]
    exact hk_few us t us.length
  · rw [auH_out h]; simp
theorem auN_lt {S : List (List UInt8)} (hn : S.Nodup) (h0 : [] ∈ S) (s : Int) (c : UInt8) : auN S s c < S.length := by
  rcases au_in_out S s with ⟨i, rfl, t, ht⟩ | h
  · rw [auN_in ht]
    exact dn_lt hn h0 t c
  · rw [auN_out h]
    exact List.length_pos_of_mem h0
theorem auR_snoc (S : List (List UInt8)) (s : Int) (t : List UInt8) (c : UInt8) : auR S s (t ++ [c]) = (auN S (auR S s t) c : Int) := by
  simp [auR, List.foldl_append]
theorem auR_app (S : List (List UInt8)) (s : Int) (t u : List UInt8) : auR S s (t ++ u) = auR S (auR S s t) u := by
  simp [auR, List.foldl_append]
theorem auR_take (S : List (List UInt8)) (s : Int) {t : List UInt8} {k : Nat} (h : k < t.length) : auR S s (t.take (k + 1)) = (auN S (auR S s (t.take k)) t[k] : Int) := by
  rw [List.take_succ_eq_append_getElem h, auR_snoc]
/-- From a state, bytes lead to the longest state with which it and they end. -/
theorem auR_at {S : List (List UInt8)} (hn : S.Nodup) (h0 : [] ∈ S) (hc : ∀ t ∈ S, t.dropLast ∈ S) {i : Nat} {s : List UInt8} (hs : S[i]? = some s) : ∀ t : List UInt8, ∃ j : Nat, auR S (i : Int) t = j ∧ S[j]? = some (lgL S (s ++ t)) := by
  suffices h : ∀ n (t : List UInt8), t.length = n → ∃ j : Nat, auR S (i : Int) t = j ∧ S[j]? = some (lgL S (s ++ t)) from fun t => h _ t rfl
  intro n
  induction n with
  | zero =>
    intro t ht
    obtain rfl := List.eq_nil_of_length_eq_zero ht
    exact ⟨i, rfl, by rw [List.append_nil, lg_hit (List.mem_of_getElem? hs)]; exact hs⟩
  | succ n ih =>
    intro t ht
    obtain ⟨u, c, rfl⟩ : ∃ u c, t = u ++ [c] := ⟨t.dropLast, t.getLast (by intro e; subst e; simp at ht), (List.dropLast_concat_getLast _).symm⟩
    obtain ⟨j, h1, h2⟩ := ih u (by simp at ht; omega)
    refine ⟨_, by rw [auR_snoc, h1, auN_in h2], ?_⟩
    have := dn_at hn h0 (lgL S (s ++ u)) c
    rw [this, ← List.append_assoc, lg_snoc hc c (s ++ u)]
end Go.Proofs.YtlbgigkkjlfklaaGreat

namespace Go.Proofs.YtlbgigkkjlfklaaGreat
open Go.RowKit

/-- All blocks of cells of other types than T are as they were. -/
def Other (T : TypeId) (w w' : World) : Prop := ∀ (k : Nat) (cs : Array Value) (U : TypeId) (m : Nat × Nat), U ≠ T → w.heap[k]? = some (.cells cs U m) → w'.heap[k]? = some (.cells cs U m)
theorem Other.refl (T : TypeId) (w : World) : Other T w w := fun _ _ _ _ _ h => h
theorem Other.trans {T : TypeId} {u v w : World} (h : Other T u v) (k : Other T v w) : Other T u w := fun i cs U m hU hh => k i cs U m hU (h i cs U m hU hh)
theorem Other.set {T : TypeId} {w : World} {b i : Nat} {cs : Array Value} {m : Nat × Nat} (h : w.heap[b]? = some (.cells cs T m)) (u : Value) : Other T w (w.setCell ⟨b, i, none⟩ u) := fun k ds U m' hU hk => by
  have hne : k ≠ b := fun e => by
    subst e
    rw [h] at hk
    injection hk with hk
    injection hk with h1 h2 h3
    exact hU h2.symm
  rw [put_other hne]
  exact hk
theorem Other.heap {T : TypeId} {w w' : World} (e : w'.heap = w.heap) : Other T w w' := fun k cs U m hU hk => by rw [e]; exact hk
theorem Other.owns {T : TypeId} {w w' : World} (h : Other T w w') {base n : Nat} {size : Nat} {e : TypeId} {v : Value} {xs : List Value} (he : e ≠ T) (ho : w.ownsRow base e size v n xs) : w'.ownsRow base e size v n xs := by
  obtain ⟨hl, hx⟩ := ho
  refine ⟨hl, ?_⟩
  rcases hx with hx | ⟨g, cap, cur, hv, hg, hh, r⟩
  · exact .inl hx
  · exact .inr ⟨g, cap, cur, hv, hg, h g _ _ _ he hh, r⟩
end Go.Proofs.YtlbgigkkjlfklaaGreat

namespace Go.Proofs.YtlbgigkkjlfklaaGreat
open Go.RowKit

/-- The cells of classes: each byte's class, and the bytes that have one. -/
def ClsAt (cs : Array Value) (F : Nat → Nat) (B : List UInt8) : Prop := (∀ c, c < 256 → cs[c]? = some (.int .i64 (F c : Int))) ∧ cs[256]? = some (.string ⟨B.toArray⟩)
/-- Classes in block b. -/
def IsCls (w : World) (b : Nat) (F : Nat → Nat) (B : List UInt8) : Prop := ∃ cs : Array Value, w.heap[b]? = some (.cells cs 104 (0, 0)) ∧ ClsAt cs F B
theorem IsCls.lt {w : World} {b : Nat} {F : Nat → Nat} {B : List UInt8} (h : IsCls w b F B) : b < w.heap.size := by
  obtain ⟨cs, h, _⟩ := h
  exact heap_lt h
theorem IsCls.below {w w' : World} {b : Nat} {F : Nat → Nat} {B : List UInt8} (h : IsCls w b F B) (hb : Below w.heap.size w w') : IsCls w' b F B := by
  have hlt := h.lt
  obtain ⟨cs, h1, h2⟩ := h
  exact ⟨cs, (hb.block b hlt).trans h1, h2⟩
theorem IsCls.heap {w W : World} {b : Nat} {F : Nat → Nat} {B : List UInt8} (h : IsCls w b F B) (e : W.heap = w.heap) : IsCls W b F B := by
  unfold IsCls at *
  rw [e]
  exact h
theorem IsCls.congr {w : World} {b : Nat} {F G : Nat → Nat} {B : List UInt8} (h : IsCls w b F B) (e : ∀ c, c < 256 → F c = G c) : IsCls w b G B := by
  obtain ⟨cs, h1, h2, h3⟩ := h
  exact ⟨cs, h1, fun c hc => by rw [← e c hc]; exact h2 c hc, h3⟩
theorem IsCls.put {w : World} {b c n : Nat} {F : Nat → Nat} {B : List UInt8} (h : IsCls w b F B) (hc : c < 256) : IsCls (w.setCell ⟨b, c, none⟩ (.int .i64 (n : Int))) b (fun d => if d = c then n else F d) B := by
  obtain ⟨cs, h1, h2, h3⟩ := h
  refine ⟨_, put_heap h1 _, fun d hd => ?_, ?_⟩
  · have hl := (Array.getElem?_eq_some_iff.1 (h2 d hd)).1
    by_cases e : d = c
    · subst e
      simp only [↓reduceIte]
      rw [Array.getElem?_setIfInBounds_self_of_lt hl]
    · simp only [if_neg e]
      rw [Array.getElem?_setIfInBounds_ne (by omega)]
      exact h2 d hd
  · rw [Array.getElem?_setIfInBounds_ne (by omega)]
    exact h3
theorem IsCls.putB {w : World} {b : Nat} {F : Nat → Nat} {B : List UInt8} (h : IsCls w b F B) (L : List UInt8) : IsCls (w.setCell ⟨b, 256, none⟩ (.string ⟨L.toArray⟩)) b F L := by
  obtain ⟨cs, h1, h2, h3⟩ := h
  have hl := (Array.getElem?_eq_some_iff.1 h3).1
  refine ⟨_, put_heap h1 _, fun d hd => ?_, ?_⟩
  · rw [Array.getElem?_setIfInBounds_ne (by omega)]
    exact h2 d hd
  · rw [Array.getElem?_setIfInBounds_self_of_lt hl]
theorem IsCls.cell {w : World} {b c : Nat} {F : Nat → Nat} {B : List UInt8} (h : IsCls w b F B) (hc : c < 256) : w.cell? ⟨b, c, none⟩ = some (.int .i64 (F c : Int)) := by
  obtain ⟨cs, h1, h2, _⟩ := h
  rw [Lib.cell_of_heap h1]
  exact h2 c hc
theorem IsCls.last {w : World} {b : Nat} {F : Nat → Nat} {B : List UInt8} (h : IsCls w b F B) : w.cell? ⟨b, 256, none⟩ = some (.string ⟨B.toArray⟩) := by
  obtain ⟨cs, h1, _, h3⟩ := h
  rw [Lib.cell_of_heap h1]
  exact h3
theorem IsCls.free {w : World} {b i : Nat} {F : Nat → Nat} {B : List UInt8} (h : IsCls w b F B) : w.frozen? ⟨b, i, none⟩ = false := by
  obtain ⟨cs, h1, _⟩ := h
  exact Lib.frozen_of_heap h1 _

/-- Classes behind a pointer, or none: then all bytes are foreign; how many there are. -/
def HasCls (w : World) (p : Option Addr) (F : Nat → Nat) (B : List UInt8) (n : Nat) : Prop := (p = none ∧ (∀ c, F c = 0) ∧ B = [] ∧ n = 0) ∨ ∃ b, p = some ⟨b, 0, none⟩ ∧ IsCls w b F B ∧ n = B.length + 1
theorem HasCls.below {w w' : World} {p : Option Addr} {F : Nat → Nat} {B : List UInt8} {n : Nat} (h : HasCls w p F B n) (hb : Below w.heap.size w w') : HasCls w' p F B n :=
  h.elim .inl (fun ⟨b, h1, h2, h3⟩ => .inr ⟨b, h1, h2.below hb, h3⟩)
theorem HasCls.heap {w W : World} {p : Option Addr} {F : Nat → Nat} {B : List UInt8} {n : Nat} (h : HasCls w p F B n) (e : W.heap = w.heap) : HasCls W p F B n :=
  h.elim .inl (fun ⟨b, h1, h2, h3⟩ => .inr ⟨b, h1, h2.heap e, h3⟩)

theorem clof_any {w : World} {p : Option Addr} {F : Nat → Nat} {B : List UInt8} {n : Nat} (h : HasCls w p F B n) (c : Nat) (hc : c < 256) :
    Calls Tryz.prog 52 #[.pointer p, .int .u8 (c : Int)] w fun e w' => e = .returned (.int .i64 (F c : Int)) ∧ w' = w := by
  rcases h with ⟨rfl, h, _⟩ | ⟨b, rfl, h, _⟩
  · rw [h c]
    clear h
    go_enter Tryz.func52, Tryz.ntmps52
    go_wp2
    go_ret
    exact ⟨rfl, rfl⟩
  · have c0 := h.cell hc
    clear h
    have g0 : (0 : Int) ≤ (c : Int) := by omega
    have g1 : (c : Int) < 256 := by omega
    go_enter Tryz.func52, Tryz.ntmps52
    go_wp2
    go_ret
    exact ⟨rfl, rfl⟩
theorem cllen_any {w : World} {p : Option Addr} {F : Nat → Nat} {B : List UInt8} {n : Nat} (h : HasCls w p F B n) (hB : B.length ≤ 1000000) :
    Calls Tryz.prog 39 #[.pointer p] w fun e w' => e = .returned (.int .i64 (n : Int)) ∧ w' = w := by
  rcases h with ⟨rfl, _, _, rfl⟩ | ⟨b, rfl, h, rfl⟩
  · go_enter Tryz.func39, Tryz.ntmps39
    go_wp2
    go_ret
    exact ⟨rfl, rfl⟩
  · have c0 := h.last
    have S1 := Lib.hid (bsize B)
    clear h
    have hs := bsize B
    have g0 : IntKind.i64.wrap (1 + (B.length : Int)) = ((B.length + 1 : Nat) : Int) := by rw [IntKind.wrap_i64]; omega
    go_enter Tryz.func39, Tryz.ntmps39
    go_wp2
    go_ret
    refine ⟨?_, rfl⟩
    try go_num
    try rfl

end Go.Proofs.YtlbgigkkjlfklaaGreat

namespace Go.Proofs.YtlbgigkkjlfklaaGreat
open Go.RowKit

theorem int_info : (Tryz.prog.info? 3).map (fun i => (i.zero, i.size, i.bytes)) = some (some (.int .i64 0), 1, 8) := by kernel_rfl

/-- The cells of numbers. -/
def inCells (zs : List Int) : List Value := zs.map (Value.int .i64)
theorem inCells_snoc (zs : List Int) (x : Int) : inCells (zs ++ [x]) = inCells zs ++ [.int .i64 x] := by simp [inCells]

theorem owns_ints {w : World} {base : Nat} {e : TypeId} {v : Value} {zs : List Int} (h : w.ownsRow base e 1 v zs.length (inCells zs)) :
    ∃ ao cap, v = .slice ao zs.length cap ∧ (zs.length = 0 ∨ ∃ g, ao = some ⟨g, 0, none⟩ ∧ base ≤ g ∧ g < w.heap.size ∧ ∀ i, i < zs.length → w.cell? ⟨g, 0 + i, none⟩ = some (.int .i64 (zs.getD i 0))) := by
  rcases h.2 with ⟨hv, h0⟩ | ⟨g, cap, cur, hv, hg, _⟩
  · have h0' : zs.length = 0 := h0
    exact ⟨none, 0, by rw [h0']; exact hv, .inl h0'⟩
  · have hlt := h.lt (k := g) (by rw [hv]; rfl)
    refine ⟨some ⟨g, 0, none⟩, cap, hv, .inr ⟨g, rfl, hlt.1, hlt.2, fun i hi => ?_⟩⟩
    have hc := h.cells (g := g) (by rw [hv]; rfl) i (.int .i64 (zs.getD i 0)) (by simp [inCells, List.getD, List.getElem?_eq_getElem hi])
    rwa [addPlain] at hc

/-- Numbers in memory: all cells, not just those of a slice that came in. -/
theorem row_of_ints {w : World} {base : Nat} {e : TypeId} {v : Value} {zs : List Int} (h : w.ownsRow base e 1 v zs.length (inCells zs)) (hm : zs.length ≤ maxLen) :
    ∃ ao cap, v = .slice ao zs.length cap ∧ IsRow .i64 w ao zs.length zs.length zs := by
  obtain ⟨ao, cap, hv, h0 | ⟨g, hao, _, _, hc⟩⟩ := owns_ints h
  · exact ⟨ao, cap, hv, .inl h0⟩
  · exact ⟨ao, cap, hv, .inr ⟨g, 0, hao, Nat.le_refl _, hm, rfl, hc⟩⟩

/-- A number's one cell, in a block of its own. -/
theorem int_news {w : World} {X : Nat} {T : TypeId} {u : Value} (h : w.heap[X]? = some (.cells #[u] T (0, 0))) : ∀ j x, [u][j]? = some x → w.cell? ((⟨X, 0, none⟩ : Addr).add j) = some x := one_news h
theorem int_one {x : Int} : ∀ v ∈ [Value.int .i64 x], v.oneCell' = true := by
  intro v hv
  simp at hv
  subst hv; rfl

/-- A list of numbers, as an answer: a slice of the call's own; nothing that was there is written. -/
def RetN (zs : List Int) (w : World) (e : Ending) (w' : World) : Prop := ∃ (v : Value), e = .returned v ∧ w'.ownsRow w.heap.size 3 1 v zs.length (inCells zs) ∧ Below w.heap.size w w'

/-- A list of numbers, to be read: a slice; nothing that was there is written. -/
def RetI (zs : List Int) (w : World) (e : Ending) (w' : World) : Prop := ∃ (a : Option Addr) (cap : Nat), e = .returned (.slice a zs.length cap) ∧ IsRow .i64 w' a zs.length zs.length zs ∧ Below w.heap.size w w'
theorem RetI.of {zs L : List Int} {w0 w w' : World} {v : Value} (e : zs = L) (h : w'.ownsRow w0.heap.size 3 1 v L.length (inCells L)) (hm : L.length ≤ maxLen) (hb : Below w.heap.size w w') : ∃ a cap, v = .slice a L.length cap ∧ RetI zs w (.returned (.slice a L.length cap)) w' := by
  obtain ⟨ao, cap, hv, hr⟩ := row_of_ints h hm
  subst e
  exact ⟨ao, cap, hv, ao, cap, rfl, hr, hb⟩

/-- A row in one block of its own. -/
theorem row_heap {w : World} {g n : Nat} {zs : List Int} {T : TypeId} (h : w.heap[g]? = some (.cells (inCells zs).toArray T (0, 0))) (hn : zs.length = n) (hm : n ≤ maxLen) : IsRow .i64 w (some ⟨g, 0, none⟩) n n zs := by
  refine .inr ⟨g, 0, rfl, Nat.le_refl _, hm, hn, fun i hi => ?_⟩
  rw [Nat.zero_add, Lib.cell_of_heap h]
  simp [inCells, List.getD, List.getElem?_eq_getElem (show i < zs.length by omega)]
end Go.Proofs.YtlbgigkkjlfklaaGreat

namespace Go.Proofs.YtlbgigkkjlfklaaGreat
open Go.RowKit

set_option maxRecDepth 100000 in
theorem make_row (c : Nat) (w : World) (hc : c ≤ 1000000000) : (Instr.makeSlice 34 (.int .i64 (c : Int)) (.int .i64 (c : Int))).run Tryz.prog w = .ok (.slice (some ⟨w.heap.size, 0, none⟩) c c) (w.alloc (.cells (inCells (List.replicate c 0)).toArray 3)) := by
  obtain ⟨i0, hi, hz0, hz1, hz2⟩ := info_parts int_info
  have h := run_make (P := Tryz.prog) w 34 3 i0 (.int .i64 0) Tryz.underlying34 hi hz0 .i64 .i64 c c (by omega) (Int.le_refl _) (by rw [hz2]; omega) (by omega)
  rw [h, hz1, Nat.mul_one, Int.toNat_natCast, show inCells (List.replicate c 0) = List.replicate c (Value.int .i64 0) by simp [inCells]]
  congr 3
  show madeCells #[Value.int .i64 0] c = _
  rw [← toList_madeCells_one]
end Go.Proofs.YtlbgigkkjlfklaaGreat

namespace Go.Proofs.YtlbgigkkjlfklaaGreat
open Go.RowKit

theorem own_below {base : Nat} {e : TypeId} {v : Value} {n : Nat} {xs : List Value} {w0 w w' : World} {o : Obj} (hb : Below w0.heap.size w0 w) (hown : w.ownsRow base e 1 v n xs) (hbase : w0.heap.size ≤ base) (hg : (w.alloc o).grownBy w' v.ownBlock) : Below w0.heap.size w0 w' :=
  hb.trans ⟨hg.os, hg.tape, hg.output, Nat.le_trans (by simp) hg.size, fun i hi => by
    rw [hg.block i (by have := hb.size; simp; omega) (fun e => by have := (hown.lt i e.symm).1; omega), Lib.alloc_old _ _ i (by have := hb.size; omega)]⟩
end Go.Proofs.YtlbgigkkjlfklaaGreat

namespace Go.Proofs.YtlbgigkkjlfklaaGreat
open Go.RowKit

/-- The cells of rows. -/
def dnV (n : Nat) : Value := .int .i32 (n : Int)
def dnCells (L : List Nat) : List Value := L.map dnV
theorem dnCells_length (L : List Nat) : (dnCells L).length = L.length := List.length_map _
/-- A table in block b, its rows in block g. -/
structure IsTb (w : World) (b g : Nat) (pc : Option Addr) (n W : Nat) (L : List Nat) : Prop where
  head : w.heap[b]? = some (.cells #[.pointer pc, .int .i64 (n : Int), .slice (some ⟨g, 0, none⟩) L.length L.length] 63 (0, 0))
  row : w.heap[g]? = some (.cells (dnCells L).toArray 21 (0, 0))
  len : L.length = n * W
  fn : n ≤ 16777217
  fw : W ≤ 257
  wp : 0 < W
  fit : ∀ x ∈ L, x ≤ 16777217
theorem IsTb.lt {w : World} {b g : Nat} {pc : Option Addr} {n W : Nat} {L : List Nat} (h : IsTb w b g pc n W L) : b < w.heap.size := heap_lt h.head
theorem IsTb.ltg {w : World} {b g : Nat} {pc : Option Addr} {n W : Nat} {L : List Nat} (h : IsTb w b g pc n W L) : g < w.heap.size := heap_lt h.row
theorem IsTb.below {w w' : World} {b g : Nat} {pc : Option Addr} {n W : Nat} {L : List Nat} (h : IsTb w b g pc n W L) (hb : Below w.heap.size w w') : IsTb w' b g pc n W L :=
  ⟨(hb.block b h.lt).trans h.head, (hb.block g h.ltg).trans h.row, h.len, h.fn, h.fw, h.wp, h.fit⟩
theorem IsTb.heap {w w' : World} {b g : Nat} {pc : Option Addr} {n W : Nat} {L : List Nat} (h : IsTb w b g pc n W L) (e : w'.heap = w.heap) : IsTb w' b g pc n W L :=
  ⟨by rw [e]; exact h.head, by rw [e]; exact h.row, h.len, h.fn, h.fw, h.wp, h.fit⟩
theorem IsTb.most {w : World} {b g : Nat} {pc : Option Addr} {n W : Nat} {L : List Nat} (h : IsTb w b g pc n W L) : L.length ≤ 4311744769 := by
  have h1 := h.fn
  have h2 := h.fw
  have := Nat.mul_le_mul h1 h2
  rw [h.len]; omega
theorem IsTb.reads {w : World} {b g : Nat} {pc : Option Addr} {n W : Nat} {L : List Nat} (h : IsTb w b g pc n W L) : w.cell? ⟨b, 0, none⟩ = some (.pointer pc) ∧ w.cell? ⟨b, 1, none⟩ = some (.int .i64 (n : Int)) ∧ w.cell? ⟨b, 2, none⟩ = some (.slice (some ⟨g, 0, none⟩) L.length L.length) := by
  refine ⟨?_, ?_, ?_⟩ <;> rw [Lib.cell_of_heap h.head] <;> rfl
theorem IsTb.cell {w : World} {b g : Nat} {pc : Option Addr} {n W : Nat} {L : List Nat} (h : IsTb w b g pc n W L) {j x : Nat} (hx : L[j]? = some x) : w.cell? ⟨g, j, none⟩ = some (.int .i32 (x : Int)) := by
  rw [Lib.cell_of_heap h.row]
  simp [dnCells, hx, dnV]
theorem IsTb.free {w : World} {b g : Nat} {pc : Option Addr} {n W : Nat} {L : List Nat} (h : IsTb w b g pc n W L) (j : Nat) : w.frozen? ⟨g, j, none⟩ = false := Lib.frozen_of_heap h.row _
theorem IsTb.seg_cell {w : World} {b g : Nat} {pc : Option Addr} {n W : Nat} {L : List Nat} (h : IsTb w b g pc n W L) {i k x : Nat} (hx : (seg L W i)[k]? = some x) : k < W ∧ x ≤ 16777217 ∧ w.cell? ⟨g, i * W + k, none⟩ = some (.int .i32 (x : Int)) := by
  rw [seg_at] at hx
  by_cases hk : k < W
  · rw [if_pos hk] at hx
    exact ⟨hk, h.fit x (List.mem_of_getElem? hx), h.cell hx⟩
  · rw [if_neg hk] at hx; cases hx
/-- A table and its classes. -/
structure IsDn (w : World) (b g : Nat) (pc : Option Addr) (n W : Nat) (L : List Nat) (F : Nat → Nat) (B : List UInt8) : Prop where
  tb : IsTb w b g pc n W L
  cl : HasCls w pc F B W
  fb : B.length ≤ 1000
theorem IsDn.below {w w' : World} {b g : Nat} {pc : Option Addr} {n W : Nat} {L : List Nat} {F : Nat → Nat} {B : List UInt8} (h : IsDn w b g pc n W L F B) (hb : Below w.heap.size w w') : IsDn w' b g pc n W L F B := ⟨h.tb.below hb, h.cl.below hb, h.fb⟩

theorem dnnil_eq (w : World) (a : Option Addr) (n c n' c' : Nat) : (binOp .eql 61 (.slice a n c) (.slice none n' c')).run Tryz.prog w = .ok (.bool a.isNone) w := Lib.run_eql_slice_nil w _ _ a n c n' c' Tryz.underlying61
theorem dnlen_any {w : World} {b g : Nat} {pc : Option Addr} {n W : Nat} {L : List Nat} (h : IsTb w b g pc n W L) : Calls Tryz.prog 30 #[.pointer (some ⟨b, 0, none⟩)] w fun e w' => e = .returned (.int .i64 (n : Int)) ∧ w' = w := by
  have c1 := h.reads.2.1
  clear h
  go_enter Tryz.func30, Tryz.ntmps30
  go_wp2
  go_ret
  exact ⟨rfl, rfl⟩
theorem dncls_any {w : World} {b g : Nat} {pc : Option Addr} {n W : Nat} {L : List Nat} (h : IsTb w b g pc n W L) : Calls Tryz.prog 58 #[.pointer (some ⟨b, 0, none⟩)] w fun e w' => e = .returned (.pointer pc) ∧ w' = w := by
  have c1 := h.reads.1
  clear h
  go_enter Tryz.func58, Tryz.ntmps58
  go_wp2
  go_ret
  exact ⟨rfl, rfl⟩
theorem dnwid_any {w : World} {b g : Nat} {pc : Option Addr} {n W : Nat} {L : List Nat} {F : Nat → Nat} {B : List UInt8} (h : IsDn w b g pc n W L F B) : Calls Tryz.prog 31 #[.pointer (some ⟨b, 0, none⟩)] w fun e w' => e = .returned (.int .i64 (W : Int)) ∧ w' = w := by
  have HC := Lib.hid (dncls_any h.tb)
  have HL := Lib.hid (cllen_any h.cl (by have := h.fb; omega))
  clear h
  go_enter Tryz.func31, Tryz.ntmps31
  go_wp2_with fail
  refine HC.out.mono ?_
  rintro e w' ⟨rfl, rfl⟩
  go_wp2_with fail
  refine HL.out.mono ?_
  rintro e w' ⟨rfl, rfl⟩
  go_wp2
  go_ret
  exact ⟨rfl, rfl⟩
/-- A nil table. -/
theorem dnlen_nil (w : World) : Calls Tryz.prog 30 #[.pointer none] w fun e w' => e = .returned (.int .i64 0) ∧ w' = w := by
  go_enter Tryz.func30, Tryz.ntmps30
  go_wp2
  go_ret
  exact ⟨rfl, rfl⟩
theorem dncls_nil (w : World) : Calls Tryz.prog 58 #[.pointer none] w fun e w' => e = .returned (.pointer none) ∧ w' = w := by
  go_enter Tryz.func58, Tryz.ntmps58
  go_wp2
  go_ret
  exact ⟨rfl, rfl⟩
theorem dnwid_nil (w : World) : Calls Tryz.prog 31 #[.pointer none] w fun e w' => e = .returned (.int .i64 0) ∧ w' = w := by
  have HC := Lib.hid (dncls_nil w)
  have HL := Lib.hid (cllen_any (w := w) (p := none) (F := fun _ => 0) (B := []) (n := 0) (.inl ⟨rfl, fun _ => rfl, rfl, rfl⟩) (by simp))
  go_enter Tryz.func31, Tryz.ntmps31
  go_wp2_with fail
  refine HC.out.mono ?_
  rintro e w' ⟨rfl, rfl⟩
  go_wp2_with fail
  refine HL.out.mono ?_
  rintro e w' ⟨rfl, rfl⟩
  go_wp2
  go_ret
  exact ⟨rfl, rfl⟩

set_option maxHeartbeats 1000000 in
theorem dnrow_in {w : World} {b g : Nat} {pc : Option Addr} {n W : Nat} {L : List Nat} {F : Nat → Nat} {B : List UInt8} (h : IsDn w b g pc n W L F B) (i : Nat) (hi : i < n) : Calls Tryz.prog 51 #[.pointer (some ⟨b, 0, none⟩), .int .i64 (i : Int)] w fun e w' => e = .returned (.slice (some ⟨g, i * W, none⟩) W W) ∧ w' = w := by
  have HL := Lib.hid (dnlen_any h.tb)
  have HW := Lib.hid (dnwid_any h)
  have c2 := h.tb.reads.2.2
  have hm := h.tb.most
  have hin := seg_in (W := W) hi
  rw [← h.tb.len] at hin
  have hfw := h.tb.fw
  have hfn := h.tb.fn
  have hwp := h.tb.wp
  clear h
  have hmul : (i : Int) * (W : Int) = ((i * W : Nat) : Int) := by simp
  generalize i * W = q at *
  generalize L.length = m at *
  have w0 : IntKind.i64.wrap ((i : Int) * (W : Int)) = (q : Int) := by rw [hmul, IntKind.wrap_i64]; omega
  have w1 : IntKind.i64.wrap ((q : Int) + (W : Int)) = ((q + W : Nat) : Int) := by rw [IntKind.wrap_i64]; omega
  have g0 : ¬ (i : Int) < 0 := by omega
  have g1 : decide ((i : Int) < 0) = false := decide_eq_false g0
  have g2 : ¬ (n : Int) ≤ (i : Int) := by omega
  have g3 : decide ((n : Int) ≤ (i : Int)) = false := decide_eq_false g2
  have g4 : (q : Int) ≤ ((q + W : Nat) : Int) := by omega
  have g5 : ((q + W : Nat) : Int) ≤ (m : Int) := by omega
  have g6 : (0 : Int) ≤ (q : Int) := by omega
  have g7 : ¬ W = 0 := by omega
  have g8 : ¬ q + W = q := by omega
  clear hmul
  go_enter Tryz.func51, Tryz.ntmps51
  go_wp2_with fail
  refine HL.out.mono ?_
  rintro e w' ⟨rfl, hw'⟩
  obtain rfl := hw'.symm
  clear hw'
  go_wp2_with fail
  refine HW.out.mono ?_
  rintro e w' ⟨rfl, hw'⟩
  obtain rfl := hw'.symm
  clear hw'
  go_wp2_with fail
  refine HW.out.mono ?_
  rintro e w' ⟨rfl, hw'⟩
  obtain rfl := hw'.symm
  clear hw'
  go_wp2
  go_ret
  refine ⟨?_, rfl⟩
  show Ending.returned (Value.slice (some ⟨g, q, none⟩) (q + W - q) (q + W - q)) = _
  rw [Nat.add_sub_cancel_left]
set_option maxRecDepth 100000 in
theorem dnrow_out {w : World} {b g : Nat} {pc : Option Addr} {n W : Nat} {L : List Nat} (h : IsTb w b g pc n W L) (s : Int) (hs : s < 0 ∨ (n : Int) ≤ s) : Calls Tryz.prog 51 #[.pointer (some ⟨b, 0, none⟩), .int .i64 s] w fun e w' => e = .returned (.slice none 0 0) ∧ w' = w := by
  have HL := Lib.hid (dnlen_any h)
  clear h
  go_enter Tryz.func51, Tryz.ntmps51
  by_cases g0 : s < 0
  · have g1 : decide (s < 0) = true := decide_eq_true g0
    go_wp2
    go_ret
    exact ⟨rfl, rfl⟩
  · have g1 : decide (s < 0) = false := decide_eq_false g0
    have g2 : (n : Int) ≤ s := by omega
    have g3 : decide ((n : Int) ≤ s) = true := decide_eq_true g2
    go_wp2_with fail
    refine HL.out.mono ?_
    rintro e w' ⟨rfl, rfl⟩
    go_wp2
    go_ret
    exact ⟨rfl, rfl⟩
set_option maxRecDepth 100000 in
theorem dnrow_nil (s : Int) (w : World) : Calls Tryz.prog 51 #[.pointer none, .int .i64 s] w fun e w' => e = .returned (.slice none 0 0) ∧ w' = w := by
  have HL := Lib.hid (dnlen_nil w)
  go_enter Tryz.func51, Tryz.ntmps51
  by_cases g0 : s < 0
  · have g1 : decide (s < 0) = true := decide_eq_true g0
    go_wp2
    go_ret
    exact ⟨rfl, rfl⟩
  · have g1 : decide (s < 0) = false := decide_eq_false g0
    have g2 : (0 : Int) ≤ s := by omega
    have g3 : decide ((0 : Int) ≤ s) = true := decide_eq_true g2
    go_wp2_with fail
    refine HL.out.mono ?_
    rintro e w' ⟨rfl, rfl⟩
    go_wp2
    go_ret
    exact ⟨rfl, rfl⟩

/-- Of what is no state nothing is told. -/
def NoRow (w : World) (p : Option Addr) (s : Int) : Prop := ∀ W, W.heap = w.heap → Calls Tryz.prog 51 #[.pointer p, .int .i64 s] W fun e w' => e = .returned (.slice none 0 0) ∧ w' = W
set_option maxRecDepth 100000 in
theorem dnstep_none {w : World} {p : Option Addr} {s : Int} (h : NoRow w p s) (c : UInt8) : Calls Tryz.prog 27 #[.pointer p, .int .i64 s, .int .u8 (c.toNat : Int)] w fun e w' => e = .returned (.int .i64 0) ∧ w' = w := by
  have HR := Lib.hid (h w rfl)
  have hnil := dnnil_eq (n' := 0) (c' := 0)
  clear h
  go_enter Tryz.func27, Tryz.ntmps27
  go_wp2_with fail
  refine HR.out.mono ?_
  rintro e w' ⟨rfl, rfl⟩
  go_wp2
  go_ret
  exact ⟨rfl, rfl⟩
set_option maxRecDepth 100000 in
set_option maxHeartbeats 1000000 in
theorem dnstep_in {w : World} {b g : Nat} {pc : Option Addr} {n W : Nat} {L : List Nat} {F : Nat → Nat} {B : List UInt8} (h : IsDn w b g pc n W L F B) (i : Nat) (hi : i < n) (c : UInt8) {x : Nat} (hx : (seg L W i)[F c.toNat]? = some x) : Calls Tryz.prog 27 #[.pointer (some ⟨b, 0, none⟩), .int .i64 (i : Int), .int .u8 (c.toNat : Int)] w fun e w' => e = .returned (.int .i64 (x : Int)) ∧ w' = w := by
  have HR := Lib.hid (dnrow_in h i hi)
  have HO := Lib.hid (clof_any h.cl c.toNat c.toNat_lt)
  have c0 := h.tb.reads.1
  obtain ⟨hk, hxl, cx⟩ := h.tb.seg_cell hx
  clear h hx
  generalize i * W = q at *
  generalize F c.toNat = k at *
  have g0 : (0 : Int) ≤ (k : Int) := by omega
  have g1 : (k : Int) < (W : Int) := by omega
  have w0 : IntKind.i64.wrap (x : Int) = (x : Int) := by rw [IntKind.wrap_i64]; omega
  have hnil := dnnil_eq (n' := 0) (c' := 0)
  go_enter Tryz.func27, Tryz.ntmps27
  go_wp2_with fail
  refine HR.out.mono ?_
  rintro e w' ⟨rfl, hw'⟩
  obtain rfl := hw'.symm
  clear hw'
  go_wp2_with fail
  refine HO.out.mono ?_
  rintro e w' ⟨rfl, hw'⟩
  obtain rfl := hw'.symm
  clear hw'
  go_wp2
  go_ret
  exact ⟨rfl, rfl⟩
end Go.Proofs.YtlbgigkkjlfklaaGreat
