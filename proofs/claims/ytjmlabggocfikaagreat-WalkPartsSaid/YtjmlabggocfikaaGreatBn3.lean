/-
  Texts put together: ShM, ClM, DnM, AuM, OcM, WkM, Oth.
-/
import Derived.Test.YtjmlabggocfikaaGreatBn1
import Derived.Test.YtjmlabggocfikaaGreatBn2
import Derived.Lib.Hide
import Derived.Laws.CopyOwn
set_option linter.unusedSimpArgs false
set_option linter.unusedVariables false
namespace Go.Proofs.YtjmlabggocfikaaGreat

/-- The least number below n of which p holds, else n. -/
def mn (p : Nat → Bool) : Nat → Nat
  | 0 => 0
  | n + 1 => if mn p n < n ∨ p n = true then mn p n else n + 1
theorem mn_spec (p : Nat → Bool) : ∀ n, mn p n ≤ n ∧ (∀ d, d < mn p n → p d = false) ∧ (mn p n < n → p (mn p n) = true)
  | 0 => ⟨Nat.le_refl _, fun d h => by simp [mn] at h, fun h => by simp [mn] at h⟩
  | n + 1 => by
    obtain ⟨h1, h2, h3⟩ := mn_spec p n
    unfold mn
    by_cases hq : mn p n < n ∨ p n = true
    · rw [if_pos hq]
      refine ⟨by omega, h2, fun _ => ?_⟩
      rcases Nat.lt_or_ge (mn p n) n with h | h
      · exact h3 h
      · rcases hq with h' | h'
        · omega
        · rw [show mn p n = n by omega]; exact h'
    · rw [if_neg hq]
      have e : mn p n = n := by
        rcases Nat.lt_or_ge (mn p n) n with h | h
        · exact absurd (.inl h) hq
        · omega
      refine ⟨Nat.le_refl _, fun d hd => ?_, fun h => by omega⟩
      rcases Nat.lt_or_ge d n with h | h
      · exact h2 d (by omega)
      · rw [show d = n by omega]
        cases hp : p n with
        | false => rfl
        | true => exact absurd (.inr hp) hq
theorem mn_le (p : Nat → Bool) (n : Nat) : mn p n ≤ n := (mn_spec p n).1
theorem mn_is {p : Nat → Bool} {n r : Nat} (h1 : r ≤ n) (h2 : ∀ d, d < r → p d = false) (h3 : r < n → p r = true) : mn p n = r := by
  obtain ⟨a, b, c⟩ := mn_spec p n
  rcases Nat.lt_trichotomy (mn p n) r with h | h | h
  · have x := h2 _ h
    rw [c (by omega)] at x
    cases x
  · exact h
  · have x := b _ h
    rw [h3 (by omega)] at x
    cases x
theorem mn_congr {p q : Nat → Bool} {n : Nat} (h : ∀ d, d < n → p d = q d) : mn p n = mn q n := by
  obtain ⟨a, b, c⟩ := mn_spec q n
  exact mn_is a (fun d hd => by rw [h d (by omega)]; exact b d hd) (fun hl => by rw [h _ hl]; exact c hl)
theorem mn_none {p : Nat → Bool} {n : Nat} (h : ∀ d, d < n → p d = false) : mn p n = n := mn_is (Nat.le_refl _) h (fun h => by omega)
theorem mn_or {p q : Nat → Bool} {n j : Nat} (hj : j < n) (hq : ∀ d, q d = (p d || decide (d = j))) : mn q n = min (mn p n) j := by
  obtain ⟨a, b, c⟩ := mn_spec p n
  refine mn_is (by omega) (fun d hd => ?_) (fun hl => ?_)
  · rw [hq, b d (by omega), decide_eq_false (by omega)]; rfl
  · rw [hq]
    rcases Nat.lt_or_ge (mn p n) j with h | h
    · rw [show min (mn p n) j = mn p n by omega, c (by omega)]; rfl
    · rw [show min (mn p n) j = j by omega, decide_eq_true rfl, Bool.or_true]

/-- Has a text the byte at this distance from its end? -/
def atD (t : List UInt8) (c d : Nat) : Bool := decide (d < t.length) && ((t.getD (t.length - 1 - d) 0).toNat == c)
/-- .. one of the texts? -/
def hasD (ws : List (List UInt8)) (c d : Nat) : Bool := ws.any fun t => atD t c d
/-- A byte's shift. -/
def fstL (ws : List (List UInt8)) (c : Nat) : Nat := mn (hasD ws c) (leastR ws)

/-- The shifts behind the first j distances of one more text. -/
def lowF (F : Nat → Nat) (t : List UInt8) : Nat → Nat → Nat
  | 0, c => F c
  | j + 1, c => if atD t c j = true then min (lowF F t j c) j else lowF F t j c
theorem low_mn {F : Nat → Nat} {p : Nat → Nat → Bool} {t : List UInt8} {m : Nat} (h : ∀ c, F c = mn (p c) m) : ∀ j, j ≤ m → ∀ c, lowF F t j c = mn (fun d => p c d || (decide (d < j) && atD t c d)) m
  | 0, _, c => by
    rw [lowF, h]
    exact mn_congr fun d _ => by simp
  | j + 1, hj, c => by
    rw [lowF, low_mn h j (by omega) c]
    by_cases hq : atD t c j = true
    · rw [if_pos hq]
      refine (mn_or (by omega) fun d => ?_).symm
      rcases Nat.lt_trichotomy d j with hd | hd | hd
      · simp [hd, show d < j + 1 by omega, show ¬ d = j by omega]
      · subst hd; simp [hq]
      · simp [show ¬ d < j by omega, show ¬ d < j + 1 by omega, show ¬ d = j by omega]
    · rw [if_neg hq]
      refine mn_congr fun d _ => ?_
      rcases Nat.lt_trichotomy d j with hd | hd | hd
      · simp [hd, show d < j + 1 by omega]
      · subst hd; simp [hq]
      · simp [show ¬ d < j by omega, show ¬ d < j + 1 by omega]
/-- .. behind a whole one. -/
theorem low_done {ws : List (List UInt8)} {k m : Nat} {t : List UInt8} (h : ws[k]? = some t) (c : Nat) : lowF (fun c => mn (hasD (ws.take k) c) m) t m c = mn (hasD (ws.take (k + 1)) c) m := by
  have hlt := (List.getElem?_eq_some_iff.1 h).1
  have ht := (List.getElem?_eq_some_iff.1 h).2
  rw [low_mn (p := fun c => hasD (ws.take k) c) (fun c => rfl) m (Nat.le_refl _) c]
  refine mn_congr fun d hd => ?_
  unfold hasD
  rw [List.take_succ_eq_append_getElem hlt, List.any_append, ht]
  simp [hd]
theorem low_start (m c : Nat) : mn (hasD [] c) m = m := mn_none fun d _ => rfl
theorem low_keep {F : Nat → Nat} {t : List UInt8} {j c : Nat} (h : ¬ atD t c j = true) : lowF F t (j + 1) c = lowF F t j c := if_neg h
theorem low_hit {F : Nat → Nat} {t : List UInt8} {j c : Nat} (h : atD t c j = true) : lowF F t (j + 1) c = min (lowF F t j c) j := if_pos h
theorem low_le {F : Nat → Nat} {t : List UInt8} {m : Nat} (h : ∀ c, F c ≤ m) : ∀ j c, lowF F t j c ≤ m
  | 0, c => h c
  | j + 1, c => by
    have := low_le (t := t) h j c
    rw [lowF]; split <;> omega
theorem at_iff {t : List UInt8} {c d : Nat} (h : d < t.length) : atD t c d = true ↔ (t.getD (t.length - 1 - d) 0).toNat = c := by
  unfold atD
  rw [decide_eq_true h, Bool.true_and, beq_iff_eq]

theorem least_mem {ws : List (List UInt8)} : ∀ {n : Nat} {t : List UInt8}, t ∈ ws → ws.foldl (fun n t => min n t.length) n ≤ t.length := by
  have low : ∀ (ws : List (List UInt8)) (n : Nat), ws.foldl (fun n t => min n t.length) n ≤ n := by
    intro ws
    induction ws with
    | nil => intro n; exact Nat.le_refl _
    | cons a r ih => intro n; exact Nat.le_trans (ih _) (Nat.min_le_left _ _)
  induction ws with
  | nil => intro n t h; cases h
  | cons a r ih =>
    intro n t h
    rcases List.mem_cons.1 h with rfl | h
    · exact Nat.le_trans (low r _) (Nat.min_le_right _ _)
    · exact ih h
theorem leastR_le {ws : List (List UInt8)} {t : List UInt8} (h : t ∈ ws) : leastR ws ≤ t.length := by
  unfold leastR
  split
  · omega
  · exact least_mem h
theorem leastR_nil : leastR [] = 0 := rfl
theorem fst_le (ws : List (List UInt8)) (c : Nat) : fstL ws c ≤ leastR ws := mn_le _ _
theorem fst_nil (c : Nat) : fstL [] c = 0 := by have := fst_le [] c; rw [leastR_nil] at this; omega

/-- One of a text's bytes. -/
def byN (s : List UInt8) (i : Nat) : Nat := (s.getD i 0).toNat
/-- The ends from e on; f more are looked at. -/
def endG (F : Nat → Nat) (s : List UInt8) : Nat → Nat → List Int
  | 0, _ => []
  | f + 1, e => if e ≤ s.length then (if F (byN s (e - 1)) = 0 then [(e : Int)] else []) ++ endG F s f (e + max (F (byN s (e - 1))) 1) else []
def endL (F : Nat → Nat) (m : Nat) (s : List UInt8) : List Int := if m = 0 then [] else endG F s (s.length + 1) m
theorem end_over {F : Nat → Nat} {s : List UInt8} {e : Nat} (h : s.length < e) : ∀ f, endG F s f e = []
  | 0 => rfl
  | f + 1 => by rw [endG, if_neg (by omega)]
theorem end_hit {F : Nat → Nat} {s : List UInt8} {e f : Nat} (h : e ≤ s.length) (hn : F (byN s (e - 1)) = 0) : endG F s (f + 1) e = (e : Int) :: endG F s f (e + 1) := by
  rw [endG, if_pos h, if_pos hn, hn]; rfl
theorem end_miss {F : Nat → Nat} {s : List UInt8} {e f n : Nat} (h : e ≤ s.length) (hn : F (byN s (e - 1)) = n) (h0 : 0 < n) : endG F s (f + 1) e = endG F s f (e + n) := by
  rw [endG, if_pos h, if_neg (by omega), hn, Nat.max_eq_left (by omega)]; rfl
theorem end_length (F : Nat → Nat) (s : List UInt8) : ∀ f e, (endG F s f e).length ≤ f
  | 0, _ => Nat.le_refl _
  | f + 1, e => by
    have := end_length F s f (e + max (F (byN s (e - 1))) 1)
    rw [endG]
    split
    · split <;> simp <;> omega
    · simp
theorem endL_length (F : Nat → Nat) (m : Nat) (s : List UInt8) : (endL F m s).length ≤ s.length + 1 := by
  unfold endL
  split
  · simp
  · exact end_length F s _ _
theorem endL_none (F : Nat → Nat) (s : List UInt8) : endL F 0 s = [] := if_pos rfl
theorem endL_some {F : Nat → Nat} {m : Nat} {s : List UInt8} (h : 0 < m) : endL F m s = endG F s (s.length + 1) m := if_neg (by omega)

theorem suf_at {s t : List UInt8} {E d : Nat} (hE : E ≤ s.length) (h : t <:+ s.take E) (hd : d < t.length) : t.getD (t.length - 1 - d) 0 = s.getD (E - 1 - d) 0 := by
  obtain ⟨r, hr⟩ := h
  have hl : r.length + t.length = E := by
    have := congrArg List.length hr
    rw [List.length_append, List.length_take] at this
    omega
  have h1 : (s.take E)[E - 1 - d]? = t[t.length - 1 - d]? := by
    rw [← hr, List.getElem?_append_right (by omega)]
    congr 1; omega
  rw [List.getElem?_take_of_lt (by omega)] at h1
  simp only [List.getD, h1]
/-- Behind an end ahead of which a byte of shift n stands no pattern ends, up to n - 1 bytes. -/
theorem fst_clears {ws : List (List UInt8)} {s t : List UInt8} {e E : Nat} (ht : t ∈ ws) (hE : E ≤ s.length) (hs : t <:+ s.take E) (he : 0 < e) (h1 : e ≤ E) (h2 : E < e + fstL ws (byN s (e - 1))) : False := by
  have hle := fst_le ws (byN s (e - 1))
  have hm := leastR_le ht
  have h3 := (mn_spec (hasD ws (byN s (e - 1))) (leastR ws)).2.1 (E - e) (by unfold fstL at h2; omega)
  have h4 : atD t (byN s (e - 1)) (E - e) = true := by
    rw [at_iff (by omega), suf_at hE hs (by omega)]
    unfold byN
    congr 2; omega
  have h5 : hasD ws (byN s (e - 1)) (E - e) = true := List.any_eq_true.2 ⟨t, ht, h4⟩
  rw [h5] at h3
  cases h3
/-- .. so that each pattern ends where it is told. -/
theorem end_has {ws : List (List UInt8)} {s t : List UInt8} {E : Nat} (ht : t ∈ ws) (hE : E ≤ s.length) (hs : t <:+ s.take E) : ∀ (f e : Nat), 0 < e → e ≤ E → s.length + 1 ≤ e + f → (E : Int) ∈ endG (fstL ws) s f e
  | 0, e, he, h1, h2 => by omega
  | f + 1, e, he, h1, h2 => by
    have hc : ¬ E < e + fstL ws (byN s (e - 1)) := fun h => fst_clears ht hE hs he h1 h
    by_cases h0 : fstL ws (byN s (e - 1)) = 0
    · rw [end_hit (by omega) h0]
      rcases Nat.lt_or_ge e E with h | h
      · exact List.mem_cons_of_mem _ (end_has ht hE hs f (e + 1) (by omega) (by omega) (by omega))
      · rw [show E = e by omega]; exact List.mem_cons_self
    · rw [end_miss (by omega) rfl (by omega)]
      exact end_has ht hE hs f _ (by omega) (by omega) (by omega)
theorem endL_has {ws : List (List UInt8)} {s t : List UInt8} {E : Nat} (h0 : 0 < leastR ws) (ht : t ∈ ws) (hE : E ≤ s.length) (hs : t <:+ s.take E) (hl : t.length ≤ E) : (E : Int) ∈ endL (fstL ws) (leastR ws) s := by
  rw [endL_some h0]
  have := leastR_le ht
  exact end_has ht hE hs _ _ h0 (by omega) (by omega)
theorem leastR_pos {ws : List (List UInt8)} {t : List UInt8} (ht : t ∈ ws) (h : ∀ t ∈ ws, 0 < t.length) : 0 < leastR ws := by
  have low : ∀ (ws : List (List UInt8)) (n : Nat), 0 < n → (∀ t ∈ ws, 0 < t.length) → 0 < ws.foldl (fun n t => min n t.length) n := by
    intro ws
    induction ws with
    | nil => intro n h _; exact h
    | cons a r ih =>
      intro n hn ha
      have := ha a List.mem_cons_self
      exact ih _ (Nat.lt_min.2 ⟨hn, this⟩) (fun t ht => ha t (List.mem_cons_of_mem _ ht))
  unfold leastR
  split
  · rename_i hl
    rw [List.length_eq_zero_iff.1 hl] at ht; cases ht
  · exact low ws _ (by omega) h
end Go.Proofs.YtjmlabggocfikaaGreat

namespace Go.Proofs.YtjmlabggocfikaaGreat

/-- Does a byte stand in a text? -/
def inT (t : List UInt8) (c : Nat) : Bool := t.any fun x => x.toNat == c
/-- .. in one of some texts? -/
def hasC (us : List (List UInt8)) (c : Nat) : Bool := us.any fun t => inT t c
theorem inT_iff {t : List UInt8} {c : Nat} : inT t c = true ↔ ∃ x ∈ t, x.toNat = c := by
  unfold inT
  simp only [List.any_eq_true, beq_iff_eq]
theorem hasC_iff {us : List (List UInt8)} {c : Nat} : hasC us c = true ↔ ∃ t ∈ us, ∃ x ∈ t, x.toNat = c := by
  unfold hasC
  simp only [List.any_eq_true, inT_iff]
theorem hasC_lt {us : List (List UInt8)} {c : Nat} (h : hasC us c = true) : c < 256 := by
  obtain ⟨t, _, x, _, rfl⟩ := hasC_iff.1 h
  exact x.toNat_lt

theorem any_snoc {α : Type} {p : α → Bool} {l : List α} {k : Nat} {x : α} (h : l[k]? = some x) : (l.take (k + 1)).any p = ((l.take k).any p || p x) := by
  obtain ⟨hk, rfl⟩ := List.getElem?_eq_some_iff.1 h
  rw [List.take_succ_eq_append_getElem hk, List.any_append]
  simp
theorem inT_snoc {t : List UInt8} {k : Nat} {x : UInt8} (h : t[k]? = some x) (c : Nat) : inT (t.take (k + 1)) c = (inT (t.take k) c || x.toNat == c) := any_snoc h
theorem hasC_snoc {us : List (List UInt8)} {k : Nat} {t : List UInt8} (h : us[k]? = some t) (c : Nat) : hasC (us.take (k + 1)) c = (hasC (us.take k) c || inT t c) := any_snoc h
theorem hasC_mem {us : List (List UInt8)} {t : List UInt8} {x : UInt8} (h : t ∈ us) (hx : x ∈ t) : hasC us x.toNat = true := hasC_iff.2 ⟨t, h, x, hx, rfl⟩

/-- The bytes below n that stand in texts, rising. -/
def bcK (us : List (List UInt8)) : Nat → List UInt8
  | 0 => []
  | n + 1 => bcK us n ++ if hasC us n then [UInt8.ofNat n] else []
theorem bc_hit {us : List (List UInt8)} {n : Nat} (h : hasC us n = true) : bcK us (n + 1) = bcK us n ++ [UInt8.ofNat n] := by rw [bcK, if_pos h]
theorem bc_miss {us : List (List UInt8)} {n : Nat} (h : hasC us n = false) : bcK us (n + 1) = bcK us n := by rw [bcK, if_neg (by rw [h]; decide), List.append_nil]
theorem bc_length (us : List (List UInt8)) : ∀ n, (bcK us n).length ≤ n
  | 0 => Nat.le_refl _
  | n + 1 => by
    have := bc_length us n
    rw [bcK, List.length_append]
    split <;> simp <;> omega
theorem bc_mono (us : List (List UInt8)) (n : Nat) : ∀ m, (bcK us n).length ≤ (bcK us (n + m)).length
  | 0 => Nat.le_refl _
  | m + 1 => by
    have := bc_mono us n m
    rw [← Nat.add_assoc, bcK, List.length_append]
    omega
theorem bc_le (us : List (List UInt8)) {m n : Nat} (h : m ≤ n) : (bcK us m).length ≤ (bcK us n).length := by
  have := bc_mono us m (n - m)
  rwa [Nat.add_sub_cancel' h] at this

/-- A byte's class. -/
def ofC (us : List (List UInt8)) (c : Nat) : Nat := if hasC us c then (bcK us (c + 1)).length else 0
theorem of_hit {us : List (List UInt8)} {c : Nat} (h : hasC us c = true) : ofC us c = (bcK us c).length + 1 := by
  unfold ofC
  rw [if_pos h, bc_hit h]
  simp
theorem of_miss {us : List (List UInt8)} {c : Nat} (h : hasC us c = false) : ofC us c = 0 := by
  unfold ofC
  rw [h]; rfl
theorem of_pos {us : List (List UInt8)} {c : Nat} : 0 < ofC us c ↔ hasC us c = true := by
  cases h : hasC us c with
  | true => rw [of_hit h]; simp
  | false => rw [of_miss h]; simp
theorem of_le (us : List (List UInt8)) (c : Nat) : ofC us c ≤ 256 := by
  cases h : hasC us c with
  | true =>
    rw [of_hit h]
    have h1 := bc_length us c
    have h2 := hasC_lt h
    omega
  | false => rw [of_miss h]; omega
/-- Of two bytes that are not foreign the greater one has the greater class. -/
theorem of_lt {us : List (List UInt8)} {a b : Nat} (ha : 0 < ofC us a) (hb : 0 < ofC us b) : ofC us a < ofC us b ↔ a < b := by
  have ha' := of_pos.1 ha
  have hb' := of_pos.1 hb
  have key : ∀ {x y : Nat}, hasC us x = true → hasC us y = true → x < y → ofC us x < ofC us y := by
    intro x y hx hy h
    rw [of_hit hy]
    have h1 := bc_le us (show x + 1 ≤ y by omega)
    have h2 := of_hit hx
    rw [bc_hit hx, List.length_append, List.length_singleton] at h1
    omega
  refine ⟨fun h => ?_, fun h => key ha' hb' h⟩
  rcases Nat.lt_trichotomy a b with h' | h' | h'
  · exact h'
  · subst h'; omega
  · have := key hb' ha' h'; omega

/-- How many of a text's last bytes have no class. -/
def forL (F : Nat → Nat) (s : List UInt8) : Nat := mn (fun k => decide (0 < F (s.getD (s.length - 1 - k) 0).toNat)) s.length
theorem forL_is {F : Nat → Nat} {s : List UInt8} {n : Nat} (h1 : n ≤ s.length) (h2 : ∀ k, k < n → F (s.getD (s.length - 1 - k) 0).toNat = 0) (h3 : n < s.length → 0 < F (s.getD (s.length - 1 - n) 0).toNat) : forL F s = n := by
  unfold forL
  exact mn_is h1 (fun d hd => decide_eq_false (by rw [h2 d hd]; omega)) (fun hl => decide_eq_true (h3 hl))
end Go.Proofs.YtjmlabggocfikaaGreat

namespace Go.Proofs.YtjmlabggocfikaaGreat

/-- A byte stands in its place among the bytes of classes. -/
theorem bc_snoc_at (us : List (List UInt8)) : ∀ (n : Nat), n ≤ 256 → ∀ (j : Nat) (c : UInt8), (bcK us n)[j]? = some c ↔ c.toNat < n ∧ hasC us c.toNat = true ∧ ofC us c.toNat = j + 1
  | 0, _, j, c => by simp [bcK]
  | n + 1, hn, j, c => by
    have ih := bc_snoc_at us n (by omega)
    have hcl := c.toNat_lt
    cases hq : hasC us n with
    | true =>
      rw [bc_hit hq]
      have hnn : (UInt8.ofNat n).toNat = n := by simp; omega
      by_cases hj : j < (bcK us n).length
      · rw [List.getElem?_append_left hj, ih]
        constructor
        · rintro ⟨h1, h2⟩; exact ⟨by omega, h2⟩
        · rintro ⟨h1, h2, h3⟩
          refine ⟨?_, h2, h3⟩
          rcases Nat.lt_or_ge c.toNat n with h | h
          · exact h
          · have hcn : c.toNat = n := by omega
            rw [hcn, of_hit hq] at h3
            omega
      · rw [List.getElem?_append_right (by omega)]
        constructor
        · intro h
          obtain ⟨h1, h2⟩ := List.getElem?_eq_some_iff.1 h
          have h0 : j - (bcK us n).length = 0 := by simp at h1; omega
          simp only [h0, List.getElem_cons_zero] at h2
          have hcn : c.toNat = n := by rw [← h2, hnn]
          rw [hcn]
          exact ⟨by omega, hq, by rw [of_hit hq]; omega⟩
        · rintro ⟨h1, h2, h3⟩
          rcases Nat.lt_or_ge c.toNat n with h | h
          · have := (List.getElem?_eq_some_iff.1 ((ih j c).2 ⟨h, h2, h3⟩)).1
            omega
          · have hcn : c.toNat = n := by omega
            rw [hcn, of_hit hq] at h3
            rw [show j - (bcK us n).length = 0 by omega]
            have : UInt8.ofNat n = c := by rw [← hcn]; simp
            simp [this]
    | false =>
      rw [bc_miss hq, ih]
      constructor
      · rintro ⟨h1, h2⟩; exact ⟨by omega, h2⟩
      · rintro ⟨h1, h2, h3⟩
        refine ⟨?_, h2, h3⟩
        rcases Nat.lt_or_ge c.toNat n with h | h
        · exact h
        · have hcn : c.toNat = n := by omega
          rw [hcn, hq] at h2
          cases h2
theorem bc_at (us : List (List UInt8)) (j : Nat) (c : UInt8) : (bcK us 256)[j]? = some c ↔ hasC us c.toNat = true ∧ ofC us c.toNat = j + 1 := by
  rw [bc_snoc_at us 256 (Nat.le_refl _)]
  exact ⟨fun h => h.2, fun h => ⟨c.toNat_lt, h⟩⟩
theorem of_few (us : List (List UInt8)) (c : UInt8) : ofC us c.toNat < (bcK us 256).length + 1 := by
  cases hq : hasC us c.toNat with
  | true =>
    have h1 := of_pos.2 hq
    have := (List.getElem?_eq_some_iff.1 ((bc_at us (ofC us c.toNat - 1) c).2 ⟨hq, by omega⟩)).1
    omega
  | false => rw [of_miss hq]; omega

/-- A byte that stands in no text leads to the root. -/
theorem lg_foreign {us S : List (List UInt8)} (hs : IsSt us S) {c : UInt8} (h : hasC us c.toNat = false) (q : List UInt8) : lgL S (q ++ [c]) = [] := by
  rcases lg_or S (q ++ [c]) with h1 | h1
  · exact h1
  · obtain ⟨a, ha⟩ := lg_end S (q ++ [c])
    generalize lgL S (q ++ [c]) = t at h1 ha
    rcases List.eq_nil_or_concat t with rfl | ⟨t', d, rfl⟩
    · rfl
    · exfalso
      rw [List.concat_eq_append, ← List.append_assoc] at ha
      obtain ⟨_, e⟩ := List.append_inj' ha rfl
      cases e
      rcases (hs.2 _).1 h1 with h2 | h2
      · simp at h2
      · obtain ⟨p, hp, hpre⟩ := beg_iff.1 h2
        have hd : c ∈ p := hpre.subset (by simp)
        rw [hasC_mem hp hd] at h
        cases h

/-- The number of the state to which a byte leads. -/
def dnS (S : List (List UInt8)) (s : List UInt8) (c : UInt8) : Nat := (ixL (lgL S (s ++ [c])) S).toNat
theorem dn_ix {S : List (List UInt8)} (h0 : [] ∈ S) (s : List UInt8) (c : UInt8) : ixL (lgL S (s ++ [c])) S = (dnS S s c : Int) := by
  unfold dnS ixL
  rw [if_pos (lg_mem h0 _)]
  rfl
theorem dn_is {S : List (List UInt8)} (hn : S.Nodup) {s : List UInt8} {c : UInt8} {n : Nat} (h : S[n]? = some (lgL S (s ++ [c]))) : dnS S s c = n := by
  unfold dnS
  rw [ix_is hn h]
  rfl
theorem dn_at {S : List (List UInt8)} (hn : S.Nodup) (h0 : [] ∈ S) (s : List UInt8) (c : UInt8) : S[dnS S s c]? = some (lgL S (s ++ [c])) := by
  obtain ⟨n, hn', e⟩ := List.getElem_of_mem (lg_mem h0 (s ++ [c]))
  have h : S[n]? = some (lgL S (s ++ [c])) := by rw [List.getElem?_eq_getElem hn', e]
  rw [dn_is hn h]
  exact h
theorem dn_lt {S : List (List UInt8)} (hn : S.Nodup) (h0 : [] ∈ S) (s : List UInt8) (c : UInt8) : dnS S s c < S.length := (List.getElem?_eq_some_iff.1 (dn_at hn h0 s c)).1
theorem dn_root {S : List (List UInt8)} (hn : S.Nodup) (h0 : S[0]? = some []) {s : List UInt8} {c : UInt8} (h : lgL S (s ++ [c]) = []) : dnS S s c = 0 := dn_is hn (by rw [h]; exact h0)

/-- Where each class leads from a state. -/
def rwF (us S : List (List UInt8)) (s : List UInt8) : List Nat := 0 :: (bcK us 256).map (dnS S s)
/-- .. where it is known by these bytes, and by the state to which it falls back. -/
def rwP (us S : List (List UInt8)) (s ks : List UInt8) : List Nat := 0 :: (bcK us 256).map fun c => if c ∈ ks then dnS S s c else if s = [] then 0 else dnS S (fbL S s) c
theorem rwF_length (us S : List (List UInt8)) (s : List UInt8) : (rwF us S s).length = (bcK us 256).length + 1 := by simp [rwF]
theorem rwP_length (us S : List (List UInt8)) (s ks : List UInt8) : (rwP us S s ks).length = (bcK us 256).length + 1 := by simp [rwP]
theorem rwP_fall (us S : List (List UInt8)) {s : List UInt8} (h : s ≠ []) : rwP us S s [] = rwF us S (fbL S s) := by
  unfold rwP rwF
  simp [h]
theorem rwP_root (us S : List (List UInt8)) : rwP us S [] [] = List.replicate ((bcK us 256).length + 1) 0 := by
  unfold rwP
  rw [List.replicate_succ]
  refine congrArg (List.cons 0) ?_
  simp only [List.not_mem_nil, if_false, if_true]
  exact List.map_const' ..
theorem rwP_all {us S : List (List UInt8)} (hs : IsSt us S) (hn : S.Nodup) (h0 : S[0]? = some []) (s : List UInt8) (hm : s ∈ S) : rwP us S s (kidsL us s) = rwF us S s := by
  unfold rwP rwF
  refine congrArg (List.cons 0) ?_
  refine List.map_congr_left fun c _ => ?_
  by_cases hk : c ∈ kidsL us s
  · rw [if_pos hk]
  · rw [if_neg hk]
    have hmiss : s ++ [c] ∉ S := fun h => by
      rcases (hs.2 _).1 h with h | h
      · simp at h
      · exact hk (kids_mem.2 h)
    by_cases e : s = []
    · subst e
      rw [if_pos rfl, dn_root hn h0]
      rw [lg_miss hmiss]; rfl
    · rw [if_neg e]
      unfold dnS
      rw [← lg_step hs c e hmiss]
/-- One more byte by which the state leads on. -/
theorem rwP_set {us S : List (List UInt8)} {s ks : List UInt8} {c : UInt8} (hc : hasC us c.toNat = true) : (rwP us S s ks).set (ofC us c.toNat) (dnS S s c) = rwP us S s (ks ++ [c]) := by
  have h1 := of_pos.2 hc
  obtain ⟨j, hj⟩ : ∃ j, ofC us c.toNat = j + 1 := ⟨ofC us c.toNat - 1, by omega⟩
  have hat := (bc_at us j c).2 ⟨hc, hj⟩
  unfold rwP
  rw [hj, List.set_cons_succ]
  refine congrArg (List.cons 0) ?_
  apply List.ext_getElem?
  intro i
  rw [List.getElem?_set, List.getElem?_map, List.getElem?_map, List.length_map]
  by_cases e : j = i
  · subst e
    rw [if_pos rfl, if_pos (List.getElem?_eq_some_iff.1 hat).1, hat]
    simp
  · rw [if_neg e]
    cases hx : (bcK us 256)[i]? with
    | none => rfl
    | some d =>
      have hd := (bc_at us i d).1 hx
      have hne : d ≠ c := fun h => by
        subst h
        omega
      simp [hne]
/-- What a row says of a byte. -/
theorem rw_of {us S : List (List UInt8)} (hs : IsSt us S) (hn : S.Nodup) (h0 : S[0]? = some []) (s : List UInt8) (c : UInt8) : (rwF us S s)[ofC us c.toNat]? = some (dnS S s c) := by
  cases hq : hasC us c.toNat with
  | true =>
    have h1 := of_pos.2 hq
    obtain ⟨j, hj⟩ : ∃ j, ofC us c.toNat = j + 1 := ⟨ofC us c.toNat - 1, by omega⟩
    have hat := (bc_at us j c).2 ⟨hq, hj⟩
    unfold rwF
    rw [hj, List.getElem?_cons_succ, List.getElem?_map, hat]
    rfl
  | false =>
    rw [of_miss hq, dn_root hn h0 (lg_foreign hs hq s)]
    rfl
theorem kid_has {us S : List (List UInt8)} {s : List UInt8} {c : UInt8} (h : c ∈ kidsL us s) : hasC us c.toNat = true := by
  obtain ⟨p, hp, hpre⟩ := beg_iff.1 (kids_mem.1 h)
  exact hasC_mem hp (hpre.subset (by simp))
theorem rw_le {us S : List (List UInt8)} (hn : S.Nodup) (h0 : [] ∈ S) (s : List UInt8) : ∀ x ∈ rwF us S s, x ≤ S.length := fun x hx => by
  unfold rwF at hx
  rcases List.mem_cons.1 hx with rfl | hx
  · omega
  · obtain ⟨c, _, rfl⟩ := List.mem_map.1 hx
    exact Nat.le_of_lt (dn_lt hn h0 s c)

/-- One row of them all. -/
def seg (L : List Nat) (W i : Nat) : List Nat := (L.drop (i * W)).take W
theorem seg_at (L : List Nat) (W i j : Nat) : (seg L W i)[j]? = if j < W then L[i * W + j]? else none := by
  unfold seg
  by_cases h : j < W
  · rw [if_pos h, List.getElem?_take_of_lt h, List.getElem?_drop]
  · rw [if_neg h, List.getElem?_eq_none]
    simp; omega
theorem seg_in {n W i : Nat} (h : i < n) : i * W + W ≤ n * W := by
  have := Nat.mul_le_mul_right W (show i + 1 ≤ n from h)
  rwa [Nat.succ_mul] at this
theorem seg_length {L : List Nat} {n W i : Nat} (hl : L.length = n * W) (h : i < n) : (seg L W i).length = W := by
  have := seg_in (W := W) h
  unfold seg
  rw [List.length_take, List.length_drop]
  omega
theorem seg_apart {W i j a b : Nat} (h : i ≠ j) (ha : a < W) (hb : b < W) : i * W + a ≠ j * W + b := by
  rcases Nat.lt_or_gt_of_ne h with h | h
  · have := seg_in (W := W) h; omega
  · have := seg_in (W := W) h; omega
theorem seg_set_same {L : List Nat} {n W i k : Nat} (hl : L.length = n * W) (hi : i < n) (hk : k < W) (v : Nat) : seg (L.set (i * W + k) v) W i = (seg L W i).set k v := by
  have hin := seg_in (W := W) hi
  apply List.ext_getElem?
  intro j
  rw [List.getElem?_set, seg_length hl hi, seg_at, seg_at, List.getElem?_set]
  by_cases e : k = j
  · subst e
    rw [if_pos hk, if_pos rfl, if_pos rfl, if_pos (by omega), if_pos hk]
  · rw [if_neg e, if_neg (show ¬ i * W + k = i * W + j by omega)]
theorem seg_set_other {L : List Nat} {W i j k : Nat} (h : i ≠ j) (hk : k < W) (v : Nat) : seg (L.set (i * W + k) v) W j = seg L W j := by
  apply List.ext_getElem?
  intro a
  rw [seg_at, seg_at]
  by_cases ha : a < W
  · rw [if_pos ha, if_pos ha, List.getElem?_set_ne (seg_apart h hk ha)]
  · rw [if_neg ha, if_neg ha]
theorem splice_at {L R : List Nat} {o j : Nat} (h : o + R.length ≤ L.length) : (splice L o R)[j]? = if o ≤ j ∧ j < o + R.length then R[j - o]? else L[j]? := by
  unfold splice
  have ht : (L.take o).length = o := by rw [List.length_take]; omega
  by_cases h1 : j < o
  · rw [List.getElem?_append_left (by omega), List.getElem?_take_of_lt h1, if_neg (by omega)]
  · rw [List.getElem?_append_right (by omega), ht]
    by_cases h2 : j < o + R.length
    · rw [List.getElem?_append_left (by omega), if_pos (by omega)]
    · rw [List.getElem?_append_right (by omega), List.getElem?_drop, if_neg (by omega)]
      congr 1; omega
theorem seg_splice_same {L R : List Nat} {n W i : Nat} (hl : L.length = n * W) (hi : i < n) (hR : R.length = W) : seg (splice L (i * W) R) W i = R := by
  have hin := seg_in (W := W) hi
  apply List.ext_getElem?
  intro j
  rw [seg_at]
  by_cases h : j < W
  · rw [if_pos h, splice_at (by omega), if_pos (by omega)]
    congr 1; omega
  · rw [if_neg h, List.getElem?_eq_none (by omega)]
theorem seg_splice_other {L R : List Nat} {n W i j : Nat} (hl : L.length = n * W) (hi : i < n) (hR : R.length = W) (h : i ≠ j) : seg (splice L (i * W) R) W j = seg L W j := by
  have hin := seg_in (W := W) hi
  apply List.ext_getElem?
  intro a
  rw [seg_at, seg_at]
  by_cases ha : a < W
  · rw [if_pos ha, if_pos ha, splice_at (by omega), if_neg]
    rintro ⟨h1, h2⟩
    exact seg_apart h (show j * W + a - i * W < W by omega) ha (by omega)
  · rw [if_neg ha, if_neg ha]
theorem seg_zero {n W i : Nat} (h : i < n) : seg (List.replicate (n * W) 0) W i = List.replicate W 0 := by
  have := seg_in (W := W) h
  unfold seg
  rw [List.drop_replicate, List.take_replicate]
  congr 1; omega
end Go.Proofs.YtjmlabggocfikaaGreat

namespace Go.Proofs.YtjmlabggocfikaaGreat
open Go.RowKit

/-- Where a byte leads: to the root, from what is no state. -/
def auN (S : List (List UInt8)) (s : Int) (c : UInt8) : Nat := if 0 ≤ s then ((S[s.toNat]?).map fun t => dnS S t c).getD 0 else 0
/-- Where bytes lead. -/
def auR (S : List (List UInt8)) (s : Int) (t : List UInt8) : Int := t.foldl (fun s c => (auN S s c : Int)) s
/-- How many bytes a state is. -/
def auD (S : List (List UInt8)) (s : Int) : Nat := if 0 ≤ s then ((S[s.toNat]?).map List.length).getD 0 else 0
/-- The patterns that end at a state. -/
def auH (us S : List (List UInt8)) (s : Int) : List Int := if 0 ≤ s then ((S[s.toNat]?).map fun t => hsL us t).getD [] else []
theorem au_in_out (S : List (List UInt8)) (s : Int) : (∃ i : Nat, s = i ∧ ∃ t, S[i]? = some t) ∨ (s < 0 ∨ (S.length : Int) ≤ s) := by
  by_cases h : s < 0 ∨ (S.length : Int) ≤ s
  · exact .inr h
  · refine .inl ⟨s.toNat, by omega, ?_⟩
    have hk : s.toNat < S.length := by omega
    exact ⟨S[s.toNat], List.getElem?_eq_getElem hk⟩
theorem auN_in {S : List (List UInt8)} {i : Nat} {t : List UInt8} (h : S[i]? = some t) (c : UInt8) : auN S (i : Int) c = dnS S t c := by
  unfold auN
  rw [if_pos (by omega), Int.toNat_natCast, h]; rfl
theorem auN_out {S : List (List UInt8)} {s : Int} (h : s < 0 ∨ (S.length : Int) ≤ s) (c : UInt8) : auN S s c = 0 := by
  unfold auN
  split
  · rw [List.getElem?_eq_none (by omega)]; rfl
  · rfl
theorem auD_in {S : List (List UInt8)} {i : Nat} {t : List UInt8} (h : S[i]? = some t) : auD S (i : Int) = t.length := by
  unfold auD
  rw [if_pos (by omega), Int.toNat_natCast, h]; rfl
theorem auD_out {S : List (List UInt8)} {s : Int} (h : s < 0 ∨ (S.length : Int) ≤ s) : auD S s = 0 := by
  unfold auD
  split
  · rw [List.getElem?_eq_none (by omega)]; rfl
  · rfl
theorem auH_in {us S : List (List UInt8)} {i : Nat} {t : List UInt8} (h : S[i]? = some t) : auH us S (i : Int) = hsL us t := by
  unfold auH
  rw [if_pos (by omega), Int.toNat_natCast, h]; rfl
theorem auH_out {us S : List (List UInt8)} {s : Int} (h : s < 0 ∨ (S.length : Int) ≤ s) : auH us S s = [] := by
  unfold auH
  split
  · rw [List.getElem?_eq_none (by omega)]; rfl
  · rfl
theorem auH_few (us S : List (List UInt8)) (s : Int) : (auH us S s).length ≤ us.length := by
  rcases au_in_out S s with ⟨i, rfl, t, ht⟩ | h
  · rw [auH_in ht]
    exact hk_few us t us.length
  · rw [auH_out h]; simp
theorem auN_lt {S : List (List UInt8)} (hn : S.Nodup) (h0 : [] ∈ S) (s : Int) (c : UInt8) : auN S s c < S.length := by
  rcases au_in_out S s with ⟨i, rfl, t, ht⟩ | h
  · rw [auN_in ht]
    exact dn_lt hn h0 t c
  · rw [auN_out h]
    exact List.length_pos_of_mem h0
theorem auR_snoc (S : List (List UInt8)) (s : Int) (t : List UInt8) (c : UInt8) : auR S s (t ++ [c]) = (auN S (auR S s t) c : Int) := by
  simp [auR, List.foldl_append]
theorem auR_app (S : List (List UInt8)) (s : Int) (t u : List UInt8) : auR S s (t ++ u) = auR S (auR S s t) u := by
  simp [auR, List.foldl_append]
theorem auR_take (S : List (List UInt8)) (s : Int) {t : List UInt8} {k : Nat} (h : k < t.length) : auR S s (t.take (k + 1)) = (auN S (auR S s (t.take k)) t[k] : Int) := by
  rw [List.take_succ_eq_append_getElem h, auR_snoc]
/-- From a state, bytes lead to the longest state with which it and they end. -/
theorem auR_at {S : List (List UInt8)} (hn : S.Nodup) (h0 : [] ∈ S) (hc : ∀ t ∈ S, t.dropLast ∈ S) {i : Nat} {s : List UInt8} (hs : S[i]? = some s) : ∀ t : List UInt8, ∃ j : Nat, auR S (i : Int) t = j ∧ S[j]? = some (lgL S (s ++ t)) := by
  suffices h : ∀ n (t : List UInt8), t.length = n → ∃ j : Nat, auR S (i : Int) t = j ∧ S[j]? = some (lgL S (s ++ t)) from fun t => h _ t rfl
  intro n
  induction n with
  | zero =>
    intro t ht
    obtain rfl := List.eq_nil_of_length_eq_zero ht
    exact ⟨i, rfl, by rw [List.append_nil, lg_hit (List.mem_of_getElem? hs)]; exact hs⟩
  | succ n ih =>
    intro t ht
    obtain ⟨u, c, rfl⟩ : ∃ u c, t = u ++ [c] := ⟨t.dropLast, t.getLast (by intro e; subst e; simp at ht), (List.dropLast_concat_getLast _).symm⟩
    obtain ⟨j, h1, h2⟩ := ih u (by simp at ht; omega)
    refine ⟨_, by rw [auR_snoc, h1, auN_in h2], ?_⟩
    have := dn_at hn h0 (lgL S (s ++ u)) c
    rw [this, ← List.append_assoc, lg_snoc hc c (s ++ u)]
end Go.Proofs.YtjmlabggocfikaaGreat

namespace Go.Proofs.YtjmlabggocfikaaGreat

/-- A hit: its end, its number. -/
abbrev Ht := Int × Int

/-- Does a text end at an end of a text? -/
def stB (p s : List UInt8) (e : Nat) : Bool := decide (e ≤ s.length) && decide (p <:+ s.take e)
theorem st_iff {p s : List UInt8} {e : Nat} : stB p s e = true ↔ e ≤ s.length ∧ p <:+ s.take e := by
  unfold stB
  rw [Bool.and_eq_true, decide_eq_true_eq, decide_eq_true_eq]
theorem st_len {p s : List UInt8} {e : Nat} (h : stB p s e = true) : p.length ≤ e ∧ e ≤ s.length := by
  obtain ⟨h1, h2⟩ := st_iff.1 h
  have := h2.length_le
  rw [len_take s h1] at this
  exact ⟨this, h1⟩
theorem st_cut {p s : List UInt8} {e : Nat} (h1 : p.length ≤ e) (h2 : e ≤ s.length) : stB p s e = ((s.take e).drop (e - p.length) == p) := by
  rw [Bool.eq_iff_iff, st_iff, beq_iff_eq, List.suffix_iff_eq_drop, len_take s h2]
  exact ⟨fun h => h.2.symm, fun h => ⟨h2, h.symm⟩⟩
theorem st_no {p s : List UInt8} {e : Nat} (h : e < p.length ∨ s.length < e) : stB p s e = false := by
  rw [Bool.eq_false_iff]
  intro hh
  have := st_len hh
  omega
theorem st_app (p s t : List UInt8) {e : Nat} (h : e ≤ s.length) : stB p (s ++ t) e = stB p s e := by
  rw [Bool.eq_iff_iff, st_iff, st_iff, List.take_append_of_le_length h, List.length_append]
  exact ⟨fun x => ⟨h, x.2⟩, fun x => ⟨by omega, x.2⟩⟩

/-- The numbers of the first k patterns that end at an end. -/
def idsK (us : List (List UInt8)) (s : List UInt8) (e : Nat) : Nat → List Int
  | 0 => []
  | k + 1 => idsK us s e k ++ if stB (us.getD k []) s e then [(k : Int)] else []
theorem ids_hit {us : List (List UInt8)} {s t : List UInt8} {e k : Nat} (h : us[k]? = some t) (hs : stB t s e = true) : idsK us s e (k + 1) = idsK us s e k ++ [(k : Int)] := by
  simp [idsK, List.getD, h, hs]
theorem ids_miss {us : List (List UInt8)} {s t : List UInt8} {e k : Nat} (h : us[k]? = some t) (hs : stB t s e = false) : idsK us s e (k + 1) = idsK us s e k := by
  simp [idsK, List.getD, h, hs]
theorem ids_mem (us : List (List UInt8)) (s : List UInt8) (e : Nat) : ∀ (n : Nat) (x : Int), x ∈ idsK us s e n ↔ ∃ k : Nat, x = (k : Int) ∧ k < n ∧ stB (us.getD k []) s e = true
  | 0, x => by simp [idsK]
  | n + 1, x => by
    rw [idsK, List.mem_append, ids_mem us s e n x]
    constructor
    · rintro (⟨k, a, b, c⟩ | h)
      · exact ⟨k, a, by omega, c⟩
      · split at h
        · rename_i hs
          rw [List.mem_singleton] at h
          exact ⟨n, h, by omega, hs⟩
        · cases h
    · rintro ⟨k, a, b, c⟩
      by_cases hk : k = n
      · subst hk
        exact .inr (by rw [if_pos c, a]; exact List.mem_singleton.2 rfl)
      · exact .inl ⟨k, a, by omega, c⟩
theorem ids_rise (us : List (List UInt8)) (s : List UInt8) (e : Nat) : ∀ n, (idsK us s e n).Pairwise fun x y => x < y
  | 0 => List.Pairwise.nil
  | n + 1 => by
    rw [idsK]
    refine List.pairwise_append.2 ⟨ids_rise us s e n, ?_, fun x hx y hy => ?_⟩
    · split
      · exact List.pairwise_singleton _ _
      · exact List.Pairwise.nil
    · obtain ⟨k, a, b, _⟩ := (ids_mem us s e n x).1 hx
      split at hy
      · rw [List.mem_singleton] at hy; omega
      · cases hy
theorem ids_length (us : List (List UInt8)) (s : List UInt8) (e : Nat) : ∀ n, (idsK us s e n).length ≤ n
  | 0 => Nat.le_refl _
  | n + 1 => by
    have := ids_length us s e n
    rw [idsK, List.length_append]
    split <;> simp <;> omega
theorem ids_none {us : List (List UInt8)} {s : List UInt8} {e : Nat} (h : s.length < e) : ∀ n, idsK us s e n = []
  | 0 => rfl
  | n + 1 => by
    rw [idsK, ids_none h n, st_no (.inr h)]
    rfl
theorem ids_app (us : List (List UInt8)) (s t : List UInt8) {e : Nat} (h : e ≤ s.length) : ∀ n, idsK us (s ++ t) e n = idsK us s e n
  | 0 => rfl
  | n + 1 => by rw [idsK, idsK, ids_app us s t h n, st_app _ _ _ h]

/-- The numbers of all patterns that end at an end. -/
def atZ (us : List (List UInt8)) (s : List UInt8) (e : Int) : List Int := if 0 ≤ e ∧ e ≤ (s.length : Int) then idsK us s e.toNat us.length else []
theorem atZ_in {us : List (List UInt8)} {s : List UInt8} {e : Nat} (h : e ≤ s.length) : atZ us s (e : Int) = idsK us s e us.length := by
  unfold atZ
  rw [if_pos ⟨by omega, by omega⟩, Int.toNat_natCast]
theorem atZ_out {us : List (List UInt8)} {s : List UInt8} {e : Int} (h : e < 0 ∨ (s.length : Int) < e) : atZ us s e = [] := by
  unfold atZ
  rw [if_neg (by omega)]
theorem atZ_length (us : List (List UInt8)) (s : List UInt8) (e : Int) : (atZ us s e).length ≤ us.length := by
  unfold atZ
  split
  · exact ids_length _ _ _ _
  · exact Nat.zero_le _

/-- The hits with an end, of the first k patterns. -/
def hitE (us : List (List UInt8)) (s : List UInt8) (e k : Nat) : List Ht := (idsK us s e k).map fun i => ((e : Int), i)
theorem hitE_hit {us : List (List UInt8)} {s t : List UInt8} {e k : Nat} (h : us[k]? = some t) (hs : stB t s e = true) : hitE us s e (k + 1) = hitE us s e k ++ [((e : Int), (k : Int))] := by
  unfold hitE
  rw [ids_hit h hs, List.map_append]; rfl
theorem hitE_miss {us : List (List UInt8)} {s t : List UInt8} {e k : Nat} (h : us[k]? = some t) (hs : stB t s e = false) : hitE us s e (k + 1) = hitE us s e k := by
  unfold hitE
  rw [ids_miss h hs]
/-- The hits whose ends are less than n. -/
def hitK (us : List (List UInt8)) (s : List UInt8) : Nat → List Ht
  | 0 => []
  | n + 1 => hitK us s n ++ hitE us s n us.length
theorem hitK_next (us : List (List UInt8)) (s : List UInt8) (n : Nat) : hitK us s (n + 1) = hitK us s n ++ hitE us s n us.length := rfl
/-- All hits. -/
def hitL (us : List (List UInt8)) (s : List UInt8) : List Ht := hitK us s (s.length + 1)

theorem hitE_length (us : List (List UInt8)) (s : List UInt8) (e k : Nat) : (hitE us s e k).length ≤ k := by
  unfold hitE
  rw [List.length_map]
  exact ids_length _ _ _ _
theorem hitK_length (us : List (List UInt8)) (s : List UInt8) : ∀ n, (hitK us s n).length ≤ n * us.length
  | 0 => by simp [hitK]
  | n + 1 => by
    have h1 := hitK_length us s n
    have h2 := hitE_length us s n us.length
    rw [hitK, List.length_append, Nat.succ_mul]
    omega
theorem hitK_mem (us : List (List UInt8)) (s : List UInt8) : ∀ (n : Nat) (x : Ht), x ∈ hitK us s n ↔ ∃ e k : Nat, x = ((e : Int), (k : Int)) ∧ e < n ∧ k < us.length ∧ stB (us.getD k []) s e = true
  | 0, x => by simp [hitK]
  | n + 1, x => by
    rw [hitK, List.mem_append, hitK_mem us s n x]
    unfold hitE
    simp only [List.mem_map, ids_mem]
    constructor
    · rintro (⟨e, k, a, b, c, d⟩ | ⟨i, ⟨k, rfl, b, c⟩, rfl⟩)
      · exact ⟨e, k, a, by omega, c, d⟩
      · exact ⟨n, k, rfl, by omega, b, c⟩
    · rintro ⟨e, k, a, b, c, d⟩
      by_cases he : e = n
      · subst he
        exact .inr ⟨k, ⟨k, rfl, c, d⟩, a.symm⟩
      · exact .inl ⟨e, k, a, by omega, c, d⟩

/-- Does a hit come ahead of another one? -/
def ahB (a b : Ht) : Bool := decide (a.1 < b.1) || (decide (a.1 = b.1) && decide (a.2 < b.2))
theorem ah_iff {a b : Ht} : ahB a b = true ↔ a.1 < b.1 ∨ (a.1 = b.1 ∧ a.2 < b.2) := by
  unfold ahB
  simp only [Bool.or_eq_true, Bool.and_eq_true, decide_eq_true_eq]
/-- Which of two comes first. -/
def cfH (a b : Ht) : Int := if a = b then 0 else if ahB a b then -1 else 1
theorem cf_same {a b : Ht} (h : a = b) : cfH a b = 0 := if_pos h
theorem cf_ah {a b : Ht} (h : ahB a b = true) : cfH a b = -1 := by
  unfold cfH
  rw [if_neg ?_, if_pos h]
  rintro rfl
  have := ah_iff.1 h
  omega
theorem cf_else {a b : Ht} (h0 : ¬ a = b) (h : ahB a b = false) : cfH a b = 1 := by
  unfold cfH
  rw [if_neg h0, if_neg (by rw [h]; decide)]
theorem cf_neg {a b : Ht} : cfH a b < 0 ↔ ahB a b = true := by
  constructor
  · intro h
    unfold cfH at h
    split at h
    · omega
    · split at h
      · assumption
      · omega
  · intro h
    rw [cf_ah h]; omega

/-- Is each ahead of the one behind it? -/
def riseB : List Ht → Bool
  | [] => true
  | [_] => true
  | a :: b :: r => ahB a b && riseB (b :: r)
theorem rise_of : ∀ {l : List Ht}, l.Pairwise (fun x y => ahB x y = true) → riseB l = true
  | [], _ => rfl
  | [_], _ => rfl
  | a :: b :: r, h => by
    rw [riseB, Bool.and_eq_true]
    cases h with
    | cons h1 h2 => exact ⟨h1 b List.mem_cons_self, rise_of h2⟩
theorem rise_yes : ∀ {l : List Ht}, (∀ k a b, l[k]? = some a → l[k + 1]? = some b → ahB a b = true) → riseB l = true
  | [], _ => rfl
  | [_], _ => rfl
  | a :: b :: r, h => by
    rw [riseB, Bool.and_eq_true]
    exact ⟨h 0 a b rfl rfl, rise_yes (fun k x y hx hy => h (k + 1) x y (by simpa using hx) (by simpa using hy))⟩
theorem rise_no : ∀ {l : List Ht} {k : Nat} {a b : Ht}, l[k]? = some a → l[k + 1]? = some b → ahB a b = false → riseB l = false
  | [], k, a, b, h, _, _ => by simp at h
  | [_], k, a, b, _, h, _ => by simp at h
  | x :: y :: r, 0, a, b, h1, h2, h => by
    simp at h1 h2
    subst h1 h2
    rw [riseB, h]; rfl
  | x :: y :: r, k + 1, a, b, h1, h2, h => by
    have := rise_no (l := y :: r) (k := k) (a := a) (b := b) (by simpa using h1) (by simpa using h2) h
    rw [riseB, this, Bool.and_false]

theorem hitE_rise (us : List (List UInt8)) (s : List UInt8) (e k : Nat) : (hitE us s e k).Pairwise fun x y => ahB x y = true := by
  unfold hitE
  rw [List.pairwise_map]
  refine List.Pairwise.imp ?_ (ids_rise us s e k)
  intro a b h
  exact ah_iff.2 (.inr ⟨rfl, h⟩)
theorem hitK_rise (us : List (List UInt8)) (s : List UInt8) : ∀ n, (hitK us s n).Pairwise fun x y => ahB x y = true
  | 0 => List.Pairwise.nil
  | n + 1 => by
    rw [hitK]
    refine List.pairwise_append.2 ⟨hitK_rise us s n, hitE_rise us s n _, fun x hx y hy => ?_⟩
    obtain ⟨e, k, rfl, h, _⟩ := (hitK_mem us s n x).1 hx
    unfold hitE at hy
    obtain ⟨i, _, rfl⟩ := List.mem_map.1 hy
    exact ah_iff.2 (.inl (by show (e : Int) < (n : Int); omega))
theorem hit_rise (us : List (List UInt8)) (s : List UInt8) : (hitL us s).Pairwise fun x y => ahB x y = true := hitK_rise us s _
theorem ah_irr (a : Ht) : ahB a a = false := by
  rw [Bool.eq_false_iff]
  intro h
  have := ah_iff.1 h
  omega
theorem ah_asym {a b : Ht} (h1 : ahB a b = true) (h2 : ahB b a = true) : False := by
  have := ah_iff.1 h1
  have := ah_iff.1 h2
  omega
theorem nodup_rise {l : List Ht} (h : l.Pairwise fun x y => ahB x y = true) : l.Nodup := by
  refine h.imp ?_
  rintro a b hh rfl
  rw [ah_irr] at hh
  cases hh

/-! the places of each pattern -/
/-- The hits of the first k patterns, pattern by pattern, by their places. -/
def rawK (us : List (List UInt8)) (F : List UInt8 → List Int) : Nat → List Ht
  | 0 => []
  | k + 1 => rawK us F k ++ (F (us.getD k [])).map fun p => (p + ((us.getD k []).length : Int), (k : Int))
theorem raw_next {us : List (List UInt8)} {F : List UInt8 → List Int} {k : Nat} {t : List UInt8} (h : us[k]? = some t) : rawK us F (k + 1) = rawK us F k ++ (F t).map fun p => (p + (t.length : Int), (k : Int)) := by
  simp [rawK, List.getD, h]

theorem fnd_mem_iff {s t : List UInt8} (ht : 0 < t.length) : ∀ m, m ≤ s.length → ∀ x : Int, x ∈ fnd s t m ↔ ∃ j : Nat, x = (j : Int) ∧ j + t.length ≤ m ∧ t <:+ s.take (j + t.length)
  | 0, _, x => by
    simp only [fnd, List.not_mem_nil, false_iff]
    rintro ⟨j, _, h, _⟩
    omega
  | m + 1, hm, x => by
    have ih := fnd_mem_iff (s := s) ht m (by omega) x
    by_cases hs : t <:+ s.take (m + 1)
    · have hl := hs.length_le
      rw [len_take s hm] at hl
      rw [fnd_hit hs, List.mem_append, List.mem_singleton, ih]
      constructor
      · rintro (⟨j, a, b, c⟩ | h)
        · exact ⟨j, a, by omega, c⟩
        · exact ⟨_, h, by omega, by rw [Nat.sub_add_cancel hl]; exact hs⟩
      · rintro ⟨j, a, b, c⟩
        by_cases hj : j + t.length = m + 1
        · exact .inr (by rw [a]; congr 1; omega)
        · exact .inl ⟨j, a, by omega, c⟩
    · rw [fnd_miss hs, ih]
      constructor
      · rintro ⟨j, a, b, c⟩
        exact ⟨j, a, by omega, c⟩
      · rintro ⟨j, a, b, c⟩
        refine ⟨j, a, ?_, c⟩
        by_cases hj : j + t.length = m + 1
        · rw [hj] at c; exact absurd c hs
        · omega

theorem getD_some {us : List (List UInt8)} {k : Nat} (h : k < us.length) : us[k]? = some (us.getD k []) ∧ us.getD k [] ∈ us := by
  rw [List.getD_eq_getElem?_getD, List.getElem?_eq_getElem h]
  exact ⟨rfl, List.getElem_mem _⟩

theorem raw_mem {us : List (List UInt8)} {s : List UInt8} (hu : ∀ t ∈ us, 0 < t.length) : ∀ (n : Nat), n ≤ us.length → ∀ x : Ht, x ∈ rawK us (fun t => fnd s t s.length) n ↔ ∃ e k : Nat, x = ((e : Int), (k : Int)) ∧ e < s.length + 1 ∧ k < n ∧ stB (us.getD k []) s e = true
  | 0, _, x => by simp [rawK]
  | n + 1, hn, x => by
    have hp := hu _ (getD_some (show n < us.length by omega)).2
    rw [rawK, List.mem_append, raw_mem hu n (by omega) x, List.mem_map]
    constructor
    · rintro (⟨e, k, a, b, c, d⟩ | ⟨p, hp2, rfl⟩)
      · exact ⟨e, k, a, b, by omega, d⟩
      · obtain ⟨j, rfl, h1, h2⟩ := (fnd_mem_iff hp _ (Nat.le_refl _) p).1 hp2
        exact ⟨j + (us.getD n []).length, n, by simp, by omega, by omega, st_iff.2 ⟨h1, h2⟩⟩
    · rintro ⟨e, k, a, b, c, d⟩
      by_cases hk : k = n
      · subst hk
        obtain ⟨h1, h2⟩ := st_iff.1 d
        have h3 := (st_len d).1
        refine .inr ⟨((e - (us.getD k []).length : Nat) : Int), (fnd_mem_iff hp _ (Nat.le_refl _) _).2 ⟨e - (us.getD k []).length, rfl, by omega, by rw [Nat.sub_add_cancel h3]; exact h2⟩, ?_⟩
        rw [a]
        congr 1
        omega
      · exact .inl ⟨e, k, a, b, by omega, d⟩
theorem raw_nodup {us : List (List UInt8)} {s : List UInt8} (hu : ∀ t ∈ us, 0 < t.length) : ∀ (n : Nat), n ≤ us.length → (rawK us (fun t => fnd s t s.length) n).Nodup
  | 0, _ => List.nodup_nil
  | n + 1, hn => by
    rw [rawK]
    refine List.nodup_append.2 ⟨raw_nodup hu n (by omega), ?_, fun x hx y hy => ?_⟩
    · refine List.pairwise_map.2 ((fnd_rises s.length (Nat.le_refl _)).imp ?_)
      intro a b h e
      have := (Prod.mk.inj e).1
      omega
    · obtain ⟨e, k, rfl, _, hk, _⟩ := (raw_mem hu n (by omega) x).1 hx
      obtain ⟨p, _, rfl⟩ := List.mem_map.1 hy
      intro e
      have := (Prod.mk.inj e).2
      omega
theorem raw_perm {us : List (List UInt8)} {s : List UInt8} (hu : ∀ t ∈ us, 0 < t.length) : (rawK us (fun t => fnd s t s.length) us.length).Perm (hitL us s) :=
  (List.perm_ext_iff_of_nodup (raw_nodup hu _ (Nat.le_refl _)) (nodup_rise (hit_rise us s))).2 (fun x => by
    rw [raw_mem hu _ (Nat.le_refl _) x]
    unfold hitL
    rw [hitK_mem])

/-- Hits in order. -/
def srtH (l : List Ht) : List Ht := l.mergeSort fun x y => !decide (cfH y x < 0)
theorem srtH_length (l : List Ht) : (srtH l).length = l.length := (List.mergeSort_perm l _).length_eq
theorem nah_trans {a b c : Ht} (h1 : ahB b a = false) (h2 : ahB c b = false) : ahB c a = false := by
  rw [Bool.eq_false_iff] at *
  intro h
  have := ah_iff.1 h
  have n1 : ¬ (b.1 < a.1 ∨ (b.1 = a.1 ∧ b.2 < a.2)) := fun h => h1 (ah_iff.2 h)
  have n2 : ¬ (c.1 < b.1 ∨ (c.1 = b.1 ∧ c.2 < b.2)) := fun h => h2 (ah_iff.2 h)
  omega
theorem nah_eq {a b : Ht} (h1 : ahB b a = false) (h2 : ahB a b = false) : a = b := by
  rw [Bool.eq_false_iff] at *
  have n1 : ¬ (b.1 < a.1 ∨ (b.1 = a.1 ∧ b.2 < a.2)) := fun h => h1 (ah_iff.2 h)
  have n2 : ¬ (a.1 < b.1 ∨ (a.1 = b.1 ∧ a.2 < b.2)) := fun h => h2 (ah_iff.2 h)
  obtain ⟨a1, a2⟩ := a
  obtain ⟨b1, b2⟩ := b
  simp only at n1 n2
  rw [show a1 = b1 by omega, show a2 = b2 by omega]
theorem nah_total (a b : Ht) : ahB b a = false ∨ ahB a b = false := by
  cases h : ahB b a with
  | false => exact .inl rfl
  | true =>
    right
    rw [Bool.eq_false_iff]
    exact fun h2 => ah_asym h h2
theorem neg_ah (a b : Ht) : (!decide (cfH b a < 0)) = !ahB b a := by
  congr 1
  rw [Bool.eq_iff_iff, decide_eq_true_eq]
  exact cf_neg
theorem srtH_is {l m : List Ht} (hp : l.Perm m) (hm : m.Pairwise fun x y => ahB x y = true) : srtH l = m := by
  unfold srtH
  refine List.Perm.eq_of_pairwise (le := fun x y => ahB y x = false) (fun a b _ _ h1 h2 => nah_eq h1 h2) ?_ ?_ ((List.mergeSort_perm l _).trans hp)
  · have := List.pairwise_mergeSort (le := fun x y : Ht => !decide (cfH y x < 0)) (fun a b c h1 h2 => by
      rw [neg_ah] at *
      simp only [Bool.not_eq_true'] at *
      exact nah_trans h1 h2) (fun a b => by
      rw [neg_ah, neg_ah]
      rcases nah_total a b with h | h <;> simp [h]) l
    refine this.imp ?_
    intro a b h
    rw [neg_ah] at h
    simpa using h
  · refine hm.imp ?_
    intro a b h
    rw [Bool.eq_false_iff]
    exact fun h2 => ah_asym h h2

/-! counts -/
/-- How many of the first n ends have it. -/
def cntE (p s : List UInt8) : Nat → Nat
  | 0 => 0
  | n + 1 => cntE p s n + if stB p s n then 1 else 0
theorem cntE_next (p s : List UInt8) (n : Nat) : cntE p s (n + 1) = cntE p s n + if stB p s n then 1 else 0 := rfl
theorem cntE_le (p s : List UInt8) : ∀ n, cntE p s n ≤ n
  | 0 => Nat.le_refl _
  | n + 1 => by
    have := cntE_le p s n
    rw [cntE]
    split <;> omega
theorem cnt_fnd {p s : List UInt8} (hp : 0 < p.length) : ∀ n, n ≤ s.length → (fnd s p n).length = cntE p s (n + 1)
  | 0, _ => by rw [cntE, cntE, st_no (.inl hp)]; rfl
  | n + 1, hn => by
    rw [cntE_next, ← cnt_fnd hp n (by omega)]
    by_cases hs : p <:+ s.take (n + 1)
    · rw [fnd_hit hs, st_iff.2 ⟨hn, hs⟩, List.length_append]; rfl
    · rw [fnd_miss hs, if_neg (fun h => hs (st_iff.1 h).2)]; rfl
/-- Of each of the first k patterns, how many hits it has. -/
def cntL (us : List (List UInt8)) (F : List UInt8 → List Int) (k : Nat) : List Int := (us.take k).map fun t => ((F t).length : Int)
theorem cntL_next {us : List (List UInt8)} {F : List UInt8 → List Int} {k : Nat} {t : List UInt8} (h : us[k]? = some t) : cntL us F (k + 1) = cntL us F k ++ [((F t).length : Int)] := by
  obtain ⟨hk, rfl⟩ := List.getElem?_eq_some_iff.1 h
  unfold cntL
  rw [List.take_succ_eq_append_getElem hk, List.map_append]; rfl

/-! a longer text, a set without its last pattern -/
theorem hitK_app (us : List (List UInt8)) (s t : List UInt8) : ∀ n, n ≤ s.length + 1 → hitK us (s ++ t) n = hitK us s n
  | 0, _ => rfl
  | n + 1, hn => by
    rw [hitK, hitK, hitK_app us s t n (by omega), hitE, hitE, ids_app us s t (by omega)]
theorem hitK_grow (us : List (List UInt8)) (s : List UInt8) (n : Nat) : ∀ m, ∃ r, hitK us s (n + m) = hitK us s n ++ r ∧ ∀ x ∈ r, (n : Int) ≤ x.1
  | 0 => ⟨[], by simp, by simp⟩
  | m + 1 => by
    obtain ⟨r, h1, h2⟩ := hitK_grow us s n m
    refine ⟨r ++ hitE us s (n + m) us.length, by rw [← Nat.add_assoc, hitK, h1, List.append_assoc], fun x hx => ?_⟩
    rcases List.mem_append.1 hx with h | h
    · exact h2 x h
    · obtain ⟨i, _, rfl⟩ := List.mem_map.1 h
      show (n : Int) ≤ ((n + m : Nat) : Int)
      omega
theorem hit_grow (us : List (List UInt8)) (s t : List UInt8) : ∃ r, hitL us (s ++ t) = hitL us s ++ r ∧ ∀ x ∈ r, (s.length : Int) < x.1 := by
  obtain ⟨r, h1, h2⟩ := hitK_grow us (s ++ t) (s.length + 1) t.length
  refine ⟨r, ?_, fun x hx => ?_⟩
  · unfold hitL
    rw [List.length_append, show s.length + t.length + 1 = s.length + 1 + t.length by omega, h1, hitK_app us s t _ (Nat.le_refl _)]
  · have := h2 x hx
    omega

theorem ids_less (us : List (List UInt8)) (u s : List UInt8) (e : Nat) : ∀ n, n ≤ us.length → idsK (us ++ [u]) s e n = idsK us s e n
  | 0, _ => rfl
  | n + 1, h => by
    rw [idsK, idsK, ids_less us u s e n (by omega)]
    congr 2
    simp [List.getD, List.getElem?_append_left (show n < us.length by omega)]
theorem hitE_less (us : List (List UInt8)) (u s : List UInt8) (e : Nat) : (hitE (us ++ [u]) s e (us.length + 1)).filter (fun h => decide (h.2 < (us.length : Int))) = hitE us s e us.length := by
  unfold hitE
  rw [idsK, ids_less us u s e _ (Nat.le_refl _), List.map_append, List.filter_append]
  rw [List.filter_eq_self.2 (by
    intro x hx
    obtain ⟨i, hi, rfl⟩ := List.mem_map.1 hx
    obtain ⟨k, rfl, h, _⟩ := (ids_mem us s e _ i).1 hi
    simp only [decide_eq_true_eq]
    omega)]
  rw [List.filter_eq_nil_iff.2 (by
    intro x hx
    obtain ⟨i, hi, rfl⟩ := List.mem_map.1 hx
    split at hi
    · rw [List.mem_singleton] at hi
      simp [hi]
    · cases hi), List.append_nil]
theorem hitK_less (us : List (List UInt8)) (u s : List UInt8) : ∀ n, (hitK (us ++ [u]) s n).filter (fun h => decide (h.2 < (us.length : Int))) = hitK us s n
  | 0 => rfl
  | n + 1 => by
    rw [hitK, hitK, List.filter_append, hitK_less us u s n, List.length_append, List.length_singleton, hitE_less]
theorem hit_less (us : List (List UInt8)) (u s : List UInt8) : (hitL (us ++ [u]) s).filter (fun h => decide (h.2 < (us.length : Int))) = hitL us s := hitK_less us u s _

theorem filter_snoc (p : Ht → Bool) {l : List Ht} {k : Nat} {h : Ht} (hk : l[k]? = some h) : (l.take (k + 1)).filter p = (l.take k).filter p ++ if p h then [h] else [] := by
  obtain ⟨h1, rfl⟩ := List.getElem?_eq_some_iff.1 hk
  rw [List.take_succ_eq_append_getElem h1, List.filter_append]
  congr 1
  rw [List.filter_cons, List.filter_nil]
end Go.Proofs.YtjmlabggocfikaaGreat

namespace Go.Proofs.YtjmlabggocfikaaGreat

/-- Where a stream leads. -/
theorem wk_at {us S : List (List UInt8)} (h : IsSt us S) (h0 : S[0]? = some []) (u : List UInt8) : ∃ j : Nat, auR S 0 u = j ∧ S[j]? = some (lgL S u) := by
  have := auR_at (slx_nodup h.1) (st_root h) (st_closed h) h0 u
  simpa using this
theorem wk_hs_lg {us S : List (List UInt8)} (h : IsSt us S) (u : List UInt8) : hsL us (lgL S u) = hsL us u := by
  unfold hsL
  have : ∀ k, k ≤ us.length → hkL us (lgL S u) k = hkL us u k := fun k => by
    induction k with
    | zero => intro _; rfl
    | succ k ih =>
      intro hk
      have hm : us.getD k [] ∈ us := by
        rw [List.getD_eq_getElem?_getD, List.getElem?_eq_getElem (by omega)]
        exact List.getElem_mem _
      have : us.getD k [] <:+ lgL S u ↔ us.getD k [] <:+ u := ⟨fun hs => hs.trans (lg_end S u), fun hs => lg_max (st_pats h _ hm) hs⟩
      unfold hkL
      rw [ih (by omega)]
      simp only [this]
  exact this _ (Nat.le_refl _)
theorem wk_hits {us S : List (List UInt8)} (h : IsSt us S) (h0 : S[0]? = some []) (u : List UInt8) : auH us S (auR S 0 u) = hsL us u := by
  obtain ⟨j, h1, h2⟩ := wk_at h h0 u
  rw [h1, auH_in h2, wk_hs_lg h]
theorem wk_depth {us S : List (List UInt8)} (h : IsSt us S) (h0 : S[0]? = some []) (u : List UInt8) : auD S (auR S 0 u) = (lgL S u).length := by
  obtain ⟨j, h1, h2⟩ := wk_at h h0 u
  rw [h1, auD_in h2]

/-- What the first k bytes tell, behind n others, from a state on. -/
def fdK (us S : List (List UInt8)) (s : Int) (n : Nat) (t : List UInt8) : Nat → List Ht
  | 0 => []
  | k + 1 => fdK us S s n t k ++ (auH us S (auR S s (t.take (k + 1)))).map fun i => (((n + k + 1 : Nat) : Int), i)
/-- What all of them tell. -/
def fdL (us S : List (List UInt8)) (s : Int) (n : Nat) (t : List UInt8) : List Ht := fdK us S s n t t.length
theorem fdK_next (us S : List (List UInt8)) (s : Int) (n : Nat) (t : List UInt8) (k : Nat) : fdK us S s n t (k + 1) = fdK us S s n t k ++ (auH us S (auR S s (t.take (k + 1)))).map fun i => (((n + k + 1 : Nat) : Int), i) := rfl
theorem fdK_few (us S : List (List UInt8)) (s : Int) (n : Nat) (t : List UInt8) : ∀ k, (fdK us S s n t k).length ≤ k * us.length
  | 0 => by simp [fdK]
  | k + 1 => by
    have h1 := fdK_few us S s n t k
    have h2 := auH_few us S (auR S s (t.take (k + 1)))
    rw [fdK, List.length_append, List.length_map, Nat.succ_mul]
    omega
theorem fdL_few (us S : List (List UInt8)) (s : Int) (n : Nat) (t : List UInt8) : (fdL us S s n t).length ≤ t.length * us.length := fdK_few us S s n t _

/-- Which patterns end at an end of a text, both ways. -/
theorem ids_hk (us : List (List UInt8)) (s : List UInt8) {e : Nat} (he : e ≤ s.length) : ∀ k, idsK us s e k = hkL us (s.take e) k
  | 0 => rfl
  | k + 1 => by
    rw [idsK, ids_hk us s he k, hkL]
    congr 1
    by_cases h : us.getD k [] <:+ s.take e
    · rw [if_pos h, if_pos (st_iff.2 ⟨he, h⟩)]
    · rw [if_neg h, if_neg (fun hh => h (st_iff.1 hh).2)]
theorem fdK_hits {us S : List (List UInt8)} (h : IsSt us S) (h0 : S[0]? = some []) (u t : List UInt8) : ∀ k, k ≤ t.length → hitL us u ++ fdK us S (auR S 0 u) u.length t k = hitK us (u ++ t) (u.length + k + 1)
  | 0, _ => by
    rw [fdK, List.append_nil, Nat.add_zero, hitK_app us u t _ (Nat.le_refl _)]; rfl
  | k + 1, hk => by
    rw [fdK, ← List.append_assoc, fdK_hits h h0 u t k (by omega), ← auR_app, wk_hits h h0, ← Nat.add_assoc, hitK_next]
    congr 1
    unfold hitE
    rw [ids_hk us (u ++ t) (by rw [List.length_append]; omega)]
    unfold hsL
    have e1 : (u ++ t).take (u.length + k + 1) = u ++ t.take (k + 1) := by rw [Nat.add_assoc, List.take_append, List.take_of_length_le (by omega)]; simp
    rw [e1]
/-- What was told, and what is told now, is all. -/
theorem fd_hits {us S : List (List UInt8)} (h : IsSt us S) (h0 : S[0]? = some []) (u t : List UInt8) : hitL us u ++ fdL us S (auR S 0 u) u.length t = hitL us (u ++ t) := by
  unfold fdL
  rw [fdK_hits h h0 u t _ (Nat.le_refl _), hitL, List.length_append]
theorem hit_none {us : List (List UInt8)} (hu : ∀ p ∈ us, 0 < p.length) : hitL us [] = [] := by
  unfold hitL
  show hitK us [] 0 ++ hitE us [] 0 us.length = []
  rw [hitK, List.nil_append, hitE]
  rw [List.map_eq_nil_iff]
  apply List.eq_nil_iff_forall_not_mem.2
  intro x hx
  obtain ⟨k, rfl, hk, hs⟩ := (ids_mem us [] 0 us.length x).1 hx
  have h1 := (st_len hs).1
  have h2 := hu _ (getD_some hk).2
  omega

/-- The hits whose ends lie behind a place. -/
def aftL (us : List (List UInt8)) (s : List UInt8) (n : Nat) : List Ht := (hitL us s).filter fun h => decide ((n : Int) < h.1)
theorem fdK_mem {us S : List (List UInt8)} {s : Int} {n : Nat} {t : List UInt8} : ∀ {k : Nat} {x : Ht}, x ∈ fdK us S s n t k → (n : Int) < x.1
  | 0, x, h => by simp [fdK] at h
  | k + 1, x, h => by
    rw [fdK, List.mem_append] at h
    rcases h with h | h
    · exact fdK_mem h
    · obtain ⟨i, _, rfl⟩ := List.mem_map.1 h
      show (n : Int) < ((n + k + 1 : Nat) : Int)
      omega
theorem fd_aft {us S : List (List UInt8)} (h : IsSt us S) (h0 : S[0]? = some []) (u t : List UInt8) : fdL us S (auR S 0 u) u.length t = aftL us (u ++ t) u.length := by
  unfold aftL
  rw [← fd_hits h h0, List.filter_append]
  rw [List.filter_eq_nil_iff.2 (by
    intro x hx
    obtain ⟨e, k, rfl, he, _⟩ := (hitK_mem us u _ x).1 hx
    simp only [decide_eq_true_eq]
    omega), List.nil_append, List.filter_eq_self.2 (by
    intro x hx
    simp only [decide_eq_true_eq]
    exact fdK_mem hx)]

/-- The next bytes, if they and the open ones are less than a pattern, bring no hit. -/
theorem fdK_clear {us S : List (List UInt8)} (h : IsSt us S) (h0 : S[0]? = some []) {u t : List UInt8} {m : Nat} (hm : ∀ p ∈ us, m ≤ p.length) (hl : t.length + (lgL S u).length < m) : ∀ k, k ≤ t.length → fdK us S (auR S 0 u) u.length t k = []
  | 0, _ => rfl
  | k + 1, hk => by
    rw [fdK, fdK_clear h h0 hm hl k (by omega), List.nil_append, ← auR_app, wk_hits h h0]
    rw [List.map_eq_nil_iff]
    apply List.eq_nil_iff_forall_not_mem.2
    intro x hx
    obtain ⟨i, hi, rfl, hs⟩ := hk_mem.1 hx
    have hp := (getD_some hi).2
    generalize us.getD i [] = p at hs hp
    have hpl := hm p hp
    have htl : (t.take (k + 1)).length ≤ t.length := by rw [List.length_take]; omega
    generalize t.take (k + 1) = t' at hs htl
    obtain ⟨a, ha⟩ := hs
    rcases List.append_eq_append_iff.1 ha with ⟨c, h1, h2⟩ | ⟨c, h1, h2⟩
    · have hc : c <:+ lgL S u := lg_max ((h.2 c).2 (.inr (beg_iff.2 ⟨p, hp, t', h2.symm⟩))) ⟨a, h1.symm⟩
      have := hc.length_le
      have := congrArg List.length h2
      rw [List.length_append] at this
      omega
    · have := congrArg List.length h2
      rw [List.length_append] at this
      omega
theorem fd_clear {us S : List (List UInt8)} (h : IsSt us S) (h0 : S[0]? = some []) {u t : List UInt8} {m : Nat} (hm : ∀ p ∈ us, m ≤ p.length) (hl : t.length + (lgL S u).length < m) : fdL us S (auR S 0 u) u.length t = [] := fdK_clear h h0 hm hl _ (Nat.le_refl _)

/-- How many bytes more may come at least ahead of the next hit. -/
def clrN (m o : Nat) : Nat := if m ≤ o then 0 else m - 1 - o
theorem clr_le (m o : Nat) : clrN m o ≤ m := by unfold clrN; split <;> omega
theorem clr_fd {us S : List (List UInt8)} (h : IsSt us S) (h0 : S[0]? = some []) (u : List UInt8) {t : List UInt8} (hl : t.length ≤ clrN (leastR us) (lgL S u).length) : fdL us S (auR S 0 u) u.length t = [] := by
  by_cases ht : t = []
  · subst ht; rfl
  · have : 0 < t.length := List.length_pos_iff.2 ht
    refine fd_clear h h0 (m := leastR us) (fun p hp => leastR_le hp) ?_
    unfold clrN at hl
    split at hl <;> omega

/-- What is known of the longest text with which a text ends and a pattern begins, when the first i patterns, and of the next one the first k bytes, were looked at. -/
def OpIn (us : List (List UInt8)) (s : List UInt8) (i k n : Nat) : Prop :=
  (n = 0 ∨ ∃ p ∈ us, n ≤ p.length ∧ n ≤ s.length ∧ s.drop (s.length - n) = p.take n) ∧
  ∀ (j m : Nat) (p : List UInt8), us[j]? = some p → m ≤ p.length → m ≤ s.length → (j < i ∨ (j = i ∧ m ≤ k)) → s.drop (s.length - m) = p.take m → m ≤ n
theorem OpIn.zero (us : List (List UInt8)) (s : List UInt8) : OpIn us s 0 0 0 := ⟨.inl rfl, fun j m p _ _ _ h _ => by omega⟩
theorem OpIn.le {us : List (List UInt8)} {s : List UInt8} {i k n : Nat} (h : OpIn us s i k n) : n ≤ s.length := by
  rcases h.1 with rfl | ⟨p, _, _, h, _⟩
  · omega
  · exact h
theorem OpIn.hit {us : List (List UInt8)} {s p : List UInt8} {i k n : Nat} (h : OpIn us s i k n) (hp : us[i]? = some p) (h1 : k + 1 ≤ p.length) (h2 : k + 1 ≤ s.length) (h3 : n < k + 1) (h4 : s.drop (s.length - (k + 1)) = p.take (k + 1)) : OpIn us s i (k + 1) (k + 1) := by
  refine ⟨.inr ⟨p, List.mem_of_getElem? hp, h1, h2, h4⟩, fun j m q hq hm hs hjm he => ?_⟩
  by_cases hk : j = i ∧ m = k + 1
  · omega
  · have := h.2 j m q hq hm hs (by omega) he
    omega
theorem OpIn.miss {us : List (List UInt8)} {s p : List UInt8} {i k n : Nat} (h : OpIn us s i k n) (hp : us[i]? = some p) (h3 : ¬ (n < k + 1 ∧ s.drop (s.length - (k + 1)) = p.take (k + 1))) : OpIn us s i (k + 1) n := by
  refine ⟨h.1, fun j m q hq hm hs hjm he => ?_⟩
  by_cases hk : j = i ∧ m = k + 1
  · obtain ⟨rfl, rfl⟩ := hk
    obtain rfl : p = q := Option.some.inj (hp.symm.trans hq)
    have : ¬ n < k + 1 := fun hh => h3 ⟨hh, he⟩
    omega
  · exact h.2 j m q hq hm hs (by omega) he
theorem OpIn.row {us : List (List UInt8)} {s p : List UInt8} {i k n : Nat} (h : OpIn us s i k n) (hp : us[i]? = some p) (hk : p.length ≤ k ∨ s.length ≤ k) : OpIn us s (i + 1) 0 n := by
  refine ⟨h.1, fun j m q hq hm hs hjm he => ?_⟩
  rcases hjm with hj | ⟨_, h0⟩
  · by_cases hji : j = i
    · subst hji
      obtain rfl : p = q := Option.some.inj (hp.symm.trans hq)
      exact h.2 j m p hq hm hs (by omega) he
    · exact h.2 j m q hq hm hs (by omega) he
  · omega
theorem OpIn.done {us S : List (List UInt8)} (hS : IsSt us S) {s : List UInt8} {n : Nat} (h : OpIn us s us.length 0 n) : n = (lgL S s).length := by
  apply Nat.le_antisymm
  · rcases h.1 with rfl | ⟨p, hp, h1, h2, h3⟩
    · omega
    · have hm : p.take n ∈ S := (hS.2 _).2 (.inr (beg_iff.2 ⟨p, hp, List.take_prefix _ _⟩))
      have hs : p.take n <:+ s := by rw [← h3]; exact List.drop_suffix _ _
      have := (lg_max hm hs).length_le
      rw [List.length_take] at this
      omega
  · rcases (hS.2 _).1 (lg_mem (st_root hS) s) with he | he
    · rw [he]; exact Nat.zero_le _
    · obtain ⟨j, p, hj, hpre⟩ := beg_of he
      have hjl := (List.getElem?_eq_some_iff.1 hj).1
      have hend := lg_end S s
      have hl1 := hpre.length_le
      have hl2 := hend.length_le
      refine h.2 j _ p hj hl1 hl2 (.inl hjl) ?_
      rw [← List.prefix_iff_eq_take.1 hpre, ← List.suffix_iff_eq_drop.1 hend]
end Go.Proofs.YtjmlabggocfikaaGreat

namespace Go.Proofs.YtjmlabggocfikaaGreat
open Go.RowKit

/-- All blocks of cells of other types than T are as they were. -/
def Other (T : TypeId) (w w' : World) : Prop := ∀ (k : Nat) (cs : Array Value) (U : TypeId) (m : Nat × Nat), U ≠ T → w.heap[k]? = some (.cells cs U m) → w'.heap[k]? = some (.cells cs U m)
theorem Other.refl (T : TypeId) (w : World) : Other T w w := fun _ _ _ _ _ h => h
theorem Other.trans {T : TypeId} {u v w : World} (h : Other T u v) (k : Other T v w) : Other T u w := fun i cs U m hU hh => k i cs U m hU (h i cs U m hU hh)
theorem Other.set {T : TypeId} {w : World} {b i : Nat} {cs : Array Value} {m : Nat × Nat} (h : w.heap[b]? = some (.cells cs T m)) (u : Value) : Other T w (w.setCell ⟨b, i, none⟩ u) := fun k ds U m' hU hk => by
  have hne : k ≠ b := fun e => by
    subst e
    rw [h] at hk
    injection hk with hk
    injection hk with h1 h2 h3
    exact hU h2.symm
  rw [put_other hne]
  exact hk
theorem Other.heap {T : TypeId} {w w' : World} (e : w'.heap = w.heap) : Other T w w' := fun k cs U m hU hk => by rw [e]; exact hk
theorem Other.owns {T : TypeId} {w w' : World} (h : Other T w w') {base n : Nat} {size : Nat} {e : TypeId} {v : Value} {xs : List Value} (he : e ≠ T) (ho : w.ownsRow base e size v n xs) : w'.ownsRow base e size v n xs := by
  obtain ⟨hl, hx⟩ := ho
  refine ⟨hl, ?_⟩
  rcases hx with hx | ⟨g, cap, cur, hv, hg, hh, r⟩
  · exact .inl hx
  · exact .inr ⟨g, cap, cur, hv, hg, h g _ _ _ he hh, r⟩
end Go.Proofs.YtjmlabggocfikaaGreat
