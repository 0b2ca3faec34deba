/-
  How far one may skip by two bytes, as lists. No program here.
-/
import Derived.Test.YtikhjofpioegbaaShM
set_option linter.unusedSimpArgs false
set_option linter.unusedVariables false
namespace Go.Proofs.Ytikhjofpioegbaa

/-- Two bytes, as one number. -/
def two (x y : Nat) : Nat := x * 256 + y
theorem two_lt {x y : Nat} (hx : x < 256) (hy : y < 256) : two x y < 65536 := by unfold two; omega
theorem two_inj {x y u v : Nat} (hy : y < 256) (hv : v < 256) (h : two x y = two u v) : x = u ∧ y = v := by unfold two at h; omega
theorem two_low {x y : Nat} (hy : y < 256) : two x y % 256 = y := by unfold two; omega

/-- The two bytes at this distance from a text's end. -/
def prN (t : List UInt8) (d : Nat) : Nat := two (t.getD (t.length - 2 - d) 0).toNat (t.getD (t.length - 1 - d) 0).toNat
/-- Has a text these two at this distance? -/
def at2 (t : List UInt8) (c d : Nat) : Bool := decide (d + 1 < t.length) && (prN t d == c)
/-- .. one of the texts? -/
def has2 (ws : List (List UInt8)) (c d : Nat) : Bool := ws.any fun t => at2 t c d
/-- The greatest shift. -/
def farL (ws : List (List UInt8)) : Nat := leastR ws - 1
/-- A pair's shift. -/
def nearL (ws : List (List UInt8)) (c : Nat) : Nat := mn (has2 ws c) (farL ws)
theorem near_le (ws : List (List UInt8)) (c : Nat) : nearL ws c ≤ farL ws := mn_le _ _
theorem far_nil : farL [] = 0 := rfl
theorem near_nil (c : Nat) : nearL [] c = 0 := by have := near_le [] c; rw [far_nil] at this; omega
theorem at2_iff {t : List UInt8} {c d : Nat} (h : d + 1 < t.length) : at2 t c d = true ↔ prN t d = c := by
  unfold at2
  rw [decide_eq_true h, Bool.true_and, beq_iff_eq]
theorem prN_lt (t : List UInt8) (d : Nat) : prN t d < 65536 := two_lt (UInt8.toNat_lt _) (UInt8.toNat_lt _)

/-- The shifts behind the first j distances of one more text. -/
def lowP (F : Nat → Nat) (t : List UInt8) : Nat → Nat → Nat
  | 0, c => F c
  | j + 1, c => if at2 t c j = true then min (lowP F t j c) j else lowP F t j c
theorem lowp_mn {F : Nat → Nat} {p : Nat → Nat → Bool} {t : List UInt8} {m : Nat} (h : ∀ c, F c = mn (p c) m) : ∀ j, j ≤ m → ∀ c, lowP F t j c = mn (fun d => p c d || (decide (d < j) && at2 t c d)) m
  | 0, _, c => by
    rw [lowP, h]
    exact mn_congr fun d _ => by simp
  | j + 1, hj, c => by
    rw [lowP, lowp_mn h j (by omega) c]
    by_cases hq : at2 t c j = true
    · rw [if_pos hq]
      refine (mn_or (by omega) fun d => ?_).symm
      rcases Nat.lt_trichotomy d j with hd | hd | hd
      · simp [hd, show d < j + 1 by omega, show ¬ d = j by omega]
      · subst hd; simp [hq]
      · simp [show ¬ d < j by omega, show ¬ d < j + 1 by omega, show ¬ d = j by omega]
    · rw [if_neg hq]
      refine mn_congr fun d _ => ?_
      rcases Nat.lt_trichotomy d j with hd | hd | hd
      · simp [hd, show d < j + 1 by omega]
      · subst hd; simp [hq]
      · simp [show ¬ d < j by omega, show ¬ d < j + 1 by omega]
/-- .. behind a whole one. -/
theorem lowp_done {ws : List (List UInt8)} {k m : Nat} {t : List UInt8} (h : ws[k]? = some t) (c : Nat) : lowP (fun c => mn (has2 (ws.take k) c) m) t m c = mn (has2 (ws.take (k + 1)) c) m := by
  have hlt := (List.getElem?_eq_some_iff.1 h).1
  have ht := (List.getElem?_eq_some_iff.1 h).2
  rw [lowp_mn (p := fun c => has2 (ws.take k) c) (fun c => rfl) m (Nat.le_refl _) c]
  refine mn_congr fun d hd => ?_
  unfold has2
  rw [List.take_succ_eq_append_getElem hlt, List.any_append, ht]
  simp [hd]
theorem lowp_start (m c : Nat) : mn (has2 [] c) m = m := mn_none fun d _ => rfl
theorem lowp_keep {F : Nat → Nat} {t : List UInt8} {j c : Nat} (h : ¬ at2 t c j = true) : lowP F t (j + 1) c = lowP F t j c := if_neg h
theorem lowp_hit {F : Nat → Nat} {t : List UInt8} {j c : Nat} (h : at2 t c j = true) : lowP F t (j + 1) c = min (lowP F t j c) j := if_pos h
theorem lowp_le {F : Nat → Nat} {t : List UInt8} {m : Nat} (h : ∀ c, F c ≤ m) : ∀ j c, lowP F t j c ≤ m
  | 0, c => h c
  | j + 1, c => by
    have := lowp_le (t := t) h j c
    rw [lowP]; split <;> omega

/-- The two bytes of a text that are the last ones up to an end. -/
def prS (s : List UInt8) (e : Nat) : Nat := two (byN s (e - 2)) (byN s (e - 1))
/-- Behind an end ahead of which two bytes of shift n stand no pattern ends, up to n - 1 bytes. -/
theorem near_clears {ws : List (List UInt8)} {s t : List UInt8} {e E : Nat} (ht : t ∈ ws) (hE : E ≤ s.length) (hs : t <:+ s.take E) (he : 2 ≤ e) (h1 : e ≤ E) (h2 : E < e + nearL ws (prS s e)) : False := by
  have hle := near_le ws (prS s e)
  have hm := leastR_le ht
  have hd : E - e + 1 < t.length := by unfold farL at hle; omega
  have h3 := (mn_spec (has2 ws (prS s e)) (farL ws)).2.1 (E - e) (by unfold nearL at h2; omega)
  have h4 : at2 t (prS s e) (E - e) = true := by
    rw [at2_iff hd]
    have a1 := suf_at (d := E - e) hE hs (by omega)
    have a2 := suf_at (d := E - e + 1) hE hs (by omega)
    rw [show t.length - 1 - (E - e + 1) = t.length - 2 - (E - e) by omega, show E - 1 - (E - e + 1) = e - 2 by omega] at a2
    rw [show E - 1 - (E - e) = e - 1 by omega] at a1
    unfold prN prS byN
    rw [a1, a2]
  have h5 : has2 ws (prS s e) (E - e) = true := List.any_eq_true.2 ⟨t, ht, h4⟩
  rw [h5] at h3
  cases h3
/-- Two bytes' shift is no less than the second one's, or as great as may be. -/
theorem near_second {ws : List (List UInt8)} {x y : Nat} (hy : y < 256) (h : nearL ws (two x y) < farL ws) : fstL ws y ≤ nearL ws (two x y) := by
  obtain ⟨h1, h2, h3⟩ := mn_spec (has2 ws (two x y)) (farL ws)
  have h4 := h3 h
  obtain ⟨t, ht, ha⟩ := List.any_eq_true.1 h4
  have hm := leastR_le ht
  have hn : mn (has2 ws (two x y)) (farL ws) = nearL ws (two x y) := rfl
  rw [hn] at ha
  generalize nearL ws (two x y) = n at h ha ⊢
  have hd : n + 1 < t.length := by unfold farL at h; omega
  rw [at2_iff hd] at ha
  have hb := (two_inj (UInt8.toNat_lt _) hy ha).2
  have hat : hasD ws y n = true := List.any_eq_true.2 ⟨t, ht, (at_iff (by omega)).2 hb⟩
  rcases Nat.lt_or_ge n (fstL ws y) with hl | hl
  · have := (mn_spec (hasD ws y) (leastR ws)).2.1 n hl
    rw [hat] at this
    cases this
  · exact hl

/-- So many numbers have it. -/
def IsCount (p : Nat → Prop) (n : Nat) : Prop := ∃ L : List Nat, L.Nodup ∧ L.length = n ∧ ∀ c, c ∈ L ↔ p c
theorem IsCount.one {p q : Nat → Prop} {m n : Nat} (h : IsCount p m) (h' : IsCount q n) (e : ∀ c, p c ↔ q c) : m = n := by
  obtain ⟨L, hL, rfl, h⟩ := h
  obtain ⟨M, hM, rfl, h'⟩ := h'
  exact ((List.perm_ext_iff_of_nodup hL hM).2 fun c => (h c).trans ((e c).trans (h' c).symm)).length_eq
theorem IsCount.none : IsCount (fun _ => False) 0 := ⟨[], List.nodup_nil, rfl, fun c => ⟨fun h => (by cases h), fun h => False.elim h⟩⟩
theorem IsCount.congr {p q : Nat → Prop} {n : Nat} (h : IsCount p n) (e : ∀ c, p c ↔ q c) : IsCount q n := by
  obtain ⟨L, hL, hn, h⟩ := h
  exact ⟨L, hL, hn, fun c => (h c).trans (e c)⟩
theorem IsCount.snoc {p : Nat → Prop} {n c : Nat} (h : IsCount p n) (hc : ¬ p c) : IsCount (fun d => p d ∨ d = c) (n + 1) := by
  obtain ⟨L, hL, rfl, h⟩ := h
  refine ⟨c :: L, List.nodup_cons.2 ⟨fun hm => hc ((h c).1 hm), hL⟩, rfl, fun d => ?_⟩
  rw [List.mem_cons, h d]
  exact Or.comm
/-- How many pairs stand near an end. -/
def IsLen (ws : List (List UInt8)) (n : Nat) : Prop := IsCount (fun c => nearL ws c < farL ws) n
theorem len_nil : IsLen [] 0 := by
  refine IsCount.congr IsCount.none fun c => ⟨fun h => False.elim h, fun h => ?_⟩
  rw [far_nil] at h
  omega
end Go.Proofs.Ytikhjofpioegbaa
