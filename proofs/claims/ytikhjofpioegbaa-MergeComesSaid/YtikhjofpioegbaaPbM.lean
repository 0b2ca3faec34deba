/-
  Evidence at an end, as lists. No program here.
-/
import Derived.Test.YtikhjofpioegbaaBuM
import Derived.Test.YtikhjofpioegbaaPrM
import Derived.Test.YtikhjofpioegbaaOcM
set_option linter.unusedSimpArgs false
set_option linter.unusedVariables false
namespace Go.Proofs.Ytikhjofpioegbaa

/-- Might a pattern end at this end, by its last byte and its length? -/
def canP (t s : List UInt8) (e : Nat) : Bool := (byN t (t.length - 1) == byN s (e - 1)) && decide (t.length ≤ e)
/-- Has it another byte at a distance? -/
def difP (t s : List UInt8) (e d : Nat) : Bool := decide (d < t.length) && !(byN t (t.length - 1 - d) == byN s (e - 1 - d))
/-- Does a distance refute all patterns? -/
def msB (us : List (List UInt8)) (s : List UInt8) (e d : Nat) : Bool := us.all fun t => !canP t s e || difP t s e d
/-- The least distance that does, below a bound; 0: none. -/
def misK (p : Nat → Bool) (n : Nat) : Nat := if mn (fun j => p (j + 1)) (n - 1) < n - 1 then mn (fun j => p (j + 1)) (n - 1) + 1 else 0
def misN (us : List (List UInt8)) (s : List UInt8) (e : Nat) : Nat := misK (msB us s e) (max (mostL us) 2)

theorem misK_hit {p : Nat → Bool} {n d : Nat} (h1 : 0 < d) (h2 : d < n) (h3 : p d = true) (h4 : ∀ j, 0 < j → j < d → p j = false) : misK p n = d := by
  have h : mn (fun j => p (j + 1)) (n - 1) = d - 1 :=
    mn_is (by omega) (fun j hj => h4 (j + 1) (by omega) (by omega)) (fun _ => by show p (d - 1 + 1) = true; rw [show d - 1 + 1 = d by omega]; exact h3)
  unfold misK
  rw [h, if_pos (by omega)]
  omega
theorem misK_none {p : Nat → Bool} {n : Nat} (h : ∀ j, 0 < j → j < n → p j = false) : misK p n = 0 := by
  have h : mn (fun j => p (j + 1)) (n - 1) = n - 1 := mn_none fun j hj => h (j + 1) (by omega) (by omega)
  unfold misK
  rw [h, if_neg (by omega)]
theorem misK_lt (p : Nat → Bool) (n : Nat) (hn : 0 < n) : misK p n < n := by
  unfold misK
  split <;> omega
theorem misK_says (p : Nat → Bool) (n : Nat) (h : 0 < misK p n) : p (misK p n) = true := by
  unfold misK at h ⊢
  split
  · rename_i h1
    exact (mn_spec (fun j => p (j + 1)) (n - 1)).2.2 h1
  · rename_i h1; rw [if_neg h1] at h; omega

theorem most_mem {ws : List (List UInt8)} {t : List UInt8} (h : t ∈ ws) : t.length ≤ mostL ws := by
  have up : ∀ (ws : List (List UInt8)) (n : Nat), n ≤ ws.foldl (fun n t => max n t.length) n := by
    intro ws
    induction ws with
    | nil => intro n; exact Nat.le_refl _
    | cons x l ih => intro n; exact Nat.le_trans (Nat.le_max_left _ _) (ih _)
  have go : ∀ (ws : List (List UInt8)) (n : Nat), t ∈ ws → t.length ≤ ws.foldl (fun n t => max n t.length) n := by
    intro ws
    induction ws with
    | nil => intro n h; cases h
    | cons x l ih =>
      intro n h
      rcases List.mem_cons.1 h with rfl | h
      · exact Nat.le_trans (Nat.le_max_right _ _) (up l _)
      · exact ih _ h
  exact go ws 0 h

/-- The last bytes up to an end. -/
def IsTail (us : List (List UInt8)) (s : List UInt8) (e : Nat) (t : List UInt8) : Prop :=
  0 < e ∧ e ≤ s.length ∧ t <:+ s.take e ∧ t.length ≤ e ∧ (t.length = e ∨ max (mostL us) 2 ≤ t.length)
theorem IsTail.some {us : List (List UInt8)} {s t : List UInt8} {e : Nat} (h : IsTail us s e t) : 0 < t.length := by
  obtain ⟨h1, _, _, _, h5⟩ := h
  omega
theorem IsTail.byte {us : List (List UInt8)} {s t : List UInt8} {e d : Nat} (h : IsTail us s e t) (hd : d < t.length) : byN t (t.length - 1 - d) = byN s (e - 1 - d) := by
  unfold byN
  rw [suf_at h.2.1 h.2.2.1 hd]
theorem IsTail.whole {us : List (List UInt8)} {s : List UInt8} {e : Nat} (h1 : 0 < e) (h2 : e ≤ s.length) : IsTail us s e (s.take e) :=
  ⟨h1, h2, List.suffix_refl _, by rw [List.length_take]; omega, .inl (by rw [List.length_take]; omega)⟩
theorem IsTail.drop {us : List (List UInt8)} {s : List UInt8} {e n : Nat} (h1 : 0 < e) (h2 : e ≤ s.length) (h3 : n = e ∨ max (mostL us) 2 ≤ n) (h4 : n ≤ e) : IsTail us s e ((s.take e).drop (e - n)) := by
  have hl : ((s.take e).drop (e - n)).length = n := by rw [List.length_drop, List.length_take]; omega
  refine ⟨h1, h2, List.drop_suffix _ _, by omega, ?_⟩
  rw [hl]
  exact h3
theorem IsTail.pair {us : List (List UInt8)} {s t : List UInt8} {e : Nat} (h : IsTail us s e t) (he : 2 ≤ e) : 2 ≤ t.length ∧ prS t t.length = prS s e := by
  have h5 := h.2.2.2.2
  have hl : 2 ≤ t.length := by omega
  refine ⟨hl, ?_⟩
  unfold prS
  have a := h.byte (d := 1) (by omega)
  have b := h.byte (d := 0) (by omega)
  rw [show t.length - 2 = t.length - 1 - 1 by omega, a, show e - 2 = e - 1 - 1 by omega]
  rw [Nat.sub_zero, Nat.sub_zero] at b
  rw [b]
/-- A pattern ends at the end if the last bytes end with it. -/
theorem IsTail.ends {us : List (List UInt8)} {s t q : List UInt8} {e : Nat} (h : IsTail us s e t) (hq : q ∈ us) : decide (q <:+ t) = stB q s e := by
  obtain ⟨h1, h2, h3, h4, h5⟩ := h
  rw [Bool.eq_iff_iff, st_iff, decide_eq_true_eq]
  constructor
  · intro h; exact ⟨h2, h.trans h3⟩
  · rintro ⟨_, h⟩
    refine List.suffix_of_suffix_length_le h h3 ?_
    have a := most_mem hq
    have b := h.length_le
    rw [List.length_take] at b
    omega

theorem bids_in {ws : List (List UInt8)} {c m : Nat} (h : endsN ws c m = true) : ∀ {k : Nat}, m < k → (m : Int) ∈ bidsK ws c k
  | 0, hk => by omega
  | k + 1, hk => by
    by_cases he : endsN ws c k = true
    · rw [bids_hit he, List.mem_append]
      by_cases hm : m = k
      · subst hm; exact .inr (List.mem_singleton.2 rfl)
      · exact .inl (bids_in h (by omega))
    · rw [bids_miss he]
      have : m ≠ k := fun e => he (e ▸ h)
      exact bids_in h (by omega)

/-- One of the texts, by its number. -/
def txN (us : List (List UInt8)) (x : Int) : List UInt8 := us.getD x.toNat []
theorem ids_all {us : List (List UInt8)} {c : Nat} {x : Int} (h : x ∈ idsL us c) : ∃ m : Nat, x = (m : Int) ∧ us[m]? = some (txN us x) ∧ txN us x ∈ us ∧ 0 < (txN us x).length ∧ byN (txN us x) ((txN us x).length - 1) = c := by
  obtain ⟨m, rfl, h2, h3⟩ := bids_mem h
  obtain ⟨t, ht⟩ : ∃ t, us[m]? = some t := ⟨_, List.getElem?_eq_getElem h2⟩
  have hl := (ends_of ht).1 h3
  have e : txN us (m : Int) = t := by unfold txN; rw [Int.toNat_natCast, getD_of ht]
  have h0 : 0 < t.length := by
    rcases Nat.eq_zero_or_pos t.length with h0 | h0
    · rw [List.length_eq_zero_iff.1 h0, lastN_nil] at hl; cases hl
    · exact h0
  refine ⟨m, rfl, by rw [e]; exact ht, by rw [e]; exact List.mem_of_getElem? ht, by rw [e]; exact h0, ?_⟩
  rw [e]
  have := (lastN_at h0).1 hl
  unfold byN
  rw [List.getD_eq_getElem?_getD, List.getElem?_eq_getElem (by omega)]
  exact this
theorem ids_of {us : List (List UInt8)} {t : List UInt8} (ht : t ∈ us) (h0 : 0 < t.length) : ∃ x ∈ idsL us (byN t (t.length - 1)), txN us x = t := by
  obtain ⟨m, hm⟩ := List.getElem?_of_mem ht
  have hlt := (List.getElem?_eq_some_iff.1 hm).1
  refine ⟨(m : Int), bids_in ((ends_of hm).2 ((lastN_at h0).2 ?_)) hlt, by unfold txN; rw [Int.toNat_natCast, getD_of hm]⟩
  unfold byN
  rw [List.getD_eq_getElem?_getD, List.getElem?_eq_getElem (by omega)]
  rfl

theorem lst_min (ws : List (List UInt8)) (ids : List Int) : ∀ j x, x < j → lstK ws ids j ≤ lenAt ws (ids.getD x 0)
  | 0, x, h => by omega
  | j + 1, x, h => by
    by_cases hx : x = j
    · subst hx
      unfold lstK
      split <;> omega
    · have := lst_min ws ids j x (by omega)
      unfold lstK
      split <;> omega
theorem lst_has (ws : List (List UInt8)) (ids : List Int) : ∀ j, 0 < j → ∃ x, x < j ∧ lstK ws ids j = lenAt ws (ids.getD x 0)
  | 0, h => by omega
  | j + 1, h => by
    by_cases hc : j = 0 ∨ lenAt ws (ids.getD j 0) < lstK ws ids j
    · exact ⟨j, by omega, by unfold lstK; rw [if_pos hc]⟩
    · obtain ⟨x, hx, e⟩ := lst_has ws ids j (by omega)
      exact ⟨x, by omega, by rw [lstK, if_neg hc]; exact e⟩
theorem lst_all {us : List (List UInt8)} {c : Nat} {x : Int} (h : x ∈ idsL us c) : lstL us c ≤ (txN us x).length := by
  obtain ⟨j, hj, rfl⟩ := List.getElem_of_mem h
  have := lst_min us (idsL us c) (idsL us c).length j hj
  unfold lstL lstA
  unfold lenAt at this
  unfold txN
  simp only [List.getD_eq_getElem?_getD, List.getElem?_eq_getElem hj, Option.getD_some] at this ⊢
  exact this
theorem lst_some {us : List (List UInt8)} {c : Nat} (h : 0 < (idsL us c).length) : ∃ x ∈ idsL us c, lstL us c = (txN us x).length := by
  obtain ⟨j, hj, e⟩ := lst_has us (idsL us c) _ h
  refine ⟨_, List.getElem_mem hj, ?_⟩
  unfold lstL lstA
  rw [e]
  unfold lenAt txN
  simp only [List.getD_eq_getElem?_getD, List.getElem?_eq_getElem hj, Option.getD_some]

/-- Is one of a bucket's patterns not refuted by a distance? -/
def badX (us : List (List UInt8)) (s : List UInt8) (e d : Nat) (x : Int) : Bool := decide ((txN us x).length ≤ e) && (byN (txN us x) ((txN us x).length - 1 - d) == byN s (e - 1 - d))

theorem can_iff {t s : List UInt8} {e : Nat} : canP t s e = true ↔ byN t (t.length - 1) = byN s (e - 1) ∧ t.length ≤ e := by
  unfold canP; rw [Bool.and_eq_true, beq_iff_eq, decide_eq_true_eq]
theorem dif_iff {t s : List UInt8} {e d : Nat} : difP t s e d = true ↔ d < t.length ∧ ¬ byN t (t.length - 1 - d) = byN s (e - 1 - d) := by
  unfold difP
  rw [Bool.and_eq_true, decide_eq_true_eq, Bool.not_eq_true', beq_eq_false_iff_ne]
theorem ms_iff {us : List (List UInt8)} {s : List UInt8} {e d : Nat} : msB us s e d = true ↔ ∀ t ∈ us, canP t s e = true → difP t s e d = true := by
  unfold msB
  rw [List.all_eq_true]
  refine forall_congr' fun t => forall_congr' fun _ => ?_
  cases canP t s e <;> simp
theorem ms_not {us : List (List UInt8)} {s t : List UInt8} {e d : Nat} (ht : t ∈ us) (hc : canP t s e = true) (hd : difP t s e d = false) : msB us s e d = false := by
  rw [Bool.eq_false_iff]
  intro h
  rw [ms_iff.1 h t ht hc] at hd
  cases hd
theorem bad_ms {us : List (List UInt8)} {s : List UInt8} {e d : Nat} {x : Int} (hx : x ∈ idsL us (byN s (e - 1))) (h : badX us s e d x = true) : msB us s e d = false := by
  obtain ⟨m, rfl, h2, h3, h4, h5⟩ := ids_all hx
  unfold badX at h
  rw [Bool.and_eq_true, decide_eq_true_eq, beq_iff_eq] at h
  refine ms_not h3 (can_iff.2 ⟨h5, h.1⟩) ?_
  rw [Bool.eq_false_iff]
  intro h'
  exact (dif_iff.1 h').2 h.2
theorem all_ms {us : List (List UInt8)} {s : List UInt8} {e d : Nat} (hu : ∀ t ∈ us, 0 < t.length) (hd : d < lstL us (byN s (e - 1))) (h : ∀ x ∈ idsL us (byN s (e - 1)), badX us s e d x = false) : msB us s e d = true := by
  refine ms_iff.2 fun t ht hc => ?_
  obtain ⟨h1, h2⟩ := can_iff.1 hc
  obtain ⟨x, hx, rfl⟩ := ids_of ht (hu t ht)
  rw [h1] at hx
  have hm := lst_all hx
  refine dif_iff.2 ⟨by omega, fun h' => ?_⟩
  have := h x hx
  unfold badX at this
  rw [decide_eq_true h2, h', beq_self_eq_true] at this
  cases this
theorem long_ms {us : List (List UInt8)} {s : List UInt8} {e d : Nat} (h0 : 0 < lstL us (byN s (e - 1))) (he : lstL us (byN s (e - 1)) ≤ e) (hd : lstL us (byN s (e - 1)) ≤ d) : msB us s e d = false := by
  have hn : 0 < (idsL us (byN s (e - 1))).length := by
    rcases Nat.eq_zero_or_pos (idsL us (byN s (e - 1))).length with h | h
    · have e0 : lstL us (byN s (e - 1)) = 0 := by unfold lstL lstA; rw [h]; rfl
      omega
    · exact h
  obtain ⟨x, hx, e1⟩ := lst_some hn
  obtain ⟨m, rfl, h2, h3, h4, h5⟩ := ids_all hx
  refine ms_not h3 (can_iff.2 ⟨h5, by omega⟩) ?_
  rw [Bool.eq_false_iff]
  intro h'
  have := (dif_iff.1 h').1
  omega
theorem room_ms {us : List (List UInt8)} {s : List UInt8} {e : Nat} (hu : ∀ t ∈ us, 0 < t.length) (h : lstL us (byN s (e - 1)) = 0 ∨ e < lstL us (byN s (e - 1))) (d : Nat) : msB us s e d = true := by
  refine ms_iff.2 fun t ht hc => ?_
  obtain ⟨h1, h2⟩ := can_iff.1 hc
  obtain ⟨x, hx, rfl⟩ := ids_of ht (hu t ht)
  rw [h1] at hx
  have hm := lst_all hx
  obtain ⟨y, hy, e1⟩ := lst_some (List.length_pos_of_mem hx)
  obtain ⟨m, rfl, h2', h3', h4', h5'⟩ := ids_all hy
  omega

theorem mis_room {us : List (List UInt8)} {s : List UInt8} {e : Nat} (hu : ∀ t ∈ us, 0 < t.length) (h : lstL us (byN s (e - 1)) = 0 ∨ e < lstL us (byN s (e - 1))) : misN us s e = 1 :=
  misK_hit (by omega) (by omega) (room_ms hu h 1) (fun j h1 h2 => by omega)
theorem mis_here {us : List (List UInt8)} {s : List UInt8} {e d : Nat} (hu : ∀ t ∈ us, 0 < t.length) (h0 : 0 < d) (hd : d < lstL us (byN s (e - 1))) (h1 : msB us s e d = true) (h2 : ∀ j, 0 < j → j < d → msB us s e j = false) : misN us s e = d := by
  refine misK_hit h0 ?_ h1 h2
  have hn : 0 < (idsL us (byN s (e - 1))).length := by
    rcases Nat.eq_zero_or_pos (idsL us (byN s (e - 1))).length with h | h
    · have e0 : lstL us (byN s (e - 1)) = 0 := by unfold lstL lstA; rw [h]; rfl
      omega
    · exact h
  obtain ⟨x, hx, e1⟩ := lst_some hn
  obtain ⟨m, rfl, _, h3, _, _⟩ := ids_all hx
  have := most_mem h3
  omega
theorem mis_nowhere {us : List (List UInt8)} {s : List UInt8} {e : Nat} (h0 : 0 < lstL us (byN s (e - 1))) (he : lstL us (byN s (e - 1)) ≤ e) (h2 : ∀ j, 0 < j → j < lstL us (byN s (e - 1)) → msB us s e j = false) : misN us s e = 0 := by
  refine misK_none fun j hj _ => ?_
  by_cases hl : j < lstL us (byN s (e - 1))
  · exact h2 j hj hl
  · exact long_ms h0 he (by omega)

/-- The patterns that end here are among those with the last byte. -/
theorem st_last {t s : List UInt8} {e : Nat} (h0 : 0 < t.length) (h : stB t s e = true) : byN t (t.length - 1) = byN s (e - 1) := by
  obtain ⟨h1, h2⟩ := st_iff.1 h
  have := suf_at h1 h2 (d := 0) h0
  unfold byN
  rw [Nat.sub_zero, Nat.sub_zero] at this
  rw [this]
theorem hit_ids {us : List (List UInt8)} {s : List UInt8} {e : Nat} (hu : ∀ t ∈ us, 0 < t.length) : ∀ k, k ≤ us.length → idsK us s e k = (bidsK us (byN s (e - 1)) k).filter fun x => stB (txN us x) s e
  | 0, _ => rfl
  | k + 1, hk => by
    obtain ⟨t, ht⟩ : ∃ t, us[k]? = some t := ⟨_, List.getElem?_eq_getElem (by omega)⟩
    have h0 := hu t (List.mem_of_getElem? ht)
    have e1 : txN us (k : Int) = t := by unfold txN; rw [Int.toNat_natCast, getD_of ht]
    have ih := hit_ids (s := s) (e := e) hu k (by omega)
    by_cases he : endsN us (byN s (e - 1)) k = true
    · rw [bids_hit he, List.filter_append, ← ih]
      cases hs : stB t s e with
      | true => rw [ids_hit ht hs]; simp [List.filter, e1, hs]
      | false => rw [ids_miss ht hs]; simp [List.filter, e1, hs]
    · rw [bids_miss he, ← ih]
      have hs : stB t s e = false := by
        rw [Bool.eq_false_iff]
        intro h
        refine he ((ends_of ht).2 ((lastN_at h0).2 ?_))
        have := st_last h0 h
        unfold byN at this
        rw [List.getD_eq_getElem?_getD, List.getElem?_eq_getElem (by omega)] at this
        exact this
      exact ids_miss ht hs
theorem hit_all {us : List (List UInt8)} {s : List UInt8} {e : Nat} (hu : ∀ t ∈ us, 0 < t.length) : idsK us s e us.length = (idsL us (byN s (e - 1))).filter fun x => stB (txN us x) s e := hit_ids hu _ (Nat.le_refl _)

/-- Evidence: kind, N, R, Ids. -/
structure EvR where
  k : Nat
  n : Nat
  r : Nat
  ids : List Int
/-- How far the two bytes clear. -/
def twoN (us : List (List UInt8)) (s : List UInt8) (e : Nat) : Nat := if 2 ≤ e then nearL us (prS s e) else 0
def jmpR (us : List (List UInt8)) (s : List UInt8) (e : Nat) : EvR :=
  if fstL us (byN s (e - 1)) < twoN us s e then ⟨2, twoN us s e, 1, []⟩ else if 0 < fstL us (byN s (e - 1)) then ⟨1, fstL us (byN s (e - 1)), 1, []⟩ else ⟨0, 0, 0, []⟩
def ofR (us : List (List UInt8)) (s : List UInt8) (e : Nat) (skip : Bool) : EvR :=
  if skip = true ∧ 0 < (jmpR us s e).k then jmpR us s e
  else if (idsK us s e us.length).length = 0 ∧ 0 < misN us s e then ⟨3, misN us s e, 1, []⟩ else ⟨4, 0, 0, idsK us s e us.length⟩
/-- How many ends a record covers. -/
def covZ (k n : Int) : Int := if k = 1 ∨ k = 2 then max n 0 else if k = 3 ∨ k = 4 then 1 else 0

theorem two_le (us : List (List UInt8)) (s : List UInt8) (e : Nat) : twoN us s e ≤ farL us := by
  unfold twoN
  split
  · exact near_le _ _
  · omega
theorem jmp_ids (us : List (List UInt8)) (s : List UInt8) (e : Nat) : (jmpR us s e).ids = [] := by
  unfold jmpR; split
  · rfl
  · split <;> rfl
theorem jmp_cases (us : List (List UInt8)) (s : List UInt8) (e : Nat) :
    (fstL us (byN s (e - 1)) < twoN us s e ∧ jmpR us s e = ⟨2, twoN us s e, 1, []⟩) ∨ (¬ fstL us (byN s (e - 1)) < twoN us s e ∧ 0 < fstL us (byN s (e - 1)) ∧ jmpR us s e = ⟨1, fstL us (byN s (e - 1)), 1, []⟩) ∨
      (¬ fstL us (byN s (e - 1)) < twoN us s e ∧ fstL us (byN s (e - 1)) = 0 ∧ jmpR us s e = ⟨0, 0, 0, []⟩) := by
  unfold jmpR
  by_cases h : fstL us (byN s (e - 1)) < twoN us s e
  · rw [if_pos h]; exact .inl ⟨h, rfl⟩
  · rw [if_neg h]
    by_cases h0 : 0 < fstL us (byN s (e - 1))
    · rw [if_pos h0]; exact .inr (.inl ⟨h, h0, rfl⟩)
    · rw [if_neg h0]; exact .inr (.inr ⟨h, by omega, rfl⟩)
theorem of_cases (us : List (List UInt8)) (s : List UInt8) (e : Nat) (skip : Bool) :
    (skip = true ∧ fstL us (byN s (e - 1)) < twoN us s e ∧ ofR us s e skip = ⟨2, twoN us s e, 1, []⟩) ∨ (skip = true ∧ 0 < fstL us (byN s (e - 1)) ∧ ofR us s e skip = ⟨1, fstL us (byN s (e - 1)), 1, []⟩) ∨
      (idsK us s e us.length = [] ∧ 0 < misN us s e ∧ ofR us s e skip = ⟨3, misN us s e, 1, []⟩) ∨ ofR us s e skip = ⟨4, 0, 0, idsK us s e us.length⟩ := by
  by_cases h : skip = true ∧ 0 < (jmpR us s e).k
  · rcases jmp_cases us s e with ⟨h1, h2⟩ | ⟨h1, h2, h3⟩ | ⟨h1, h2, h3⟩
    · exact .inl ⟨h.1, h1, by rw [ofR, if_pos h, h2]⟩
    · exact .inr (.inl ⟨h.1, h2, by rw [ofR, if_pos h, h3]⟩)
    · rw [h3] at h; exact absurd h.2 (Nat.lt_irrefl 0)
  · by_cases h1 : (idsK us s e us.length).length = 0 ∧ 0 < misN us s e
    · exact .inr (.inr (.inl ⟨List.length_eq_zero_iff.1 h1.1, h1.2, by rw [ofR, if_neg h, if_pos h1]⟩))
    · exact .inr (.inr (.inr (by rw [ofR, if_neg h, if_neg h1])))

theorem ids_empty {us : List (List UInt8)} {s : List UInt8} {e : Nat} : ∀ {k : Nat}, (∀ t ∈ us, stB t s e = false) → k ≤ us.length → idsK us s e k = []
  | 0, _, _ => rfl
  | k + 1, h, hk => by
    obtain ⟨t, ht⟩ : ∃ t, us[k]? = some t := ⟨_, List.getElem?_eq_getElem (by omega)⟩
    rw [ids_miss ht (h t (List.mem_of_getElem? ht)), ids_empty h (by omega)]
/-- What evidence covers has no hits but those that it names. -/
theorem of_clears {us : List (List UInt8)} {s : List UInt8} {e : Nat} {skip : Bool} (he : 0 < e) (hs : e ≤ s.length) {i : Nat} (hi : (i : Int) < covZ (ofR us s e skip).k (ofR us s e skip).n) (hE : e + i ≤ s.length) :
    idsK us s (e + i) us.length = (ofR us s e skip).ids := by
  rcases of_cases us s e skip with ⟨_, h, h1⟩ | ⟨_, h, h1⟩ | ⟨h, _, h1⟩ | h1
  · rw [h1] at hi ⊢
    have hi : i < twoN us s e := by simp [covZ] at hi; omega
    refine ids_empty (fun t ht => ?_) (Nat.le_refl _)
    rw [Bool.eq_false_iff]
    intro hq
    obtain ⟨_, h3⟩ := st_iff.1 hq
    unfold twoN at hi
    split at hi
    · exact near_clears ht hE h3 (by omega) (by omega) (by omega)
    · omega
  · rw [h1] at hi ⊢
    have hi : i < fstL us (byN s (e - 1)) := by simp [covZ] at hi; omega
    refine ids_empty (fun t ht => ?_) (Nat.le_refl _)
    rw [Bool.eq_false_iff]
    intro hq
    obtain ⟨_, h3⟩ := st_iff.1 hq
    exact fst_clears ht hE h3 he (by omega) (by omega)
  · rw [h1] at hi ⊢
    have hi : i = 0 := by simp [covZ] at hi; omega
    subst hi
    exact h
  · rw [h1] at hi ⊢
    have hi : i = 0 := by simp [covZ] at hi; omega
    subst hi
    rfl
theorem of_covers (us : List (List UInt8)) (s : List UInt8) (e : Nat) (skip : Bool) : 0 < covZ (ofR us s e skip).k (ofR us s e skip).n := by
  rcases of_cases us s e skip with ⟨_, h, h1⟩ | ⟨_, h, h1⟩ | ⟨h, _, h1⟩ | h1 <;> rw [h1] <;> simp [covZ] <;> omega
end Go.Proofs.Ytikhjofpioegbaa
