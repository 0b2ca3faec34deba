/-
  Texts put together: PbM, MgM, VarC.
-/
import Derived.Test.YtjmaccflnfaiiaaBn1
import Derived.Test.YtjmaccflnfaiiaaBn2
import Derived.Test.YtjmaccflnfaiiaaVarM
set_option linter.unusedSimpArgs false
set_option linter.unusedVariables false
namespace Go.Proofs.Ytjmaccflnfaiiaa

/-- Might a pattern end at this end, by its last byte and its length? -/
def canP (t s : List UInt8) (e : Nat) : Bool := (byN t (t.length - 1) == byN s (e - 1)) && decide (t.length ≤ e)
/-- Has it another byte at a distance? -/
def difP (t s : List UInt8) (e d : Nat) : Bool := decide (d < t.length) && !(byN t (t.length - 1 - d) == byN s (e - 1 - d))
/-- Does a distance refute all patterns? -/
def msB (us : List (List UInt8)) (s : List UInt8) (e d : Nat) : Bool := us.all fun t => !canP t s e || difP t s e d
/-- The least distance that does, below a bound; 0: none. -/
def misK (p : Nat → Bool) (n : Nat) : Nat := if mn (fun j => p (j + 1)) (n - 1) < n - 1 then mn (fun j => p (j + 1)) (n - 1) + 1 else 0
def misN (us : List (List UInt8)) (s : List UInt8) (e : Nat) : Nat := misK (msB us s e) (max (mostL us) 2)

theorem misK_hit {p : Nat → Bool} {n d : Nat} (h1 : 0 < d) (h2 : d < n) (h3 : p d = true) (h4 : ∀ j, 0 < j → j < d → p j = false) : misK p n = d := by
  have h : mn (fun j => p (j + 1)) (n - 1) = d - 1 :=
    mn_is (by omega) (fun j hj => h4 (j + 1) (by omega) (by omega)) (fun _ => by show p (d - 1 + 1) = true; rw [show d - 1 + 1 = d by omega]; exact h3)
  unfold misK
  rw [h, if_pos (by omega)]
  omega
theorem misK_none {p : Nat → Bool} {n : Nat} (h : ∀ j, 0 < j → j < n → p j = false) : misK p n = 0 := by
  have h : mn (fun j => p (j + 1)) (n - 1) = n - 1 := mn_none fun j hj => h (j + 1) (by omega) (by omega)
  unfold misK
  rw [h, if_neg (by omega)]
theorem misK_lt (p : Nat → Bool) (n : Nat) (hn : 0 < n) : misK p n < n := by
  unfold misK
  split <;> omega
theorem misK_says (p : Nat → Bool) (n : Nat) (h : 0 < misK p n) : p (misK p n) = true := by
  unfold misK at h ⊢
  split
  · rename_i h1
    exact (mn_spec (fun j => p (j + 1)) (n - 1)).2.2 h1
  · rename_i h1; rw [if_neg h1] at h; omega

theorem most_mem {ws : List (List UInt8)} {t : List UInt8} (h : t ∈ ws) : t.length ≤ mostL ws := by
  have up : ∀ (ws : List (List UInt8)) (n : Nat), n ≤ ws.foldl (fun n t => max n t.length) n := by
    intro ws
    induction ws with
    | nil => intro n; exact Nat.le_refl _
    | cons x l ih => intro n; exact Nat.le_trans (Nat.le_max_left _ _) (ih _)
  have go : ∀ (ws : List (List UInt8)) (n : Nat), t ∈ ws → t.length ≤ ws.foldl (fun n t => max n t.length) n := by
    intro ws
    induction ws with
    | nil => intro n h; cases h
    | cons x l ih =>
      intro n h
      rcases List.mem_cons.1 h with rfl | h
      · exact Nat.le_trans (Nat.le_max_right _ _) (up l _)
      · exact ih _ h
  exact go ws 0 h

/-- The last bytes up to an end. -/
def IsTail (us : List (List UInt8)) (s : List UInt8) (e : Nat) (t : List UInt8) : Prop :=
  0 < e ∧ e ≤ s.length ∧ t <:+ s.take e ∧ t.length ≤ e ∧ (t.length = e ∨ max (mostL us) 2 ≤ t.length)
theorem IsTail.some {us : List (List UInt8)} {s t : List UInt8} {e : Nat} (h : IsTail us s e t) : 0 < t.length := by
  obtain ⟨h1, _, _, _, h5⟩ := h
  omega
theorem IsTail.byte {us : List (List UInt8)} {s t : List UInt8} {e d : Nat} (h : IsTail us s e t) (hd : d < t.length) : byN t (t.length - 1 - d) = byN s (e - 1 - d) := by
  unfold byN
  rw [suf_at h.2.1 h.2.2.1 hd]
theorem IsTail.whole {us : List (List UInt8)} {s : List UInt8} {e : Nat} (h1 : 0 < e) (h2 : e ≤ s.length) : IsTail us s e (s.take e) :=
  ⟨h1, h2, List.suffix_refl _, by rw [List.length_take]; omega, .inl (by rw [List.length_take]; omega)⟩
theorem IsTail.drop {us : List (List UInt8)} {s : List UInt8} {e n : Nat} (h1 : 0 < e) (h2 : e ≤ s.length) (h3 : n = e ∨ max (mostL us) 2 ≤ n) (h4 : n ≤ e) : IsTail us s e ((s.take e).drop (e - n)) := by
  have hl : ((s.take e).drop (e - n)).length = n := by rw [List.length_drop, List.length_take]; omega
  refine ⟨h1, h2, List.drop_suffix _ _, by omega, ?_⟩
  rw [hl]
  exact h3
theorem IsTail.pair {us : List (List UInt8)} {s t : List UInt8} {e : Nat} (h : IsTail us s e t) (he : 2 ≤ e) : 2 ≤ t.length ∧ prS t t.length = prS s e := by
  have h5 := h.2.2.2.2
  have hl : 2 ≤ t.length := by omega
  refine ⟨hl, ?_⟩
  unfold prS
  have a := h.byte (d := 1) (by omega)
  have b := h.byte (d := 0) (by omega)
  rw [show t.length - 2 = t.length - 1 - 1 by omega, a, show e - 2 = e - 1 - 1 by omega]
  rw [Nat.sub_zero, Nat.sub_zero] at b
  rw [b]
/-- A pattern ends at the end if the last bytes end with it. -/
theorem IsTail.ends {us : List (List UInt8)} {s t q : List UInt8} {e : Nat} (h : IsTail us s e t) (hq : q ∈ us) : decide (q <:+ t) = stB q s e := by
  obtain ⟨h1, h2, h3, h4, h5⟩ := h
  rw [Bool.eq_iff_iff, st_iff, decide_eq_true_eq]
  constructor
  · intro h; exact ⟨h2, h.trans h3⟩
  · rintro ⟨_, h⟩
    refine List.suffix_of_suffix_length_le h h3 ?_
    have a := most_mem hq
    have b := h.length_le
    rw [List.length_take] at b
    omega

theorem bids_in {ws : List (List UInt8)} {c m : Nat} (h : endsN ws c m = true) : ∀ {k : Nat}, m < k → (m : Int) ∈ bidsK ws c k
  | 0, hk => by omega
  | k + 1, hk => by
    by_cases he : endsN ws c k = true
    · rw [bids_hit he, List.mem_append]
      by_cases hm : m = k
      · subst hm; exact .inr (List.mem_singleton.2 rfl)
      · exact .inl (bids_in h (by omega))
    · rw [bids_miss he]
      have : m ≠ k := fun e => he (e ▸ h)
      exact bids_in h (by omega)

/-- One of the texts, by its number. -/
def txN (us : List (List UInt8)) (x : Int) : List UInt8 := us.getD x.toNat []
theorem ids_all {us : List (List UInt8)} {c : Nat} {x : Int} (h : x ∈ idsL us c) : ∃ m : Nat, x = (m : Int) ∧ us[m]? = some (txN us x) ∧ txN us x ∈ us ∧ 0 < (txN us x).length ∧ byN (txN us x) ((txN us x).length - 1) = c := by
  obtain ⟨m, rfl, h2, h3⟩ := bids_mem h
  obtain ⟨t, ht⟩ : ∃ t, us[m]? = some t := ⟨_, List.getElem?_eq_getElem h2⟩
  have hl := (ends_of ht).1 h3
  have e : txN us (m : Int) = t := by unfold txN; rw [Int.toNat_natCast, getD_of ht]
  have h0 : 0 < t.length := by
    rcases Nat.eq_zero_or_pos t.length with h0 | h0
    · rw [List.length_eq_zero_iff.1 h0, lastN_nil] at hl; cases hl
    · exact h0
  refine ⟨m, rfl, by rw [e]; exact ht, by rw [e]; exact List.mem_of_getElem? ht, by rw [e]; exact h0, ?_⟩
  rw [e]
  have := (lastN_at h0).1 hl
  unfold byN
  rw [List.getD_eq_getElem?_getD, List.getElem?_eq_getElem (by omega)]
  exact this
theorem ids_of {us : List (List UInt8)} {t : List UInt8} (ht : t ∈ us) (h0 : 0 < t.length) : ∃ x ∈ idsL us (byN t (t.length - 1)), txN us x = t := by
  obtain ⟨m, hm⟩ := List.getElem?_of_mem ht
  have hlt := (List.getElem?_eq_some_iff.1 hm).1
  refine ⟨(m : Int), bids_in ((ends_of hm).2 ((lastN_at h0).2 ?_)) hlt, by unfold txN; rw [Int.toNat_natCast, getD_of hm]⟩
  unfold byN
  rw [List.getD_eq_getElem?_getD, List.getElem?_eq_getElem (by omega)]
  rfl

theorem lst_min (ws : List (List UInt8)) (ids : List Int) : ∀ j x, x < j → lstK ws ids j ≤ lenAt ws (ids.getD x 0)
  | 0, x, h => by omega
  | j + 1, x, h => by
    by_cases hx : x = j
    · subst hx
      unfold lstK
      split <;> omega
    · have := lst_min ws ids j x (by omega)
      unfold lstK
      split <;> omega
theorem lst_has (ws : List (List UInt8)) (ids : List Int) : ∀ j, 0 < j → ∃ x, x < j ∧ lstK ws ids j = lenAt ws (ids.getD x 0)
  | 0, h => by omega
  | j + 1, h => by
    by_cases hc : j = 0 ∨ lenAt ws (ids.getD j 0) < lstK ws ids j
    · exact ⟨j, by omega, by unfold lstK; rw [if_pos hc]⟩
    · obtain ⟨x, hx, e⟩ := lst_has ws ids j (by omega)
      exact ⟨x, by omega, by rw [lstK, if_neg hc]; exact e⟩
theorem lst_all {us : List (List UInt8)} {c : Nat} {x : Int} (h : x ∈ idsL us c) : lstL us c ≤ (txN us x).length := by
  obtain ⟨j, hj, rfl⟩ := List.getElem_of_mem h
  have := lst_min us (idsL us c) (idsL us c).length j hj
  unfold lstL lstA
  unfold lenAt at this
  unfold txN
  simp only [List.getD_eq_getElem?_getD, List.getElem?_eq_getElem hj, Option.getD_some] at this ⊢
  exact this
theorem lst_some {us : List (List UInt8)} {c : Nat} (h : 0 < (idsL us c).length) : ∃ x ∈ idsL us c, lstL us c = (txN us x).length := by
  obtain ⟨j, hj, e⟩ := lst_has us (idsL us c) _ h
  refine ⟨_, List.getElem_mem hj, ?_⟩
  unfold lstL lstA
  rw [e]
  unfold lenAt txN
  simp only [List.getD_eq_getElem?_getD, List.getElem?_eq_getElem hj, Option.getD_some]

/-- Is one of a bucket's patterns not refuted by a distance? -/
def badX (us : List (List UInt8)) (s : List UInt8) (e d : Nat) (x : Int) : Bool := decide ((txN us x).length ≤ e) && (byN (txN us x) ((txN us x).length - 1 - d) == byN s (e - 1 - d))

theorem can_iff {t s : List UInt8} {e : Nat} : canP t s e = true ↔ byN t (t.length - 1) = byN s (e - 1) ∧ t.length ≤ e := by
  unfold canP; rw [Bool.and_eq_true, beq_iff_eq, decide_eq_true_eq]
theorem dif_iff {t s : List UInt8} {e d : Nat} : difP t s e d = true ↔ d < t.length ∧ ¬ byN t (t.length - 1 - d) = byN s (e - 1 - d) := by
  unfold difP
  rw [Bool.and_eq_true, decide_eq_true_eq, Bool.not_eq_true', beq_eq_false_iff_ne]
theorem ms_iff {us : List (List UInt8)} {s : List UInt8} {e d : Nat} : msB us s e d = true ↔ ∀ t ∈ us, canP t s e = true → difP t s e d = true := by
  unfold msB
  rw [List.all_eq_true]
  refine forall_congr' fun t => forall_congr' fun _ => ?_
  cases canP t s e <;> simp
theorem ms_not {us : List (List UInt8)} {s t : List UInt8} {e d : Nat} (ht : t ∈ us) (hc : canP t s e = true) (hd : difP t s e d = false) : msB us s e d = false := by
  rw [Bool.eq_false_iff]
  intro h
  rw [ms_iff.1 h t ht hc] at hd
  cases hd
theorem bad_ms {us : List (List UInt8)} {s : List UInt8} {e d : Nat} {x : Int} (hx : x ∈ idsL us (byN s (e - 1))) (h : badX us s e d x = true) : msB us s e d = false := by
  obtain ⟨m, rfl, h2, h3, h4, h5⟩ := ids_all hx
  unfold badX at h
  rw [Bool.and_eq_true, decide_eq_true_eq, beq_iff_eq] at h
  refine ms_not h3 (can_iff.2 ⟨h5, h.1⟩) ?_
  rw [Bool.eq_false_iff]
  intro h'
  exact (dif_iff.1 h').2 h.2
theorem all_ms {us : List (List UInt8)} {s : List UInt8} {e d : Nat} (hu : ∀ t ∈ us, 0 < t.length) (hd : d < lstL us (byN s (e - 1))) (h : ∀ x ∈ idsL us (byN s (e - 1)), badX us s e d x = false) : msB us s e d = true := by
  refine ms_iff.2 fun t ht hc => ?_
  obtain ⟨h1, h2⟩ := can_iff.1 hc
  obtain ⟨x, hx, rfl⟩ := ids_of ht (hu t ht)
  rw [h1] at hx
  have hm := lst_all hx
  refine dif_iff.2 ⟨by omega, fun h' => ?_⟩
  have := h x hx
  unfold badX at this
  rw [decide_eq_true h2, h', beq_self_eq_true] at this
  cases this
theorem long_ms {us : List (List UInt8)} {s : List UInt8} {e d : Nat} (h0 : 0 < lstL us (byN s (e - 1))) (he : lstL us (byN s (e - 1)) ≤ e) (hd : lstL us (byN s (e - 1)) ≤ d) : msB us s e d = false := by
  have hn : 0 < (idsL us (byN s (e - 1))).length := by
    rcases Nat.eq_zero_or_pos (idsL us (byN s (e - 1))).length with h | h
    · have e0 : lstL us (byN s (e - 1)) = 0 := by unfold lstL lstA; rw [h]; rfl
      omega
    · exact h
  obtain ⟨x, hx, e1⟩ := lst_some hn
  obtain ⟨m, rfl, h2, h3, h4, h5⟩ := ids_all hx
  refine ms_not h3 (can_iff.2 ⟨h5, by omega⟩) ?_
  rw [Bool.eq_false_iff]
  intro h'
  have := (dif_iff.1 h').1
  omega
theorem room_ms {us : List (List UInt8)} {s : List UInt8} {e : Nat} (hu : ∀ t ∈ us, 0 < t.length) (h : lstL us (byN s (e - 1)) = 0 ∨ e < lstL us (byN s (e - 1))) (d : Nat) : msB us s e d = true := by
  refine ms_iff.2 fun t ht hc => ?_
  obtain ⟨h1, h2⟩ := can_iff.1 hc
  obtain ⟨x, hx, rfl⟩ := ids_of ht (hu t ht)
  rw [h1] at hx
  have hm := lst_all hx
  obtain ⟨y, hy, e1⟩ := lst_some (List.length_pos_of_mem hx)
  obtain ⟨m, rfl, h2', h3', h4', h5'⟩ := ids_all hy
  omega

theorem mis_room {us : List (List UInt8)} {s : List UInt8} {e : Nat} (hu : ∀ t ∈ us, 0 < t.length) (h : lstL us (byN s (e - 1)) = 0 ∨ e < lstL us (byN s (e - 1))) : misN us s e = 1 :=
  misK_hit (by omega) (by omega) (room_ms hu h 1) (fun j h1 h2 => by omega)
theorem mis_here {us : List (List UInt8)} {s : List UInt8} {e d : Nat} (hu : ∀ t ∈ us, 0 < t.length) (h0 : 0 < d) (hd : d < lstL us (byN s (e - 1))) (h1 : msB us s e d = true) (h2 : ∀ j, 0 < j → j < d → msB us s e j = false) : misN us s e = d := by
  refine misK_hit h0 ?_ h1 h2
  have hn : 0 < (idsL us (byN s (e - 1))).length := by
    rcases Nat.eq_zero_or_pos (idsL us (byN s (e - 1))).length with h | h
    · have e0 : lstL us (byN s (e - 1)) = 0 := by unfold lstL lstA; rw [h]; rfl
      omega
    · exact h
  obtain ⟨x, hx, e1⟩ := lst_some hn
  obtain ⟨m, rfl, _, h3, _, _⟩ := ids_all hx
  have := most_mem h3
  omega
theorem mis_nowhere {us : List (List UInt8)} {s : List UInt8} {e : Nat} (h0 : 0 < lstL us (byN s (e - 1))) (he : lstL us (byN s (e - 1)) ≤ e) (h2 : ∀ j, 0 < j → j < lstL us (byN s (e - 1)) → msB us s e j = false) : misN us s e = 0 := by
  refine misK_none fun j hj _ => ?_
  by_cases hl : j < lstL us (byN s (e - 1))
  · exact h2 j hj hl
  · exact long_ms h0 he (by omega)

/-- The patterns that end here are among those with the last byte. -/
theorem st_last {t s : List UInt8} {e : Nat} (h0 : 0 < t.length) (h : stB t s e = true) : byN t (t.length - 1) = byN s (e - 1) := by
  obtain ⟨h1, h2⟩ := st_iff.1 h
  have := suf_at h1 h2 (d := 0) h0
  unfold byN
  rw [Nat.sub_zero, Nat.sub_zero] at this
  rw [this]
theorem hit_ids {us : List (List UInt8)} {s : List UInt8} {e : Nat} (hu : ∀ t ∈ us, 0 < t.length) : ∀ k, k ≤ us.length → idsK us s e k = (bidsK us (byN s (e - 1)) k).filter fun x => stB (txN us x) s e
  | 0, _ => rfl
  | k + 1, hk => by
    obtain ⟨t, ht⟩ : ∃ t, us[k]? = some t := ⟨_, List.getElem?_eq_getElem (by omega)⟩
    have h0 := hu t (List.mem_of_getElem? ht)
    have e1 : txN us (k : Int) = t := by unfold txN; rw [Int.toNat_natCast, getD_of ht]
    have ih := hit_ids (s := s) (e := e) hu k (by omega)
    by_cases he : endsN us (byN s (e - 1)) k = true
    · rw [bids_hit he, List.filter_append, ← ih]
      cases hs : stB t s e with
      | true => rw [ids_hit ht hs]; simp [List.filter, e1, hs]
      | false => rw [ids_miss ht hs]; simp [List.filter, e1, hs]
    · rw [bids_miss he, ← ih]
      have hs : stB t s e = false := by
        rw [Bool.eq_false_iff]
        intro h
        refine he ((ends_of ht).2 ((lastN_at h0).2 ?_))
        have := st_last h0 h
        unfold byN at this
        rw [List.getD_eq_getElem?_getD, List.getElem?_eq_getElem (by omega)] at this
        exact this
      exact ids_miss ht hs
theorem hit_all {us : List (List UInt8)} {s : List UInt8} {e : Nat} (hu : ∀ t ∈ us, 0 < t.length) : idsK us s e us.length = (idsL us (byN s (e - 1))).filter fun x => stB (txN us x) s e := hit_ids hu _ (Nat.le_refl _)

/-- Evidence: kind, N, R, Ids. -/
structure EvR where
  k : Nat
  n : Nat
  r : Nat
  ids : List Int
/-- How far the two bytes clear. -/
def twoN (us : List (List UInt8)) (s : List UInt8) (e : Nat) : Nat := if 2 ≤ e then nearL us (prS s e) else 0
def jmpR (us : List (List UInt8)) (s : List UInt8) (e : Nat) : EvR :=
  if fstL us (byN s (e - 1)) < twoN us s e then ⟨2, twoN us s e, 1, []⟩ else if 0 < fstL us (byN s (e - 1)) then ⟨1, fstL us (byN s (e - 1)), 1, []⟩ else ⟨0, 0, 0, []⟩
def ofR (us : List (List UInt8)) (s : List UInt8) (e : Nat) (skip : Bool) : EvR :=
  if skip = true ∧ 0 < (jmpR us s e).k then jmpR us s e
  else if (idsK us s e us.length).length = 0 ∧ 0 < misN us s e then ⟨3, misN us s e, 1, []⟩ else ⟨4, 0, 0, idsK us s e us.length⟩
/-- How many ends a record covers. -/
def covZ (k n : Int) : Int := if k = 1 ∨ k = 2 then max n 0 else if k = 3 ∨ k = 4 then 1 else 0

theorem two_le (us : List (List UInt8)) (s : List UInt8) (e : Nat) : twoN us s e ≤ farL us := by
  unfold twoN
  split
  · exact near_le _ _
  · omega
theorem jmp_ids (us : List (List UInt8)) (s : List UInt8) (e : Nat) : (jmpR us s e).ids = [] := by
  unfold jmpR; split
  · rfl
  · split <;> rfl
theorem jmp_cases (us : List (List UInt8)) (s : List UInt8) (e : Nat) :
    (fstL us (byN s (e - 1)) < twoN us s e ∧ jmpR us s e = ⟨2, twoN us s e, 1, []⟩) ∨ (¬ fstL us (byN s (e - 1)) < twoN us s e ∧ 0 < fstL us (byN s (e - 1)) ∧ jmpR us s e = ⟨1, fstL us (byN s (e - 1)), 1, []⟩) ∨
      (¬ fstL us (byN s (e - 1)) < twoN us s e ∧ fstL us (byN s (e - 1)) = 0 ∧ jmpR us s e = ⟨0, 0, 0, []⟩) := by
  unfold jmpR
  by_cases h : fstL us (byN s (e - 1)) < twoN us s e
  · rw [if_pos h]; exact .inl ⟨h, rfl⟩
  · rw [if_neg h]
    by_cases h0 : 0 < fstL us (byN s (e - 1))
    · rw [if_pos h0]; exact .inr (.inl ⟨h, h0, rfl⟩)
    · rw [if_neg h0]; exact .inr (.inr ⟨h, by omega, rfl⟩)
theorem of_cases (us : List (List UInt8)) (s : List UInt8) (e : Nat) (skip : Bool) :
    (skip = true ∧ fstL us (byN s (e - 1)) < twoN us s e ∧ ofR us s e skip = ⟨2, twoN us s e, 1, []⟩) ∨ (skip = true ∧ 0 < fstL us (byN s (e - 1)) ∧ ofR us s e skip = ⟨1, fstL us (byN s (e - 1)), 1, []⟩) ∨
      (idsK us s e us.length = [] ∧ 0 < misN us s e ∧ ofR us s e skip = ⟨3, misN us s e, 1, []⟩) ∨ ofR us s e skip = ⟨4, 0, 0, idsK us s e us.length⟩ := by
  by_cases h : skip = true ∧ 0 < (jmpR us s e).k
  · rcases jmp_cases us s e with ⟨h1, h2⟩ | ⟨h1, h2, h3⟩ | ⟨h1, h2, h3⟩
    · exact .inl ⟨h.1, h1, by rw [ofR, if_pos h, h2]⟩
    · exact .inr (.inl ⟨h.1, h2, by rw [ofR, if_pos h, h3]⟩)
    · rw [h3] at h; exact absurd h.2 (Nat.lt_irrefl 0)
  · by_cases h1 : (idsK us s e us.length).length = 0 ∧ 0 < misN us s e
    · exact .inr (.inr (.inl ⟨List.length_eq_zero_iff.1 h1.1, h1.2, by rw [ofR, if_neg h, if_pos h1]⟩))
    · exact .inr (.inr (.inr (by rw [ofR, if_neg h, if_neg h1])))

theorem ids_empty {us : List (List UInt8)} {s : List UInt8} {e : Nat} : ∀ {k : Nat}, (∀ t ∈ us, stB t s e = false) → k ≤ us.length → idsK us s e k = []
  | 0, _, _ => rfl
  | k + 1, h, hk => by
    obtain ⟨t, ht⟩ : ∃ t, us[k]? = some t := ⟨_, List.getElem?_eq_getElem (by omega)⟩
    rw [ids_miss ht (h t (List.mem_of_getElem? ht)), ids_empty h (by omega)]
/-- What evidence covers has no hits but those that it names. -/
theorem of_clears {us : List (List UInt8)} {s : List UInt8} {e : Nat} {skip : Bool} (he : 0 < e) (hs : e ≤ s.length) {i : Nat} (hi : (i : Int) < covZ (ofR us s e skip).k (ofR us s e skip).n) (hE : e + i ≤ s.length) :
    idsK us s (e + i) us.length = (ofR us s e skip).ids := by
  rcases of_cases us s e skip with ⟨_, h, h1⟩ | ⟨_, h, h1⟩ | ⟨h, _, h1⟩ | h1
  · rw [h1] at hi ⊢
    have hi : i < twoN us s e := by simp [covZ] at hi; omega
    refine ids_empty (fun t ht => ?_) (Nat.le_refl _)
    rw [Bool.eq_false_iff]
    intro hq
    obtain ⟨_, h3⟩ := st_iff.1 hq
    unfold twoN at hi
    split at hi
    · exact near_clears ht hE h3 (by omega) (by omega) (by omega)
    · omega
  · rw [h1] at hi ⊢
    have hi : i < fstL us (byN s (e - 1)) := by simp [covZ] at hi; omega
    refine ids_empty (fun t ht => ?_) (Nat.le_refl _)
    rw [Bool.eq_false_iff]
    intro hq
    obtain ⟨_, h3⟩ := st_iff.1 hq
    exact fst_clears ht hE h3 he (by omega) (by omega)
  · rw [h1] at hi ⊢
    have hi : i = 0 := by simp [covZ] at hi; omega
    subst hi
    exact h
  · rw [h1] at hi ⊢
    have hi : i = 0 := by simp [covZ] at hi; omega
    subst hi
    rfl
theorem of_covers (us : List (List UInt8)) (s : List UInt8) (e : Nat) (skip : Bool) : 0 < covZ (ofR us s e skip).k (ofR us s e skip).n := by
  rcases of_cases us s e skip with ⟨_, h, h1⟩ | ⟨_, h, h1⟩ | ⟨h, _, h1⟩ | h1 <;> rw [h1] <;> simp [covZ] <;> omega
end Go.Proofs.Ytjmaccflnfaiiaa

namespace Go.Proofs.Ytjmaccflnfaiiaa

/-- A record as a value: its numbers, its slice. -/
structure Rv where
  k : Int
  n : Int
  r : Int
  a : Option Addr
  len : Nat
  cap : Nat
def Rv.sl (x : Rv) : Value := .slice x.a x.len x.cap
def Rv.val (x : Rv) : Value := .agg #[.int .i64 x.k, .int .i64 x.n, .int .i64 x.r, x.sl]
def Rv.cells (x : Rv) : List Value := [.int .i64 x.k, .int .i64 x.n, .int .i64 x.r, x.sl]
def rv0 : Rv := ⟨0, 0, 0, none, 0, 0⟩

/-- Can two be put together? -/
def twoB (x y : Rv) : Bool := decide (1 ≤ x.k ∧ x.k ≤ 3 ∧ y.k = x.k ∧ y.n = x.n ∧ x.len = 0 ∧ y.len = 0 ∧ 1 ≤ x.r ∧ 1 ≤ y.r ∧ x.r + y.r ≤ 4611686018427387903)
def plusR (x y : Rv) : Rv := ⟨x.k, x.n, x.r + y.r, none, 0, 0⟩
def twoR (x y : Rv) : Rv := if twoB x y = true then plusR x y else rv0
theorem mg2_yes {x y : Rv} (h : twoB x y = true) : 1 ≤ x.k ∧ x.k ≤ 3 ∧ y.k = x.k ∧ y.n = x.n ∧ x.len = 0 ∧ y.len = 0 ∧ 1 ≤ x.r ∧ 1 ≤ y.r ∧ x.r + y.r ≤ 4611686018427387903 := of_decide_eq_true h
theorem mg2_mk {x y : Rv} (h : 1 ≤ x.k ∧ x.k ≤ 3 ∧ y.k = x.k ∧ y.n = x.n ∧ x.len = 0 ∧ y.len = 0 ∧ 1 ≤ x.r ∧ 1 ≤ y.r ∧ x.r + y.r ≤ 4611686018427387903) : twoB x y = true := decide_eq_true h
theorem mg2_no {x y : Rv} (h : ¬ (1 ≤ x.k ∧ x.k ≤ 3 ∧ y.k = x.k ∧ y.n = x.n ∧ x.len = 0 ∧ y.len = 0 ∧ 1 ≤ x.r ∧ 1 ≤ y.r ∧ x.r + y.r ≤ 4611686018427387903)) : twoB x y = false := decide_eq_false h
theorem mgr_yes {x y : Rv} (h : twoB x y = true) : twoR x y = plusR x y := if_pos h
theorem mgr_no {x y : Rv} (h : twoB x y = false) : twoR x y = rv0 := if_neg (by rw [h]; decide)
theorem mgr_none {x y : Rv} : (twoR x y).len = 0 := by
  unfold twoR; split <;> rfl
theorem mg2_zero (y : Rv) : twoB rv0 y = false := mg2_no (by simp [rv0])

/-- Alike, but for where the numbers lie. -/
def Alike (x y : Rv) : Prop := y.k = x.k ∧ y.n = x.n ∧ y.r = x.r ∧ y.len = x.len
theorem Alike.refl (x : Rv) : Alike x x := ⟨rfl, rfl, rfl, rfl⟩
theorem Alike.two {x y u v : Rv} (h : Alike x y) (h2 : Alike u v) : twoB y v = twoB x u := by
  obtain ⟨a, b, c, d⟩ := h
  obtain ⟨a', b', c', d'⟩ := h2
  unfold twoB
  rw [a, b, c, d, a', b', c', d']
theorem Alike.plus {x y : Rv} (h : Alike x y) (u : Rv) : plusR y u = plusR x u := by
  obtain ⟨a, b, c, d⟩ := h
  unfold plusR
  rw [a, b, c]

/-- One more record. -/
def mgStep (out : List Rv) (x : Rv) : List Rv :=
  match out.getLast? with
  | none => [x]
  | some y => if twoB y x = true then out.dropLast ++ [plusR y x] else out ++ [x]
theorem mgs_nil (x : Rv) : mgStep [] x = [x] := rfl
theorem mgs_hit {o : List Rv} {y x : Rv} (h : twoB y x = true) : mgStep (o ++ [y]) x = o ++ [plusR y x] := by simp [mgStep, h]
theorem mgs_miss {o : List Rv} {y x : Rv} (h : twoB y x = false) : mgStep (o ++ [y]) x = o ++ [y] ++ [x] := by simp [mgStep, h]
/-- Records, like ones put together. -/
def mgAll (l : List Rv) : List Rv := l.foldl mgStep []
theorem mga_nil : mgAll [] = [] := rfl
theorem mga_snoc (l : List Rv) (x : Rv) : mgAll (l ++ [x]) = mgStep (mgAll l) x := by simp [mgAll]
theorem mg_cases {α : Type} (l : List α) : l = [] ∨ ∃ o y, l = o ++ [y] := by
  rcases l.eq_nil_or_concat with h | ⟨o, y, h⟩
  · exact .inl h
  · exact .inr ⟨o, y, by rw [h]; try simp⟩
theorem mg_ind {α : Type} {P : List α → Prop} (h0 : P []) (h1 : ∀ l x, P l → P (l ++ [x])) (l : List α) : P l := by
  suffices h : ∀ n (l : List α), l.length = n → P l from h _ l rfl
  intro n
  induction n with
  | zero => intro l hl; rw [List.eq_nil_of_length_eq_zero hl]; exact h0
  | succ n ih =>
    intro l hl
    rcases mg_cases l with rfl | ⟨o, y, rfl⟩
    · simp at hl
    · exact h1 _ _ (ih o (by simp at hl; exact hl))
theorem mgs_cases (out : List Rv) (x : Rv) : (out = [] ∧ mgStep out x = [x]) ∨ (∃ o y, out = o ++ [y] ∧ twoB y x = true ∧ mgStep out x = o ++ [plusR y x]) ∨ (∃ o y, out = o ++ [y] ∧ twoB y x = false ∧ mgStep out x = o ++ [y] ++ [x]) := by
  rcases mg_cases out with rfl | ⟨o, y, rfl⟩
  · exact .inl ⟨rfl, rfl⟩
  · cases h : twoB y x with
    | true => exact .inr (.inl ⟨o, y, rfl, h, mgs_hit h⟩)
    | false => exact .inr (.inr ⟨o, y, rfl, h, mgs_miss h⟩)
theorem mgs_len (out : List Rv) (x : Rv) : (mgStep out x).length ≤ out.length + 1 ∧ 0 < (mgStep out x).length := by
  rcases mgs_cases out x with ⟨rfl, h⟩ | ⟨o, y, rfl, _, h⟩ | ⟨o, y, rfl, _, h⟩ <;> rw [h] <;> simp
theorem mga_len (l : List Rv) : (mgAll l).length ≤ l.length := by
  refine mg_ind (P := fun l => (mgAll l).length ≤ l.length) (Nat.le_refl _) (fun l x ih => ?_) l
  rw [mga_snoc, List.length_append]
  have := (mgs_len (mgAll l) x).1
  simp
  omega
theorem mga_pos (l : List Rv) (x : Rv) : ∃ o y, mgAll (l ++ [x]) = o ++ [y] := by
  rcases mg_cases (mgAll (l ++ [x])) with h | h
  · have := (mgs_len (mgAll l) x).2
    rw [← mga_snoc, h] at this
    simp at this
  · exact h
/-- What is told is of what came, or has no numbers. -/
theorem mga_from (l : List Rv) : ∀ y ∈ mgAll l, y ∈ l ∨ y.len = 0 := by
  refine mg_ind (P := fun l => ∀ y ∈ mgAll l, y ∈ l ∨ y.len = 0) (fun y h => by cases h) (fun l x ih => ?_) l
  intro z hz
  rw [mga_snoc] at hz
  have up : ∀ {y}, y ∈ mgAll l → y ∈ l ++ [x] ∨ y.len = 0 := fun {y} h => (ih y h).elim (fun h => .inl (List.mem_append_left _ h)) .inr
  rcases mgs_cases (mgAll l) x with ⟨_, h⟩ | ⟨o, y, e, _, h⟩ | ⟨o, y, e, _, h⟩ <;> rw [h] at hz
  · rw [List.mem_singleton] at hz
    subst hz
    exact .inl (by simp)
  · rcases List.mem_append.1 hz with hz | hz
    · exact up (by rw [e]; exact List.mem_append_left _ hz)
    · rw [List.mem_singleton] at hz
      subst hz
      exact .inr rfl
  · rcases List.mem_append.1 hz with hz | hz
    · exact up (by rw [e]; exact hz)
    · rw [List.mem_singleton] at hz
      subst hz
      exact .inl (by simp)

/-- Nothing is left to be put together. -/
def CanonL (l : List Rv) : Prop := ∀ (i : Nat) (x y : Rv), l[i]? = some x → l[i + 1]? = some y → twoB x y = false
noncomputable def canonB (l : List Rv) : Bool := @decide (CanonL l) (Classical.propDecidable _)
theorem mgc_hit {l : List Rv} {i : Nat} {x y : Rv} (hx : l[i]? = some x) (hy : l[i + 1]? = some y) (h : twoB x y = true) : canonB l = false := by
  unfold canonB
  exact @decide_eq_false _ (Classical.propDecidable _) fun hc => by rw [hc i x y hx hy] at h; cases h
theorem mgc_mk {l : List Rv} (h : CanonL l) : canonB l = true := by
  unfold canonB
  exact @decide_eq_true _ (Classical.propDecidable _) h
theorem CanonL.snoc {o : List Rv} {y : Rv} (h : CanonL o) (hl : ∀ z, o.getLast? = some z → twoB z y = false) : CanonL (o ++ [y]) := by
  intro i u v hu hv
  rcases Nat.lt_or_ge (i + 1) o.length with hi | hi
  · rw [List.getElem?_append_left (by omega)] at hu
    rw [List.getElem?_append_left hi] at hv
    exact h i u v hu hv
  · rw [List.getElem?_append_right hi] at hv
    have h0 : i + 1 - o.length = 0 := by
      rcases Nat.eq_zero_or_pos (i + 1 - o.length) with h | h
      · exact h
      · rw [List.getElem?_eq_none (by simp; omega)] at hv; cases hv
    rw [h0] at hv
    simp at hv
    subst hv
    rw [List.getElem?_append_left (by omega)] at hu
    refine hl u ?_
    rw [List.getLast?_eq_getElem?, show o.length - 1 = i by omega]
    exact hu
theorem CanonL.front {o m : List Rv} (h : CanonL (o ++ m)) : CanonL o := by
  intro i u v hu hv
  have hi : i + 1 < o.length := by
    rcases Nat.lt_or_ge (i + 1) o.length with h | h
    · exact h
    · rw [List.getElem?_eq_none h] at hv; cases hv
  exact h i u v (by rw [List.getElem?_append_left (by omega)]; exact hu) (by rw [List.getElem?_append_left hi]; exact hv)
theorem CanonL.last {o : List Rv} {y : Rv} (h : CanonL (o ++ [y])) {z : Rv} (hz : o.getLast? = some z) : twoB z y = false := by
  rw [List.getLast?_eq_getElem?] at hz
  have hi : o.length - 1 < o.length := by
    rcases Nat.lt_or_ge (o.length - 1) o.length with h | h
    · exact h
    · rw [List.getElem?_eq_none h] at hz; cases hz
  refine h (o.length - 1) z y (by rw [List.getElem?_append_left hi]; exact hz) ?_
  rw [show o.length - 1 + 1 = o.length by omega, List.getElem?_append_right (Nat.le_refl _)]
  simp
/-- Where nothing is left, the same is told. -/
theorem mgc_all (l : List Rv) : CanonL l → mgAll l = l := by
  refine mg_ind (P := fun l => CanonL l → mgAll l = l) (fun _ => rfl) (fun l x ih h => ?_) l
  have e := ih h.front
  rw [mga_snoc, e]
  rcases mg_cases l with rfl | ⟨o, y, rfl⟩
  · rfl
  · exact mgs_miss (h.last (z := y) (by simp))

/-- What was told has nothing left, where the R's are small. -/
theorem mga_canon (l : List Rv) : (∀ x ∈ l, 0 ≤ x.r ∧ x.r < 1125899906842624) → l.length ≤ 1000 → CanonL (mgAll l) ∧ ∀ y ∈ mgAll l, 0 ≤ y.r ∧ y.r ≤ 1125899906842624 * (l.length : Int) := by
  refine mg_ind (P := fun l => (∀ x ∈ l, 0 ≤ x.r ∧ x.r < 1125899906842624) → l.length ≤ 1000 → CanonL (mgAll l) ∧ ∀ y ∈ mgAll l, 0 ≤ y.r ∧ y.r ≤ 1125899906842624 * (l.length : Int)) (fun _ _ => ⟨fun i x y h => by simp [mga_nil] at h, fun y h => by cases h⟩) (fun l x ih hr hl => ?_) l
  have hlen : (l ++ [x]).length = l.length + 1 := by simp
  rw [hlen] at hl ⊢
  obtain ⟨hc, hb⟩ := ih (fun y hy => hr y (List.mem_append_left _ hy)) (by omega)
  have hx := hr x (by simp)
  rw [mga_snoc]
  rcases mgs_cases (mgAll l) x with ⟨e, h⟩ | ⟨o, y, e, ht, h⟩ | ⟨o, y, e, ht, h⟩ <;> rw [h]
  · refine ⟨fun i u v hu hv => ?_, fun z hz => ?_⟩
    · rw [List.getElem?_eq_none (by simp)] at hv; cases hv
    · rw [List.mem_singleton] at hz
      subst hz
      omega
  · rw [e] at hc hb
    have hy := hb y (by simp)
    refine ⟨hc.front.snoc fun z hz => ?_, fun z hz => ?_⟩
    · have hzy := hc.last hz
      have hzo := hb z (List.mem_append_left _ (List.mem_of_getLast? hz))
      have t := mg2_yes ht
      refine mg2_no fun q => ?_
      obtain ⟨q1, q2, q3, q4, q5, q6, q7, q8, q9⟩ := q
      simp only [plusR] at q3 q4 q9
      rw [mg2_mk ⟨q1, q2, q3, q4, q5, t.2.2.2.2.1, q7, t.2.2.2.2.2.2.1, by omega⟩] at hzy
      cases hzy
    · rcases List.mem_append.1 hz with hz | hz
      · have := hb z (List.mem_append_left _ hz); omega
      · rw [List.mem_singleton] at hz
        subst hz
        simp only [plusR]
        omega
  · rw [e] at hc hb
    refine ⟨hc.snoc fun z hz => ?_, fun z hz => ?_⟩
    · simp at hz
      subst hz
      exact ht
    · rcases List.mem_append.1 hz with hz | hz
      · have := hb z hz; omega
      · rw [List.mem_singleton] at hz
        subst hz
        omega

/-- How many ends a record covers, and why none is told. -/
def mgE (x : Rv) : Int := if 1 ≤ x.k ∧ x.k ≤ 3 then mulE (covZ x.k x.n) x.r else 0
def mgV (x : Rv) : Int := if 1 ≤ x.k ∧ x.k ≤ 3 then mulV (covZ x.k x.n) x.r else covZ x.k x.n
/-- The last end that records cover: a number, an error. -/
def mgP : Int → List Rv → Int × Int
  | at', [] => (at', 0)
  | at', x :: l => if mgE x ≠ 0 then (0, mgE x) else if addE at' (mgV x) ≠ 0 then (0, addE at' (mgV x)) else mgP (addV at' (mgV x)) l
def mgF (at' : Int) (l : List Rv) : Int × Int := if ofs at' = true then mgP at' l else (0, 2)
theorem mgf_app : ∀ (l m : List Rv) (at' : Int), mgP at' (l ++ m) = if (mgP at' l).2 = 0 then mgP (mgP at' l).1 m else mgP at' l
  | [], m, at' => by simp [mgP]
  | x :: l, m, at' => by
    simp only [List.cons_append, mgP]
    by_cases h1 : mgE x = 0
    · by_cases h2 : addE at' (mgV x) = 0
      · simp only [h1, h2, ne_eq, not_true_eq_false, if_false]
        exact mgf_app l m _
      · simp [h1, h2]
    · simp [h1]
theorem mgf_one (at' : Int) (x : Rv) : mgP at' [x] = if mgE x ≠ 0 then (0, mgE x) else if addE at' (mgV x) ≠ 0 then (0, addE at' (mgV x)) else (addV at' (mgV x), 0) := by
  simp [mgP]
theorem mgf_one_ok {at' v : Int} {x : Rv} (h : mgP at' [x] = (v, 0)) : mgE x = 0 ∧ addE at' (mgV x) = 0 ∧ v = at' + mgV x ∧ 0 ≤ mgV x ∧ 0 ≤ at' ∧ v ≤ 4611686018427387903 := by
  rw [mgf_one] at h
  by_cases h1 : mgE x = 0
  · by_cases h2 : addE at' (mgV x) = 0
    · simp only [h1, h2, ne_eq, not_true_eq_false, if_false, Prod.mk.injEq] at h
      have hv : addV at' (mgV x) = at' + mgV x := by unfold addV; rw [if_pos h2]
      have ho : (ofs at' && ofs (mgV x)) = true := by
        cases ho : (ofs at' && ofs (mgV x)) with
        | true => rfl
        | false => rw [(add_arg ho).1] at h2; cases h2
      obtain ⟨a0, a1⟩ := ofs_true (both ho).1
      obtain ⟨b0, b1⟩ := ofs_true (both ho).2
      refine ⟨h1, h2, by rw [← h.1, hv], b0, a0, ?_⟩
      rcases Int.lt_or_le 4611686018427387903 (at' + mgV x) with hlt | hle
      · rw [(add_over ho hlt).1] at h2; cases h2
      · rw [← h.1, hv]; exact hle
    · simp [h1, h2] at h
  · simp [h1] at h
theorem mgf_one_mk {at' : Int} {x : Rv} (h1 : mgE x = 0) (h0 : 0 ≤ at') (hc : 0 ≤ mgV x) (hm : at' + mgV x ≤ 4611686018427387903) : mgP at' [x] = (at' + mgV x, 0) := by
  have ho : (ofs at' && ofs (mgV x)) = true := by rw [ofs_mk h0 (by omega), ofs_mk hc (by omega)]; rfl
  obtain ⟨e1, e2⟩ := add_good ho hm
  rw [mgf_one, e1, e2]
  simp [h1]
theorem mgcov_ok {x : Rv} (hk : 1 ≤ x.k ∧ x.k ≤ 3) (h : mgE x = 0) : ofs (covZ x.k x.n) = true ∧ mgV x = covZ x.k x.n * x.r ∧ covZ x.k x.n * x.r ≤ 4611686018427387903 := by
  have e : mgE x = mulE (covZ x.k x.n) x.r := if_pos hk
  have e2 : mgV x = mulV (covZ x.k x.n) x.r := if_pos hk
  rw [e] at h
  have ho : (ofs (covZ x.k x.n) && ofs x.r) = true := by
    cases ho : (ofs (covZ x.k x.n) && ofs x.r) with
    | true => rfl
    | false => rw [(mul_arg ho).1] at h; cases h
  have hv : mgV x = covZ x.k x.n * x.r := by rw [e2]; unfold mulV; rw [if_pos h]
  refine ⟨(both ho).1, hv, ?_⟩
  rcases Int.lt_or_le 4611686018427387903 (covZ x.k x.n * x.r) with hlt | hle
  · rw [(mul_over ho hlt).1] at h; cases h
  · exact hle
/-- Two as one cover as many. -/
theorem mgf_two {u v z : Int} {y x : Rv} (ht : twoB y x = true) (h1 : mgP u [y] = (v, 0)) (h2 : mgP v [x] = (z, 0)) : mgP u [plusR y x] = (z, 0) := by
  obtain ⟨t1, t2, t3, t4, _, _, t7, t8, t9⟩ := mg2_yes ht
  obtain ⟨c1, _, e1, p1, u0, m1⟩ := mgf_one_ok h1
  obtain ⟨c2, _, e2, p2, _, m2⟩ := mgf_one_ok h2
  obtain ⟨o1, w1, _⟩ := mgcov_ok ⟨t1, t2⟩ c1
  obtain ⟨o2, w2, _⟩ := mgcov_ok (x := x) (by rw [t3]; exact ⟨t1, t2⟩) c2
  rw [t3, t4] at w2
  have hd : covZ y.k y.n * (y.r + x.r) = mgV y + mgV x := by rw [Int.mul_add, w1, w2]
  have hle : covZ y.k y.n * (y.r + x.r) ≤ 4611686018427387903 := by omega
  have hog : (ofs (covZ y.k y.n) && ofs (y.r + x.r)) = true := by rw [o1, ofs_mk (by omega) (by omega)]; rfl
  obtain ⟨g1, g2⟩ := mul_good hog hle
  have ce : mgE (plusR y x) = 0 := by
    have : mgE (plusR y x) = mulE (covZ y.k y.n) (y.r + x.r) := if_pos ⟨t1, t2⟩
    rw [this, g1]
  have cv : mgV (plusR y x) = mgV y + mgV x := by
    have : mgV (plusR y x) = mulV (covZ y.k y.n) (y.r + x.r) := if_pos ⟨t1, t2⟩
    rw [this, g2, hd]
  have := mgf_one_mk (at' := u) (x := plusR y x) ce u0 (by omega) (by omega)
  rw [this, cv]
  congr 1
  omega
theorem mgf_snoc {at' : Int} {l : List Rv} {x : Rv} {z : Int} (h : mgP at' (l ++ [x]) = (z, 0)) : ∃ v, mgP at' l = (v, 0) ∧ mgP v [x] = (z, 0) := by
  rw [mgf_app] at h
  by_cases h2 : (mgP at' l).2 = 0
  · rw [if_pos h2] at h
    refine ⟨(mgP at' l).1, ?_, h⟩
    rw [← h2]
  · rw [if_neg h2] at h
    rw [h] at h2
    simp at h2
theorem mgf_join {at' v z : Int} {l : List Rv} {x : Rv} (h1 : mgP at' l = (v, 0)) (h2 : mgP v [x] = (z, 0)) : mgP at' (l ++ [x]) = (z, 0) := by
  rw [mgf_app, h1]
  simpa using h2
/-- What was put together covers as many. -/
theorem mgf_all (at' : Int) (l : List Rv) : ∀ z, mgP at' l = (z, 0) → mgP at' (mgAll l) = (z, 0) := by
  refine mg_ind (P := fun l => ∀ z, mgP at' l = (z, 0) → mgP at' (mgAll l) = (z, 0)) (fun z h => h) (fun l x ih z h => ?_) l
  obtain ⟨v, hv, hx⟩ := mgf_snoc h
  have hl := ih v hv
  rw [mga_snoc]
  rcases mgs_cases (mgAll l) x with ⟨e, h⟩ | ⟨o, y, e, ht, h⟩ | ⟨o, y, e, ht, h⟩ <;> rw [h]
  · rw [e] at hl
    exact mgf_join hl hx
  · rw [e] at hl
    obtain ⟨u, hu, hy⟩ := mgf_snoc hl
    exact mgf_join hu (mgf_two ht hy hx)
  · rw [e] at hl
    exact mgf_join hl hx
theorem Alike.cov {x y : Rv} (h : Alike x y) : mgE y = mgE x ∧ mgV y = mgV x := by
  obtain ⟨a, b, c, d⟩ := h
  unfold mgE mgV
  rw [a, b, c]
  exact ⟨rfl, rfl⟩

/-- Lists alike, one by one, by any relation. -/
def Pair2 (R : Rv → Rv → Prop) (l m : List Rv) : Prop := l.length = m.length ∧ ∀ (i : Nat) (x y : Rv), l[i]? = some x → m[i]? = some y → R x y
theorem Pair2.nil {R : Rv → Rv → Prop} : Pair2 R [] [] := ⟨rfl, fun i x y h => by simp at h⟩
theorem Pair2.snoc {R : Rv → Rv → Prop} {l m : List Rv} {x y : Rv} (h : Pair2 R l m) (hr : R x y) : Pair2 R (l ++ [x]) (m ++ [y]) := by
  refine ⟨by simp [h.1], fun i u v hu hv => ?_⟩
  rcases Nat.lt_or_ge i l.length with hi | hi
  · rw [List.getElem?_append_left hi] at hu
    rw [List.getElem?_append_left (by rw [← h.1]; exact hi)] at hv
    exact h.2 i u v hu hv
  · rw [List.getElem?_append_right hi] at hu
    rw [List.getElem?_append_right (by rw [← h.1]; exact hi), ← h.1] at hv
    rcases Nat.eq_zero_or_pos (i - l.length) with h0 | h0
    · rw [h0] at hu hv
      simp at hu hv
      subst hu hv
      exact hr
    · rw [List.getElem?_eq_none (by simp; omega)] at hu; cases hu
theorem Pair2.mono {R S : Rv → Rv → Prop} {l m : List Rv} (h : Pair2 R l m) (hs : ∀ x y, R x y → S x y) : Pair2 S l m := ⟨h.1, fun i x y hx hy => hs x y (h.2 i x y hx hy)⟩
theorem Pair2.cons {R : Rv → Rv → Prop} {l m : List Rv} {x y : Rv} (h : Pair2 R (x :: l) (y :: m)) : R x y ∧ Pair2 R l m :=
  ⟨h.2 0 x y rfl rfl, by have := h.1; simp at this; exact this, fun i u v hu hv => h.2 (i + 1) u v (by simpa using hu) (by simpa using hv)⟩
theorem Pair2.far : ∀ {l m : List Rv}, Pair2 Alike l m → ∀ at', mgP at' m = mgP at' l
  | [], [], _, _ => rfl
  | [], _ :: _, h, _ => by have := h.1; simp at this
  | _ :: _, [], h, _ => by have := h.1; simp at this
  | x :: l, y :: m, h, at' => by
    obtain ⟨hxy, hlm⟩ := h.cons
    obtain ⟨e1, e2⟩ := hxy.cov
    simp only [mgP]
    rw [e1, e2, Pair2.far hlm]
theorem Pair2.mgF {l m : List Rv} (h : Pair2 Alike l m) (at' : Int) : mgF at' m = Go.Proofs.Ytjmaccflnfaiiaa.mgF at' l := by
  unfold Go.Proofs.Ytjmaccflnfaiiaa.mgF
  rw [h.far]
theorem Pair2.canon {l m : List Rv} (h : Pair2 Alike l m) (hc : CanonL l) : CanonL m := by
  intro i x y hx hy
  have hl := h.1
  have hi : i < m.length := by
    rcases Nat.lt_or_ge i m.length with h | h
    · exact h
    · rw [List.getElem?_eq_none h] at hx; cases hx
  have hi2 : i + 1 < m.length := by
    rcases Nat.lt_or_ge (i + 1) m.length with h | h
    · exact h
    · rw [List.getElem?_eq_none h] at hy; cases hy
  obtain ⟨u, hu⟩ : ∃ u, l[i]? = some u := ⟨_, List.getElem?_eq_getElem (by omega)⟩
  obtain ⟨v, hv⟩ : ∃ v, l[i + 1]? = some v := ⟨_, List.getElem?_eq_getElem (by omega)⟩
  rw [(h.2 i u x hu hx).two (h.2 (i + 1) v y hv hy)]
  exact hc i u v hu hv
end Go.Proofs.Ytjmaccflnfaiiaa

namespace Go.Proofs.Ytjmaccflnfaiiaa

/-- What stands behind a number. -/
def psv (s : List UInt8) : List UInt8 := s.drop (tS s).toNat
theorem psv_le (s : List UInt8) : (psv s).length ≤ s.length := by unfold psv; rw [List.length_drop]; omega
theorem psv_put (n : Int) (h0 : 0 ≤ n) (h1 : n ≤ 9223372036854775807) (s : List UInt8) : psv (vput n ++ s) = s := by
  unfold psv
  rw [(take_put n h0 h1 s).2.1, Int.toNat_natCast, List.drop_left]
theorem put_psv {s : List UInt8} (h : tE s = 0) : vput (tN s) ++ psv s = s := by
  unfold psv
  rw [(put_take s h).2.2, List.take_append_drop]
theorem vcut (n : Int) (h0 : 0 ≤ n) (h1 : n ≤ 9223372036854775807) (j : Nat) (hj : j < (vput n).length) : tE ((vput n).take j) = 4 := by
  have hlen := vput_length n h1
  unfold vput at hj hlen ⊢
  rw [if_neg (by omega)] at hj hlen ⊢
  obtain ⟨p, c, e, ⟨hp, hc, hz⟩, hv⟩ := put_form n.toNat
  rw [e] at hj hlen ⊢
  rw [List.length_append, List.length_singleton] at hj hlen
  have e2 : (p ++ [c]).take j = p.take j := List.take_append_of_le_length (by omega)
  have hl : (p.take j).length = j := by rw [List.length_take]; omega
  have hge : j ≤ hi (p.take j) := hi_ge _ _ (by omega) (fun i hi _ => by
    rw [List.getElem_take]
    exact hp _ (List.getElem_mem _))
  have hle := hi_le (p.take j)
  rw [e2]
  exact (t_short (p.take j) (by omega) (by omega)).1
/-- Of a number's bytes and others, cut off: cut in the number, or behind it. -/
theorem vcut_app (n : Int) (h0 : 0 ≤ n) (h1 : n ≤ 9223372036854775807) (l : List UInt8) (c : Nat) : (c < (vput n).length ∧ tE ((vput n ++ l).take c) = 4) ∨ (∃ d, c = (vput n).length + d ∧ (vput n ++ l).take c = vput n ++ l.take d) := by
  by_cases h : c < (vput n).length
  · exact .inl ⟨h, by rw [List.take_append_of_le_length (by omega)]; exact vcut n h0 h1 c h⟩
  · refine .inr ⟨c - (vput n).length, by omega, ?_⟩
    rw [List.take_append, List.take_of_length_le (l := vput n) (by omega)]
end Go.Proofs.Ytjmaccflnfaiiaa
