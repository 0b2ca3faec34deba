/-
  Texts put together: PbM, Str, IntsB, Ints, PtRl, ShRf, PrR, PtRm, OcSt, OcRat, PtIs, PtLa, PtIp.
-/
import Derived.Test.YtngmjpfknehdkaaBn1
import Derived.Test.YtngmjpfknehdkaaBn2
import Derived.Test.YtngmjpfknehdkaaRows
import Derived.Below
import Derived.Laws.AppendOwn
import Derived.WalkKit
import Derived.WalkSpells
import Derived.WalkLawsBesides
import Derived.Lib.Hide
import Derived.Lib.Strings
import Derived.Deep.QuietTactic
import Derived.BigQuiet
import Derived.Laws.CopyOwn
set_option linter.unusedSimpArgs false
set_option linter.unusedVariables false
namespace Go.Proofs.Ytngmjpfknehdkaa

/-- Might a pattern end at this end, by its last byte and its length? -/
def canP (t s : List UInt8) (e : Nat) : Bool := (byN t (t.length - 1) == byN s (e - 1)) && decide (t.length ≤ e)
/-- Has it another byte at a distance? -/
def difP (t s : List UInt8) (e d : Nat) : Bool := decide (d < t.length) && !(byN t (t.length - 1 - d) == byN s (e - 1 - d))
/-- Does a distance refute all patterns? -/
def msB (us : List (List UInt8)) (s : List UInt8) (e d : Nat) : Bool := us.all fun t => !canP t s e || difP t s e d
/-- The least distance that does, below a bound; 0: none. -/
def misK (p : Nat → Bool) (n : Nat) : Nat := if mn (fun j => p (j + 1)) (n - 1) < n - 1 then mn (fun j => p (j + 1)) (n - 1) + 1 else 0
def misN (us : List (List UInt8)) (s : List UInt8) (e : Nat) : Nat := misK (msB us s e) (max (mostL us) 2)

theorem misK_hit {p : Nat → Bool} {n d : Nat} (h1 : 0 < d) (h2 : d < n) (h3 : p d = true) (h4 : ∀ j, 0 < j → j < d → p j = false) : misK p n = d := by
  have h : mn (fun j => p (j + 1)) (n - 1) = d - 1 :=
    mn_is (by omega) (fun j hj => h4 (j + 1) (by omega) (by omega)) (fun _ => by show p (d - 1 + 1) = true; rw [show d - 1 + 1 = d by omega]; exact h3)
  unfold misK
  rw [h, if_pos (by omega)]
  omega
theorem misK_none {p : Nat → Bool} {n : Nat} (h : ∀ j, 0 < j → j < n → p j = false) : misK p n = 0 := by
  have h : mn (fun j => p (j + 1)) (n - 1) = n - 1 := mn_none fun j hj => h (j + 1) (by omega) (by omega)
  unfold misK
  rw [h, if_neg (by omega)]
theorem misK_lt (p : Nat → Bool) (n : Nat) (hn : 0 < n) : misK p n < n := by
  unfold misK
  split <;> omega
theorem misK_says (p : Nat → Bool) (n : Nat) (h : 0 < misK p n) : p (misK p n) = true := by
  unfold misK at h ⊢
  split
  · rename_i h1
    exact (mn_spec (fun j => p (j + 1)) (n - 1)).2.2 h1
  · rename_i h1; rw [if_neg h1] at h; omega

theorem most_mem {ws : List (List UInt8)} {t : List UInt8} (h : t ∈ ws) : t.length ≤ mostL ws := by
  have up : ∀ (ws : List (List UInt8)) (n : Nat), n ≤ ws.foldl (fun n t => max n t.length) n := by
    intro ws
    induction ws with
    | nil => intro n; exact Nat.le_refl _
    | cons x l ih => intro n; exact Nat.le_trans (Nat.le_max_left _ _) (ih _)
  have go : ∀ (ws : List (List UInt8)) (n : Nat), t ∈ ws → t.length ≤ ws.foldl (fun n t => max n t.length) n := by
    intro ws
    induction ws with
    | nil => intro n h; cases h
    | cons x l ih =>
      intro n h
      rcases List.mem_cons.1 h with rfl | h
      · exact Nat.le_trans (Nat.le_max_right _ _) (up l _)
      · exact ih _ h
  exact go ws 0 h

/-- The last bytes up to an end. -/
def IsTail (us : List (List UInt8)) (s : List UInt8) (e : Nat) (t : List UInt8) : Prop :=
  0 < e ∧ e ≤ s.length ∧ t <:+ s.take e ∧ t.length ≤ e ∧ (t.length = e ∨ max (mostL us) 2 ≤ t.length)
theorem IsTail.some {us : List (List UInt8)} {s t : List UInt8} {e : Nat} (h : IsTail us s e t) : 0 < t.length := by
  obtain ⟨h1, _, _, _, h5⟩ := h
  omega
theorem IsTail.byte {us : List (List UInt8)} {s t : List UInt8} {e d : Nat} (h : IsTail us s e t) (hd : d < t.length) : byN t (t.length - 1 - d) = byN s (e - 1 - d) := by
  unfold byN
  rw [suf_at h.2.1 h.2.2.1 hd]
theorem IsTail.whole {us : List (List UInt8)} {s : List UInt8} {e : Nat} (h1 : 0 < e) (h2 : e ≤ s.length) : IsTail us s e (s.take e) :=
  ⟨h1, h2, List.suffix_refl _, by rw [List.length_take]; omega, .inl (by rw [List.length_take]; omega)⟩
theorem IsTail.drop {us : List (List UInt8)} {s : List UInt8} {e n : Nat} (h1 : 0 < e) (h2 : e ≤ s.length) (h3 : n = e ∨ max (mostL us) 2 ≤ n) (h4 : n ≤ e) : IsTail us s e ((s.take e).drop (e - n)) := by
  have hl : ((s.take e).drop (e - n)).length = n := by rw [List.length_drop, List.length_take]; omega
  refine ⟨h1, h2, List.drop_suffix _ _, by omega, ?_⟩
  rw [hl]
  exact h3
theorem IsTail.pair {us : List (List UInt8)} {s t : List UInt8} {e : Nat} (h : IsTail us s e t) (he : 2 ≤ e) : 2 ≤ t.length ∧ prS t t.length = prS s e := by
  have h5 := h.2.2.2.2
  have hl : 2 ≤ t.length := by omega
  refine ⟨hl, ?_⟩
  unfold prS
  have a := h.byte (d := 1) (by omega)
  have b := h.byte (d := 0) (by omega)
  rw [show t.length - 2 = t.length - 1 - 1 by omega, a, show e - 2 = e - 1 - 1 by omega]
  rw [Nat.sub_zero, Nat.sub_zero] at b
  rw [b]
/-- A pattern ends at the end if the last bytes end with it. -/
theorem IsTail.ends {us : List (List UInt8)} {s t q : List UInt8} {e : Nat} (h : IsTail us s e t) (hq : q ∈ us) : decide (q <:+ t) = stB q s e := by
  obtain ⟨h1, h2, h3, h4, h5⟩ := h
  rw [Bool.eq_iff_iff, st_iff, decide_eq_true_eq]
  constructor
  · intro h; exact ⟨h2, h.trans h3⟩
  · rintro ⟨_, h⟩
    refine List.suffix_of_suffix_length_le h h3 ?_
    have a := most_mem hq
    have b := h.length_le
    rw [List.length_take] at b
    omega

theorem bids_in {ws : List (List UInt8)} {c m : Nat} (h : endsN ws c m = true) : ∀ {k : Nat}, m < k → (m : Int) ∈ bidsK ws c k
  | 0, hk => by omega
  | k + 1, hk => by
    by_cases he : endsN ws c k = true
    · rw [bids_hit he, List.mem_append]
      by_cases hm : m = k
      · subst hm; exact .inr (List.mem_singleton.2 rfl)
      · exact .inl (bids_in h (by omega))
    · rw [bids_miss he]
      have : m ≠ k := fun e => he (e ▸ h)
      exact bids_in h (by omega)

/-- One of the texts, by its number. -/
def txN (us : List (List UInt8)) (x : Int) : List UInt8 := us.getD x.toNat []
theorem ids_all {us : List (List UInt8)} {c : Nat} {x : Int} (h : x ∈ idsL us c) : ∃ m : Nat, x = (m : Int) ∧ us[m]? = some (txN us x) ∧ txN us x ∈ us ∧ 0 < (txN us x).length ∧ byN (txN us x) ((txN us x).length - 1) = c := by
  obtain ⟨m, rfl, h2, h3⟩ := bids_mem h
  obtain ⟨t, ht⟩ : ∃ t, us[m]? = some t := ⟨_, List.getElem?_eq_getElem h2⟩
  have hl := (ends_of ht).1 h3
  have e : txN us (m : Int) = t := by unfold txN; rw [Int.toNat_natCast, getD_of ht]
  have h0 : 0 < t.length := by
    rcases Nat.eq_zero_or_pos t.length with h0 | h0
    · rw [List.length_eq_zero_iff.1 h0, lastN_nil] at hl; cases hl
    · exact h0
  refine ⟨m, rfl, by rw [e]; exact ht, by rw [e]; exact List.mem_of_getElem? ht, by rw [e]; exact h0, ?_⟩
  rw [e]
  have := (lastN_at h0).1 hl
  unfold byN
  rw [List.getD_eq_getElem?_getD, List.getElem?_eq_getElem (by omega)]
  exact this
theorem ids_of {us : List (List UInt8)} {t : List UInt8} (ht : t ∈ us) (h0 : 0 < t.length) : ∃ x ∈ idsL us (byN t (t.length - 1)), txN us x = t := by
  obtain ⟨m, hm⟩ := List.getElem?_of_mem ht
  have hlt := (List.getElem?_eq_some_iff.1 hm).1
  refine ⟨(m : Int), bids_in ((ends_of hm).2 ((lastN_at h0).2 ?_)) hlt, by unfold txN; rw [Int.toNat_natCast, getD_of hm]⟩
  unfold byN
  rw [List.getD_eq_getElem?_getD, List.getElem?_eq_getElem (by omega)]
  rfl

theorem lst_min (ws : List (List UInt8)) (ids : List Int) : ∀ j x, x < j → lstK ws ids j ≤ lenAt ws (ids.getD x 0)
  | 0, x, h => by omega
  | j + 1, x, h => by
    by_cases hx : x = j
    · subst hx
      unfold lstK
      split <;> omega
    · have := lst_min ws ids j x (by omega)
      unfold lstK
      split <;> omega
theorem lst_has (ws : List (List UInt8)) (ids : List Int) : ∀ j, 0 < j → ∃ x, x < j ∧ lstK ws ids j = lenAt ws (ids.getD x 0)
  | 0, h => by omega
  | j + 1, h => by
    by_cases hc : j = 0 ∨ lenAt ws (ids.getD j 0) < lstK ws ids j
    · exact ⟨j, by omega, by unfold lstK; rw [if_pos hc]⟩
    · obtain ⟨x, hx, e⟩ := lst_has ws ids j (by omega)
      exact ⟨x, by omega, by rw [lstK, if_neg hc]; exact e⟩
theorem lst_all {us : List (List UInt8)} {c : Nat} {x : Int} (h : x ∈ idsL us c) : lstL us c ≤ (txN us x).length := by
  obtain ⟨j, hj, rfl⟩ := List.getElem_of_mem h
  have := lst_min us (idsL us c) (idsL us c).length j hj
  unfold lstL lstA
  unfold lenAt at this
  unfold txN
  simp only [List.getD_eq_getElem?_getD, List.getElem?_eq_getElem hj, Option.getD_some] at this ⊢
  exact this
theorem lst_some {us : List (List UInt8)} {c : Nat} (h : 0 < (idsL us c).length) : ∃ x ∈ idsL us c, lstL us c = (txN us x).length := by
  obtain ⟨j, hj, e⟩ := lst_has us (idsL us c) _ h
  refine ⟨_, List.getElem_mem hj, ?_⟩
  unfold lstL lstA
  rw [e]
  unfold lenAt txN
  simp only [List.getD_eq_getElem?_getD, List.getElem?_eq_getElem hj, Option.getD_some]

/-- Is one of a bucket's patterns not refuted by a distance? -/
def badX (us : List (List UInt8)) (s : List UInt8) (e d : Nat) (x : Int) : Bool := decide ((txN us x).length ≤ e) && (byN (txN us x) ((txN us x).length - 1 - d) == byN s (e - 1 - d))

theorem can_iff {t s : List UInt8} {e : Nat} : canP t s e = true ↔ byN t (t.length - 1) = byN s (e - 1) ∧ t.length ≤ e := by
  unfold canP; rw [Bool.and_eq_true, beq_iff_eq, decide_eq_true_eq]
theorem dif_iff {t s : List UInt8} {e d : Nat} : difP t s e d = true ↔ d < t.length ∧ ¬ byN t (t.length - 1 - d) = byN s (e - 1 - d) := by
  unfold difP
  rw [Bool.and_eq_true, decide_eq_true_eq, Bool.not_eq_true', beq_eq_false_iff_ne]
theorem ms_iff {us : List (List UInt8)} {s : List UInt8} {e d : Nat} : msB us s e d = true ↔ ∀ t ∈ us, canP t s e = true → difP t s e d = true := by
  unfold msB
  rw [List.all_eq_true]
  refine forall_congr' fun t => forall_congr' fun _ => ?_
  cases canP t s e <;> simp
theorem ms_not {us : List (List UInt8)} {s t : List UInt8} {e d : Nat} (ht : t ∈ us) (hc : canP t s e = true) (hd : difP t s e d = false) : msB us s e d = false := by
  rw [Bool.eq_false_iff]
  intro h
  rw [ms_iff.1 h t ht hc] at hd
  cases hd
theorem bad_ms {us : List (List UInt8)} {s : List UInt8} {e d : Nat} {x : Int} (hx : x ∈ idsL us (byN s (e - 1))) (h : badX us s e d x = true) : msB us s e d = false := by
  obtain ⟨m, rfl, h2, h3, h4, h5⟩ := ids_all hx
  unfold badX at h
  rw [Bool.and_eq_true, decide_eq_true_eq, beq_iff_eq] at h
  refine ms_not h3 (can_iff.2 ⟨h5, h.1⟩) ?_
  rw [Bool.eq_false_iff]
  intro h'
  exact (dif_iff.1 h').2 h.2
theorem all_ms {us : List (List UInt8)} {s : List UInt8} {e d : Nat} (hu : ∀ t ∈ us, 0 < t.length) (hd : d < lstL us (byN s (e - 1))) (h : ∀ x ∈ idsL us (byN s (e - 1)), badX us s e d x = false) : msB us s e d = true := by
  refine ms_iff.2 fun t ht hc => ?_
  obtain ⟨h1, h2⟩ := can_iff.1 hc
  obtain ⟨x, hx, rfl⟩ := ids_of ht (hu t ht)
  rw [h1] at hx
  have hm := lst_all hx
  refine dif_iff.2 ⟨by omega, fun h' => ?_⟩
  have := h x hx
  unfold badX at this
  rw [decide_eq_true h2, h', beq_self_eq_true] at this
  cases this
theorem long_ms {us : List (List UInt8)} {s : List UInt8} {e d : Nat} (h0 : 0 < lstL us (byN s (e - 1))) (he : lstL us (byN s (e - 1)) ≤ e) (hd : lstL us (byN s (e - 1)) ≤ d) : msB us s e d = false := by
  have hn : 0 < (idsL us (byN s (e - 1))).length := by
    rcases Nat.eq_zero_or_pos (idsL us (byN s (e - 1))).length with h | h
    · have e0 : lstL us (byN s (e - 1)) = 0 := by unfold lstL lstA; rw [h]; rfl
      omega
    · exact h
  obtain ⟨x, hx, e1⟩ := lst_some hn
  obtain ⟨m, rfl, h2, h3, h4, h5⟩ := ids_all hx
  refine ms_not h3 (can_iff.2 ⟨h5, by omega⟩) ?_
  rw [Bool.eq_false_iff]
  intro h'
  have := (dif_iff.1 h').1
  omega
theorem room_ms {us : List (List UInt8)} {s : List UInt8} {e : Nat} (hu : ∀ t ∈ us, 0 < t.length) (h : lstL us (byN s (e - 1)) = 0 ∨ e < lstL us (byN s (e - 1))) (d : Nat) : msB us s e d = true := by
  refine ms_iff.2 fun t ht hc => ?_
  obtain ⟨h1, h2⟩ := can_iff.1 hc
  obtain ⟨x, hx, rfl⟩ := ids_of ht (hu t ht)
  rw [h1] at hx
  have hm := lst_all hx
  obtain ⟨y, hy, e1⟩ := lst_some (List.length_pos_of_mem hx)
  obtain ⟨m, rfl, h2', h3', h4', h5'⟩ := ids_all hy
  omega

theorem mis_room {us : List (List UInt8)} {s : List UInt8} {e : Nat} (hu : ∀ t ∈ us, 0 < t.length) (h : lstL us (byN s (e - 1)) = 0 ∨ e < lstL us (byN s (e - 1))) : misN us s e = 1 :=
  misK_hit (by omega) (by omega) (room_ms hu h 1) (fun j h1 h2 => by omega)
theorem mis_here {us : List (List UInt8)} {s : List UInt8} {e d : Nat} (hu : ∀ t ∈ us, 0 < t.length) (h0 : 0 < d) (hd : d < lstL us (byN s (e - 1))) (h1 : msB us s e d = true) (h2 : ∀ j, 0 < j → j < d → msB us s e j = false) : misN us s e = d := by
  refine misK_hit h0 ?_ h1 h2
  have hn : 0 < (idsL us (byN s (e - 1))).length := by
    rcases Nat.eq_zero_or_pos (idsL us (byN s (e - 1))).length with h | h
    · have e0 : lstL us (byN s (e - 1)) = 0 := by unfold lstL lstA; rw [h]; rfl
      omega
    · exact h
  obtain ⟨x, hx, e1⟩ := lst_some hn
  obtain ⟨m, rfl, _, h3, _, _⟩ := ids_all hx
  have := most_mem h3
  omega
theorem mis_nowhere {us : List (List UInt8)} {s : List UInt8} {e : Nat} (h0 : 0 < lstL us (byN s (e - 1))) (he : lstL us (byN s (e - 1)) ≤ e) (h2 : ∀ j, 0 < j → j < lstL us (byN s (e - 1)) → msB us s e j = false) : misN us s e = 0 := by
  refine misK_none fun j hj _ => ?_
  by_cases hl : j < lstL us (byN s (e - 1))
  · exact h2 j hj hl
  · exact long_ms h0 he (by omega)

/-- The patterns that end here are among those with the last byte. -/
theorem st_last {t s : List UInt8} {e : Nat} (h0 : 0 < t.length) (h : stB t s e = true) : byN t (t.length - 1) = byN s (e - 1) := by
  obtain ⟨h1, h2⟩ := st_iff.1 h
  have := suf_at h1 h2 (d := 0) h0
  unfold byN
  rw [Nat.sub_zero, Nat.sub_zero] at this
  rw [this]
theorem hit_ids {us : List (List UInt8)} {s : List UInt8} {e : Nat} (hu : ∀ t ∈ us, 0 < t.length) : ∀ k, k ≤ us.length → idsK us s e k = (bidsK us (byN s (e - 1)) k).filter fun x => stB (txN us x) s e
  | 0, _ => rfl
  | k + 1, hk => by
    obtain ⟨t, ht⟩ : ∃ t, us[k]? = some t := ⟨_, List.getElem?_eq_getElem (by omega)⟩
    have h0 := hu t (List.mem_of_getElem? ht)
    have e1 : txN us (k : Int) = t := by unfold txN; rw [Int.toNat_natCast, getD_of ht]
    have ih := hit_ids (s := s) (e := e) hu k (by omega)
    by_cases he : endsN us (byN s (e - 1)) k = true
    · rw [bids_hit he, List.filter_append, ← ih]
      cases hs : stB t s e with
      | true => rw [ids_hit ht hs]; simp [List.filter, e1, hs]
      | false => rw [ids_miss ht hs]; simp [List.filter, e1, hs]
    · rw [bids_miss he, ← ih]
      have hs : stB t s e = false := by
        rw [Bool.eq_false_iff]
        intro h
        refine he ((ends_of ht).2 ((lastN_at h0).2 ?_))
        have := st_last h0 h
        unfold byN at this
        rw [List.getD_eq_getElem?_getD, List.getElem?_eq_getElem (by omega)] at this
        exact this
      exact ids_miss ht hs
theorem hit_all {us : List (List UInt8)} {s : List UInt8} {e : Nat} (hu : ∀ t ∈ us, 0 < t.length) : idsK us s e us.length = (idsL us (byN s (e - 1))).filter fun x => stB (txN us x) s e := hit_ids hu _ (Nat.le_refl _)

/-- Evidence: kind, N, R, Ids. -/
structure EvR where
  k : Nat
  n : Nat
  r : Nat
  ids : List Int
/-- How far the two bytes clear. -/
def twoN (us : List (List UInt8)) (s : List UInt8) (e : Nat) : Nat := if 2 ≤ e then nearL us (prS s e) else 0
def jmpR (us : List (List UInt8)) (s : List UInt8) (e : Nat) : EvR :=
  if fstL us (byN s (e - 1)) < twoN us s e then ⟨2, twoN us s e, 1, []⟩ else if 0 < fstL us (byN s (e - 1)) then ⟨1, fstL us (byN s (e - 1)), 1, []⟩ else ⟨0, 0, 0, []⟩
def ofR (us : List (List UInt8)) (s : List UInt8) (e : Nat) (skip : Bool) : EvR :=
  if skip = true ∧ 0 < (jmpR us s e).k then jmpR us s e
  else if (idsK us s e us.length).length = 0 ∧ 0 < misN us s e then ⟨3, misN us s e, 1, []⟩ else ⟨4, 0, 0, idsK us s e us.length⟩
/-- How many ends a record covers. -/
def covZ (k n : Int) : Int := if k = 1 ∨ k = 2 then max n 0 else if k = 3 ∨ k = 4 then 1 else 0

theorem two_le (us : List (List UInt8)) (s : List UInt8) (e : Nat) : twoN us s e ≤ farL us := by
  unfold twoN
  split
  · exact near_le _ _
  · omega
theorem jmp_ids (us : List (List UInt8)) (s : List UInt8) (e : Nat) : (jmpR us s e).ids = [] := by
  unfold jmpR; split
  · rfl
  · split <;> rfl
theorem jmp_cases (us : List (List UInt8)) (s : List UInt8) (e : Nat) :
    (fstL us (byN s (e - 1)) < twoN us s e ∧ jmpR us s e = ⟨2, twoN us s e, 1, []⟩) ∨ (¬ fstL us (byN s (e - 1)) < twoN us s e ∧ 0 < fstL us (byN s (e - 1)) ∧ jmpR us s e = ⟨1, fstL us (byN s (e - 1)), 1, []⟩) ∨
      (¬ fstL us (byN s (e - 1)) < twoN us s e ∧ fstL us (byN s (e - 1)) = 0 ∧ jmpR us s e = ⟨0, 0, 0, []⟩) := by
  unfold jmpR
  by_cases h : fstL us (byN s (e - 1)) < twoN us s e
  · rw [if_pos h]; exact .inl ⟨h, rfl⟩
  · rw [if_neg h]
    by_cases h0 : 0 < fstL us (byN s (e - 1))
    · rw [if_pos h0]; exact .inr (.inl ⟨h, h0, rfl⟩)
    · rw [if_neg h0]; exact .inr (.inr ⟨h, by omega, rfl⟩)
theorem of_cases (us : List (List UInt8)) (s : List UInt8) (e : Nat) (skip : Bool) :
    (skip = true ∧ fstL us (byN s (e - 1)) < twoN us s e ∧ ofR us s e skip = ⟨2, twoN us s e, 1, []⟩) ∨ (skip = true ∧ 0 < fstL us (byN s (e - 1)) ∧ ofR us s e skip = ⟨1, fstL us (byN s (e - 1)), 1, []⟩) ∨
      (idsK us s e us.length = [] ∧ 0 < misN us s e ∧ ofR us s e skip = ⟨3, misN us s e, 1, []⟩) ∨ ofR us s e skip = ⟨4, 0, 0, idsK us s e us.length⟩ := by
  by_cases h : skip = true ∧ 0 < (jmpR us s e).k
  · rcases jmp_cases us s e with ⟨h1, h2⟩ | ⟨h1, h2, h3⟩ | ⟨h1, h2, h3⟩
    · exact .inl ⟨h.1, h1, by rw [ofR, if_pos h, h2]⟩
    · exact .inr (.inl ⟨h.1, h2, by rw [ofR, if_pos h, h3]⟩)
    · rw [h3] at h; exact absurd h.2 (Nat.lt_irrefl 0)
  · by_cases h1 : (idsK us s e us.length).length = 0 ∧ 0 < misN us s e
    · exact .inr (.inr (.inl ⟨List.length_eq_zero_iff.1 h1.1, h1.2, by rw [ofR, if_neg h, if_pos h1]⟩))
    · exact .inr (.inr (.inr (by rw [ofR, if_neg h, if_neg h1])))

theorem ids_empty {us : List (List UInt8)} {s : List UInt8} {e : Nat} : ∀ {k : Nat}, (∀ t ∈ us, stB t s e = false) → k ≤ us.length → idsK us s e k = []
  | 0, _, _ => rfl
  | k + 1, h, hk => by
    obtain ⟨t, ht⟩ : ∃ t, us[k]? = some t := ⟨_, List.getElem?_eq_getElem (by omega)⟩
    rw [ids_miss ht (h t (List.mem_of_getElem? ht)), ids_empty h (by omega)]
/-- What evidence covers has no hits but those that it names. -/
theorem of_clears {us : List (List UInt8)} {s : List UInt8} {e : Nat} {skip : Bool} (he : 0 < e) (hs : e ≤ s.length) {i : Nat} (hi : (i : Int) < covZ (ofR us s e skip).k (ofR us s e skip).n) (hE : e + i ≤ s.length) :
    idsK us s (e + i) us.length = (ofR us s e skip).ids := by
  rcases of_cases us s e skip with ⟨_, h, h1⟩ | ⟨_, h, h1⟩ | ⟨h, _, h1⟩ | h1
  · rw [h1] at hi ⊢
    have hi : i < twoN us s e := by simp [covZ] at hi; omega
    refine ids_empty (fun t ht => ?_) (Nat.le_refl _)
    rw [Bool.eq_false_iff]
    intro hq
    obtain ⟨_, h3⟩ := st_iff.1 hq
    unfold twoN at hi
    split at hi
    · exact near_clears ht hE h3 (by omega) (by omega) (by omega)
    · omega
  · rw [h1] at hi ⊢
    have hi : i < fstL us (byN s (e - 1)) := by simp [covZ] at hi; omega
    refine ids_empty (fun t ht => ?_) (Nat.le_refl _)
    rw [Bool.eq_false_iff]
    intro hq
    obtain ⟨_, h3⟩ := st_iff.1 hq
    exact fst_clears ht hE h3 he (by omega) (by omega)
  · rw [h1] at hi ⊢
    have hi : i = 0 := by simp [covZ] at hi; omega
    subst hi
    exact h
  · rw [h1] at hi ⊢
    have hi : i = 0 := by simp [covZ] at hi; omega
    subst hi
    rfl
theorem of_covers (us : List (List UInt8)) (s : List UInt8) (e : Nat) (skip : Bool) : 0 < covZ (ofR us s e skip).k (ofR us s e skip).n := by
  rcases of_cases us s e skip with ⟨_, h, h1⟩ | ⟨_, h, h1⟩ | ⟨h, _, h1⟩ | h1 <;> rw [h1] <;> simp [covZ] <;> omega
end Go.Proofs.Ytngmjpfknehdkaa

namespace Go.Proofs.Ytngmjpfknehdkaa
open Go.RowKit

/-- A slice that holds these texts. -/
def IsStrs (w : World) (a : Option Addr) (len : Nat) (ws : List (List UInt8)) : Prop :=
  ws.length = len ∧ (len = 0 ∨ ∃ b off, a = some ⟨b, off, none⟩ ∧ ∀ i (h : i < ws.length), w.cell? ⟨b, off + i, none⟩ = some (.string ⟨(ws[i]'h).toArray⟩))

theorem IsStrs.below {w w' : World} {a : Option Addr} {len : Nat} {ws : List (List UInt8)} (h : IsStrs w a len ws) (hb : Below w.heap.size w w') : IsStrs w' a len ws := by
  obtain ⟨hl, h⟩ := h
  refine ⟨hl, ?_⟩
  rcases h with h | ⟨b, off, ha, hc⟩
  · exact .inl h
  · refine .inr ⟨b, off, ha, fun i hi => ?_⟩
    have h1 := hc i hi
    rw [hb.cell (p := ⟨b, off + i, none⟩) (World.block_lt_of_cell? w _ h1)]
    exact h1

/-- One of them: where it lies. -/
theorem str_at {w wr : World} {a : Option Addr} {len : Nat} {ws : List (List UInt8)} (h : IsStrs w a len ws) (hb : Below w.heap.size w wr) (k : Nat) (hk : k < len) :
    ∃ b off, a = some ⟨b, off, none⟩ ∧ ∃ t, ws[k]? = some t ∧ wr.cell? ⟨b, off + k, none⟩ = some (.string ⟨t.toArray⟩) := by
  obtain ⟨hl, h⟩ := h.below hb
  rcases h with h | ⟨b, off, ha, hc⟩
  · omega
  · have hkl : k < ws.length := by omega
    exact ⟨b, off, ha, ws[k], List.getElem?_eq_getElem hkl, hc k hkl⟩

/-- The cells of texts. -/
def txCells (ws : List (List UInt8)) : List Value := ws.map fun t => .string ⟨t.toArray⟩
theorem txCells_snoc (ws : List (List UInt8)) (t : List UInt8) : txCells (ws ++ [t]) = txCells ws ++ [.string ⟨t.toArray⟩] := by simp [txCells]

theorem owns_strs {w : World} {base : Nat} {e : TypeId} {v : Value} {ws : List (List UInt8)} (h : w.ownsRow base e 1 v ws.length (txCells ws)) :
    ∃ ao cap, v = .slice ao ws.length cap ∧ IsStrs w ao ws.length ws := by
  rcases h.2 with ⟨hv, h0⟩ | ⟨g, cap, cur, hv, _⟩
  · have h0' : ws.length = 0 := h0
    exact ⟨none, 0, by rw [h0']; exact hv, rfl, .inl h0'⟩
  · refine ⟨some ⟨g, 0, none⟩, cap, hv, rfl, .inr ⟨g, 0, rfl, fun i hi => ?_⟩⟩
    have hc := h.cells (g := g) (by rw [hv]; rfl) i (.string ⟨(ws[i]'hi).toArray⟩) (by simp [txCells, List.getElem?_eq_getElem hi])
    rwa [addPlain] at hc

theorem tx_below {w w' : World} {base : Nat} {e : TypeId} {size : Nat} {v : Value} {n : Nat} {xs : List Value} (h : w.ownsRow base e size v n xs) (hb : Below w.heap.size w w') : w'.ownsRow base e size v n xs :=
  h.kept (row := none) ⟨hb.os, hb.tape, hb.output, hb.size, fun k hk _ => hb.block k hk⟩ (Classical.em _)

theorem below_drewS {B : Nat} {a w : World} (h : Below B a w) (n : Nat) : Below B a (w.drewN n) := h.trans ⟨rfl, rfl, rfl, Nat.le_refl _, fun _ _ => rfl⟩

/-- A list of words, as an answer: a slice of the call's own; nothing that was there is written. -/
def RetL (ws : List (List UInt8)) (w : World) (e : Ending) (w' : World) : Prop := ∃ (a : Option Addr) (cap : Nat), e = .returned (.slice a ws.length cap) ∧ IsStrs w' a ws.length ws ∧ Below w.heap.size w w'
theorem RetL.mk {ws R : List (List UInt8)} {w w' : World} {e : Ending} {a : Option Addr} {cap : Nat} (h : ws = R) (he : e = .returned (.slice a R.length cap)) (hf : IsStrs w' a R.length R) (hb : Below w.heap.size w w') : RetL ws w e w' := by
  subst h; exact ⟨a, cap, he, hf, hb⟩

theorem string_info : (Try.prog.info? 9).map (fun i => (i.zero, i.size, i.bytes)) = some (some (.string ByteArray.empty), 1, 16) := by kernel_rfl

/-- A text's one cell, in a block of its own. -/
theorem one_news {w : World} {X : Nat} {T : TypeId} {u : Value} (h : w.heap[X]? = some (.cells #[u] T (0, 0))) : ∀ j x, [u][j]? = some x → w.cell? ((⟨X, 0, none⟩ : Addr).add j) = some x := by
  intro j x hj
  match j, hj with
  | 0, hj => simp at hj; subst hj; simp [Addr.add, World.cell?, h]
theorem str_one {d : ByteArray} : ∀ x ∈ [Value.string d], x.oneCell' = true := by
  intro x hx
  simp at hx
  subst hx; rfl

theorem ext_cut (l : List UInt8) (st k : Nat) : (⟨l.toArray⟩ : ByteArray).extract st k = ⟨((l.take k).drop st).toArray⟩ := by
  rw [Lib.extract_eq]
  simp only [ByteArray.mk.injEq]
  rw [List.drop_take]
theorem ext_rest (l : List UInt8) (st : Nat) : (⟨l.toArray⟩ : ByteArray).extract st l.length = ⟨(l.drop st).toArray⟩ := by
  rw [ext_cut, List.take_length]
theorem cut_none (l : List UInt8) (k : Nat) : (l.take k).drop k = [] := List.drop_eq_nil_of_le (List.length_take_le _ _)

/-- Texts in one block of their own. -/
theorem strs_heap {w : World} {g n : Nat} {ws : List (List UInt8)} {T : TypeId} (h : w.heap[g]? = some (.cells (txCells ws).toArray T (0, 0))) (hn : ws.length = n) : IsStrs w (some ⟨g, 0, none⟩) n ws := by
  refine ⟨hn, .inr ⟨g, 0, rfl, fun i hi => ?_⟩⟩
  rw [Nat.zero_add, Lib.cell_of_heap h]
  simp [txCells, List.getElem?_eq_getElem hi]
end Go.Proofs.Ytngmjpfknehdkaa

namespace Go.Proofs.Ytngmjpfknehdkaa
open Go.RowKit

theorem int_info : (Try.prog.info? 3).map (fun i => (i.zero, i.size, i.bytes)) = some (some (.int .i64 0), 1, 8) := by kernel_rfl

/-- The cells of numbers. -/
def inCells (zs : List Int) : List Value := zs.map (Value.int .i64)
theorem inCells_snoc (zs : List Int) (x : Int) : inCells (zs ++ [x]) = inCells zs ++ [.int .i64 x] := by simp [inCells]

theorem owns_ints {w : World} {base : Nat} {e : TypeId} {v : Value} {zs : List Int} (h : w.ownsRow base e 1 v zs.length (inCells zs)) :
    ∃ ao cap, v = .slice ao zs.length cap ∧ (zs.length = 0 ∨ ∃ g, ao = some ⟨g, 0, none⟩ ∧ base ≤ g ∧ g < w.heap.size ∧ ∀ i, i < zs.length → w.cell? ⟨g, 0 + i, none⟩ = some (.int .i64 (zs.getD i 0))) := by
  rcases h.2 with ⟨hv, h0⟩ | ⟨g, cap, cur, hv, hg, _⟩
  · have h0' : zs.length = 0 := h0
    exact ⟨none, 0, by rw [h0']; exact hv, .inl h0'⟩
  · have hlt := h.lt (k := g) (by rw [hv]; rfl)
    refine ⟨some ⟨g, 0, none⟩, cap, hv, .inr ⟨g, rfl, hlt.1, hlt.2, fun i hi => ?_⟩⟩
    have hc := h.cells (g := g) (by rw [hv]; rfl) i (.int .i64 (zs.getD i 0)) (by simp [inCells, List.getD, List.getElem?_eq_getElem hi])
    rwa [addPlain] at hc

/-- Numbers in memory: all cells, not just those of a slice that came in. -/
theorem row_of_ints {w : World} {base : Nat} {e : TypeId} {v : Value} {zs : List Int} (h : w.ownsRow base e 1 v zs.length (inCells zs)) (hm : zs.length ≤ maxLen) :
    ∃ ao cap, v = .slice ao zs.length cap ∧ IsRow .i64 w ao zs.length zs.length zs := by
  obtain ⟨ao, cap, hv, h0 | ⟨g, hao, _, _, hc⟩⟩ := owns_ints h
  · exact ⟨ao, cap, hv, .inl h0⟩
  · exact ⟨ao, cap, hv, .inr ⟨g, 0, hao, Nat.le_refl _, hm, rfl, hc⟩⟩

/-- A number's one cell, in a block of its own. -/
theorem int_news {w : World} {X : Nat} {T : TypeId} {u : Value} (h : w.heap[X]? = some (.cells #[u] T (0, 0))) : ∀ j x, [u][j]? = some x → w.cell? ((⟨X, 0, none⟩ : Addr).add j) = some x := one_news h
theorem int_one {x : Int} : ∀ v ∈ [Value.int .i64 x], v.oneCell' = true := by
  intro v hv
  simp at hv
  subst hv; rfl

/-- A list of numbers, as an answer: a slice of the call's own; nothing that was there is written. -/
def RetN (zs : List Int) (w : World) (e : Ending) (w' : World) : Prop := ∃ (v : Value), e = .returned v ∧ w'.ownsRow w.heap.size 3 1 v zs.length (inCells zs) ∧ Below w.heap.size w w'

/-- A list of numbers, to be read: a slice; nothing that was there is written. -/
def RetI (zs : List Int) (w : World) (e : Ending) (w' : World) : Prop := ∃ (a : Option Addr) (cap : Nat), e = .returned (.slice a zs.length cap) ∧ IsRow .i64 w' a zs.length zs.length zs ∧ Below w.heap.size w w'
theorem RetI.of {zs L : List Int} {w0 w w' : World} {v : Value} (e : zs = L) (h : w'.ownsRow w0.heap.size 3 1 v L.length (inCells L)) (hm : L.length ≤ maxLen) (hb : Below w.heap.size w w') : ∃ a cap, v = .slice a L.length cap ∧ RetI zs w (.returned (.slice a L.length cap)) w' := by
  obtain ⟨ao, cap, hv, hr⟩ := row_of_ints h hm
  subst e
  exact ⟨ao, cap, hv, ao, cap, rfl, hr, hb⟩

/-- A row in one block of its own. -/
theorem row_heap {w : World} {g n : Nat} {zs : List Int} {T : TypeId} (h : w.heap[g]? = some (.cells (inCells zs).toArray T (0, 0))) (hn : zs.length = n) (hm : n ≤ maxLen) : IsRow .i64 w (some ⟨g, 0, none⟩) n n zs := by
  refine .inr ⟨g, 0, rfl, Nat.le_refl _, hm, hn, fun i hi => ?_⟩
  rw [Nat.zero_add, Lib.cell_of_heap h]
  simp [inCells, List.getD, List.getElem?_eq_getElem (show i < zs.length by omega)]
end Go.Proofs.Ytngmjpfknehdkaa

namespace Go.Proofs.Ytngmjpfknehdkaa
open Go.RowKit

set_option maxRecDepth 100000 in
theorem make_row (c : Nat) (w : World) (hc : c ≤ 1000000000) : (Instr.makeSlice 38 (.int .i64 (c : Int)) (.int .i64 (c : Int))).run Try.prog w = .ok (.slice (some ⟨w.heap.size, 0, none⟩) c c) (w.alloc (.cells (inCells (List.replicate c 0)).toArray 3)) := by
  obtain ⟨i0, hi, hz0, hz1, hz2⟩ := info_parts int_info
  have h := run_make (P := Try.prog) w 38 3 i0 (.int .i64 0) Try.underlying38 hi hz0 .i64 .i64 c c (by omega) (Int.le_refl _) (by rw [hz2]; omega) (by omega)
  rw [h, hz1, Nat.mul_one, Int.toNat_natCast, show inCells (List.replicate c 0) = List.replicate c (Value.int .i64 0) by simp [inCells]]
  congr 3
  show madeCells #[Value.int .i64 0] c = _
  rw [← toList_madeCells_one]
end Go.Proofs.Ytngmjpfknehdkaa

namespace Go.Proofs.Ytngmjpfknehdkaa
open Go.RowKit

theorem leastR_first {ws : List (List UInt8)} {t : List UInt8} (h : ws[0]? = some t) (ht : t.length ≤ 65535) : leastR (ws.take (0 + 1)) = t.length := by
  have hlt := (List.getElem?_eq_some_iff.1 h).1
  unfold leastR
  rw [if_neg (by rw [List.length_take]; omega), least_snoc h, List.take_zero]
  show min 65535 t.length = _
  omega
theorem leastR_snoc {ws : List (List UInt8)} {k : Nat} {t : List UInt8} (hk : 0 < k) (h : ws[k]? = some t) : leastR (ws.take (k + 1)) = min (leastR (ws.take k)) t.length := by
  have hlt := (List.getElem?_eq_some_iff.1 h).1
  unfold leastR
  rw [if_neg (by rw [List.length_take]; omega), if_neg (by rw [List.length_take]; omega), least_snoc h]

set_option maxHeartbeats 1000000 in
theorem rptleast_any (a : Option Addr) (len cap : Nat) (ws : List (List UInt8)) (w : World) (hlen : len ≤ 1000000) (hr : IsStrs w a len ws) (ht : ∀ t ∈ ws, t.length ≤ 65535) :
    Calls Try.prog 45 #[.slice a len cap] w fun e w' => e = .returned (.int .i64 (leastR ws : Int)) ∧ w' = w := by
  have hwl := hr.1
  have HI := Lib.hid hr
  have HT := Lib.hid ht
  have HW : Hid (ws.take len = ws) := Lib.hid (List.take_of_length_le (by omega))
  clear hr ht
  go_enter Try.func45, Try.ntmps45
  go_wp2
  go_loop [3, 4] (fun x i => ∃ k n : Nat, k ≤ len ∧ i = .int .i64 k ∧ x = .int .i64 n ∧ n ≤ 65535 ∧ Hid (leastR (ws.take k) = n)) (fun _ i => len - (RowKit.intOf i).toNat)
  case atStart => exact ⟨0, 0, Nat.zero_le _, rfl, rfl, by omega, Lib.hid rfl⟩
  case round =>
    obtain ⟨k, n, hk, rfl, rfl, hn, HK⟩ := hrel
    by_cases hlt : k < len
    · obtain ⟨b, off, rfl, t, hf, hc⟩ := str_at HI.out (Below.refl _ _) k hlt
      have HS := Lib.hid (bsize t)
      have htl := HT.out t (List.mem_of_getElem? hf)
      by_cases h0 : k = 0
      · subst h0
        have HK2 := Lib.hid (leastR_first hf htl)
        rw [Nat.add_zero] at hc
        clear hf HK
        go_wp2
        exact ⟨⟨1, t.length, by omega, by go_num, rfl, htl, HK2⟩, by simp [RowKit.intOf]; omega⟩
      · have g0 : ¬ (k : Int) = 0 := by omega
        have g1 : ((k : Int) == 0) = false := by simp [h0]
        by_cases hq : t.length < n
        · have HK2 : Hid (leastR (ws.take (k + 1)) = t.length) := Lib.hid (by rw [leastR_snoc (by omega) hf, HK.out]; omega)
          clear hf HK
          go_wp2
          exact ⟨⟨k + 1, t.length, by omega, by go_num, rfl, htl, HK2⟩, by simp [RowKit.intOf]; omega⟩
        · have HK2 : Hid (leastR (ws.take (k + 1)) = n) := Lib.hid (by rw [leastR_snoc (by omega) hf, HK.out]; omega)
          clear hf HK
          go_wp2
          exact ⟨⟨k + 1, n, by omega, by go_num, rfl, hn, HK2⟩, by simp [RowKit.intOf]; omega⟩
    · obtain rfl : k = len := by omega
      have HE : Hid (leastR ws = n) := Lib.hid (by have := HK.out; rwa [HW.out] at this)
      clear HK
      go_wp2
      go_ret
      exact ⟨by rw [HE.out]; rfl, rfl⟩
end Go.Proofs.Ytngmjpfknehdkaa

namespace Go.Proofs.Ytngmjpfknehdkaa
open Go.RowKit

theorem has_next {ws : List (List UInt8)} {k c d : Nat} {t : List UInt8} (h : ws[k]? = some t) (hk : hasD (ws.take k) c d = false) : hasD (ws.take (k + 1)) c d = atD t c d := by
  have hlt := (List.getElem?_eq_some_iff.1 h).1
  have ht := (List.getElem?_eq_some_iff.1 h).2
  unfold hasD at *
  rw [List.take_succ_eq_append_getElem hlt, List.any_append, ht, hk]
  simp
theorem has_hit {ws : List (List UInt8)} {k c d : Nat} {t : List UInt8} (h : ws[k]? = some t) (ha : atD t c d = true) : hasD ws c d = true := List.any_eq_true.2 ⟨t, List.mem_of_getElem? h, ha⟩

set_option maxRecDepth 100000 in
set_option maxHeartbeats 4000000 in
theorem rhas_any (a : Option Addr) (len cap c d : Nat) (ws : List (List UInt8)) (w : World) (hlen : len ≤ 1000000) (hr : IsStrs w a len ws) (ht : ∀ t ∈ ws, t.length ≤ 1000000) (hd : d ≤ 1000000) :
    Calls Try.prog 61 #[.slice a len cap, .int .u8 (c : Int), .int .i64 (d : Int)] w fun e w' => e = .returned (.bool (hasD ws c d)) ∧ Below w.heap.size w w' := by
  have hwl := hr.1
  have HT := Lib.hid ht
  have HR := Lib.hid hr
  clear ht hr
  obtain ⟨R, hR⟩ : ∃ R, hasD ws c d = R := ⟨_, rfl⟩
  rw [hR]
  have HRR := Lib.hid hR
  clear hR
  go_enter Try.func61, Try.ntmps61
  go_wp2
  go_loopw [7] (fun i wr => ∃ k : Nat, k ≤ len ∧ i = .int .i64 k ∧ Hid (hasD (ws.take k) c d = false) ∧ Below w.heap.size w wr) (fun i _ => len - (RowKit.intOf i).toNat)
  case atStart => exact ⟨0, Nat.zero_le _, rfl, Lib.hid rfl, Below.refl _ _⟩
  case round =>
    obtain ⟨k, hk, rfl, HK, hbe⟩ := hrel
    by_cases hlt : k < len
    · obtain ⟨b, off, rfl, t, hf, hcell⟩ := str_at HR.out hbe k hlt
      have htl := HT.out t (List.mem_of_getElem? hf)
      have S1 := Lib.hid (bsize t)
      have HN := Lib.hid (has_next (c := c) (d := d) hf HK.out)
      have HH := Lib.hid (fun h => has_hit (c := c) (d := d) hf h)
      have hlt2 : (k : Int) < (len : Int) := by omega
      have hlt3 : (0 : Int) ≤ (k : Int) := by omega
      clear hf HK
      by_cases hdl : d < t.length
      · obtain ⟨q, hq1⟩ : ∃ q, q + 1 = t.length := ⟨t.length - 1, by omega⟩
        obtain ⟨j, hj⟩ : ∃ j, j + 1 + d = t.length := ⟨t.length - 1 - d, by omega⟩
        have w1 : IntKind.i64.wrap ((t.length : Int) - 1) = (q : Int) := by rw [IntKind.wrap_i64]; omega
        have w2 : IntKind.i64.wrap ((q : Int) - (d : Int)) = (j : Int) := by rw [IntKind.wrap_i64]; omega
        have hjl : j < t.length := by omega
        have hjz : j < (⟨t.toArray⟩ : ByteArray).size := by rw [bsize]; omega
        have gd : (d : Int) < (t.length : Int) := by omega
        have hat : atD t c d = ((((⟨t.toArray⟩ : ByteArray)[j]'hjz).toNat : Int) == (c : Int)) := by
          rw [byteAt t j hjl hjz]
          unfold atD
          rw [decide_eq_true hdl, Bool.true_and, show t.length - 1 - d = j by omega]
          simp only [List.getD, List.getElem?_eq_getElem hjl, Option.getD_some]
          by_cases e : (t[j]).toNat = c
          · rw [e]; simp
          · rw [beq_eq_false_iff_ne.2 e, eq_comm, beq_eq_false_iff_ne]; omega
        have HAT := Lib.hid hat
        have HQ := Lib.hid hq1
        have HJ := Lib.hid hj
        cases hq : ((((⟨t.toArray⟩ : ByteArray)[j]'hjz).toNat : Int) == (c : Int)) with
        | true =>
          have HE : Hid (R = true) := Lib.hid (by rw [← HRR.out]; exact HH.out (by rw [HAT.out]; exact hq))
          clear hat hq1 hj HAT
          go_wp2_with fail
          go_quiet (fail)
          go_wp2
          go_ret
          exact ⟨by rw [HE.out]; rfl, below_drewS hbe _⟩
        | false =>
          have HE : Hid (hasD (ws.take (k + 1)) c d = false) := Lib.hid (by rw [HN.out, HAT.out]; exact hq)
          clear hat hq1 hj HAT
          go_wp2_with fail
          go_quiet (fail)
          go_wp2
          exact ⟨⟨k + 1, by omega, by go_num, HE, below_drewS hbe _⟩, by simp [RowKit.intOf]; omega⟩
      · have gd : ¬ (d : Int) < (t.length : Int) := by omega
        have gd2 : decide ((d : Int) < (t.length : Int)) = false := decide_eq_false gd
        have HE : Hid (hasD (ws.take (k + 1)) c d = false) := Lib.hid (by rw [HN.out]; unfold atD; rw [decide_eq_false hdl]; rfl)
        go_wp2_with fail
        go_quiet (fail)
        go_wp2
        exact ⟨⟨k + 1, by omega, by go_num, HE, below_drewS hbe _⟩, by simp [RowKit.intOf]; omega⟩
    · obtain rfl : k = len := by omega
      have hz : ¬ (k : Int) < (k : Int) := by omega
      have HE : Hid (R = false) := Lib.hid (by rw [← HRR.out, ← HK.out, List.take_of_length_le (by omega)])
      clear HK
      go_wp2
      go_ret
      exact ⟨by rw [HE.out]; rfl, hbe⟩

set_option maxRecDepth 100000 in
set_option maxHeartbeats 4000000 in
theorem rshfirst_any (a : Option Addr) (len cap c : Nat) (ws : List (List UInt8)) (w : World) (hlen : len ≤ 1000000) (hr : IsStrs w a len ws) (ht : ∀ t ∈ ws, t.length ≤ 65535) :
    Calls Try.prog 43 #[.slice a len cap, .int .u8 (c : Int)] w fun e w' => e = .returned (.int .i64 (fstL ws c : Int)) ∧ Below w.heap.size w w' := by
  have HLe := Lib.hid (rptleast_any a len cap ws w hlen hr ht)
  have HHas := Lib.hid (fun (d : Nat) (W : World) (hW : Below w.heap.size w W) (hd : d ≤ 1000000) => rhas_any a len cap c d ws W hlen (hr.below hW) (fun t h => by have := ht t h; omega) hd)
  have hml : leastR ws ≤ 65535 := by
    unfold leastR
    split
    · omega
    · exact least_le ws
  have HF : Hid (∀ n, n ≤ leastR ws → (∀ d, d < n → hasD ws c d = false) → (n < leastR ws → hasD ws c n = true) → fstL ws c = n) := Lib.hid (fun n h1 h2 h3 => mn_is h1 h2 h3)
  generalize leastR ws = m at HLe HF hml
  obtain ⟨R, hR⟩ : ∃ R, fstL ws c = R := ⟨_, rfl⟩
  rw [hR] at HF ⊢
  clear hR hr ht
  go_enter Try.func43, Try.ntmps43
  go_wp2_with fail
  refine HLe.out.mono ?_
  rintro e w' ⟨rfl, hw⟩
  obtain rfl := hw.symm
  clear hw HLe
  go_wp2
  go_loopw [6] (fun i wr => ∃ k : Nat, k ≤ m ∧ i = .int .i64 k ∧ Hid (∀ d, d < k → hasD ws c d = false) ∧ Below w.heap.size w wr) (fun i _ => m - (RowKit.intOf i).toNat)
  case atStart => exact ⟨0, Nat.zero_le _, rfl, Lib.hid (fun d h => by omega), Below.refl _ _⟩
  case round =>
    obtain ⟨k, hk, rfl, HK, hbe⟩ := hrel
    by_cases hlt : k < m
    · have HC := Lib.hid (HHas.out k wr hbe (by omega))
      have hsz := hbe.size
      cases hq : hasD ws c k with
      | true =>
        have HE : Hid (R = k) := Lib.hid (HF.out k hk HK.out (fun _ => hq))
        rw [hq] at HC
        clear HK hq
        go_wp2_with fail
        refine HC.out.mono ?_
        rintro e w3 ⟨rfl, hb3⟩
        have d3 := hbe.trans (hb3.mono hsz)
        clear HC hb3
        go_wp2
        go_ret
        exact ⟨by rw [HE.out]; rfl, d3⟩
      | false =>
        have HE : Hid (∀ d, d < k + 1 → hasD ws c d = false) := Lib.hid (fun d hd => by
          rcases Nat.lt_or_ge d k with h | h
          · exact HK.out d h
          · rw [show d = k by omega]; exact hq)
        rw [hq] at HC
        clear HK hq
        go_wp2_with fail
        refine HC.out.mono ?_
        rintro e w3 ⟨rfl, hb3⟩
        have d3 := hbe.trans (hb3.mono hsz)
        clear HC hb3
        go_wp2
        exact ⟨⟨k + 1, by omega, by go_num, HE, d3⟩, by simp [RowKit.intOf]; omega⟩
    · obtain rfl : k = m := by omega
      have hz : ¬ (k : Int) < (k : Int) := by omega
      have HE : Hid (R = k) := Lib.hid (HF.out k hk HK.out (fun h => by omega))
      clear HK
      go_wp2
      go_ret
      exact ⟨by rw [HE.out]; rfl, hbe⟩
end Go.Proofs.Ytngmjpfknehdkaa

namespace Go.Proofs.Ytngmjpfknehdkaa
open Go.RowKit

theorem has2_next {ws : List (List UInt8)} {k c d : Nat} {t : List UInt8} (h : ws[k]? = some t) (hk : has2 (ws.take k) c d = false) : has2 (ws.take (k + 1)) c d = at2 t c d := by
  have hlt := (List.getElem?_eq_some_iff.1 h).1
  have ht := (List.getElem?_eq_some_iff.1 h).2
  unfold has2 at *
  rw [List.take_succ_eq_append_getElem hlt, List.any_append, ht, hk]
  simp
theorem has2_hit {ws : List (List UInt8)} {k c d : Nat} {t : List UInt8} (h : ws[k]? = some t) (ha : at2 t c d = true) : has2 ws c d = true := List.any_eq_true.2 ⟨t, List.mem_of_getElem? h, ha⟩

set_option maxRecDepth 100000 in
set_option maxHeartbeats 4000000 in
theorem rhas2_any (a : Option Addr) (len cap x y d : Nat) (ws : List (List UInt8)) (w : World) (hlen : len ≤ 1000000) (hr : IsStrs w a len ws) (ht : ∀ t ∈ ws, t.length ≤ 1000000) (hd : d ≤ 1000000) (hx : x < 256) (hy : y < 256) :
    Calls Try.prog 63 #[.slice a len cap, .int .u8 (x : Int), .int .u8 (y : Int), .int .i64 (d : Int)] w fun e w' => e = .returned (.bool (has2 ws (two x y) d)) ∧ w' = w := by
  have hwl := hr.1
  have HT := Lib.hid ht
  have HR := Lib.hid hr
  clear ht hr
  obtain ⟨R, hR⟩ : ∃ R, has2 ws (two x y) d = R := ⟨_, rfl⟩
  rw [hR]
  have HRR := Lib.hid hR
  clear hR
  go_enter Try.func63, Try.ntmps63
  go_wp2
  go_loop [9, 10] (fun i z => ∃ k : Nat, k ≤ len ∧ i = .int .i64 k ∧ Hid (has2 (ws.take k) (two x y) d = false)) (fun i _ => len - (RowKit.intOf i).toNat)
  case atStart => exact ⟨0, Nat.zero_le _, rfl, Lib.hid rfl⟩
  case round =>
    obtain ⟨k, hk, rfl, HK⟩ := hrel
    by_cases hlt : k < len
    · obtain ⟨b, off, rfl, t, hf, hcell⟩ := str_at HR.out (Below.refl _ _) k hlt
      have htl := HT.out t (List.mem_of_getElem? hf)
      have S1 := Lib.hid (bsize t)
      have HN := Lib.hid (has2_next (c := two x y) (d := d) hf HK.out)
      have HH := Lib.hid (fun h => has2_hit (c := two x y) (d := d) hf h)
      have hlt2 : (k : Int) < (len : Int) := by omega
      have hlt3 : (0 : Int) ≤ (k : Int) := by omega
      have w0 : IntKind.i64.wrap ((d : Int) + 1) = (d : Int) + 1 := by rw [IntKind.wrap_i64]; omega
      clear hf HK
      by_cases hdl : d + 1 < t.length
      · obtain ⟨q, hq1⟩ : ∃ q, q + 1 = t.length := ⟨t.length - 1, by omega⟩
        obtain ⟨q2, hq2⟩ : ∃ q2, q2 + 2 = t.length := ⟨t.length - 2, by omega⟩
        obtain ⟨j, hj⟩ : ∃ j, j + 1 + d = t.length := ⟨t.length - 1 - d, by omega⟩
        obtain ⟨i, hi⟩ : ∃ i, i + 2 + d = t.length := ⟨t.length - 2 - d, by omega⟩
        have w1 : IntKind.i64.wrap ((t.length : Int) - 1) = (q : Int) := by rw [IntKind.wrap_i64]; omega
        have w2 : IntKind.i64.wrap ((q : Int) - (d : Int)) = (j : Int) := by rw [IntKind.wrap_i64]; omega
        have w3 : IntKind.i64.wrap ((t.length : Int) - 2) = (q2 : Int) := by rw [IntKind.wrap_i64]; omega
        have w4 : IntKind.i64.wrap ((q2 : Int) - (d : Int)) = (i : Int) := by rw [IntKind.wrap_i64]; omega
        have hjl : j < t.length := by omega
        have hil : i < t.length := by omega
        have hjz : j < (⟨t.toArray⟩ : ByteArray).size := by rw [bsize]; omega
        have hiz : i < (⟨t.toArray⟩ : ByteArray).size := by rw [bsize]; omega
        have gd : (d : Int) + 1 < (t.length : Int) := by omega
        obtain ⟨u, huu⟩ : ∃ u, (t[i]).toNat = u := ⟨_, rfl⟩
        obtain ⟨v, hvv⟩ : ∃ v, (t[j]).toNat = v := ⟨_, rfl⟩
        have hqv : ((⟨t.toArray⟩ : ByteArray)[j]'hjz).toNat = v := by rw [byteAt t j hjl hjz, hvv]
        have hqu : ((⟨t.toArray⟩ : ByteArray)[i]'hiz).toNat = u := by rw [byteAt t i hil hiz, huu]
        have hv : v < 256 := by rw [← hvv]; exact UInt8.toNat_lt _
        have hpr : prN t d = two u v := by
          unfold prN
          rw [show t.length - 1 - d = j by omega, show t.length - 2 - d = i by omega]
          simp only [List.getD, List.getElem?_eq_getElem hjl, List.getElem?_eq_getElem hil, Option.getD_some, huu, hvv]
        have HAT : Hid (at2 t (two x y) d = true ↔ u = x ∧ v = y) := Lib.hid (by
          rw [at2_iff hdl, hpr]
          exact ⟨fun h => two_inj hv hy h, fun h => by rw [h.1, h.2]⟩)
        have HQ := Lib.hid hq1
        have HQ2 := Lib.hid hq2
        have HJ := Lib.hid hj
        have HI := Lib.hid hi
        clear hpr huu hvv hq1 hq2 hj hi
        by_cases hvy : v = y
        · by_cases hux : u = x
          · have HE : Hid (R = true) := Lib.hid (by rw [← HRR.out]; exact HH.out (HAT.out.2 ⟨hux, hvy⟩))
            subst hvy
            subst hux
            clear HAT HN HH
            go_wp2
            go_ret
            exact ⟨by rw [HE.out]; rfl, rfl⟩
          · have HE : Hid (has2 (ws.take (k + 1)) (two x y) d = false) := Lib.hid (by
              rw [HN.out]
              cases h : at2 t (two x y) d with
              | false => rfl
              | true => exact absurd (HAT.out.1 h).1 hux)
            have g5 : ((u : Int) == (x : Int)) = false := by rw [beq_eq_false_iff_ne]; omega
            subst hvy
            clear HAT HN HH
            go_wp2
            exact ⟨⟨k + 1, by omega, by go_num, HE⟩, by simp [RowKit.intOf]; omega⟩
        · have HE : Hid (has2 (ws.take (k + 1)) (two x y) d = false) := Lib.hid (by
            rw [HN.out]
            cases h : at2 t (two x y) d with
            | false => rfl
            | true => exact absurd (HAT.out.1 h).2 hvy)
          have g5 : ((v : Int) == (y : Int)) = false := by rw [beq_eq_false_iff_ne]; omega
          clear HAT HN HH
          go_wp2
          exact ⟨⟨k + 1, by omega, by go_num, HE⟩, by simp [RowKit.intOf]; omega⟩
      · have gd : ¬ (d : Int) + 1 < (t.length : Int) := by omega
        have gd2 : decide ((d : Int) + 1 < (t.length : Int)) = false := decide_eq_false gd
        have HE : Hid (has2 (ws.take (k + 1)) (two x y) d = false) := Lib.hid (by rw [HN.out]; unfold at2; rw [decide_eq_false hdl]; rfl)
        go_wp2
        exact ⟨⟨k + 1, by omega, by go_num, HE⟩, by simp [RowKit.intOf]; omega⟩
    · obtain rfl : k = len := by omega
      have hz : ¬ (k : Int) < (k : Int) := by omega
      have HE : Hid (R = false) := Lib.hid (by rw [← HRR.out, ← HK.out, List.take_of_length_le (by omega)])
      clear HK
      go_wp2
      go_ret
      exact ⟨by rw [HE.out]; rfl, rfl⟩

theorem rfar_any (a : Option Addr) (len cap : Nat) (ws : List (List UInt8)) (w : World) (hlen : len ≤ 1000000) (hr : IsStrs w a len ws) (ht : ∀ t ∈ ws, t.length ≤ 65535) :
    Calls Try.prog 62 #[.slice a len cap] w fun e w' => e = .returned (.int .i64 (farL ws : Int)) ∧ w' = w := by
  have HL := Lib.hid (rptleast_any a len cap ws w hlen hr ht)
  have HM : Hid (farL ws = leastR ws - 1) := Lib.hid rfl
  have hml : leastR ws ≤ 65535 := by
    unfold leastR
    split
    · omega
    · exact least_le ws
  generalize farL ws = m at HM ⊢
  generalize leastR ws = l at HL HM hml
  clear hr ht
  by_cases h0 : l = 0
  · obtain rfl := h0
    have hm := HM.out
    obtain rfl : m = 0 := by omega
    clear hm HM
    go_enter Try.func62, Try.ntmps62
    go_wp2_with fail
    refine HL.out.mono ?_
    rintro e w' ⟨rfl, rfl⟩
    go_wp2
    go_ret
    exact ⟨rfl, rfl⟩
  · have w1 : IntKind.i64.wrap ((l : Int) - 1) = (m : Int) := by rw [IntKind.wrap_i64, HM.out]; omega
    have h1 : ((l : Int) == 0) = false := by rw [beq_eq_false_iff_ne]; omega
    go_enter Try.func62, Try.ntmps62
    go_wp2_with fail
    refine HL.out.mono ?_
    rintro e w' ⟨rfl, rfl⟩
    go_wp2
    go_ret
    exact ⟨rfl, rfl⟩

set_option maxRecDepth 100000 in
set_option maxHeartbeats 4000000 in
theorem rnear_any (a : Option Addr) (len cap x y : Nat) (ws : List (List UInt8)) (w : World) (hlen : len ≤ 1000000) (hr : IsStrs w a len ws) (ht : ∀ t ∈ ws, t.length ≤ 65535) (hx : x < 256) (hy : y < 256) :
    Calls Try.prog 44 #[.slice a len cap, .int .u8 (x : Int), .int .u8 (y : Int)] w fun e w' => e = .returned (.int .i64 (nearL ws (two x y) : Int)) ∧ w' = w := by
  have HFar := Lib.hid (rfar_any a len cap ws w hlen hr ht)
  have HHas := Lib.hid (fun (d : Nat) (hd : d ≤ 1000000) => rhas2_any a len cap x y d ws w hlen hr (fun t h => by have := ht t h; omega) hd hx hy)
  have hml : farL ws ≤ 65535 := by
    unfold farL leastR
    split
    · omega
    · have := least_le ws; omega
  have HF : Hid (∀ n, n ≤ farL ws → (∀ d, d < n → has2 ws (two x y) d = false) → (n < farL ws → has2 ws (two x y) n = true) → nearL ws (two x y) = n) := Lib.hid (fun n h1 h2 h3 => mn_is h1 h2 h3)
  generalize farL ws = m at HFar HF hml
  obtain ⟨R, hR⟩ : ∃ R, nearL ws (two x y) = R := ⟨_, rfl⟩
  rw [hR] at HF ⊢
  clear hR hr ht
  go_enter Try.func44, Try.ntmps44
  go_wp2
  go_loop [7] (fun i => ∃ k : Nat, k ≤ m ∧ i = .int .i64 k ∧ Hid (∀ d, d < k → has2 ws (two x y) d = false)) (fun i => m - (RowKit.intOf i).toNat)
  case atStart => exact ⟨0, Nat.zero_le _, rfl, Lib.hid (fun d h => by omega)⟩
  case round =>
    obtain ⟨k, hk, rfl, HK⟩ := hrel
    go_wp2_with fail
    refine HFar.out.mono ?_
    rintro e w' ⟨rfl, hw⟩
    obtain rfl := hw.symm
    clear hw
    by_cases hlt : k < m
    · have HC := Lib.hid (HHas.out k (by omega))
      cases hq : has2 ws (two x y) k with
      | true =>
        have HE : Hid (R = k) := Lib.hid (HF.out k hk HK.out (fun _ => hq))
        rw [hq] at HC
        clear HK hq
        go_wp2_with fail
        refine HC.out.mono ?_
        rintro e w3 ⟨rfl, rfl⟩
        go_wp2
        go_ret
        exact ⟨by rw [HE.out]; rfl, rfl⟩
      | false =>
        have HE : Hid (∀ d, d < k + 1 → has2 ws (two x y) d = false) := Lib.hid (fun d hd => by
          rcases Nat.lt_or_ge d k with h | h
          · exact HK.out d h
          · rw [show d = k by omega]; exact hq)
        rw [hq] at HC
        clear HK hq
        go_wp2_with fail
        refine HC.out.mono ?_
        rintro e w3 ⟨rfl, rfl⟩
        go_wp2
        exact ⟨⟨k + 1, by omega, by go_num, HE⟩, by simp [RowKit.intOf]; omega⟩
    · obtain rfl : k = m := by omega
      have hz : ¬ (k : Int) < (k : Int) := by omega
      have HE : Hid (R = k) := Lib.hid (HF.out k hk HK.out (fun h => by omega))
      clear HK
      go_wp2_with fail
      refine HFar.out.mono ?_
      rintro e w' ⟨rfl, hw⟩
      obtain rfl := hw.symm
      clear hw
      go_wp2
      go_ret
      exact ⟨by rw [HE.out]; rfl, rfl⟩
end Go.Proofs.Ytngmjpfknehdkaa

namespace Go.Proofs.Ytngmjpfknehdkaa
open Go.RowKit


set_option maxHeartbeats 1000000 in
theorem rptmost_any (a : Option Addr) (len cap : Nat) (ws : List (List UInt8)) (w : World) (hlen : len ≤ 1000000) (hr : IsStrs w a len ws) (ht : ∀ t ∈ ws, t.length ≤ 65535) :
    Calls Try.prog 10 #[.slice a len cap] w fun e w' => e = .returned (.int .i64 (mostL ws : Int)) ∧ w' = w := by
  have hwl := hr.1
  have HI := Lib.hid hr
  have HT := Lib.hid ht
  have HW : Hid (ws.take len = ws) := Lib.hid (List.take_of_length_le (by omega))
  clear hr ht
  go_enter Try.func10, Try.ntmps10
  go_wp2
  go_loop [3, 4] (fun x i => ∃ k n : Nat, k ≤ len ∧ i = .int .i64 k ∧ x = .int .i64 n ∧ n ≤ 65535 ∧ Hid (mostL (ws.take k) = n)) (fun _ i => len - (RowKit.intOf i).toNat)
  case atStart => exact ⟨0, 0, Nat.zero_le _, rfl, rfl, by omega, Lib.hid rfl⟩
  case round =>
    obtain ⟨k, n, hk, rfl, rfl, hn, HK⟩ := hrel
    by_cases hlt : k < len
    · obtain ⟨b, off, rfl, t, hf, hc⟩ := str_at HI.out (Below.refl _ _) k hlt
      have HS := Lib.hid (bsize t)
      have htl := HT.out t (List.mem_of_getElem? hf)
      by_cases hq : n < t.length
      · have HK2 : Hid (mostL (ws.take (k + 1)) = t.length) := Lib.hid (by rw [most_snoc hf, HK.out]; omega)
        clear hf HK
        go_wp2
        exact ⟨⟨k + 1, t.length, by omega, by go_num, rfl, htl, HK2⟩, by simp [RowKit.intOf]; omega⟩
      · have HK2 : Hid (mostL (ws.take (k + 1)) = n) := Lib.hid (by rw [most_snoc hf, HK.out]; omega)
        clear hf HK
        go_wp2
        exact ⟨⟨k + 1, n, by omega, by go_num, rfl, hn, HK2⟩, by simp [RowKit.intOf]; omega⟩
    · obtain rfl : k = len := by omega
      have HE : Hid (mostL ws = n) := Lib.hid (by have := HK.out; rwa [HW.out] at this)
      clear HK
      go_wp2
      go_ret
      exact ⟨by rw [HE.out]; rfl, rfl⟩

end Go.Proofs.Ytngmjpfknehdkaa

namespace Go.Proofs.Ytngmjpfknehdkaa
open Go.RowKit

set_option maxHeartbeats 1000000 in
theorem rstands_any (p s : List UInt8) (e : Nat) (w : World) (hp : p.length ≤ 1000000) (hs : s.length ≤ 1000000) (he : e ≤ 9223372036854775807) :
    Calls Try.prog 40 #[.string ⟨p.toArray⟩, .string ⟨s.toArray⟩, .int .i64 (e : Int)] w fun en w' => en = .returned (.bool (stB p s e)) ∧ w = w' := by
  have S1 := Lib.hid (bsize p)
  have S2 := Lib.hid (bsize s)
  by_cases h1 : p.length ≤ e
  · by_cases h2 : e ≤ s.length
    · have x1 := ext_cut s (e - p.length) e
      have HQ := Lib.hid (st_cut h1 h2)
      have g1 : (p.length : Int) ≤ (e : Int) := by omega
      have g2 : (e : Int) ≤ (s.length : Int) := by omega
      have g3 : ((e : Int) - (p.length : Int)).toNat = e - p.length := by omega
      have g4 : (0 : Int) ≤ (e : Int) - (p.length : Int) := by omega
      have g5 : (e : Int) - (p.length : Int) ≤ (e : Int) := by omega
      have g6 : IntKind.i64.wrap ((e : Int) - (p.length : Int)) = (e : Int) - (p.length : Int) := by rw [IntKind.wrap_i64]; omega
      cases hq : ((s.take e).drop (e - p.length) == p) with
      | true =>
        rw [hq] at HQ
        generalize (s.take e).drop (e - p.length) = u at x1 hq
        go_enter Try.func40, Try.ntmps40
        go_wp2
        go_ret
        exact ⟨by rw [HQ.out]; rfl, rfl⟩
      | false =>
        rw [hq] at HQ
        generalize (s.take e).drop (e - p.length) = u at x1 hq
        go_enter Try.func40, Try.ntmps40
        go_wp2
        go_ret
        exact ⟨by rw [HQ.out]; rfl, rfl⟩
    · have HQ := Lib.hid (st_no (p := p) (s := s) (e := e) (.inr (by omega)))
      have g1 : (p.length : Int) ≤ (e : Int) := by omega
      have g2 : ¬ (e : Int) ≤ (s.length : Int) := by omega
      go_enter Try.func40, Try.ntmps40
      go_wp2
      go_ret
      exact ⟨by rw [HQ.out]; rfl, rfl⟩
  · have HQ := Lib.hid (st_no (p := p) (s := s) (e := e) (.inl (by omega)))
    have g1 : ¬ (p.length : Int) ≤ (e : Int) := by omega
    go_enter Try.func40, Try.ntmps40
    go_wp2
    go_ret
    exact ⟨by rw [HQ.out]; rfl, rfl⟩
end Go.Proofs.Ytngmjpfknehdkaa

namespace Go.Proofs.Ytngmjpfknehdkaa
open Go.RowKit

theorem atZ_if (us : List (List UInt8)) (s : List UInt8) (e : Int) : atZ us s e = if 0 ≤ e then idsK us s e.toNat us.length else [] := by
  unfold atZ
  by_cases h0 : 0 ≤ e
  · by_cases h1 : e ≤ (s.length : Int)
    · rw [if_pos ⟨h0, h1⟩, if_pos h0]
    · rw [if_neg (fun h => h1 h.2), if_pos h0, ids_none (by omega)]
  · rw [if_neg (fun h => h0 h.1), if_neg h0]

set_option maxRecDepth 100000 in
set_option maxHeartbeats 1000000 in
theorem rat_any (a : Option Addr) (len cap : Nat) (us : List (List UInt8)) (s : List UInt8) (e : Int) (w : World) (hlen : len ≤ 1000000) (hr : IsStrs w a len us) (hu : ∀ t ∈ us, t.length ≤ 1000000) (hs : s.length ≤ 1000000) (he : e ≤ 9223372036854775807) :
    Calls Try.prog 16 #[.slice a len cap, .string ⟨s.toArray⟩, .int .i64 e] w (RetN (atZ us s e) w) := by
  have hwl := hr.1
  have HH := Lib.hid hr
  have HU := Lib.hid hu
  obtain ⟨i0, hi, hz0, hz1, hz2⟩ := info_parts int_info
  rw [atZ_if]
  by_cases h0 : 0 ≤ e
  · rw [if_pos h0]
    obtain ⟨m, rfl⟩ : ∃ m : Nat, e = (m : Int) := ⟨e.toNat, by omega⟩
    rw [Int.toNat_natCast]
    clear hr hu
    go_enter Try.func16, Try.ntmps16
    go_wp2
    go_loopw [7, 8] (fun v i wr => ∃ (k : Nat) (acc : List Int), k ≤ len ∧ i = .int .i64 k ∧ acc.length ≤ k ∧ Hid (idsK us s m k = acc) ∧ wr.ownsRow w.heap.size 3 1 v acc.length (inCells acc) ∧ Below w.heap.size w wr) (fun _ i _ => len - (RowKit.intOf i).toNat)
    case atStart => exact ⟨0, [], Nat.zero_le _, rfl, Nat.le_refl _, Lib.hid rfl, World.ownsRow_made w #[] 0 (Nat.le_refl _) (by unfold maxLen; omega) rfl, (Below.refl _ _).alloc (Nat.le_refl _) _⟩
    case round =>
      obtain ⟨k, acc, hk, rfl, hac, HK, hown, hbe⟩ := hrel
      have hsz := hbe.size
      by_cases hlt : k < len
      · obtain ⟨b, off, rfl, t, hf, hc⟩ := str_at HH.out hbe k hlt
        have htl := HU.out t (List.mem_of_getElem? hf)
        have HC := Lib.hid (rstands_any t s m wr htl hs (by omega))
        have g0 : (0 : Int) ≤ (k : Int) := by omega
        have g1 : (k : Int) < (len : Int) := by omega
        have g2 : (0 : Int) ≤ (m : Int) := by omega
        cases hq : stB t s m with
        | true =>
          have HR : Hid (idsK us s m (k + 1) = acc ++ [(k : Int)]) := Lib.hid (by rw [ids_hit hf hq, HK.out])
          rw [hq] at HC
          clear hq hf HK
          go_wp2_with fail
          refine HC.out.mono ?_
          rintro en w' ⟨rfl, rfl⟩
          clear HC
          go_wp2_with (at_builtin; refine wpList_append_own _ rfl _ _ 38 rfl w.heap.size 3 i0 (.int .i64 0) 1 8 Try.underlying38 hi hz0 hz1 hz2 rfl (by decide) _ _ _ rfl (hown.alloc _) ⟨wr.heap.size, 0, none⟩ 1 1 [.int .i64 (k : Int)] rfl rfl (int_news (heap_alloc_new wr _)) int_one (by unfold maxLen; omega) (by omega) (by simp; omega) ?_)
          intro v' w3 hown3 hgrow _
          have h3 : Below w.heap.size w w3 := (hbe.alloc hsz _).grown hgrow (by simp; omega) (fun j hj => (hown.lt j hj).1)
          clear hgrow hown hbe
          go_wp2
          exact ⟨⟨k + 1, acc ++ [(k : Int)], by omega, by go_num, by rw [List.length_append, List.length_singleton]; omega, HR, by rw [inCells_snoc, List.length_append]; exact hown3, h3⟩, by simp [RowKit.intOf]; omega⟩
        | false =>
          have HR : Hid (idsK us s m (k + 1) = acc) := Lib.hid (by rw [ids_miss hf hq, HK.out])
          rw [hq] at HC
          clear hq hf HK
          go_wp2_with fail
          refine HC.out.mono ?_
          rintro en w' ⟨rfl, rfl⟩
          clear HC
          go_wp2
          exact ⟨⟨k + 1, acc, by omega, by go_num, by omega, HR, hown, hbe⟩, by simp [RowKit.intOf]; omega⟩
      · obtain rfl : k = len := by omega
        have hz : ¬ (k : Int) < (k : Int) := by omega
        have HO := Lib.hid hown
        clear hown
        go_wp2
        go_ret
        exact ⟨_, rfl, by rw [HK.out]; exact HO.out, hbe⟩
  · rw [if_neg h0]
    clear hr hu
    go_enter Try.func16, Try.ntmps16
    go_wp2
    go_loopw [7, 8] (fun v i wr => ∃ (k : Nat), k ≤ len ∧ i = .int .i64 k ∧ wr.ownsRow w.heap.size 3 1 v 0 [] ∧ Below w.heap.size w wr) (fun _ i _ => len - (RowKit.intOf i).toNat)
    case atStart => exact ⟨0, Nat.zero_le _, rfl, World.ownsRow_made w #[] 0 (Nat.le_refl _) (by unfold maxLen; omega) rfl, (Below.refl _ _).alloc (Nat.le_refl _) _⟩
    case round =>
      obtain ⟨k, hk, rfl, hown, hbe⟩ := hrel
      have hsz := hbe.size
      by_cases hlt : k < len
      · have g0 : (0 : Int) ≤ (k : Int) := by omega
        have g1 : (k : Int) < (len : Int) := by omega
        go_wp2
        exact ⟨⟨k + 1, by omega, by go_num, hown, hbe⟩, by simp [RowKit.intOf]; omega⟩
      · obtain rfl : k = len := by omega
        have hz : ¬ (k : Int) < (k : Int) := by omega
        have HO := Lib.hid hown
        clear hown
        go_wp2
        go_ret
        exact ⟨_, rfl, HO.out, hbe⟩
end Go.Proofs.Ytngmjpfknehdkaa

namespace Go.Proofs.Ytngmjpfknehdkaa
open Go.RowKit

/-- A set of these patterns lies in block b. -/
def IsSet (w : World) (b : Nat) (ws : List (List UInt8)) : Prop :=
  ∃ g cap, w.heap[b]? = some (.cells #[.slice (some ⟨g, 0, none⟩) ws.length cap, .int .i64 (leastL ws : Int), .int .i64 (mostL ws : Int), .int .i64 (totalL ws : Int)] 56 (0, 0)) ∧
    w.ownsRow 0 9 1 (.slice (some ⟨g, 0, none⟩) ws.length cap) ws.length (txCells ws)

theorem IsSet.lt {w : World} {b : Nat} {ws : List (List UInt8)} (h : IsSet w b ws) : b < w.heap.size := by
  obtain ⟨g, cap, h1, _⟩ := h
  exact heap_lt h1
theorem IsSet.below {w w' : World} {b : Nat} {ws : List (List UInt8)} (h : IsSet w b ws) (hb : Below w.heap.size w w') : IsSet w' b ws := by
  obtain ⟨g, cap, h1, h2⟩ := h
  exact ⟨g, cap, (hb.block b (heap_lt h1)).trans h1, tx_below h2 hb⟩
theorem IsSet.drewN {w : World} {b : Nat} {ws : List (List UInt8)} (h : IsSet w b ws) (n : Nat) : IsSet (w.drewN n) b ws := h
theorem own_strs {w : World} {base : Nat} {g n cap : Nat} {ws : List (List UInt8)} (h : w.ownsRow base 9 1 (.slice (some ⟨g, 0, none⟩) n cap) n (txCells ws)) : IsStrs w (some ⟨g, 0, none⟩) n ws := by
  have e : ws.length = n := by have := h.1; rw [txCells, List.length_map] at this; omega
  refine ⟨e, .inr ⟨g, 0, rfl, fun i hi => ?_⟩⟩
  have hc := h.cells (g := g) rfl i (.string ⟨(ws[i]'hi).toArray⟩) (by simp [txCells, List.getElem?_eq_getElem hi])
  rwa [addPlain] at hc

/-- What is read of a set. -/
theorem IsSet.reads {w : World} {b : Nat} {ws : List (List UInt8)} (h : IsSet w b ws) : ∃ g cap, w.cell? ⟨b, 0, none⟩ = some (.slice (some ⟨g, 0, none⟩) ws.length cap) ∧ w.cell? ⟨b, 1, none⟩ = some (.int .i64 (leastL ws : Int)) ∧
    w.cell? ⟨b, 2, none⟩ = some (.int .i64 (mostL ws : Int)) ∧ w.cell? ⟨b, 3, none⟩ = some (.int .i64 (totalL ws : Int)) ∧ w.ownsRow 0 9 1 (.slice (some ⟨g, 0, none⟩) ws.length cap) ws.length (txCells ws) := by
  obtain ⟨g, cap, h1, h2⟩ := h
  refine ⟨g, cap, ?_, ?_, ?_, ?_, h2⟩ <;> rw [Lib.cell_of_heap h1] <;> rfl
end Go.Proofs.Ytngmjpfknehdkaa

namespace Go.Proofs.Ytngmjpfknehdkaa
open Go.RowKit

theorem ptlen_nil (w : World) : Calls Try.prog 52 #[.pointer none] w fun e w' => e = .returned (.int .i64 0) ∧ w' = w := by
  go_enter Try.func52, Try.ntmps52
  go_wp2
  go_ret
  exact ⟨rfl, rfl⟩
theorem ptlen_any {w : World} {b : Nat} {ws : List (List UInt8)} (h : IsSet w b ws) : Calls Try.prog 52 #[.pointer (some ⟨b, 0, none⟩)] w fun e w' => e = .returned (.int .i64 (ws.length : Int)) ∧ w' = w := by
  obtain ⟨g, cap, c0, _⟩ := h.reads
  clear h
  go_enter Try.func52, Try.ntmps52
  go_wp2
  go_ret
  exact ⟨rfl, rfl⟩
theorem ptat_nil (n : Int) (w : World) : Calls Try.prog 37 #[.pointer none, .int .i64 n] w fun e w' => e = .returned (.tuple #[.string ByteArray.empty, .bool false]) ∧ w' = w := by
  by_cases h : n < 0
  · go_enter Try.func37, Try.ntmps37
    go_wp2
    go_ret2
    exact ⟨rfl, rfl⟩
  · go_enter Try.func37, Try.ntmps37
    go_wp2_with fail
    refine (ptlen_nil w).mono ?_
    rintro e w' ⟨rfl, rfl⟩
    go_wp2
    go_ret2
    exact ⟨rfl, rfl⟩
theorem ptat_out {w : World} {b : Nat} {ws : List (List UInt8)} (h : IsSet w b ws) (n : Int) (hn : n < 0 ∨ (ws.length : Int) ≤ n) : Calls Try.prog 37 #[.pointer (some ⟨b, 0, none⟩), .int .i64 n] w fun e w' => e = .returned (.tuple #[.string ByteArray.empty, .bool false]) ∧ w' = w := by
  have HL := Lib.hid (ptlen_any h)
  clear h
  by_cases h0 : n < 0
  · clear hn
    go_enter Try.func37, Try.ntmps37
    go_wp2
    go_ret2
    exact ⟨rfl, rfl⟩
  · have h1 : (ws.length : Int) ≤ n := by omega
    clear hn
    go_enter Try.func37, Try.ntmps37
    go_wp2_with fail
    refine HL.out.mono ?_
    rintro e w' ⟨rfl, rfl⟩
    go_wp2
    go_ret2
    exact ⟨rfl, rfl⟩
theorem ptat_in {w : World} {b : Nat} {ws : List (List UInt8)} (h : IsSet w b ws) (k : Nat) (t : List UInt8) (ht : ws[k]? = some t) : Calls Try.prog 37 #[.pointer (some ⟨b, 0, none⟩), .int .i64 (k : Int)] w fun e w' => e = .returned (.tuple #[.string ⟨t.toArray⟩, .bool true]) ∧ w' = w := by
  have HL := Lib.hid (ptlen_any h)
  obtain ⟨g, cap, c0, _, _, _, hown⟩ := h.reads
  have hk := (List.getElem?_eq_some_iff.1 ht).1
  have hc := own_strs hown
  obtain ⟨b', off, e, t', ht', hcell⟩ := str_at hc (Below.refl _ _) k hk
  cases e
  obtain rfl : t' = t := Option.some.inj (ht'.symm.trans ht)
  rw [Nat.zero_add] at hcell
  have g0 : ¬ (k : Int) < 0 := by omega
  have g1 : (k : Int) < (ws.length : Int) := by omega
  have g2 : (0 : Int) ≤ (k : Int) := by omega
  clear h ht ht' hown hc
  go_enter Try.func37, Try.ntmps37
  go_wp2_with fail
  refine HL.out.mono ?_
  rintro e w' ⟨rfl, rfl⟩
  go_wp2
  go_ret2
  exact ⟨rfl, rfl⟩
end Go.Proofs.Ytngmjpfknehdkaa

namespace Go.Proofs.Ytngmjpfknehdkaa
open Go.RowKit


/-- The patterns of the set that texts make; none, if they make none. -/
def setL (ws : List (List UInt8)) : List (List UInt8) := if faultL ws = 0 then srt ws else []
theorem set_good {ws : List (List UInt8)} (h : faultL ws = 0) : setL ws = srt ws := if_pos h
theorem set_bad {ws : List (List UInt8)} (h : ¬ faultL ws = 0) : setL ws = [] := if_neg h
theorem set_length (ws : List (List UInt8)) : (setL ws).length ≤ ws.length := by
  unfold setL
  split
  · rw [srt_length]; exact Nat.le_refl _
  · exact Nat.zero_le _
theorem set_mem {ws : List (List UInt8)} {t : List UInt8} (h : t ∈ setL ws) : t ∈ ws ∧ 1 ≤ t.length ∧ t.length ≤ 65535 := by
  by_cases hf : faultL ws = 0
  · rw [set_good hf] at h
    have hm := (srt_perm ws).mem_iff.1 h
    exact ⟨hm, ((fault_zero ws).1 hf).each t hm⟩
  · rw [set_bad hf] at h; cases h
theorem set_asc (ws : List (List UInt8)) : Asc (setL ws) := by
  by_cases hf : faultL ws = 0
  · rw [set_good hf]; exact srt_asc ws
  · rw [set_bad hf]; exact List.Pairwise.nil

/-- A set behind a pointer, or none. -/
def IsPats (w : World) (p : Option Addr) (us : List (List UInt8)) : Prop := (p = none ∧ us = []) ∨ ∃ b, p = some ⟨b, 0, none⟩ ∧ IsSet w b us ∧ Pats us
theorem IsPats.below {w w' : World} {p : Option Addr} {us : List (List UInt8)} (h : IsPats w p us) (hb : Below w.heap.size w w') : IsPats w' p us :=
  h.elim .inl (fun ⟨b, h1, h2, h3⟩ => .inr ⟨b, h1, h2.below hb, h3⟩)

theorem IsPats.heap {w W : World} {p : Option Addr} {us : List (List UInt8)} (h : IsPats w p us) (e : W.heap = w.heap) : IsPats W p us := by
  unfold IsPats IsSet World.ownsRow at *
  rw [e]
  exact h

theorem ptlen_all {w : World} {p : Option Addr} {us : List (List UInt8)} (h : IsPats w p us) : Calls Try.prog 52 #[.pointer p] w fun e w' => e = .returned (.int .i64 (us.length : Int)) ∧ w' = w := by
  rcases h with ⟨rfl, rfl⟩ | ⟨b, rfl, h, _⟩
  · exact ptlen_nil w
  · exact ptlen_any h
theorem ptat_all {w : World} {p : Option Addr} {us : List (List UInt8)} (h : IsPats w p us) (k : Nat) (t : List UInt8) (ht : us[k]? = some t) : Calls Try.prog 37 #[.pointer p, .int .i64 (k : Int)] w fun e w' => e = .returned (.tuple #[.string ⟨t.toArray⟩, .bool true]) ∧ w' = w := by
  rcases h with ⟨rfl, rfl⟩ | ⟨b, rfl, h, _⟩
  · simp at ht
  · exact ptat_in h k t ht
end Go.Proofs.Ytngmjpfknehdkaa
