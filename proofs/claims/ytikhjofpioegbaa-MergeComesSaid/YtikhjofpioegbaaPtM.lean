/-
  Sets of patterns as lists: why texts are no set, and what is told of one. No program here.
-/
import Derived.Test.YtikhjofpioegbaaAfM
set_option linter.unusedSimpArgs false
set_option linter.unusedVariables false
namespace Go.Proofs.Ytikhjofpioegbaa

/-- How long the shortest, the longest one is, and all together. -/
def leastL (ws : List (List UInt8)) : Nat := ws.foldl (fun n t => min n t.length) 65535
def mostL (ws : List (List UInt8)) : Nat := ws.foldl (fun n t => max n t.length) 0
def totalL (ws : List (List UInt8)) : Nat := ws.foldl (fun n t => n + t.length) 0

theorem foldl_snoc {β : Type} {ws : List (List UInt8)} {k : Nat} {t : List UInt8} (f : β → List UInt8 → β) (z : β) (h : ws[k]? = some t) : (ws.take (k + 1)).foldl f z = f ((ws.take k).foldl f z) t := by
  obtain ⟨hk, rfl⟩ := List.getElem?_eq_some_iff.1 h
  rw [List.take_succ_eq_append_getElem hk, List.foldl_append]; rfl
theorem least_snoc {ws : List (List UInt8)} {k : Nat} {t : List UInt8} (h : ws[k]? = some t) : leastL (ws.take (k + 1)) = min (leastL (ws.take k)) t.length := foldl_snoc _ _ h
theorem most_snoc {ws : List (List UInt8)} {k : Nat} {t : List UInt8} (h : ws[k]? = some t) : mostL (ws.take (k + 1)) = max (mostL (ws.take k)) t.length := foldl_snoc _ _ h
theorem total_snoc {ws : List (List UInt8)} {k : Nat} {t : List UInt8} (h : ws[k]? = some t) : totalL (ws.take (k + 1)) = totalL (ws.take k) + t.length := foldl_snoc _ _ h

theorem least_le (ws : List (List UInt8)) : leastL ws ≤ 65535 := by
  suffices h : ∀ (ws : List (List UInt8)) (n : Nat), ws.foldl (fun n t => min n t.length) n ≤ n from h ws 65535
  intro ws
  induction ws with
  | nil => intro n; exact Nat.le_refl _
  | cons t r ih => intro n; exact Nat.le_trans (ih _) (Nat.min_le_left _ _)
theorem most_le {ws : List (List UInt8)} {m : Nat} (h : ∀ t ∈ ws, t.length ≤ m) : mostL ws ≤ m := by
  suffices g : ∀ (ws : List (List UInt8)) (n : Nat), n ≤ m → (∀ t ∈ ws, t.length ≤ m) → ws.foldl (fun n t => max n t.length) n ≤ m from g ws 0 (Nat.zero_le _) h
  intro ws
  induction ws with
  | nil => intro n hn _; exact hn
  | cons t r ih => intro n hn ht; exact ih _ (Nat.max_le.2 ⟨hn, ht t List.mem_cons_self⟩) (fun u hu => ht u (List.mem_cons_of_mem _ hu))
theorem foldl_total (ws : List (List UInt8)) : ∀ n : Nat, ws.foldl (fun n t => n + t.length) n = n + totalL ws := by
  unfold totalL
  induction ws with
  | nil => intro n; rfl
  | cons t r ih => intro n; rw [List.foldl_cons, List.foldl_cons, ih, ih (0 + t.length)]; omega
theorem total_cons (t : List UInt8) (r : List (List UInt8)) : totalL (t :: r) = t.length + totalL r := by
  show r.foldl (fun n t => n + t.length) (0 + t.length) = _
  rw [foldl_total, Nat.zero_add]
theorem total_append (ws us : List (List UInt8)) : totalL (ws ++ us) = totalL ws + totalL us := by
  unfold totalL
  rw [List.foldl_append]
  exact foldl_total us _
theorem total_take_le (ws : List (List UInt8)) (k : Nat) : totalL (ws.take k) ≤ totalL ws := by
  have := total_append (ws.take k) (ws.drop k)
  rw [List.take_append_drop] at this
  omega
theorem total_perm {ws us : List (List UInt8)} (h : ws.Perm us) : totalL ws = totalL us := by
  induction h with
  | nil => rfl
  | cons t _ ih => rw [total_cons, total_cons, ih]
  | swap a b r => rw [total_cons, total_cons, total_cons, total_cons]; omega
  | trans _ _ i1 i2 => exact i1.trans i2
theorem total_le {ws : List (List UInt8)} {m : Nat} (h : ∀ t ∈ ws, t.length ≤ m) : totalL ws ≤ ws.length * m := by
  induction ws with
  | nil => simp [totalL]
  | cons t r ih =>
    rw [total_cons, List.length_cons, Nat.succ_mul]
    have := ih (fun u hu => h u (List.mem_cons_of_mem _ hu))
    have := h t List.mem_cons_self
    omega

/-- The first one that is no pattern: why. -/
def badS : List (List UInt8) → Option Int
  | [] => none
  | t :: r => if t.length = 0 then some 7 else if 65535 < t.length then some 5 else badS r
theorem bad_append : ∀ (a b : List (List UInt8)), badS (a ++ b) = (badS a).or (badS b)
  | [], b => by simp [badS]
  | t :: r, b => by
    rw [List.cons_append, badS, badS]
    split
    · rfl
    · split
      · rfl
      · exact bad_append r b
theorem bad_zero {ws : List (List UInt8)} {k : Nat} {t : List UInt8} (hn : badS (ws.take k) = none) (h : ws[k]? = some t) (h0 : t.length = 0) : badS ws = some 7 := by
  obtain ⟨hk, rfl⟩ := List.getElem?_eq_some_iff.1 h
  rw [← List.take_append_drop k ws, bad_append, hn, List.drop_eq_getElem_cons hk, badS, if_pos h0]; rfl
theorem bad_long {ws : List (List UInt8)} {k : Nat} {t : List UInt8} (hn : badS (ws.take k) = none) (h : ws[k]? = some t) (h0 : 65535 < t.length) : badS ws = some 5 := by
  obtain ⟨hk, rfl⟩ := List.getElem?_eq_some_iff.1 h
  rw [← List.take_append_drop k ws, bad_append, hn, List.drop_eq_getElem_cons hk, badS, if_neg (by omega), if_pos h0]; rfl
theorem bad_snoc {ws : List (List UInt8)} {k : Nat} {t : List UInt8} (hn : badS (ws.take k) = none) (h : ws[k]? = some t) (h0 : ¬ t.length = 0) (h1 : ¬ 65535 < t.length) : badS (ws.take (k + 1)) = none := by
  obtain ⟨hk, rfl⟩ := List.getElem?_eq_some_iff.1 h
  rw [List.take_succ_eq_append_getElem hk, bad_append, hn, badS, if_neg h0, if_neg h1]; rfl
theorem bad_none : ∀ (ws : List (List UInt8)), badS ws = none ↔ ∀ t ∈ ws, 1 ≤ t.length ∧ t.length ≤ 65535
  | [] => by simp [badS]
  | t :: r => by
    rw [badS]
    have ih := bad_none r
    by_cases h0 : t.length = 0
    · rw [if_pos h0]
      simp only [reduceCtorEq, List.mem_cons, forall_eq_or_imp, false_iff]
      intro h; omega
    · by_cases h1 : 65535 < t.length
      · rw [if_neg h0, if_pos h1]
        simp only [reduceCtorEq, List.mem_cons, forall_eq_or_imp, false_iff]
        intro h; omega
      · rw [if_neg h0, if_neg h1, ih]
        simp only [List.mem_cons, forall_eq_or_imp]
        exact ⟨fun h => ⟨⟨by omega, by omega⟩, h⟩, fun h => h.2⟩

/-- Why texts are no set; 0: they are one. -/
def faultL (ws : List (List UInt8)) : Int :=
  if ws.length = 0 then 14 else if 65535 < ws.length then 6 else match badS ws with
    | some e => e
    | none => if 16777216 < totalL ws then 13 else if 0 ≤ twS [] ws 0 then 8 else 0

theorem fault_none {ws : List (List UInt8)} (h : ws.length = 0) : faultL ws = 14 := by unfold faultL; rw [if_pos h]
theorem fault_many {ws : List (List UInt8)} (h : 65535 < ws.length) : faultL ws = 6 := by unfold faultL; rw [if_neg (by omega), if_pos h]
theorem fault_bad {ws : List (List UInt8)} {e : Int} (h0 : ¬ ws.length = 0) (h1 : ¬ 65535 < ws.length) (h : badS ws = some e) : faultL ws = e := by unfold faultL; rw [if_neg h0, if_neg h1, h]
theorem fault_full {ws : List (List UInt8)} (h0 : ¬ ws.length = 0) (h1 : ¬ 65535 < ws.length) (h : badS ws = none) (h2 : 16777216 < totalL ws) : faultL ws = 13 := by unfold faultL; rw [if_neg h0, if_neg h1, h]; exact if_pos h2
theorem fault_twice {ws : List (List UInt8)} (h0 : ¬ ws.length = 0) (h1 : ¬ 65535 < ws.length) (h : badS ws = none) (h2 : ¬ 16777216 < totalL ws) (h3 : 0 ≤ twS [] ws 0) : faultL ws = 8 := by
  unfold faultL; rw [if_neg h0, if_neg h1, h]; exact (if_neg h2).trans (if_pos h3)
theorem fault_good {ws : List (List UInt8)} (h0 : ¬ ws.length = 0) (h1 : ¬ 65535 < ws.length) (h : badS ws = none) (h2 : ¬ 16777216 < totalL ws) (h3 : ¬ 0 ≤ twS [] ws 0) : faultL ws = 0 := by
  unfold faultL; rw [if_neg h0, if_neg h1, h]; exact (if_neg h2).trans (if_neg h3)

theorem tw_nodup : ∀ (ws seen : List (List UInt8)) (k : Nat), 0 ≤ twS seen ws k ↔ ¬ (ws.Nodup ∧ ∀ t ∈ ws, t ∉ seen)
  | [], seen, k => by simp [twS]
  | t :: r, seen, k => by
    rw [twS]
    by_cases h : t ∈ seen
    · rw [if_pos h]
      refine ⟨fun _ hh => hh.2 t List.mem_cons_self h, fun _ => by omega⟩
    · rw [if_neg h, tw_nodup r (seen ++ [t]) (k + 1)]
      refine not_congr ⟨fun ⟨h1, h2⟩ => ⟨List.nodup_cons.2 ⟨fun hm => ?_, h1⟩, fun u hu => ?_⟩, fun ⟨h1, h2⟩ => ⟨(List.nodup_cons.1 h1).2, fun u hu hs => ?_⟩⟩
      · exact h2 t hm (List.mem_append_right _ (List.mem_singleton.2 rfl))
      · rcases List.mem_cons.1 hu with rfl | hu
        · exact h
        · exact fun hs => h2 u hu (List.mem_append_left _ hs)
      · rcases List.mem_append.1 hs with hs | hs
        · exact h2 u (List.mem_cons_of_mem _ hu) hs
        · rw [List.mem_singleton] at hs
          subst hs
          exact (List.nodup_cons.1 h1).1 hu

/-- Texts that are a set. -/
structure Pats (ws : List (List UInt8)) : Prop where
  some : 1 ≤ ws.length
  few : ws.length ≤ 65535
  each : ∀ t ∈ ws, 1 ≤ t.length ∧ t.length ≤ 65535
  total : totalL ws ≤ 16777216
  once : ws.Nodup

theorem fault_zero (ws : List (List UInt8)) : faultL ws = 0 ↔ Pats ws := by
  by_cases h0 : ws.length = 0
  · rw [fault_none h0]
    exact ⟨fun h => absurd h (by decide), fun h => by have := h.some; omega⟩
  · by_cases h1 : 65535 < ws.length
    · rw [fault_many h1]
      exact ⟨fun h => absurd h (by decide), fun h => by have := h.few; omega⟩
    · cases hb : badS ws with
      | some e =>
        rw [fault_bad h0 h1 hb]
        have hn : ¬ badS ws = none := by rw [hb]; simp
        have he : e = 7 ∨ e = 5 := by
          clear hn h0 h1
          induction ws with
          | nil => simp [badS] at hb
          | cons t r ih =>
            rw [badS] at hb
            split at hb
            · simp at hb; exact .inl hb.symm
            · split at hb
              · simp at hb; exact .inr hb.symm
              · exact ih hb
        refine ⟨fun h => by omega, fun h => absurd ((bad_none ws).2 h.each) hn⟩
      | none =>
        by_cases h2 : 16777216 < totalL ws
        · rw [fault_full h0 h1 hb h2]
          exact ⟨fun h => absurd h (by decide), fun h => by have := h.total; omega⟩
        · have htw := tw_nodup ws [] 0
          by_cases h3 : 0 ≤ twS [] ws 0
          · rw [fault_twice h0 h1 hb h2 h3]
            exact ⟨fun h => absurd h (by decide), fun h => absurd ⟨h.once, by simp⟩ (htw.1 h3)⟩
          · rw [fault_good h0 h1 hb h2 h3]
            have hn : ws.Nodup := Classical.byContradiction fun hh => h3 (htw.2 (fun hx => hh hx.1))
            exact ⟨fun _ => ⟨by omega, by omega, (bad_none ws).1 hb, by omega, hn⟩, fun _ => rfl⟩

theorem Pats.perm {ws us : List (List UInt8)} (h : Pats ws) (hp : ws.Perm us) : Pats us :=
  ⟨by rw [← hp.length_eq]; exact h.some, by rw [← hp.length_eq]; exact h.few, fun t ht => h.each t (hp.mem_iff.2 ht), by rw [← total_perm hp]; exact h.total, hp.nodup_iff.1 h.once⟩
theorem Pats.srt {ws : List (List UInt8)} (h : Pats ws) : Pats (srt ws) := h.perm (srt_perm ws).symm
theorem srt_of_perm {ws us : List (List UInt8)} (h : ws.Perm us) : srt ws = srt us := asc_unique (srt_asc ws) (srt_asc us) ((srt_perm ws).trans (h.trans (srt_perm us).symm))
theorem srt_srt (ws : List (List UInt8)) : srt (srt ws) = srt ws := srt_of_perm (srt_perm ws)

/-- The place of a text in texts in order; -1: none. -/
def fndP (s : List UInt8) (ws : List (List UInt8)) : Int := if s ∈ ws then (ahdS s ws : Int) else -1

theorem ahd_at {s : List UInt8} {ws : List (List UInt8)} (ha : Asc ws) (hm : s ∈ ws) : ws[ahdS s ws]? = some s := by
  have h := find_there (s := s) ha
  rw [decide_eq_true hm, Bool.and_eq_true, decide_eq_true_eq, decide_eq_true_eq] at h
  have h1 := (cmp_zero _ _).1 h.2
  rw [List.getElem?_eq_getElem h.1] at h1 ⊢
  simp only [Option.getD_some] at h1
  rw [h1]
theorem ahd_is {s : List UInt8} {ws : List (List UInt8)} {k : Nat} (ha : Asc ws) (hn : ws.Nodup) (h : ws[k]? = some s) : ahdS s ws = k := by
  have hm : s ∈ ws := List.mem_of_getElem? h
  have h1 := ahd_at ha hm
  obtain ⟨i, e1⟩ := List.getElem?_eq_some_iff.1 h1
  obtain ⟨j, e2⟩ := List.getElem?_eq_some_iff.1 h
  exact (List.getElem_inj hn).1 (e1.trans e2.symm)
theorem fndp_hit {s : List UInt8} {ws : List (List UInt8)} {k : Nat} (ha : Asc ws) (hn : ws.Nodup) (h : ws[k]? = some s) : fndP s ws = k := by
  unfold fndP
  rw [if_pos (List.mem_of_getElem? h), ahd_is ha hn h]
theorem fndp_miss {s : List UInt8} {ws : List (List UInt8)} (h : s ∉ ws) : fndP s ws = -1 := if_neg h

/-- The document's least: of no texts it is 0. -/
def leastR (ws : List (List UInt8)) : Nat := if ws.length = 0 then 0 else leastL ws
theorem leastR_some {ws : List (List UInt8)} (h : Pats ws) : leastR ws = leastL ws := if_neg (by have := h.some; omega)
end Go.Proofs.Ytikhjofpioegbaa
