/-
  Patterns that begin with the same bytes stand side by side; how the states of a group are told. No program here.
-/
import Derived.Test.YtkaldfcpcimacaaTrM
set_option linter.unusedSimpArgs false
set_option linter.unusedVariables false
namespace Go.Proofs.Ytkaldfcpcimacaa
open Go.Lib

theorem pre_ge : ∀ {q a d : List UInt8}, q <+: a → q <+: d → q.length ≤ preL a d
  | [], _, _, _, _ => Nat.zero_le _
  | c :: q, [], _, h, _ => by simp at h
  | c :: q, _ :: _, [], _, h => by simp at h
  | c :: q, x :: a, y :: d, h, k => by
    rw [List.cons_prefix_cons] at h k
    rw [preL_cons, if_pos (h.1.symm.trans k.1), List.length_cons]
    have := pre_ge h.2 k.2
    omega
theorem pre_take : ∀ {a b : List UInt8} {n : Nat}, n ≤ preL a b → a.take n = b.take n
  | [], b, n, h => by rw [preL_nil] at h; obtain rfl : n = 0 := by omega
                      simp
  | _ :: _, [], n, h => by rw [preL_nil'] at h; obtain rfl : n = 0 := by omega
                           simp
  | x :: a, y :: b, 0, h => by simp
  | x :: a, y :: b, n + 1, h => by
    rw [preL_cons] at h
    by_cases e : x = y
    · subst e
      rw [if_pos rfl] at h
      rw [List.take_succ_cons, List.take_succ_cons, pre_take (a := a) (b := b) (n := n) (by omega)]
    · rw [if_neg e] at h; omega
theorem mid_pre {q a b d : List UInt8} (h1 : compareBytes a b ≤ 0) (h2 : compareBytes b d ≤ 0) (ha : q <+: a) (hd : q <+: d) : q <+: b := by
  have h := (pre_mid a b d h1 h2).1
  have := pre_ge ha hd
  have e := pre_take (show q.length ≤ preL a b by omega)
  rw [List.prefix_iff_eq_take] at ha ⊢
  rw [← e]; exact ha
theorem cmp_after : ∀ (p x y : List UInt8), compareBytes (p ++ x) (p ++ y) = compareBytes x y
  | [], _, _ => rfl
  | c :: p, x, y => by
    rw [List.cons_append, List.cons_append, compareBytes, if_neg (UInt8.lt_irrefl _), if_neg (UInt8.lt_irrefl _), cmp_after p x y]
theorem cmp_pre {p t : List UInt8} (h : p <+: t) : compareBytes p t ≤ 0 := by
  obtain ⟨r, rfl⟩ := h
  have := cmp_after p [] r
  rw [List.append_nil] at this
  rw [this]
  cases r with
  | nil => simp [compareBytes]
  | cons _ _ => simp [compareBytes]
theorem cmp_head {c d : UInt8} {x y : List UInt8} (h : compareBytes (c :: x) (d :: y) ≤ 0) : c ≤ d := by
  unfold compareBytes at h
  by_cases h1 : c < d
  · exact UInt8.le_of_lt h1
  · rw [if_neg h1] at h
    by_cases h2 : d < c
    · rw [if_pos h2] at h; omega
    · exact UInt8.not_lt.1 h2
theorem snoc_pre {p t : List UInt8} {c : UInt8} : p ++ [c] <+: t ↔ p <+: t ∧ t[p.length]? = some c := by
  constructor
  · rintro ⟨r, rfl⟩
    exact ⟨⟨[c] ++ r, by simp⟩, by simp⟩
  · rintro ⟨⟨r, rfl⟩, h⟩
    rw [List.getElem?_append_right (Nat.le_refl _), Nat.sub_self] at h
    cases r with
    | nil => cases h
    | cons d r => simp at h; subst h; exact ⟨r, by simp⟩
/-- Of two texts in order that go on alike the first one's byte is no greater. -/
theorem byte_le {p a b : List UInt8} {c d : UInt8} (h : compareBytes a b ≤ 0) (ha : p ++ [c] <+: a) (hb : p ++ [d] <+: b) : c ≤ d := by
  obtain ⟨x, rfl⟩ := ha
  obtain ⟨y, rfl⟩ := hb
  rw [List.append_assoc, List.append_assoc, cmp_after] at h
  exact cmp_head h

theorem take_stop {α : Type} {p : α → Bool} : ∀ (l : List α), (∀ (i : Nat) x, i < (l.takeWhile p).length → l[i]? = some x → p x = true) ∧ (∀ x, l[(l.takeWhile p).length]? = some x → p x = false) ∧ (l.takeWhile p).length ≤ l.length
  | [] => by simp
  | a :: l => by
    have ih := take_stop (p := p) l
    rw [List.takeWhile_cons]
    by_cases h : p a = true
    · rw [if_pos h]
      refine ⟨fun i x hi hx => ?_, fun x hx => ?_, by simpa using ih.2.2⟩
      · cases i with
        | zero => simp at hx; rw [← hx]; exact h
        | succ i => exact ih.1 i x (by simpa using hi) (by simpa using hx)
      · exact ih.2.1 x (by simpa using hx)
    · rw [if_neg h]
      refine ⟨fun i x hi => by simp at hi, fun x hx => ?_, Nat.zero_le _⟩
      simp at hx; rw [← hx]; simpa using h

/-- From where on the patterns stand that begin with these bytes, and up to where. -/
def frL (us : List (List UInt8)) (q : List UInt8) : Nat := us.findIdx fun t => q.isPrefixOf t
def toL (us : List (List UInt8)) (q : List UInt8) : Nat := frL us q + ((us.drop (frL us q)).takeWhile fun t => q.isPrefixOf t).length
theorem fr_le (us : List (List UInt8)) (q : List UInt8) : frL us q ≤ us.length := List.findIdx_le_length
theorem to_le (us : List (List UInt8)) (q : List UInt8) : toL us q ≤ us.length := by
  have h := (take_stop (p := fun t => q.isPrefixOf t) (us.drop (frL us q))).2.2
  have := fr_le us q
  rw [List.length_drop] at h
  unfold toL; omega
theorem fr_to (us : List (List UInt8)) (q : List UInt8) : frL us q ≤ toL us q := Nat.le_add_right _ _
theorem before_fr {us : List (List UInt8)} {q t : List UInt8} {i : Nat} (h : us[i]? = some t) (hi : i < frL us q) : ¬ q <+: t := by
  have := List.not_of_lt_findIdx hi
  rw [(List.getElem?_eq_some_iff.1 h).2] at this
  intro hp
  rw [← List.isPrefixOf_iff_prefix] at hp
  rw [hp] at this; cases this
theorem in_iff {us : List (List UInt8)} {q t : List UInt8} {i : Nat} (ha : Asc us) (h : us[i]? = some t) : q <+: t ↔ frL us q ≤ i ∧ i < toL us q := by
  have hs := take_stop (p := fun t => q.isPrefixOf t) (us.drop (frL us q))
  constructor
  · intro hp
    have h1 : frL us q ≤ i := Nat.not_lt.1 fun hi => before_fr h hi hp
    refine ⟨h1, Nat.not_le.1 fun h2 => ?_⟩
    have hi := (List.getElem?_eq_some_iff.1 h).1
    have hk : toL us q < us.length := by omega
    have e1 : us[toL us q]? = some us[toL us q] := List.getElem?_eq_getElem hk
    have hb := hs.2.1 us[toL us q] (by rw [List.getElem?_drop]; exact e1)
    have hf : frL us q < us.length := by omega
    have e2 : us[frL us q]? = some us[frL us q] := List.getElem?_eq_getElem hf
    have hpf : q <+: us[frL us q] := List.isPrefixOf_iff_prefix.1 (List.findIdx_getElem (w := hf))
    have := mid_pre (ha.at (fr_to us q) e2 e1) (ha.at h2 e1 h) hpf hp
    rw [← List.isPrefixOf_iff_prefix] at this
    rw [this] at hb; cases hb
  · rintro ⟨h1, h2⟩
    have := hs.1 (i - frL us q) t (by unfold toL at h2; omega) (by rw [List.getElem?_drop, show frL us q + (i - frL us q) = i by omega]; exact h)
    exact List.isPrefixOf_iff_prefix.1 this
theorem range_is {us : List (List UInt8)} {q : List UInt8} {m k : Nat} (ha : Asc us) (hmk : m < k) (hk : k ≤ us.length) (h : ∀ (i : Nat) t, us[i]? = some t → (q <+: t ↔ m ≤ i ∧ i < k)) : frL us q = m ∧ toL us q = k := by
  have g : ∀ i, i < us.length → ((frL us q ≤ i ∧ i < toL us q) ↔ (m ≤ i ∧ i < k)) := fun i hi => by
    have e : us[i]? = some us[i] := List.getElem?_eq_getElem hi
    rw [← in_iff ha e, h i _ e]
  have h1 := to_le us q
  have h2 := fr_to us q
  have a := (g m (by omega)).2 ⟨by omega, by omega⟩
  have b := (g (k - 1) (by omega)).2 ⟨by omega, by omega⟩
  have c := (g (frL us q) (by omega)).1 ⟨by omega, by omega⟩
  have d := (g (toL us q - 1) (by omega)).1 ⟨by omega, by omega⟩
  omega
theorem root_range (us : List (List UInt8)) : frL us [] = 0 ∧ toL us [] = us.length := by
  have h : frL us [] = 0 := by
    unfold frL
    cases us with
    | nil => rfl
    | cons t r => rw [List.findIdx_cons]; simp
  refine ⟨h, ?_⟩
  unfold toL
  rw [h, List.drop_zero, Nat.zero_add]
  congr 1
  clear h
  induction us with
  | nil => rfl
  | cons t r ih => rw [List.takeWhile_cons, if_pos (by simp), ih]
/-- A state that is one has patterns, if there are any. -/
theorem range_pos {us : List (List UInt8)} {q : List UInt8} (ha : Asc us) (h : begL us q = true) : frL us q < toL us q := by
  obtain ⟨i, t, hi, hp⟩ := beg_of h
  have := (in_iff ha hi).1 hp
  omega

/-- The first pattern of a state is it, if one is. -/
theorem first_is {us : List (List UInt8)} {p t : List UInt8} (ha : Asc us) (h : us[frL us p]? = some t) (hp : p <+: t) : t.length = p.length ↔ p ∈ us := by
  constructor
  · intro hl
    have e : p = t := hp.eq_of_length hl.symm
    rw [e]; exact List.mem_of_getElem? h
  · intro hm
    obtain ⟨j, hj⟩ := List.mem_iff_getElem?.1 hm
    have h1 := (in_iff ha hj).1 (List.prefix_refl p)
    have h2 := ha.at h1.1 h hj
    have h3 := cmp_pre hp
    rw [cmp_swap p t] at h2
    have := (cmp_zero p t).1 (by omega)
    rw [this]
/-- From where on the patterns go on. -/
def onL (us : List (List UInt8)) (p : List UInt8) : Nat := if p ∈ us then frL us p + 1 else frL us p
theorem on_le {us : List (List UInt8)} {p : List UInt8} (ha : Asc us) : onL us p ≤ toL us p := by
  unfold onL
  split
  · rename_i hm
    exact range_pos ha (beg_iff.2 ⟨p, hm, List.prefix_refl p⟩)
  · exact fr_to us p
theorem fr_on (us : List (List UInt8)) (p : List UInt8) : frL us p ≤ onL us p := by
  unfold onL
  split <;> omega
/-- .. each of them has one byte more. -/
theorem on_byte {us : List (List UInt8)} {p t : List UInt8} {i : Nat} (ha : Asc us) (hn : us.Nodup) (h : us[i]? = some t) (h1 : onL us p ≤ i) (h2 : i < toL us p) : ∃ c, t[p.length]? = some c ∧ p ++ [c] <+: t := by
  have hf := fr_on us p
  have hp := (in_iff ha h).2 ⟨by omega, h2⟩
  rcases Nat.lt_or_ge p.length t.length with hl | hl
  · exact ⟨t[p.length], List.getElem?_eq_getElem hl, snoc_pre.2 ⟨hp, List.getElem?_eq_getElem hl⟩⟩
  · have e : p = t := hp.eq_of_length (Nat.le_antisymm hp.length_le hl)
    subst e
    have hm : p ∈ us := List.mem_of_getElem? h
    have hr := range_pos ha (beg_iff.2 ⟨p, hm, List.prefix_refl p⟩)
    have hlen := to_le us p
    have e1 : us[frL us p]? = some us[frL us p] := List.getElem?_eq_getElem (by omega)
    have hpf := (in_iff ha e1).2 ⟨Nat.le_refl _, hr⟩
    have e2 : p = us[frL us p] := hpf.eq_of_length ((first_is ha e1 hpf).2 hm).symm
    have := (List.getElem_inj hn (h₀ := by omega) (h₁ := (List.getElem?_eq_some_iff.1 h).1)).1 (e2.symm.trans (List.getElem?_eq_some_iff.1 h).2.symm)
    unfold onL at h1
    rw [if_pos hm] at h1
    omega
theorem on_iff {us : List (List UInt8)} {p t : List UInt8} {c : UInt8} {i : Nat} (ha : Asc us) (h : us[i]? = some t) (hc : p ++ [c] <+: t) : onL us p ≤ i ∧ i < toL us p := by
  have hp := (snoc_pre.1 hc).1
  have h1 := (in_iff ha h).1 hp
  refine ⟨?_, h1.2⟩
  unfold onL
  split
  · rename_i hm
    rcases Nat.lt_or_ge (frL us p) i with h2 | h2
    · exact h2
    · have e : i = frL us p := by omega
      subst e
      have := (first_is ha h hp).2 hm
      have := hc.length_le
      simp at this
      omega
  · exact h1.1

/-- A place where the patterns of a state begin to go on by another byte. -/
def Cut (us : List (List UInt8)) (p : List UInt8) (m : Nat) : Prop := onL us p ≤ m ∧ m ≤ toL us p ∧ ∀ (i : Nat) c t t', i < m → us[i]? = some t → p ++ [c] <+: t → us[m]? = some t' → ¬ p ++ [c] <+: t'
theorem Cut.start {us : List (List UInt8)} {p : List UInt8} (ha : Asc us) : Cut us p (onL us p) :=
  ⟨Nat.le_refl _, on_le ha, fun i c t t' hi ht hc _ => by have := (on_iff ha ht hc).1; omega⟩
/-- All from one cut on, up to a place, go on by one byte. -/
def Run (us : List (List UInt8)) (p : List UInt8) (c : UInt8) (m k : Nat) : Prop := m < k ∧ k ≤ toL us p ∧ ∀ (i : Nat) t, m ≤ i → i < k → us[i]? = some t → p ++ [c] <+: t
theorem Run.start {us : List (List UInt8)} {p t : List UInt8} {c : UInt8} {m : Nat} (hm : m < toL us p) (ht : us[m]? = some t) (hc : p ++ [c] <+: t) : Run us p c m (m + 1) :=
  ⟨by omega, by omega, fun i u h1 h2 hu => by obtain rfl : i = m := by omega
                                              rw [ht] at hu; cases hu; exact hc⟩
theorem Run.more {us : List (List UInt8)} {p t : List UInt8} {c : UInt8} {m k : Nat} (h : Run us p c m k) (hk : k < toL us p) (ht : us[k]? = some t) (hc : p ++ [c] <+: t) : Run us p c m (k + 1) :=
  ⟨by have := h.1; omega, by omega, fun i u h1 h2 hu => by
    rcases Nat.lt_or_ge i k with h3 | h3
    · exact h.2.2 i u h1 h3 hu
    · obtain rfl : i = k := by omega
      rw [ht] at hu; cases hu; exact hc⟩
/-- Where it ends the next one is cut. -/
theorem Run.cut {us : List (List UInt8)} {p : List UInt8} {c : UInt8} {m k : Nat} (ha : Asc us) (h : Run us p c m k) (hm : Cut us p m) (hk : ∀ t, k < toL us p → us[k]? = some t → ¬ p ++ [c] <+: t) : Cut us p k := by
  have hlen := to_le us p
  refine ⟨by have := hm.1; have := h.1; omega, h.2.1, fun i d t t' hi ht hd ht' hd' => ?_⟩
  have hkt := (on_iff ha ht' hd').2
  have hl : us[k - 1]? = some us[k - 1] := List.getElem?_eq_getElem (by omega)
  have hlast := h.2.2 (k - 1) _ (by have := h.1; omega) (by have := h.1; omega) hl
  have h1 : d ≤ c := byte_le (ha.at (by omega) ht hl) hd hlast
  have h2 : c ≤ d := byte_le (ha.at (by omega) hl ht') hlast hd'
  have e := UInt8.le_antisymm h1 h2
  subst e
  exact hk t' hkt ht' hd'
/-- .. and it is a state's group. -/
theorem Run.range {us : List (List UInt8)} {p : List UInt8} {c : UInt8} {m k : Nat} (ha : Asc us) (h : Run us p c m k) (hm : Cut us p m) (hk : ∀ t, k < toL us p → us[k]? = some t → ¬ p ++ [c] <+: t) : frL us (p ++ [c]) = m ∧ toL us (p ++ [c]) = k := by
  have hlen := to_le us p
  refine range_is ha h.1 (by have := h.2.1; omega) fun i t ht => ⟨fun hp => ?_, fun hi => h.2.2 i t hi.1 hi.2 ht⟩
  have hon := on_iff ha ht hp
  have hmk := h.1
  have hml : m < us.length := by have := h.1; have := h.2.1; omega
  have hme : us[m]? = some us[m] := List.getElem?_eq_getElem hml
  have hmc := h.2.2 m _ (Nat.le_refl _) hmk hme
  refine ⟨Nat.not_lt.1 fun hi => hm.2.2 i c t _ hi ht hp hme hmc, Nat.not_le.1 fun hi => ?_⟩
  have hke : us[k]? = some us[k] := List.getElem?_eq_getElem (by omega)
  refine hk _ (by omega) hke (mid_pre (ha.at (by omega) hme hke) (ha.at hi hke ht) hmc hp)
/-- .. and a byte by which the state is gone on with. -/
theorem Run.kids {us : List (List UInt8)} {p : List UInt8} {c : UInt8} {m k : Nat} (ha : Asc us) (h : Run us p c m k) (hm : Cut us p m) : kidsL (us.take k) p = kidsL (us.take m) p ++ [c] := by
  have hlen := to_le us p
  have hmk := h.1
  have hml : m < us.length := by have := h.1; have := h.2.1; omega
  have hme : us[m]? = some us[m] := List.getElem?_eq_getElem hml
  have hmc := h.2.2 m _ (Nat.le_refl _) hmk hme
  refine rise_unique (kids_rise _ _) ?_ fun d => ?_
  · rw [List.pairwise_append]
    refine ⟨kids_rise _ _, by simp, fun d hd e he => ?_⟩
    rw [List.mem_singleton] at he
    subst he
    obtain ⟨i, t, hi, ht, hp⟩ := beg_take.1 (kids_mem.1 hd)
    have hle := byte_le (ha.at (by omega) ht hme) hp hmc
    rcases UInt8.lt_or_eq_of_le hle with hlt | he
    · exact hlt
    · subst he
      exact absurd hmc (hm.2.2 i _ t _ hi ht hp hme)
  · rw [List.mem_append, List.mem_singleton, kids_mem, kids_mem, beg_take, beg_take]
    constructor
    · rintro ⟨i, t, hi, ht, hp⟩
      rcases Nat.lt_or_ge i m with h1 | h1
      · exact .inl ⟨i, t, h1, ht, hp⟩
      · have := h.2.2 i t h1 hi ht
        have e1 := (snoc_pre.1 this).2
        rw [(snoc_pre.1 hp).2] at e1
        exact .inr (Option.some.inj e1)
    · rintro (⟨i, t, hi, ht, hp⟩ | rfl)
      · exact ⟨i, t, by omega, ht, hp⟩
      · exact ⟨m, _, hmk, hme, hmc⟩
theorem kids_start {us : List (List UInt8)} {p : List UInt8} (ha : Asc us) : kidsL (us.take (onL us p)) p = [] := by
  rw [List.eq_nil_iff_forall_not_mem]
  intro c hc
  obtain ⟨i, t, hi, ht, hp⟩ := beg_take.1 (kids_mem.1 hc)
  have := (on_iff ha ht hp).1
  omega
theorem kids_end {us : List (List UInt8)} {p : List UInt8} (ha : Asc us) : kidsL (us.take (toL us p)) p = kidsL us p := by
  refine rise_unique (kids_rise _ _) (kids_rise _ _) fun c => ?_
  rw [kids_mem, kids_mem, beg_take]
  constructor
  · rintro ⟨i, t, _, ht, hp⟩; exact beg_at ht hp
  · intro h
    obtain ⟨i, t, ht, hp⟩ := beg_of h
    exact ⟨i, t, (on_iff ha ht hp).2, ht, hp⟩
end Go.Proofs.Ytkaldfcpcimacaa
