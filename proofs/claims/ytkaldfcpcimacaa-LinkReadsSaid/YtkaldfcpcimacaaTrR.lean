/-
  What is kept of each state, as lists. No program here.
-/
import Derived.Test.YtkaldfcpcimacaaTrG
set_option linter.unusedSimpArgs false
set_option linter.unusedVariables false
namespace Go.Proofs.Ytkaldfcpcimacaa
open Go.Lib

/-- What is kept of a state: its first pattern, the state above, the first one below, how long it is, its last byte. -/
structure Rc where
  first : Nat
  above : Nat
  below : Nat
  depth : Nat
  last : UInt8
/-- Numbers that fit where they are kept. -/
def Rc.Fit (r : Rc) : Prop := r.first ≤ 2147483647 ∧ r.above ≤ 2147483647 ∧ r.below ≤ 2147483647 ∧ r.depth ≤ 65535

/-- Where the states begin that stand below one. -/
def offL (us S : List (List UInt8)) (i : Nat) : Nat := 1 + ((S.take i).flatMap (kidsP us)).length
theorem off_append {us S T : List (List UInt8)} {i : Nat} (h : i ≤ S.length) : offL us (S ++ T) i = offL us S i := by
  unfold offL
  rw [List.take_append_of_le_length h]
theorem off_snoc {us S : List (List UInt8)} {i : Nat} {p : List UInt8} (h : S[i]? = some p) : offL us S (i + 1) = offL us S i + (kidsL us p).length := by
  obtain ⟨hi, rfl⟩ := List.getElem?_eq_some_iff.1 h
  unfold offL
  rw [List.take_succ_eq_append_getElem hi, List.flatMap_append, List.length_append]
  simp [kidsP_length]
  omega
theorem Bfs.off {us S : List (List UInt8)} {k : Nat} (h : Bfs us k S) : offL us S k = S.length := by
  have := congrArg List.length h.is
  rw [List.length_append] at this
  unfold offL
  simpa using this.symm
theorem off_le {us S : List (List UInt8)} {k i : Nat} (h : Bfs us k S) (hi : i ≤ k) : offL us S i ≤ S.length := by
  rw [← h.off]
  unfold offL
  have e : (S.take i) = (S.take k).take i := by rw [List.take_take, Nat.min_eq_left hi]
  have := List.take_append_drop i (S.take k)
  have e2 : ((S.take k).flatMap (kidsP us)).length = (((S.take k).take i).flatMap (kidsP us)).length + (((S.take k).drop i).flatMap (kidsP us)).length := by
    rw [← List.length_append, ← List.flatMap_append, this]
  rw [e]; omega
/-- The states below one, where they stand. -/
theorem Bfs.parts {us S : List (List UInt8)} {k i : Nat} {p : List UInt8} (h : Bfs us k S) (hi : i < k) (hp : S[i]? = some p) : ∃ A C, A.length + 1 = offL us S i ∧ S = [[]] ++ (A ++ (kidsP us p ++ C)) := by
  refine ⟨(S.take i).flatMap (kidsP us), ((S.take k).drop (i + 1)).flatMap (kidsP us), by unfold offL; omega, ?_⟩
  have hlt := (List.getElem?_eq_some_iff.1 hp).1
  have e1 : S.take k = S.take i ++ (p :: (S.take k).drop (i + 1)) := by
    have hik : i < (S.take k).length := by rw [List.length_take]; have := h.le.1; omega
    have e2 := List.take_append_drop i (S.take k)
    rw [List.drop_eq_getElem_cons hik, List.take_take, Nat.min_eq_left (by omega), List.getElem_take, (List.getElem?_eq_some_iff.1 hp).2] at e2
    exact e2.symm
  rw [← List.flatMap_cons, ← List.flatMap_append, ← e1]
  exact h.is
theorem Bfs.at {us S : List (List UInt8)} {k i j : Nat} {p : List UInt8} {c : UInt8} (h : Bfs us k S) (hi : i < k) (hp : S[i]? = some p) (hc : (kidsL us p)[j]? = some c) : S[offL us S i + j]? = some (p ++ [c]) := by
  obtain ⟨A, C, hA, e⟩ := h.parts hi hp
  have hj := (List.getElem?_eq_some_iff.1 hc).1
  generalize offL us S i = o at *
  rw [e, List.getElem?_append_right (by simp; omega), List.getElem?_append_right (by simp; omega), List.getElem?_append_left (by rw [kidsP_length]; simp; omega)]
  have e2 : o + j - [([] : List UInt8)].length - A.length = j := by simp; omega
  rw [e2]
  unfold kidsP
  rw [List.getElem?_map, hc]; rfl

/-- What is kept fits the states, k of which have told those below. -/
def RecOk (us S : List (List UInt8)) (k : Nat) (R : List Rc) : Prop :=
  R.length = S.length ∧ ∀ (i : Nat) q, S[i]? = some q → ∃ a, R[i]? = some ⟨frL us q, a, if i < k then offL us S i else 0, q.length, q.getLastD 0⟩ ∧ S[a]? = some q.dropLast ∧ a ≤ i
theorem RecOk.start (us : List (List UInt8)) : RecOk us [[]] 0 [⟨0, 0, 0, 0, 0⟩] := by
  refine ⟨rfl, fun i q hq => ?_⟩
  match i, hq with
  | 0, hq =>
    simp at hq
    subst hq
    exact ⟨0, by rw [(root_range us).1]; rfl, rfl, Nat.le_refl _⟩
/-- The first one below is told. -/
theorem RecOk.tell {us S : List (List UInt8)} {k : Nat} {R : List Rc} {r : Rc} (hb : Bfs us k S) (h : RecOk us S k R) (hr : R[k]? = some r) : RecOk us S (k + 1) (R.set k { r with below := S.length }) := by
  refine ⟨by rw [List.length_set]; exact h.1, fun i q hq => ?_⟩
  obtain ⟨a, h1, h2, h3⟩ := h.2 i q hq
  refine ⟨a, ?_, h2, h3⟩
  by_cases e : i = k
  · subst e
    rw [h1] at hr
    cases hr
    rw [List.getElem?_set_self (List.getElem?_eq_some_iff.1 h1).1, if_pos (Nat.lt_succ_self _), hb.off]
  · rw [List.getElem?_set_ne (fun x => e x.symm), h1]
    congr 2
    by_cases hlt : i < k
    · rw [if_pos hlt, if_pos (by omega)]
    · rw [if_neg hlt, if_neg (by omega)]
/-- One more state, below one. -/
theorem RecOk.snoc {us S : List (List UInt8)} {k s : Nat} {R : List Rc} {p : List UInt8} {c : UInt8} (h : RecOk us S k R) (hk : k ≤ S.length) (hs : S[s]? = some p) : RecOk us (S ++ [p ++ [c]]) k (R ++ [⟨frL us (p ++ [c]), s, 0, p.length + 1, c⟩]) := by
  have hsl := (List.getElem?_eq_some_iff.1 hs).1
  refine ⟨by rw [List.length_append, List.length_append, h.1]; rfl, fun i q hq => ?_⟩
  rcases Nat.lt_or_ge i S.length with hi | hi
  · rw [List.getElem?_append_left hi] at hq
    obtain ⟨a, h1, h2, h3⟩ := h.2 i q hq
    refine ⟨a, ?_, by rw [List.getElem?_append_left (by omega)]; exact h2, h3⟩
    rw [List.getElem?_append_left (by rw [h.1]; exact hi), h1, off_append (by omega)]
  · rw [List.getElem?_append_right hi] at hq
    have hz : i = S.length := by
      have := (List.getElem?_eq_some_iff.1 hq).1
      simp at this; omega
    subst hz
    rw [Nat.sub_self] at hq
    simp at hq
    subst hq
    refine ⟨s, ?_, ?_, by omega⟩
    · rw [List.getElem?_append_right (by rw [h.1]; omega), h.1, Nat.sub_self, if_neg (by omega)]
      simp
    · rw [List.getElem?_append_left hsl]; simpa using hs
/-- .. one that is read. -/
theorem RecOk.at {us S : List (List UInt8)} {k : Nat} {R : List Rc} (h : RecOk us S k R) {i : Nat} {q : List UInt8} (hq : S[i]? = some q) : ∃ r, R[i]? = some r ∧ r.first = frL us q ∧ r.below = (if i < k then offL us S i else 0) ∧ r.depth = q.length ∧ r.last = q.getLastD 0 ∧ S[r.above]? = some q.dropLast ∧ r.above ≤ i := by
  obtain ⟨a, h1, h2, h3⟩ := h.2 i q hq
  exact ⟨_, h1, rfl, rfl, rfl, rfl, h2, h3⟩

/-- The groups that wait: each a state, and where its patterns stand. -/
def grL (us : List (List UInt8)) : Nat → List (List UInt8) → List (Nat × Nat × Nat)
  | _, [] => []
  | i, q :: r => (i, frL us q, toL us q) :: grL us (i + 1) r
theorem gr_length (us : List (List UInt8)) : ∀ (i : Nat) (l : List (List UInt8)), (grL us i l).length = l.length
  | _, [] => rfl
  | i, q :: r => by rw [grL, List.length_cons, List.length_cons, gr_length us (i + 1) r]
theorem gr_append (us : List (List UInt8)) : ∀ (i : Nat) (l m : List (List UInt8)), grL us i (l ++ m) = grL us i l ++ grL us (i + l.length) m
  | _, [], _ => rfl
  | i, q :: r, m => by rw [List.cons_append, grL, grL, gr_append us (i + 1) r m, List.cons_append, List.length_cons]; congr 3; omega
theorem gr_snoc (us : List (List UInt8)) (i : Nat) (l : List (List UInt8)) (q : List UInt8) : grL us i (l ++ [q]) = grL us i l ++ [(i + l.length, frL us q, toL us q)] := gr_append us i l [q]

/-- The states, as the document makes them: by their lengths below n, and of the first j patterns of that length. -/
def IsStP (us : List (List UInt8)) (n j : Nat) (out : List (List UInt8)) : Prop :=
  out.Pairwise slx ∧ (1 ≤ out.length ∧ 1 ≤ n) ∧ ∀ q, q ∈ out ↔ q = [] ∨ (q.length < n ∧ begL us q = true) ∨ (q.length = n ∧ begL (us.take j) q = true)
theorem IsStP.start (us : List (List UInt8)) : IsStP us 1 0 [[]] := by
  refine ⟨by simp, ⟨by simp, Nat.le_refl _⟩, fun q => ?_⟩
  rw [List.mem_singleton]
  constructor
  · exact .inl
  · rintro (h | ⟨h, _⟩ | ⟨_, h⟩)
    · exact h
    · exact List.eq_nil_of_length_eq_zero (by omega)
    · simp [begL] at h
theorem IsStP.next {us out : List (List UInt8)} {n : Nat} (h : IsStP us n us.length out) : IsStP us (n + 1) 0 out := by
  refine ⟨h.1, ⟨h.2.1.1, by omega⟩, fun q => ?_⟩
  rw [h.2.2 q, List.take_length]
  constructor
  · rintro (h | ⟨h, k⟩ | ⟨h, k⟩)
    · exact .inl h
    · exact .inr (.inl ⟨by omega, k⟩)
    · exact .inr (.inl ⟨by omega, k⟩)
  · rintro (h | ⟨h, k⟩ | ⟨_, h⟩)
    · exact .inl h
    · rcases Nat.lt_or_ge q.length n with h1 | h1
      · exact .inr (.inl ⟨h1, k⟩)
      · exact .inr (.inr ⟨by omega, k⟩)
    · simp [begL] at h
theorem IsStP.done {us out : List (List UInt8)} {n : Nat} (h : IsStP us n 0 out) (hn : ∀ t ∈ us, t.length < n) : IsSt us out := by
  refine ⟨h.1, fun q => ?_⟩
  rw [h.2.2 q]
  constructor
  · rintro (h | ⟨_, k⟩ | ⟨_, h⟩)
    · exact .inl h
    · exact .inr k
    · simp [begL] at h
  · rintro (h | h)
    · exact .inl h
    · obtain ⟨t, ht, hp⟩ := beg_iff.1 h
      exact .inr (.inl ⟨Nat.lt_of_le_of_lt hp.length_le (hn t ht), h⟩)
/-- A pattern that is too short, or whose beginning is the last one that was told. -/
theorem IsStP.skip {us out : List (List UInt8)} {n j : Nat} {t : List UInt8} (h : IsStP us n j out) (ht : us[j]? = some t) (hs : t.length < n ∨ t.take n ∈ out) : IsStP us n (j + 1) out := by
  refine ⟨h.1, h.2.1, fun q => ?_⟩
  rw [h.2.2 q]
  refine or_congr_right (or_congr_right (and_congr_right fun hq => ?_))
  rw [beg_take, beg_take]
  constructor
  · rintro ⟨i, u, hi, hu, hp⟩; exact ⟨i, u, by omega, hu, hp⟩
  · rintro ⟨i, u, hi, hu, hp⟩
    rcases Nat.lt_or_ge i j with h1 | h1
    · exact ⟨i, u, h1, hu, hp⟩
    · obtain rfl : i = j := by omega
      rw [ht] at hu
      cases hu
      have hl := hp.length_le
      rcases hs with hs | hs
      · omega
      · have e : t.take n = q := by rw [← hq]; exact (List.prefix_iff_eq_take.1 hp).symm
        rw [e] at hs
        rcases (h.2.2 q).1 hs with h2 | ⟨h2, _⟩ | ⟨_, h2⟩
        · subst h2
          simp at hq
          have := h.2.1.2
          omega
        · omega
        · exact beg_take.1 h2
theorem take_cmp : ∀ {u t : List UInt8} (n : Nat), compareBytes u t ≤ 0 → compareBytes (u.take n) (t.take n) ≤ 0
  | _, _, 0, _ => by simp [compareBytes]
  | [], t, n + 1, _ => cmp_pre (by simp)
  | _ :: _, [], n + 1, h => by simp [compareBytes] at h
  | a :: u, b :: t, n + 1, h => by
    rw [List.take_succ_cons, List.take_succ_cons]
    unfold compareBytes at h ⊢
    by_cases h1 : a < b
    · rw [if_pos h1]; omega
    · rw [if_neg h1] at h ⊢
      by_cases h2 : b < a
      · rw [if_pos h2] at h; omega
      · rw [if_neg h2] at h ⊢
        exact take_cmp n h
/-- A pattern whose beginning was not told. -/
theorem IsStP.put {us out : List (List UInt8)} {n j : Nat} {t l : List UInt8} (ha : Asc us) (h : IsStP us n j out) (ht : us[j]? = some t) (hn : n ≤ t.length) (hl : out[out.length - 1]? = some l) (hne : t.take n ≠ l) : IsStP us n (j + 1) (out ++ [t.take n]) := by
  have hlen : (t.take n).length = n := by rw [List.length_take]; omega
  have hup : ∀ x ∈ out, slx x (t.take n) := fun x hx => by
    obtain ⟨i, hi⟩ := List.mem_iff_getElem?.1 hx
    have hil := (List.getElem?_eq_some_iff.1 hi).1
    rcases (h.2.2 x).1 hx with rfl | ⟨h1, _⟩ | ⟨h1, h2⟩
    · exact slx_nil fun e => by rw [e] at hlen; simp at hlen; have := h.2.1.2; omega
    · exact .inl (by omega)
    · refine .inr ⟨by omega, ?_⟩
      have hle : ∀ y : List UInt8, y.length = n → begL (us.take j) y = true → compareBytes y (t.take n) ≤ 0 := fun y hy hb => by
        obtain ⟨m, u, hm, hu, hp⟩ := beg_take.1 hb
        have := take_cmp n (ha.at (Nat.le_of_lt hm) hu ht)
        rw [List.prefix_iff_eq_take] at hp
        rw [hp, hy]; exact this
      have hx1 := hle x h1 h2
      rcases Int.lt_or_eq_of_le hx1 with hlt | he
      · exact (cmp_neg _ _).1 hlt
      · have e := (cmp_zero _ _).1 he
        exfalso
        have hxl : x ≠ l := fun e2 => hne (e.symm.trans e2)
        have hi2 : i < out.length - 1 := by
          rcases Nat.lt_or_ge i (out.length - 1) with h3 | h3
          · exact h3
          · have e3 : i = out.length - 1 := by omega
            rw [e3, hl] at hi
            exact absurd (Option.some.inj hi).symm hxl
        have hs := List.pairwise_iff_getElem.1 h.1 i (out.length - 1) hil (by omega) hi2
        rw [(List.getElem?_eq_some_iff.1 hi).2, (List.getElem?_eq_some_iff.1 hl).2] at hs
        rcases (h.2.2 l).1 (List.mem_of_getElem? hl) with rfl | ⟨h3, _⟩ | ⟨h3, h4⟩
        · rcases hs with hs | ⟨_, hs⟩
          · simp at hs
          · simp at hs
        · rcases hs with hs | ⟨hs, _⟩ <;> omega
        · have hll := hle l h3 h4
          rcases hs with hs | ⟨_, hs⟩
          · omega
          · rw [e] at hs
            have := (cmp_neg _ _).2 hs
            rw [cmp_swap] at this
            omega
  refine ⟨?_, ⟨by simp, h.2.1.2⟩, fun q => ?_⟩
  · rw [List.pairwise_append]
    exact ⟨h.1, by simp, fun x hx y hy => by rw [List.mem_singleton] at hy; subst hy; exact hup x hx⟩
  · rw [List.mem_append, List.mem_singleton, h.2.2 q]
    constructor
    · rintro ((h1 | h1 | ⟨h1, h2⟩) | rfl)
      · exact .inl h1
      · exact .inr (.inl h1)
      · obtain ⟨m, u, hm, hu, hp⟩ := beg_take.1 h2
        exact .inr (.inr ⟨h1, beg_take.2 ⟨m, u, by omega, hu, hp⟩⟩)
      · exact .inr (.inr ⟨hlen, beg_take.2 ⟨j, t, by omega, ht, List.take_prefix _ _⟩⟩)
    · rintro (h1 | h1 | ⟨h1, h2⟩)
      · exact .inl (.inl h1)
      · exact .inl (.inr (.inl h1))
      · obtain ⟨m, u, hm, hu, hp⟩ := beg_take.1 h2
        rcases Nat.lt_or_ge m j with h3 | h3
        · exact .inl (.inr (.inr ⟨h1, beg_take.2 ⟨m, u, h3, hu, hp⟩⟩))
        · obtain rfl : m = j := by omega
          rw [ht] at hu
          cases hu
          refine .inr ?_
          rw [← h1]; exact List.prefix_iff_eq_take.1 hp
end Go.Proofs.Ytkaldfcpcimacaa
