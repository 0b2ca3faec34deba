/-
  Texts put together: TrR, LkM, But, Str, LkF, PtIs, AfFw, AfT, AfCm.
-/
import Derived.Test.YtkaldfcpcimacaaBn1
import Derived.Below
import Derived.Laws.AppendOwn
import Derived.WalkKit
import Derived.BigQuiet
import Derived.Test.YtkaldfcpcimacaaRows
import Derived.WalkSpells
import Derived.WalkLawsBesides
import Derived.Lib.Hide
import Derived.Lib.Strings
import Derived.Deep.QuietTactic
import Derived.Laws.ResultCell
import Derived.Maps.OwnOps
import Derived.Maps.Views
import Derived.Maps.OwnSet
import Derived.StringKeys
import Derived.Test.YtkaldfcpcimacaaShelf
set_option linter.unusedSimpArgs false
set_option linter.unusedVariables false
namespace Go.Proofs.Ytkaldfcpcimacaa
open Go.Lib

/-- What is kept of a state: its first pattern, the state above, the first one below, how long it is, its last byte. -/
structure Rc where
  first : Nat
  above : Nat
  below : Nat
  depth : Nat
  last : UInt8
/-- Numbers that fit where they are kept. -/
def Rc.Fit (r : Rc) : Prop := r.first ≤ 2147483647 ∧ r.above ≤ 2147483647 ∧ r.below ≤ 2147483647 ∧ r.depth ≤ 65535

/-- Where the states begin that stand below one. -/
def offL (us S : List (List UInt8)) (i : Nat) : Nat := 1 + ((S.take i).flatMap (kidsP us)).length
theorem off_append {us S T : List (List UInt8)} {i : Nat} (h : i ≤ S.length) : offL us (S ++ T) i = offL us S i := by
  unfold offL
  rw [List.take_append_of_le_length h]
theorem off_snoc {us S : List (List UInt8)} {i : Nat} {p : List UInt8} (h : S[i]? = some p) : offL us S (i + 1) = offL us S i + (kidsL us p).length := by
  obtain ⟨hi, rfl⟩ := List.getElem?_eq_some_iff.1 h
  unfold offL
  rw [List.take_succ_eq_append_getElem hi, List.flatMap_append, List.length_append]
  simp [kidsP_length]
  omega
theorem Bfs.off {us S : List (List UInt8)} {k : Nat} (h : Bfs us k S) : offL us S k = S.length := by
  have := congrArg List.length h.is
  rw [List.length_append] at this
  unfold offL
  simpa using this.symm
theorem off_le {us S : List (List UInt8)} {k i : Nat} (h : Bfs us k S) (hi : i ≤ k) : offL us S i ≤ S.length := by
  rw [← h.off]
  unfold offL
  have e : (S.take i) = (S.take k).take i := by rw [List.take_take, Nat.min_eq_left hi]
  have := List.take_append_drop i (S.take k)
  have e2 : ((S.take k).flatMap (kidsP us)).length = (((S.take k).take i).flatMap (kidsP us)).length + (((S.take k).drop i).flatMap (kidsP us)).length := by
    rw [← List.length_append, ← List.flatMap_append, this]
  rw [e]; omega
/-- The states below one, where they stand. -/
theorem Bfs.parts {us S : List (List UInt8)} {k i : Nat} {p : List UInt8} (h : Bfs us k S) (hi : i < k) (hp : S[i]? = some p) : ∃ A C, A.length + 1 = offL us S i ∧ S = [[]] ++ (A ++ (kidsP us p ++ C)) := by
  refine ⟨(S.take i).flatMap (kidsP us), ((S.take k).drop (i + 1)).flatMap (kidsP us), by unfold offL; omega, ?_⟩
  have hlt := (List.getElem?_eq_some_iff.1 hp).1
  have e1 : S.take k = S.take i ++ (p :: (S.take k).drop (i + 1)) := by
    have hik : i < (S.take k).length := by rw [List.length_take]; have := h.le.1; omega
    have e2 := List.take_append_drop i (S.take k)
    rw [List.drop_eq_getElem_cons hik, List.take_take, Nat.min_eq_left (by omega), List.getElem_take, (List.getElem?_eq_some_iff.1 hp).2] at e2
    exact e2.symm
  rw [← List.flatMap_cons, ← List.flatMap_append, ← e1]
  exact h.is
theorem Bfs.at {us S : List (List UInt8)} {k i j : Nat} {p : List UInt8} {c : UInt8} (h : Bfs us k S) (hi : i < k) (hp : S[i]? = some p) (hc : (kidsL us p)[j]? = some c) : S[offL us S i + j]? = some (p ++ [c]) := by
  obtain ⟨A, C, hA, e⟩ := h.parts hi hp
  have hj := (List.getElem?_eq_some_iff.1 hc).1
  generalize offL us S i = o at *
  rw [e, List.getElem?_append_right (by simp; omega), List.getElem?_append_right (by simp; omega), List.getElem?_append_left (by rw [kidsP_length]; simp; omega)]
  have e2 : o + j - [([] : List UInt8)].length - A.length = j := by simp; omega
  rw [e2]
  unfold kidsP
  rw [List.getElem?_map, hc]; rfl

/-- What is kept fits the states, k of which have told those below. -/
def RecOk (us S : List (List UInt8)) (k : Nat) (R : List Rc) : Prop :=
  R.length = S.length ∧ ∀ (i : Nat) q, S[i]? = some q → ∃ a, R[i]? = some ⟨frL us q, a, if i < k then offL us S i else 0, q.length, q.getLastD 0⟩ ∧ S[a]? = some q.dropLast ∧ a ≤ i
theorem RecOk.start (us : List (List UInt8)) : RecOk us [[]] 0 [⟨0, 0, 0, 0, 0⟩] := by
  refine ⟨rfl, fun i q hq => ?_⟩
  match i, hq with
  | 0, hq =>
    simp at hq
    subst hq
    exact ⟨0, by rw [(root_range us).1]; rfl, rfl, Nat.le_refl _⟩
/-- The first one below is told. -/
theorem RecOk.tell {us S : List (List UInt8)} {k : Nat} {R : List Rc} {r : Rc} (hb : Bfs us k S) (h : RecOk us S k R) (hr : R[k]? = some r) : RecOk us S (k + 1) (R.set k { r with below := S.length }) := by
  refine ⟨by rw [List.length_set]; exact h.1, fun i q hq => ?_⟩
  obtain ⟨a, h1, h2, h3⟩ := h.2 i q hq
  refine ⟨a, ?_, h2, h3⟩
  by_cases e : i = k
  · subst e
    rw [h1] at hr
    cases hr
    rw [List.getElem?_set_self (List.getElem?_eq_some_iff.1 h1).1, if_pos (Nat.lt_succ_self _), hb.off]
  · rw [List.getElem?_set_ne (fun x => e x.symm), h1]
    congr 2
    by_cases hlt : i < k
    · rw [if_pos hlt, if_pos (by omega)]
    · rw [if_neg hlt, if_neg (by omega)]
/-- One more state, below one. -/
theorem RecOk.snoc {us S : List (List UInt8)} {k s : Nat} {R : List Rc} {p : List UInt8} {c : UInt8} (h : RecOk us S k R) (hk : k ≤ S.length) (hs : S[s]? = some p) : RecOk us (S ++ [p ++ [c]]) k (R ++ [⟨frL us (p ++ [c]), s, 0, p.length + 1, c⟩]) := by
  have hsl := (List.getElem?_eq_some_iff.1 hs).1
  refine ⟨by rw [List.length_append, List.length_append, h.1]; rfl, fun i q hq => ?_⟩
  rcases Nat.lt_or_ge i S.length with hi | hi
  · rw [List.getElem?_append_left hi] at hq
    obtain ⟨a, h1, h2, h3⟩ := h.2 i q hq
    refine ⟨a, ?_, by rw [List.getElem?_append_left (by omega)]; exact h2, h3⟩
    rw [List.getElem?_append_left (by rw [h.1]; exact hi), h1, off_append (by omega)]
  · rw [List.getElem?_append_right hi] at hq
    have hz : i = S.length := by
      have := (List.getElem?_eq_some_iff.1 hq).1
      simp at this; omega
    subst hz
    rw [Nat.sub_self] at hq
    simp at hq
    subst hq
    refine ⟨s, ?_, ?_, by omega⟩
    · rw [List.getElem?_append_right (by rw [h.1]; omega), h.1, Nat.sub_self, if_neg (by omega)]
      simp
    · rw [List.getElem?_append_left hsl]; simpa using hs
/-- .. one that is read. -/
theorem RecOk.at {us S : List (List UInt8)} {k : Nat} {R : List Rc} (h : RecOk us S k R) {i : Nat} {q : List UInt8} (hq : S[i]? = some q) : ∃ r, R[i]? = some r ∧ r.first = frL us q ∧ r.below = (if i < k then offL us S i else 0) ∧ r.depth = q.length ∧ r.last = q.getLastD 0 ∧ S[r.above]? = some q.dropLast ∧ r.above ≤ i := by
  obtain ⟨a, h1, h2, h3⟩ := h.2 i q hq
  exact ⟨_, h1, rfl, rfl, rfl, rfl, h2, h3⟩

/-- The groups that wait: each a state, and where its patterns stand. -/
def grL (us : List (List UInt8)) : Nat → List (List UInt8) → List (Nat × Nat × Nat)
  | _, [] => []
  | i, q :: r => (i, frL us q, toL us q) :: grL us (i + 1) r
theorem gr_length (us : List (List UInt8)) : ∀ (i : Nat) (l : List (List UInt8)), (grL us i l).length = l.length
  | _, [] => rfl
  | i, q :: r => by rw [grL, List.length_cons, List.length_cons, gr_length us (i + 1) r]
theorem gr_append (us : List (List UInt8)) : ∀ (i : Nat) (l m : List (List UInt8)), grL us i (l ++ m) = grL us i l ++ grL us (i + l.length) m
  | _, [], _ => rfl
  | i, q :: r, m => by rw [List.cons_append, grL, grL, gr_append us (i + 1) r m, List.cons_append, List.length_cons]; congr 3; omega
theorem gr_snoc (us : List (List UInt8)) (i : Nat) (l : List (List UInt8)) (q : List UInt8) : grL us i (l ++ [q]) = grL us i l ++ [(i + l.length, frL us q, toL us q)] := gr_append us i l [q]

/-- The states, as the document makes them: by their lengths below n, and of the first j patterns of that length. -/
def IsStP (us : List (List UInt8)) (n j : Nat) (out : List (List UInt8)) : Prop :=
  out.Pairwise slx ∧ (1 ≤ out.length ∧ 1 ≤ n) ∧ ∀ q, q ∈ out ↔ q = [] ∨ (q.length < n ∧ begL us q = true) ∨ (q.length = n ∧ begL (us.take j) q = true)
theorem IsStP.start (us : List (List UInt8)) : IsStP us 1 0 [[]] := by
  refine ⟨by simp, ⟨by simp, Nat.le_refl _⟩, fun q => ?_⟩
  rw [List.mem_singleton]
  constructor
  · exact .inl
  · rintro (h | ⟨h, _⟩ | ⟨_, h⟩)
    · exact h
    · exact List.eq_nil_of_length_eq_zero (by omega)
    · simp [begL] at h
theorem IsStP.next {us out : List (List UInt8)} {n : Nat} (h : IsStP us n us.length out) : IsStP us (n + 1) 0 out := by
  refine ⟨h.1, ⟨h.2.1.1, by omega⟩, fun q => ?_⟩
  rw [h.2.2 q, List.take_length]
  constructor
  · rintro (h | ⟨h, k⟩ | ⟨h, k⟩)
    · exact .inl h
    · exact .inr (.inl ⟨by omega, k⟩)
    · exact .inr (.inl ⟨by omega, k⟩)
  · rintro (h | ⟨h, k⟩ | ⟨_, h⟩)
    · exact .inl h
    · rcases Nat.lt_or_ge q.length n with h1 | h1
      · exact .inr (.inl ⟨h1, k⟩)
      · exact .inr (.inr ⟨by omega, k⟩)
    · simp [begL] at h
theorem IsStP.done {us out : List (List UInt8)} {n : Nat} (h : IsStP us n 0 out) (hn : ∀ t ∈ us, t.length < n) : IsSt us out := by
  refine ⟨h.1, fun q => ?_⟩
  rw [h.2.2 q]
  constructor
  · rintro (h | ⟨_, k⟩ | ⟨_, h⟩)
    · exact .inl h
    · exact .inr k
    · simp [begL] at h
  · rintro (h | h)
    · exact .inl h
    · obtain ⟨t, ht, hp⟩ := beg_iff.1 h
      exact .inr (.inl ⟨Nat.lt_of_le_of_lt hp.length_le (hn t ht), h⟩)
/-- A pattern that is too short, or whose beginning is the last one that was told. -/
theorem IsStP.skip {us out : List (List UInt8)} {n j : Nat} {t : List UInt8} (h : IsStP us n j out) (ht : us[j]? = some t) (hs : t.length < n ∨ t.take n ∈ out) : IsStP us n (j + 1) out := by
  refine ⟨h.1, h.2.1, fun q => ?_⟩
  rw [h.2.2 q]
  refine or_congr_right (or_congr_right (and_congr_right fun hq => ?_))
  rw [beg_take, beg_take]
  constructor
  · rintro ⟨i, u, hi, hu, hp⟩; exact ⟨i, u, by omega, hu, hp⟩
  · rintro ⟨i, u, hi, hu, hp⟩
    rcases Nat.lt_or_ge i j with h1 | h1
    · exact ⟨i, u, h1, hu, hp⟩
    · obtain rfl : i = j := by omega
      rw [ht] at hu
      cases hu
      have hl := hp.length_le
      rcases hs with hs | hs
      · omega
      · have e : t.take n = q := by rw [← hq]; exact (List.prefix_iff_eq_take.1 hp).symm
        rw [e] at hs
        rcases (h.2.2 q).1 hs with h2 | ⟨h2, _⟩ | ⟨_, h2⟩
        · subst h2
          simp at hq
          have := h.2.1.2
          omega
        · omega
        · exact beg_take.1 h2
theorem take_cmp : ∀ {u t : List UInt8} (n : Nat), compareBytes u t ≤ 0 → compareBytes (u.take n) (t.take n) ≤ 0
  | _, _, 0, _ => by simp [compareBytes]
  | [], t, n + 1, _ => cmp_pre (by simp)
  | _ :: _, [], n + 1, h => by simp [compareBytes] at h
  | a :: u, b :: t, n + 1, h => by
    rw [List.take_succ_cons, List.take_succ_cons]
    unfold compareBytes at h ⊢
    by_cases h1 : a < b
    · rw [if_pos h1]; omega
    · rw [if_neg h1] at h ⊢
      by_cases h2 : b < a
      · rw [if_pos h2] at h; omega
      · rw [if_neg h2] at h ⊢
        exact take_cmp n h
/-- A pattern whose beginning was not told. -/
theorem IsStP.put {us out : List (List UInt8)} {n j : Nat} {t l : List UInt8} (ha : Asc us) (h : IsStP us n j out) (ht : us[j]? = some t) (hn : n ≤ t.length) (hl : out[out.length - 1]? = some l) (hne : t.take n ≠ l) : IsStP us n (j + 1) (out ++ [t.take n]) := by
  have hlen : (t.take n).length = n := by rw [List.length_take]; omega
  have hup : ∀ x ∈ out, slx x (t.take n) := fun x hx => by
    obtain ⟨i, hi⟩ := List.mem_iff_getElem?.1 hx
    have hil := (List.getElem?_eq_some_iff.1 hi).1
    rcases (h.2.2 x).1 hx with rfl | ⟨h1, _⟩ | ⟨h1, h2⟩
    · exact slx_nil fun e => by rw [e] at hlen; simp at hlen; have := h.2.1.2; omega
    · exact .inl (by omega)
    · refine .inr ⟨by omega, ?_⟩
      have hle : ∀ y : List UInt8, y.length = n → begL (us.take j) y = true → compareBytes y (t.take n) ≤ 0 := fun y hy hb => by
        obtain ⟨m, u, hm, hu, hp⟩ := beg_take.1 hb
        have := take_cmp n (ha.at (Nat.le_of_lt hm) hu ht)
        rw [List.prefix_iff_eq_take] at hp
        rw [hp, hy]; exact this
      have hx1 := hle x h1 h2
      rcases Int.lt_or_eq_of_le hx1 with hlt | he
      · exact (cmp_neg _ _).1 hlt
      · have e := (cmp_zero _ _).1 he
        exfalso
        have hxl : x ≠ l := fun e2 => hne (e.symm.trans e2)
        have hi2 : i < out.length - 1 := by
          rcases Nat.lt_or_ge i (out.length - 1) with h3 | h3
          · exact h3
          · have e3 : i = out.length - 1 := by omega
            rw [e3, hl] at hi
            exact absurd (Option.some.inj hi).symm hxl
        have hs := List.pairwise_iff_getElem.1 h.1 i (out.length - 1) hil (by omega) hi2
        rw [(List.getElem?_eq_some_iff.1 hi).2, (List.getElem?_eq_some_iff.1 hl).2] at hs
        rcases (h.2.2 l).1 (List.mem_of_getElem? hl) with rfl | ⟨h3, _⟩ | ⟨h3, h4⟩
        · rcases hs with hs | ⟨_, hs⟩
          · simp at hs
          · simp at hs
        · rcases hs with hs | ⟨hs, _⟩ <;> omega
        · have hll := hle l h3 h4
          rcases hs with hs | ⟨_, hs⟩
          · omega
          · rw [e] at hs
            have := (cmp_neg _ _).2 hs
            rw [cmp_swap] at this
            omega
  refine ⟨?_, ⟨by simp, h.2.1.2⟩, fun q => ?_⟩
  · rw [List.pairwise_append]
    exact ⟨h.1, by simp, fun x hx y hy => by rw [List.mem_singleton] at hy; subst hy; exact hup x hx⟩
  · rw [List.mem_append, List.mem_singleton, h.2.2 q]
    constructor
    · rintro ((h1 | h1 | ⟨h1, h2⟩) | rfl)
      · exact .inl h1
      · exact .inr (.inl h1)
      · obtain ⟨m, u, hm, hu, hp⟩ := beg_take.1 h2
        exact .inr (.inr ⟨h1, beg_take.2 ⟨m, u, by omega, hu, hp⟩⟩)
      · exact .inr (.inr ⟨hlen, beg_take.2 ⟨j, t, by omega, ht, List.take_prefix _ _⟩⟩)
    · rintro (h1 | h1 | ⟨h1, h2⟩)
      · exact .inl (.inl h1)
      · exact .inl (.inr (.inl h1))
      · obtain ⟨m, u, hm, hu, hp⟩ := beg_take.1 h2
        rcases Nat.lt_or_ge m j with h3 | h3
        · exact .inl (.inr (.inr ⟨h1, beg_take.2 ⟨m, u, h3, hu, hp⟩⟩))
        · obtain rfl : m = j := by omega
          rw [ht] at hu
          cases hu
          refine .inr ?_
          rw [← h1]; exact List.prefix_iff_eq_take.1 hp
end Go.Proofs.Ytkaldfcpcimacaa

namespace Go.Proofs.Ytkaldfcpcimacaa
open Go.Lib

/-- The longest text that stands in a list and with which these bytes end; none: no bytes. -/
def lgL (P : List (List UInt8)) : List UInt8 → List UInt8
  | [] => []
  | c :: q => if c :: q ∈ P then c :: q else lgL P q
theorem lg_nil (P : List (List UInt8)) : lgL P [] = [] := rfl
theorem lg_hit {P : List (List UInt8)} {q : List UInt8} (h : q ∈ P) : lgL P q = q := by
  cases q with
  | nil => rfl
  | cons c q => unfold lgL; rw [if_pos h]
theorem lg_miss {P : List (List UInt8)} {q : List UInt8} (h : q ∉ P) : lgL P q = lgL P q.tail := by
  cases q with
  | nil => rfl
  | cons c q => rw [lgL, if_neg h]; rfl
theorem lg_end (P : List (List UInt8)) (q : List UInt8) : lgL P q <:+ q := by
  induction q with
  | nil => exact List.suffix_refl _
  | cons c q ih =>
    by_cases h : c :: q ∈ P
    · rw [lg_hit h]; exact List.suffix_refl _
    · rw [lg_miss h]; exact ih.trans (List.suffix_cons c q)
theorem lg_mem {P : List (List UInt8)} (h0 : [] ∈ P) (q : List UInt8) : lgL P q ∈ P := by
  induction q with
  | nil => exact h0
  | cons c q ih =>
    by_cases h : c :: q ∈ P
    · rw [lg_hit h]; exact h
    · rw [lg_miss h]; exact ih
theorem lg_or (P : List (List UInt8)) (q : List UInt8) : lgL P q = [] ∨ lgL P q ∈ P := by
  induction q with
  | nil => exact .inl rfl
  | cons c q ih =>
    by_cases h : c :: q ∈ P
    · rw [lg_hit h]; exact .inr h
    · rw [lg_miss h]; exact ih
theorem lg_len (P : List (List UInt8)) (q : List UInt8) : (lgL P q).length ≤ q.length := (lg_end P q).length_le
/-- What stands there and ends these bytes ends the longest one. -/
theorem lg_max {P : List (List UInt8)} {t : List UInt8} : ∀ {q : List UInt8}, t ∈ P → t <:+ q → t <:+ lgL P q
  | [], _, h => h
  | c :: q, ht, h => by
    by_cases hq : c :: q ∈ P
    · rw [lg_hit hq]; exact h
    · rw [lg_miss hq]
      rcases List.suffix_cons_iff.1 h with h | h
      · subst h; exact absurd ht hq
      · exact lg_max ht h
/-- The longest one of a list ends the longest one of another that holds it. -/
theorem lg_in {U P : List (List UInt8)} (hs : ∀ t ∈ U, t ∈ P) : ∀ q : List UInt8, lgL U q = lgL U (lgL P q)
  | [] => rfl
  | c :: q => by
    by_cases h : c :: q ∈ P
    · rw [lg_hit h]
    · rw [lg_miss (P := P) h, lg_miss (P := U) fun hm => h (hs _ hm)]
      exact lg_in hs q
/-- One more byte behind: only the longest one counts. -/
theorem lg_snoc {P : List (List UInt8)} (hc : ∀ t ∈ P, t.dropLast ∈ P) (c : UInt8) : ∀ q : List UInt8, lgL P (q ++ [c]) = lgL P (lgL P q ++ [c])
  | [] => rfl
  | d :: q => by
    by_cases h : d :: q ∈ P
    · rw [lg_hit h]
    · rw [lg_miss (P := P) (q := d :: q) h, lg_miss (P := P) (q := d :: q ++ [c]) fun hm => h (by have := hc _ hm; rwa [List.dropLast_concat] at this)]
      exact lg_snoc hc c q
theorem st_closed {us S : List (List UInt8)} (h : IsSt us S) : ∀ t ∈ S, t.dropLast ∈ S := fun t ht => by
  rcases (h.2 t).1 ht with rfl | hb
  · exact ht
  · exact (h.2 _).2 (.inr (beg_short hb (List.dropLast_prefix t)))
theorem st_pats {us S : List (List UInt8)} (h : IsSt us S) : ∀ t ∈ us, t ∈ S := fun t ht => (h.2 t).2 (.inr (beg_iff.2 ⟨t, ht, List.prefix_refl t⟩))
theorem st_root {us S : List (List UInt8)} (h : IsSt us S) : [] ∈ S := (h.2 []).2 (.inl rfl)

/-- Where a state falls back to. -/
def fbL (S : List (List UInt8)) (q : List UInt8) : List UInt8 := lgL S q.tail
theorem fb_less {S : List (List UInt8)} {q : List UInt8} (h : q ≠ []) : (fbL S q).length < q.length := by
  have := lg_len S q.tail
  cases q with
  | nil => exact absurd rfl h
  | cons c q => simp only [fbL, List.tail_cons, List.length_cons] at *; omega
/-- A step that leads nowhere goes on from where the state falls back to. -/
theorem lg_step {us S : List (List UInt8)} (hs : IsSt us S) {q : List UInt8} (c : UInt8) (h0 : q ≠ []) (h : q ++ [c] ∉ S) : lgL S (q ++ [c]) = lgL S (fbL S q ++ [c]) := by
  rw [lg_miss h]
  cases q with
  | nil => exact absurd rfl h0
  | cons d q => exact lg_snoc (st_closed hs) c q
/-- Where a state falls back to, out of the one above it. -/
theorem fb_above {us S : List (List UInt8)} (hs : IsSt us S) {a : List UInt8} (c : UInt8) (h0 : a ≠ []) : fbL S (a ++ [c]) = lgL S (fbL S a ++ [c]) := by
  cases a with
  | nil => exact absurd rfl h0
  | cons d q => exact lg_snoc (st_closed hs) c q
theorem fb_one (S : List (List UInt8)) (c : UInt8) : fbL S [c] = [] := rfl
theorem out_via {us S : List (List UInt8)} (hs : IsSt us S) (q : List UInt8) : fbL us q = lgL us (fbL S q) := lg_in (st_pats hs) q.tail
theorem out_hit {us S : List (List UInt8)} (hs : IsSt us S) {q : List UInt8} (h : fbL S q ∈ us) : fbL us q = fbL S q := (out_via hs q).trans (lg_hit h)
theorem out_miss {us S : List (List UInt8)} (hs : IsSt us S) {q : List UInt8} (h : fbL S q ∉ us) : fbL us q = fbL us (fbL S q) := (out_via hs q).trans (lg_miss h)

/-- The texts of a list with which these bytes end, the longest one first. -/
def tlL (U : List (List UInt8)) : List UInt8 → List (List UInt8)
  | [] => []
  | c :: q => if c :: q ∈ U then (c :: q) :: tlL U q else tlL U q
theorem tl_mem {U : List (List UInt8)} {t : List UInt8} : ∀ {q : List UInt8}, t ∈ tlL U q ↔ t ∈ U ∧ t ≠ [] ∧ t <:+ q
  | [] => by simp only [tlL, List.not_mem_nil, false_iff, not_and]; intro _ h hs; exact h (List.suffix_nil.1 hs)
  | c :: q => by
    unfold tlL
    rw [List.suffix_cons_iff]
    split
    · rename_i h
      rw [List.mem_cons, tl_mem]
      constructor
      · rintro (rfl | ⟨h1, h2, h3⟩)
        · exact ⟨h, by simp, .inl rfl⟩
        · exact ⟨h1, h2, .inr h3⟩
      · rintro ⟨h1, h2, h3 | h3⟩
        · exact .inl h3
        · exact .inr ⟨h1, h2, h3⟩
    · rename_i h
      rw [tl_mem]
      constructor
      · rintro ⟨h1, h2, h3⟩
        exact ⟨h1, h2, .inr h3⟩
      · rintro ⟨h1, h2, h3 | h3⟩
        · subst h3; exact absurd h1 h
        · exact ⟨h1, h2, h3⟩
theorem tl_less {U : List (List UInt8)} : ∀ q : List UInt8, (tlL U q).Pairwise (fun a b => b.length < a.length) ∧ ∀ t ∈ tlL U q, t.length ≤ q.length
  | [] => ⟨List.Pairwise.nil, fun t h => by simp [tlL] at h⟩
  | c :: q => by
    obtain ⟨h1, h2⟩ := tl_less (U := U) q
    unfold tlL
    split
    · refine ⟨List.Pairwise.cons (fun t ht => ?_) h1, fun t ht => ?_⟩
      · have := h2 t ht; simp; omega
      · rcases List.mem_cons.1 ht with rfl | ht
        · exact Nat.le_refl _
        · have := h2 t ht; simp; omega
    · exact ⟨h1, fun t ht => by have := h2 t ht; simp; omega⟩
theorem tl_step {U : List (List UInt8)} : ∀ q : List UInt8, tlL U q = tlL U (lgL U q)
  | [] => rfl
  | c :: q => by
    by_cases h : c :: q ∈ U
    · rw [lg_hit h]
    · rw [lg_miss h, show tlL U (c :: q) = tlL U q by unfold tlL; rw [if_neg h]; cases q <;> rfl]
      exact tl_step q
theorem tl_at {U : List (List UInt8)} (hu : [] ∉ U) (q : List UInt8) : tlL U q = (if q ∈ U then [q] else []) ++ tlL U (fbL U q) := by
  cases q with
  | nil => rw [if_neg hu]; rfl
  | cons c q =>
    show (if c :: q ∈ U then (c :: q) :: tlL U q else tlL U q) = _
    rw [show fbL U (c :: q) = lgL U q from rfl, ← tl_step]
    split <;> rfl

/-- The numbers of the first k patterns with which bytes end. -/
def hkL (us : List (List UInt8)) (q : List UInt8) : Nat → List Int
  | 0 => []
  | k + 1 => hkL us q k ++ if us.getD k [] <:+ q then [(k : Int)] else []
/-- The numbers of all patterns with which bytes end. -/
def hsL (us : List (List UInt8)) (q : List UInt8) : List Int := hkL us q us.length
theorem hk_hit {us : List (List UInt8)} {q t : List UInt8} {k : Nat} (h : us[k]? = some t) (hs : t <:+ q) : hkL us q (k + 1) = hkL us q k ++ [(k : Int)] := by
  simp [hkL, List.getD, h, hs]
theorem hk_miss {us : List (List UInt8)} {q t : List UInt8} {k : Nat} (h : us[k]? = some t) (hs : ¬ t <:+ q) : hkL us q (k + 1) = hkL us q k := by
  simp [hkL, List.getD, h, hs]
theorem hk_mem {us : List (List UInt8)} {q : List UInt8} {z : Int} : ∀ {k : Nat}, z ∈ hkL us q k ↔ ∃ i : Nat, i < k ∧ z = (i : Int) ∧ us.getD i [] <:+ q
  | 0 => by simp [hkL]
  | k + 1 => by
    unfold hkL
    rw [List.mem_append, hk_mem]
    constructor
    · rintro (⟨i, h1, h2, h3⟩ | h)
      · exact ⟨i, by omega, h2, h3⟩
      · split at h
        · rename_i hs
          exact ⟨k, by omega, by simpa using h, hs⟩
        · simp at h
    · rintro ⟨i, h1, h2, h3⟩
      by_cases hi : i = k
      · subst hi; rw [if_pos h3]; exact .inr (by simp [h2])
      · exact .inl ⟨i, by omega, h2, h3⟩
theorem hk_rise {us : List (List UInt8)} {q : List UInt8} : ∀ k : Nat, (hkL us q k).Pairwise (· < ·)
  | 0 => List.Pairwise.nil
  | k + 1 => by
    unfold hkL
    rw [List.pairwise_append]
    refine ⟨hk_rise k, by split <;> simp, fun x hx y hy => ?_⟩
    obtain ⟨i, h1, rfl, _⟩ := hk_mem.1 hx
    split at hy
    · simp at hy; subst hy; omega
    · simp at hy
theorem hk_few (us : List (List UInt8)) (q : List UInt8) : ∀ k : Nat, (hkL us q k).length ≤ k
  | 0 => Nat.le_refl _
  | k + 1 => by
    have := hk_few us q k
    unfold hkL
    split <;> simp <;> omega

/-- The numbers of patterns, in the order in which a state's are met. -/
def nuL (us : List (List UInt8)) (l : List (List UInt8)) : List Int := l.map fun t => (frL us t : Int)
/-- Put in order, these are the numbers of all patterns with which the bytes end. -/
theorem nu_sorts {us : List (List UInt8)} (he : ∀ t ∈ us, t ≠ []) (hn : us.Nodup) (hf : ∀ t ∈ us, us[frL us t]? = some t) (q : List UInt8) :
    ((nuL us (tlL us q)).mergeSort fun x y => decide (x ≤ y)) = hsL us q := by
  have hmem : ∀ z, z ∈ nuL us (tlL us q) ↔ z ∈ hsL us q := fun z => by
    unfold nuL hsL
    rw [List.mem_map, hk_mem]
    constructor
    · rintro ⟨t, ht, rfl⟩
      obtain ⟨h1, h2, h3⟩ := tl_mem.1 ht
      have h4 := hf t h1
      exact ⟨_, (List.getElem?_eq_some_iff.1 h4).1, rfl, by rw [List.getD_eq_getElem?_getD, h4]; exact h3⟩
    · rintro ⟨i, h1, rfl, h3⟩
      have e : us[i]? = some (us.getD i []) := by rw [List.getD_eq_getElem?_getD, List.getElem?_eq_getElem h1]; rfl
      have hm := List.mem_of_getElem? e
      refine ⟨us.getD i [], tl_mem.2 ⟨hm, he _ hm, h3⟩, ?_⟩
      have h4 := hf _ hm
      obtain ⟨a1, b1⟩ := List.getElem?_eq_some_iff.1 e
      obtain ⟨a2, b2⟩ := List.getElem?_eq_some_iff.1 h4
      have := (List.getElem_inj hn).1 (b2.trans b1.symm)
      omega
  have hnd : (nuL us (tlL us q)).Nodup := by
    unfold nuL
    rw [List.Nodup, List.pairwise_map]
    refine (tl_less q).1.imp_of_mem ?_
    intro a b ha hb hab e
    have h1 := hf a (tl_mem.1 ha).1
    have h2 := hf b (tl_mem.1 hb).1
    rw [show frL us a = frL us b by omega, h2] at h1
    cases h1
    omega
  have hr := hk_rise (us := us) (q := q) us.length
  have hnr : (hsL us q).Nodup := hr.imp fun {a b} hab e => by omega
  have hp : (nuL us (tlL us q)).Perm (hsL us q) := (List.perm_ext_iff_of_nodup hnd hnr).2 hmem
  refine List.Perm.eq_of_pairwise (le := fun x y => x ≤ y) (fun a b _ _ h1 h2 => by omega) ?_ (hr.imp fun {a b} h => by omega) ((List.mergeSort_perm _ _).trans hp)
  have := List.pairwise_mergeSort (le := fun (x y : Int) => decide (x ≤ y)) (fun a b c h1 h2 => by simp at *; omega) (fun a b => by simp; omega) (nuL us (tlL us q))
  exact this.imp fun {a b} h => by simpa using h
end Go.Proofs.Ytkaldfcpcimacaa

namespace Go.Proofs.Ytkaldfcpcimacaa
open Go.RowKit

/-- Behind a call that writes one block of its own: all others below 'base' are as they were. -/
structure But (base b : Nat) (w w' : World) : Prop where
  os : w'.os = w.os
  tape : w'.tape = w.tape
  output : w'.output = w.output
  size : w.heap.size ≤ w'.heap.size
  block : ∀ k, k < base → k ≠ b → w'.heap[k]? = w.heap[k]?

theorem But.refl (base b : Nat) (w : World) : But base b w w := ⟨rfl, rfl, rfl, Nat.le_refl _, fun _ _ _ => rfl⟩
theorem But.trans {base b : Nat} {u v w : World} (h : But base b u v) (k : But base b v w) : But base b u w :=
  ⟨k.os.trans h.os, k.tape.trans h.tape, k.output.trans h.output, Nat.le_trans h.size k.size, fun i hi hb => (k.block i hi hb).trans (h.block i hi hb)⟩
theorem But.below {base b : Nat} {w w' : World} (h : But base b w w') (hb : b ≤ base) : Below b w w' :=
  ⟨h.os, h.tape, h.output, h.size, fun k hk => h.block k (by omega) (by omega)⟩
theorem But.of {base b : Nat} {w w' : World} (h : Below base w w') : But base b w w' := ⟨h.os, h.tape, h.output, h.size, fun k hk _ => h.block k hk⟩

theorem owns_slice {w : World} {base : Nat} {e : TypeId} {v : Value} {n : Nat} {xs : List Value} (h : w.ownsRow base e 1 v n xs) : ∃ a cap, v = .slice a n cap := by
  rcases h.2 with ⟨rfl, rfl⟩ | ⟨g, cap, cur, rfl, _⟩
  · exact ⟨_, _, rfl⟩
  · exact ⟨_, _, rfl⟩

theorem owns_some {w : World} {base : Nat} {e : TypeId} {v : Value} {n : Nat} {xs : List Value} (h : w.ownsRow base e 1 v n xs) (hn : 0 < n) : ∃ g cap, base ≤ g ∧ n ≤ cap ∧ v = .slice (some ⟨g, 0, none⟩) n cap := by
  rcases h.2 with ⟨rfl, rfl⟩ | ⟨g, cap, cur, rfl, hg, _, hc, _⟩
  · omega
  · exact ⟨g, cap, hg, hc, rfl⟩

theorem put_heap {w : World} {b i : Nat} {cs : Array Value} {T : TypeId} (h : w.heap[b]? = some (.cells cs T (0, 0))) (u : Value) : (w.setCell ⟨b, i, none⟩ u).heap[b]? = some (.cells (cs.setIfInBounds i u) T (0, 0)) := by
  simp [World.setCell, Array.getElem?_modify, h]

theorem put_other {w : World} {b i k : Nat} (h : k ≠ b) (u : Value) : (w.setCell ⟨b, i, none⟩ u).heap[k]? = w.heap[k]? := Below.heap_setCell _ _ _ _ h

theorem lt_of_heap {w : World} {b : Nat} {o : Obj} (h : w.heap[b]? = some o) : b < w.heap.size := by
  rcases Nat.lt_or_ge b w.heap.size with h' | h'
  · exact h'
  · simp [Array.getElem?_eq_none h'] at h

/-- All that was stored was stored into block b. -/
structure Into (b : Nat) (w w' : World) : Prop where
  os : w'.os = w.os
  tape : w'.tape = w.tape
  output : w'.output = w.output
  size : w'.heap.size = w.heap.size
  block : ∀ k, k ≠ b → w'.heap[k]? = w.heap[k]?
theorem Into.refl (b : Nat) (w : World) : Into b w w := ⟨rfl, rfl, rfl, rfl, fun _ _ => rfl⟩
theorem Into.set {b : Nat} {w v : World} (h : Into b w v) (i : Nat) (u : Value) : Into b w (v.setCell ⟨b, i, none⟩ u) :=
  ⟨h.os, h.tape, h.output, by rw [← h.size]; simp [World.setCell], fun k hk => (put_other hk u).trans (h.block k hk)⟩
theorem Into.drewN {b : Nat} {w v : World} (h : Into b w v) (n : Nat) : Into b w (v.drewN n) := ⟨h.os, h.tape, h.output, h.size, h.block⟩

theorem Into.owns {base b : Nat} {w w' : World} {e : TypeId} {v : Value} {n : Nat} {xs : List Value} (h : Into b w w') (hb : b < base) (hown : w.ownsRow base e 1 v n xs) : w'.ownsRow base e 1 v n xs := by
  obtain ⟨hl, hx⟩ := hown
  refine ⟨hl, ?_⟩
  rcases hx with hx | ⟨g, cap, cur, hv, hg, hh, r⟩
  · exact .inl hx
  · exact .inr ⟨g, cap, cur, hv, hg, (h.block g (by omega)).trans hh, r⟩
end Go.Proofs.Ytkaldfcpcimacaa

namespace Go.Proofs.Ytkaldfcpcimacaa
open Go.RowKit

/-- A slice that holds these texts. -/
def IsStrs (w : World) (a : Option Addr) (len : Nat) (ws : List (List UInt8)) : Prop :=
  ws.length = len ∧ (len = 0 ∨ ∃ b off, a = some ⟨b, off, none⟩ ∧ ∀ i (h : i < ws.length), w.cell? ⟨b, off + i, none⟩ = some (.string ⟨(ws[i]'h).toArray⟩))

theorem IsStrs.below {w w' : World} {a : Option Addr} {len : Nat} {ws : List (List UInt8)} (h : IsStrs w a len ws) (hb : Below w.heap.size w w') : IsStrs w' a len ws := by
  obtain ⟨hl, h⟩ := h
  refine ⟨hl, ?_⟩
  rcases h with h | ⟨b, off, ha, hc⟩
  · exact .inl h
  · refine .inr ⟨b, off, ha, fun i hi => ?_⟩
    have h1 := hc i hi
    rw [hb.cell (p := ⟨b, off + i, none⟩) (World.block_lt_of_cell? w _ h1)]
    exact h1

/-- One of them: where it lies. -/
theorem str_at {w wr : World} {a : Option Addr} {len : Nat} {ws : List (List UInt8)} (h : IsStrs w a len ws) (hb : Below w.heap.size w wr) (k : Nat) (hk : k < len) :
    ∃ b off, a = some ⟨b, off, none⟩ ∧ ∃ t, ws[k]? = some t ∧ wr.cell? ⟨b, off + k, none⟩ = some (.string ⟨t.toArray⟩) := by
  obtain ⟨hl, h⟩ := h.below hb
  rcases h with h | ⟨b, off, ha, hc⟩
  · omega
  · have hkl : k < ws.length := by omega
    exact ⟨b, off, ha, ws[k], List.getElem?_eq_getElem hkl, hc k hkl⟩

/-- The cells of texts. -/
def txCells (ws : List (List UInt8)) : List Value := ws.map fun t => .string ⟨t.toArray⟩
theorem txCells_snoc (ws : List (List UInt8)) (t : List UInt8) : txCells (ws ++ [t]) = txCells ws ++ [.string ⟨t.toArray⟩] := by simp [txCells]

theorem owns_strs {w : World} {base : Nat} {e : TypeId} {v : Value} {ws : List (List UInt8)} (h : w.ownsRow base e 1 v ws.length (txCells ws)) :
    ∃ ao cap, v = .slice ao ws.length cap ∧ IsStrs w ao ws.length ws := by
  rcases h.2 with ⟨hv, h0⟩ | ⟨g, cap, cur, hv, _⟩
  · have h0' : ws.length = 0 := h0
    exact ⟨none, 0, by rw [h0']; exact hv, rfl, .inl h0'⟩
  · refine ⟨some ⟨g, 0, none⟩, cap, hv, rfl, .inr ⟨g, 0, rfl, fun i hi => ?_⟩⟩
    have hc := h.cells (g := g) (by rw [hv]; rfl) i (.string ⟨(ws[i]'hi).toArray⟩) (by simp [txCells, List.getElem?_eq_getElem hi])
    rwa [addPlain] at hc

theorem tx_below {w w' : World} {base : Nat} {e : TypeId} {size : Nat} {v : Value} {n : Nat} {xs : List Value} (h : w.ownsRow base e size v n xs) (hb : Below w.heap.size w w') : w'.ownsRow base e size v n xs :=
  h.kept (row := none) ⟨hb.os, hb.tape, hb.output, hb.size, fun k hk _ => hb.block k hk⟩ (Classical.em _)

theorem below_drewS {B : Nat} {a w : World} (h : Below B a w) (n : Nat) : Below B a (w.drewN n) := h.trans ⟨rfl, rfl, rfl, Nat.le_refl _, fun _ _ => rfl⟩

/-- A list of words, as an answer: a slice of the call's own; nothing that was there is written. -/
def RetL (ws : List (List UInt8)) (w : World) (e : Ending) (w' : World) : Prop := ∃ (a : Option Addr) (cap : Nat), e = .returned (.slice a ws.length cap) ∧ IsStrs w' a ws.length ws ∧ Below w.heap.size w w'
theorem RetL.mk {ws R : List (List UInt8)} {w w' : World} {e : Ending} {a : Option Addr} {cap : Nat} (h : ws = R) (he : e = .returned (.slice a R.length cap)) (hf : IsStrs w' a R.length R) (hb : Below w.heap.size w w') : RetL ws w e w' := by
  subst h; exact ⟨a, cap, he, hf, hb⟩

theorem string_info : (Try.prog.info? 9).map (fun i => (i.zero, i.size, i.bytes)) = some (some (.string ByteArray.empty), 1, 16) := by kernel_rfl

/-- A text's one cell, in a block of its own. -/
theorem one_news {w : World} {X : Nat} {T : TypeId} {u : Value} (h : w.heap[X]? = some (.cells #[u] T (0, 0))) : ∀ j x, [u][j]? = some x → w.cell? ((⟨X, 0, none⟩ : Addr).add j) = some x := by
  intro j x hj
  match j, hj with
  | 0, hj => simp at hj; subst hj; simp [Addr.add, World.cell?, h]
theorem str_one {d : ByteArray} : ∀ x ∈ [Value.string d], x.oneCell' = true := by
  intro x hx
  simp at hx
  subst hx; rfl

theorem ext_cut (l : List UInt8) (st k : Nat) : (⟨l.toArray⟩ : ByteArray).extract st k = ⟨((l.take k).drop st).toArray⟩ := by
  rw [Lib.extract_eq]
  simp only [ByteArray.mk.injEq]
  rw [List.drop_take]
theorem ext_rest (l : List UInt8) (st : Nat) : (⟨l.toArray⟩ : ByteArray).extract st l.length = ⟨(l.drop st).toArray⟩ := by
  rw [ext_cut, List.take_length]
theorem cut_none (l : List UInt8) (k : Nat) : (l.take k).drop k = [] := List.drop_eq_nil_of_le (List.length_take_le _ _)

/-- Texts in one block of their own. -/
theorem strs_heap {w : World} {g n : Nat} {ws : List (List UInt8)} {T : TypeId} (h : w.heap[g]? = some (.cells (txCells ws).toArray T (0, 0))) (hn : ws.length = n) : IsStrs w (some ⟨g, 0, none⟩) n ws := by
  refine ⟨hn, .inr ⟨g, 0, rfl, fun i hi => ?_⟩⟩
  rw [Nat.zero_add, Lib.cell_of_heap h]
  simp [txCells, List.getElem?_eq_getElem hi]
end Go.Proofs.Ytkaldfcpcimacaa

namespace Go.Proofs.Ytkaldfcpcimacaa
open Go.RowKit

/-- The two cells of where a state falls back to. -/
def flOne (r : Nat × Nat) : List Value := [.int .i32 (r.1 : Int), .int .i32 (r.2 : Int)]
def flCells (F : List (Nat × Nat)) : List Value := F.flatMap flOne
theorem fl_cons (r : Nat × Nat) (F : List (Nat × Nat)) : flCells (r :: F) = flOne r ++ flCells F := rfl
theorem flOne_length (r : Nat × Nat) : (flOne r).length = 2 := rfl
theorem flCells_length : ∀ F : List (Nat × Nat), (flCells F).length = F.length * 2
  | [] => rfl
  | r :: F => by rw [fl_cons, List.length_append, flCells_length F, List.length_cons, flOne_length]; omega
theorem flCells_at : ∀ (F : List (Nat × Nat)) (i j : Nat) {r : Nat × Nat}, F[i]? = some r → j < 2 → (flCells F)[i * 2 + j]? = (flOne r)[j]?
  | q :: F, 0, j, r, h, hj => by
    simp at h; subst h
    rw [fl_cons, List.getElem?_append_left (by rw [flOne_length]; omega)]; congr 1; omega
  | q :: F, i + 1, j, r, h, hj => by
    rw [fl_cons, List.getElem?_append_right (by rw [flOne_length]; omega), flOne_length, show (i + 1) * 2 + j - 2 = i * 2 + j by omega]
    exact flCells_at F i j (by simpa using h) hj
theorem fl_set : ∀ (F : List (Nat × Nat)) (i : Nat) {r : Nat × Nat} (a b : Nat), F[i]? = some r → ((flCells F).set (i * 2) (.int .i32 (a : Int))).set (i * 2 + 1) (.int .i32 (b : Int)) = flCells (F.set i (a, b))
  | q :: F, 0, r, a, b, h => by rfl
  | q :: F, i + 1, r, a, b, h => by
    rw [fl_cons, List.set_cons_succ, fl_cons, ← fl_set F i a b (by simpa using h), List.set_append_right _ _ (by rw [flOne_length]; omega), List.set_append_right _ _ (by rw [flOne_length]; omega), flOne_length, show (i + 1) * 2 - 2 = i * 2 by omega, show (i + 1) * 2 + 1 - 2 = i * 2 + 1 by omega]
theorem fl_rep : ∀ n : Nat, flCells (List.replicate n (0, 0)) = List.replicate (n * 2) (.int .i32 0)
  | 0 => rfl
  | n + 1 => by rw [List.replicate_succ, fl_cons, fl_rep n, show (n + 1) * 2 = n * 2 + 1 + 1 by omega, List.replicate_succ, List.replicate_succ]; rfl
theorem fl_info : (Try.prog.info? 63).map (fun i => (i.zero, i.size, i.bytes)) = some (some (.agg #[.int .i32 0, .int .i32 0]), 2, 8) := by kernel_rfl

/-- Links lie in block b: of the trie behind q, with where its states fall back to in block g. What they own lies from 'base' on. -/
structure IsLk (w : World) (base b g : Nat) (q : Option Addr) (F : List (Nat × Nat)) : Prop where
  head : w.heap[b]? = some (.cells #[.pointer q, .slice (some ⟨g, 0, none⟩) F.length F.length] 61 (0, 0))
  row : w.heap[g]? = some (.cells (flCells F).toArray 63 (0, 0))
  bb : base ≤ b
  gg : base ≤ g
  few : F.length ≤ 16777217
  fit : ∀ r ∈ F, r.1 ≤ 16777217 ∧ r.2 ≤ 16777217
theorem IsLk.lt {w : World} {base b g : Nat} {q : Option Addr} {F : List (Nat × Nat)} (h : IsLk w base b g q F) : b < w.heap.size := lt_of_heap h.head
theorem IsLk.ltg {w : World} {base b g : Nat} {q : Option Addr} {F : List (Nat × Nat)} (h : IsLk w base b g q F) : g < w.heap.size := lt_of_heap h.row
theorem IsLk.below {w w' : World} {base b g : Nat} {q : Option Addr} {F : List (Nat × Nat)} (h : IsLk w base b g q F) (hb : Below w.heap.size w w') : IsLk w' base b g q F :=
  ⟨(hb.block b h.lt).trans h.head, (hb.block g h.ltg).trans h.row, h.bb, h.gg, h.few, h.fit⟩
theorem IsLk.heap {w W : World} {base b g : Nat} {q : Option Addr} {F : List (Nat × Nat)} (h : IsLk w base b g q F) (e : W.heap = w.heap) : IsLk W base b g q F :=
  ⟨by rw [e]; exact h.head, by rw [e]; exact h.row, h.bb, h.gg, h.few, h.fit⟩
theorem IsLk.reads {w : World} {base b g : Nat} {q : Option Addr} {F : List (Nat × Nat)} (h : IsLk w base b g q F) : w.cell? ⟨b, 0, none⟩ = some (.pointer q) ∧ w.cell? ⟨b, 1, none⟩ = some (.slice (some ⟨g, 0, none⟩) F.length F.length) ∧
    ∀ (i : Nat) r, F[i]? = some r → w.cell? ⟨g, i * 2, none⟩ = some (.int .i32 (r.1 : Int)) ∧ w.cell? ⟨g, i * 2 + 1, none⟩ = some (.int .i32 (r.2 : Int)) := by
  refine ⟨by rw [Lib.cell_of_heap h.head]; rfl, by rw [Lib.cell_of_heap h.head]; rfl, fun i r hi => ⟨?_, ?_⟩⟩
  · rw [Lib.cell_of_heap h.row, List.getElem?_toArray]
    exact flCells_at F i 0 hi (by omega)
  · rw [Lib.cell_of_heap h.row, List.getElem?_toArray]
    exact flCells_at F i 1 hi (by omega)

/-- Links behind a pointer, or none: then they know of no state, and have no trie. -/
def HasLk (w : World) (k q : Option Addr) (F : List (Nat × Nat)) : Prop := (k = none ∧ q = none ∧ F = []) ∨ ∃ base b g, k = some ⟨b, 0, none⟩ ∧ IsLk w base b g q F
theorem HasLk.below {w w' : World} {k q : Option Addr} {F : List (Nat × Nat)} (h : HasLk w k q F) (hb : Below w.heap.size w w') : HasLk w' k q F :=
  h.elim .inl (fun ⟨base, b, g, h1, h2⟩ => .inr ⟨base, b, g, h1, h2.below hb⟩)
theorem HasLk.heap {w W : World} {k q : Option Addr} {F : List (Nat × Nat)} (h : HasLk w k q F) (e : W.heap = w.heap) : HasLk W k q F :=
  h.elim .inl (fun ⟨base, b, g, h1, h2⟩ => .inr ⟨base, b, g, h1, h2.heap e⟩)
theorem HasLk.some {w : World} {k q : Option Addr} {F : List (Nat × Nat)} (h : HasLk w k q F) {i : Nat} (hk : i < F.length) : ∃ base b g, k = some ⟨b, 0, none⟩ ∧ IsLk w base b g q F := by
  rcases h with ⟨_, _, rfl⟩ | h
  · simp at hk
  · exact h
theorem HasLk.nil (w : World) : HasLk w none none [] := .inl ⟨rfl, rfl, rfl⟩

theorem lktrie_any {w : World} {k q : Option Addr} {F : List (Nat × Nat)} (h : HasLk w k q F) : Calls Try.prog 21 #[.pointer k] w fun e w' => e = .returned (.pointer q) ∧ w' = w := by
  rcases h with ⟨rfl, rfl, _⟩ | ⟨base, b, g, rfl, h⟩
  · go_enter Try.func21, Try.ntmps21
    go_wp2
    go_ret
    exact ⟨rfl, rfl⟩
  · obtain ⟨c0, _, _⟩ := h.reads
    clear h
    go_enter Try.func21, Try.ntmps21
    go_wp2
    go_ret
    exact ⟨rfl, rfl⟩
set_option maxHeartbeats 1000000 in
theorem lkis_in {w : World} {k q : Option Addr} {F : List (Nat × Nat)} (h : HasLk w k q F) (i : Nat) (hi : i < F.length) : Calls Try.prog 36 #[.pointer k, .int .i64 (i : Int)] w fun e w' => e = .returned (.bool true) ∧ w' = w := by
  obtain ⟨base, b, g, rfl, ht⟩ := h.some hi
  obtain ⟨_, c1, _⟩ := ht.reads
  have g0 : (0 : Int) ≤ (i : Int) := by omega
  have g1 : (i : Int) < (F.length : Int) := by omega
  clear h ht
  go_enter Try.func36, Try.ntmps36
  go_wp2
  go_ret
  exact ⟨rfl, rfl⟩
set_option maxHeartbeats 1000000 in
theorem lkis_out {w : World} {k q : Option Addr} {F : List (Nat × Nat)} (h : HasLk w k q F) (s : Int) (hs : s < 0 ∨ (F.length : Int) ≤ s) : Calls Try.prog 36 #[.pointer k, .int .i64 s] w fun e w' => e = .returned (.bool false) ∧ w' = w := by
  rcases h with ⟨rfl, _, rfl⟩ | ⟨base, b, g, rfl, h⟩
  · clear hs
    go_enter Try.func36, Try.ntmps36
    go_wp2
    go_ret
    exact ⟨rfl, rfl⟩
  · obtain ⟨_, c1, _⟩ := h.reads
    clear h
    by_cases h0 : s < 0
    · have g0 : ¬ (0 : Int) ≤ s := by omega
      clear hs
      go_enter Try.func36, Try.ntmps36
      go_wp2
      go_ret
      exact ⟨rfl, rfl⟩
    · have g0 : (0 : Int) ≤ s := by omega
      have g1 : ¬ s < (F.length : Int) := by omega
      have g2 : decide (s < (F.length : Int)) = false := decide_eq_false g1
      clear hs
      go_enter Try.func36, Try.ntmps36
      go_wp2
      go_ret
      exact ⟨rfl, rfl⟩

/-- Where a state falls back to, as a value. -/
def flV (r : Nat × Nat) : Value := .agg #[.int .i32 (r.1 : Int), .int .i32 (r.2 : Int)]
/-- What is known of any number: of a state's, and of one that is none. -/
def flOf (F : List (Nat × Nat)) (s : Int) : Nat × Nat := if 0 ≤ s then F.getD s.toNat (0, 0) else (0, 0)
theorem flOf_in {F : List (Nat × Nat)} {i : Nat} {r : Nat × Nat} (h : F[i]? = some r) : flOf F i = r := by
  unfold flOf
  rw [if_pos (by omega), Int.toNat_natCast, List.getD_eq_getElem?_getD, h]; rfl
theorem flOf_out {F : List (Nat × Nat)} {s : Int} (h : s < 0 ∨ (F.length : Int) ≤ s) : flOf F s = (0, 0) := by
  unfold flOf
  split
  · rw [List.getD_eq_getElem?_getD, List.getElem?_eq_none (by omega)]; rfl
  · rfl
theorem fl_in_out (F : List (Nat × Nat)) (s : Int) : (∃ i : Nat, s = i ∧ ∃ r, F[i]? = some r) ∨ (s < 0 ∨ (F.length : Int) ≤ s) := by
  by_cases h : s < 0 ∨ (F.length : Int) ≤ s
  · exact .inr h
  · refine .inl ⟨s.toNat, by omega, ?_⟩
    have hk : s.toNat < F.length := by omega
    exact ⟨F[s.toNat], List.getElem?_eq_getElem hk⟩
theorem flOf_fit {w : World} {k q : Option Addr} {F : List (Nat × Nat)} (h : HasLk w k q F) (s : Int) : (flOf F s).1 ≤ 16777217 ∧ (flOf F s).2 ≤ 16777217 := by
  rcases fl_in_out F s with ⟨i, rfl, r, hr⟩ | hs
  · rw [flOf_in hr]
    obtain ⟨base, b, g, rfl, ht⟩ := h.some (List.getElem?_eq_some_iff.1 hr).1
    exact ht.fit r (List.mem_of_getElem? hr)
  · rw [flOf_out hs]; simp

set_option maxHeartbeats 1000000 in
theorem lkof_in {w : World} {k q : Option Addr} {F : List (Nat × Nat)} (h : HasLk w k q F) (i : Nat) (r : Nat × Nat) (hr : F[i]? = some r) : Calls Try.prog 33 #[.pointer k, .int .i64 (i : Int)] w fun e w' => e = .returned (flV r) ∧ Below w.heap.size w w' := by
  have hi := (List.getElem?_eq_some_iff.1 hr).1
  have HS := Lib.hid (fun o => lkis_in (h.below ((Below.refl _ _).alloc (Nat.le_refl _) o)) i hi)
  obtain ⟨base, b, g, rfl, ht⟩ := h.some hi
  have d1 := fun o => (ht.below ((Below.refl _ _).alloc (Nat.le_refl _) o)).reads.2.1
  have e0 := fun o => ((ht.below ((Below.refl _ _).alloc (Nat.le_refl _) o)).reads.2.2 i r hr).1
  have e1 := fun o => ((ht.below ((Below.refl _ _).alloc (Nat.le_refl _) o)).reads.2.2 i r hr).2
  have g0 : (0 : Int) ≤ (i : Int) := by omega
  have g1 : (i : Int) < (F.length : Int) := by omega
  clear h ht hr
  go_enter Try.func33, Try.ntmps33
  go_wp2_with fail
  refine (HS.out _).mono ?_
  rintro e w' ⟨rfl, rfl⟩
  go_wp2
  refine bodyPost_ret (v := flV r) (by simp [results, Try.results33, go_sem, flV]) rfl ?_
  exact ⟨rfl, (Below.refl _ _).alloc (Nat.le_refl _) _⟩
set_option maxHeartbeats 1000000 in
theorem lkof_out {w : World} {k q : Option Addr} {F : List (Nat × Nat)} (h : HasLk w k q F) (s : Int) (hs : s < 0 ∨ (F.length : Int) ≤ s) : Calls Try.prog 33 #[.pointer k, .int .i64 s] w fun e w' => e = .returned (flV (0, 0)) ∧ Below w.heap.size w w' := by
  have HS := Lib.hid (fun o => lkis_out (h.below ((Below.refl _ _).alloc (Nat.le_refl _) o)) s hs)
  clear h hs
  go_enter Try.func33, Try.ntmps33
  go_wp2_with fail
  refine (HS.out _).mono ?_
  rintro e w' ⟨rfl, rfl⟩
  go_wp2
  refine bodyPost_ret (v := flV (0, 0)) (by simp [results, Try.results33, go_sem, flV]) rfl ?_
  exact ⟨rfl, (Below.refl _ _).alloc (Nat.le_refl _) _⟩
theorem lkof_any {w : World} {k q : Option Addr} {F : List (Nat × Nat)} (h : HasLk w k q F) (s : Int) : Calls Try.prog 33 #[.pointer k, .int .i64 s] w fun e w' => e = .returned (flV (flOf F s)) ∧ Below w.heap.size w w' := by
  rcases fl_in_out F s with ⟨i, rfl, r, hr⟩ | hs
  · rw [flOf_in hr]; exact lkof_in h i r hr
  · rw [flOf_out hs]; exact lkof_out h s hs
theorem flfield0 (a b : Value) (w : World) : (Instr.field 63 (.agg #[a, b]) 0).run Try.prog w = .ok a w := by
  simp [Instr.field, go_sem, part, asAgg, Try.underlying63, isAgg, Try.underlying21]
theorem flfield1 (a b : Value) (w : World) : (Instr.field 63 (.agg #[a, b]) 1).run Try.prog w = .ok b w := by
  simp [Instr.field, go_sem, part, asAgg, Try.underlying63, isAgg, Try.underlying21]

set_option maxHeartbeats 1000000 in
theorem lkfail_any {w : World} {k q : Option Addr} {F : List (Nat × Nat)} (h : HasLk w k q F) (s : Int) : Calls Try.prog 14 #[.pointer k, .int .i64 s] w fun e w' => e = .returned (.int .i64 ((flOf F s).1 : Int)) ∧ Below w.heap.size w w' := by
  have HO := Lib.hid (lkof_any h s)
  have hf := flOf_fit h s
  generalize flOf F s = r at *
  obtain ⟨h1, _⟩ := hf
  have FD := flfield0 (.int .i32 (r.1 : Int)) (.int .i32 (r.2 : Int))
  have hw : IntKind.i64.wrap (r.1 : Int) = (r.1 : Int) := by rw [IntKind.wrap_i64]; omega
  clear h
  go_enter Try.func14, Try.ntmps14
  go_wp2_with fail
  refine HO.out.mono ?_
  rintro e w' ⟨rfl, hb⟩
  unfold flV
  go_wp2
  go_ret
  exact ⟨rfl, hb⟩
set_option maxHeartbeats 1000000 in
theorem lkout_any {w : World} {k q : Option Addr} {F : List (Nat × Nat)} (h : HasLk w k q F) (s : Int) : Calls Try.prog 12 #[.pointer k, .int .i64 s] w fun e w' => e = .returned (.tuple #[.int .i64 ((flOf F s).2 : Int), .bool (decide (0 < (flOf F s).2))]) ∧ Below w.heap.size w w' := by
  have HO := Lib.hid (lkof_any h s)
  have hf := flOf_fit h s
  generalize flOf F s = r at *
  obtain ⟨_, h1⟩ := hf
  have FD := flfield1 (.int .i32 (r.1 : Int)) (.int .i32 (r.2 : Int))
  have hw : IntKind.i64.wrap (r.2 : Int) = (r.2 : Int) := by rw [IntKind.wrap_i64]; omega
  clear h
  go_enter Try.func12, Try.ntmps12
  go_wp2_with fail
  refine HO.out.mono ?_
  rintro e w' ⟨rfl, hb⟩
  unfold flV
  go_wp2
  go_ret2
  exact ⟨rfl, hb⟩
end Go.Proofs.Ytkaldfcpcimacaa

namespace Go.Proofs.Ytkaldfcpcimacaa
open Go.RowKit

/-- A set of these patterns lies in block b. -/
def IsSet (w : World) (b : Nat) (ws : List (List UInt8)) : Prop :=
  ∃ g cap, w.heap[b]? = some (.cells #[.slice (some ⟨g, 0, none⟩) ws.length cap, .int .i64 (leastL ws : Int), .int .i64 (mostL ws : Int), .int .i64 (totalL ws : Int)] 55 (0, 0)) ∧
    w.ownsRow 0 9 1 (.slice (some ⟨g, 0, none⟩) ws.length cap) ws.length (txCells ws)

theorem IsSet.lt {w : World} {b : Nat} {ws : List (List UInt8)} (h : IsSet w b ws) : b < w.heap.size := by
  obtain ⟨g, cap, h1, _⟩ := h
  exact heap_lt h1
theorem IsSet.below {w w' : World} {b : Nat} {ws : List (List UInt8)} (h : IsSet w b ws) (hb : Below w.heap.size w w') : IsSet w' b ws := by
  obtain ⟨g, cap, h1, h2⟩ := h
  exact ⟨g, cap, (hb.block b (heap_lt h1)).trans h1, tx_below h2 hb⟩
theorem IsSet.drewN {w : World} {b : Nat} {ws : List (List UInt8)} (h : IsSet w b ws) (n : Nat) : IsSet (w.drewN n) b ws := h
theorem own_strs {w : World} {base : Nat} {g n cap : Nat} {ws : List (List UInt8)} (h : w.ownsRow base 9 1 (.slice (some ⟨g, 0, none⟩) n cap) n (txCells ws)) : IsStrs w (some ⟨g, 0, none⟩) n ws := by
  have e : ws.length = n := by have := h.1; rw [txCells, List.length_map] at this; omega
  refine ⟨e, .inr ⟨g, 0, rfl, fun i hi => ?_⟩⟩
  have hc := h.cells (g := g) rfl i (.string ⟨(ws[i]'hi).toArray⟩) (by simp [txCells, List.getElem?_eq_getElem hi])
  rwa [addPlain] at hc

/-- What is read of a set. -/
theorem IsSet.reads {w : World} {b : Nat} {ws : List (List UInt8)} (h : IsSet w b ws) : ∃ g cap, w.cell? ⟨b, 0, none⟩ = some (.slice (some ⟨g, 0, none⟩) ws.length cap) ∧ w.cell? ⟨b, 1, none⟩ = some (.int .i64 (leastL ws : Int)) ∧
    w.cell? ⟨b, 2, none⟩ = some (.int .i64 (mostL ws : Int)) ∧ w.cell? ⟨b, 3, none⟩ = some (.int .i64 (totalL ws : Int)) ∧ w.ownsRow 0 9 1 (.slice (some ⟨g, 0, none⟩) ws.length cap) ws.length (txCells ws) := by
  obtain ⟨g, cap, h1, h2⟩ := h
  refine ⟨g, cap, ?_, ?_, ?_, ?_, h2⟩ <;> rw [Lib.cell_of_heap h1] <;> rfl
end Go.Proofs.Ytkaldfcpcimacaa

namespace Go.Proofs.Ytkaldfcpcimacaa
open Go.RowKit

/-- Are they few, and short? -/
def fewB (ws : List (List UInt8)) (m n : Nat) : Bool := decide (ws.length ≤ m) && ws.all fun t => decide (t.length ≤ n)
theorem few_iff (ws : List (List UInt8)) (m n : Nat) : fewB ws m n = true ↔ ws.length ≤ m ∧ ∀ t ∈ ws, t.length ≤ n := by
  unfold fewB
  simp only [Bool.and_eq_true, decide_eq_true_eq, List.all_eq_true]
theorem few_no {ws : List (List UInt8)} {m n : Nat} (h : ¬ (ws.length ≤ m ∧ ∀ t ∈ ws, t.length ≤ n)) : fewB ws m n = false := by
  rw [Bool.eq_false_iff]
  exact fun e => h ((few_iff ws m n).1 e)
theorem mem_take_snoc {ws : List (List UInt8)} {k : Nat} {t x : List UInt8} (h : ws[k]? = some t) (hx : x ∈ ws.take (k + 1)) : x ∈ ws.take k ∨ x = t := by
  obtain ⟨hk, rfl⟩ := List.getElem?_eq_some_iff.1 h
  rw [List.take_succ_eq_append_getElem hk, List.mem_append, List.mem_singleton] at hx
  exact hx
theorem mem_take_last {ws : List (List UInt8)} {k : Nat} {t : List UInt8} (h : ws[k]? = some t) : t ∈ ws.take (k + 1) := by
  obtain ⟨hk, rfl⟩ := List.getElem?_eq_some_iff.1 h
  rw [List.take_succ_eq_append_getElem hk]
  exact List.mem_append_right _ (List.mem_singleton.2 rfl)

set_option maxHeartbeats 1000000 in
theorem few_any (a : Option Addr) (len cap : Nat) (ws : List (List UInt8)) (m n : Nat) (w : World) (hlen : len ≤ 9223372036854775807) (hm : m ≤ 1000000) (hn : n ≤ 1000000) (hr : IsStrs w a len ws) (ht : ∀ t ∈ ws, t.length ≤ 9223372036854775807) :
    Calls Try.prog 6 #[.slice a len cap, .int .i64 (m : Int), .int .i64 (n : Int)] w fun e w' => e = .returned (.bool (fewB ws m n)) ∧ w' = w := by
  have hwl := hr.1
  by_cases hbig : m < len
  · have HE : Hid (fewB ws m n = false) := Lib.hid (few_no (fun h => by omega))
    clear hr ht hwl
    go_enter Try.func6, Try.ntmps6
    go_wp2
    go_ret
    exact ⟨by rw [HE.out]; rfl, rfl⟩
  · have HT := Lib.hid ht
    clear ht
    go_enter Try.func6, Try.ntmps6
    go_wp2
    go_loop [7] (fun i => ∃ k : Nat, k ≤ len ∧ i = .int .i64 k ∧ Hid (∀ t ∈ ws.take k, t.length ≤ n)) (fun i => len - (RowKit.intOf i).toNat)
    case atStart => exact ⟨0, Nat.zero_le _, rfl, Lib.hid (by simp)⟩
    case round =>
      obtain ⟨k, hk, rfl, HK⟩ := hrel
      by_cases hlt : k < len
      · obtain ⟨b, off, rfl, t, hf, hc⟩ := str_at hr (Below.refl _ _) k hlt
        have htl := HT.out t (List.mem_of_getElem? hf)
        have HS := Lib.hid (bsize t)
        by_cases hq : n < t.length
        · have HE : Hid (fewB ws m n = false) := Lib.hid (few_no (fun h => by have := h.2 t (List.mem_of_getElem? hf); omega))
          clear hf HK hr
          go_wp2
          go_ret
          exact ⟨by rw [HE.out]; rfl, rfl⟩
        · have HN : Hid (∀ t ∈ ws.take (k + 1), t.length ≤ n) := Lib.hid (fun x hx => by
            rcases mem_take_snoc hf hx with h | rfl
            · exact HK.out x h
            · omega)
          clear hf HK hr
          go_wp2
          exact ⟨⟨k + 1, by omega, by go_num, HN⟩, by simp [RowKit.intOf]; omega⟩
      · obtain rfl : k = len := by omega
        have HE : Hid (fewB ws m n = true) := Lib.hid ((few_iff ws m n).2 ⟨by omega, by have := HK.out; rwa [List.take_of_length_le (by omega)] at this⟩)
        clear HK hr
        go_wp2
        go_ret
        exact ⟨by rw [HE.out]; rfl, rfl⟩

theorem few_not (a : Option Addr) (len cap : Nat) (ws : List (List UInt8)) (w : World) (hlen : len ≤ 9223372036854775807) (hr : IsStrs w a len ws) (ht : ∀ t ∈ ws, t.length ≤ 9223372036854775807) (hq : fewB ws 20 50 = false) :
    Calls Try.prog 6 #[.slice a len cap, .int .i64 20, .int .i64 50] w fun e w' => e = .returned (.bool false) ∧ w' = w := by
  have := few_any a len cap ws 20 50 w hlen (by omega) (by omega) hr ht
  rw [hq] at this
  exact this
theorem few_yes (a : Option Addr) (len cap : Nat) (ws : List (List UInt8)) (w : World) (hlen : len ≤ 9223372036854775807) (hr : IsStrs w a len ws) (ht : ∀ t ∈ ws, t.length ≤ 9223372036854775807) (hq : fewB ws 20 50 = true) :
    Calls Try.prog 6 #[.slice a len cap, .int .i64 20, .int .i64 50] w fun e w' => e = .returned (.bool true) ∧ w' = w := by
  have := few_any a len cap ws 20 50 w hlen (by omega) (by omega) hr ht
  rw [hq] at this
  exact this

set_option maxHeartbeats 2000000 in
theorem rtwice_any (a : Option Addr) (len cap : Nat) (ws : List (List UInt8)) (w : World) (hlen : len ≤ 1000000) (hr : IsStrs w a len ws) :
    Calls Try.prog 29 #[.slice a len cap] w fun e w' => e = .returned (.int .i64 (twS [] ws 0)) ∧ Below w.heap.size w w' := by
  have hwl := hr.1
  obtain ⟨R, hR⟩ : ∃ R, twS [] ws 0 = R := ⟨_, rfl⟩
  have HR : Hid (twS (ws.take 0) (ws.drop 0) 0 = R) := Lib.hid hR
  rw [hR]
  have HI := Lib.hid hr
  clear hR hr
  go_enter Try.func29, Try.ntmps29
  go_wp2
  go_loopw [3, 4] (fun i y wr => ∃ k : Nat, k ≤ len ∧ i = .int .i64 k ∧ Hid (twS (ws.take k) (ws.drop k) k = R) ∧ Below w.heap.size w wr) (fun i _ _ => len - (RowKit.intOf i).toNat)
  case atStart => exact ⟨0, Nat.zero_le _, rfl, HR, Below.refl _ _⟩
  case round =>
    obtain ⟨k, hk, rfl, HK, hbe⟩ := hrel
    by_cases hlt : k < len
    · obtain ⟨W1, hW1⟩ : ∃ W1, W1 = wr := ⟨_, rfl⟩
      subst hW1
      go_wp2
      go_loopw [4] (fun j wr => ∃ m : Nat, m ≤ k ∧ j = .int .i64 m ∧ Hid (∀ x ∈ ws.take m, ws[k]? ≠ some x) ∧ Below w.heap.size w wr) (fun j _ => k - (RowKit.intOf j).toNat)
      case atStart => exact ⟨0, Nat.zero_le _, rfl, Lib.hid (by simp), hbe⟩
      case round =>
        obtain ⟨m, hm, rfl, HM, hbe2⟩ := hrel
        by_cases hlt2 : m < k
        · obtain ⟨b, off, rfl, t, hf, hc⟩ := str_at HI.out hbe2 k hlt
          obtain ⟨b2, off2, e2, u, hf2, hc2⟩ := str_at HI.out hbe2 m (by omega)
          cases e2
          have g1 : (0 : Int) ≤ (k : Int) := by omega
          have g2 : (k : Int) < (len : Int) := by omega
          have g3 : (0 : Int) ≤ (m : Int) := by omega
          have g4 : (m : Int) < (len : Int) := by omega
          cases hq : (u == t) with
          | true =>
            have HE : Hid (R = k) := Lib.hid (by
              rw [← HK.out]
              obtain rfl : u = t := by simpa using hq
              refine tw_hit hf ?_
              exact List.mem_of_getElem? (by rw [List.getElem?_take_of_lt hlt2]; exact hf2))
            clear hf hf2 HM HK
            go_wp2_with fail
            go_quiet (fail)
            go_wp2
            go_ret
            exact ⟨by rw [HE.out]; rfl, below_drewS hbe2 _⟩
          | false =>
            have HN : Hid (∀ x ∈ ws.take (m + 1), ws[k]? ≠ some x) := Lib.hid (fun x hx => by
              rcases mem_take_snoc hf2 hx with h | rfl
              · exact HM.out x h
              · rw [hf]; intro e; simp at e; subst e; simp at hq)
            clear hf hf2 HM
            go_wp2_with fail
            go_quiet (fail)
            go_wp2
            exact ⟨⟨m + 1, by omega, by go_num, HN, below_drewS hbe2 _⟩, by simp [RowKit.intOf]; omega⟩
        · obtain rfl : m = k := by omega
          have HE : Hid (twS (ws.take (m + 1)) (ws.drop (m + 1)) (m + 1) = R) := Lib.hid (by
            obtain ⟨b, off, rfl, t, hf, hc⟩ := str_at HI.out hbe2 m hlt
            rw [← HK.out]
            exact (tw_miss hf (fun hm => HM.out t hm hf)).symm)
          clear HM HK
          go_wp2
          exact ⟨⟨m + 1, by omega, by go_num, HE, hbe2⟩, by simp [RowKit.intOf]; omega⟩
    · obtain rfl : k = len := by omega
      have HE : Hid (R = -1) := Lib.hid (by rw [← HK.out, ← hwl]; exact tw_end ws)
      clear HK
      go_wp2
      go_ret
      exact ⟨by rw [HE.out]; rfl, hbe⟩
end Go.Proofs.Ytkaldfcpcimacaa

namespace Go.Proofs.Ytkaldfcpcimacaa
open Go.RowKit Go.Maps Go.WideMaps

theorem keyT : Keyed Try.prog 9 := string_keyed Try.underlying9
theorem zeroT (w : World) : (zeroValue 3).run Try.prog w = .ok (.int .i64 0) w := by kernel_rfl

/-- How often a text was met: the map's number at it. -/
def Cnts (D : DataW Unit) (ws : List (List UInt8)) : Prop := ∀ t : List UInt8, t.length ≤ maxLen → D.atKey (.string t) (.lit (.int .i64 0)) = .lit (.int .i64 (ws.count t : Int))

theorem lit_inj {a b : Int} (h : (DataW.lit (.int .i64 a) : DataW Unit) = .lit (.int .i64 b)) : a = b := by cases h; rfl
theorem count_snoc {ws : List (List UInt8)} {k : Nat} {t : List UInt8} (h : ws[k]? = some t) (u : List UInt8) : (ws.take (k + 1)).count u = (ws.take k).count u + (if t = u then 1 else 0) := by
  obtain ⟨hk, rfl⟩ := List.getElem?_eq_some_iff.1 h
  rw [List.take_succ_eq_append_getElem hk, List.count_append, List.count_singleton]
  simp only [beq_iff_eq]
theorem key_lit (t : List UInt8) : WideAt.IsKeyLit (.string t) := trivial
/-- One more is met. -/
theorem cnts_put {D : DataW Unit} {ws : List (List UInt8)} {k : Nat} {t : List UInt8} {c : Int} (hD : IsMap D) (h : Cnts D (ws.take k)) (hf : ws[k]? = some t) (htl : t.length ≤ maxLen) (hc : c = ((ws.take k).count t : Int) + 1) :
    Cnts (D.put (.string t) (.lit (.int .i64 c))) (ws.take (k + 1)) := fun u hu => by
  rw [count_snoc hf u]
  by_cases e : t = u
  · subst e
    rw [atKey_put_same hD (key_lit _), if_pos rfl, hc]; rfl
  · rw [atKey_put_other (fun h' => e (by cases h'; rfl)), h u hu, if_neg e, Nat.add_zero]

set_option maxHeartbeats 2000000 in
set_option maxRecDepth 100000 in
theorem twice_any (a : Option Addr) (len cap : Nat) (ws : List (List UInt8)) (w : World) (hlen : len ≤ 1000000) (hr : IsStrs w a len ws) (ht : ∀ t ∈ ws, t.length ≤ maxLen) :
    Calls Try.prog 42 #[.slice a len cap] w fun e w' => e = .returned (.int .i64 (twS [] ws 0)) ∧ Below w.heap.size w w' := by
  have hwl := hr.1
  obtain ⟨R, hR⟩ : ∃ R, twS [] ws 0 = R := ⟨_, rfl⟩
  have HR : Hid (twS (ws.take 0) (ws.drop 0) 0 = R) := Lib.hid hR
  rw [hR]
  have HI := Lib.hid hr
  have HT := Lib.hid ht
  have hmm := @run_makeMap Try.prog
  clear hR hr ht
  go_enter Try.func42, Try.ntmps42
  go_wp2
  go_loopw [9] (fun i wr => ∃ (k : Nat) (D : DataW Unit), k ≤ len ∧ i = .int .i64 k ∧ wr.ownsMap Try.prog 9 (plainElem Try.prog 3) w.heap.size k D ∧ Hid (Cnts D (ws.take k)) ∧ Hid (∀ t ∈ ws.take k, (ws.take k).count t = 1) ∧ Hid (twS (ws.take k) (ws.drop k) k = R) ∧ Below w.heap.size w wr) (fun i _ => len - (RowKit.intOf i).toNat)
  case atStart => exact ⟨0, _, Nat.zero_le _, rfl, World.ownsMap_made _ _ _ _, Lib.hid (fun t _ => rfl), Lib.hid (by simp), HR, (Below.refl _ _).alloc (Nat.le_refl _) _⟩
  case round =>
    obtain ⟨k, D, hk, rfl, hown, HC, HD, HK, hbe⟩ := hrel
    by_cases hlt : k < len
    · obtain ⟨b, off, rfl, t, hf, hc⟩ := str_at HI.out hbe k hlt
      have htl := HT.out t (List.mem_of_getElem? hf)
      have hkey : keyOf Try.prog 9 (.string ⟨t.toArray⟩) = some (.string t) := keyOf_string_mk Try.underlying9 (by rw [bsize]; exact htl)
      go_wp2_with (at_lookup; refine wpList_lookup_own_int _ rfl _ _ 94 rfl 9 3 .i64 keyT Try.underlying94 Try.underlying3 (zeroT _) w.heap.size k _ rfl hown _ _ rfl hkey ?_)
      intro c hat hwc
      have hc0 : c = ((ws.take k).count t : Int) := lit_inj (hat.symm.trans (HC.out t htl))
      have hisM := hown.isMap
      clear hat hwc
      by_cases hm : t ∈ ws.take k
      · have h1 : (ws.take k).count t = 1 := HD.out t hm
        have HE : Hid (R = k) := Lib.hid (by rw [← HK.out]; exact tw_hit hf hm)
        have HC2 := Lib.hid (cnts_put (c := 2) hisM HC.out hf htl (by rw [h1]; rfl))
        have hat2 : (D.put (.string t) (.lit (.int .i64 2))).atKey (.string t) (.lit (.int .i64 0)) = .lit (.int .i64 2) := atKey_put_same hisM (key_lit _) _ _
        have HA2 := Lib.hid hat2
        rw [h1] at hc0
        subst hc0
        clear hf HK HC HD hm h1 hat2 hisM
        go_wp2_with (at_mapUpdate; refine wpList_mapUpdate_own _ rfl _ _ _ 94 rfl 9 3 keyT Try.underlying94 _ w.heap.size k _ rfl hown (by unfold maxLen; omega) _ _ _ rfl rfl hkey _ [] (plainElem_int Try.underlying3 (by decide)) ?_)
        intro w1 hown1 hgrow1
        have hbe1 : Below w.heap.size w w1 := hbe.grown hgrow1 hbe.size (fun j hj => by cases hj; exact Nat.le_refl _)
        clear hown hgrow1 hbe
        go_wp2_with (at_lookup; refine wpList_lookup_own_int _ rfl _ _ 94 rfl 9 3 .i64 keyT Try.underlying94 Try.underlying3 (zeroT _) w.heap.size (k + 1) _ rfl hown1 _ _ rfl hkey ?_)
        intro c2 hat2 hwc2
        have hc2 : c2 = 2 := lit_inj (hat2.symm.trans HA2.out)
        subst hc2
        clear hat2 hwc2 hown1
        go_wp2
        go_ret
        exact ⟨by rw [HE.out]; rfl, hbe1⟩
      · have h1 : (ws.take k).count t = 0 := List.count_eq_zero.2 hm
        have HE : Hid (twS (ws.take (k + 1)) (ws.drop (k + 1)) (k + 1) = R) := Lib.hid (by rw [← HK.out]; exact (tw_miss hf hm).symm)
        have HC2 := Lib.hid (cnts_put (c := 1) hisM HC.out hf htl (by rw [h1]; rfl))
        have HD2 : Hid (∀ u ∈ ws.take (k + 1), (ws.take (k + 1)).count u = 1) := Lib.hid (fun u hu => by
          rw [count_snoc hf u]
          rcases mem_take_snoc hf hu with h | rfl
          · rw [HD.out u h, if_neg (fun e => hm (by rw [e]; exact h))]
          · rw [h1, if_pos rfl])
        have hat2 : (D.put (.string t) (.lit (.int .i64 1))).atKey (.string t) (.lit (.int .i64 0)) = .lit (.int .i64 1) := atKey_put_same hisM (key_lit _) _ _
        have HA2 := Lib.hid hat2
        rw [h1] at hc0
        subst hc0
        clear hf HK HC HD hm h1 hat2 hisM
        go_wp2_with (at_mapUpdate; refine wpList_mapUpdate_own _ rfl _ _ _ 94 rfl 9 3 keyT Try.underlying94 _ w.heap.size k _ rfl hown (by unfold maxLen; omega) _ _ _ rfl rfl hkey _ [] (plainElem_int Try.underlying3 (by decide)) ?_)
        intro w1 hown1 hgrow1
        have hbe1 : Below w.heap.size w w1 := hbe.grown hgrow1 hbe.size (fun j hj => by cases hj; exact Nat.le_refl _)
        clear hown hgrow1 hbe
        go_wp2_with (at_lookup; refine wpList_lookup_own_int _ rfl _ _ 94 rfl 9 3 .i64 keyT Try.underlying94 Try.underlying3 (zeroT _) w.heap.size (k + 1) _ rfl hown1 _ _ rfl hkey ?_)
        intro c2 hat2 hwc2
        have hc2 : c2 = 1 := lit_inj (hat2.symm.trans HA2.out)
        subst hc2
        clear hat2 hwc2
        go_wp2
        exact ⟨⟨k + 1, _, by omega, by go_num, hown1, HC2, HD2, HE, hbe1⟩, by simp [RowKit.intOf]; omega⟩
    · obtain rfl : k = len := by omega
      have HE : Hid (R = -1) := Lib.hid (by rw [← HK.out, ← hwl]; exact tw_end ws)
      clear HK
      go_wp2
      go_ret
      exact ⟨by rw [HE.out]; rfl, hbe⟩
end Go.Proofs.Ytkaldfcpcimacaa

namespace Go.Proofs.Ytkaldfcpcimacaa
open Go.RowKit

set_option maxHeartbeats 1000000 in
theorem compare_any (a b : List UInt8) (w : World) :
    Calls Try.prog 45 #[.string ⟨a.toArray⟩, .string ⟨b.toArray⟩] w fun e w' => e = .returned (.int .i64 (Lib.compareBytes a b)) ∧ w' = w := by
  have h := Try.strings_Compare ⟨a.toArray⟩ ⟨b.toArray⟩ w
  simp only at h
  generalize Lib.compareBytes a b = r at h ⊢
  have H := Lib.hid h
  clear h
  go_enter Try.func45, Try.ntmps45
  go_wp2_with fail
  refine H.out.mono ?_
  rintro e w' ⟨rfl, rfl⟩
  go_wp2
  go_ret
  exact ⟨rfl, rfl⟩
end Go.Proofs.Ytkaldfcpcimacaa
