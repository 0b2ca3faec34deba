/-
  Texts put together: TrR, TrIx, LkM, But, Str, OwnTo, BdM.
-/
import Derived.Test.YtjmlabggocfikaaGreatBn1
import Derived.Below
import Derived.Laws.AppendOwn
import Derived.WalkKit
import Derived.BigQuiet
import Derived.Test.YtjmlabggocfikaaGreatRows
import Derived.WalkSpells
import Derived.WalkLawsBesides
import Derived.Lib.Hide
import Derived.Lib.Strings
import Derived.Deep.QuietTactic
set_option linter.unusedSimpArgs false
set_option linter.unusedVariables false
namespace Go.Proofs.YtjmlabggocfikaaGreat
open Go.Lib

/-- What is kept of a state: its first pattern, the state above, the first one below, how long it is, its last byte. -/
structure Rc where
  first : Nat
  above : Nat
  below : Nat
  depth : Nat
  last : UInt8
/-- Numbers that fit where they are kept. -/
def Rc.Fit (r : Rc) : Prop := r.first ≤ 2147483647 ∧ r.above ≤ 2147483647 ∧ r.below ≤ 2147483647 ∧ r.depth ≤ 65535

/-- Where the states begin that stand below one. -/
def offL (us S : List (List UInt8)) (i : Nat) : Nat := 1 + ((S.take i).flatMap (kidsP us)).length
theorem off_append {us S T : List (List UInt8)} {i : Nat} (h : i ≤ S.length) : offL us (S ++ T) i = offL us S i := by
  unfold offL
  rw [List.take_append_of_le_length h]
theorem off_snoc {us S : List (List UInt8)} {i : Nat} {p : List UInt8} (h : S[i]? = some p) : offL us S (i + 1) = offL us S i + (kidsL us p).length := by
  obtain ⟨hi, rfl⟩ := List.getElem?_eq_some_iff.1 h
  unfold offL
  rw [List.take_succ_eq_append_getElem hi, List.flatMap_append, List.length_append]
  simp [kidsP_length]
  omega
theorem Bfs.off {us S : List (List UInt8)} {k : Nat} (h : Bfs us k S) : offL us S k = S.length := by
  have := congrArg List.length h.is
  rw [List.length_append] at this
  unfold offL
  simpa using this.symm
theorem off_le {us S : List (List UInt8)} {k i : Nat} (h : Bfs us k S) (hi : i ≤ k) : offL us S i ≤ S.length := by
  rw [← h.off]
  unfold offL
  have e : (S.take i) = (S.take k).take i := by rw [List.take_take, Nat.min_eq_left hi]
  have := List.take_append_drop i (S.take k)
  have e2 : ((S.take k).flatMap (kidsP us)).length = (((S.take k).take i).flatMap (kidsP us)).length + (((S.take k).drop i).flatMap (kidsP us)).length := by
    rw [← List.length_append, ← List.flatMap_append, this]
  rw [e]; omega
/-- The states below one, where they stand. -/
theorem Bfs.parts {us S : List (List UInt8)} {k i : Nat} {p : List UInt8} (h : Bfs us k S) (hi : i < k) (hp : S[i]? = some p) : ∃ A C, A.length + 1 = offL us S i ∧ S = [[]] ++ (A ++ (kidsP us p ++ C)) := by
  refine ⟨(S.take i).flatMap (kidsP us), ((S.take k).drop (i + 1)).flatMap (kidsP us), by unfold offL; omega, ?_⟩
  have hlt := (List.getElem?_eq_some_iff.1 hp).1
  have e1 : S.take k = S.take i ++ (p :: (S.take k).drop (i + 1)) := by
    have hik : i < (S.take k).length := by rw [List.length_take]; have := h.le.1; omega
    have e2 := List.take_append_drop i (S.take k)
    rw [List.drop_eq_getElem_cons hik, List.take_take, Nat.min_eq_left (by omega), List.getElem_take, (List.getElem?_eq_some_iff.1 hp).2] at e2
    exact e2.symm
  rw [← List.flatMap_cons, ← List.flatMap_append, ← e1]
  exact h.is
theorem Bfs.at {us S : List (List UInt8)} {k i j : Nat} {p : List UInt8} {c : UInt8} (h : Bfs us k S) (hi : i < k) (hp : S[i]? = some p) (hc : (kidsL us p)[j]? = some c) : S[offL us S i + j]? = some (p ++ [c]) := by
  obtain ⟨A, C, hA, e⟩ := h.parts hi hp
  have hj := (List.getElem?_eq_some_iff.1 hc).1
  generalize offL us S i = o at *
  rw [e, List.getElem?_append_right (by simp; omega), List.getElem?_append_right (by simp; omega), List.getElem?_append_left (by rw [kidsP_length]; simp; omega)]
  have e2 : o + j - [([] : List UInt8)].length - A.length = j := by simp; omega
  rw [e2]
  unfold kidsP
  rw [List.getElem?_map, hc]; rfl

/-- What is kept fits the states, k of which have told those below. -/
def RecOk (us S : List (List UInt8)) (k : Nat) (R : List Rc) : Prop :=
  R.length = S.length ∧ ∀ (i : Nat) q, S[i]? = some q → ∃ a, R[i]? = some ⟨frL us q, a, if i < k then offL us S i else 0, q.length, q.getLastD 0⟩ ∧ S[a]? = some q.dropLast ∧ a ≤ i
theorem RecOk.start (us : List (List UInt8)) : RecOk us [[]] 0 [⟨0, 0, 0, 0, 0⟩] := by
  refine ⟨rfl, fun i q hq => ?_⟩
  match i, hq with
  | 0, hq =>
    simp at hq
    subst hq
    exact ⟨0, by rw [(root_range us).1]; rfl, rfl, Nat.le_refl _⟩
/-- The first one below is told. -/
theorem RecOk.tell {us S : List (List UInt8)} {k : Nat} {R : List Rc} {r : Rc} (hb : Bfs us k S) (h : RecOk us S k R) (hr : R[k]? = some r) : RecOk us S (k + 1) (R.set k { r with below := S.length }) := by
  refine ⟨by rw [List.length_set]; exact h.1, fun i q hq => ?_⟩
  obtain ⟨a, h1, h2, h3⟩ := h.2 i q hq
  refine ⟨a, ?_, h2, h3⟩
  by_cases e : i = k
  · subst e
    rw [h1] at hr
    cases hr
    rw [List.getElem?_set_self (List.getElem?_eq_some_iff.1 h1).1, if_pos (Nat.lt_succ_self _), hb.off]
  · rw [List.getElem?_set_ne (fun x => e x.symm), h1]
    congr 2
    by_cases hlt : i < k
    · rw [if_pos hlt, if_pos (by omega)]
    · rw [if_neg hlt, if_neg (by omega)]
/-- One more state, below one. -/
theorem RecOk.snoc {us S : List (List UInt8)} {k s : Nat} {R : List Rc} {p : List UInt8} {c : UInt8} (h : RecOk us S k R) (hk : k ≤ S.length) (hs : S[s]? = some p) : RecOk us (S ++ [p ++ [c]]) k (R ++ [⟨frL us (p ++ [c]), s, 0, p.length + 1, c⟩]) := by
  have hsl := (List.getElem?_eq_some_iff.1 hs).1
  refine ⟨by rw [List.length_append, List.length_append, h.1]; rfl, fun i q hq => ?_⟩
  rcases Nat.lt_or_ge i S.length with hi | hi
  · rw [List.getElem?_append_left hi] at hq
    obtain ⟨a, h1, h2, h3⟩ := h.2 i q hq
    refine ⟨a, ?_, by rw [List.getElem?_append_left (by omega)]; exact h2, h3⟩
    rw [List.getElem?_append_left (by rw [h.1]; exact hi), h1, off_append (by omega)]
  · rw [List.getElem?_append_right hi] at hq
    have hz : i = S.length := by
      have := (List.getElem?_eq_some_iff.1 hq).1
      simp at this; omega
    subst hz
    rw [Nat.sub_self] at hq
    simp at hq
    subst hq
    refine ⟨s, ?_, ?_, by omega⟩
    · rw [List.getElem?_append_right (by rw [h.1]; omega), h.1, Nat.sub_self, if_neg (by omega)]
      simp
    · rw [List.getElem?_append_left hsl]; simpa using hs
/-- .. one that is read. -/
theorem RecOk.at {us S : List (List UInt8)} {k : Nat} {R : List Rc} (h : RecOk us S k R) {i : Nat} {q : List UInt8} (hq : S[i]? = some q) : ∃ r, R[i]? = some r ∧ r.first = frL us q ∧ r.below = (if i < k then offL us S i else 0) ∧ r.depth = q.length ∧ r.last = q.getLastD 0 ∧ S[r.above]? = some q.dropLast ∧ r.above ≤ i := by
  obtain ⟨a, h1, h2, h3⟩ := h.2 i q hq
  exact ⟨_, h1, rfl, rfl, rfl, rfl, h2, h3⟩

/-- The groups that wait: each a state, and where its patterns stand. -/
def grL (us : List (List UInt8)) : Nat → List (List UInt8) → List (Nat × Nat × Nat)
  | _, [] => []
  | i, q :: r => (i, frL us q, toL us q) :: grL us (i + 1) r
theorem gr_length (us : List (List UInt8)) : ∀ (i : Nat) (l : List (List UInt8)), (grL us i l).length = l.length
  | _, [] => rfl
  | i, q :: r => by rw [grL, List.length_cons, List.length_cons, gr_length us (i + 1) r]
theorem gr_append (us : List (List UInt8)) : ∀ (i : Nat) (l m : List (List UInt8)), grL us i (l ++ m) = grL us i l ++ grL us (i + l.length) m
  | _, [], _ => rfl
  | i, q :: r, m => by rw [List.cons_append, grL, grL, gr_append us (i + 1) r m, List.cons_append, List.length_cons]; congr 3; omega
theorem gr_snoc (us : List (List UInt8)) (i : Nat) (l : List (List UInt8)) (q : List UInt8) : grL us i (l ++ [q]) = grL us i l ++ [(i + l.length, frL us q, toL us q)] := gr_append us i l [q]

/-- The states, as the document makes them: by their lengths below n, and of the first j patterns of that length. -/
def IsStP (us : List (List UInt8)) (n j : Nat) (out : List (List UInt8)) : Prop :=
  out.Pairwise slx ∧ (1 ≤ out.length ∧ 1 ≤ n) ∧ ∀ q, q ∈ out ↔ q = [] ∨ (q.length < n ∧ begL us q = true) ∨ (q.length = n ∧ begL (us.take j) q = true)
theorem IsStP.start (us : List (List UInt8)) : IsStP us 1 0 [[]] := by
  refine ⟨by simp, ⟨by simp, Nat.le_refl _⟩, fun q => ?_⟩
  rw [List.mem_singleton]
  constructor
  · exact .inl
  · rintro (h | ⟨h, _⟩ | ⟨_, h⟩)
    · exact h
    · exact List.eq_nil_of_length_eq_zero (by omega)
    · simp [begL] at h
theorem IsStP.next {us out : List (List UInt8)} {n : Nat} (h : IsStP us n us.length out) : IsStP us (n + 1) 0 out := by
  refine ⟨h.1, ⟨h.2.1.1, by omega⟩, fun q => ?_⟩
  rw [h.2.2 q, List.take_length]
  constructor
  · rintro (h | ⟨h, k⟩ | ⟨h, k⟩)
    · exact .inl h
    · exact .inr (.inl ⟨by omega, k⟩)
    · exact .inr (.inl ⟨by omega, k⟩)
  · rintro (h | ⟨h, k⟩ | ⟨_, h⟩)
    · exact .inl h
    · rcases Nat.lt_or_ge q.length n with h1 | h1
      · exact .inr (.inl ⟨h1, k⟩)
      · exact .inr (.inr ⟨by omega, k⟩)
    · simp [begL] at h
theorem IsStP.done {us out : List (List UInt8)} {n : Nat} (h : IsStP us n 0 out) (hn : ∀ t ∈ us, t.length < n) : IsSt us out := by
  refine ⟨h.1, fun q => ?_⟩
  rw [h.2.2 q]
  constructor
  · rintro (h | ⟨_, k⟩ | ⟨_, h⟩)
    · exact .inl h
    · exact .inr k
    · simp [begL] at h
  · rintro (h | h)
    · exact .inl h
    · obtain ⟨t, ht, hp⟩ := beg_iff.1 h
      exact .inr (.inl ⟨Nat.lt_of_le_of_lt hp.length_le (hn t ht), h⟩)
/-- A pattern that is too short, or whose beginning is the last one that was told. -/
theorem IsStP.skip {us out : List (List UInt8)} {n j : Nat} {t : List UInt8} (h : IsStP us n j out) (ht : us[j]? = some t) (hs : t.length < n ∨ t.take n ∈ out) : IsStP us n (j + 1) out := by
  refine ⟨h.1, h.2.1, fun q => ?_⟩
  rw [h.2.2 q]
  refine or_congr_right (or_congr_right (and_congr_right fun hq => ?_))
  rw [beg_take, beg_take]
  constructor
  · rintro ⟨i, u, hi, hu, hp⟩; exact ⟨i, u, by omega, hu, hp⟩
  · rintro ⟨i, u, hi, hu, hp⟩
    rcases Nat.lt_or_ge i j with h1 | h1
    · exact ⟨i, u, h1, hu, hp⟩
    · obtain rfl : i = j := by omega
      rw [ht] at hu
      cases hu
      have hl := hp.length_le
      rcases hs with hs | hs
      · omega
      · have e : t.take n = q := by rw [← hq]; exact (List.prefix_iff_eq_take.1 hp).symm
        rw [e] at hs
        rcases (h.2.2 q).1 hs with h2 | ⟨h2, _⟩ | ⟨_, h2⟩
        · subst h2
          simp at hq
          have := h.2.1.2
          omega
        · omega
        · exact beg_take.1 h2
theorem take_cmp : ∀ {u t : List UInt8} (n : Nat), compareBytes u t ≤ 0 → compareBytes (u.take n) (t.take n) ≤ 0
  | _, _, 0, _ => by simp [compareBytes]
  | [], t, n + 1, _ => cmp_pre (by simp)
  | _ :: _, [], n + 1, h => by simp [compareBytes] at h
  | a :: u, b :: t, n + 1, h => by
    rw [List.take_succ_cons, List.take_succ_cons]
    unfold compareBytes at h ⊢
    by_cases h1 : a < b
    · rw [if_pos h1]; omega
    · rw [if_neg h1] at h ⊢
      by_cases h2 : b < a
      · rw [if_pos h2] at h; omega
      · rw [if_neg h2] at h ⊢
        exact take_cmp n h
/-- A pattern whose beginning was not told. -/
theorem IsStP.put {us out : List (List UInt8)} {n j : Nat} {t l : List UInt8} (ha : Asc us) (h : IsStP us n j out) (ht : us[j]? = some t) (hn : n ≤ t.length) (hl : out[out.length - 1]? = some l) (hne : t.take n ≠ l) : IsStP us n (j + 1) (out ++ [t.take n]) := by
  have hlen : (t.take n).length = n := by rw [List.length_take]; omega
  have hup : ∀ x ∈ out, slx x (t.take n) := fun x hx => by
    obtain ⟨i, hi⟩ := List.mem_iff_getElem?.1 hx
    have hil := (List.getElem?_eq_some_iff.1 hi).1
    rcases (h.2.2 x).1 hx with rfl | ⟨h1, _⟩ | ⟨h1, h2⟩
    · exact slx_nil fun e => by rw [e] at hlen; simp at hlen; have := h.2.1.2; omega
    · exact .inl (by omega)
    · refine .inr ⟨by omega, ?_⟩
      have hle : ∀ y : List UInt8, y.length = n → begL (us.take j) y = true → compareBytes y (t.take n) ≤ 0 := fun y hy hb => by
        obtain ⟨m, u, hm, hu, hp⟩ := beg_take.1 hb
        have := take_cmp n (ha.at (Nat.le_of_lt hm) hu ht)
        rw [List.prefix_iff_eq_take] at hp
        rw [hp, hy]; exact this
      have hx1 := hle x h1 h2
      rcases Int.lt_or_eq_of_le hx1 with hlt | he
      · exact (cmp_neg _ _).1 hlt
      · have e := (cmp_zero _ _).1 he
        exfalso
        have hxl : x ≠ l := fun e2 => hne (e.symm.trans e2)
        have hi2 : i < out.length - 1 := by
          rcases Nat.lt_or_ge i (out.length - 1) with h3 | h3
          · exact h3
          · have e3 : i = out.length - 1 := by omega
            rw [e3, hl] at hi
            exact absurd (Option.some.inj hi).symm hxl
        have hs := List.pairwise_iff_getElem.1 h.1 i (out.length - 1) hil (by omega) hi2
        rw [(List.getElem?_eq_some_iff.1 hi).2, (List.getElem?_eq_some_iff.1 hl).2] at hs
        rcases (h.2.2 l).1 (List.mem_of_getElem? hl) with rfl | ⟨h3, _⟩ | ⟨h3, h4⟩
        · rcases hs with hs | ⟨_, hs⟩
          · simp at hs
          · simp at hs
        · rcases hs with hs | ⟨hs, _⟩ <;> omega
        · have hll := hle l h3 h4
          rcases hs with hs | ⟨_, hs⟩
          · omega
          · rw [e] at hs
            have := (cmp_neg _ _).2 hs
            rw [cmp_swap] at this
            omega
  refine ⟨?_, ⟨by simp, h.2.1.2⟩, fun q => ?_⟩
  · rw [List.pairwise_append]
    exact ⟨h.1, by simp, fun x hx y hy => by rw [List.mem_singleton] at hy; subst hy; exact hup x hx⟩
  · rw [List.mem_append, List.mem_singleton, h.2.2 q]
    constructor
    · rintro ((h1 | h1 | ⟨h1, h2⟩) | rfl)
      · exact .inl h1
      · exact .inr (.inl h1)
      · obtain ⟨m, u, hm, hu, hp⟩ := beg_take.1 h2
        exact .inr (.inr ⟨h1, beg_take.2 ⟨m, u, by omega, hu, hp⟩⟩)
      · exact .inr (.inr ⟨hlen, beg_take.2 ⟨j, t, by omega, ht, List.take_prefix _ _⟩⟩)
    · rintro (h1 | h1 | ⟨h1, h2⟩)
      · exact .inl (.inl h1)
      · exact .inl (.inr (.inl h1))
      · obtain ⟨m, u, hm, hu, hp⟩ := beg_take.1 h2
        rcases Nat.lt_or_ge m j with h3 | h3
        · exact .inl (.inr (.inr ⟨h1, beg_take.2 ⟨m, u, h3, hu, hp⟩⟩))
        · obtain rfl : m = j := by omega
          rw [ht] at hu
          cases hu
          refine .inr ?_
          rw [← h1]; exact List.prefix_iff_eq_take.1 hp
end Go.Proofs.YtjmlabggocfikaaGreat

namespace Go.Proofs.YtjmlabggocfikaaGreat
open Go.RowKit


/-- The first place of a text; -1: none. -/
def ixL (s : List UInt8) (ws : List (List UInt8)) : Int := if s ∈ ws then (ws.findIdx (· == s) : Int) else -1
theorem ix_hit {s : List UInt8} {ws : List (List UInt8)} {k : Nat} (h : ws[k]? = some s) (hn : s ∉ ws.take k) : ixL s ws = k := by
  obtain ⟨hk, e⟩ := List.getElem?_eq_some_iff.1 h
  unfold ixL
  rw [if_pos (List.mem_of_getElem? h)]
  congr 1
  rw [List.findIdx_eq hk]
  refine ⟨by rw [e]; simp, fun j hj => ?_⟩
  rw [Bool.eq_false_iff]
  intro hs
  have hs2 : ws[j] = s := by simpa using hs
  exact hn (List.mem_of_getElem? (i := j) (by rw [List.getElem?_take, if_pos hj, ← hs2]; exact List.getElem?_eq_getElem (by omega)))
theorem ix_miss {s : List UInt8} {ws : List (List UInt8)} (h : s ∉ ws) : ixL s ws = -1 := if_neg h
theorem ix_is {s : List UInt8} {ws : List (List UInt8)} {k : Nat} (hn : ws.Nodup) (h : ws[k]? = some s) : ixL s ws = k := by
  refine ix_hit h fun hm => ?_
  obtain ⟨j, hj⟩ := List.mem_iff_getElem?.1 hm
  rw [List.getElem?_take] at hj
  split at hj
  · rename_i hlt
    obtain ⟨a1, b1⟩ := List.getElem?_eq_some_iff.1 hj
    obtain ⟨a2, b2⟩ := List.getElem?_eq_some_iff.1 h
    have := (List.getElem_inj hn).1 (b1.trans b2.symm)
    omega
  · cases hj
theorem ix_pos (s : List UInt8) (ws : List (List UInt8)) : decide (0 ≤ ixL s ws) = decide (s ∈ ws) := by
  unfold ixL
  split <;> simp_all

end Go.Proofs.YtjmlabggocfikaaGreat

namespace Go.Proofs.YtjmlabggocfikaaGreat
open Go.Lib

/-- The longest text that stands in a list and with which these bytes end; none: no bytes. -/
def lgL (P : List (List UInt8)) : List UInt8 → List UInt8
  | [] => []
  | c :: q => if c :: q ∈ P then c :: q else lgL P q
theorem lg_nil (P : List (List UInt8)) : lgL P [] = [] := rfl
theorem lg_hit {P : List (List UInt8)} {q : List UInt8} (h : q ∈ P) : lgL P q = q := by
  cases q with
  | nil => rfl
  | cons c q => unfold lgL; rw [if_pos h]
theorem lg_miss {P : List (List UInt8)} {q : List UInt8} (h : q ∉ P) : lgL P q = lgL P q.tail := by
  cases q with
  | nil => rfl
  | cons c q => rw [lgL, if_neg h]; rfl
theorem lg_end (P : List (List UInt8)) (q : List UInt8) : lgL P q <:+ q := by
  induction q with
  | nil => exact List.suffix_refl _
  | cons c q ih =>
    by_cases h : c :: q ∈ P
    · rw [lg_hit h]; exact List.suffix_refl _
    · rw [lg_miss h]; exact ih.trans (List.suffix_cons c q)
theorem lg_mem {P : List (List UInt8)} (h0 : [] ∈ P) (q : List UInt8) : lgL P q ∈ P := by
  induction q with
  | nil => exact h0
  | cons c q ih =>
    by_cases h : c :: q ∈ P
    · rw [lg_hit h]; exact h
    · rw [lg_miss h]; exact ih
theorem lg_or (P : List (List UInt8)) (q : List UInt8) : lgL P q = [] ∨ lgL P q ∈ P := by
  induction q with
  | nil => exact .inl rfl
  | cons c q ih =>
    by_cases h : c :: q ∈ P
    · rw [lg_hit h]; exact .inr h
    · rw [lg_miss h]; exact ih
theorem lg_len (P : List (List UInt8)) (q : List UInt8) : (lgL P q).length ≤ q.length := (lg_end P q).length_le
/-- What stands there and ends these bytes ends the longest one. -/
theorem lg_max {P : List (List UInt8)} {t : List UInt8} : ∀ {q : List UInt8}, t ∈ P → t <:+ q → t <:+ lgL P q
  | [], _, h => h
  | c :: q, ht, h => by
    by_cases hq : c :: q ∈ P
    · rw [lg_hit hq]; exact h
    · rw [lg_miss hq]
      rcases List.suffix_cons_iff.1 h with h | h
      · subst h; exact absurd ht hq
      · exact lg_max ht h
/-- The longest one of a list ends the longest one of another that holds it. -/
theorem lg_in {U P : List (List UInt8)} (hs : ∀ t ∈ U, t ∈ P) : ∀ q : List UInt8, lgL U q = lgL U (lgL P q)
  | [] => rfl
  | c :: q => by
    by_cases h : c :: q ∈ P
    · rw [lg_hit h]
    · rw [lg_miss (P := P) h, lg_miss (P := U) fun hm => h (hs _ hm)]
      exact lg_in hs q
/-- One more byte behind: only the longest one counts. -/
theorem lg_snoc {P : List (List UInt8)} (hc : ∀ t ∈ P, t.dropLast ∈ P) (c : UInt8) : ∀ q : List UInt8, lgL P (q ++ [c]) = lgL P (lgL P q ++ [c])
  | [] => rfl
  | d :: q => by
    by_cases h : d :: q ∈ P
    · rw [lg_hit h]
    · rw [lg_miss (P := P) (q := d :: q) h, lg_miss (P := P) (q := d :: q ++ [c]) fun hm => h (by have := hc _ hm; rwa [List.dropLast_concat] at this)]
      exact lg_snoc hc c q
theorem st_closed {us S : List (List UInt8)} (h : IsSt us S) : ∀ t ∈ S, t.dropLast ∈ S := fun t ht => by
  rcases (h.2 t).1 ht with rfl | hb
  · exact ht
  · exact (h.2 _).2 (.inr (beg_short hb (List.dropLast_prefix t)))
theorem st_pats {us S : List (List UInt8)} (h : IsSt us S) : ∀ t ∈ us, t ∈ S := fun t ht => (h.2 t).2 (.inr (beg_iff.2 ⟨t, ht, List.prefix_refl t⟩))
theorem st_root {us S : List (List UInt8)} (h : IsSt us S) : [] ∈ S := (h.2 []).2 (.inl rfl)

/-- Where a state falls back to. -/
def fbL (S : List (List UInt8)) (q : List UInt8) : List UInt8 := lgL S q.tail
theorem fb_less {S : List (List UInt8)} {q : List UInt8} (h : q ≠ []) : (fbL S q).length < q.length := by
  have := lg_len S q.tail
  cases q with
  | nil => exact absurd rfl h
  | cons c q => simp only [fbL, List.tail_cons, List.length_cons] at *; omega
/-- A step that leads nowhere goes on from where the state falls back to. -/
theorem lg_step {us S : List (List UInt8)} (hs : IsSt us S) {q : List UInt8} (c : UInt8) (h0 : q ≠ []) (h : q ++ [c] ∉ S) : lgL S (q ++ [c]) = lgL S (fbL S q ++ [c]) := by
  rw [lg_miss h]
  cases q with
  | nil => exact absurd rfl h0
  | cons d q => exact lg_snoc (st_closed hs) c q
/-- Where a state falls back to, out of the one above it. -/
theorem fb_above {us S : List (List UInt8)} (hs : IsSt us S) {a : List UInt8} (c : UInt8) (h0 : a ≠ []) : fbL S (a ++ [c]) = lgL S (fbL S a ++ [c]) := by
  cases a with
  | nil => exact absurd rfl h0
  | cons d q => exact lg_snoc (st_closed hs) c q
theorem fb_one (S : List (List UInt8)) (c : UInt8) : fbL S [c] = [] := rfl
theorem out_via {us S : List (List UInt8)} (hs : IsSt us S) (q : List UInt8) : fbL us q = lgL us (fbL S q) := lg_in (st_pats hs) q.tail
theorem out_hit {us S : List (List UInt8)} (hs : IsSt us S) {q : List UInt8} (h : fbL S q ∈ us) : fbL us q = fbL S q := (out_via hs q).trans (lg_hit h)
theorem out_miss {us S : List (List UInt8)} (hs : IsSt us S) {q : List UInt8} (h : fbL S q ∉ us) : fbL us q = fbL us (fbL S q) := (out_via hs q).trans (lg_miss h)

/-- The texts of a list with which these bytes end, the longest one first. -/
def tlL (U : List (List UInt8)) : List UInt8 → List (List UInt8)
  | [] => []
  | c :: q => if c :: q ∈ U then (c :: q) :: tlL U q else tlL U q
theorem tl_mem {U : List (List UInt8)} {t : List UInt8} : ∀ {q : List UInt8}, t ∈ tlL U q ↔ t ∈ U ∧ t ≠ [] ∧ t <:+ q
  | [] => by simp only [tlL, List.not_mem_nil, false_iff, not_and]; intro _ h hs; exact h (List.suffix_nil.1 hs)
  | c :: q => by
    unfold tlL
    rw [List.suffix_cons_iff]
    split
    · rename_i h
      rw [List.mem_cons, tl_mem]
      constructor
      · rintro (rfl | ⟨h1, h2, h3⟩)
        · exact ⟨h, by simp, .inl rfl⟩
        · exact ⟨h1, h2, .inr h3⟩
      · rintro ⟨h1, h2, h3 | h3⟩
        · exact .inl h3
        · exact .inr ⟨h1, h2, h3⟩
    · rename_i h
      rw [tl_mem]
      constructor
      · rintro ⟨h1, h2, h3⟩
        exact ⟨h1, h2, .inr h3⟩
      · rintro ⟨h1, h2, h3 | h3⟩
        · subst h3; exact absurd h1 h
        · exact ⟨h1, h2, h3⟩
theorem tl_less {U : List (List UInt8)} : ∀ q : List UInt8, (tlL U q).Pairwise (fun a b => b.length < a.length) ∧ ∀ t ∈ tlL U q, t.length ≤ q.length
  | [] => ⟨List.Pairwise.nil, fun t h => by simp [tlL] at h⟩
  | c :: q => by
    obtain ⟨h1, h2⟩ := tl_less (U := U) q
    unfold tlL
    split
    · refine ⟨List.Pairwise.cons (fun t ht => ?_) h1, fun t ht => ?_⟩
      · have := h2 t ht; simp; omega
      · rcases List.mem_cons.1 ht with rfl | ht
        · exact Nat.le_refl _
        · have := h2 t ht; simp; omega
    · exact ⟨h1, fun t ht => by have := h2 t ht; simp; omega⟩
theorem tl_step {U : List (List UInt8)} : ∀ q : List UInt8, tlL U q = tlL U (lgL U q)
  | [] => rfl
  | c :: q => by
    by_cases h : c :: q ∈ U
    · rw [lg_hit h]
    · rw [lg_miss h, show tlL U (c :: q) = tlL U q by unfold tlL; rw [if_neg h]; cases q <;> rfl]
      exact tl_step q
theorem tl_at {U : List (List UInt8)} (hu : [] ∉ U) (q : List UInt8) : tlL U q = (if q ∈ U then [q] else []) ++ tlL U (fbL U q) := by
  cases q with
  | nil => rw [if_neg hu]; rfl
  | cons c q =>
    show (if c :: q ∈ U then (c :: q) :: tlL U q else tlL U q) = _
    rw [show fbL U (c :: q) = lgL U q from rfl, ← tl_step]
    split <;> rfl

/-- The numbers of the first k patterns with which bytes end. -/
def hkL (us : List (List UInt8)) (q : List UInt8) : Nat → List Int
  | 0 => []
  | k + 1 => hkL us q k ++ if us.getD k [] <:+ q then [(k : Int)] else []
/-- The numbers of all patterns with which bytes end. -/
def hsL (us : List (List UInt8)) (q : List UInt8) : List Int := hkL us q us.length
theorem hk_hit {us : List (List UInt8)} {q t : List UInt8} {k : Nat} (h : us[k]? = some t) (hs : t <:+ q) : hkL us q (k + 1) = hkL us q k ++ [(k : Int)] := by
  simp [hkL, List.getD, h, hs]
theorem hk_miss {us : List (List UInt8)} {q t : List UInt8} {k : Nat} (h : us[k]? = some t) (hs : ¬ t <:+ q) : hkL us q (k + 1) = hkL us q k := by
  simp [hkL, List.getD, h, hs]
theorem hk_mem {us : List (List UInt8)} {q : List UInt8} {z : Int} : ∀ {k : Nat}, z ∈ hkL us q k ↔ ∃ i : Nat, i < k ∧ z = (i : Int) ∧ us.getD i [] <:+ q
  | 0 => by simp [hkL]
  | k + 1 => by
    unfold hkL
    rw [List.mem_append, hk_mem]
    constructor
    · rintro (⟨i, h1, h2, h3⟩ | h)
      · exact ⟨i, by omega, h2, h3⟩
      · split at h
        · rename_i hs
          exact ⟨k, by omega, by simpa using h, hs⟩
        · simp at h
    · rintro ⟨i, h1, h2, h3⟩
      by_cases hi : i = k
      · subst hi; rw [if_pos h3]; exact .inr (by simp [h2])
      · exact .inl ⟨i, by omega, h2, h3⟩
theorem hk_rise {us : List (List UInt8)} {q : List UInt8} : ∀ k : Nat, (hkL us q k).Pairwise (· < ·)
  | 0 => List.Pairwise.nil
  | k + 1 => by
    unfold hkL
    rw [List.pairwise_append]
    refine ⟨hk_rise k, by split <;> simp, fun x hx y hy => ?_⟩
    obtain ⟨i, h1, rfl, _⟩ := hk_mem.1 hx
    split at hy
    · simp at hy; subst hy; omega
    · simp at hy
theorem hk_few (us : List (List UInt8)) (q : List UInt8) : ∀ k : Nat, (hkL us q k).length ≤ k
  | 0 => Nat.le_refl _
  | k + 1 => by
    have := hk_few us q k
    unfold hkL
    split <;> simp <;> omega

/-- The numbers of patterns, in the order in which a state's are met. -/
def nuL (us : List (List UInt8)) (l : List (List UInt8)) : List Int := l.map fun t => (frL us t : Int)
/-- Put in order, these are the numbers of all patterns with which the bytes end. -/
theorem nu_sorts {us : List (List UInt8)} (he : ∀ t ∈ us, t ≠ []) (hn : us.Nodup) (hf : ∀ t ∈ us, us[frL us t]? = some t) (q : List UInt8) :
    ((nuL us (tlL us q)).mergeSort fun x y => decide (x ≤ y)) = hsL us q := by
  have hmem : ∀ z, z ∈ nuL us (tlL us q) ↔ z ∈ hsL us q := fun z => by
    unfold nuL hsL
    rw [List.mem_map, hk_mem]
    constructor
    · rintro ⟨t, ht, rfl⟩
      obtain ⟨h1, h2, h3⟩ := tl_mem.1 ht
      have h4 := hf t h1
      exact ⟨_, (List.getElem?_eq_some_iff.1 h4).1, rfl, by rw [List.getD_eq_getElem?_getD, h4]; exact h3⟩
    · rintro ⟨i, h1, rfl, h3⟩
      have e : us[i]? = some (us.getD i []) := by rw [List.getD_eq_getElem?_getD, List.getElem?_eq_getElem h1]; rfl
      have hm := List.mem_of_getElem? e
      refine ⟨us.getD i [], tl_mem.2 ⟨hm, he _ hm, h3⟩, ?_⟩
      have h4 := hf _ hm
      obtain ⟨a1, b1⟩ := List.getElem?_eq_some_iff.1 e
      obtain ⟨a2, b2⟩ := List.getElem?_eq_some_iff.1 h4
      have := (List.getElem_inj hn).1 (b2.trans b1.symm)
      omega
  have hnd : (nuL us (tlL us q)).Nodup := by
    unfold nuL
    rw [List.Nodup, List.pairwise_map]
    refine (tl_less q).1.imp_of_mem ?_
    intro a b ha hb hab e
    have h1 := hf a (tl_mem.1 ha).1
    have h2 := hf b (tl_mem.1 hb).1
    rw [show frL us a = frL us b by omega, h2] at h1
    cases h1
    omega
  have hr := hk_rise (us := us) (q := q) us.length
  have hnr : (hsL us q).Nodup := hr.imp fun {a b} hab e => by omega
  have hp : (nuL us (tlL us q)).Perm (hsL us q) := (List.perm_ext_iff_of_nodup hnd hnr).2 hmem
  refine List.Perm.eq_of_pairwise (le := fun x y => x ≤ y) (fun a b _ _ h1 h2 => by omega) ?_ (hr.imp fun {a b} h => by omega) ((List.mergeSort_perm _ _).trans hp)
  have := List.pairwise_mergeSort (le := fun (x y : Int) => decide (x ≤ y)) (fun a b c h1 h2 => by simp at *; omega) (fun a b => by simp; omega) (nuL us (tlL us q))
  exact this.imp fun {a b} h => by simpa using h
end Go.Proofs.YtjmlabggocfikaaGreat

namespace Go.Proofs.YtjmlabggocfikaaGreat
open Go.RowKit

/-- Behind a call that writes one block of its own: all others below 'base' are as they were. -/
structure But (base b : Nat) (w w' : World) : Prop where
  os : w'.os = w.os
  tape : w'.tape = w.tape
  output : w'.output = w.output
  size : w.heap.size ≤ w'.heap.size
  block : ∀ k, k < base → k ≠ b → w'.heap[k]? = w.heap[k]?

theorem But.refl (base b : Nat) (w : World) : But base b w w := ⟨rfl, rfl, rfl, Nat.le_refl _, fun _ _ _ => rfl⟩
theorem But.trans {base b : Nat} {u v w : World} (h : But base b u v) (k : But base b v w) : But base b u w :=
  ⟨k.os.trans h.os, k.tape.trans h.tape, k.output.trans h.output, Nat.le_trans h.size k.size, fun i hi hb => (k.block i hi hb).trans (h.block i hi hb)⟩
theorem But.below {base b : Nat} {w w' : World} (h : But base b w w') (hb : b ≤ base) : Below b w w' :=
  ⟨h.os, h.tape, h.output, h.size, fun k hk => h.block k (by omega) (by omega)⟩
theorem But.of {base b : Nat} {w w' : World} (h : Below base w w') : But base b w w' := ⟨h.os, h.tape, h.output, h.size, fun k hk _ => h.block k hk⟩

theorem owns_slice {w : World} {base : Nat} {e : TypeId} {v : Value} {n : Nat} {xs : List Value} (h : w.ownsRow base e 1 v n xs) : ∃ a cap, v = .slice a n cap := by
  rcases h.2 with ⟨rfl, rfl⟩ | ⟨g, cap, cur, rfl, _⟩
  · exact ⟨_, _, rfl⟩
  · exact ⟨_, _, rfl⟩

theorem owns_some {w : World} {base : Nat} {e : TypeId} {v : Value} {n : Nat} {xs : List Value} (h : w.ownsRow base e 1 v n xs) (hn : 0 < n) : ∃ g cap, base ≤ g ∧ n ≤ cap ∧ v = .slice (some ⟨g, 0, none⟩) n cap := by
  rcases h.2 with ⟨rfl, rfl⟩ | ⟨g, cap, cur, rfl, hg, _, hc, _⟩
  · omega
  · exact ⟨g, cap, hg, hc, rfl⟩

theorem put_heap {w : World} {b i : Nat} {cs : Array Value} {T : TypeId} (h : w.heap[b]? = some (.cells cs T (0, 0))) (u : Value) : (w.setCell ⟨b, i, none⟩ u).heap[b]? = some (.cells (cs.setIfInBounds i u) T (0, 0)) := by
  simp [World.setCell, Array.getElem?_modify, h]

theorem put_other {w : World} {b i k : Nat} (h : k ≠ b) (u : Value) : (w.setCell ⟨b, i, none⟩ u).heap[k]? = w.heap[k]? := Below.heap_setCell _ _ _ _ h

theorem lt_of_heap {w : World} {b : Nat} {o : Obj} (h : w.heap[b]? = some o) : b < w.heap.size := by
  rcases Nat.lt_or_ge b w.heap.size with h' | h'
  · exact h'
  · simp [Array.getElem?_eq_none h'] at h

/-- All that was stored was stored into block b. -/
structure Into (b : Nat) (w w' : World) : Prop where
  os : w'.os = w.os
  tape : w'.tape = w.tape
  output : w'.output = w.output
  size : w'.heap.size = w.heap.size
  block : ∀ k, k ≠ b → w'.heap[k]? = w.heap[k]?
theorem Into.refl (b : Nat) (w : World) : Into b w w := ⟨rfl, rfl, rfl, rfl, fun _ _ => rfl⟩
theorem Into.set {b : Nat} {w v : World} (h : Into b w v) (i : Nat) (u : Value) : Into b w (v.setCell ⟨b, i, none⟩ u) :=
  ⟨h.os, h.tape, h.output, by rw [← h.size]; simp [World.setCell], fun k hk => (put_other hk u).trans (h.block k hk)⟩
theorem Into.drewN {b : Nat} {w v : World} (h : Into b w v) (n : Nat) : Into b w (v.drewN n) := ⟨h.os, h.tape, h.output, h.size, h.block⟩

theorem Into.owns {base b : Nat} {w w' : World} {e : TypeId} {v : Value} {n : Nat} {xs : List Value} (h : Into b w w') (hb : b < base) (hown : w.ownsRow base e 1 v n xs) : w'.ownsRow base e 1 v n xs := by
  obtain ⟨hl, hx⟩ := hown
  refine ⟨hl, ?_⟩
  rcases hx with hx | ⟨g, cap, cur, hv, hg, hh, r⟩
  · exact .inl hx
  · exact .inr ⟨g, cap, cur, hv, hg, (h.block g (by omega)).trans hh, r⟩
end Go.Proofs.YtjmlabggocfikaaGreat

namespace Go.Proofs.YtjmlabggocfikaaGreat
open Go.RowKit

/-- A slice that holds these texts. -/
def IsStrs (w : World) (a : Option Addr) (len : Nat) (ws : List (List UInt8)) : Prop :=
  ws.length = len ∧ (len = 0 ∨ ∃ b off, a = some ⟨b, off, none⟩ ∧ ∀ i (h : i < ws.length), w.cell? ⟨b, off + i, none⟩ = some (.string ⟨(ws[i]'h).toArray⟩))

theorem IsStrs.below {w w' : World} {a : Option Addr} {len : Nat} {ws : List (List UInt8)} (h : IsStrs w a len ws) (hb : Below w.heap.size w w') : IsStrs w' a len ws := by
  obtain ⟨hl, h⟩ := h
  refine ⟨hl, ?_⟩
  rcases h with h | ⟨b, off, ha, hc⟩
  · exact .inl h
  · refine .inr ⟨b, off, ha, fun i hi => ?_⟩
    have h1 := hc i hi
    rw [hb.cell (p := ⟨b, off + i, none⟩) (World.block_lt_of_cell? w _ h1)]
    exact h1

/-- One of them: where it lies. -/
theorem str_at {w wr : World} {a : Option Addr} {len : Nat} {ws : List (List UInt8)} (h : IsStrs w a len ws) (hb : Below w.heap.size w wr) (k : Nat) (hk : k < len) :
    ∃ b off, a = some ⟨b, off, none⟩ ∧ ∃ t, ws[k]? = some t ∧ wr.cell? ⟨b, off + k, none⟩ = some (.string ⟨t.toArray⟩) := by
  obtain ⟨hl, h⟩ := h.below hb
  rcases h with h | ⟨b, off, ha, hc⟩
  · omega
  · have hkl : k < ws.length := by omega
    exact ⟨b, off, ha, ws[k], List.getElem?_eq_getElem hkl, hc k hkl⟩

/-- The cells of texts. -/
def txCells (ws : List (List UInt8)) : List Value := ws.map fun t => .string ⟨t.toArray⟩
theorem txCells_snoc (ws : List (List UInt8)) (t : List UInt8) : txCells (ws ++ [t]) = txCells ws ++ [.string ⟨t.toArray⟩] := by simp [txCells]

theorem owns_strs {w : World} {base : Nat} {e : TypeId} {v : Value} {ws : List (List UInt8)} (h : w.ownsRow base e 1 v ws.length (txCells ws)) :
    ∃ ao cap, v = .slice ao ws.length cap ∧ IsStrs w ao ws.length ws := by
  rcases h.2 with ⟨hv, h0⟩ | ⟨g, cap, cur, hv, _⟩
  · have h0' : ws.length = 0 := h0
    exact ⟨none, 0, by rw [h0']; exact hv, rfl, .inl h0'⟩
  · refine ⟨some ⟨g, 0, none⟩, cap, hv, rfl, .inr ⟨g, 0, rfl, fun i hi => ?_⟩⟩
    have hc := h.cells (g := g) (by rw [hv]; rfl) i (.string ⟨(ws[i]'hi).toArray⟩) (by simp [txCells, List.getElem?_eq_getElem hi])
    rwa [addPlain] at hc

theorem tx_below {w w' : World} {base : Nat} {e : TypeId} {size : Nat} {v : Value} {n : Nat} {xs : List Value} (h : w.ownsRow base e size v n xs) (hb : Below w.heap.size w w') : w'.ownsRow base e size v n xs :=
  h.kept (row := none) ⟨hb.os, hb.tape, hb.output, hb.size, fun k hk _ => hb.block k hk⟩ (Classical.em _)

theorem below_drewS {B : Nat} {a w : World} (h : Below B a w) (n : Nat) : Below B a (w.drewN n) := h.trans ⟨rfl, rfl, rfl, Nat.le_refl _, fun _ _ => rfl⟩

/-- A list of words, as an answer: a slice of the call's own; nothing that was there is written. -/
def RetL (ws : List (List UInt8)) (w : World) (e : Ending) (w' : World) : Prop := ∃ (a : Option Addr) (cap : Nat), e = .returned (.slice a ws.length cap) ∧ IsStrs w' a ws.length ws ∧ Below w.heap.size w w'
theorem RetL.mk {ws R : List (List UInt8)} {w w' : World} {e : Ending} {a : Option Addr} {cap : Nat} (h : ws = R) (he : e = .returned (.slice a R.length cap)) (hf : IsStrs w' a R.length R) (hb : Below w.heap.size w w') : RetL ws w e w' := by
  subst h; exact ⟨a, cap, he, hf, hb⟩

theorem string_info : (Tryz.prog.info? 9).map (fun i => (i.zero, i.size, i.bytes)) = some (some (.string ByteArray.empty), 1, 16) := by kernel_rfl

/-- A text's one cell, in a block of its own. -/
theorem one_news {w : World} {X : Nat} {T : TypeId} {u : Value} (h : w.heap[X]? = some (.cells #[u] T (0, 0))) : ∀ j x, [u][j]? = some x → w.cell? ((⟨X, 0, none⟩ : Addr).add j) = some x := by
  intro j x hj
  match j, hj with
  | 0, hj => simp at hj; subst hj; simp [Addr.add, World.cell?, h]
theorem str_one {d : ByteArray} : ∀ x ∈ [Value.string d], x.oneCell' = true := by
  intro x hx
  simp at hx
  subst hx; rfl

theorem ext_cut (l : List UInt8) (st k : Nat) : (⟨l.toArray⟩ : ByteArray).extract st k = ⟨((l.take k).drop st).toArray⟩ := by
  rw [Lib.extract_eq]
  simp only [ByteArray.mk.injEq]
  rw [List.drop_take]
theorem ext_rest (l : List UInt8) (st : Nat) : (⟨l.toArray⟩ : ByteArray).extract st l.length = ⟨(l.drop st).toArray⟩ := by
  rw [ext_cut, List.take_length]
theorem cut_none (l : List UInt8) (k : Nat) : (l.take k).drop k = [] := List.drop_eq_nil_of_le (List.length_take_le _ _)

/-- Texts in one block of their own. -/
theorem strs_heap {w : World} {g n : Nat} {ws : List (List UInt8)} {T : TypeId} (h : w.heap[g]? = some (.cells (txCells ws).toArray T (0, 0))) (hn : ws.length = n) : IsStrs w (some ⟨g, 0, none⟩) n ws := by
  refine ⟨hn, .inr ⟨g, 0, rfl, fun i hi => ?_⟩⟩
  rw [Nat.zero_add, Lib.cell_of_heap h]
  simp [txCells, List.getElem?_eq_getElem hi]
end Go.Proofs.YtjmlabggocfikaaGreat

namespace Go.Proofs.YtjmlabggocfikaaGreat

variable {P : Program}

/-- The outcome lies where the slice lay, or in the block that is made next, or nowhere. -/
theorem run_append_to {w w' : World} {v' : Value} (base : Nat) (t ty e : TypeId) (i : TypeInfo) (z : Value) (size bytes : Nat) (ht : P.underlying t = some (.slice e)) (hi : P.info? e = some i) (hz : i.zero = some z)
    (hsize : i.size = size) (hby : i.bytes = bytes) (hzs : z.cells.size = size) (hsz : 0 < size)
    (v : Value) (n : Nat) (xs : List Value) (hown : w.ownsRow base e size v n xs)
    (a : Addr) (m c : Nat) (news : List Value) (hl : news.length = m * size) (hnews : ∀ j u, news[j]? = some u → w.cell? (a.add j) = some u) (h1 : ∀ u ∈ news, u.oneCell' = true)
    (h63 : n + m ≤ maxLen) (hbytes : (n + m) * bytes ≤ 140737488355328) (hm : 0 < m)
    (hr : (Builtin.append_ #[t, t] ty #[v, .slice (some a) m c]).run P w = .ok v' w') : v'.ownBlock = v.ownBlock ∨ v'.ownBlock = some w.heap.size := by
  subst hsize hby
  have hsmall : n + m ≤ 9223372036854775807 := by simp only [maxLen] at h63; omega
  rcases hown.2 with ⟨rfl, rfl⟩ | ⟨g, cap, cur, rfl, hbg, hg, hnc, hcm, hcs, htake⟩
  · have h2 := run_append_nil (P := P) w t ty e i z ht hi hz a m c news hl hnews (by omega) (by omega) (by have hb := hbytes; simp only [Nat.zero_add] at hb; omega)
    rw [h2] at hr
    cases hr
    exact .inr rfl
  · by_cases hroom : n + m ≤ cap
    · have h2 := run_append_room (P := P) w t ty e i ht hi g n cap cur hg a m c news hl hnews h1 hroom (by rw [hl, hcs, ← Nat.add_mul]; exact Nat.mul_le_mul_right _ hroom)
      rw [h2] at hr
      cases hr
      exact .inl rfl
    · have holds : ∀ j u, xs[j]? = some u → w.cell? ((⟨g, 0, none⟩ : Addr).add j) = some u := hown.cells (g := g) rfl
      have h2 := run_append_grow (P := P) w t ty e i z ht hi hz ⟨g, 0, none⟩ n cap xs hown.1 holds a m c news hl hnews (by omega) (by omega) (growslice_fits (by omega) hbytes)
      rw [h2] at hr
      cases hr
      exact .inr rfl

theorem wpList_append_to (w : World) {ops : Array Oper} {rest : List Oper} {o : Oper} {a : Act} {Q : Exit → Act → World → Prop} (hgd : o.guard = none) (s x : Operand) (t : TypeId)
    (ho : o.op = .call { callee := .builtin .append, args := #[s, x], argTypes := #[t, t] })
    (base : Nat) (e : TypeId) (i : TypeInfo) (z : Value) (size bytes : Nat) (ht : P.underlying t = some (.slice e)) (hi : P.info? e = some i) (hz : i.zero = some z)
    (hsize : i.size = size) (hby : i.bytes = bytes) (hzs : z.cells.size = size) (hsz : 0 < size)
    (v : Value) (n : Nat) (xs : List Value) (hs : a.eval s = v) (hown : w.ownsRow base e size v n xs)
    (ad : Addr) (m c : Nat) (news : List Value) (hx : a.eval x = .slice (some ad) m c) (hl : news.length = m * size) (hnews : ∀ j u, news[j]? = some u → w.cell? (ad.add j) = some u) (h1 : ∀ u ∈ news, u.oneCell' = true)
    (h63 : n + m ≤ maxLen) (hbytes : (n + m) * bytes ≤ 140737488355328) (hbase : base ≤ w.heap.size) (hm : 0 < m)
    (h : ∀ v' w', w'.ownsRow base e size v' (n + m) (xs ++ news) → w.grownBy w' v.ownBlock → (v'.ownBlock = v.ownBlock ∨ v'.ownBlock = some w.heap.size) → wpList P ops Q rest (a.put o.dst v') w') : wpList P ops Q (o :: rest) a w := by
  refine wpList_plain hgd fun K hK => ?_
  obtain ⟨v', w', hr, h2, h3, _⟩ := run_append_own (P := P) w base t o.type e i z size bytes ht hi hz hsize hby hzs hsz v n xs hown ad m c news hl hnews h1 h63 hbytes hbase
  have h4 := run_append_to base t o.type e i z size bytes ht hi hz hsize hby hzs hsz v n xs hown ad m c news hl hnews h1 h63 hbytes hm hr
  have hK2 := hK _ _ (h v' w' h2 h3 h4)
  unfold Oper.wp execOp
  simp only [ho, resolve, invoke, builtin, Sem.run_bind, Sem.run_pure, Result.andThen_ok, List.map_toArray, List.map_cons, List.map_nil, hs, hx, hr]
  exact hK2
end Go.Proofs.YtjmlabggocfikaaGreat

namespace Go.Proofs.YtjmlabggocfikaaGreat

/-- The greatest number up to n of which p holds, or 0. -/
def mx (p : Nat → Bool) : Nat → Nat
  | 0 => 0
  | n + 1 => if p (n + 1) then n + 1 else mx p n

theorem mx_le (p : Nat → Bool) : ∀ n, mx p n ≤ n
  | 0 => Nat.le_refl _
  | n + 1 => by
    have := mx_le p n
    unfold mx
    split <;> omega
theorem mx_holds (p : Nat → Bool) : ∀ n, mx p n = 0 ∨ p (mx p n) = true
  | 0 => .inl rfl
  | n + 1 => by
    have := mx_holds p n
    unfold mx
    split
    · rename_i h; exact .inr h
    · exact this
theorem mx_max (p : Nat → Bool) : ∀ n i, i ≤ n → p i = true → i ≤ mx p n
  | 0, i, hi, _ => hi
  | n + 1, i, hi, h => by
    unfold mx
    split
    · exact hi
    · rename_i hn
      by_cases e : i = n + 1
      · subst e; exact absurd h hn
      · exact mx_max p n i (by omega) h
theorem mx_is {p : Nat → Bool} {n m : Nat} (h1 : m ≤ n) (h2 : m = 0 ∨ p m = true) (h3 : ∀ i, i ≤ n → p i = true → i ≤ m) : mx p n = m := by
  have b := mx_le p n
  refine Nat.le_antisymm ?_ ?_
  · rcases mx_holds p n with a | a
    · omega
    · exact h3 _ b a
  · rcases h2 with h | h
    · omega
    · exact mx_max p n m h1 h
theorem mx_congr {p q : Nat → Bool} : ∀ n, (∀ i, 0 < i → i ≤ n → p i = q i) → mx p n = mx q n
  | 0, _ => rfl
  | n + 1, h => by
    unfold mx
    rw [h (n + 1) (by omega) (Nat.le_refl _), mx_congr n (fun i h0 hi => h i h0 (by omega))]
theorem mx_next (p : Nat → Bool) (n : Nat) : mx p (n + 1) = if p (n + 1) then n + 1 else mx p n := rfl

/-- The numbers up to n of which p holds, the greatest first. -/
def dn (p : Nat → Bool) : Nat → List Int
  | 0 => []
  | n + 1 => if p (n + 1) then ((n + 1 : Nat) : Int) :: dn p n else dn p n
theorem dn_next (p : Nat → Bool) (n : Nat) : dn p (n + 1) = if p (n + 1) then ((n + 1 : Nat) : Int) :: dn p n else dn p n := rfl
theorem dn_mx (p : Nat → Bool) : ∀ n, dn p n = dn p (mx p n)
  | 0 => rfl
  | n + 1 => by
    rw [mx_next]
    split
    · rfl
    · rename_i h
      rw [dn_next, if_neg h]
      exact dn_mx p n
theorem dn_mem (p : Nat → Bool) : ∀ n, ∀ x ∈ dn p n, ∃ j : Nat, x = (j : Int) ∧ 0 < j ∧ j ≤ n ∧ p j = true
  | 0, x, h => by simp [dn] at h
  | n + 1, x, h => by
    rw [dn_next] at h
    have := dn_mem p n x
    split at h
    · rename_i hp
      rcases List.mem_cons.1 h with e | h
      · exact ⟨n + 1, e, by omega, Nat.le_refl _, hp⟩
      · obtain ⟨j, a, b, c, d⟩ := this h
        exact ⟨j, a, b, by omega, d⟩
    · obtain ⟨j, a, b, c, d⟩ := this h
      exact ⟨j, a, b, by omega, d⟩
theorem dn_falls (p : Nat → Bool) : ∀ n, (dn p n).Pairwise (fun x y => y < x)
  | 0 => List.Pairwise.nil
  | n + 1 => by
    rw [dn_next]
    split
    · refine List.Pairwise.cons (fun y hy => ?_) (dn_falls p n)
      obtain ⟨j, a, _, c, _⟩ := dn_mem p n y hy
      omega
    · exact dn_falls p n
theorem dn_length (p : Nat → Bool) : ∀ n, (dn p n).length ≤ n
  | 0 => Nat.le_refl _
  | n + 1 => by
    have := dn_length p n
    rw [dn_next]
    split
    · rw [List.length_cons]; omega
    · omega
/-- The first one, if there is any. -/
theorem dn_head (p : Nat → Bool) : ∀ n, (dn p n = [] ∧ mx p n = 0) ∨ ∃ r, dn p n = (mx p n : Int) :: r
  | 0 => .inl ⟨rfl, rfl⟩
  | n + 1 => by
    rw [dn_next, mx_next]
    split
    · exact .inr ⟨_, rfl⟩
    · exact dn_head p n

/-! suffixes -/
theorem snoc_suf {a u : List UInt8} {x c : UInt8} : a ++ [x] <:+ u ++ [c] ↔ a <:+ u ∧ x = c := by
  rw [← List.reverse_prefix, List.reverse_append, List.reverse_append]
  simp only [List.reverse_cons, List.reverse_nil, List.nil_append, List.cons_append, List.cons_prefix_cons, List.reverse_prefix]
  exact And.comm
theorem take_suf {t u : List UInt8} {c : UInt8} {j : Nat} (hj : j < t.length) : t.take (j + 1) <:+ u ++ [c] ↔ t.take j <:+ u ∧ t[j] = c := by
  rw [List.take_succ_eq_append_getElem hj]; exact snoc_suf
theorem suf_len {t u : List UInt8} {k : Nat} (hk : k ≤ t.length) (h : t.take k <:+ u) : k ≤ u.length := by
  have := h.length_le
  rw [List.length_take] at this
  omega
theorem suf_cmp {t u v : List UInt8} (h1 : t <:+ v) (h2 : u <:+ v) (h : t.length ≤ u.length) : t <:+ u := List.suffix_of_suffix_length_le h1 h2 h

/-! the longest border -/
/-- Has a text a border of this length? -/
def bd (l : List UInt8) (n : Nat) : Bool := decide (0 < n ∧ n < l.length) && (l.take n == l.drop (l.length - n))
theorem take_drop_suf {l : List UInt8} {n : Nat} (h : n ≤ l.length) : l.take n = l.drop (l.length - n) ↔ l.take n <:+ l := by
  rw [List.suffix_iff_eq_drop, List.length_take, Nat.min_eq_left h]
theorem bd_iff {l : List UInt8} {n : Nat} : bd l n = true ↔ 0 < n ∧ n < l.length ∧ l.take n <:+ l := by
  unfold bd
  rw [Bool.and_eq_true, decide_eq_true_iff, beq_iff_eq]
  constructor
  · rintro ⟨⟨a, b⟩, c⟩
    exact ⟨a, b, (take_drop_suf (by omega)).1 c⟩
  · rintro ⟨a, b, c⟩
    exact ⟨⟨a, b⟩, (take_drop_suf (by omega)).2 c⟩

/-- How long the longest border is. -/
def lonB (l : List UInt8) : Nat := mx (bd l) (l.length - 1)
theorem lon_le (l : List UInt8) : lonB l ≤ l.length - 1 := mx_le _ _
theorem lon_or (l : List UInt8) : lonB l = 0 ∨ bd l (lonB l) = true := mx_holds _ _
theorem lon_suf (l : List UInt8) : l.take (lonB l) <:+ l := by
  rcases lon_or l with h | h
  · rw [h]; exact List.nil_suffix
  · exact (bd_iff.1 h).2.2
theorem lon_max {l : List UInt8} {i : Nat} (h : bd l i = true) : i ≤ lonB l := mx_max _ _ _ (by have := bd_iff.1 h; omega) h
theorem lon_is {l : List UInt8} {m : Nat} (h1 : m ≤ l.length - 1) (h2 : l.take m <:+ l) (h3 : ∀ i, bd l i = true → i ≤ m) : lonB l = m := by
  refine mx_is h1 ?_ (fun i _ h => h3 i h)
  rcases Nat.eq_zero_or_pos m with h | h
  · exact .inl h
  · exact .inr (bd_iff.2 ⟨h, by omega, h2⟩)

theorem take_take_le (l : List UInt8) {i k : Nat} (h : i ≤ k) : (l.take k).take i = l.take i := by rw [List.take_take, Nat.min_eq_left h]
theorem len_take (l : List UInt8) {k : Nat} (h : k ≤ l.length) : (l.take k).length = k := by rw [List.length_take]; omega

/-- A border of a border, and the other way. -/
theorem bd_take {l : List UInt8} {n i : Nat} (h : bd l n = true) (hi : i < n) : bd (l.take n) i = bd l i := by
  obtain ⟨a, b, c⟩ := bd_iff.1 h
  rw [Bool.eq_iff_iff, bd_iff, bd_iff, len_take l (by omega), take_take_le l (by omega)]
  constructor
  · rintro ⟨h1, h2, h3⟩
    exact ⟨h1, by omega, h3.trans c⟩
  · rintro ⟨h1, h2, h3⟩
    exact ⟨h1, hi, suf_cmp h3 c (by rw [len_take l (by omega), len_take l (by omega)]; omega)⟩

theorem bds_next {l : List UInt8} {n : Nat} (h : bd l n = true) : dn (bd l) n = (n : Int) :: dn (bd l) (lonB (l.take n)) := by
  have h0 := bd_iff.1 h
  obtain ⟨m, rfl⟩ : ∃ m, n = m + 1 := ⟨n - 1, by omega⟩
  rw [dn_next, if_pos h, dn_mx (bd l) m]
  congr 2
  unfold lonB
  rw [len_take l (by omega), Nat.add_sub_cancel]
  exact mx_congr m (fun i _ hi => (bd_take h (by omega)).symm)

/-! with how much of t does u end? -/
def endK (t u : List UInt8) : Nat := mx (fun k => decide (k ≤ t.length ∧ t.take k <:+ u)) t.length
theorem endK_le (t u : List UInt8) : endK t u ≤ t.length := mx_le _ _
theorem endK_suf (t u : List UInt8) : t.take (endK t u) <:+ u := by
  rcases mx_holds (fun k => decide (k ≤ t.length ∧ t.take k <:+ u)) t.length with h | h
  · show t.take (mx _ _) <:+ u
    rw [h]; exact List.nil_suffix
  · exact (of_decide_eq_true h).2
theorem endK_max {t u : List UInt8} {i : Nat} (hi : i ≤ t.length) (h : t.take i <:+ u) : i ≤ endK t u := mx_max _ _ _ hi (decide_eq_true ⟨hi, h⟩)
theorem endK_is {t u : List UInt8} {m : Nat} (h1 : m ≤ t.length) (h2 : t.take m <:+ u) (h3 : ∀ i, i ≤ t.length → t.take i <:+ u → i ≤ m) : endK t u = m :=
  mx_is h1 (.inr (decide_eq_true ⟨h1, h2⟩)) (fun i hi h => h3 i hi (of_decide_eq_true h).2)
theorem endK_len (t u : List UInt8) : endK t u ≤ u.length := suf_len (endK_le t u) (endK_suf t u)
theorem endK_all {t u : List UInt8} : endK t u = t.length ↔ t <:+ u := by
  constructor
  · intro h
    have := endK_suf t u
    rwa [h, List.take_length] at this
  · intro h
    exact Nat.le_antisymm (endK_le t u) (endK_max (Nat.le_refl _) (by rwa [List.take_length]))
theorem endK_congr {t u v : List UInt8} {c : UInt8} (h : ∀ j (hj : j < t.length), t[j] = c → (t.take j <:+ u ↔ t.take j <:+ v)) : endK t (u ++ [c]) = endK t (v ++ [c]) := by
  refine mx_congr _ (fun i h0 hi => ?_)
  obtain ⟨j, rfl⟩ : ∃ j, i = j + 1 := ⟨i - 1, by omega⟩
  congr 1
  rw [take_suf (u := u) (show j < t.length by omega), take_suf (u := v) (show j < t.length by omega)]
  refine propext ⟨?_, ?_⟩
  · rintro ⟨a, b, e⟩; exact ⟨a, (h j _ e).1 b, e⟩
  · rintro ⟨a, b, e⟩; exact ⟨a, (h j _ e).2 b, e⟩
/-- One byte more: what was there ahead of the end is not asked for. -/
theorem endK_step (t u : List UInt8) (c : UInt8) : endK t (u ++ [c]) = endK t (t.take (endK t u) ++ [c]) :=
  endK_congr (fun j hj _ => ⟨fun h => suf_cmp h (endK_suf t u) (by
    have := endK_max (show j ≤ t.length by omega) h
    have := endK_le t u
    rw [len_take t (by omega), len_take t (by omega)]; omega), fun h => h.trans (endK_suf t u)⟩)
theorem endK_hit {t : List UInt8} {k : Nat} {c : UInt8} (hk : k < t.length) (h : t[k] = c) : endK t (t.take k ++ [c]) = k + 1 := by
  rw [← h, ← List.take_succ_eq_append_getElem hk]
  refine endK_is hk (List.suffix_refl _) (fun i hi hs => ?_)
  have := suf_len hi hs
  rwa [len_take t hk] at this
theorem endK_zero {t : List UInt8} {c : UInt8} (h : ∀ (hk : 0 < t.length), t[0] ≠ c) : endK t (t.take 0 ++ [c]) = 0 := by
  refine endK_is (Nat.zero_le _) List.nil_suffix (fun i hi hs => ?_)
  have := suf_len hi hs
  simp at this
  rcases Nat.eq_zero_or_pos i with h0 | h0
  · omega
  · obtain rfl : i = 0 + 1 := by omega
    exact absurd ((take_suf (show 0 < t.length by omega)).1 hs).2 (h (by omega))
theorem endK_fall {t : List UInt8} {k : Nat} {c : UInt8} (h0 : 0 < k) (hk : k ≤ t.length) (h : ∀ (hk : k < t.length), t[k] ≠ c) : endK t (t.take k ++ [c]) = endK t (t.take (lonB (t.take k)) ++ [c]) := by
  have hl := lon_le (t.take k)
  have hs := lon_suf (t.take k)
  rw [len_take t hk] at hl
  rw [take_take_le t (by omega)] at hs
  refine endK_congr (fun j hj e => ⟨fun hx => ?_, fun hx => hx.trans hs⟩)
  have hjk := suf_len (by omega) hx
  rw [len_take t hk] at hjk
  have hne : j ≠ k := fun e2 => h (by omega) (by subst e2; exact e)
  refine suf_cmp hx hs ?_
  rw [len_take t (by omega), len_take t (by omega)]
  rcases Nat.eq_zero_or_pos j with hz | hz
  · omega
  · exact lon_max (bd_iff.2 ⟨hz, by rw [len_take t hk]; omega, by rw [take_take_le t (by omega)]; exact hx⟩)

/-- The table's next number. -/
theorem lon_step {l : List UInt8} {n : Nat} (h0 : 0 < n) (hn : n < l.length) : lonB (l.take (n + 1)) = endK l (l.take (lonB (l.take n)) ++ [l[n]]) := by
  have hl := lon_le (l.take n)
  have hs := lon_suf (l.take n)
  rw [len_take l (by omega)] at hl
  rw [take_take_le l (by omega)] at hs
  have he := endK_len l (l.take (lonB (l.take n)) ++ [l[n]])
  rw [List.length_append, List.length_singleton, len_take l (by omega)] at he
  have hx := List.take_succ_eq_append_getElem hn
  refine lon_is ?_ ?_ (fun i hi => ?_)
  · rw [len_take l hn]; omega
  · rw [take_take_le l (by omega), hx]
    exact (endK_suf l _).trans (snoc_suf.2 ⟨hs, rfl⟩)
  · obtain ⟨a, b, c⟩ := bd_iff.1 hi
    rw [len_take l hn] at b
    rw [take_take_le l (by omega), hx] at c
    obtain ⟨j, rfl⟩ : ∃ j, i = j + 1 := ⟨i - 1, by omega⟩
    obtain ⟨c1, c2⟩ := (take_suf (show j < l.length by omega)).1 c
    refine endK_max (by omega) ((take_suf (show j < l.length by omega)).2 ⟨suf_cmp c1 hs ?_, c2⟩)
    rw [len_take l (by omega), len_take l (by omega)]
    rcases Nat.eq_zero_or_pos j with hz | hz
    · omega
    · exact lon_max (bd_iff.2 ⟨hz, by rw [len_take l (by omega)]; omega, by rw [take_take_le l (by omega)]; exact c1⟩)
theorem lon_none {l : List UInt8} (h : l.length ≤ 1) : lonB l = 0 := by have := lon_le l; omega

/-! tables -/
/-- For each beginning that is shorter than n, its longest border. -/
def tabQ (l : List UInt8) (n : Nat) : List Int := (List.range n).map fun j => (lonB (l.take j) : Int)
theorem tabQ_next (l : List UInt8) (n : Nat) : tabQ l (n + 1) = tabQ l n ++ [(lonB (l.take n) : Int)] := by simp [tabQ, List.range_succ]
theorem tabQ_length (l : List UInt8) (n : Nat) : (tabQ l n).length = n := by simp [tabQ]
theorem tabQ_get (l : List UInt8) (n j : Nat) (h : j < n) : (tabQ l n).getD j 0 = (lonB (l.take j) : Int) := by simp [tabQ, List.getD, h]
/-- The same, and zeros behind. -/
def tabP (l : List UInt8) (n : Nat) : List Int := tabQ l n ++ List.replicate (l.length + 1 - n) 0
theorem tabP_length (l : List UInt8) (n : Nat) (h : n ≤ l.length + 1) : (tabP l n).length = l.length + 1 := by simp [tabP, tabQ_length]; omega
theorem tabP_get (l : List UInt8) (n j : Nat) (h : j < n) : (tabP l n).getD j 0 = (lonB (l.take j) : Int) := by
  have := tabQ_get l n j h
  rw [← this]
  simp [tabP, List.getD, List.getElem?_append, tabQ_length, h]
theorem tabP_zero (l : List UInt8) (h : 0 < l.length + 1) : tabP l 1 = List.replicate (l.length + 1) 0 := by
  rw [show l.length + 1 = (l.length + 1 - 1) + 1 by omega, List.replicate_succ, tabP, show tabQ l 1 = [0] by simp [tabQ, lon_none]]
  simp
theorem tabP_full (l : List UInt8) : tabP l (l.length + 1) = tabQ l (l.length + 1) := by simp [tabP]
theorem tabP_set (l : List UInt8) (n : Nat) (h : n ≤ l.length) : (tabP l n).set n (lonB (l.take n) : Int) = tabP l (n + 1) := by
  rw [tabP, tabP, tabQ_next, List.set_append_right _ _ (by rw [tabQ_length]; exact Nat.le_refl _), tabQ_length, Nat.sub_self, show l.length + 1 - n = (l.length + 1 - (n + 1)) + 1 by omega, List.replicate_succ, List.set_cons_zero, List.append_assoc, List.singleton_append]

/-! periods -/
/-- The least period. -/
def per (l : List UInt8) : Nat := l.length - lonB l
theorem per_border {l : List UInt8} {p : Nat} (h : p ≤ l.length) : l.drop p = l.take (l.length - p) ↔ l.take (l.length - p) <:+ l := by
  rw [← take_drop_suf (by omega), show l.length - (l.length - p) = p by omega]
  exact eq_comm
theorem per_hit {l : List UInt8} {p : Nat} (h0 : 1 ≤ p) (hp : p ≤ per l) (h : l.drop p = l.take (l.length - p)) : p = per l := by
  have hle : p ≤ l.length := Nat.le_trans hp (Nat.sub_le _ _)
  have hs := (per_border hle).1 h
  have hl := lon_le l
  unfold per at hp ⊢
  rcases Nat.eq_zero_or_pos (l.length - p) with hz | hz
  · omega
  · have := lon_max (bd_iff.2 ⟨hz, by omega, hs⟩)
    omega
theorem per_is (l : List UInt8) : l.drop (per l) = l.take (l.length - per l) := by
  have hl := lon_le l
  have hle : per l ≤ l.length := Nat.sub_le _ _
  have e : l.length - per l = lonB l := by unfold per; omega
  rw [per_border hle, e]
  exact lon_suf l
theorem per_miss {l : List UInt8} {p : Nat} (hp : p ≤ per l) (h : ¬ l.drop p = l.take (l.length - p)) : p + 1 ≤ per l := by
  rcases Nat.lt_or_ge p (per l) with h1 | h1
  · exact h1
  · exact absurd (by rw [show p = per l by omega]; exact per_is l) h
theorem per_least {l : List UInt8} {q : Nat} (h0 : 1 ≤ q) (h : l.drop q = l.take (l.length - q)) (hq : q ≤ l.length) : per l ≤ q := by
  rcases Nat.lt_or_ge q (per l) with h1 | h1
  · have := per_hit h0 (by omega) h; omega
  · exact h1
theorem per_pos {l : List UInt8} (h : 0 < l.length) : 1 ≤ per l := by have := lon_le l; unfold per; omega

/-- Place by place. -/
theorem prd_iff {l : List UInt8} {p : Nat} (h : p ≤ l.length) : l.drop p = l.take (l.length - p) ↔ ∀ i, i + p < l.length → l[i + p]? = l[i]? := by
  constructor
  · intro e i hi
    have := congrArg (fun x => x[i]?) e
    simp only [List.getElem?_drop, List.getElem?_take] at this
    rw [if_pos (by omega), Nat.add_comm] at this
    exact this
  · intro hx
    refine List.ext_getElem? fun i => ?_
    rw [List.getElem?_drop, List.getElem?_take]
    by_cases hi : i + p < l.length
    · rw [if_pos (by omega), Nat.add_comm]; exact hx i hi
    · rw [if_neg (by omega), List.getElem?_eq_none (by omega)]

/-- The least period goes into each one that is short enough. -/
theorem per_divides {l : List UInt8} (hl : 0 < l.length) : ∀ (k q : Nat), q ≤ k → 1 ≤ q → per l + q ≤ l.length → (∀ i, i + q < l.length → l[i + q]? = l[i]?) → per l ∣ q
  | 0, q, hk, h0, _, _ => by omega
  | k + 1, q, hk, h0, hs, hq => by
    have hp := (prd_iff (l := l) (p := per l) (by omega)).1 (per_is l)
    have hp0 := per_pos hl
    have hle := per_least h0 ((prd_iff (by omega)).2 hq) (by omega)
    by_cases e : q = per l
    · rw [e]; exact Nat.dvd_refl _
    · have hd := per_divides hl k (q - per l) (by omega) (by omega) (by omega) (fun i hi => by
        by_cases hi2 : i + q < l.length
        · have h1 := hq i hi2
          have h2 := hp (i + (q - per l)) (by omega)
          rw [show i + (q - per l) + per l = i + q by omega] at h2
          rw [← h2, h1]
        · have h1 := hq (i - per l) (by omega)
          have h2 := hp (i - per l) (by omega)
          rw [show i - per l + per l = i by omega] at h2
          rw [show i - per l + q = i + (q - per l) by omega] at h1
          rw [h1, h2])
      have := Nat.dvd_add hd (Nat.dvd_refl (per l))
      rwa [show q - per l + per l = q by omega] at this

/-- Is a text its first n bytes, several times? -/
def wn (l : List UInt8) (n : Nat) : Bool := decide (l.length % n = 0) && (l.drop n == l.take (l.length - n))
def wholeB (l : List UInt8) : Bool := decide (per l < l.length ∧ l.length % per l = 0)
theorem whole_true {l : List UInt8} {n : Nat} (h0 : 1 ≤ n) (hn : n < l.length) (h : wn l n = true) : wholeB l = true := by
  simp only [wn, Bool.and_eq_true, decide_eq_true_iff, beq_iff_eq] at h
  obtain ⟨h1, h2⟩ := h
  have hle := per_least h0 h2 (by omega)
  obtain ⟨q, hq⟩ := Nat.dvd_of_mod_eq_zero h1
  have hq2 : 2 ≤ q := by
    rcases q with _ | _ | q
    · omega
    · omega
    · omega
  have := Nat.mul_le_mul_left n hq2
  have hd := per_divides (by omega) n n (Nat.le_refl _) h0 (by omega) ((prd_iff (by omega)).1 h2)
  unfold wholeB
  rw [decide_eq_true_iff]
  exact ⟨by omega, Nat.mod_eq_zero_of_dvd (Nat.dvd_trans hd ⟨q, hq⟩)⟩
theorem whole_false {l : List UInt8} (h : ∀ n, 1 ≤ n → n < l.length → wn l n = false) : wholeB l = false := by
  unfold wholeB
  rw [decide_eq_false_iff_not]
  rintro ⟨h1, h2⟩
  have := h (per l) (per_pos (by omega)) h1
  simp only [wn, h2, decide_true, Bool.true_and, beq_eq_false_iff_ne] at this
  exact this (per_is l)

/-- A text so many times. -/
def rep (u : List UInt8) : Nat → List UInt8
  | 0 => []
  | j + 1 => rep u j ++ u
theorem rep_length (u : List UInt8) : ∀ j, (rep u j).length = j * u.length
  | 0 => by simp [rep]
  | j + 1 => by rw [rep, List.length_append, rep_length u j, Nat.add_mul, Nat.one_mul]
theorem rep_front (u : List UInt8) : ∀ j, u ++ rep u j = rep u (j + 1)
  | 0 => by simp [rep]
  | j + 1 => by rw [rep, ← List.append_assoc, rep_front u j]; rfl
theorem rep_period {l : List UInt8} {n : Nat} (hn : n ≤ l.length) (h : l.drop n = l.take (l.length - n)) : ∀ j, j * n ≤ l.length → rep (l.take n) j = l.take (j * n)
  | 0, _ => by simp [rep]
  | j + 1, hj => by
    rw [Nat.add_mul, Nat.one_mul] at hj
    rw [← rep_front, rep_period hn h j (by omega), Nat.add_mul, Nat.one_mul, Nat.add_comm, List.take_add, h, take_take_le l (by omega)]
theorem rep_is {l : List UInt8} {n j : Nat} (h0 : 1 ≤ n) (hn : n ≤ l.length) (h1 : l.length ≤ j * n) (h2 : j = 0 ∨ (j - 1) * n < l.length) : (rep (l.take n) j == l) = wn l n := by
  have hul := len_take l hn
  rw [Bool.eq_iff_iff, beq_iff_eq, wn, Bool.and_eq_true, decide_eq_true_iff, beq_iff_eq]
  constructor
  · intro e
    have hl := rep_length (l.take n) j
    rw [e, hul] at hl
    refine ⟨by rw [hl]; exact Nat.mul_mod_left _ _, ?_⟩
    obtain ⟨i, rfl⟩ : ∃ i, j = i + 1 := ⟨j - 1, by
      rcases j with _ | j
      · omega
      · rfl⟩
    have hr := rep_length (l.take n) i
    rw [hul] at hr
    rw [Nat.add_mul, Nat.one_mul] at hl
    have e1 : l.drop n = rep (l.take n) i := by
      have := congrArg (List.drop n) ((rep_front (l.take n) i).trans e)
      rw [← this]
      exact List.drop_left' hul
    have e2 : l.take (l.length - n) = rep (l.take n) i := by
      have := congrArg (List.take (l.length - n)) (show rep (l.take n) i ++ l.take n = l from e)
      rw [← this]
      exact List.take_left' (by omega)
    rw [e1, e2]
  · rintro ⟨e1, e2⟩
    obtain ⟨q, hq⟩ := Nat.dvd_of_mod_eq_zero e1
    rw [Nat.mul_comm] at hq
    have hjq : q = j := by
      have a : q ≤ j := Nat.le_of_mul_le_mul_right (by omega : q * n ≤ j * n) h0
      rcases h2 with h2 | h2
      · omega
      · have : j - 1 < q := Nat.lt_of_mul_lt_mul_right (by omega : (j - 1) * n < q * n)
        omega
    subst hjq
    rw [rep_period hn e2 q (by omega), ← hq, List.take_length]

/-! reach -/
def rc (a b : List UInt8) (m : Nat) : Bool := decide (m ≤ a.length) && (a.drop (a.length - m) == b.take m)
theorem rc_iff {a b : List UInt8} {m : Nat} (hm : m ≤ b.length) : rc a b m = decide (m ≤ b.length ∧ b.take m <:+ a) := by
  rw [Bool.eq_iff_iff, rc, Bool.and_eq_true, decide_eq_true_iff, beq_iff_eq, decide_eq_true_iff]
  constructor
  · rintro ⟨h1, h2⟩
    exact ⟨hm, by rw [← h2]; exact List.drop_suffix _ _⟩
  · rintro ⟨_, h2⟩
    refine ⟨suf_len hm h2, ?_⟩
    have := List.suffix_iff_eq_drop.1 h2
    rw [len_take b hm] at this
    exact this.symm
theorem rch_is (a b : List UInt8) : mx (rc a b) b.length = endK b a := mx_congr _ (fun i _ hi => rc_iff hi)
theorem rch_cut (a b : List UInt8) (n : Nat) (ha : n ≤ a.length) (hb : n ≤ b.length) (hn : a.length ≤ n ∨ b.length ≤ n) : endK (b.take n) (a.drop (a.length - n)) = endK b a := by
  have hbl := len_take b hb
  have had : (a.drop (a.length - n)).length = n := by rw [List.length_drop]; omega
  have hk := endK_le b a
  have hka := endK_len b a
  refine endK_is ?_ ?_ (fun i hi hs => ?_)
  · omega
  · rw [take_take_le b (by omega)]
    exact suf_cmp (endK_suf b a) (List.drop_suffix _ _) (by rw [had, len_take b (by omega)]; omega)
  · rw [take_take_le b (by omega)] at hs
    exact endK_max (by omega) (hs.trans (List.drop_suffix _ _))

/-! places -/
/-- The places at which t stands in the first m bytes of s. -/
def fnd (s t : List UInt8) : Nat → List Int
  | 0 => []
  | m + 1 => fnd s t m ++ if t <:+ s.take (m + 1) then [((m + 1 - t.length : Nat) : Int)] else []
theorem fnd_next (s t : List UInt8) (m : Nat) : fnd s t (m + 1) = fnd s t m ++ if t <:+ s.take (m + 1) then [((m + 1 - t.length : Nat) : Int)] else [] := rfl
theorem fnd_hit {s t : List UInt8} {m : Nat} (h : t <:+ s.take (m + 1)) : fnd s t (m + 1) = fnd s t m ++ [((m + 1 - t.length : Nat) : Int)] := by rw [fnd_next, if_pos h]
theorem fnd_miss {s t : List UInt8} {m : Nat} (h : ¬ t <:+ s.take (m + 1)) : fnd s t (m + 1) = fnd s t m := by rw [fnd_next, if_neg h, List.append_nil]
theorem fnd_short {s t : List UInt8} : ∀ {m : Nat}, m < t.length → fnd s t m = []
  | 0, _ => rfl
  | m + 1, h => by
    rw [fnd_miss, fnd_short (by omega)]
    intro hs
    have := hs.length_le
    rw [List.length_take] at this
    omega
theorem fnd_over {s t : List UInt8} (h : s.length < t.length) : ∀ m, fnd s t m = []
  | 0 => rfl
  | m + 1 => by
    rw [fnd_miss, fnd_over h m]
    intro hs
    have := hs.length_le
    rw [List.length_take] at this
    omega
theorem fnd_mem {s t : List UInt8} : ∀ m, ∀ x ∈ fnd s t m, ∃ j : Nat, x = (j : Int) ∧ (m ≤ s.length → j + t.length ≤ m ∧ t <:+ s.take (j + t.length))
  | 0, x, h => by simp [fnd] at h
  | m + 1, x, h => by
    by_cases hs : t <:+ s.take (m + 1)
    · rw [fnd_hit hs, List.mem_append, List.mem_singleton] at h
      rcases h with h | h
      · obtain ⟨j, a, b⟩ := fnd_mem m x h
        exact ⟨j, a, fun hm => by have := b (by omega); exact ⟨by omega, this.2⟩⟩
      · refine ⟨_, h, fun hm => ?_⟩
        have := hs.length_le
        rw [len_take s hm] at this
        rw [Nat.sub_add_cancel this]
        exact ⟨Nat.le_refl _, hs⟩
    · rw [fnd_miss hs] at h
      obtain ⟨j, a, b⟩ := fnd_mem m x h
      exact ⟨j, a, fun hm => by have := b (by omega); exact ⟨by omega, this.2⟩⟩
theorem fnd_rises {s t : List UInt8} : ∀ m, m ≤ s.length → (fnd s t m).Pairwise (fun x y => x < y)
  | 0, _ => List.Pairwise.nil
  | m + 1, hm => by
    by_cases hs : t <:+ s.take (m + 1)
    · rw [fnd_hit hs]
      refine List.pairwise_append.2 ⟨fnd_rises m (by omega), List.pairwise_singleton _ _, fun x hx y hy => ?_⟩
      obtain ⟨j, a, b⟩ := fnd_mem m x hx
      have := b (by omega)
      have := hs.length_le
      rw [len_take s hm] at this
      rw [List.mem_singleton] at hy
      omega
    · rw [fnd_miss hs]; exact fnd_rises m (by omega)
theorem fnd_length (s t : List UInt8) : ∀ m, (fnd s t m).length ≤ m
  | 0 => Nat.le_refl _
  | m + 1 => by
    have := fnd_length s t m
    rw [fnd_next, List.length_append]
    split <;> simp <;> omega
theorem stands_iff {s t : List UInt8} {i : Nat} (h : i + t.length ≤ s.length) : (s.take (i + t.length)).drop i = t ↔ t <:+ s.take (i + t.length) := by
  rw [List.suffix_iff_eq_drop, len_take s h, Nat.add_sub_cancel]
  exact eq_comm
/-- Where a text stands twice, overlapping, the places differ by a period of it. -/
theorem twice {s t : List UInt8} {j p : Nat} (h1 : t <:+ s.take (j + t.length)) (h2 : t <:+ s.take (j + p + t.length)) (hs : j + p + t.length ≤ s.length) (hp : p ≤ t.length) : t.drop p = t.take (t.length - p) := by
  have g : ∀ k, k + t.length ≤ s.length → t <:+ s.take (k + t.length) → ∀ i, i < t.length → t[i]? = s[k + i]? := fun k hk hx i hi => by
    have := congrArg (fun x => x[i]?) ((stands_iff hk).2 hx)
    simp only [List.getElem?_drop, List.getElem?_take] at this
    rw [if_pos (by omega)] at this
    exact this.symm
  refine (prd_iff hp).2 (fun i hi => ?_)
  rw [g j (by omega) h1 (i + p) hi, g (j + p) hs h2 i (by omega)]
  congr 1; omega
end Go.Proofs.YtjmlabggocfikaaGreat
