/-
  All beginnings of patterns, as lists. No program here.
-/
import Derived.Test.YtkaldfcpcimacaaPtM
set_option linter.unusedSimpArgs false
set_option linter.unusedVariables false
namespace Go.Proofs.Ytkaldfcpcimacaa
open Go.Lib

/-- Does a pattern begin with these bytes? -/
def begL (us : List (List UInt8)) (q : List UInt8) : Bool := us.any fun t => q.isPrefixOf t
theorem beg_iff {us : List (List UInt8)} {q : List UInt8} : begL us q = true ↔ ∃ t ∈ us, q <+: t := by
  unfold begL
  rw [List.any_eq_true]
  simp only [List.isPrefixOf_iff_prefix]
theorem beg_at {us : List (List UInt8)} {q t : List UInt8} {i : Nat} (h : us[i]? = some t) (hp : q <+: t) : begL us q = true := beg_iff.2 ⟨t, List.mem_of_getElem? h, hp⟩
theorem beg_of {us : List (List UInt8)} {q : List UInt8} (h : begL us q = true) : ∃ (i : Nat) (t : List UInt8), us[i]? = some t ∧ q <+: t := by
  obtain ⟨t, ht, hp⟩ := beg_iff.1 h
  obtain ⟨i, hi⟩ := List.mem_iff_getElem?.1 ht
  exact ⟨i, t, hi, hp⟩
theorem beg_short {us : List (List UInt8)} {p q : List UInt8} (h : begL us q = true) (hp : p <+: q) : begL us p = true := by
  obtain ⟨t, ht, hq⟩ := beg_iff.1 h
  exact beg_iff.2 ⟨t, ht, hp.trans hq⟩
theorem beg_take {us : List (List UInt8)} {q : List UInt8} {k : Nat} : begL (us.take k) q = true ↔ ∃ (i : Nat) (t : List UInt8), i < k ∧ us[i]? = some t ∧ q <+: t := by
  constructor
  · intro h
    obtain ⟨i, t, hi, hp⟩ := beg_of h
    rw [List.getElem?_take] at hi
    split at hi
    · exact ⟨i, t, by assumption, hi, hp⟩
    · cases hi
  · rintro ⟨i, t, hk, hi, hp⟩
    exact beg_at (i := i) (by rw [List.getElem?_take, if_pos hk]; exact hi) hp

/-- All bytes, rising. -/
def bytU : List UInt8 := (List.range 256).map UInt8.ofNat
theorem byt_mem (c : UInt8) : c ∈ bytU := by
  unfold bytU
  rw [List.mem_map]
  exact ⟨c.toNat, List.mem_range.2 (UInt8.toNat_lt c), by simp⟩
theorem byt_rise : bytU.Pairwise (· < ·) := by
  unfold bytU
  rw [List.pairwise_map]
  refine List.Pairwise.imp_of_mem ?_ List.pairwise_lt_range
  intro a b ha hb hab
  rw [List.mem_range] at ha hb
  rw [UInt8.lt_iff_toNat_lt, UInt8.toNat_ofNat', UInt8.toNat_ofNat']
  omega
theorem rise_nodup {l : List UInt8} (h : l.Pairwise (· < ·)) : l.Nodup := h.imp fun {a b} hab e => by subst e; exact UInt8.lt_irrefl _ hab
theorem rise_unique {l m : List UInt8} (hl : l.Pairwise (· < ·)) (hm : m.Pairwise (· < ·)) (h : ∀ c, c ∈ l ↔ c ∈ m) : l = m :=
  List.Perm.eq_of_pairwise (le := fun x y => x < y) (fun a b _ _ h1 h2 => absurd (UInt8.lt_trans h1 h2) (UInt8.lt_irrefl _)) hl hm
    ((List.perm_ext_iff_of_nodup (rise_nodup hl) (rise_nodup hm)).2 h)

/-- By which bytes a text is gone on with. -/
def kidsL (us : List (List UInt8)) (q : List UInt8) : List UInt8 := bytU.filter fun c => begL us (q ++ [c])
theorem kids_mem {us : List (List UInt8)} {q : List UInt8} {c : UInt8} : c ∈ kidsL us q ↔ begL us (q ++ [c]) = true := by
  unfold kidsL
  rw [List.mem_filter]
  exact ⟨fun h => h.2, fun h => ⟨byt_mem c, h⟩⟩
theorem kids_rise (us : List (List UInt8)) (q : List UInt8) : (kidsL us q).Pairwise (· < ·) := byt_rise.filter _
theorem kids_nil (q : List UInt8) : kidsL [] q = [] := by
  rw [List.eq_nil_iff_forall_not_mem]
  intro c hc
  have := kids_mem.1 hc
  simp [begL] at this

/-- Shorter, or as long and less. -/
def slx (a b : List UInt8) : Prop := a.length < b.length ∨ (a.length = b.length ∧ a < b)
theorem slx_irrefl (a : List UInt8) : ¬ slx a a := by
  rintro (h | ⟨_, h⟩)
  · omega
  · exact List.lt_irrefl a h
theorem slx_trans {a b c : List UInt8} (h : slx a b) (k : slx b c) : slx a c := by
  rcases h with h | ⟨h, h'⟩ <;> rcases k with k | ⟨k, k'⟩
  · exact .inl (by omega)
  · exact .inl (by omega)
  · exact .inl (by omega)
  · exact .inr ⟨h.trans k, List.lt_trans h' k'⟩
theorem slx_nodup {S : List (List UInt8)} (h : S.Pairwise slx) : S.Nodup := h.imp fun {a b} hab e => by subst e; exact slx_irrefl _ hab
theorem slx_unique {l m : List (List UInt8)} (hl : l.Pairwise slx) (hm : m.Pairwise slx) (h : ∀ c, c ∈ l ↔ c ∈ m) : l = m :=
  List.Perm.eq_of_pairwise (le := slx) (fun a b _ _ h1 h2 => absurd (slx_trans h1 h2) (slx_irrefl _)) hl hm
    ((List.perm_ext_iff_of_nodup (slx_nodup hl) (slx_nodup hm)).2 h)
theorem lt_same : ∀ {a b : List UInt8} (x y : List UInt8), a.length = b.length → a < b → a ++ x < b ++ y
  | [], [], _, _, _, h => absurd h (List.lt_irrefl _)
  | [], _ :: _, _, _, h, _ => by simp at h
  | _ :: _, [], _, _, h, _ => by simp at h
  | c :: a, d :: b, x, y, h, hl => by
    rw [List.cons_append, List.cons_append, List.cons_lt_cons_iff]
    rw [List.cons_lt_cons_iff] at hl
    rcases hl with hl | ⟨he, hl⟩
    · exact .inl hl
    · exact .inr ⟨he, lt_same x y (by simpa using h) hl⟩
theorem lt_after : ∀ (p : List UInt8) {x y : List UInt8}, x < y → p ++ x < p ++ y
  | [], _, _, h => h
  | c :: p, x, y, h => by
    rw [List.cons_append, List.cons_append, List.cons_lt_cons_iff]
    exact .inr ⟨rfl, lt_after p h⟩
theorem slx_snoc {a b : List UInt8} (c d : UInt8) (h : slx a b) : slx (a ++ [c]) (b ++ [d]) := by
  rcases h with h | ⟨h, h'⟩
  · exact .inl (by simp; omega)
  · exact .inr ⟨by simp [h], lt_same _ _ h h'⟩
theorem slx_byte (p : List UInt8) {c d : UInt8} (h : c < d) : slx (p ++ [c]) (p ++ [d]) := .inr ⟨by simp, lt_after p (by rw [List.cons_lt_cons_iff]; exact .inl h)⟩
theorem slx_nil {q : List UInt8} (h : q ≠ []) : slx [] q := .inl (by cases q with | nil => exact absurd rfl h | cons _ _ => simp)

/-- The states of a set: all beginnings, the shortest first, those of one length in order. -/
def IsSt (us S : List (List UInt8)) : Prop := S.Pairwise slx ∧ ∀ q, q ∈ S ↔ q = [] ∨ begL us q = true
theorem IsSt.unique {us S T : List (List UInt8)} (h : IsSt us S) (k : IsSt us T) : S = T := slx_unique h.1 k.1 fun q => (h.2 q).trans (k.2 q).symm

/-- The states with a byte more. -/
def kidsP (us : List (List UInt8)) (p : List UInt8) : List (List UInt8) := (kidsL us p).map fun c => p ++ [c]
theorem kidsP_mem {us : List (List UInt8)} {p q : List UInt8} : q ∈ kidsP us p ↔ ∃ c, begL us (p ++ [c]) = true ∧ q = p ++ [c] := by
  unfold kidsP
  rw [List.mem_map]
  constructor
  · rintro ⟨c, hc, rfl⟩; exact ⟨c, kids_mem.1 hc, rfl⟩
  · rintro ⟨c, hc, rfl⟩; exact ⟨c, kids_mem.2 hc, rfl⟩
theorem kidsP_length (us : List (List UInt8)) (p : List UInt8) : (kidsP us p).length = (kidsL us p).length := List.length_map _
theorem kidsP_rise (us : List (List UInt8)) (p : List UInt8) : (kidsP us p).Pairwise slx := by
  unfold kidsP
  rw [List.pairwise_map]
  exact (kids_rise us p).imp fun {c d} h => slx_byte p h

/-- The states behind k rounds: each state's own ones are put behind all others. -/
inductive Bfs (us : List (List UInt8)) : Nat → List (List UInt8) → Prop
  | zero : Bfs us 0 [[]]
  | step {k : Nat} {S : List (List UInt8)} {p : List UInt8} (h : Bfs us k S) (hp : S[k]? = some p) : Bfs us (k + 1) (S ++ kidsP us p)
theorem Bfs.le {us : List (List UInt8)} {k : Nat} {S : List (List UInt8)} (h : Bfs us k S) : k ≤ S.length ∧ 1 ≤ S.length := by
  induction h with
  | zero => simp
  | step h hp ih =>
    have := (List.getElem?_eq_some_iff.1 hp).1
    rw [List.length_append]; omega
theorem Bfs.is {us : List (List UInt8)} {k : Nat} {S : List (List UInt8)} (h : Bfs us k S) : S = [[]] ++ (S.take k).flatMap (kidsP us) := by
  induction h with
  | zero => simp
  | @step k S p h hp ih =>
    have hlt := (List.getElem?_eq_some_iff.1 hp).1
    have e : (S ++ kidsP us p).take (k + 1) = S.take k ++ [p] := by
      rw [List.take_append_of_le_length (by omega), List.take_succ_eq_append_getElem hlt, (List.getElem?_eq_some_iff.1 hp).2]
    rw [e, List.flatMap_append, ← List.append_assoc, ← ih]
    simp
theorem Bfs.root {us : List (List UInt8)} {k : Nat} {S : List (List UInt8)} (h : Bfs us k S) : S[0]? = some [] := by rw [h.is]; rfl
theorem Bfs.old {us : List (List UInt8)} {k : Nat} {S : List (List UInt8)} (h : Bfs us k S) {q : List UInt8} (hq : q ∈ S) : q = [] ∨ ∃ (i : Nat) (p : List UInt8) (c : UInt8), i < k ∧ S[i]? = some p ∧ begL us (p ++ [c]) = true ∧ q = p ++ [c] := by
  rw [h.is] at hq
  rw [List.mem_append, List.mem_singleton, List.mem_flatMap] at hq
  rcases hq with hq | ⟨p, hp, hq⟩
  · exact .inl hq
  · obtain ⟨i, hi⟩ := List.mem_iff_getElem?.1 hp
    rw [List.getElem?_take] at hi
    split at hi
    · obtain ⟨c, hc, e⟩ := kidsP_mem.1 hq
      exact .inr ⟨i, p, c, by assumption, hi, hc, e⟩
    · cases hi
theorem Bfs.new {us : List (List UInt8)} {k : Nat} {S : List (List UInt8)} (h : Bfs us k S) {i : Nat} {p : List UInt8} {c : UInt8} (hi : i < k) (hp : S[i]? = some p) (hc : begL us (p ++ [c]) = true) : p ++ [c] ∈ S := by
  rw [h.is, List.mem_append, List.mem_flatMap]
  exact .inr ⟨p, List.mem_of_getElem? (i := i) (by rw [List.getElem?_take, if_pos hi]; exact hp), kidsP_mem.2 ⟨c, hc, rfl⟩⟩
theorem Bfs.rise {us : List (List UInt8)} {k : Nat} {S : List (List UInt8)} (h : Bfs us k S) : S.Pairwise slx := by
  induction h with
  | zero => simp
  | @step k S p h hp ih =>
    rw [List.pairwise_append]
    refine ⟨ih, kidsP_rise us p, fun x hx y hy => ?_⟩
    obtain ⟨c, hc, rfl⟩ := kidsP_mem.1 hy
    rcases h.old hx with rfl | ⟨i, u, d, hi, hu, _, rfl⟩
    · exact slx_nil (by simp)
    · have hlt := (List.getElem?_eq_some_iff.1 hp).1
      have := List.pairwise_iff_getElem.1 ih i k (by omega) hlt hi
      rw [(List.getElem?_eq_some_iff.1 hu).2, (List.getElem?_eq_some_iff.1 hp).2] at this
      exact slx_snoc d c this
theorem Bfs.done {us : List (List UInt8)} {S : List (List UInt8)} (h : Bfs us S.length S) : IsSt us S := by
  refine ⟨h.rise, fun q => ⟨fun hq => ?_, fun hq => ?_⟩⟩
  · rcases h.old hq with rfl | ⟨i, u, d, _, _, hb, rfl⟩
    · exact .inl rfl
    · exact .inr hb
  · rcases hq with rfl | hq
    · exact List.mem_of_getElem? h.root
    · suffices g : ∀ (n : Nat) (q : List UInt8), q.length = n → begL us q = true → q ∈ S from g _ q rfl hq
      intro n
      induction n with
      | zero =>
        intro q hn _
        rw [List.eq_nil_of_length_eq_zero hn]
        exact List.mem_of_getElem? h.root
      | succ n ih =>
        intro q hn hb
        have hne : q ≠ [] := fun e => by subst e; simp at hn
        have e := List.dropLast_concat_getLast hne
        have hd : q.dropLast ∈ S := ih _ (by simp; omega) (beg_short hb (List.dropLast_prefix q))
        obtain ⟨i, hi⟩ := List.mem_iff_getElem?.1 hd
        have := h.new (c := q.getLast hne) (List.getElem?_eq_some_iff.1 hi).1 hi (by rw [e]; exact hb)
        rwa [e] at this
/-- One of the states above another one stands ahead of it. -/
theorem rise_lt {S : List (List UInt8)} (h : S.Pairwise slx) {i j : Nat} {p q : List UInt8} (hp : S[i]? = some p) (hq : S[j]? = some q) (hs : slx p q) : i < j := by
  obtain ⟨hi, e1⟩ := List.getElem?_eq_some_iff.1 hp
  obtain ⟨hj, e2⟩ := List.getElem?_eq_some_iff.1 hq
  rcases Nat.lt_trichotomy i j with hlt | he | hgt
  · exact hlt
  · subst he; rw [e1] at e2; subst e2; exact absurd hs (slx_irrefl _)
  · have := List.pairwise_iff_getElem.1 h j i hj hi hgt
    rw [e1, e2] at this
    exact absurd (slx_trans this hs) (slx_irrefl _)
theorem rise_same {S : List (List UInt8)} (h : S.Pairwise slx) {i j : Nat} {p : List UInt8} (hp : S[i]? = some p) (hq : S[j]? = some p) : i = j := by
  obtain ⟨hi, e1⟩ := List.getElem?_eq_some_iff.1 hp
  obtain ⟨hj, e2⟩ := List.getElem?_eq_some_iff.1 hq
  exact (List.getElem_inj (slx_nodup h)).1 (e1.trans e2.symm)
/-- The last state goes no further. -/
theorem last_none {us S : List (List UInt8)} (h : IsSt us S) {p : List UInt8} (hp : S[S.length - 1]? = some p) : kidsL us p = [] := by
  rw [List.eq_nil_iff_forall_not_mem]
  intro c hc
  obtain ⟨j, hj⟩ := List.mem_iff_getElem?.1 ((h.2 _).2 (.inr (kids_mem.1 hc)))
  have h1 := rise_lt h.1 hp hj (.inl (by simp))
  have h2 := (List.getElem?_eq_some_iff.1 hj).1
  omega

/-- How many states there are at most. -/
theorem subset_length {α : Type} : ∀ (l m : List α), l.Nodup → (∀ x ∈ l, x ∈ m) → l.length ≤ m.length
  | [], m, _, _ => Nat.zero_le _
  | x :: l, m, h, hs => by
    classical
    obtain ⟨a, b, rfl⟩ := List.append_of_mem (hs x List.mem_cons_self)
    have hx := (List.nodup_cons.1 h).1
    have := subset_length l (a ++ b) (List.nodup_cons.1 h).2 (fun y hy => by
      have := hs y (List.mem_cons_of_mem _ hy)
      rw [List.mem_append, List.mem_cons] at this
      rcases this with h1 | rfl | h1
      · exact List.mem_append_left _ h1
      · exact absurd hy hx
      · exact List.mem_append_right _ h1)
    simp at this ⊢
    omega
theorem total_flat (us : List (List UInt8)) : (us.flatMap fun t => (List.range t.length).map fun n => t.take (n + 1)).length = totalL us := by
  induction us with
  | nil => rfl
  | cons t r ih => rw [List.flatMap_cons, List.length_append, ih, total_cons]; simp
theorem states_few {us S : List (List UInt8)} (hn : S.Nodup) (hm : ∀ q ∈ S, q = [] ∨ begL us q = true) : S.length ≤ totalL us + 1 := by
  have := subset_length S ([] :: us.flatMap fun t => (List.range t.length).map fun n => t.take (n + 1)) hn (fun q hq => by
    rcases hm q hq with rfl | hb
    · exact List.mem_cons_self
    · by_cases h0 : q = []
      · subst h0; exact List.mem_cons_self
      · refine List.mem_cons_of_mem _ (List.mem_flatMap.2 ?_)
        obtain ⟨t, ht, hp⟩ := beg_iff.1 hb
        have hl := hp.length_le
        have hpos : 0 < q.length := List.length_pos_iff.2 h0
        refine ⟨t, ht, List.mem_map.2 ⟨q.length - 1, List.mem_range.2 (by omega), ?_⟩⟩
        rw [show q.length - 1 + 1 = q.length by omega]
        exact (List.prefix_iff_eq_take.1 hp).symm)
  rw [List.length_cons, total_flat] at this
  exact this
theorem Bfs.few {us : List (List UInt8)} {k : Nat} {S : List (List UInt8)} (h : Bfs us k S) : S.length ≤ totalL us + 1 :=
  states_few (slx_nodup h.rise) fun q hq => (h.old hq).imp id fun ⟨_, _, _, _, _, hb, e⟩ => by rw [e]; exact hb
end Go.Proofs.Ytkaldfcpcimacaa
