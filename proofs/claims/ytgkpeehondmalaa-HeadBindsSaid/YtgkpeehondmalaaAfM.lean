/-
  How texts begin and end alike, and their order, as lists. No program here.
-/
import Derived.Test.YtgkpeehondmalaaGen
import Derived.Lib.Bytealg
set_option linter.unusedSimpArgs false
set_option linter.unusedVariables false
namespace Go.Proofs.Ytgkpeehondmalaa
open Go.Lib

/-- With how many bytes two texts begin alike. -/
def preL : List UInt8 → List UInt8 → Nat
  | a :: x, b :: y => if a = b then preL x y + 1 else 0
  | _, _ => 0

theorem preL_nil (b : List UInt8) : preL [] b = 0 := by cases b <;> rfl
theorem preL_nil' (a : List UInt8) : preL a [] = 0 := by cases a <;> rfl
theorem preL_cons (a : UInt8) (x : List UInt8) (b : UInt8) (y : List UInt8) : preL (a :: x) (b :: y) = if a = b then preL x y + 1 else 0 := rfl

theorem preL_le : ∀ (a b : List UInt8), preL a b ≤ a.length ∧ preL a b ≤ b.length
  | [], b => by simp [preL_nil]
  | _ :: _, [] => by simp [preL_nil']
  | a :: x, b :: y => by
    have := preL_le x y
    rw [preL_cons]
    split <;> simp <;> omega

/-- So far they are alike, and no farther. -/
theorem preL_is : ∀ (a b : List UInt8) (n : Nat), n ≤ a.length → n ≤ b.length → (∀ i, i < n → a[i]? = b[i]?) → (n = a.length ∨ n = b.length ∨ a[n]? ≠ b[n]?) → preL a b = n
  | [], b, n, h1, _, _, _ => by simp at h1; rw [preL_nil, h1]
  | _ :: _, [], n, _, h2, _, _ => by simp at h2; rw [preL_nil', h2]
  | a :: x, b :: y, 0, _, _, _, h => by
    rw [preL_cons]
    by_cases e : a = b
    · subst e; simp at h
    · rw [if_neg e]
  | a :: x, b :: y, n + 1, h1, h2, h3, h4 => by
    have e : a = b := by simpa using h3 0 (by omega)
    subst e
    rw [preL_cons, if_pos rfl, preL_is x y n (by simpa using h1) (by simpa using h2) (fun i hi => by simpa using h3 (i + 1) (by omega)) (by simpa using h4)]

theorem preL_whole : ∀ (a b : List UInt8), (preL a b = b.length) ↔ b <+: a
  | a, [] => by simp [preL_nil']
  | [], b :: y => by simp [preL_nil]
  | a :: x, b :: y => by
    rw [preL_cons, List.cons_prefix_cons]
    by_cases e : a = b
    · subst e; simp [preL_whole x y]
    · have e' : ¬ b = a := fun h => e h.symm
      simp [e, e']

theorem preL_self (a : List UInt8) : preL a a = a.length := (preL_whole a a).2 (List.prefix_refl a)

/-- With how many bytes two texts end alike. -/
def sufL (a b : List UInt8) : Nat := preL a.reverse b.reverse
theorem sufL_le (a b : List UInt8) : sufL a b ≤ a.length ∧ sufL a b ≤ b.length := by
  have := preL_le a.reverse b.reverse
  simpa [sufL] using this
theorem sufL_whole (a b : List UInt8) : (sufL a b = b.length) ↔ b <:+ a := by
  have := preL_whole a.reverse b.reverse
  simpa [sufL, List.reverse_prefix] using this
theorem sufL_is (a b : List UInt8) (n : Nat) (h1 : n ≤ a.length) (h2 : n ≤ b.length) (h3 : ∀ i, i < n → a[a.length - 1 - i]? = b[b.length - 1 - i]?)
    (h4 : n = a.length ∨ n = b.length ∨ a[a.length - 1 - n]? ≠ b[b.length - 1 - n]?) : sufL a b = n := by
  refine preL_is a.reverse b.reverse n (by simpa using h1) (by simpa using h2) (fun i hi => ?_) ?_
  · rw [List.getElem?_reverse (by omega), List.getElem?_reverse (by omega)]
    exact h3 i hi
  · by_cases ha : n = a.length
    · exact .inl (by simpa using ha)
    · by_cases hb : n = b.length
      · exact .inr (.inl (by simpa using hb))
      · refine .inr (.inr ?_)
        rw [List.getElem?_reverse (by omega), List.getElem?_reverse (by omega)]
        rcases h4 with h4 | h4 | h4
        · exact absurd h4 ha
        · exact absurd h4 hb
        · exact h4

/-- The order, as the model says it. -/
theorem less_eq : ∀ (x y : List UInt8), Op.bytesLess x y = decide (x < y)
  | [], [] => by simp [Op.bytesLess]
  | _ :: _, [] => by simp [Op.bytesLess]
  | [], _ :: _ => by simp [Op.bytesLess]
  | a :: x, b :: y => by
    rw [Op.bytesLess, less_eq x y]
    simp only [List.cons_lt_cons_iff]
    by_cases h1 : a < b <;> by_cases h2 : a = b <;> by_cases h3 : x < y <;> simp [h1, h2, h3]

theorem cmp_cases : ∀ (x y : List UInt8), (x < y ∧ compareBytes x y = -1) ∨ (x = y ∧ compareBytes x y = 0) ∨ (y < x ∧ compareBytes x y = 1)
  | [], [] => by simp [compareBytes]
  | [], _ :: _ => by simp [compareBytes]
  | _ :: _, [] => by simp [compareBytes]
  | a :: x, b :: y => by
    unfold compareBytes
    by_cases h1 : a < b
    · simp [List.cons_lt_cons_iff, h1]
    · by_cases h2 : b < a
      · simp [List.cons_lt_cons_iff, h1, h2]
      · have e : a = b := UInt8.le_antisymm (UInt8.not_lt.1 h2) (UInt8.not_lt.1 h1)
        subst e
        have := cmp_cases x y
        simpa [List.cons_lt_cons_iff, h1] using this

theorem cmp_neg (x y : List UInt8) : compareBytes x y < 0 ↔ x < y := by
  rcases cmp_cases x y with ⟨h, e⟩ | ⟨h, e⟩ | ⟨h, e⟩
  · simp [h, e]
  · subst h; simp [e, List.lt_irrefl]
  · simp [e]; exact fun h' => List.lt_irrefl x (List.lt_trans h' h)
theorem cmp_zero (x y : List UInt8) : compareBytes x y = 0 ↔ x = y := by
  rcases cmp_cases x y with ⟨h, e⟩ | ⟨h, e⟩ | ⟨h, e⟩
  · rw [e]; simp; intro h'; subst h'; exact List.lt_irrefl x h
  · exact ⟨fun _ => h, fun _ => e⟩
  · rw [e]; simp; intro h'; subst h'; exact List.lt_irrefl x h
theorem cmp_swap (x y : List UInt8) : compareBytes y x = - compareBytes x y := by
  rcases cmp_cases x y with ⟨h, e⟩ | ⟨h, e⟩ | ⟨h, e⟩ <;> rcases cmp_cases y x with ⟨h', e'⟩ | ⟨h', e'⟩ | ⟨h', e'⟩ <;> rw [e, e'] <;> try rfl
  · exact absurd (List.lt_trans h h') (List.lt_irrefl x)
  · subst h'; exact absurd h (List.lt_irrefl _)
  · subst h; exact absurd h' (List.lt_irrefl _)
  · subst h; exact absurd h' (List.lt_irrefl _)
  · subst h'; exact absurd h (List.lt_irrefl _)
  · exact absurd (List.lt_trans h h') (List.lt_irrefl _)
theorem cmp_le (x y : List UInt8) : compareBytes x y ≤ 0 ↔ x ≤ y := by
  rw [← List.not_lt, ← cmp_neg y x, cmp_swap x y]; omega
theorem cmp_trans (x y z : List UInt8) (h1 : compareBytes x y ≤ 0) (h2 : compareBytes y z ≤ 0) : compareBytes x z ≤ 0 := by
  rw [cmp_le] at *; exact List.le_trans h1 h2

/-- Between two texts none shares less with the second one than they do. -/
theorem pre_mid : ∀ (a b d : List UInt8), compareBytes a b ≤ 0 → compareBytes b d ≤ 0 → preL a d ≤ preL a b ∧ preL a d ≤ preL b d
  | [], b, d, _, _ => by simp [preL_nil]
  | x :: a, b, [], _, _ => by simp [preL_nil']
  | x :: a, [], z :: d, h, _ => by simp [compareBytes] at h
  | x :: a, y :: b, z :: d, h1, h2 => by
    rw [preL_cons]
    by_cases e : x = z
    · subst e
      rw [if_pos rfl]
      unfold compareBytes at h1 h2
      by_cases hxy : x < y
      · have hyx : ¬ y < x := UInt8.lt_asymm hxy
        rw [if_neg hyx, if_pos hxy] at h2
        omega
      · rw [if_neg hxy] at h1
        by_cases hyx : y < x
        · rw [if_pos hyx] at h1; omega
        · have e : x = y := UInt8.le_antisymm (UInt8.not_lt.1 hyx) (UInt8.not_lt.1 hxy)
          subst e
          rw [if_neg hyx] at h1
          rw [if_neg hyx, if_neg hyx] at h2
          have := pre_mid a b d h1 h2
          rw [preL_cons, preL_cons, if_pos rfl, if_pos rfl]
          omega
    · rw [if_neg e]
      omega

/-- Texts in order. -/
def Asc (ws : List (List UInt8)) : Prop := ws.Pairwise fun x y => compareBytes x y ≤ 0

theorem Asc.at {ws : List (List UInt8)} (h : Asc ws) {i j : Nat} {a b : List UInt8} (hij : i ≤ j) (ha : ws[i]? = some a) (hb : ws[j]? = some b) : compareBytes a b ≤ 0 := by
  obtain ⟨hi, rfl⟩ := List.getElem?_eq_some_iff.1 ha
  obtain ⟨hj, rfl⟩ := List.getElem?_eq_some_iff.1 hb
  rcases Nat.lt_or_ge i j with h' | h'
  · exact List.pairwise_iff_getElem.1 h i j hi hj h'
  · have : i = j := by omega
    subst this
    rw [(cmp_zero _ _).2 rfl]; omega

/-- Of texts in order two share no more than each two neighbours between them. -/
theorem Asc.share {ws : List (List UInt8)} (h : Asc ws) {i j k : Nat} {a b c d : List UInt8} (hij : i ≤ j) (hjk : j + 1 ≤ k) (ha : ws[i]? = some a) (hb : ws[j]? = some b) (hc : ws[j + 1]? = some c) (hd : ws[k]? = some d) :
    preL a d ≤ preL b c :=
  Nat.le_trans (pre_mid a b d (h.at hij ha hb) (h.at (by omega) hb hd)).2 (pre_mid b c d (h.at (by omega) hb hc) (h.at hjk hc hd)).1

/-- The texts, in order. -/
def srt (ws : List (List UInt8)) : List (List UInt8) := ws.mergeSort fun x y => decide (x ≤ y)
theorem srt_perm (ws : List (List UInt8)) : (srt ws).Perm ws := List.mergeSort_perm ws _
theorem srt_length (ws : List (List UInt8)) : (srt ws).length = ws.length := (srt_perm ws).length_eq
theorem srt_asc (ws : List (List UInt8)) : Asc (srt ws) := by
  have h := List.pairwise_mergeSort (le := fun (x y : List UInt8) => decide (x ≤ y)) (fun a b c h1 h2 => by simp only [decide_eq_true_eq] at *; exact List.le_trans h1 h2)
    (fun a b => by simp only [Bool.or_eq_true, decide_eq_true_eq]; exact List.le_total a b) ws
  exact h.imp fun {a b} hab => (cmp_le a b).2 (by simpa using hab)
theorem asc_unique {l m : List (List UInt8)} (hl : Asc l) (hm : Asc m) (hp : l.Perm m) : l = m :=
  List.Perm.eq_of_pairwise (le := fun x y => compareBytes x y ≤ 0) (fun a b _ _ h1 h2 => by
    rw [cmp_swap a b] at h2
    exact (cmp_zero a b).1 (by omega)) hl hm hp

/-- One more, put where it belongs. -/
def posS (out : List (List UInt8)) (x : List UInt8) : Nat → Nat
  | 0 => 0
  | k + 1 => match out[k]? with
    | some t => if Op.bytesLess x t then posS out x k else k + 1
    | none => k + 1
def insS (out : List (List UInt8)) (x : List UInt8) : List (List UInt8) := out.take (posS out x out.length) ++ ([x] ++ out.drop (posS out x out.length))
theorem posS_le (out : List (List UInt8)) (x : List UInt8) : ∀ k, posS out x k ≤ k
  | 0 => Nat.le_refl _
  | k + 1 => by
    unfold posS
    have := posS_le out x k
    split
    · split <;> omega
    · omega
theorem posS_hit {out : List (List UInt8)} {x t : List UInt8} {k : Nat} (h : out[k]? = some t) (hl : Op.bytesLess x t = true) : posS out x (k + 1) = posS out x k := by
  rw [posS, h]; simp [hl]
theorem posS_miss {out : List (List UInt8)} {x t : List UInt8} {k : Nat} (h : out[k]? = some t) (hl : Op.bytesLess x t = false) : posS out x (k + 1) = k + 1 := by
  rw [posS, h]; simp [hl]

theorem insS_perm (out : List (List UInt8)) (x : List UInt8) : (insS out x).Perm (x :: out) := by
  unfold insS
  rw [List.singleton_append]
  refine List.perm_middle.trans ?_
  rw [List.take_append_drop]

theorem posS_spec (out : List (List UInt8)) (x : List UInt8) : ∀ k, k ≤ out.length → (∀ t, posS out x k ≠ 0 → out[posS out x k - 1]? = some t → compareBytes t x ≤ 0) ∧ (∀ i t, posS out x k ≤ i → i < k → out[i]? = some t → compareBytes x t ≤ 0)
  | 0, _ => by refine ⟨fun t h => absurd rfl h, fun i t _ h => by omega⟩
  | k + 1, hk => by
    have hlt : k < out.length := by omega
    have he : out[k]? = some out[k] := List.getElem?_eq_getElem hlt
    cases hl : Op.bytesLess x out[k] with
    | true =>
      rw [posS_hit he hl]
      have ih := posS_spec out x k (by omega)
      refine ⟨ih.1, fun i t h1 h2 h3 => ?_⟩
      by_cases hi : i < k
      · exact ih.2 i t h1 hi h3
      · have : i = k := by omega
        subst this
        rw [he] at h3
        obtain rfl := Option.some.inj h3
        rw [less_eq] at hl
        have := (cmp_neg x out[i]).2 (by simpa using hl)
        omega
    | false =>
      rw [posS_miss he hl]
      refine ⟨fun t _ h => ?_, fun i t h1 h2 => by omega⟩
      rw [Nat.add_sub_cancel, he] at h
      obtain rfl := Option.some.inj h
      rw [less_eq] at hl
      exact (cmp_le _ _).2 (List.not_lt.1 (by simpa using hl))

theorem insS_asc {out : List (List UInt8)} (h : Asc out) (x : List UInt8) : Asc (insS out x) := by
  have hp := posS_le out x out.length
  have hs := posS_spec out x out.length (Nat.le_refl _)
  unfold insS
  generalize posS out x out.length = p at *
  have hbef : ∀ a ∈ out.take p, compareBytes a x ≤ 0 := fun a ha => by
    obtain ⟨i, hi, rfl⟩ := List.getElem_of_mem ha
    have hi' : i < p ∧ i < out.length := by rw [List.length_take] at hi; omega
    rw [List.getElem_take]
    have h1 := h.at (i := i) (j := p - 1) (by omega) (List.getElem?_eq_getElem hi'.2) (List.getElem?_eq_getElem (by omega))
    exact cmp_trans _ _ _ h1 (hs.1 _ (by omega) (List.getElem?_eq_getElem (by omega)))
  have haft : ∀ b ∈ out.drop p, compareBytes x b ≤ 0 := fun b hb => by
    obtain ⟨i, hi, rfl⟩ := List.getElem_of_mem hb
    rw [List.length_drop] at hi
    rw [List.getElem_drop]
    exact hs.2 (p + i) _ (by omega) (by omega) (List.getElem?_eq_getElem (by omega))
  unfold Asc
  rw [List.pairwise_append]
  refine ⟨h.sublist (List.take_sublist _ _), ?_, fun a ha b hb => ?_⟩
  · rw [List.singleton_append, List.pairwise_cons]
    exact ⟨haft, h.sublist (List.drop_sublist _ _)⟩
  · rw [List.singleton_append, List.mem_cons] at hb
    rcases hb with rfl | hb
    · exact hbef a ha
    · exact cmp_trans _ _ _ (hbef a ha) (haft b hb)

theorem ins_all : ∀ (ws out : List (List UInt8)), Asc out → Asc (ws.foldl insS out) ∧ (ws.foldl insS out).Perm (ws ++ out)
  | [], out, h => ⟨h, List.Perm.refl _⟩
  | x :: r, out, h => by
    have ih := ins_all r (insS out x) (insS_asc h x)
    refine ⟨ih.1, ih.2.trans ?_⟩
    refine (List.Perm.append_left r (insS_perm out x)).trans ?_
    exact List.perm_middle
theorem ins_srt (ws : List (List UInt8)) : ws.foldl insS [] = srt ws := by
  have h := ins_all ws [] List.Pairwise.nil
  rw [List.append_nil] at h
  exact asc_unique h.1 (srt_asc ws) (h.2.trans (srt_perm ws).symm)

/-- How many of texts come ahead of one. -/
def ahdS (s : List UInt8) (ws : List (List UInt8)) : Nat := ws.countP fun x => decide (compareBytes x s < 0)
theorem ahd_snoc {ws : List (List UInt8)} {k : Nat} {t : List UInt8} (s : List UInt8) (h : ws[k]? = some t) : ahdS s (ws.take (k + 1)) = ahdS s (ws.take k) + (if Op.bytesLess t s then 1 else 0) := by
  obtain ⟨hk, rfl⟩ := List.getElem?_eq_some_iff.1 h
  unfold ahdS
  rw [List.take_succ_eq_append_getElem hk, List.countP_append, List.countP_singleton, less_eq]
  simp only [cmp_neg, decide_eq_true_eq]
theorem ahd_le (s : List UInt8) (ws : List (List UInt8)) : ahdS s ws ≤ ws.length := List.countP_le_length
theorem mem_snoc {ws : List (List UInt8)} {k : Nat} {t : List UInt8} (s : List UInt8) (h : ws[k]? = some t) : decide (s ∈ ws.take (k + 1)) = (decide (s ∈ ws.take k) || (t == s)) := by
  obtain ⟨hk, rfl⟩ := List.getElem?_eq_some_iff.1 h
  rw [List.take_succ_eq_append_getElem hk]
  have e : ∀ a b : List UInt8, (a == b) = decide (b = a) := fun a b => by
    rw [Bool.eq_iff_iff]; simp; exact eq_comm
  rw [e, Bool.eq_iff_iff]
  simp only [List.mem_append, List.mem_singleton, decide_eq_true_eq, Bool.or_eq_true]

/-- What a search tells of texts in order. -/
theorem find_there {s : List UInt8} : ∀ {ws : List (List UInt8)}, Asc ws → (decide (ahdS s ws < ws.length) && decide (compareBytes (ws[ahdS s ws]?.getD []) s = 0)) = decide (s ∈ ws)
  | [], _ => by simp [ahdS]
  | x :: r, h => by
    have hr : Asc r := (List.pairwise_cons.1 h).2
    have hx := (List.pairwise_cons.1 h).1
    by_cases hlt : compareBytes x s < 0
    · have e : ahdS s (x :: r) = ahdS s r + 1 := by
        unfold ahdS; rw [List.countP_cons_of_pos (by simpa using hlt)]
      rw [e]
      have ih := find_there (s := s) hr
      have hne : s ≠ x := fun he => by subst he; rw [(cmp_zero s s).2 rfl] at hlt; omega
      simpa [hne] using ih
    · have e : ahdS s (x :: r) = 0 := by
        unfold ahdS
        rw [List.countP_eq_zero]
        intro y hy
        simp only [decide_eq_true_eq]
        rw [List.mem_cons] at hy
        rcases hy with rfl | hy
        · exact hlt
        · have h1 := hx y hy
          intro h2
          have := cmp_trans _ _ _ h1 (Int.le_of_lt h2)
          have h3 : compareBytes x s = 0 := by omega
          have h4 := (cmp_zero x s).1 h3
          subst h4
          have h5 : compareBytes x y = 0 := by rw [cmp_swap x y] at h2; omega
          have h6 := (cmp_zero x y).1 h5
          subst h6
          omega
      rw [e]
      by_cases hs : compareBytes x s = 0
      · have := (cmp_zero x s).1 hs
        subst this
        simp [hs]
      · have hne : s ≠ x := fun he => by subst he; exact hs ((cmp_zero s s).2 rfl)
        have hnr : s ∉ r := fun hm => by have := hx s hm; omega
        simp [hs, hne, hnr]

theorem ahd_mono {s : List UInt8} {ws : List (List UInt8)} (h : Asc ws) {i j : Nat} {a b : List UInt8} (hij : i ≤ j) (ha : ws[i]? = some a) (hb : ws[j]? = some b) (hlt : compareBytes b s < 0) : compareBytes a s < 0 := by
  have h1 := h.at hij ha hb
  have h2 := cmp_trans _ _ _ h1 (Int.le_of_lt hlt)
  rcases Int.lt_or_eq_of_le h2 with h3 | h3
  · exact h3
  · have := (cmp_zero a s).1 h3
    subst this
    rw [cmp_swap b a] at h1
    omega

/-- The place of the first text that is there again. -/
def twS (seen : List (List UInt8)) : List (List UInt8) → Nat → Int
  | [], _ => -1
  | t :: r, k => if t ∈ seen then k else twS (seen ++ [t]) r (k + 1)
theorem tw_hit {ws : List (List UInt8)} {k : Nat} {t : List UInt8} (h : ws[k]? = some t) (hm : t ∈ ws.take k) : twS (ws.take k) (ws.drop k) k = k := by
  obtain ⟨hk, rfl⟩ := List.getElem?_eq_some_iff.1 h
  rw [List.drop_eq_getElem_cons hk, twS, if_pos hm]
theorem tw_miss {ws : List (List UInt8)} {k : Nat} {t : List UInt8} (h : ws[k]? = some t) (hm : t ∉ ws.take k) : twS (ws.take k) (ws.drop k) k = twS (ws.take (k + 1)) (ws.drop (k + 1)) (k + 1) := by
  obtain ⟨hk, rfl⟩ := List.getElem?_eq_some_iff.1 h
  rw [List.drop_eq_getElem_cons hk, twS, if_neg hm, List.take_succ_eq_append_getElem hk]
theorem tw_end (ws : List (List UInt8)) : twS (ws.take ws.length) (ws.drop ws.length) ws.length = -1 := by
  rw [List.drop_length]; rfl

/-- What each text shares with the one ahead. -/
def shrS : List UInt8 → List (List UInt8) → List Int
  | _, [] => []
  | a, t :: r => (preL a t : Int) :: shrS t r
def shr (ws : List (List UInt8)) : List Int := shrS [] ws
theorem shrS_length : ∀ (a : List UInt8) (ws : List (List UInt8)), (shrS a ws).length = ws.length
  | _, [] => rfl
  | a, t :: r => by simp [shrS, shrS_length t r]
theorem shr_length (ws : List (List UInt8)) : (shr ws).length = ws.length := shrS_length _ _
theorem shrS_get : ∀ (a : List UInt8) (ws : List (List UInt8)) (j : Nat) {b c : List UInt8}, (a :: ws)[j]? = some b → ws[j]? = some c → (shrS a ws)[j]? = some (preL b c : Int)
  | a, t :: r, 0, b, c, h1, h2 => by simp at h1 h2; subst h1; subst h2; rfl
  | a, t :: r, j + 1, b, c, h1, h2 => by
    rw [List.getElem?_cons_succ] at h1 h2
    have := shrS_get t r j h1 h2
    simpa [shrS] using this
theorem shr_zero {ws : List (List UInt8)} (h : 0 < ws.length) : (shr ws)[0]? = some 0 := by
  obtain ⟨c, hc⟩ : ∃ c, ws[0]? = some c := ⟨ws[0], List.getElem?_eq_getElem h⟩
  have := shrS_get [] ws 0 (b := []) rfl hc
  rw [preL_nil] at this
  exact this
theorem shr_get {ws : List (List UInt8)} {j : Nat} {b c : List UInt8} (h1 : ws[j]? = some b) (h2 : ws[j + 1]? = some c) : (shr ws)[j + 1]? = some (preL b c : Int) :=
  shrS_get [] ws (j + 1) (by rw [List.getElem?_cons_succ]; exact h1) h2
end Go.Proofs.Ytgkpeehondmalaa
