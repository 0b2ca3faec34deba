/-
  Texts put together: Gen, AfM, PtM, TrM, TrG.
-/
import Derived.Lib.Builder
import Derived.Laws.IdiomStrings
import Derived.Lib.Bytealg
set_option linter.unusedSimpArgs false
set_option linter.unusedVariables false
namespace Go.Proofs.YtjmlabggocfikaaGreat
open Go.Lib

theorem bsize (l : List UInt8) : (⟨l.toArray⟩ : ByteArray).size = l.length := by simp [ByteArray.size]

theorem byteAt (d : List UInt8) (k : Nat) (h : k < d.length) (h' : k < (⟨d.toArray⟩ : ByteArray).size) : (⟨d.toArray⟩ : ByteArray)[k]'h' = d[k] := by
  show d.toArray[k] = d[k]
  simp

theorem full_of_pos (d : List UInt8) (h : 0 < d.length) : d.isEmpty = false := by
  cases d with
  | nil => simp at h
  | cons _ _ => rfl

def Int64s (l : List Int) : Prop := ∀ x ∈ l, -9223372036854775808 ≤ x ∧ x ≤ 9223372036854775807

theorem BuilderAt.below {T e : TypeId} {B b : Nat} {p : Value} {bs : List Value} {W W' : World} (h : Lib.BuilderAt T e B b p bs W) (hb : RowKit.Below W.heap.size W W') : Lib.BuilderAt T e B b p bs W' := by
  have hlt := h.lt
  obtain ⟨hB, v, hv, hown, hne⟩ := h
  exact ⟨hB, v, (hb.block b hlt).trans hv, hown.kept (row := none) ⟨hb.os, hb.tape, hb.output, hb.size, fun k hk _ => hb.block k hk⟩ (Classical.em _), hne⟩

theorem IsBuilder.below {T e : TypeId} {B b : Nat} {bs : List Value} {W W' : World} (h : Lib.IsBuilder T e B b bs W) (hb : RowKit.Below W.heap.size W W') : Lib.IsBuilder T e B b bs W' :=
  h.elim (fun x => .inl (BuilderAt.below x hb)) (fun x => .inr (BuilderAt.below x hb))

theorem IsBuilder.lt {T e : TypeId} {B b : Nat} {bs : List Value} {W : World} (h : Lib.IsBuilder T e B b bs W) : b < W.heap.size :=
  h.elim (fun x => x.lt) (fun x => x.lt)

theorem getD_at (l : List Int) (k : Nat) (h : k < l.length) : l.getD k 0 = l[k] := by simp [List.getD, h]

theorem getD_in (l : List Int) (k : Nat) (h : k < l.length) : l.getD k 0 ∈ l := by rw [getD_at l k h]; exact List.getElem_mem _

theorem take_snoc (l : List Int) (k : Nat) (h : k < l.length) : l.take (k + 1) = l.take k ++ [l.getD k 0] := by
  rw [List.take_succ_eq_append_getElem h, getD_at l k h]

/-- A slice of integers that came in: empty, or a row of 'cap' cells, the numbers 'zs' (the first 'len' are its elements). -/
def IsRow (k : IntKind) (w : World) (a : Option Addr) (len cap : Nat) (zs : List Int) : Prop :=
  len = 0 ∨ ∃ b off, a = some ⟨b, off, none⟩ ∧ len ≤ cap ∧ cap ≤ maxLen ∧ zs.length = cap ∧ (∀ i, i < cap → w.cell? ⟨b, off + i, none⟩ = some (.int k (zs.getD i 0)))

theorem IsRow.below {k : IntKind} {w w' : World} {a : Option Addr} {len cap : Nat} {zs : List Int} (h : IsRow k w a len cap zs) (hb : RowKit.Below w.heap.size w w') : IsRow k w' a len cap zs := by
  rcases h with h | ⟨b, off, ha, hl, hm, hz, hc⟩
  · exact .inl h
  · refine .inr ⟨b, off, ha, hl, hm, hz, fun i hi => ?_⟩
    have h1 := hc i hi
    rw [hb.cell (p := ⟨b, off + i, none⟩) (World.block_lt_of_cell? w _ h1)]
    exact h1

theorem heap_lt {w : World} {b : Nat} {o : Obj} (h : w.heap[b]? = some o) : b < w.heap.size := (Array.getElem?_eq_some_iff.1 h).1

theorem set_put {w : World} {b i : Nat} {cs : Array Value} {T : TypeId} (h : w.heap[b]? = some (.cells cs T (0, 0))) (u : Value) : (w.setCell ⟨b, i, none⟩ u).heap[b]? = some (.cells (cs.setIfInBounds i u) T (0, 0)) := by
  simp [World.setCell, Array.getElem?_modify, h]

theorem addPlain (b o j : Nat) : (⟨b, o, none⟩ : Addr).add j = ⟨b, o + j, none⟩ := by simp [Addr.add]

end Go.Proofs.YtjmlabggocfikaaGreat

namespace Go.Proofs.YtjmlabggocfikaaGreat
open Go.Lib

/-- With how many bytes two texts begin alike. -/
def preL : List UInt8 → List UInt8 → Nat
  | a :: x, b :: y => if a = b then preL x y + 1 else 0
  | _, _ => 0

theorem preL_nil (b : List UInt8) : preL [] b = 0 := by cases b <;> rfl
theorem preL_nil' (a : List UInt8) : preL a [] = 0 := by cases a <;> rfl
theorem preL_cons (a : UInt8) (x : List UInt8) (b : UInt8) (y : List UInt8) : preL (a :: x) (b :: y) = if a = b then preL x y + 1 else 0 := rfl

theorem preL_le : ∀ (a b : List UInt8), preL a b ≤ a.length ∧ preL a b ≤ b.length
  | [], b => by simp [preL_nil]
  | _ :: _, [] => by simp [preL_nil']
  | a :: x, b :: y => by
    have := preL_le x y
    rw [preL_cons]
    split <;> simp <;> omega

/-- So far they are alike, and no farther. -/
theorem preL_is : ∀ (a b : List UInt8) (n : Nat), n ≤ a.length → n ≤ b.length → (∀ i, i < n → a[i]? = b[i]?) → (n = a.length ∨ n = b.length ∨ a[n]? ≠ b[n]?) → preL a b = n
  | [], b, n, h1, _, _, _ => by simp at h1; rw [preL_nil, h1]
  | _ :: _, [], n, _, h2, _, _ => by simp at h2; rw [preL_nil', h2]
  | a :: x, b :: y, 0, _, _, _, h => by
    rw [preL_cons]
    by_cases e : a = b
    · subst e; simp at h
    · rw [if_neg e]
  | a :: x, b :: y, n + 1, h1, h2, h3, h4 => by
    have e : a = b := by simpa using h3 0 (by omega)
    subst e
    rw [preL_cons, if_pos rfl, preL_is x y n (by simpa using h1) (by simpa using h2) (fun i hi => by simpa using h3 (i + 1) (by omega)) (by simpa using h4)]

theorem preL_whole : ∀ (a b : List UInt8), (preL a b = b.length) ↔ b <+: a
  | a, [] => by simp [preL_nil']
  | [], b :: y => by simp [preL_nil]
  | a :: x, b :: y => by
    rw [preL_cons, List.cons_prefix_cons]
    by_cases e : a = b
    · subst e; simp [preL_whole x y]
    · have e' : ¬ b = a := fun h => e h.symm
      simp [e, e']

theorem preL_self (a : List UInt8) : preL a a = a.length := (preL_whole a a).2 (List.prefix_refl a)

/-- With how many bytes two texts end alike. -/
def sufL (a b : List UInt8) : Nat := preL a.reverse b.reverse
theorem sufL_le (a b : List UInt8) : sufL a b ≤ a.length ∧ sufL a b ≤ b.length := by
  have := preL_le a.reverse b.reverse
  simpa [sufL] using this
theorem sufL_whole (a b : List UInt8) : (sufL a b = b.length) ↔ b <:+ a := by
  have := preL_whole a.reverse b.reverse
  simpa [sufL, List.reverse_prefix] using this
theorem sufL_is (a b : List UInt8) (n : Nat) (h1 : n ≤ a.length) (h2 : n ≤ b.length) (h3 : ∀ i, i < n → a[a.length - 1 - i]? = b[b.length - 1 - i]?)
    (h4 : n = a.length ∨ n = b.length ∨ a[a.length - 1 - n]? ≠ b[b.length - 1 - n]?) : sufL a b = n := by
  refine preL_is a.reverse b.reverse n (by simpa using h1) (by simpa using h2) (fun i hi => ?_) ?_
  · rw [List.getElem?_reverse (by omega), List.getElem?_reverse (by omega)]
    exact h3 i hi
  · by_cases ha : n = a.length
    · exact .inl (by simpa using ha)
    · by_cases hb : n = b.length
      · exact .inr (.inl (by simpa using hb))
      · refine .inr (.inr ?_)
        rw [List.getElem?_reverse (by omega), List.getElem?_reverse (by omega)]
        rcases h4 with h4 | h4 | h4
        · exact absurd h4 ha
        · exact absurd h4 hb
        · exact h4

/-- The order, as the model says it. -/
theorem less_eq : ∀ (x y : List UInt8), Op.bytesLess x y = decide (x < y)
  | [], [] => by simp [Op.bytesLess]
  | _ :: _, [] => by simp [Op.bytesLess]
  | [], _ :: _ => by simp [Op.bytesLess]
  | a :: x, b :: y => by
    rw [Op.bytesLess, less_eq x y]
    simp only [List.cons_lt_cons_iff]
    by_cases h1 : a < b <;> by_cases h2 : a = b <;> by_cases h3 : x < y <;> simp [h1, h2, h3]

theorem cmp_cases : ∀ (x y : List UInt8), (x < y ∧ compareBytes x y = -1) ∨ (x = y ∧ compareBytes x y = 0) ∨ (y < x ∧ compareBytes x y = 1)
  | [], [] => by simp [compareBytes]
  | [], _ :: _ => by simp [compareBytes]
  | _ :: _, [] => by simp [compareBytes]
  | a :: x, b :: y => by
    unfold compareBytes
    by_cases h1 : a < b
    · simp [List.cons_lt_cons_iff, h1]
    · by_cases h2 : b < a
      · simp [List.cons_lt_cons_iff, h1, h2]
      · have e : a = b := UInt8.le_antisymm (UInt8.not_lt.1 h2) (UInt8.not_lt.1 h1)
        subst e
        have := cmp_cases x y
        simpa [List.cons_lt_cons_iff, h1] using this

theorem cmp_neg (x y : List UInt8) : compareBytes x y < 0 ↔ x < y := by
  rcases cmp_cases x y with ⟨h, e⟩ | ⟨h, e⟩ | ⟨h, e⟩
  · simp [h, e]
  · subst h; simp [e, List.lt_irrefl]
  · simp [e]; exact fun h' => List.lt_irrefl x (List.lt_trans h' h)
theorem cmp_zero (x y : List UInt8) : compareBytes x y = 0 ↔ x = y := by
  rcases cmp_cases x y with ⟨h, e⟩ | ⟨h, e⟩ | ⟨h, e⟩
  · rw [e]; simp; intro h'; subst h'; exact List.lt_irrefl x h
  · exact ⟨fun _ => h, fun _ => e⟩
  · rw [e]; simp; intro h'; subst h'; exact List.lt_irrefl x h
theorem cmp_swap (x y : List UInt8) : compareBytes y x = - compareBytes x y := by
  rcases cmp_cases x y with ⟨h, e⟩ | ⟨h, e⟩ | ⟨h, e⟩ <;> rcases cmp_cases y x with ⟨h', e'⟩ | ⟨h', e'⟩ | ⟨h', e'⟩ <;> rw [e, e'] <;> try rfl
  · exact absurd (List.lt_trans h h') (List.lt_irrefl x)
  · subst h'; exact absurd h (List.lt_irrefl _)
  · subst h; exact absurd h' (List.lt_irrefl _)
  · subst h; exact absurd h' (List.lt_irrefl _)
  · subst h'; exact absurd h (List.lt_irrefl _)
  · exact absurd (List.lt_trans h h') (List.lt_irrefl _)
theorem cmp_le (x y : List UInt8) : compareBytes x y ≤ 0 ↔ x ≤ y := by
  rw [← List.not_lt, ← cmp_neg y x, cmp_swap x y]; omega
theorem cmp_trans (x y z : List UInt8) (h1 : compareBytes x y ≤ 0) (h2 : compareBytes y z ≤ 0) : compareBytes x z ≤ 0 := by
  rw [cmp_le] at *; exact List.le_trans h1 h2

/-- Between two texts none shares less with the second one than they do. -/
theorem pre_mid : ∀ (a b d : List UInt8), compareBytes a b ≤ 0 → compareBytes b d ≤ 0 → preL a d ≤ preL a b ∧ preL a d ≤ preL b d
  | [], b, d, _, _ => by simp [preL_nil]
  | x :: a, b, [], _, _ => by simp [preL_nil']
  | x :: a, [], z :: d, h, _ => by simp [compareBytes] at h
  | x :: a, y :: b, z :: d, h1, h2 => by
    rw [preL_cons]
    by_cases e : x = z
    · subst e
      rw [if_pos rfl]
      unfold compareBytes at h1 h2
      by_cases hxy : x < y
      · have hyx : ¬ y < x := UInt8.lt_asymm hxy
        rw [if_neg hyx, if_pos hxy] at h2
        omega
      · rw [if_neg hxy] at h1
        by_cases hyx : y < x
        · rw [if_pos hyx] at h1; omega
        · have e : x = y := UInt8.le_antisymm (UInt8.not_lt.1 hyx) (UInt8.not_lt.1 hxy)
          subst e
          rw [if_neg hyx] at h1
          rw [if_neg hyx, if_neg hyx] at h2
          have := pre_mid a b d h1 h2
          rw [preL_cons, preL_cons, if_pos rfl, if_pos rfl]
          omega
    · rw [if_neg e]
      omega

/-- Texts in order. -/
def Asc (ws : List (List UInt8)) : Prop := ws.Pairwise fun x y => compareBytes x y ≤ 0

theorem Asc.at {ws : List (List UInt8)} (h : Asc ws) {i j : Nat} {a b : List UInt8} (hij : i ≤ j) (ha : ws[i]? = some a) (hb : ws[j]? = some b) : compareBytes a b ≤ 0 := by
  obtain ⟨hi, rfl⟩ := List.getElem?_eq_some_iff.1 ha
  obtain ⟨hj, rfl⟩ := List.getElem?_eq_some_iff.1 hb
  rcases Nat.lt_or_ge i j with h' | h'
  · exact List.pairwise_iff_getElem.1 h i j hi hj h'
  · have : i = j := by omega
    subst this
    rw [(cmp_zero _ _).2 rfl]; omega

/-- Of texts in order two share no more than each two neighbours between them. -/
theorem Asc.share {ws : List (List UInt8)} (h : Asc ws) {i j k : Nat} {a b c d : List UInt8} (hij : i ≤ j) (hjk : j + 1 ≤ k) (ha : ws[i]? = some a) (hb : ws[j]? = some b) (hc : ws[j + 1]? = some c) (hd : ws[k]? = some d) :
    preL a d ≤ preL b c :=
  Nat.le_trans (pre_mid a b d (h.at hij ha hb) (h.at (by omega) hb hd)).2 (pre_mid b c d (h.at (by omega) hb hc) (h.at hjk hc hd)).1

/-- The texts, in order. -/
def srt (ws : List (List UInt8)) : List (List UInt8) := ws.mergeSort fun x y => decide (x ≤ y)
theorem srt_perm (ws : List (List UInt8)) : (srt ws).Perm ws := List.mergeSort_perm ws _
theorem srt_length (ws : List (List UInt8)) : (srt ws).length = ws.length := (srt_perm ws).length_eq
theorem srt_asc (ws : List (List UInt8)) : Asc (srt ws) := by
  have h := List.pairwise_mergeSort (le := fun (x y : List UInt8) => decide (x ≤ y)) (fun a b c h1 h2 => by simp only [decide_eq_true_eq] at *; exact List.le_trans h1 h2)
    (fun a b => by simp only [Bool.or_eq_true, decide_eq_true_eq]; exact List.le_total a b) ws
  exact h.imp fun {a b} hab => (cmp_le a b).2 (by simpa using hab)
theorem asc_unique {l m : List (List UInt8)} (hl : Asc l) (hm : Asc m) (hp : l.Perm m) : l = m :=
  List.Perm.eq_of_pairwise (le := fun x y => compareBytes x y ≤ 0) (fun a b _ _ h1 h2 => by
    rw [cmp_swap a b] at h2
    exact (cmp_zero a b).1 (by omega)) hl hm hp

/-- One more, put where it belongs. -/
def posS (out : List (List UInt8)) (x : List UInt8) : Nat → Nat
  | 0 => 0
  | k + 1 => match out[k]? with
    | some t => if Op.bytesLess x t then posS out x k else k + 1
    | none => k + 1
def insS (out : List (List UInt8)) (x : List UInt8) : List (List UInt8) := out.take (posS out x out.length) ++ ([x] ++ out.drop (posS out x out.length))
theorem posS_le (out : List (List UInt8)) (x : List UInt8) : ∀ k, posS out x k ≤ k
  | 0 => Nat.le_refl _
  | k + 1 => by
    unfold posS
    have := posS_le out x k
    split
    · split <;> omega
    · omega
theorem posS_hit {out : List (List UInt8)} {x t : List UInt8} {k : Nat} (h : out[k]? = some t) (hl : Op.bytesLess x t = true) : posS out x (k + 1) = posS out x k := by
  rw [posS, h]; simp [hl]
theorem posS_miss {out : List (List UInt8)} {x t : List UInt8} {k : Nat} (h : out[k]? = some t) (hl : Op.bytesLess x t = false) : posS out x (k + 1) = k + 1 := by
  rw [posS, h]; simp [hl]

theorem insS_perm (out : List (List UInt8)) (x : List UInt8) : (insS out x).Perm (x :: out) := by
  unfold insS
  rw [List.singleton_append]
  refine List.perm_middle.trans ?_
  rw [List.take_append_drop]

theorem posS_spec (out : List (List UInt8)) (x : List UInt8) : ∀ k, k ≤ out.length → (∀ t, posS out x k ≠ 0 → out[posS out x k - 1]? = some t → compareBytes t x ≤ 0) ∧ (∀ i t, posS out x k ≤ i → i < k → out[i]? = some t → compareBytes x t ≤ 0)
  | 0, _ => by refine ⟨fun t h => absurd rfl h, fun i t _ h => by omega⟩
  | k + 1, hk => by
    have hlt : k < out.length := by omega
    have he : out[k]? = some out[k] := List.getElem?_eq_getElem hlt
    cases hl : Op.bytesLess x out[k] with
    | true =>
      rw [posS_hit he hl]
      have ih := posS_spec out x k (by omega)
      refine ⟨ih.1, fun i t h1 h2 h3 => ?_⟩
      by_cases hi : i < k
      · exact ih.2 i t h1 hi h3
      · have : i = k := by omega
        subst this
        rw [he] at h3
        obtain rfl := Option.some.inj h3
        rw [less_eq] at hl
        have := (cmp_neg x out[i]).2 (by simpa using hl)
        omega
    | false =>
      rw [posS_miss he hl]
      refine ⟨fun t _ h => ?_, fun i t h1 h2 => by omega⟩
      rw [Nat.add_sub_cancel, he] at h
      obtain rfl := Option.some.inj h
      rw [less_eq] at hl
      exact (cmp_le _ _).2 (List.not_lt.1 (by simpa using hl))

theorem insS_asc {out : List (List UInt8)} (h : Asc out) (x : List UInt8) : Asc (insS out x) := by
  have hp := posS_le out x out.length
  have hs := posS_spec out x out.length (Nat.le_refl _)
  unfold insS
  generalize posS out x out.length = p at *
  have hbef : ∀ a ∈ out.take p, compareBytes a x ≤ 0 := fun a ha => by
    obtain ⟨i, hi, rfl⟩ := List.getElem_of_mem ha
    have hi' : i < p ∧ i < out.length := by rw [List.length_take] at hi; omega
    rw [List.getElem_take]
    have h1 := h.at (i := i) (j := p - 1) (by omega) (List.getElem?_eq_getElem hi'.2) (List.getElem?_eq_getElem (by omega))
    exact cmp_trans _ _ _ h1 (hs.1 _ (by omega) (List.getElem?_eq_getElem (by omega)))
  have haft : ∀ b ∈ out.drop p, compareBytes x b ≤ 0 := fun b hb => by
    obtain ⟨i, hi, rfl⟩ := List.getElem_of_mem hb
    rw [List.length_drop] at hi
    rw [List.getElem_drop]
    exact hs.2 (p + i) _ (by omega) (by omega) (List.getElem?_eq_getElem (by omega))
  unfold Asc
  rw [List.pairwise_append]
  refine ⟨h.sublist (List.take_sublist _ _), ?_, fun a ha b hb => ?_⟩
  · rw [List.singleton_append, List.pairwise_cons]
    exact ⟨haft, h.sublist (List.drop_sublist _ _)⟩
  · rw [List.singleton_append, List.mem_cons] at hb
    rcases hb with rfl | hb
    · exact hbef a ha
    · exact cmp_trans _ _ _ (hbef a ha) (haft b hb)

theorem ins_all : ∀ (ws out : List (List UInt8)), Asc out → Asc (ws.foldl insS out) ∧ (ws.foldl insS out).Perm (ws ++ out)
  | [], out, h => ⟨h, List.Perm.refl _⟩
  | x :: r, out, h => by
    have ih := ins_all r (insS out x) (insS_asc h x)
    refine ⟨ih.1, ih.2.trans ?_⟩
    refine (List.Perm.append_left r (insS_perm out x)).trans ?_
    exact List.perm_middle
theorem ins_srt (ws : List (List UInt8)) : ws.foldl insS [] = srt ws := by
  have h := ins_all ws [] List.Pairwise.nil
  rw [List.append_nil] at h
  exact asc_unique h.1 (srt_asc ws) (h.2.trans (srt_perm ws).symm)

/-- How many of texts come ahead of one. -/
def ahdS (s : List UInt8) (ws : List (List UInt8)) : Nat := ws.countP fun x => decide (compareBytes x s < 0)
theorem ahd_snoc {ws : List (List UInt8)} {k : Nat} {t : List UInt8} (s : List UInt8) (h : ws[k]? = some t) : ahdS s (ws.take (k + 1)) = ahdS s (ws.take k) + (if Op.bytesLess t s then 1 else 0) := by
  obtain ⟨hk, rfl⟩ := List.getElem?_eq_some_iff.1 h
  unfold ahdS
  rw [List.take_succ_eq_append_getElem hk, List.countP_append, List.countP_singleton, less_eq]
  simp only [cmp_neg, decide_eq_true_eq]
theorem ahd_le (s : List UInt8) (ws : List (List UInt8)) : ahdS s ws ≤ ws.length := List.countP_le_length
theorem mem_snoc {ws : List (List UInt8)} {k : Nat} {t : List UInt8} (s : List UInt8) (h : ws[k]? = some t) : decide (s ∈ ws.take (k + 1)) = (decide (s ∈ ws.take k) || (t == s)) := by
  obtain ⟨hk, rfl⟩ := List.getElem?_eq_some_iff.1 h
  rw [List.take_succ_eq_append_getElem hk]
  have e : ∀ a b : List UInt8, (a == b) = decide (b = a) := fun a b => by
    rw [Bool.eq_iff_iff]; simp; exact eq_comm
  rw [e, Bool.eq_iff_iff]
  simp only [List.mem_append, List.mem_singleton, decide_eq_true_eq, Bool.or_eq_true]

/-- What a search tells of texts in order. -/
theorem find_there {s : List UInt8} : ∀ {ws : List (List UInt8)}, Asc ws → (decide (ahdS s ws < ws.length) && decide (compareBytes (ws[ahdS s ws]?.getD []) s = 0)) = decide (s ∈ ws)
  | [], _ => by simp [ahdS]
  | x :: r, h => by
    have hr : Asc r := (List.pairwise_cons.1 h).2
    have hx := (List.pairwise_cons.1 h).1
    by_cases hlt : compareBytes x s < 0
    · have e : ahdS s (x :: r) = ahdS s r + 1 := by
        unfold ahdS; rw [List.countP_cons_of_pos (by simpa using hlt)]
      rw [e]
      have ih := find_there (s := s) hr
      have hne : s ≠ x := fun he => by subst he; rw [(cmp_zero s s).2 rfl] at hlt; omega
      simpa [hne] using ih
    · have e : ahdS s (x :: r) = 0 := by
        unfold ahdS
        rw [List.countP_eq_zero]
        intro y hy
        simp only [decide_eq_true_eq]
        rw [List.mem_cons] at hy
        rcases hy with rfl | hy
        · exact hlt
        · have h1 := hx y hy
          intro h2
          have := cmp_trans _ _ _ h1 (Int.le_of_lt h2)
          have h3 : compareBytes x s = 0 := by omega
          have h4 := (cmp_zero x s).1 h3
          subst h4
          have h5 : compareBytes x y = 0 := by rw [cmp_swap x y] at h2; omega
          have h6 := (cmp_zero x y).1 h5
          subst h6
          omega
      rw [e]
      by_cases hs : compareBytes x s = 0
      · have := (cmp_zero x s).1 hs
        subst this
        simp [hs]
      · have hne : s ≠ x := fun he => by subst he; exact hs ((cmp_zero s s).2 rfl)
        have hnr : s ∉ r := fun hm => by have := hx s hm; omega
        simp [hs, hne, hnr]

theorem ahd_mono {s : List UInt8} {ws : List (List UInt8)} (h : Asc ws) {i j : Nat} {a b : List UInt8} (hij : i ≤ j) (ha : ws[i]? = some a) (hb : ws[j]? = some b) (hlt : compareBytes b s < 0) : compareBytes a s < 0 := by
  have h1 := h.at hij ha hb
  have h2 := cmp_trans _ _ _ h1 (Int.le_of_lt hlt)
  rcases Int.lt_or_eq_of_le h2 with h3 | h3
  · exact h3
  · have := (cmp_zero a s).1 h3
    subst this
    rw [cmp_swap b a] at h1
    omega

/-- The place of the first text that is there again. -/
def twS (seen : List (List UInt8)) : List (List UInt8) → Nat → Int
  | [], _ => -1
  | t :: r, k => if t ∈ seen then k else twS (seen ++ [t]) r (k + 1)
theorem tw_hit {ws : List (List UInt8)} {k : Nat} {t : List UInt8} (h : ws[k]? = some t) (hm : t ∈ ws.take k) : twS (ws.take k) (ws.drop k) k = k := by
  obtain ⟨hk, rfl⟩ := List.getElem?_eq_some_iff.1 h
  rw [List.drop_eq_getElem_cons hk, twS, if_pos hm]
theorem tw_miss {ws : List (List UInt8)} {k : Nat} {t : List UInt8} (h : ws[k]? = some t) (hm : t ∉ ws.take k) : twS (ws.take k) (ws.drop k) k = twS (ws.take (k + 1)) (ws.drop (k + 1)) (k + 1) := by
  obtain ⟨hk, rfl⟩ := List.getElem?_eq_some_iff.1 h
  rw [List.drop_eq_getElem_cons hk, twS, if_neg hm, List.take_succ_eq_append_getElem hk]
theorem tw_end (ws : List (List UInt8)) : twS (ws.take ws.length) (ws.drop ws.length) ws.length = -1 := by
  rw [List.drop_length]; rfl

/-- What each text shares with the one ahead. -/
def shrS : List UInt8 → List (List UInt8) → List Int
  | _, [] => []
  | a, t :: r => (preL a t : Int) :: shrS t r
def shr (ws : List (List UInt8)) : List Int := shrS [] ws
theorem shrS_length : ∀ (a : List UInt8) (ws : List (List UInt8)), (shrS a ws).length = ws.length
  | _, [] => rfl
  | a, t :: r => by simp [shrS, shrS_length t r]
theorem shr_length (ws : List (List UInt8)) : (shr ws).length = ws.length := shrS_length _ _
theorem shrS_get : ∀ (a : List UInt8) (ws : List (List UInt8)) (j : Nat) {b c : List UInt8}, (a :: ws)[j]? = some b → ws[j]? = some c → (shrS a ws)[j]? = some (preL b c : Int)
  | a, t :: r, 0, b, c, h1, h2 => by simp at h1 h2; subst h1; subst h2; rfl
  | a, t :: r, j + 1, b, c, h1, h2 => by
    rw [List.getElem?_cons_succ] at h1 h2
    have := shrS_get t r j h1 h2
    simpa [shrS] using this
theorem shr_zero {ws : List (List UInt8)} (h : 0 < ws.length) : (shr ws)[0]? = some 0 := by
  obtain ⟨c, hc⟩ : ∃ c, ws[0]? = some c := ⟨ws[0], List.getElem?_eq_getElem h⟩
  have := shrS_get [] ws 0 (b := []) rfl hc
  rw [preL_nil] at this
  exact this
theorem shr_get {ws : List (List UInt8)} {j : Nat} {b c : List UInt8} (h1 : ws[j]? = some b) (h2 : ws[j + 1]? = some c) : (shr ws)[j + 1]? = some (preL b c : Int) :=
  shrS_get [] ws (j + 1) (by rw [List.getElem?_cons_succ]; exact h1) h2
end Go.Proofs.YtjmlabggocfikaaGreat

namespace Go.Proofs.YtjmlabggocfikaaGreat

/-- How long the shortest, the longest one is, and all together. -/
def leastL (ws : List (List UInt8)) : Nat := ws.foldl (fun n t => min n t.length) 65535
def mostL (ws : List (List UInt8)) : Nat := ws.foldl (fun n t => max n t.length) 0
def totalL (ws : List (List UInt8)) : Nat := ws.foldl (fun n t => n + t.length) 0

theorem foldl_snoc {β : Type} {ws : List (List UInt8)} {k : Nat} {t : List UInt8} (f : β → List UInt8 → β) (z : β) (h : ws[k]? = some t) : (ws.take (k + 1)).foldl f z = f ((ws.take k).foldl f z) t := by
  obtain ⟨hk, rfl⟩ := List.getElem?_eq_some_iff.1 h
  rw [List.take_succ_eq_append_getElem hk, List.foldl_append]; rfl
theorem least_snoc {ws : List (List UInt8)} {k : Nat} {t : List UInt8} (h : ws[k]? = some t) : leastL (ws.take (k + 1)) = min (leastL (ws.take k)) t.length := foldl_snoc _ _ h
theorem most_snoc {ws : List (List UInt8)} {k : Nat} {t : List UInt8} (h : ws[k]? = some t) : mostL (ws.take (k + 1)) = max (mostL (ws.take k)) t.length := foldl_snoc _ _ h
theorem total_snoc {ws : List (List UInt8)} {k : Nat} {t : List UInt8} (h : ws[k]? = some t) : totalL (ws.take (k + 1)) = totalL (ws.take k) + t.length := foldl_snoc _ _ h

theorem least_le (ws : List (List UInt8)) : leastL ws ≤ 65535 := by
  suffices h : ∀ (ws : List (List UInt8)) (n : Nat), ws.foldl (fun n t => min n t.length) n ≤ n from h ws 65535
  intro ws
  induction ws with
  | nil => intro n; exact Nat.le_refl _
  | cons t r ih => intro n; exact Nat.le_trans (ih _) (Nat.min_le_left _ _)
theorem most_le {ws : List (List UInt8)} {m : Nat} (h : ∀ t ∈ ws, t.length ≤ m) : mostL ws ≤ m := by
  suffices g : ∀ (ws : List (List UInt8)) (n : Nat), n ≤ m → (∀ t ∈ ws, t.length ≤ m) → ws.foldl (fun n t => max n t.length) n ≤ m from g ws 0 (Nat.zero_le _) h
  intro ws
  induction ws with
  | nil => intro n hn _; exact hn
  | cons t r ih => intro n hn ht; exact ih _ (Nat.max_le.2 ⟨hn, ht t List.mem_cons_self⟩) (fun u hu => ht u (List.mem_cons_of_mem _ hu))
theorem foldl_total (ws : List (List UInt8)) : ∀ n : Nat, ws.foldl (fun n t => n + t.length) n = n + totalL ws := by
  unfold totalL
  induction ws with
  | nil => intro n; rfl
  | cons t r ih => intro n; rw [List.foldl_cons, List.foldl_cons, ih, ih (0 + t.length)]; omega
theorem total_cons (t : List UInt8) (r : List (List UInt8)) : totalL (t :: r) = t.length + totalL r := by
  show r.foldl (fun n t => n + t.length) (0 + t.length) = _
  rw [foldl_total, Nat.zero_add]
theorem total_append (ws us : List (List UInt8)) : totalL (ws ++ us) = totalL ws + totalL us := by
  unfold totalL
  rw [List.foldl_append]
  exact foldl_total us _
theorem total_take_le (ws : List (List UInt8)) (k : Nat) : totalL (ws.take k) ≤ totalL ws := by
  have := total_append (ws.take k) (ws.drop k)
  rw [List.take_append_drop] at this
  omega
theorem total_perm {ws us : List (List UInt8)} (h : ws.Perm us) : totalL ws = totalL us := by
  induction h with
  | nil => rfl
  | cons t _ ih => rw [total_cons, total_cons, ih]
  | swap a b r => rw [total_cons, total_cons, total_cons, total_cons]; omega
  | trans _ _ i1 i2 => exact i1.trans i2
theorem total_le {ws : List (List UInt8)} {m : Nat} (h : ∀ t ∈ ws, t.length ≤ m) : totalL ws ≤ ws.length * m := by
  induction ws with
  | nil => simp [totalL]
  | cons t r ih =>
    rw [total_cons, List.length_cons, Nat.succ_mul]
    have := ih (fun u hu => h u (List.mem_cons_of_mem _ hu))
    have := h t List.mem_cons_self
    omega

/-- The first one that is no pattern: why. -/
def badS : List (List UInt8) → Option Int
  | [] => none
  | t :: r => if t.length = 0 then some 7 else if 65535 < t.length then some 5 else badS r
theorem bad_append : ∀ (a b : List (List UInt8)), badS (a ++ b) = (badS a).or (badS b)
  | [], b => by simp [badS]
  | t :: r, b => by
    rw [List.cons_append, badS, badS]
    split
    · rfl
    · split
      · rfl
      · exact bad_append r b
theorem bad_zero {ws : List (List UInt8)} {k : Nat} {t : List UInt8} (hn : badS (ws.take k) = none) (h : ws[k]? = some t) (h0 : t.length = 0) : badS ws = some 7 := by
  obtain ⟨hk, rfl⟩ := List.getElem?_eq_some_iff.1 h
  rw [← List.take_append_drop k ws, bad_append, hn, List.drop_eq_getElem_cons hk, badS, if_pos h0]; rfl
theorem bad_long {ws : List (List UInt8)} {k : Nat} {t : List UInt8} (hn : badS (ws.take k) = none) (h : ws[k]? = some t) (h0 : 65535 < t.length) : badS ws = some 5 := by
  obtain ⟨hk, rfl⟩ := List.getElem?_eq_some_iff.1 h
  rw [← List.take_append_drop k ws, bad_append, hn, List.drop_eq_getElem_cons hk, badS, if_neg (by omega), if_pos h0]; rfl
theorem bad_snoc {ws : List (List UInt8)} {k : Nat} {t : List UInt8} (hn : badS (ws.take k) = none) (h : ws[k]? = some t) (h0 : ¬ t.length = 0) (h1 : ¬ 65535 < t.length) : badS (ws.take (k + 1)) = none := by
  obtain ⟨hk, rfl⟩ := List.getElem?_eq_some_iff.1 h
  rw [List.take_succ_eq_append_getElem hk, bad_append, hn, badS, if_neg h0, if_neg h1]; rfl
theorem bad_none : ∀ (ws : List (List UInt8)), badS ws = none ↔ ∀ t ∈ ws, 1 ≤ t.length ∧ t.length ≤ 65535
  | [] => by simp [badS]
  | t :: r => by
    rw [badS]
    have ih := bad_none r
    by_cases h0 : t.length = 0
    · rw [if_pos h0]
      simp only [reduceCtorEq, List.mem_cons, forall_eq_or_imp, false_iff]
      intro h; omega
    · by_cases h1 : 65535 < t.length
      · rw [if_neg h0, if_pos h1]
        simp only [reduceCtorEq, List.mem_cons, forall_eq_or_imp, false_iff]
        intro h; omega
      · rw [if_neg h0, if_neg h1, ih]
        simp only [List.mem_cons, forall_eq_or_imp]
        exact ⟨fun h => ⟨⟨by omega, by omega⟩, h⟩, fun h => h.2⟩

/-- Why texts are no set; 0: they are one. -/
def faultL (ws : List (List UInt8)) : Int :=
  if ws.length = 0 then 14 else if 65535 < ws.length then 6 else match badS ws with
    | some e => e
    | none => if 16777216 < totalL ws then 13 else if 0 ≤ twS [] ws 0 then 8 else 0

theorem fault_none {ws : List (List UInt8)} (h : ws.length = 0) : faultL ws = 14 := by unfold faultL; rw [if_pos h]
theorem fault_many {ws : List (List UInt8)} (h : 65535 < ws.length) : faultL ws = 6 := by unfold faultL; rw [if_neg (by omega), if_pos h]
theorem fault_bad {ws : List (List UInt8)} {e : Int} (h0 : ¬ ws.length = 0) (h1 : ¬ 65535 < ws.length) (h : badS ws = some e) : faultL ws = e := by unfold faultL; rw [if_neg h0, if_neg h1, h]
theorem fault_full {ws : List (List UInt8)} (h0 : ¬ ws.length = 0) (h1 : ¬ 65535 < ws.length) (h : badS ws = none) (h2 : 16777216 < totalL ws) : faultL ws = 13 := by unfold faultL; rw [if_neg h0, if_neg h1, h]; exact if_pos h2
theorem fault_twice {ws : List (List UInt8)} (h0 : ¬ ws.length = 0) (h1 : ¬ 65535 < ws.length) (h : badS ws = none) (h2 : ¬ 16777216 < totalL ws) (h3 : 0 ≤ twS [] ws 0) : faultL ws = 8 := by
  unfold faultL; rw [if_neg h0, if_neg h1, h]; exact (if_neg h2).trans (if_pos h3)
theorem fault_good {ws : List (List UInt8)} (h0 : ¬ ws.length = 0) (h1 : ¬ 65535 < ws.length) (h : badS ws = none) (h2 : ¬ 16777216 < totalL ws) (h3 : ¬ 0 ≤ twS [] ws 0) : faultL ws = 0 := by
  unfold faultL; rw [if_neg h0, if_neg h1, h]; exact (if_neg h2).trans (if_neg h3)

theorem tw_nodup : ∀ (ws seen : List (List UInt8)) (k : Nat), 0 ≤ twS seen ws k ↔ ¬ (ws.Nodup ∧ ∀ t ∈ ws, t ∉ seen)
  | [], seen, k => by simp [twS]
  | t :: r, seen, k => by
    rw [twS]
    by_cases h : t ∈ seen
    · rw [if_pos h]
      refine ⟨fun _ hh => hh.2 t List.mem_cons_self h, fun _ => by omega⟩
    · rw [if_neg h, tw_nodup r (seen ++ [t]) (k + 1)]
      refine not_congr ⟨fun ⟨h1, h2⟩ => ⟨List.nodup_cons.2 ⟨fun hm => ?_, h1⟩, fun u hu => ?_⟩, fun ⟨h1, h2⟩ => ⟨(List.nodup_cons.1 h1).2, fun u hu hs => ?_⟩⟩
      · exact h2 t hm (List.mem_append_right _ (List.mem_singleton.2 rfl))
      · rcases List.mem_cons.1 hu with rfl | hu
        · exact h
        · exact fun hs => h2 u hu (List.mem_append_left _ hs)
      · rcases List.mem_append.1 hs with hs | hs
        · exact h2 u (List.mem_cons_of_mem _ hu) hs
        · rw [List.mem_singleton] at hs
          subst hs
          exact (List.nodup_cons.1 h1).1 hu

/-- Texts that are a set. -/
structure Pats (ws : List (List UInt8)) : Prop where
  some : 1 ≤ ws.length
  few : ws.length ≤ 65535
  each : ∀ t ∈ ws, 1 ≤ t.length ∧ t.length ≤ 65535
  total : totalL ws ≤ 16777216
  once : ws.Nodup

theorem fault_zero (ws : List (List UInt8)) : faultL ws = 0 ↔ Pats ws := by
  by_cases h0 : ws.length = 0
  · rw [fault_none h0]
    exact ⟨fun h => absurd h (by decide), fun h => by have := h.some; omega⟩
  · by_cases h1 : 65535 < ws.length
    · rw [fault_many h1]
      exact ⟨fun h => absurd h (by decide), fun h => by have := h.few; omega⟩
    · cases hb : badS ws with
      | some e =>
        rw [fault_bad h0 h1 hb]
        have hn : ¬ badS ws = none := by rw [hb]; simp
        have he : e = 7 ∨ e = 5 := by
          clear hn h0 h1
          induction ws with
          | nil => simp [badS] at hb
          | cons t r ih =>
            rw [badS] at hb
            split at hb
            · simp at hb; exact .inl hb.symm
            · split at hb
              · simp at hb; exact .inr hb.symm
              · exact ih hb
        refine ⟨fun h => by omega, fun h => absurd ((bad_none ws).2 h.each) hn⟩
      | none =>
        by_cases h2 : 16777216 < totalL ws
        · rw [fault_full h0 h1 hb h2]
          exact ⟨fun h => absurd h (by decide), fun h => by have := h.total; omega⟩
        · have htw := tw_nodup ws [] 0
          by_cases h3 : 0 ≤ twS [] ws 0
          · rw [fault_twice h0 h1 hb h2 h3]
            exact ⟨fun h => absurd h (by decide), fun h => absurd ⟨h.once, by simp⟩ (htw.1 h3)⟩
          · rw [fault_good h0 h1 hb h2 h3]
            have hn : ws.Nodup := Classical.byContradiction fun hh => h3 (htw.2 (fun hx => hh hx.1))
            exact ⟨fun _ => ⟨by omega, by omega, (bad_none ws).1 hb, by omega, hn⟩, fun _ => rfl⟩

theorem Pats.perm {ws us : List (List UInt8)} (h : Pats ws) (hp : ws.Perm us) : Pats us :=
  ⟨by rw [← hp.length_eq]; exact h.some, by rw [← hp.length_eq]; exact h.few, fun t ht => h.each t (hp.mem_iff.2 ht), by rw [← total_perm hp]; exact h.total, hp.nodup_iff.1 h.once⟩
theorem Pats.srt {ws : List (List UInt8)} (h : Pats ws) : Pats (srt ws) := h.perm (srt_perm ws).symm
theorem srt_of_perm {ws us : List (List UInt8)} (h : ws.Perm us) : srt ws = srt us := asc_unique (srt_asc ws) (srt_asc us) ((srt_perm ws).trans (h.trans (srt_perm us).symm))
theorem srt_srt (ws : List (List UInt8)) : srt (srt ws) = srt ws := srt_of_perm (srt_perm ws)

/-- The place of a text in texts in order; -1: none. -/
def fndP (s : List UInt8) (ws : List (List UInt8)) : Int := if s ∈ ws then (ahdS s ws : Int) else -1

theorem ahd_at {s : List UInt8} {ws : List (List UInt8)} (ha : Asc ws) (hm : s ∈ ws) : ws[ahdS s ws]? = some s := by
  have h := find_there (s := s) ha
  rw [decide_eq_true hm, Bool.and_eq_true, decide_eq_true_eq, decide_eq_true_eq] at h
  have h1 := (cmp_zero _ _).1 h.2
  rw [List.getElem?_eq_getElem h.1] at h1 ⊢
  simp only [Option.getD_some] at h1
  rw [h1]
theorem ahd_is {s : List UInt8} {ws : List (List UInt8)} {k : Nat} (ha : Asc ws) (hn : ws.Nodup) (h : ws[k]? = some s) : ahdS s ws = k := by
  have hm : s ∈ ws := List.mem_of_getElem? h
  have h1 := ahd_at ha hm
  obtain ⟨i, e1⟩ := List.getElem?_eq_some_iff.1 h1
  obtain ⟨j, e2⟩ := List.getElem?_eq_some_iff.1 h
  exact (List.getElem_inj hn).1 (e1.trans e2.symm)
theorem fndp_hit {s : List UInt8} {ws : List (List UInt8)} {k : Nat} (ha : Asc ws) (hn : ws.Nodup) (h : ws[k]? = some s) : fndP s ws = k := by
  unfold fndP
  rw [if_pos (List.mem_of_getElem? h), ahd_is ha hn h]
theorem fndp_miss {s : List UInt8} {ws : List (List UInt8)} (h : s ∉ ws) : fndP s ws = -1 := if_neg h

/-- The document's least: of no texts it is 0. -/
def leastR (ws : List (List UInt8)) : Nat := if ws.length = 0 then 0 else leastL ws
theorem leastR_some {ws : List (List UInt8)} (h : Pats ws) : leastR ws = leastL ws := if_neg (by have := h.some; omega)
end Go.Proofs.YtjmlabggocfikaaGreat

namespace Go.Proofs.YtjmlabggocfikaaGreat
open Go.Lib

/-- Does a pattern begin with these bytes? -/
def begL (us : List (List UInt8)) (q : List UInt8) : Bool := us.any fun t => q.isPrefixOf t
theorem beg_iff {us : List (List UInt8)} {q : List UInt8} : begL us q = true ↔ ∃ t ∈ us, q <+: t := by
  unfold begL
  rw [List.any_eq_true]
  simp only [List.isPrefixOf_iff_prefix]
theorem beg_at {us : List (List UInt8)} {q t : List UInt8} {i : Nat} (h : us[i]? = some t) (hp : q <+: t) : begL us q = true := beg_iff.2 ⟨t, List.mem_of_getElem? h, hp⟩
theorem beg_of {us : List (List UInt8)} {q : List UInt8} (h : begL us q = true) : ∃ (i : Nat) (t : List UInt8), us[i]? = some t ∧ q <+: t := by
  obtain ⟨t, ht, hp⟩ := beg_iff.1 h
  obtain ⟨i, hi⟩ := List.mem_iff_getElem?.1 ht
  exact ⟨i, t, hi, hp⟩
theorem beg_short {us : List (List UInt8)} {p q : List UInt8} (h : begL us q = true) (hp : p <+: q) : begL us p = true := by
  obtain ⟨t, ht, hq⟩ := beg_iff.1 h
  exact beg_iff.2 ⟨t, ht, hp.trans hq⟩
theorem beg_take {us : List (List UInt8)} {q : List UInt8} {k : Nat} : begL (us.take k) q = true ↔ ∃ (i : Nat) (t : List UInt8), i < k ∧ us[i]? = some t ∧ q <+: t := by
  constructor
  · intro h
    obtain ⟨i, t, hi, hp⟩ := beg_of h
    rw [List.getElem?_take] at hi
    split at hi
    · exact ⟨i, t, by assumption, hi, hp⟩
    · cases hi
  · rintro ⟨i, t, hk, hi, hp⟩
    exact beg_at (i := i) (by rw [List.getElem?_take, if_pos hk]; exact hi) hp

/-- All bytes, rising. -/
def bytU : List UInt8 := (List.range 256).map UInt8.ofNat
theorem byt_mem (c : UInt8) : c ∈ bytU := by
  unfold bytU
  rw [List.mem_map]
  exact ⟨c.toNat, List.mem_range.2 (UInt8.toNat_lt c), by simp⟩
theorem byt_rise : bytU.Pairwise (· < ·) := by
  unfold bytU
  rw [List.pairwise_map]
  refine List.Pairwise.imp_of_mem ?_ List.pairwise_lt_range
  intro a b ha hb hab
  rw [List.mem_range] at ha hb
  rw [UInt8.lt_iff_toNat_lt, UInt8.toNat_ofNat', UInt8.toNat_ofNat']
  omega
theorem rise_nodup {l : List UInt8} (h : l.Pairwise (· < ·)) : l.Nodup := h.imp fun {a b} hab e => by subst e; exact UInt8.lt_irrefl _ hab
theorem rise_unique {l m : List UInt8} (hl : l.Pairwise (· < ·)) (hm : m.Pairwise (· < ·)) (h : ∀ c, c ∈ l ↔ c ∈ m) : l = m :=
  List.Perm.eq_of_pairwise (le := fun x y => x < y) (fun a b _ _ h1 h2 => absurd (UInt8.lt_trans h1 h2) (UInt8.lt_irrefl _)) hl hm
    ((List.perm_ext_iff_of_nodup (rise_nodup hl) (rise_nodup hm)).2 h)

/-- By which bytes a text is gone on with. -/
def kidsL (us : List (List UInt8)) (q : List UInt8) : List UInt8 := bytU.filter fun c => begL us (q ++ [c])
theorem kids_mem {us : List (List UInt8)} {q : List UInt8} {c : UInt8} : c ∈ kidsL us q ↔ begL us (q ++ [c]) = true := by
  unfold kidsL
  rw [List.mem_filter]
  exact ⟨fun h => h.2, fun h => ⟨byt_mem c, h⟩⟩
theorem kids_rise (us : List (List UInt8)) (q : List UInt8) : (kidsL us q).Pairwise (· < ·) := byt_rise.filter _
theorem kids_nil (q : List UInt8) : kidsL [] q = [] := by
  rw [List.eq_nil_iff_forall_not_mem]
  intro c hc
  have := kids_mem.1 hc
  simp [begL] at this

/-- Shorter, or as long and less. -/
def slx (a b : List UInt8) : Prop := a.length < b.length ∨ (a.length = b.length ∧ a < b)
theorem slx_irrefl (a : List UInt8) : ¬ slx a a := by
  rintro (h | ⟨_, h⟩)
  · omega
  · exact List.lt_irrefl a h
theorem slx_trans {a b c : List UInt8} (h : slx a b) (k : slx b c) : slx a c := by
  rcases h with h | ⟨h, h'⟩ <;> rcases k with k | ⟨k, k'⟩
  · exact .inl (by omega)
  · exact .inl (by omega)
  · exact .inl (by omega)
  · exact .inr ⟨h.trans k, List.lt_trans h' k'⟩
theorem slx_nodup {S : List (List UInt8)} (h : S.Pairwise slx) : S.Nodup := h.imp fun {a b} hab e => by subst e; exact slx_irrefl _ hab
theorem slx_unique {l m : List (List UInt8)} (hl : l.Pairwise slx) (hm : m.Pairwise slx) (h : ∀ c, c ∈ l ↔ c ∈ m) : l = m :=
  List.Perm.eq_of_pairwise (le := slx) (fun a b _ _ h1 h2 => absurd (slx_trans h1 h2) (slx_irrefl _)) hl hm
    ((List.perm_ext_iff_of_nodup (slx_nodup hl) (slx_nodup hm)).2 h)
theorem lt_same : ∀ {a b : List UInt8} (x y : List UInt8), a.length = b.length → a < b → a ++ x < b ++ y
  | [], [], _, _, _, h => absurd h (List.lt_irrefl _)
  | [], _ :: _, _, _, h, _ => by simp at h
  | _ :: _, [], _, _, h, _ => by simp at h
  | c :: a, d :: b, x, y, h, hl => by
    rw [List.cons_append, List.cons_append, List.cons_lt_cons_iff]
    rw [List.cons_lt_cons_iff] at hl
    rcases hl with hl | ⟨he, hl⟩
    · exact .inl hl
    · exact .inr ⟨he, lt_same x y (by simpa using h) hl⟩
theorem lt_after : ∀ (p : List UInt8) {x y : List UInt8}, x < y → p ++ x < p ++ y
  | [], _, _, h => h
  | c :: p, x, y, h => by
    rw [List.cons_append, List.cons_append, List.cons_lt_cons_iff]
    exact .inr ⟨rfl, lt_after p h⟩
theorem slx_snoc {a b : List UInt8} (c d : UInt8) (h : slx a b) : slx (a ++ [c]) (b ++ [d]) := by
  rcases h with h | ⟨h, h'⟩
  · exact .inl (by simp; omega)
  · exact .inr ⟨by simp [h], lt_same _ _ h h'⟩
theorem slx_byte (p : List UInt8) {c d : UInt8} (h : c < d) : slx (p ++ [c]) (p ++ [d]) := .inr ⟨by simp, lt_after p (by rw [List.cons_lt_cons_iff]; exact .inl h)⟩
theorem slx_nil {q : List UInt8} (h : q ≠ []) : slx [] q := .inl (by cases q with | nil => exact absurd rfl h | cons _ _ => simp)

/-- The states of a set: all beginnings, the shortest first, those of one length in order. -/
def IsSt (us S : List (List UInt8)) : Prop := S.Pairwise slx ∧ ∀ q, q ∈ S ↔ q = [] ∨ begL us q = true
theorem IsSt.unique {us S T : List (List UInt8)} (h : IsSt us S) (k : IsSt us T) : S = T := slx_unique h.1 k.1 fun q => (h.2 q).trans (k.2 q).symm

/-- The states with a byte more. -/
def kidsP (us : List (List UInt8)) (p : List UInt8) : List (List UInt8) := (kidsL us p).map fun c => p ++ [c]
theorem kidsP_mem {us : List (List UInt8)} {p q : List UInt8} : q ∈ kidsP us p ↔ ∃ c, begL us (p ++ [c]) = true ∧ q = p ++ [c] := by
  unfold kidsP
  rw [List.mem_map]
  constructor
  · rintro ⟨c, hc, rfl⟩; exact ⟨c, kids_mem.1 hc, rfl⟩
  · rintro ⟨c, hc, rfl⟩; exact ⟨c, kids_mem.2 hc, rfl⟩
theorem kidsP_length (us : List (List UInt8)) (p : List UInt8) : (kidsP us p).length = (kidsL us p).length := List.length_map _
theorem kidsP_rise (us : List (List UInt8)) (p : List UInt8) : (kidsP us p).Pairwise slx := by
  unfold kidsP
  rw [List.pairwise_map]
  exact (kids_rise us p).imp fun {c d} h => slx_byte p h

/-- The states behind k rounds: each state's own ones are put behind all others. -/
inductive Bfs (us : List (List UInt8)) : Nat → List (List UInt8) → Prop
  | zero : Bfs us 0 [[]]
  | step {k : Nat} {S : List (List UInt8)} {p : List UInt8} (h : Bfs us k S) (hp : S[k]? = some p) : Bfs us (k + 1) (S ++ kidsP us p)
theorem Bfs.le {us : List (List UInt8)} {k : Nat} {S : List (List UInt8)} (h : Bfs us k S) : k ≤ S.length ∧ 1 ≤ S.length := by
  induction h with
  | zero => simp
  | step h hp ih =>
    have := (List.getElem?_eq_some_iff.1 hp).1
    rw [List.length_append]; omega
theorem Bfs.is {us : List (List UInt8)} {k : Nat} {S : List (List UInt8)} (h : Bfs us k S) : S = [[]] ++ (S.take k).flatMap (kidsP us) := by
  induction h with
  | zero => simp
  | @step k S p h hp ih =>
    have hlt := (List.getElem?_eq_some_iff.1 hp).1
    have e : (S ++ kidsP us p).take (k + 1) = S.take k ++ [p] := by
      rw [List.take_append_of_le_length (by omega), List.take_succ_eq_append_getElem hlt, (List.getElem?_eq_some_iff.1 hp).2]
    rw [e, List.flatMap_append, ← List.append_assoc, ← ih]
    simp
theorem Bfs.root {us : List (List UInt8)} {k : Nat} {S : List (List UInt8)} (h : Bfs us k S) : S[0]? = some [] := by rw [h.is]; rfl
theorem Bfs.old {us : List (List UInt8)} {k : Nat} {S : List (List UInt8)} (h : Bfs us k S) {q : List UInt8} (hq : q ∈ S) : q = [] ∨ ∃ (i : Nat) (p : List UInt8) (c : UInt8), i < k ∧ S[i]? = some p ∧ begL us (p ++ [c]) = true ∧ q = p ++ [c] := by
  rw [h.is] at hq
  rw [List.mem_append, List.mem_singleton, List.mem_flatMap] at hq
  rcases hq with hq | ⟨p, hp, hq⟩
  · exact .inl hq
  · obtain ⟨i, hi⟩ := List.mem_iff_getElem?.1 hp
    rw [List.getElem?_take] at hi
    split at hi
    · obtain ⟨c, hc, e⟩ := kidsP_mem.1 hq
      exact .inr ⟨i, p, c, by assumption, hi, hc, e⟩
    · cases hi
theorem Bfs.new {us : List (List UInt8)} {k : Nat} {S : List (List UInt8)} (h : Bfs us k S) {i : Nat} {p : List UInt8} {c : UInt8} (hi : i < k) (hp : S[i]? = some p) (hc : begL us (p ++ [c]) = true) : p ++ [c] ∈ S := by
  rw [h.is, List.mem_append, List.mem_flatMap]
  exact .inr ⟨p, List.mem_of_getElem? (i := i) (by rw [List.getElem?_take, if_pos hi]; exact hp), kidsP_mem.2 ⟨c, hc, rfl⟩⟩
theorem Bfs.rise {us : List (List UInt8)} {k : Nat} {S : List (List UInt8)} (h : Bfs us k S) : S.Pairwise slx := by
  induction h with
  | zero => simp
  | @step k S p h hp ih =>
    rw [List.pairwise_append]
    refine ⟨ih, kidsP_rise us p, fun x hx y hy => ?_⟩
    obtain ⟨c, hc, rfl⟩ := kidsP_mem.1 hy
    rcases h.old hx with rfl | ⟨i, u, d, hi, hu, _, rfl⟩
    · exact slx_nil (by simp)
    · have hlt := (List.getElem?_eq_some_iff.1 hp).1
      have := List.pairwise_iff_getElem.1 ih i k (by omega) hlt hi
      rw [(List.getElem?_eq_some_iff.1 hu).2, (List.getElem?_eq_some_iff.1 hp).2] at this
      exact slx_snoc d c this
theorem Bfs.done {us : List (List UInt8)} {S : List (List UInt8)} (h : Bfs us S.length S) : IsSt us S := by
  refine ⟨h.rise, fun q => ⟨fun hq => ?_, fun hq => ?_⟩⟩
  · rcases h.old hq with rfl | ⟨i, u, d, _, _, hb, rfl⟩
    · exact .inl rfl
    · exact .inr hb
  · rcases hq with rfl | hq
    · exact List.mem_of_getElem? h.root
    · suffices g : ∀ (n : Nat) (q : List UInt8), q.length = n → begL us q = true → q ∈ S from g _ q rfl hq
      intro n
      induction n with
      | zero =>
        intro q hn _
        rw [List.eq_nil_of_length_eq_zero hn]
        exact List.mem_of_getElem? h.root
      | succ n ih =>
        intro q hn hb
        have hne : q ≠ [] := fun e => by subst e; simp at hn
        have e := List.dropLast_concat_getLast hne
        have hd : q.dropLast ∈ S := ih _ (by simp; omega) (beg_short hb (List.dropLast_prefix q))
        obtain ⟨i, hi⟩ := List.mem_iff_getElem?.1 hd
        have := h.new (c := q.getLast hne) (List.getElem?_eq_some_iff.1 hi).1 hi (by rw [e]; exact hb)
        rwa [e] at this
/-- One of the states above another one stands ahead of it. -/
theorem rise_lt {S : List (List UInt8)} (h : S.Pairwise slx) {i j : Nat} {p q : List UInt8} (hp : S[i]? = some p) (hq : S[j]? = some q) (hs : slx p q) : i < j := by
  obtain ⟨hi, e1⟩ := List.getElem?_eq_some_iff.1 hp
  obtain ⟨hj, e2⟩ := List.getElem?_eq_some_iff.1 hq
  rcases Nat.lt_trichotomy i j with hlt | he | hgt
  · exact hlt
  · subst he; rw [e1] at e2; subst e2; exact absurd hs (slx_irrefl _)
  · have := List.pairwise_iff_getElem.1 h j i hj hi hgt
    rw [e1, e2] at this
    exact absurd (slx_trans this hs) (slx_irrefl _)
theorem rise_same {S : List (List UInt8)} (h : S.Pairwise slx) {i j : Nat} {p : List UInt8} (hp : S[i]? = some p) (hq : S[j]? = some p) : i = j := by
  obtain ⟨hi, e1⟩ := List.getElem?_eq_some_iff.1 hp
  obtain ⟨hj, e2⟩ := List.getElem?_eq_some_iff.1 hq
  exact (List.getElem_inj (slx_nodup h)).1 (e1.trans e2.symm)
/-- The last state goes no further. -/
theorem last_none {us S : List (List UInt8)} (h : IsSt us S) {p : List UInt8} (hp : S[S.length - 1]? = some p) : kidsL us p = [] := by
  rw [List.eq_nil_iff_forall_not_mem]
  intro c hc
  obtain ⟨j, hj⟩ := List.mem_iff_getElem?.1 ((h.2 _).2 (.inr (kids_mem.1 hc)))
  have h1 := rise_lt h.1 hp hj (.inl (by simp))
  have h2 := (List.getElem?_eq_some_iff.1 hj).1
  omega

/-- How many states there are at most. -/
theorem subset_length {α : Type} : ∀ (l m : List α), l.Nodup → (∀ x ∈ l, x ∈ m) → l.length ≤ m.length
  | [], m, _, _ => Nat.zero_le _
  | x :: l, m, h, hs => by
    classical
    obtain ⟨a, b, rfl⟩ := List.append_of_mem (hs x List.mem_cons_self)
    have hx := (List.nodup_cons.1 h).1
    have := subset_length l (a ++ b) (List.nodup_cons.1 h).2 (fun y hy => by
      have := hs y (List.mem_cons_of_mem _ hy)
      rw [List.mem_append, List.mem_cons] at this
      rcases this with h1 | rfl | h1
      · exact List.mem_append_left _ h1
      · exact absurd hy hx
      · exact List.mem_append_right _ h1)
    simp at this ⊢
    omega
theorem total_flat (us : List (List UInt8)) : (us.flatMap fun t => (List.range t.length).map fun n => t.take (n + 1)).length = totalL us := by
  induction us with
  | nil => rfl
  | cons t r ih => rw [List.flatMap_cons, List.length_append, ih, total_cons]; simp
theorem states_few {us S : List (List UInt8)} (hn : S.Nodup) (hm : ∀ q ∈ S, q = [] ∨ begL us q = true) : S.length ≤ totalL us + 1 := by
  have := subset_length S ([] :: us.flatMap fun t => (List.range t.length).map fun n => t.take (n + 1)) hn (fun q hq => by
    rcases hm q hq with rfl | hb
    · exact List.mem_cons_self
    · by_cases h0 : q = []
      · subst h0; exact List.mem_cons_self
      · refine List.mem_cons_of_mem _ (List.mem_flatMap.2 ?_)
        obtain ⟨t, ht, hp⟩ := beg_iff.1 hb
        have hl := hp.length_le
        have hpos : 0 < q.length := List.length_pos_iff.2 h0
        refine ⟨t, ht, List.mem_map.2 ⟨q.length - 1, List.mem_range.2 (by omega), ?_⟩⟩
        rw [show q.length - 1 + 1 = q.length by omega]
        exact (List.prefix_iff_eq_take.1 hp).symm)
  rw [List.length_cons, total_flat] at this
  exact this
theorem Bfs.few {us : List (List UInt8)} {k : Nat} {S : List (List UInt8)} (h : Bfs us k S) : S.length ≤ totalL us + 1 :=
  states_few (slx_nodup h.rise) fun q hq => (h.old hq).imp id fun ⟨_, _, _, _, _, hb, e⟩ => by rw [e]; exact hb
end Go.Proofs.YtjmlabggocfikaaGreat

namespace Go.Proofs.YtjmlabggocfikaaGreat
open Go.Lib

theorem pre_ge : ∀ {q a d : List UInt8}, q <+: a → q <+: d → q.length ≤ preL a d
  | [], _, _, _, _ => Nat.zero_le _
  | c :: q, [], _, h, _ => by simp at h
  | c :: q, _ :: _, [], _, h => by simp at h
  | c :: q, x :: a, y :: d, h, k => by
    rw [List.cons_prefix_cons] at h k
    rw [preL_cons, if_pos (h.1.symm.trans k.1), List.length_cons]
    have := pre_ge h.2 k.2
    omega
theorem pre_take : ∀ {a b : List UInt8} {n : Nat}, n ≤ preL a b → a.take n = b.take n
  | [], b, n, h => by rw [preL_nil] at h; obtain rfl : n = 0 := by omega
                      simp
  | _ :: _, [], n, h => by rw [preL_nil'] at h; obtain rfl : n = 0 := by omega
                           simp
  | x :: a, y :: b, 0, h => by simp
  | x :: a, y :: b, n + 1, h => by
    rw [preL_cons] at h
    by_cases e : x = y
    · subst e
      rw [if_pos rfl] at h
      rw [List.take_succ_cons, List.take_succ_cons, pre_take (a := a) (b := b) (n := n) (by omega)]
    · rw [if_neg e] at h; omega
theorem mid_pre {q a b d : List UInt8} (h1 : compareBytes a b ≤ 0) (h2 : compareBytes b d ≤ 0) (ha : q <+: a) (hd : q <+: d) : q <+: b := by
  have h := (pre_mid a b d h1 h2).1
  have := pre_ge ha hd
  have e := pre_take (show q.length ≤ preL a b by omega)
  rw [List.prefix_iff_eq_take] at ha ⊢
  rw [← e]; exact ha
theorem cmp_after : ∀ (p x y : List UInt8), compareBytes (p ++ x) (p ++ y) = compareBytes x y
  | [], _, _ => rfl
  | c :: p, x, y => by
    rw [List.cons_append, List.cons_append, compareBytes, if_neg (UInt8.lt_irrefl _), if_neg (UInt8.lt_irrefl _), cmp_after p x y]
theorem cmp_pre {p t : List UInt8} (h : p <+: t) : compareBytes p t ≤ 0 := by
  obtain ⟨r, rfl⟩ := h
  have := cmp_after p [] r
  rw [List.append_nil] at this
  rw [this]
  cases r with
  | nil => simp [compareBytes]
  | cons _ _ => simp [compareBytes]
theorem cmp_head {c d : UInt8} {x y : List UInt8} (h : compareBytes (c :: x) (d :: y) ≤ 0) : c ≤ d := by
  unfold compareBytes at h
  by_cases h1 : c < d
  · exact UInt8.le_of_lt h1
  · rw [if_neg h1] at h
    by_cases h2 : d < c
    · rw [if_pos h2] at h; omega
    · exact UInt8.not_lt.1 h2
theorem snoc_pre {p t : List UInt8} {c : UInt8} : p ++ [c] <+: t ↔ p <+: t ∧ t[p.length]? = some c := by
  constructor
  · rintro ⟨r, rfl⟩
    exact ⟨⟨[c] ++ r, by simp⟩, by simp⟩
  · rintro ⟨⟨r, rfl⟩, h⟩
    rw [List.getElem?_append_right (Nat.le_refl _), Nat.sub_self] at h
    cases r with
    | nil => cases h
    | cons d r => simp at h; subst h; exact ⟨r, by simp⟩
/-- Of two texts in order that go on alike the first one's byte is no greater. -/
theorem byte_le {p a b : List UInt8} {c d : UInt8} (h : compareBytes a b ≤ 0) (ha : p ++ [c] <+: a) (hb : p ++ [d] <+: b) : c ≤ d := by
  obtain ⟨x, rfl⟩ := ha
  obtain ⟨y, rfl⟩ := hb
  rw [List.append_assoc, List.append_assoc, cmp_after] at h
  exact cmp_head h

theorem take_stop {α : Type} {p : α → Bool} : ∀ (l : List α), (∀ (i : Nat) x, i < (l.takeWhile p).length → l[i]? = some x → p x = true) ∧ (∀ x, l[(l.takeWhile p).length]? = some x → p x = false) ∧ (l.takeWhile p).length ≤ l.length
  | [] => by simp
  | a :: l => by
    have ih := take_stop (p := p) l
    rw [List.takeWhile_cons]
    by_cases h : p a = true
    · rw [if_pos h]
      refine ⟨fun i x hi hx => ?_, fun x hx => ?_, by simpa using ih.2.2⟩
      · cases i with
        | zero => simp at hx; rw [← hx]; exact h
        | succ i => exact ih.1 i x (by simpa using hi) (by simpa using hx)
      · exact ih.2.1 x (by simpa using hx)
    · rw [if_neg h]
      refine ⟨fun i x hi => by simp at hi, fun x hx => ?_, Nat.zero_le _⟩
      simp at hx; rw [← hx]; simpa using h

/-- From where on the patterns stand that begin with these bytes, and up to where. -/
def frL (us : List (List UInt8)) (q : List UInt8) : Nat := us.findIdx fun t => q.isPrefixOf t
def toL (us : List (List UInt8)) (q : List UInt8) : Nat := frL us q + ((us.drop (frL us q)).takeWhile fun t => q.isPrefixOf t).length
theorem fr_le (us : List (List UInt8)) (q : List UInt8) : frL us q ≤ us.length := List.findIdx_le_length
theorem to_le (us : List (List UInt8)) (q : List UInt8) : toL us q ≤ us.length := by
  have h := (take_stop (p := fun t => q.isPrefixOf t) (us.drop (frL us q))).2.2
  have := fr_le us q
  rw [List.length_drop] at h
  unfold toL; omega
theorem fr_to (us : List (List UInt8)) (q : List UInt8) : frL us q ≤ toL us q := Nat.le_add_right _ _
theorem before_fr {us : List (List UInt8)} {q t : List UInt8} {i : Nat} (h : us[i]? = some t) (hi : i < frL us q) : ¬ q <+: t := by
  have := List.not_of_lt_findIdx hi
  rw [(List.getElem?_eq_some_iff.1 h).2] at this
  intro hp
  rw [← List.isPrefixOf_iff_prefix] at hp
  rw [hp] at this; cases this
theorem in_iff {us : List (List UInt8)} {q t : List UInt8} {i : Nat} (ha : Asc us) (h : us[i]? = some t) : q <+: t ↔ frL us q ≤ i ∧ i < toL us q := by
  have hs := take_stop (p := fun t => q.isPrefixOf t) (us.drop (frL us q))
  constructor
  · intro hp
    have h1 : frL us q ≤ i := Nat.not_lt.1 fun hi => before_fr h hi hp
    refine ⟨h1, Nat.not_le.1 fun h2 => ?_⟩
    have hi := (List.getElem?_eq_some_iff.1 h).1
    have hk : toL us q < us.length := by omega
    have e1 : us[toL us q]? = some us[toL us q] := List.getElem?_eq_getElem hk
    have hb := hs.2.1 us[toL us q] (by rw [List.getElem?_drop]; exact e1)
    have hf : frL us q < us.length := by omega
    have e2 : us[frL us q]? = some us[frL us q] := List.getElem?_eq_getElem hf
    have hpf : q <+: us[frL us q] := List.isPrefixOf_iff_prefix.1 (List.findIdx_getElem (w := hf))
    have := mid_pre (ha.at (fr_to us q) e2 e1) (ha.at h2 e1 h) hpf hp
    rw [← List.isPrefixOf_iff_prefix] at this
    rw [this] at hb; cases hb
  · rintro ⟨h1, h2⟩
    have := hs.1 (i - frL us q) t (by unfold toL at h2; omega) (by rw [List.getElem?_drop, show frL us q + (i - frL us q) = i by omega]; exact h)
    exact List.isPrefixOf_iff_prefix.1 this
theorem range_is {us : List (List UInt8)} {q : List UInt8} {m k : Nat} (ha : Asc us) (hmk : m < k) (hk : k ≤ us.length) (h : ∀ (i : Nat) t, us[i]? = some t → (q <+: t ↔ m ≤ i ∧ i < k)) : frL us q = m ∧ toL us q = k := by
  have g : ∀ i, i < us.length → ((frL us q ≤ i ∧ i < toL us q) ↔ (m ≤ i ∧ i < k)) := fun i hi => by
    have e : us[i]? = some us[i] := List.getElem?_eq_getElem hi
    rw [← in_iff ha e, h i _ e]
  have h1 := to_le us q
  have h2 := fr_to us q
  have a := (g m (by omega)).2 ⟨by omega, by omega⟩
  have b := (g (k - 1) (by omega)).2 ⟨by omega, by omega⟩
  have c := (g (frL us q) (by omega)).1 ⟨by omega, by omega⟩
  have d := (g (toL us q - 1) (by omega)).1 ⟨by omega, by omega⟩
  omega
theorem root_range (us : List (List UInt8)) : frL us [] = 0 ∧ toL us [] = us.length := by
  have h : frL us [] = 0 := by
    unfold frL
    cases us with
    | nil => rfl
    | cons t r => rw [List.findIdx_cons]; simp
  refine ⟨h, ?_⟩
  unfold toL
  rw [h, List.drop_zero, Nat.zero_add]
  congr 1
  clear h
  induction us with
  | nil => rfl
  | cons t r ih => rw [List.takeWhile_cons, if_pos (by simp), ih]
/-- A state that is one has patterns, if there are any. -/
theorem range_pos {us : List (List UInt8)} {q : List UInt8} (ha : Asc us) (h : begL us q = true) : frL us q < toL us q := by
  obtain ⟨i, t, hi, hp⟩ := beg_of h
  have := (in_iff ha hi).1 hp
  omega

/-- The first pattern of a state is it, if one is. -/
theorem first_is {us : List (List UInt8)} {p t : List UInt8} (ha : Asc us) (h : us[frL us p]? = some t) (hp : p <+: t) : t.length = p.length ↔ p ∈ us := by
  constructor
  · intro hl
    have e : p = t := hp.eq_of_length hl.symm
    rw [e]; exact List.mem_of_getElem? h
  · intro hm
    obtain ⟨j, hj⟩ := List.mem_iff_getElem?.1 hm
    have h1 := (in_iff ha hj).1 (List.prefix_refl p)
    have h2 := ha.at h1.1 h hj
    have h3 := cmp_pre hp
    rw [cmp_swap p t] at h2
    have := (cmp_zero p t).1 (by omega)
    rw [this]
/-- From where on the patterns go on. -/
def onL (us : List (List UInt8)) (p : List UInt8) : Nat := if p ∈ us then frL us p + 1 else frL us p
theorem on_le {us : List (List UInt8)} {p : List UInt8} (ha : Asc us) : onL us p ≤ toL us p := by
  unfold onL
  split
  · rename_i hm
    exact range_pos ha (beg_iff.2 ⟨p, hm, List.prefix_refl p⟩)
  · exact fr_to us p
theorem fr_on (us : List (List UInt8)) (p : List UInt8) : frL us p ≤ onL us p := by
  unfold onL
  split <;> omega
/-- .. each of them has one byte more. -/
theorem on_byte {us : List (List UInt8)} {p t : List UInt8} {i : Nat} (ha : Asc us) (hn : us.Nodup) (h : us[i]? = some t) (h1 : onL us p ≤ i) (h2 : i < toL us p) : ∃ c, t[p.length]? = some c ∧ p ++ [c] <+: t := by
  have hf := fr_on us p
  have hp := (in_iff ha h).2 ⟨by omega, h2⟩
  rcases Nat.lt_or_ge p.length t.length with hl | hl
  · exact ⟨t[p.length], List.getElem?_eq_getElem hl, snoc_pre.2 ⟨hp, List.getElem?_eq_getElem hl⟩⟩
  · have e : p = t := hp.eq_of_length (Nat.le_antisymm hp.length_le hl)
    subst e
    have hm : p ∈ us := List.mem_of_getElem? h
    have hr := range_pos ha (beg_iff.2 ⟨p, hm, List.prefix_refl p⟩)
    have hlen := to_le us p
    have e1 : us[frL us p]? = some us[frL us p] := List.getElem?_eq_getElem (by omega)
    have hpf := (in_iff ha e1).2 ⟨Nat.le_refl _, hr⟩
    have e2 : p = us[frL us p] := hpf.eq_of_length ((first_is ha e1 hpf).2 hm).symm
    have := (List.getElem_inj hn (h₀ := by omega) (h₁ := (List.getElem?_eq_some_iff.1 h).1)).1 (e2.symm.trans (List.getElem?_eq_some_iff.1 h).2.symm)
    unfold onL at h1
    rw [if_pos hm] at h1
    omega
theorem on_iff {us : List (List UInt8)} {p t : List UInt8} {c : UInt8} {i : Nat} (ha : Asc us) (h : us[i]? = some t) (hc : p ++ [c] <+: t) : onL us p ≤ i ∧ i < toL us p := by
  have hp := (snoc_pre.1 hc).1
  have h1 := (in_iff ha h).1 hp
  refine ⟨?_, h1.2⟩
  unfold onL
  split
  · rename_i hm
    rcases Nat.lt_or_ge (frL us p) i with h2 | h2
    · exact h2
    · have e : i = frL us p := by omega
      subst e
      have := (first_is ha h hp).2 hm
      have := hc.length_le
      simp at this
      omega
  · exact h1.1

/-- A place where the patterns of a state begin to go on by another byte. -/
def Cut (us : List (List UInt8)) (p : List UInt8) (m : Nat) : Prop := onL us p ≤ m ∧ m ≤ toL us p ∧ ∀ (i : Nat) c t t', i < m → us[i]? = some t → p ++ [c] <+: t → us[m]? = some t' → ¬ p ++ [c] <+: t'
theorem Cut.start {us : List (List UInt8)} {p : List UInt8} (ha : Asc us) : Cut us p (onL us p) :=
  ⟨Nat.le_refl _, on_le ha, fun i c t t' hi ht hc _ => by have := (on_iff ha ht hc).1; omega⟩
/-- All from one cut on, up to a place, go on by one byte. -/
def Run (us : List (List UInt8)) (p : List UInt8) (c : UInt8) (m k : Nat) : Prop := m < k ∧ k ≤ toL us p ∧ ∀ (i : Nat) t, m ≤ i → i < k → us[i]? = some t → p ++ [c] <+: t
theorem Run.start {us : List (List UInt8)} {p t : List UInt8} {c : UInt8} {m : Nat} (hm : m < toL us p) (ht : us[m]? = some t) (hc : p ++ [c] <+: t) : Run us p c m (m + 1) :=
  ⟨by omega, by omega, fun i u h1 h2 hu => by obtain rfl : i = m := by omega
                                              rw [ht] at hu; cases hu; exact hc⟩
theorem Run.more {us : List (List UInt8)} {p t : List UInt8} {c : UInt8} {m k : Nat} (h : Run us p c m k) (hk : k < toL us p) (ht : us[k]? = some t) (hc : p ++ [c] <+: t) : Run us p c m (k + 1) :=
  ⟨by have := h.1; omega, by omega, fun i u h1 h2 hu => by
    rcases Nat.lt_or_ge i k with h3 | h3
    · exact h.2.2 i u h1 h3 hu
    · obtain rfl : i = k := by omega
      rw [ht] at hu; cases hu; exact hc⟩
/-- Where it ends the next one is cut. -/
theorem Run.cut {us : List (List UInt8)} {p : List UInt8} {c : UInt8} {m k : Nat} (ha : Asc us) (h : Run us p c m k) (hm : Cut us p m) (hk : ∀ t, k < toL us p → us[k]? = some t → ¬ p ++ [c] <+: t) : Cut us p k := by
  have hlen := to_le us p
  refine ⟨by have := hm.1; have := h.1; omega, h.2.1, fun i d t t' hi ht hd ht' hd' => ?_⟩
  have hkt := (on_iff ha ht' hd').2
  have hl : us[k - 1]? = some us[k - 1] := List.getElem?_eq_getElem (by omega)
  have hlast := h.2.2 (k - 1) _ (by have := h.1; omega) (by have := h.1; omega) hl
  have h1 : d ≤ c := byte_le (ha.at (by omega) ht hl) hd hlast
  have h2 : c ≤ d := byte_le (ha.at (by omega) hl ht') hlast hd'
  have e := UInt8.le_antisymm h1 h2
  subst e
  exact hk t' hkt ht' hd'
/-- .. and it is a state's group. -/
theorem Run.range {us : List (List UInt8)} {p : List UInt8} {c : UInt8} {m k : Nat} (ha : Asc us) (h : Run us p c m k) (hm : Cut us p m) (hk : ∀ t, k < toL us p → us[k]? = some t → ¬ p ++ [c] <+: t) : frL us (p ++ [c]) = m ∧ toL us (p ++ [c]) = k := by
  have hlen := to_le us p
  refine range_is ha h.1 (by have := h.2.1; omega) fun i t ht => ⟨fun hp => ?_, fun hi => h.2.2 i t hi.1 hi.2 ht⟩
  have hon := on_iff ha ht hp
  have hmk := h.1
  have hml : m < us.length := by have := h.1; have := h.2.1; omega
  have hme : us[m]? = some us[m] := List.getElem?_eq_getElem hml
  have hmc := h.2.2 m _ (Nat.le_refl _) hmk hme
  refine ⟨Nat.not_lt.1 fun hi => hm.2.2 i c t _ hi ht hp hme hmc, Nat.not_le.1 fun hi => ?_⟩
  have hke : us[k]? = some us[k] := List.getElem?_eq_getElem (by omega)
  refine hk _ (by omega) hke (mid_pre (ha.at (by omega) hme hke) (ha.at hi hke ht) hmc hp)
/-- .. and a byte by which the state is gone on with. -/
theorem Run.kids {us : List (List UInt8)} {p : List UInt8} {c : UInt8} {m k : Nat} (ha : Asc us) (h : Run us p c m k) (hm : Cut us p m) : kidsL (us.take k) p = kidsL (us.take m) p ++ [c] := by
  have hlen := to_le us p
  have hmk := h.1
  have hml : m < us.length := by have := h.1; have := h.2.1; omega
  have hme : us[m]? = some us[m] := List.getElem?_eq_getElem hml
  have hmc := h.2.2 m _ (Nat.le_refl _) hmk hme
  refine rise_unique (kids_rise _ _) ?_ fun d => ?_
  · rw [List.pairwise_append]
    refine ⟨kids_rise _ _, by simp, fun d hd e he => ?_⟩
    rw [List.mem_singleton] at he
    subst he
    obtain ⟨i, t, hi, ht, hp⟩ := beg_take.1 (kids_mem.1 hd)
    have hle := byte_le (ha.at (by omega) ht hme) hp hmc
    rcases UInt8.lt_or_eq_of_le hle with hlt | he
    · exact hlt
    · subst he
      exact absurd hmc (hm.2.2 i _ t _ hi ht hp hme)
  · rw [List.mem_append, List.mem_singleton, kids_mem, kids_mem, beg_take, beg_take]
    constructor
    · rintro ⟨i, t, hi, ht, hp⟩
      rcases Nat.lt_or_ge i m with h1 | h1
      · exact .inl ⟨i, t, h1, ht, hp⟩
      · have := h.2.2 i t h1 hi ht
        have e1 := (snoc_pre.1 this).2
        rw [(snoc_pre.1 hp).2] at e1
        exact .inr (Option.some.inj e1)
    · rintro (⟨i, t, hi, ht, hp⟩ | rfl)
      · exact ⟨i, t, by omega, ht, hp⟩
      · exact ⟨m, _, hmk, hme, hmc⟩
theorem kids_start {us : List (List UInt8)} {p : List UInt8} (ha : Asc us) : kidsL (us.take (onL us p)) p = [] := by
  rw [List.eq_nil_iff_forall_not_mem]
  intro c hc
  obtain ⟨i, t, hi, ht, hp⟩ := beg_take.1 (kids_mem.1 hc)
  have := (on_iff ha ht hp).1
  omega
theorem kids_end {us : List (List UInt8)} {p : List UInt8} (ha : Asc us) : kidsL (us.take (toL us p)) p = kidsL us p := by
  refine rise_unique (kids_rise _ _) (kids_rise _ _) fun c => ?_
  rw [kids_mem, kids_mem, beg_take]
  constructor
  · rintro ⟨i, t, _, ht, hp⟩; exact beg_at ht hp
  · intro h
    obtain ⟨i, t, ht, hp⟩ := beg_of h
    exact ⟨i, t, (on_iff ha ht hp).2, ht, hp⟩
end Go.Proofs.YtjmlabggocfikaaGreat
