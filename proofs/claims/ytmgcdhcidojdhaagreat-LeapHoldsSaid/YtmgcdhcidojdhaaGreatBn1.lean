/-
  Texts put together: Gen, AfM, Str, AfFb, CopyChk, OwnTo, LpF, But, LpB, CaM.
-/
import Derived.Lib.Builder
import Derived.Laws.IdiomStrings
import Derived.Lib.Bytealg
import Derived.Test.YtmgcdhcidojdhaaGreatRows
import Derived.Below
import Derived.Laws.AppendOwn
import Derived.WalkKit
import Derived.WalkSpells
import Derived.WalkLawsBesides
import Derived.Lib.Hide
import Derived.Lib.Strings
import Derived.Deep.QuietTactic
import Derived.BigQuiet
import Derived.Shelf.Strings.Builder1
import Derived.Lib.FrozenHead2
import Derived.Shelf.Strings.BuilderF
import Derived.Laws.OwnMore
import Derived.Lib.UnsafeStr
set_option linter.unusedSimpArgs false
set_option linter.unusedVariables false
namespace Go.Proofs.YtmgcdhcidojdhaaGreat
open Go.Lib

theorem bsize (l : List UInt8) : (⟨l.toArray⟩ : ByteArray).size = l.length := by simp [ByteArray.size]

theorem byteAt (d : List UInt8) (k : Nat) (h : k < d.length) (h' : k < (⟨d.toArray⟩ : ByteArray).size) : (⟨d.toArray⟩ : ByteArray)[k]'h' = d[k] := by
  show d.toArray[k] = d[k]
  simp

theorem full_of_pos (d : List UInt8) (h : 0 < d.length) : d.isEmpty = false := by
  cases d with
  | nil => simp at h
  | cons _ _ => rfl

def Int64s (l : List Int) : Prop := ∀ x ∈ l, -9223372036854775808 ≤ x ∧ x ≤ 9223372036854775807

theorem BuilderAt.below {T e : TypeId} {B b : Nat} {p : Value} {bs : List Value} {W W' : World} (h : Lib.BuilderAt T e B b p bs W) (hb : RowKit.Below W.heap.size W W') : Lib.BuilderAt T e B b p bs W' := by
  have hlt := h.lt
  obtain ⟨hB, v, hv, hown, hne⟩ := h
  exact ⟨hB, v, (hb.block b hlt).trans hv, hown.kept (row := none) ⟨hb.os, hb.tape, hb.output, hb.size, fun k hk _ => hb.block k hk⟩ (Classical.em _), hne⟩

theorem IsBuilder.below {T e : TypeId} {B b : Nat} {bs : List Value} {W W' : World} (h : Lib.IsBuilder T e B b bs W) (hb : RowKit.Below W.heap.size W W') : Lib.IsBuilder T e B b bs W' :=
  h.elim (fun x => .inl (BuilderAt.below x hb)) (fun x => .inr (BuilderAt.below x hb))

theorem IsBuilder.lt {T e : TypeId} {B b : Nat} {bs : List Value} {W : World} (h : Lib.IsBuilder T e B b bs W) : b < W.heap.size :=
  h.elim (fun x => x.lt) (fun x => x.lt)

theorem getD_at (l : List Int) (k : Nat) (h : k < l.length) : l.getD k 0 = l[k] := by simp [List.getD, h]

theorem getD_in (l : List Int) (k : Nat) (h : k < l.length) : l.getD k 0 ∈ l := by rw [getD_at l k h]; exact List.getElem_mem _

theorem take_snoc (l : List Int) (k : Nat) (h : k < l.length) : l.take (k + 1) = l.take k ++ [l.getD k 0] := by
  rw [List.take_succ_eq_append_getElem h, getD_at l k h]

/-- A slice of integers that came in: empty, or a row of 'cap' cells, the numbers 'zs' (the first 'len' are its elements). -/
def IsRow (k : IntKind) (w : World) (a : Option Addr) (len cap : Nat) (zs : List Int) : Prop :=
  len = 0 ∨ ∃ b off, a = some ⟨b, off, none⟩ ∧ len ≤ cap ∧ cap ≤ maxLen ∧ zs.length = cap ∧ (∀ i, i < cap → w.cell? ⟨b, off + i, none⟩ = some (.int k (zs.getD i 0)))

theorem IsRow.below {k : IntKind} {w w' : World} {a : Option Addr} {len cap : Nat} {zs : List Int} (h : IsRow k w a len cap zs) (hb : RowKit.Below w.heap.size w w') : IsRow k w' a len cap zs := by
  rcases h with h | ⟨b, off, ha, hl, hm, hz, hc⟩
  · exact .inl h
  · refine .inr ⟨b, off, ha, hl, hm, hz, fun i hi => ?_⟩
    have h1 := hc i hi
    rw [hb.cell (p := ⟨b, off + i, none⟩) (World.block_lt_of_cell? w _ h1)]
    exact h1

theorem heap_lt {w : World} {b : Nat} {o : Obj} (h : w.heap[b]? = some o) : b < w.heap.size := (Array.getElem?_eq_some_iff.1 h).1

theorem set_put {w : World} {b i : Nat} {cs : Array Value} {T : TypeId} (h : w.heap[b]? = some (.cells cs T (0, 0))) (u : Value) : (w.setCell ⟨b, i, none⟩ u).heap[b]? = some (.cells (cs.setIfInBounds i u) T (0, 0)) := by
  simp [World.setCell, Array.getElem?_modify, h]

theorem addPlain (b o j : Nat) : (⟨b, o, none⟩ : Addr).add j = ⟨b, o + j, none⟩ := by simp [Addr.add]

end Go.Proofs.YtmgcdhcidojdhaaGreat

namespace Go.Proofs.YtmgcdhcidojdhaaGreat
open Go.Lib

/-- With how many bytes two texts begin alike. -/
def preL : List UInt8 → List UInt8 → Nat
  | a :: x, b :: y => if a = b then preL x y + 1 else 0
  | _, _ => 0

theorem preL_nil (b : List UInt8) : preL [] b = 0 := by cases b <;> rfl
theorem preL_nil' (a : List UInt8) : preL a [] = 0 := by cases a <;> rfl
theorem preL_cons (a : UInt8) (x : List UInt8) (b : UInt8) (y : List UInt8) : preL (a :: x) (b :: y) = if a = b then preL x y + 1 else 0 := rfl

theorem preL_le : ∀ (a b : List UInt8), preL a b ≤ a.length ∧ preL a b ≤ b.length
  | [], b => by simp [preL_nil]
  | _ :: _, [] => by simp [preL_nil']
  | a :: x, b :: y => by
    have := preL_le x y
    rw [preL_cons]
    split <;> simp <;> omega

/-- So far they are alike, and no farther. -/
theorem preL_is : ∀ (a b : List UInt8) (n : Nat), n ≤ a.length → n ≤ b.length → (∀ i, i < n → a[i]? = b[i]?) → (n = a.length ∨ n = b.length ∨ a[n]? ≠ b[n]?) → preL a b = n
  | [], b, n, h1, _, _, _ => by simp at h1; rw [preL_nil, h1]
  | _ :: _, [], n, _, h2, _, _ => by simp at h2; rw [preL_nil', h2]
  | a :: x, b :: y, 0, _, _, _, h => by
    rw [preL_cons]
    by_cases e : a = b
    · subst e; simp at h
    · rw [if_neg e]
  | a :: x, b :: y, n + 1, h1, h2, h3, h4 => by
    have e : a = b := by simpa using h3 0 (by omega)
    subst e
    rw [preL_cons, if_pos rfl, preL_is x y n (by simpa using h1) (by simpa using h2) (fun i hi => by simpa using h3 (i + 1) (by omega)) (by simpa using h4)]

theorem preL_whole : ∀ (a b : List UInt8), (preL a b = b.length) ↔ b <+: a
  | a, [] => by simp [preL_nil']
  | [], b :: y => by simp [preL_nil]
  | a :: x, b :: y => by
    rw [preL_cons, List.cons_prefix_cons]
    by_cases e : a = b
    · subst e; simp [preL_whole x y]
    · have e' : ¬ b = a := fun h => e h.symm
      simp [e, e']

theorem preL_self (a : List UInt8) : preL a a = a.length := (preL_whole a a).2 (List.prefix_refl a)

/-- With how many bytes two texts end alike. -/
def sufL (a b : List UInt8) : Nat := preL a.reverse b.reverse
theorem sufL_le (a b : List UInt8) : sufL a b ≤ a.length ∧ sufL a b ≤ b.length := by
  have := preL_le a.reverse b.reverse
  simpa [sufL] using this
theorem sufL_whole (a b : List UInt8) : (sufL a b = b.length) ↔ b <:+ a := by
  have := preL_whole a.reverse b.reverse
  simpa [sufL, List.reverse_prefix] using this
theorem sufL_is (a b : List UInt8) (n : Nat) (h1 : n ≤ a.length) (h2 : n ≤ b.length) (h3 : ∀ i, i < n → a[a.length - 1 - i]? = b[b.length - 1 - i]?)
    (h4 : n = a.length ∨ n = b.length ∨ a[a.length - 1 - n]? ≠ b[b.length - 1 - n]?) : sufL a b = n := by
  refine preL_is a.reverse b.reverse n (by simpa using h1) (by simpa using h2) (fun i hi => ?_) ?_
  · rw [List.getElem?_reverse (by omega), List.getElem?_reverse (by omega)]
    exact h3 i hi
  · by_cases ha : n = a.length
    · exact .inl (by simpa using ha)
    · by_cases hb : n = b.length
      · exact .inr (.inl (by simpa using hb))
      · refine .inr (.inr ?_)
        rw [List.getElem?_reverse (by omega), List.getElem?_reverse (by omega)]
        rcases h4 with h4 | h4 | h4
        · exact absurd h4 ha
        · exact absurd h4 hb
        · exact h4

/-- The order, as the model says it. -/
theorem less_eq : ∀ (x y : List UInt8), Op.bytesLess x y = decide (x < y)
  | [], [] => by simp [Op.bytesLess]
  | _ :: _, [] => by simp [Op.bytesLess]
  | [], _ :: _ => by simp [Op.bytesLess]
  | a :: x, b :: y => by
    rw [Op.bytesLess, less_eq x y]
    simp only [List.cons_lt_cons_iff]
    by_cases h1 : a < b <;> by_cases h2 : a = b <;> by_cases h3 : x < y <;> simp [h1, h2, h3]

theorem cmp_cases : ∀ (x y : List UInt8), (x < y ∧ compareBytes x y = -1) ∨ (x = y ∧ compareBytes x y = 0) ∨ (y < x ∧ compareBytes x y = 1)
  | [], [] => by simp [compareBytes]
  | [], _ :: _ => by simp [compareBytes]
  | _ :: _, [] => by simp [compareBytes]
  | a :: x, b :: y => by
    unfold compareBytes
    by_cases h1 : a < b
    · simp [List.cons_lt_cons_iff, h1]
    · by_cases h2 : b < a
      · simp [List.cons_lt_cons_iff, h1, h2]
      · have e : a = b := UInt8.le_antisymm (UInt8.not_lt.1 h2) (UInt8.not_lt.1 h1)
        subst e
        have := cmp_cases x y
        simpa [List.cons_lt_cons_iff, h1] using this

theorem cmp_neg (x y : List UInt8) : compareBytes x y < 0 ↔ x < y := by
  rcases cmp_cases x y with ⟨h, e⟩ | ⟨h, e⟩ | ⟨h, e⟩
  · simp [h, e]
  · subst h; simp [e, List.lt_irrefl]
  · simp [e]; exact fun h' => List.lt_irrefl x (List.lt_trans h' h)
theorem cmp_zero (x y : List UInt8) : compareBytes x y = 0 ↔ x = y := by
  rcases cmp_cases x y with ⟨h, e⟩ | ⟨h, e⟩ | ⟨h, e⟩
  · rw [e]; simp; intro h'; subst h'; exact List.lt_irrefl x h
  · exact ⟨fun _ => h, fun _ => e⟩
  · rw [e]; simp; intro h'; subst h'; exact List.lt_irrefl x h
theorem cmp_swap (x y : List UInt8) : compareBytes y x = - compareBytes x y := by
  rcases cmp_cases x y with ⟨h, e⟩ | ⟨h, e⟩ | ⟨h, e⟩ <;> rcases cmp_cases y x with ⟨h', e'⟩ | ⟨h', e'⟩ | ⟨h', e'⟩ <;> rw [e, e'] <;> try rfl
  · exact absurd (List.lt_trans h h') (List.lt_irrefl x)
  · subst h'; exact absurd h (List.lt_irrefl _)
  · subst h; exact absurd h' (List.lt_irrefl _)
  · subst h; exact absurd h' (List.lt_irrefl _)
  · subst h'; exact absurd h (List.lt_irrefl _)
  · exact absurd (List.lt_trans h h') (List.lt_irrefl _)
theorem cmp_le (x y : List UInt8) : compareBytes x y ≤ 0 ↔ x ≤ y := by
  rw [← List.not_lt, ← cmp_neg y x, cmp_swap x y]; omega
theorem cmp_trans (x y z : List UInt8) (h1 : compareBytes x y ≤ 0) (h2 : compareBytes y z ≤ 0) : compareBytes x z ≤ 0 := by
  rw [cmp_le] at *; exact List.le_trans h1 h2

/-- Between two texts none shares less with the second one than they do. -/
theorem pre_mid : ∀ (a b d : List UInt8), compareBytes a b ≤ 0 → compareBytes b d ≤ 0 → preL a d ≤ preL a b ∧ preL a d ≤ preL b d
  | [], b, d, _, _ => by simp [preL_nil]
  | x :: a, b, [], _, _ => by simp [preL_nil']
  | x :: a, [], z :: d, h, _ => by simp [compareBytes] at h
  | x :: a, y :: b, z :: d, h1, h2 => by
    rw [preL_cons]
    by_cases e : x = z
    · subst e
      rw [if_pos rfl]
      unfold compareBytes at h1 h2
      by_cases hxy : x < y
      · have hyx : ¬ y < x := UInt8.lt_asymm hxy
        rw [if_neg hyx, if_pos hxy] at h2
        omega
      · rw [if_neg hxy] at h1
        by_cases hyx : y < x
        · rw [if_pos hyx] at h1; omega
        · have e : x = y := UInt8.le_antisymm (UInt8.not_lt.1 hyx) (UInt8.not_lt.1 hxy)
          subst e
          rw [if_neg hyx] at h1
          rw [if_neg hyx, if_neg hyx] at h2
          have := pre_mid a b d h1 h2
          rw [preL_cons, preL_cons, if_pos rfl, if_pos rfl]
          omega
    · rw [if_neg e]
      omega

/-- Texts in order. -/
def Asc (ws : List (List UInt8)) : Prop := ws.Pairwise fun x y => compareBytes x y ≤ 0

theorem Asc.at {ws : List (List UInt8)} (h : Asc ws) {i j : Nat} {a b : List UInt8} (hij : i ≤ j) (ha : ws[i]? = some a) (hb : ws[j]? = some b) : compareBytes a b ≤ 0 := by
  obtain ⟨hi, rfl⟩ := List.getElem?_eq_some_iff.1 ha
  obtain ⟨hj, rfl⟩ := List.getElem?_eq_some_iff.1 hb
  rcases Nat.lt_or_ge i j with h' | h'
  · exact List.pairwise_iff_getElem.1 h i j hi hj h'
  · have : i = j := by omega
    subst this
    rw [(cmp_zero _ _).2 rfl]; omega

/-- Of texts in order two share no more than each two neighbours between them. -/
theorem Asc.share {ws : List (List UInt8)} (h : Asc ws) {i j k : Nat} {a b c d : List UInt8} (hij : i ≤ j) (hjk : j + 1 ≤ k) (ha : ws[i]? = some a) (hb : ws[j]? = some b) (hc : ws[j + 1]? = some c) (hd : ws[k]? = some d) :
    preL a d ≤ preL b c :=
  Nat.le_trans (pre_mid a b d (h.at hij ha hb) (h.at (by omega) hb hd)).2 (pre_mid b c d (h.at (by omega) hb hc) (h.at hjk hc hd)).1

/-- The texts, in order. -/
def srt (ws : List (List UInt8)) : List (List UInt8) := ws.mergeSort fun x y => decide (x ≤ y)
theorem srt_perm (ws : List (List UInt8)) : (srt ws).Perm ws := List.mergeSort_perm ws _
theorem srt_length (ws : List (List UInt8)) : (srt ws).length = ws.length := (srt_perm ws).length_eq
theorem srt_asc (ws : List (List UInt8)) : Asc (srt ws) := by
  have h := List.pairwise_mergeSort (le := fun (x y : List UInt8) => decide (x ≤ y)) (fun a b c h1 h2 => by simp only [decide_eq_true_eq] at *; exact List.le_trans h1 h2)
    (fun a b => by simp only [Bool.or_eq_true, decide_eq_true_eq]; exact List.le_total a b) ws
  exact h.imp fun {a b} hab => (cmp_le a b).2 (by simpa using hab)
theorem asc_unique {l m : List (List UInt8)} (hl : Asc l) (hm : Asc m) (hp : l.Perm m) : l = m :=
  List.Perm.eq_of_pairwise (le := fun x y => compareBytes x y ≤ 0) (fun a b _ _ h1 h2 => by
    rw [cmp_swap a b] at h2
    exact (cmp_zero a b).1 (by omega)) hl hm hp

/-- One more, put where it belongs. -/
def posS (out : List (List UInt8)) (x : List UInt8) : Nat → Nat
  | 0 => 0
  | k + 1 => match out[k]? with
    | some t => if Op.bytesLess x t then posS out x k else k + 1
    | none => k + 1
def insS (out : List (List UInt8)) (x : List UInt8) : List (List UInt8) := out.take (posS out x out.length) ++ ([x] ++ out.drop (posS out x out.length))
theorem posS_le (out : List (List UInt8)) (x : List UInt8) : ∀ k, posS out x k ≤ k
  | 0 => Nat.le_refl _
  | k + 1 => by
    unfold posS
    have := posS_le out x k
    split
    · split <;> omega
    · omega
theorem posS_hit {out : List (List UInt8)} {x t : List UInt8} {k : Nat} (h : out[k]? = some t) (hl : Op.bytesLess x t = true) : posS out x (k + 1) = posS out x k := by
  rw [posS, h]; simp [hl]
theorem posS_miss {out : List (List UInt8)} {x t : List UInt8} {k : Nat} (h : out[k]? = some t) (hl : Op.bytesLess x t = false) : posS out x (k + 1) = k + 1 := by
  rw [posS, h]; simp [hl]

theorem insS_perm (out : List (List UInt8)) (x : List UInt8) : (insS out x).Perm (x :: out) := by
  unfold insS
  rw [List.singleton_append]
  refine List.perm_middle.trans ?_
  rw [List.take_append_drop]

theorem posS_spec (out : List (List UInt8)) (x : List UInt8) : ∀ k, k ≤ out.length → (∀ t, posS out x k ≠ 0 → out[posS out x k - 1]? = some t → compareBytes t x ≤ 0) ∧ (∀ i t, posS out x k ≤ i → i < k → out[i]? = some t → compareBytes x t ≤ 0)
  | 0, _ => by refine ⟨fun t h => absurd rfl h, fun i t _ h => by omega⟩
  | k + 1, hk => by
    have hlt : k < out.length := by omega
    have he : out[k]? = some out[k] := List.getElem?_eq_getElem hlt
    cases hl : Op.bytesLess x out[k] with
    | true =>
      rw [posS_hit he hl]
      have ih := posS_spec out x k (by omega)
      refine ⟨ih.1, fun i t h1 h2 h3 => ?_⟩
      by_cases hi : i < k
      · exact ih.2 i t h1 hi h3
      · have : i = k := by omega
        subst this
        rw [he] at h3
        obtain rfl := Option.some.inj h3
        rw [less_eq] at hl
        have := (cmp_neg x out[i]).2 (by simpa using hl)
        omega
    | false =>
      rw [posS_miss he hl]
      refine ⟨fun t _ h => ?_, fun i t h1 h2 => by omega⟩
      rw [Nat.add_sub_cancel, he] at h
      obtain rfl := Option.some.inj h
      rw [less_eq] at hl
      exact (cmp_le _ _).2 (List.not_lt.1 (by simpa using hl))

theorem insS_asc {out : List (List UInt8)} (h : Asc out) (x : List UInt8) : Asc (insS out x) := by
  have hp := posS_le out x out.length
  have hs := posS_spec out x out.length (Nat.le_refl _)
  unfold insS
  generalize posS out x out.length = p at *
  have hbef : ∀ a ∈ out.take p, compareBytes a x ≤ 0 := fun a ha => by
    obtain ⟨i, hi, rfl⟩ := List.getElem_of_mem ha
    have hi' : i < p ∧ i < out.length := by rw [List.length_take] at hi; omega
    rw [List.getElem_take]
    have h1 := h.at (i := i) (j := p - 1) (by omega) (List.getElem?_eq_getElem hi'.2) (List.getElem?_eq_getElem (by omega))
    exact cmp_trans _ _ _ h1 (hs.1 _ (by omega) (List.getElem?_eq_getElem (by omega)))
  have haft : ∀ b ∈ out.drop p, compareBytes x b ≤ 0 := fun b hb => by
    obtain ⟨i, hi, rfl⟩ := List.getElem_of_mem hb
    rw [List.length_drop] at hi
    rw [List.getElem_drop]
    exact hs.2 (p + i) _ (by omega) (by omega) (List.getElem?_eq_getElem (by omega))
  unfold Asc
  rw [List.pairwise_append]
  refine ⟨h.sublist (List.take_sublist _ _), ?_, fun a ha b hb => ?_⟩
  · rw [List.singleton_append, List.pairwise_cons]
    exact ⟨haft, h.sublist (List.drop_sublist _ _)⟩
  · rw [List.singleton_append, List.mem_cons] at hb
    rcases hb with rfl | hb
    · exact hbef a ha
    · exact cmp_trans _ _ _ (hbef a ha) (haft b hb)

theorem ins_all : ∀ (ws out : List (List UInt8)), Asc out → Asc (ws.foldl insS out) ∧ (ws.foldl insS out).Perm (ws ++ out)
  | [], out, h => ⟨h, List.Perm.refl _⟩
  | x :: r, out, h => by
    have ih := ins_all r (insS out x) (insS_asc h x)
    refine ⟨ih.1, ih.2.trans ?_⟩
    refine (List.Perm.append_left r (insS_perm out x)).trans ?_
    exact List.perm_middle
theorem ins_srt (ws : List (List UInt8)) : ws.foldl insS [] = srt ws := by
  have h := ins_all ws [] List.Pairwise.nil
  rw [List.append_nil] at h
  exact asc_unique h.1 (srt_asc ws) (h.2.trans (srt_perm ws).symm)

/-- How many of texts come ahead of one. -/
def ahdS (s : List UInt8) (ws : List (List UInt8)) : Nat := ws.countP fun x => decide (compareBytes x s < 0)
theorem ahd_snoc {ws : List (List UInt8)} {k : Nat} {t : List UInt8} (s : List UInt8) (h : ws[k]? = some t) : ahdS s (ws.take (k + 1)) = ahdS s (ws.take k) + (if Op.bytesLess t s then 1 else 0) := by
  obtain ⟨hk, rfl⟩ := List.getElem?_eq_some_iff.1 h
  unfold ahdS
  rw [List.take_succ_eq_append_getElem hk, List.countP_append, List.countP_singleton, less_eq]
  simp only [cmp_neg, decide_eq_true_eq]
theorem ahd_le (s : List UInt8) (ws : List (List UInt8)) : ahdS s ws ≤ ws.length := List.countP_le_length
theorem mem_snoc {ws : List (List UInt8)} {k : Nat} {t : List UInt8} (s : List UInt8) (h : ws[k]? = some t) : decide (s ∈ ws.take (k + 1)) = (decide (s ∈ ws.take k) || (t == s)) := by
  obtain ⟨hk, rfl⟩ := List.getElem?_eq_some_iff.1 h
  rw [List.take_succ_eq_append_getElem hk]
  have e : ∀ a b : List UInt8, (a == b) = decide (b = a) := fun a b => by
    rw [Bool.eq_iff_iff]; simp; exact eq_comm
  rw [e, Bool.eq_iff_iff]
  simp only [List.mem_append, List.mem_singleton, decide_eq_true_eq, Bool.or_eq_true]

/-- What a search tells of texts in order. -/
theorem find_there {s : List UInt8} : ∀ {ws : List (List UInt8)}, Asc ws → (decide (ahdS s ws < ws.length) && decide (compareBytes (ws[ahdS s ws]?.getD []) s = 0)) = decide (s ∈ ws)
  | [], _ => by simp [ahdS]
  | x :: r, h => by
    have hr : Asc r := (List.pairwise_cons.1 h).2
    have hx := (List.pairwise_cons.1 h).1
    by_cases hlt : compareBytes x s < 0
    · have e : ahdS s (x :: r) = ahdS s r + 1 := by
        unfold ahdS; rw [List.countP_cons_of_pos (by simpa using hlt)]
      rw [e]
      have ih := find_there (s := s) hr
      have hne : s ≠ x := fun he => by subst he; rw [(cmp_zero s s).2 rfl] at hlt; omega
      simpa [hne] using ih
    · have e : ahdS s (x :: r) = 0 := by
        unfold ahdS
        rw [List.countP_eq_zero]
        intro y hy
        simp only [decide_eq_true_eq]
        rw [List.mem_cons] at hy
        rcases hy with rfl | hy
        · exact hlt
        · have h1 := hx y hy
          intro h2
          have := cmp_trans _ _ _ h1 (Int.le_of_lt h2)
          have h3 : compareBytes x s = 0 := by omega
          have h4 := (cmp_zero x s).1 h3
          subst h4
          have h5 : compareBytes x y = 0 := by rw [cmp_swap x y] at h2; omega
          have h6 := (cmp_zero x y).1 h5
          subst h6
          omega
      rw [e]
      by_cases hs : compareBytes x s = 0
      · have := (cmp_zero x s).1 hs
        subst this
        simp [hs]
      · have hne : s ≠ x := fun he => by subst he; exact hs ((cmp_zero s s).2 rfl)
        have hnr : s ∉ r := fun hm => by have := hx s hm; omega
        simp [hs, hne, hnr]

theorem ahd_mono {s : List UInt8} {ws : List (List UInt8)} (h : Asc ws) {i j : Nat} {a b : List UInt8} (hij : i ≤ j) (ha : ws[i]? = some a) (hb : ws[j]? = some b) (hlt : compareBytes b s < 0) : compareBytes a s < 0 := by
  have h1 := h.at hij ha hb
  have h2 := cmp_trans _ _ _ h1 (Int.le_of_lt hlt)
  rcases Int.lt_or_eq_of_le h2 with h3 | h3
  · exact h3
  · have := (cmp_zero a s).1 h3
    subst this
    rw [cmp_swap b a] at h1
    omega

/-- The place of the first text that is there again. -/
def twS (seen : List (List UInt8)) : List (List UInt8) → Nat → Int
  | [], _ => -1
  | t :: r, k => if t ∈ seen then k else twS (seen ++ [t]) r (k + 1)
theorem tw_hit {ws : List (List UInt8)} {k : Nat} {t : List UInt8} (h : ws[k]? = some t) (hm : t ∈ ws.take k) : twS (ws.take k) (ws.drop k) k = k := by
  obtain ⟨hk, rfl⟩ := List.getElem?_eq_some_iff.1 h
  rw [List.drop_eq_getElem_cons hk, twS, if_pos hm]
theorem tw_miss {ws : List (List UInt8)} {k : Nat} {t : List UInt8} (h : ws[k]? = some t) (hm : t ∉ ws.take k) : twS (ws.take k) (ws.drop k) k = twS (ws.take (k + 1)) (ws.drop (k + 1)) (k + 1) := by
  obtain ⟨hk, rfl⟩ := List.getElem?_eq_some_iff.1 h
  rw [List.drop_eq_getElem_cons hk, twS, if_neg hm, List.take_succ_eq_append_getElem hk]
theorem tw_end (ws : List (List UInt8)) : twS (ws.take ws.length) (ws.drop ws.length) ws.length = -1 := by
  rw [List.drop_length]; rfl

/-- What each text shares with the one ahead. -/
def shrS : List UInt8 → List (List UInt8) → List Int
  | _, [] => []
  | a, t :: r => (preL a t : Int) :: shrS t r
def shr (ws : List (List UInt8)) : List Int := shrS [] ws
theorem shrS_length : ∀ (a : List UInt8) (ws : List (List UInt8)), (shrS a ws).length = ws.length
  | _, [] => rfl
  | a, t :: r => by simp [shrS, shrS_length t r]
theorem shr_length (ws : List (List UInt8)) : (shr ws).length = ws.length := shrS_length _ _
theorem shrS_get : ∀ (a : List UInt8) (ws : List (List UInt8)) (j : Nat) {b c : List UInt8}, (a :: ws)[j]? = some b → ws[j]? = some c → (shrS a ws)[j]? = some (preL b c : Int)
  | a, t :: r, 0, b, c, h1, h2 => by simp at h1 h2; subst h1; subst h2; rfl
  | a, t :: r, j + 1, b, c, h1, h2 => by
    rw [List.getElem?_cons_succ] at h1 h2
    have := shrS_get t r j h1 h2
    simpa [shrS] using this
theorem shr_zero {ws : List (List UInt8)} (h : 0 < ws.length) : (shr ws)[0]? = some 0 := by
  obtain ⟨c, hc⟩ : ∃ c, ws[0]? = some c := ⟨ws[0], List.getElem?_eq_getElem h⟩
  have := shrS_get [] ws 0 (b := []) rfl hc
  rw [preL_nil] at this
  exact this
theorem shr_get {ws : List (List UInt8)} {j : Nat} {b c : List UInt8} (h1 : ws[j]? = some b) (h2 : ws[j + 1]? = some c) : (shr ws)[j + 1]? = some (preL b c : Int) :=
  shrS_get [] ws (j + 1) (by rw [List.getElem?_cons_succ]; exact h1) h2
end Go.Proofs.YtmgcdhcidojdhaaGreat

namespace Go.Proofs.YtmgcdhcidojdhaaGreat
open Go.RowKit

/-- A slice that holds these texts. -/
def IsStrs (w : World) (a : Option Addr) (len : Nat) (ws : List (List UInt8)) : Prop :=
  ws.length = len ∧ (len = 0 ∨ ∃ b off, a = some ⟨b, off, none⟩ ∧ ∀ i (h : i < ws.length), w.cell? ⟨b, off + i, none⟩ = some (.string ⟨(ws[i]'h).toArray⟩))

theorem IsStrs.below {w w' : World} {a : Option Addr} {len : Nat} {ws : List (List UInt8)} (h : IsStrs w a len ws) (hb : Below w.heap.size w w') : IsStrs w' a len ws := by
  obtain ⟨hl, h⟩ := h
  refine ⟨hl, ?_⟩
  rcases h with h | ⟨b, off, ha, hc⟩
  · exact .inl h
  · refine .inr ⟨b, off, ha, fun i hi => ?_⟩
    have h1 := hc i hi
    rw [hb.cell (p := ⟨b, off + i, none⟩) (World.block_lt_of_cell? w _ h1)]
    exact h1

/-- One of them: where it lies. -/
theorem str_at {w wr : World} {a : Option Addr} {len : Nat} {ws : List (List UInt8)} (h : IsStrs w a len ws) (hb : Below w.heap.size w wr) (k : Nat) (hk : k < len) :
    ∃ b off, a = some ⟨b, off, none⟩ ∧ ∃ t, ws[k]? = some t ∧ wr.cell? ⟨b, off + k, none⟩ = some (.string ⟨t.toArray⟩) := by
  obtain ⟨hl, h⟩ := h.below hb
  rcases h with h | ⟨b, off, ha, hc⟩
  · omega
  · have hkl : k < ws.length := by omega
    exact ⟨b, off, ha, ws[k], List.getElem?_eq_getElem hkl, hc k hkl⟩

/-- The cells of texts. -/
def txCells (ws : List (List UInt8)) : List Value := ws.map fun t => .string ⟨t.toArray⟩
theorem txCells_snoc (ws : List (List UInt8)) (t : List UInt8) : txCells (ws ++ [t]) = txCells ws ++ [.string ⟨t.toArray⟩] := by simp [txCells]

theorem owns_strs {w : World} {base : Nat} {e : TypeId} {v : Value} {ws : List (List UInt8)} (h : w.ownsRow base e 1 v ws.length (txCells ws)) :
    ∃ ao cap, v = .slice ao ws.length cap ∧ IsStrs w ao ws.length ws := by
  rcases h.2 with ⟨hv, h0⟩ | ⟨g, cap, cur, hv, _⟩
  · have h0' : ws.length = 0 := h0
    exact ⟨none, 0, by rw [h0']; exact hv, rfl, .inl h0'⟩
  · refine ⟨some ⟨g, 0, none⟩, cap, hv, rfl, .inr ⟨g, 0, rfl, fun i hi => ?_⟩⟩
    have hc := h.cells (g := g) (by rw [hv]; rfl) i (.string ⟨(ws[i]'hi).toArray⟩) (by simp [txCells, List.getElem?_eq_getElem hi])
    rwa [addPlain] at hc

theorem tx_below {w w' : World} {base : Nat} {e : TypeId} {size : Nat} {v : Value} {n : Nat} {xs : List Value} (h : w.ownsRow base e size v n xs) (hb : Below w.heap.size w w') : w'.ownsRow base e size v n xs :=
  h.kept (row := none) ⟨hb.os, hb.tape, hb.output, hb.size, fun k hk _ => hb.block k hk⟩ (Classical.em _)

theorem below_drewS {B : Nat} {a w : World} (h : Below B a w) (n : Nat) : Below B a (w.drewN n) := h.trans ⟨rfl, rfl, rfl, Nat.le_refl _, fun _ _ => rfl⟩

/-- A list of words, as an answer: a slice of the call's own; nothing that was there is written. -/
def RetL (ws : List (List UInt8)) (w : World) (e : Ending) (w' : World) : Prop := ∃ (a : Option Addr) (cap : Nat), e = .returned (.slice a ws.length cap) ∧ IsStrs w' a ws.length ws ∧ Below w.heap.size w w'
theorem RetL.mk {ws R : List (List UInt8)} {w w' : World} {e : Ending} {a : Option Addr} {cap : Nat} (h : ws = R) (he : e = .returned (.slice a R.length cap)) (hf : IsStrs w' a R.length R) (hb : Below w.heap.size w w') : RetL ws w e w' := by
  subst h; exact ⟨a, cap, he, hf, hb⟩

theorem string_info : (Tryz.prog.info? 9).map (fun i => (i.zero, i.size, i.bytes)) = some (some (.string ByteArray.empty), 1, 16) := by kernel_rfl

/-- A text's one cell, in a block of its own. -/
theorem one_news {w : World} {X : Nat} {T : TypeId} {u : Value} (h : w.heap[X]? = some (.cells #[u] T (0, 0))) : ∀ j x, [u][j]? = some x → w.cell? ((⟨X, 0, none⟩ : Addr).add j) = some x := by
  intro j x hj
  match j, hj with
  | 0, hj => simp at hj; subst hj; simp [Addr.add, World.cell?, h]
theorem str_one {d : ByteArray} : ∀ x ∈ [Value.string d], x.oneCell' = true := by
  intro x hx
  simp at hx
  subst hx; rfl

theorem ext_cut (l : List UInt8) (st k : Nat) : (⟨l.toArray⟩ : ByteArray).extract st k = ⟨((l.take k).drop st).toArray⟩ := by
  rw [Lib.extract_eq]
  simp only [ByteArray.mk.injEq]
  rw [List.drop_take]
theorem ext_rest (l : List UInt8) (st : Nat) : (⟨l.toArray⟩ : ByteArray).extract st l.length = ⟨(l.drop st).toArray⟩ := by
  rw [ext_cut, List.take_length]
theorem cut_none (l : List UInt8) (k : Nat) : (l.take k).drop k = [] := List.drop_eq_nil_of_le (List.length_take_le _ _)

/-- Texts in one block of their own. -/
theorem strs_heap {w : World} {g n : Nat} {ws : List (List UInt8)} {T : TypeId} (h : w.heap[g]? = some (.cells (txCells ws).toArray T (0, 0))) (hn : ws.length = n) : IsStrs w (some ⟨g, 0, none⟩) n ws := by
  refine ⟨hn, .inr ⟨g, 0, rfl, fun i hi => ?_⟩⟩
  rw [Nat.zero_add, Lib.cell_of_heap h]
  simp [txCells, List.getElem?_eq_getElem hi]
end Go.Proofs.YtmgcdhcidojdhaaGreat

namespace Go.Proofs.YtmgcdhcidojdhaaGreat
open Go.RowKit


/-- Are they few, and short? -/
def fewB (ws : List (List UInt8)) (m n : Nat) : Bool := decide (ws.length ≤ m) && ws.all fun t => decide (t.length ≤ n)
theorem few_iff (ws : List (List UInt8)) (m n : Nat) : fewB ws m n = true ↔ ws.length ≤ m ∧ ∀ t ∈ ws, t.length ≤ n := by
  unfold fewB
  simp only [Bool.and_eq_true, decide_eq_true_eq, List.all_eq_true]
theorem few_no {ws : List (List UInt8)} {m n : Nat} (h : ¬ (ws.length ≤ m ∧ ∀ t ∈ ws, t.length ≤ n)) : fewB ws m n = false := by
  rw [Bool.eq_false_iff]
  exact fun e => h ((few_iff ws m n).1 e)
theorem mem_take_snoc {ws : List (List UInt8)} {k : Nat} {t x : List UInt8} (h : ws[k]? = some t) (hx : x ∈ ws.take (k + 1)) : x ∈ ws.take k ∨ x = t := by
  obtain ⟨hk, rfl⟩ := List.getElem?_eq_some_iff.1 h
  rw [List.take_succ_eq_append_getElem hk, List.mem_append, List.mem_singleton] at hx
  exact hx
theorem mem_take_last {ws : List (List UInt8)} {k : Nat} {t : List UInt8} (h : ws[k]? = some t) : t ∈ ws.take (k + 1) := by
  obtain ⟨hk, rfl⟩ := List.getElem?_eq_some_iff.1 h
  rw [List.take_succ_eq_append_getElem hk]
  exact List.mem_append_right _ (List.mem_singleton.2 rfl)

end Go.Proofs.YtmgcdhcidojdhaaGreat

namespace Go.Proofs.YtmgcdhcidojdhaaGreat
open Go.RowKit

theorem builder_info : (Tryz.prog.info? 87).map (·.size) = some 2 := by kernel_rfl
theorem builder_lies : liesAt Tryz.prog Tryz.prog.depth 87 (2 / Tryz.prog.cellsOf 87) 0 87 1 = true := by kernel_rfl
theorem byte_info : (Tryz.prog.info? 5).map (fun i => (i.zero, i.size, i.bytes)) = some (some (.int .u8 0), 1, 1) := by kernel_rfl

set_option maxHeartbeats 1000000 in
set_option maxRecDepth 100000 in
theorem copyCheck_used (b : Nat) (w : World) (h0 : w.cell? ⟨b, 0, none⟩ = some (.pointer (some ⟨b, 0, none⟩))) :
    Calls Tryz.prog 62 #[.pointer (some ⟨b, 0, none⟩)] w fun e w' => e = .returned (.tuple #[]) ∧ w' = w := by
  obtain ⟨j, hj, _⟩ := Option.map_eq_some_iff.1 builder_info
  go_enter Tryz.func62, Tryz.ntmps62
  go_wp2
  rw [Lib.run_neq_ptr_same w _ Tryz.underlying85 hj]
  go_wp2
  go_end0
  exact ⟨rfl, rfl⟩

set_option maxHeartbeats 1000000 in
set_option maxRecDepth 100000 in
theorem copyCheck_fresh (b : Nat) (w : World) (h0 : w.cell? ⟨b, 0, none⟩ = some (.pointer none)) (hsh : w.shape? b = some (87, 2)) (hfz : w.frozen? ⟨b, 0, none⟩ = false) :
    Calls Tryz.prog 62 #[.pointer (some ⟨b, 0, none⟩)] w fun e w' => e = .returned (.tuple #[]) ∧ w' = w.setCell ⟨b, 0, none⟩ (.pointer (some ⟨b, 0, none⟩)) := by
  obtain ⟨j, hj, hjs⟩ := Option.map_eq_some_iff.1 builder_info
  go_enter Tryz.func62, Tryz.ntmps62
  go_wp2
  rw [Lib.run_to_unsafe w ⟨b, 0, none⟩ Tryz.underlying85 Tryz.underlying134 hj (by rw [hjs]; decide) hsh (Nat.zero_lt_succ 1)]
  simp only [Result.andThen]
  rw [Oper.upon_value]
  go_wp2
  rw [run_callFunc_extern Tryz.func79 (by kernel_rfl) (by kernel_rfl) (by kernel_rfl) (e := Extern.AbiNoEscape.same) (by kernel_rfl)]
  rw [Lib.run_noEscape]
  simp only [Result.andThen]
  rw [Oper.upon_value]
  go_wp2
  rw [Lib.run_from_unsafe w ⟨b, 0, none⟩ Tryz.underlying134 Tryz.underlying85 hj hsh builder_lies]
  simp only [Result.andThen]
  rw [Oper.upon_value]
  go_wp2
  go_end0
  exact ⟨rfl, rfl⟩

/-- All blocks but b, of elements of another type, are as they were. -/
def Kept (b : Nat) (e : TypeId) (w w' : World) : Prop := ∀ x cs T fr, x ≠ b → T ≠ e → w.heap[x]? = some (.cells cs T fr) → w'.heap[x]? = some (.cells cs T fr)

theorem Kept.refl (b : Nat) (e : TypeId) (w : World) : Kept b e w w := fun _ _ _ _ _ _ h => h
theorem Kept.trans {b : Nat} {e : TypeId} {w w' w2 : World} (h : Kept b e w w') (h2 : Kept b e w' w2) : Kept b e w w2 := fun x cs T fr hx hT hh => h2 x cs T fr hx hT (h x cs T fr hx hT hh)
theorem Kept.below {b : Nat} {e : TypeId} {w w' : World} (h : Below w.heap.size w w') : Kept b e w w' := fun x cs T fr _ _ hh => by
  rw [h.block x (heap_lt hh)]; exact hh
theorem Kept.setCell {b : Nat} {e : TypeId} {w w' : World} (h : Kept b e w w') (o : Nat) (v : Value) : Kept b e w (w'.setCell ⟨b, o, none⟩ v) := fun x cs T fr hx hT hh => by
  rw [Below.heap_setCell _ _ _ _ hx]; exact h x cs T fr hx hT hh
theorem Kept.grown {b : Nat} {e : TypeId} {w w1 w' : World} {B n : Nat} {v : Value} {xs : List Value} (h : Kept b e w w1) (hown : w1.ownsRow B e 1 v n xs) (hg : w1.grownBy w' v.ownBlock) : Kept b e w w' := fun x cs T fr hx hT hh => by
  have h1 := h x cs T fr hx hT hh
  have hne := Lib.ownBlock_ne hown h1 hT
  rw [hg.block x (heap_lt h1) (fun e => hne e.symm)]; exact h1
theorem Kept.alloc {b : Nat} {e : TypeId} {w w' : World} (h : Kept b e w w') (o : Obj) : Kept b e w (w'.alloc o) := fun x cs T fr hx hT hh => by
  have h1 := h x cs T fr hx hT hh
  rw [Lib.alloc_old w' _ x (heap_lt h1)]; exact h1

/-- A cell that is there, behind a new block. -/
theorem cell_alloc {w : World} {b j : Nat} {v : Value} (h : w.cell? ⟨b, j, none⟩ = some v) (o : Obj) : (w.alloc o).cell? ⟨b, j, none⟩ = some v := by
  rw [((Below.refl w.heap.size w).alloc (Nat.le_refl _) o).cell (p := ⟨b, j, none⟩) (World.block_lt_of_cell? w _ h)]; exact h
theorem cell_below {w w' : World} {b j : Nat} {v : Value} (h : w.cell? ⟨b, j, none⟩ = some v) (hb : Below w.heap.size w w') : w'.cell? ⟨b, j, none⟩ = some v := by
  rw [hb.cell (p := ⟨b, j, none⟩) (World.block_lt_of_cell? w _ h)]; exact h

theorem copyCheckK (B b : Nat) (bs : List Value) (w : World) (h : Lib.IsBuilder 87 5 B b bs w) :
    Calls Tryz.prog 62 #[.pointer (some ⟨b, 0, none⟩)] w fun e w' => e = .returned (.tuple #[]) ∧ (Lib.BuilderAt 87 5 B b (.pointer (some ⟨b, 0, none⟩)) bs w' ∧ Below B w w' ∧ Kept b 5 w w') := by
  rcases h with h | h
  · refine (copyCheck_fresh b w h.cell0 h.shape h.frozen0).mono ?_
    rintro e w' ⟨rfl, rfl⟩
    exact ⟨rfl, h.used _, (Below.refl B w).setCell (p := ⟨b, 0, none⟩) h.1 _, (Kept.refl _ _ _).setCell _ _⟩
  · refine (copyCheck_used b w h.cell0).mono ?_
    rintro e w' ⟨rfl, rfl⟩
    exact ⟨rfl, h, Below.refl B _, Kept.refl _ _ _⟩

theorem copyCheck (B b : Nat) (bs : List Value) (w : World) (h : Lib.IsBuilder 87 5 B b bs w) :
    Calls Tryz.prog 62 #[.pointer (some ⟨b, 0, none⟩)] w fun e w' => e = .returned (.tuple #[]) ∧ (Lib.BuilderAt 87 5 B b (.pointer (some ⟨b, 0, none⟩)) bs w' ∧ Below B w w') :=
  (copyCheckK B b bs w h).mono fun _ _ ⟨a, b, c, _⟩ => ⟨a, b, c⟩

end Go.Proofs.YtmgcdhcidojdhaaGreat

namespace Go.Proofs.YtmgcdhcidojdhaaGreat

variable {P : Program}

/-- The outcome lies where the slice lay, or in the block that is made next, or nowhere. -/
theorem run_append_to {w w' : World} {v' : Value} (base : Nat) (t ty e : TypeId) (i : TypeInfo) (z : Value) (size bytes : Nat) (ht : P.underlying t = some (.slice e)) (hi : P.info? e = some i) (hz : i.zero = some z)
    (hsize : i.size = size) (hby : i.bytes = bytes) (hzs : z.cells.size = size) (hsz : 0 < size)
    (v : Value) (n : Nat) (xs : List Value) (hown : w.ownsRow base e size v n xs)
    (a : Addr) (m c : Nat) (news : List Value) (hl : news.length = m * size) (hnews : ∀ j u, news[j]? = some u → w.cell? (a.add j) = some u) (h1 : ∀ u ∈ news, u.oneCell' = true)
    (h63 : n + m ≤ maxLen) (hbytes : (n + m) * bytes ≤ 140737488355328) (hm : 0 < m)
    (hr : (Builtin.append_ #[t, t] ty #[v, .slice (some a) m c]).run P w = .ok v' w') : v'.ownBlock = v.ownBlock ∨ v'.ownBlock = some w.heap.size := by
  subst hsize hby
  have hsmall : n + m ≤ 9223372036854775807 := by simp only [maxLen] at h63; omega
  rcases hown.2 with ⟨rfl, rfl⟩ | ⟨g, cap, cur, rfl, hbg, hg, hnc, hcm, hcs, htake⟩
  · have h2 := run_append_nil (P := P) w t ty e i z ht hi hz a m c news hl hnews (by omega) (by omega) (by have hb := hbytes; simp only [Nat.zero_add] at hb; omega)
    rw [h2] at hr
    cases hr
    exact .inr rfl
  · by_cases hroom : n + m ≤ cap
    · have h2 := run_append_room (P := P) w t ty e i ht hi g n cap cur hg a m c news hl hnews h1 hroom (by rw [hl, hcs, ← Nat.add_mul]; exact Nat.mul_le_mul_right _ hroom)
      rw [h2] at hr
      cases hr
      exact .inl rfl
    · have holds : ∀ j u, xs[j]? = some u → w.cell? ((⟨g, 0, none⟩ : Addr).add j) = some u := hown.cells (g := g) rfl
      have h2 := run_append_grow (P := P) w t ty e i z ht hi hz ⟨g, 0, none⟩ n cap xs hown.1 holds a m c news hl hnews (by omega) (by omega) (growslice_fits (by omega) hbytes)
      rw [h2] at hr
      cases hr
      exact .inr rfl

theorem wpList_append_to (w : World) {ops : Array Oper} {rest : List Oper} {o : Oper} {a : Act} {Q : Exit → Act → World → Prop} (hgd : o.guard = none) (s x : Operand) (t : TypeId)
    (ho : o.op = .call { callee := .builtin .append, args := #[s, x], argTypes := #[t, t] })
    (base : Nat) (e : TypeId) (i : TypeInfo) (z : Value) (size bytes : Nat) (ht : P.underlying t = some (.slice e)) (hi : P.info? e = some i) (hz : i.zero = some z)
    (hsize : i.size = size) (hby : i.bytes = bytes) (hzs : z.cells.size = size) (hsz : 0 < size)
    (v : Value) (n : Nat) (xs : List Value) (hs : a.eval s = v) (hown : w.ownsRow base e size v n xs)
    (ad : Addr) (m c : Nat) (news : List Value) (hx : a.eval x = .slice (some ad) m c) (hl : news.length = m * size) (hnews : ∀ j u, news[j]? = some u → w.cell? (ad.add j) = some u) (h1 : ∀ u ∈ news, u.oneCell' = true)
    (h63 : n + m ≤ maxLen) (hbytes : (n + m) * bytes ≤ 140737488355328) (hbase : base ≤ w.heap.size) (hm : 0 < m)
    (h : ∀ v' w', w'.ownsRow base e size v' (n + m) (xs ++ news) → w.grownBy w' v.ownBlock → (v'.ownBlock = v.ownBlock ∨ v'.ownBlock = some w.heap.size) → wpList P ops Q rest (a.put o.dst v') w') : wpList P ops Q (o :: rest) a w := by
  refine wpList_plain hgd fun K hK => ?_
  obtain ⟨v', w', hr, h2, h3, _⟩ := run_append_own (P := P) w base t o.type e i z size bytes ht hi hz hsize hby hzs hsz v n xs hown ad m c news hl hnews h1 h63 hbytes hbase
  have h4 := run_append_to base t o.type e i z size bytes ht hi hz hsize hby hzs hsz v n xs hown ad m c news hl hnews h1 h63 hbytes hm hr
  have hK2 := hK _ _ (h v' w' h2 h3 h4)
  unfold Oper.wp execOp
  simp only [ho, resolve, invoke, builtin, Sem.run_bind, Sem.run_pure, Result.andThen_ok, List.map_toArray, List.map_cons, List.map_nil, hs, hx, hr]
  exact hK2
end Go.Proofs.YtmgcdhcidojdhaaGreat

namespace Go.Proofs.YtmgcdhcidojdhaaGreat

variable {P : Program}

/-- The outcome lies where the slice lay, or in the block that is made next. -/
theorem run_append_toF {w w' : World} {v' : Value} (base : Nat) (t ty e : TypeId) (i : TypeInfo) (z : Value) (size bytes : Nat) (ht : P.underlying t = some (.slice e)) (hi : P.info? e = some i) (hz : i.zero = some z)
    (hsize : i.size = size) (hby : i.bytes = bytes) (hzs : z.cells.size = size) (hsz : 0 < size)
    (v : Value) (n : Nat) (xs : List Value) (hown : w.ownsRowF base e size v n xs)
    (a : Addr) (m c : Nat) (news : List Value) (hl : news.length = m * size) (hnews : ∀ j u, news[j]? = some u → w.cell? (a.add j) = some u) (h1 : ∀ u ∈ news, u.oneCell' = true)
    (h63 : n + m ≤ maxLen) (hbytes : (n + m) * bytes ≤ 140737488355328) (hm : 0 < m)
    (hr : (Builtin.append_ #[t, t] ty #[v, .slice (some a) m c]).run P w = .ok v' w') : v'.ownBlock = v.ownBlock ∨ v'.ownBlock = some w.heap.size := by
  subst hsize hby
  have hsmall : n + m ≤ 9223372036854775807 := by simp only [maxLen] at h63; omega
  rcases hown.2 with ⟨rfl, rfl⟩ | ⟨g, cap, cur, fz, rfl, hbg, hg, hfz, hnc, hcm, hcs, htake⟩
  · have h2 := run_append_nil (P := P) w t ty e i z ht hi hz a m c news hl hnews (by omega) (by omega) (by have hb := hbytes; simp only [Nat.zero_add] at hb; omega)
    rw [h2] at hr
    cases hr
    exact .inr rfl
  · by_cases hroom : n + m ≤ cap
    · have h2 := run_append_roomF (P := P) w t ty e i ht hi g n cap cur fz hg hfz a m c news hl hnews h1 hroom (by rw [hl, hcs, ← Nat.add_mul]; exact Nat.mul_le_mul_right _ hroom)
      rw [h2] at hr
      cases hr
      exact .inl rfl
    · have holds : ∀ j u, xs[j]? = some u → w.cell? ((⟨g, 0, none⟩ : Addr).add j) = some u := hown.cells (g := g) rfl
      have h2 := run_append_grow (P := P) w t ty e i z ht hi hz ⟨g, 0, none⟩ n cap xs hown.1 holds a m c news hl hnews (by omega) (by omega) (growslice_fits (by omega) hbytes)
      rw [h2] at hr
      cases hr
      exact .inr rfl

theorem wpList_append_toF (w : World) {ops : Array Oper} {rest : List Oper} {o : Oper} {a : Act} {Q : Exit → Act → World → Prop} (hgd : o.guard = none) (s x : Operand) (t : TypeId)
    (ho : o.op = .call { callee := .builtin .append, args := #[s, x], argTypes := #[t, t] })
    (base : Nat) (e : TypeId) (i : TypeInfo) (z : Value) (size bytes : Nat) (ht : P.underlying t = some (.slice e)) (hi : P.info? e = some i) (hz : i.zero = some z)
    (hsize : i.size = size) (hby : i.bytes = bytes) (hzs : z.cells.size = size) (hsz : 0 < size)
    (v : Value) (n : Nat) (xs : List Value) (hs : a.eval s = v) (hown : w.ownsRowF base e size v n xs)
    (ad : Addr) (m c : Nat) (news : List Value) (hx : a.eval x = .slice (some ad) m c) (hl : news.length = m * size) (hnews : ∀ j u, news[j]? = some u → w.cell? (ad.add j) = some u) (h1 : ∀ u ∈ news, u.oneCell' = true)
    (h63 : n + m ≤ maxLen) (hbytes : (n + m) * bytes ≤ 140737488355328) (hbase : base ≤ w.heap.size) (hm : 0 < m)
    (h : ∀ v' w', w'.ownsRowF base e size v' (n + m) (xs ++ news) → w.grownBy w' v.ownBlock → (v'.ownBlock = v.ownBlock ∨ v'.ownBlock = some w.heap.size) → wpList P ops Q rest (a.put o.dst v') w') : wpList P ops Q (o :: rest) a w := by
  refine wpList_plain hgd fun K hK => ?_
  obtain ⟨v', w', hr, h2, h3, _⟩ := run_append_ownF (P := P) w base t o.type e i z size bytes ht hi hz hsize hby hzs hsz v n xs hown ad m c news hl hnews h1 h63 hbytes hbase
  have h4 := run_append_toF base t o.type e i z size bytes ht hi hz hsize hby hzs hsz v n xs hown ad m c news hl hnews h1 h63 hbytes hm hr
  have hK2 := hK _ _ (h v' w' h2 h3 h4)
  unfold Oper.wp execOp
  simp only [ho, resolve, invoke, builtin, Sem.run_bind, Sem.run_pure, Result.andThen_ok, List.map_toArray, List.map_cons, List.map_nil, hs, hx, hr]
  exact hK2
end Go.Proofs.YtmgcdhcidojdhaaGreat

namespace Go.Proofs.YtmgcdhcidojdhaaGreat
open Go.RowKit

/-- Behind a call that writes one block of its own: all others below 'base' are as they were. -/
structure But (base b : Nat) (w w' : World) : Prop where
  os : w'.os = w.os
  tape : w'.tape = w.tape
  output : w'.output = w.output
  size : w.heap.size ≤ w'.heap.size
  block : ∀ k, k < base → k ≠ b → w'.heap[k]? = w.heap[k]?

theorem But.refl (base b : Nat) (w : World) : But base b w w := ⟨rfl, rfl, rfl, Nat.le_refl _, fun _ _ _ => rfl⟩
theorem But.trans {base b : Nat} {u v w : World} (h : But base b u v) (k : But base b v w) : But base b u w :=
  ⟨k.os.trans h.os, k.tape.trans h.tape, k.output.trans h.output, Nat.le_trans h.size k.size, fun i hi hb => (k.block i hi hb).trans (h.block i hi hb)⟩
theorem But.below {base b : Nat} {w w' : World} (h : But base b w w') (hb : b ≤ base) : Below b w w' :=
  ⟨h.os, h.tape, h.output, h.size, fun k hk => h.block k (by omega) (by omega)⟩
theorem But.of {base b : Nat} {w w' : World} (h : Below base w w') : But base b w w' := ⟨h.os, h.tape, h.output, h.size, fun k hk _ => h.block k hk⟩

theorem owns_slice {w : World} {base : Nat} {e : TypeId} {v : Value} {n : Nat} {xs : List Value} (h : w.ownsRow base e 1 v n xs) : ∃ a cap, v = .slice a n cap := by
  rcases h.2 with ⟨rfl, rfl⟩ | ⟨g, cap, cur, rfl, _⟩
  · exact ⟨_, _, rfl⟩
  · exact ⟨_, _, rfl⟩

theorem owns_some {w : World} {base : Nat} {e : TypeId} {v : Value} {n : Nat} {xs : List Value} (h : w.ownsRow base e 1 v n xs) (hn : 0 < n) : ∃ g cap, base ≤ g ∧ n ≤ cap ∧ v = .slice (some ⟨g, 0, none⟩) n cap := by
  rcases h.2 with ⟨rfl, rfl⟩ | ⟨g, cap, cur, rfl, hg, _, hc, _⟩
  · omega
  · exact ⟨g, cap, hg, hc, rfl⟩

theorem put_heap {w : World} {b i : Nat} {cs : Array Value} {T : TypeId} (h : w.heap[b]? = some (.cells cs T (0, 0))) (u : Value) : (w.setCell ⟨b, i, none⟩ u).heap[b]? = some (.cells (cs.setIfInBounds i u) T (0, 0)) := by
  simp [World.setCell, Array.getElem?_modify, h]

theorem put_other {w : World} {b i k : Nat} (h : k ≠ b) (u : Value) : (w.setCell ⟨b, i, none⟩ u).heap[k]? = w.heap[k]? := Below.heap_setCell _ _ _ _ h

theorem lt_of_heap {w : World} {b : Nat} {o : Obj} (h : w.heap[b]? = some o) : b < w.heap.size := by
  rcases Nat.lt_or_ge b w.heap.size with h' | h'
  · exact h'
  · simp [Array.getElem?_eq_none h'] at h

/-- All that was stored was stored into block b. -/
structure Into (b : Nat) (w w' : World) : Prop where
  os : w'.os = w.os
  tape : w'.tape = w.tape
  output : w'.output = w.output
  size : w'.heap.size = w.heap.size
  block : ∀ k, k ≠ b → w'.heap[k]? = w.heap[k]?
theorem Into.refl (b : Nat) (w : World) : Into b w w := ⟨rfl, rfl, rfl, rfl, fun _ _ => rfl⟩
theorem Into.set {b : Nat} {w v : World} (h : Into b w v) (i : Nat) (u : Value) : Into b w (v.setCell ⟨b, i, none⟩ u) :=
  ⟨h.os, h.tape, h.output, by rw [← h.size]; simp [World.setCell], fun k hk => (put_other hk u).trans (h.block k hk)⟩
theorem Into.drewN {b : Nat} {w v : World} (h : Into b w v) (n : Nat) : Into b w (v.drewN n) := ⟨h.os, h.tape, h.output, h.size, h.block⟩

theorem Into.owns {base b : Nat} {w w' : World} {e : TypeId} {v : Value} {n : Nat} {xs : List Value} (h : Into b w w') (hb : b < base) (hown : w.ownsRow base e 1 v n xs) : w'.ownsRow base e 1 v n xs := by
  obtain ⟨hl, hx⟩ := hown
  refine ⟨hl, ?_⟩
  rcases hx with hx | ⟨g, cap, cur, hv, hg, hh, r⟩
  · exact .inl hx
  · exact .inr ⟨g, cap, cur, hv, hg, (h.block g (by omega)).trans hh, r⟩
end Go.Proofs.YtmgcdhcidojdhaaGreat

namespace Go.Proofs.YtmgcdhcidojdhaaGreat
open Go.RowKit

/-- All blocks but b and one more are as they were. -/
structure Save (b : Nat) (r : Option Nat) (w w' : World) : Prop where
  os : w'.os = w.os
  tape : w'.tape = w.tape
  output : w'.output = w.output
  size : w.heap.size ≤ w'.heap.size
  block : ∀ k, k < w.heap.size → k ≠ b → some k ≠ r → w'.heap[k]? = w.heap[k]?

/-- A builder that was written, in block X; v: its bytes. -/
def IsText (w : World) (B X : Nat) (v : Value) (l : List UInt8) : Prop :=
  B ≤ X ∧ w.heap[X]? = some (.cells #[.pointer (some ⟨X, 0, none⟩), v] 87 (0, 0)) ∧ w.ownsRowF B 5 1 v l.length (Lib.byteCells l)
theorem IsText.of {w : World} {B X : Nat} {l : List UInt8} (h : Lib.BuilderAt 87 5 B X (.pointer (some ⟨X, 0, none⟩)) (Lib.byteCells l) w) : ∃ v, IsText w B X v l := by
  obtain ⟨h1, v, h2, h3, _⟩ := h
  rw [Lib.byteCells_length] at h3
  exact ⟨v, h1, h2, World.ownsRowF_of h3⟩
theorem IsText.lt {w : World} {B X : Nat} {v : Value} {l : List UInt8} (h : IsText w B X v l) : X < w.heap.size := by
  rcases Nat.lt_or_ge X w.heap.size with h' | h'
  · exact h'
  · have := h.2.1
    simp [Array.getElem?_eq_none h'] at this
/-- Where its bytes lie. -/
theorem IsText.row {w : World} {B X : Nat} {v : Value} {l : List UInt8} (h : IsText w B X v l) {g : Nat} (hg : v.ownBlock = some g) : B ≤ g ∧ g < w.heap.size ∧ g ≠ X ∧ ∃ cs fz, w.heap[g]? = some (.cells cs 5 fz) := by
  obtain ⟨h1, h2, h3⟩ := h
  rcases h3.2 with ⟨rfl, _⟩ | ⟨g', cap, cur, fz, rfl, hb, hh, _⟩
  · simp [Value.ownBlock] at hg
  · simp only [Value.ownBlock, Option.some.injEq] at hg
    subst hg
    refine ⟨hb, ?_, ?_, cur, fz, hh⟩
    · rcases Nat.lt_or_ge g' w.heap.size with h' | h'
      · exact h'
      · simp [Array.getElem?_eq_none h'] at hh
    · rintro rfl
      rw [h2] at hh
      injection hh with hh
      injection hh with h4 h5 h6
      exact absurd h5 (by decide)
theorem IsText.same {w w' : World} {B X : Nat} {v : Value} {l : List UInt8} (h : IsText w B X v l) (hX : w'.heap[X]? = w.heap[X]?) (hr : ∀ g, v.ownBlock = some g → w'.heap[g]? = w.heap[g]?) : IsText w' B X v l := by
  obtain ⟨h1, h2, hl, hx⟩ := h
  refine ⟨h1, hX.trans h2, hl, ?_⟩
  rcases hx with hx | ⟨g, cap, cur, fz, hv, hg, hh, r⟩
  · exact .inl hx
  · exact .inr ⟨g, cap, cur, fz, hv, hg, (hr g (by rw [hv]; rfl)).trans hh, r⟩
theorem IsText.below {w w' : World} {B X : Nat} {v : Value} {l : List UInt8} (h : IsText w B X v l) (hb : Below w.heap.size w w') : IsText w' B X v l :=
  h.same (hb.block X h.lt) (fun g hg => hb.block g (h.row hg).2.1)

theorem bytesF_app (l : List UInt8) (c : UInt8) : Lib.byteCells l ++ [Value.int .u8 (c.toNat : Int)] = Lib.byteCells (l ++ [c]) := by simp [Lib.byteCells]

set_option maxHeartbeats 2000000 in
set_option maxRecDepth 100000 in
theorem lpbyte_any {B X : Nat} {v : Value} {l : List UInt8} {w : World} (c : UInt8) (h : IsText w B X v l) (hlen : l.length ≤ 1000000000) (hBw : B ≤ w.heap.size) :
    Calls Tryz.prog 66 #[.pointer (some ⟨X, 0, none⟩), .int .u8 (c.toNat : Int)] w fun e w' => e = .returned .nilIface ∧ ∃ v', IsText w' B X v' (l ++ [c]) ∧ (v'.ownBlock = v.ownBlock ∨ ∃ g, v'.ownBlock = some g ∧ w.heap.size ≤ g) ∧ Save X v.ownBlock w w' := by
  obtain ⟨i0, hi, hz0, hz1, hz2⟩ := info_parts byte_info
  have hX := h.lt
  have hrow := fun g hg => h.row (g := g) hg
  obtain ⟨hB, hbk, hown⟩ := h
  have c0 : w.cell? ⟨X, 0, none⟩ = some (.pointer (some ⟨X, 0, none⟩)) := by rw [Lib.cell_of_heap hbk]; rfl
  have c1 : w.cell? ⟨X, 1, none⟩ = some v := by rw [Lib.cell_of_heap hbk]; rfl
  go_enter Tryz.func66, Tryz.ntmps66
  go_wp2_with (go_at_call 62; refine (copyCheck_used X _ c0).mono ?_)
  rintro e w1 ⟨rfl, hw1⟩
  obtain rfl := hw1.symm
  clear hw1
  go_wp2_with (at_builtin; refine wpList_append_toF _ rfl _ _ 80 rfl B 5 i0 (.int .u8 0) 1 1 Tryz.underlying80 hi hz0 hz1 hz2 rfl (by decide) _ _ _ rfl (hown.alloc _) ⟨w.heap.size, 0, none⟩ 1 1 [.int .u8 (c.toNat : Int)] rfl rfl ?c1 ?c2 ?c3 ?c4 ?c5 ?c6 ?_)
  case c1 =>
    intro j u hj
    match j, hj with
    | 0, hj => simp at hj; subst hj; simp [Addr.add]
  case c2 => intro u hu; simp at hu; subst hu; rfl
  case c3 => unfold maxLen; omega
  case c4 => omega
  case c5 => simp; omega
  case c6 => omega
  intro v' w2 hown' hgrow hto
  have hgr : ∀ k, k < w.heap.size → some k ≠ v.ownBlock → w2.heap[k]? = w.heap[k]? := fun k hk hne => by
    rw [hgrow.block k (by simp; omega) hne, Lib.alloc_old w _ k hk]
  have hb2 : w2.heap[X]? = some (.cells #[.pointer (some ⟨X, 0, none⟩), v] 87 (0, 0)) := by
    rw [hgr X hX (fun e => (hrow X e.symm).2.2.1 rfl)]
    exact hbk
  have d0 : w2.cell? ⟨X, 0, none⟩ = some (.pointer (some ⟨X, 0, none⟩)) := by rw [Lib.cell_of_heap hb2]; rfl
  have d1 : w2.cell? ⟨X, 1, none⟩ = some v := by rw [Lib.cell_of_heap hb2]; rfl
  have f1 : w2.frozen? ⟨X, 1, none⟩ = false := Lib.frozen_of_heap hb2 1
  obtain ⟨g, cap, rfl⟩ : ∃ g cap, v' = .slice (some ⟨g, 0, none⟩) (l.length + 1) cap := by
    rcases hown'.2 with ⟨_, h0⟩ | ⟨g, cap, cur, fz, hv, _⟩
    · omega
    · exact ⟨g, cap, hv⟩
  have HO := Lib.hid hown'
  have HG := Lib.hid hgr
  have HT := Lib.hid hto
  have HS := Lib.hid hgrow
  have HB2 := Lib.hid hb2
  clear hown' hgr hto hgrow hrow hown
  go_wp2
  go_ret
  refine ⟨rfl, _, ⟨hB, (put_heap HB2.out _).trans rfl, ?_⟩, ?_, HS.out.os, HS.out.tape, HS.out.output, ?_, fun k hk h1 h2 => (put_other h1 _).trans (HG.out k hk h2)⟩
  · have e : (l ++ [c]).length = l.length + 1 := by simp
    rw [← bytesF_app, e]
    have hne : (Value.slice (some ⟨g, 0, none⟩) (l.length + 1) cap).ownBlock ≠ some X := Lib.ownBlock_neF HO.out HB2.out (by decide)
    exact HO.out.kept (row := some X) ⟨rfl, rfl, rfl, by simp [World.setCell], fun k _ hk => Below.heap_setCell _ _ _ _ (fun e => hk (by simp [e]))⟩ (Or.inr hne)
  · rcases HT.out with h | h
    · exact .inl h
    · exact .inr ⟨_, h, by simp⟩
  · have := HS.out.size
    simp [World.setCell] at this ⊢
    omega

set_option maxHeartbeats 2000000 in
set_option maxRecDepth 100000 in
/-- String: the bytes are frozen; all else is as it was. -/
theorem lpstr_any {B X : Nat} {v : Value} {l : List UInt8} {w : World} (h : IsText w B X v l) (h0 : l ≠ []) :
    Calls Tryz.prog 45 #[.pointer (some ⟨X, 0, none⟩)] w fun e w' => e = .returned (.string ⟨l.toArray⟩) ∧ IsText w' B X v l ∧ Save X v.ownBlock w w' := by
  have hrow := fun g hg => h.row (g := g) hg
  obtain ⟨hB, hbk, hown⟩ := h
  have hl0 : l.length ≠ 0 := by simpa using h0
  obtain ⟨g, cap, cur, fz, rfl, hbg, hg, hfz, hnc, hcm, hcs, htake⟩ : ∃ g cap cur fz, v = .slice (some ⟨g, 0, none⟩) l.length cap ∧ B ≤ g ∧ w.heap[g]? = some (.cells cur 5 fz) ∧ fz.2 ≤ l.length * 1 ∧ l.length ≤ cap ∧ cap ≤ maxLen ∧ cur.size = cap * 1 ∧ cur.toList.take (l.length * 1) = Lib.byteCells l := by
    rcases hown.2 with ⟨_, hz⟩ | ⟨g, cap, cur, fz, hv, r⟩
    · exact absurd hz hl0
    · exact ⟨g, cap, cur, fz, hv, r⟩
  have hA : Lib.BuilderAtF 87 5 B X (.pointer (some ⟨X, 0, none⟩)) (Lib.byteCells l) w.drew := ⟨hB, _, hbk, by rw [Lib.byteCells_length]; exact hown, fun e => (hrow X e).2.2.1 rfl⟩
  have c1 : w.drew.cell? ⟨X, 1, none⟩ = some (.slice (some ⟨g, 0, none⟩) l.length cap) := by
    have : w.drew.heap[X]? = some (.cells #[.pointer (some ⟨X, 0, none⟩), .slice (some ⟨g, 0, none⟩) l.length cap] 87 (0, 0)) := hbk
    rw [Lib.cell_of_heap this]; rfl
  have hF := hA.froze (g := g) (cap := cap) (by rw [Lib.byteCells_length]; exact c1)
  rw [Lib.byteCells_length] at hF
  have hgX : g ≠ X := (hrow g rfl).2.2.1
  have hSD : (Builtin.unsafeSliceData_ #[80] 113 #[.slice (some ⟨g, 0, none⟩) l.length cap]).run Tryz.prog w.drew = .ok (.pointer (some ⟨g, 0, none⟩)) w.drew :=
    Lib.run_unsafeSliceData_row _ _ _ _ _ _ (by omega)
  have hUS : (Builtin.unsafeString_ #[113, 3] 9 #[.pointer (some ⟨g, 0, none⟩), .int .i64 l.length]).run Tryz.prog w.drew = .ok (.string ⟨l.toArray⟩) (w.drew.freeze ⟨g, 0, none⟩ l.length) := by
    refine Lib.run_unsafeString_row w.drew 113 3 9 5 Tryz.underlying113 (by kernel_rfl) g cur.size (by have hg' : w.drew.heap[g]? = some (.cells cur 5 fz) := hg; simp [World.shape?, hg']) l h0 (by omega) (by unfold maxLen at hcm; omega) ?_
    intro j x hx
    have := hown.cells (g := g) rfl j (.int .u8 x.toNat) (by simp [Lib.byteCells, hx])
    exact this
  have hfin : IsText (w.drew.freeze ⟨g, 0, none⟩ l.length) B X (.slice (some ⟨g, 0, none⟩) l.length cap) l := by
    obtain ⟨k1, v', k2, k3, _⟩ := hF
    have e : (w.drew.freeze ⟨g, 0, none⟩ l.length).heap[X]? = w.heap[X]? := (Lib.below_freeze (B := g) (w := w.drew) (Below.refl g w.drew) (p := ⟨g, 0, none⟩) (Nat.le_refl _) l.length |> fun h => by
      unfold World.freeze
      rw [if_neg hl0]
      simp only [Array.getElem?_modify]
      rw [if_neg hgX]
      rfl)
    rw [e, hbk] at k2
    injection k2 with k2
    injection k2 with k4 k5 k6
    simp at k4
    subst k4
    rw [Lib.byteCells_length] at k3
    exact ⟨hB, e.trans hbk, k3⟩
  have hsav : Save X (some g) w (w.drew.freeze ⟨g, 0, none⟩ l.length) := by
    refine ⟨?_, ?_, ?_, ?_, fun k hk h1 h2 => ?_⟩ <;> unfold World.freeze <;> rw [if_neg hl0]
    · rfl
    · rfl
    · rfl
    · simp
    · simp only [Array.getElem?_modify]
      rw [if_neg (fun e => h2 (by rw [← e]))]
      rfl
  have HFIN := Lib.hid hfin
  have HSAV := Lib.hid hsav
  clear hfin hsav hF hA hrow
  go_enter Tryz.func45, Tryz.ntmps45
  go_wp2
  go_region
  all_goals (go_wp2; go_ret; exact ⟨rfl, HFIN.out, HSAV.out⟩)
end Go.Proofs.YtmgcdhcidojdhaaGreat

namespace Go.Proofs.YtmgcdhcidojdhaaGreat
open Go.RowKit

/-- What stands of a text behind one end, up to another one. -/
def midL (s : List UInt8) (f t : Nat) : List UInt8 := (s.take t).drop f
theorem midL_length (s : List UInt8) (f t : Nat) (ht : t ≤ s.length) : (midL s f t).length = t - f := by
  unfold midL
  rw [List.length_drop, List.length_take]
  omega
theorem midL_none (s : List UInt8) (f : Nat) : midL s f f = [] := List.eq_nil_of_length_eq_zero (by unfold midL; rw [List.length_drop, List.length_take]; omega)
theorem midL_whole (s : List UInt8) (f : Nat) : midL s f s.length = s.drop f := by unfold midL; rw [List.take_length]
theorem midL_get (s : List UInt8) (f t j : Nat) (ht : t ≤ s.length) (hj : j < t - f) : (midL s f t)[j]? = s[f + j]? := by
  unfold midL
  rw [List.getElem?_drop, List.getElem?_take, if_pos (by omega)]

/-- The byte of an end, if it is kept. -/
def byK (s : List UInt8) (done keep : Nat) (e : Int) : Option UInt8 := if (done : Int) - keep < e ∧ 0 < e ∧ e ≤ s.length then s[(e - 1).toNat]? else none
/-- The last bytes up to an end, if they are told. -/
def tlK (s : List UInt8) (done keep : Nat) (e : Int) : Option (List UInt8) := if (done : Int) ≤ e ∧ e ≤ s.length then some (midL s (e.toNat - keep) e.toNat) else none
/-- These, as an answer. -/
def byR : Option UInt8 → Value × Bool
  | none => (.int .u8 0, false)
  | some x => (.int .u8 (x.toNat : Int), true)
def tlR : Option (List UInt8) → Value × Bool
  | none => (.string ⟨#[]⟩, false)
  | some l => (.string ⟨l.toArray⟩, true)
def cvR (p : Value × Bool) : Ending := .returned (.tuple #[p.1, .bool p.2])

/-- A carry that lies in block b; its bytes lie in a block from 'base' on, if there are any. -/
def IsCarry (w : World) (base b keep : Nat) (s : List UInt8) (done : Nat) : Prop :=
  b < base ∧ base ≤ w.heap.size ∧ 1 ≤ keep ∧ keep ≤ 65536 ∧ done ≤ s.length ∧ ∃ (gone : Nat) (v : Value), gone ≤ done - keep ∧
    w.heap[b]? = some (.cells #[.int .i64 keep, v, .int .i64 s.length, .int .i64 done] 82 (0, 0)) ∧
    w.ownsRow base 5 1 v (s.length - gone) (Lib.byteCells (s.drop gone))

theorem IsCarry.drewN {w : World} {base b keep done : Nat} {s : List UInt8} (h : IsCarry w base b keep s done) (n : Nat) : IsCarry (w.drewN n) base b keep s done := h
theorem IsCarry.drew {w : World} {base b keep done : Nat} {s : List UInt8} (h : IsCarry w base b keep s done) : IsCarry w.drew base b keep s done := h
theorem IsCarry.lt {w : World} {base b keep done : Nat} {s : List UInt8} (h : IsCarry w base b keep s done) : b < w.heap.size := by
  obtain ⟨h1, h2, _⟩ := h
  omega
/-- Where its own blocks are as they were it is one still. -/
theorem IsCarry.same {w w' : World} {base b keep done : Nat} {s : List UInt8} (h : IsCarry w base b keep s done) (hs : w.heap.size ≤ w'.heap.size) (hb : w'.heap[b]? = w.heap[b]?) (hk : ∀ k, base ≤ k → k < w.heap.size → w'.heap[k]? = w.heap[k]?) : IsCarry w' base b keep s done := by
  obtain ⟨h1, h2, h3, h4, h5, gone, v, h6, h7, hl, hx⟩ := h
  refine ⟨h1, by omega, h3, h4, h5, gone, v, h6, hb.trans h7, hl, ?_⟩
  rcases hx with hx | ⟨g, cap, cur, hv, hg, hh, r⟩
  · exact .inl hx
  · exact .inr ⟨g, cap, cur, hv, hg, (hk g hg (lt_of_heap hh)).trans hh, r⟩
theorem IsCarry.below {w w' : World} {base b keep done : Nat} {s : List UInt8} (h : IsCarry w base b keep s done) (hb : Below w.heap.size w w') : IsCarry w' base b keep s done :=
  h.same hb.size (hb.block b h.lt) (fun k _ hk => hb.block k hk)
/-- .. and where another block is written, ahead of its bytes. -/
theorem IsCarry.apart {w w' : World} {base b keep done B c : Nat} {s : List UInt8} (h : IsCarry w base b keep s done) (hk : But B c w w') (hB : w.heap.size ≤ B) (hc : c < base) (hcb : c ≠ b) : IsCarry w' base b keep s done :=
  h.same hk.size (hk.block b (by have := h.lt; omega) (fun e => hcb e.symm)) (fun k h1 h2 => hk.block k (by omega) (by omega))

/-- What its cells hold. -/
theorem carry_reads {w : World} {b keep seen done : Nat} {v : Value} (h : w.heap[b]? = some (.cells #[.int .i64 keep, v, .int .i64 seen, .int .i64 done] 82 (0, 0))) :
    (w.cell? ⟨b, 0, none⟩ = some (.int .i64 keep) ∧ w.cell? ⟨b, 1, none⟩ = some v ∧ w.cell? ⟨b, 2, none⟩ = some (.int .i64 seen) ∧ w.cell? ⟨b, 3, none⟩ = some (.int .i64 done)) ∧
    w.frozen? ⟨b, 1, none⟩ = false ∧ w.frozen? ⟨b, 2, none⟩ = false ∧ w.frozen? ⟨b, 3, none⟩ = false := by
  refine ⟨⟨?_, ?_, ?_, ?_⟩, Lib.frozen_of_heap h 1, Lib.frozen_of_heap h 2, Lib.frozen_of_heap h 3⟩ <;> rw [Lib.cell_of_heap h] <;> rfl

/-- A carry to which nothing came. -/
theorem carry_new {w : World} {base b keep : Nat} (h1 : 1 ≤ keep) (h2 : keep ≤ 65536) (hb : b < base) (hB : base ≤ w.heap.size) (hh : w.heap[b]? = some (.cells #[.int .i64 keep, .slice none 0 0, .int .i64 0, .int .i64 0] 82 (0, 0))) : IsCarry w base b keep [] 0 :=
  ⟨hb, hB, h1, h2, Nat.le_refl _, 0, .slice none 0 0, by omega, hh, World.ownsRow_nil _ _ _ _⟩

/-- A slice of bytes, in memory. -/
def Piece (w : World) (v : Value) (l : List UInt8) : Prop :=
  ∃ (a : Option Addr) (cap : Nat), v = .slice a l.length cap ∧ (0 < l.length → ∃ g off, a = some ⟨g, off, none⟩ ∧ l.length ≤ cap ∧ ∀ j (hj : j < l.length), w.cell? ⟨g, off + j, none⟩ = some (.int .u8 ((l[j]'hj).toNat : Int)))
theorem Piece.heap {w w' : World} {v : Value} {l : List UInt8} (h : Piece w v l) (hw : w'.heap = w.heap) : Piece w' v l := by
  obtain ⟨a, cap, rfl, h1⟩ := h
  refine ⟨a, cap, rfl, fun hl => ?_⟩
  obtain ⟨g, off, rfl, h2, h3⟩ := h1 hl
  exact ⟨g, off, rfl, h2, fun j hj => (World.cell?_of_block (w := w) (by rw [hw])).trans (h3 j hj)⟩
/-- Its cells. -/
theorem Piece.cells {w : World} {v : Value} {l : List UInt8} (h : Piece w v l) : ∃ (a : Option Addr) (cap : Nat), v = .slice a l.length cap ∧ (0 < l.length → ∃ g off, a = some ⟨g, off, none⟩ ∧ l.length ≤ cap ∧ ∀ j u, (Lib.byteCells l)[j]? = some u → w.cell? ((⟨g, off, none⟩ : Addr).add j) = some u) := by
  obtain ⟨a, cap, rfl, h1⟩ := h
  refine ⟨a, cap, rfl, fun hl => ?_⟩
  obtain ⟨g, off, rfl, h2, h3⟩ := h1 hl
  refine ⟨g, off, rfl, h2, fun j u hu => ?_⟩
  have hj : j < l.length := by
    rcases Nat.lt_or_ge j l.length with h | h
    · exact h
    · simp [Lib.byteCells, h] at hu
  rw [addPlain, h3 j hj]
  simp only [Lib.byteCells, List.getElem?_map, List.getElem?_eq_getElem hj, Option.map_some] at hu
  exact hu
/-- .. as a string says it. -/
theorem Piece.text {w : World} {v : Value} {l : List UInt8} (h : Piece w v l) : (convert 80 9 v).run Tryz.prog w = .ok (.string ⟨l.toArray⟩) w := by
  obtain ⟨a, cap, rfl, h1⟩ := h
  rcases Nat.eq_zero_or_pos l.length with h0 | h0
  · obtain rfl := List.eq_nil_of_length_eq_zero h0
    cases a with
    | none =>
      rw [run_convert_bytes_string w 80 9 5 none _ cap Tryz.underlying80 Tryz.underlying5 Tryz.underlying9]
      rfl
    | some p => exact run_convert_bytes_back w 80 9 5 p cap [] Tryz.underlying80 Tryz.underlying5 Tryz.underlying9 (fun j hj => by simp at hj)
  · obtain ⟨g, off, rfl, _, h3⟩ := h1 h0
    exact run_convert_bytes_back w 80 9 5 _ cap l Tryz.underlying80 Tryz.underlying5 Tryz.underlying9 (fun j hj => by rw [addPlain]; exact h3 j hj)
end Go.Proofs.YtmgcdhcidojdhaaGreat
