/-
  Texts put together: PnM, Str, IntsB, But, LpG, RecM, RecIn, RecRow, RecsIn, OwnNo, MgG, PnG, Ints, Oth, OthG, RcMi.
-/
import Derived.Test.YtlfofdgeaigpbaaBn3
import Derived.Test.YtlfofdgeaigpbaaRcM
import Derived.Test.YtlfofdgeaigpbaaBn1
import Derived.Test.YtlfofdgeaigpbaaRows
import Derived.Below
import Derived.Laws.AppendOwn
import Derived.WalkKit
import Derived.WalkSpells
import Derived.WalkLawsBesides
import Derived.Lib.Hide
import Derived.Lib.Strings
import Derived.Deep.QuietTactic
import Derived.BigQuiet
import Derived.Laws.CopyOwn
import Derived.Lib.SmallJoins
import Derived.ChangeArms
import Derived.KernelRfl
import Derived.Deep.SlicePairs
import Derived.ChangeSlices
import Derived.Laws.OwnMore
set_option linter.unusedSimpArgs false
set_option linter.unusedVariables false
namespace Go.Proofs.Ytlfofdgeaigpbaa

/-- The kind of the last one, or 0. -/
def lastK (l : List Rv) : Int := match l.getLast? with | none => 0 | some y => y.k
theorem lastK_nil : lastK [] = 0 := rfl
theorem lastK_snoc (l : List Rv) (x : Rv) : lastK (l ++ [x]) = x.k := by simp [lastK]
/-- Like records put together: the last one's kind is the same. -/
theorem lastK_all (l : List Rv) : lastK (mgAll l) = lastK l := by
  refine mg_ind (P := fun l => lastK (mgAll l) = lastK l) rfl (fun l x ih => ?_) l
  rw [mga_snoc, lastK_snoc]
  rcases mgs_cases (mgAll l) x with ⟨e, h⟩ | ⟨o, y, e, ht, h⟩ | ⟨o, y, e, ht, h⟩ <;> rw [h]
  · rfl
  · rw [lastK_snoc]
    exact (mg2_yes ht).2.2.1.symm
  · rw [lastK_snoc]

/-- What is told of records that were put together: all, but for the last one, if that is no End. -/
def tdL (bt : Rv → List UInt8) : List Rv → List UInt8
  | [] => []
  | [x] => if x.k = 6 then bt x else []
  | x :: y :: l => bt x ++ tdL bt (y :: l)
theorem tdL_nil (bt : Rv → List UInt8) : tdL bt [] = [] := rfl
theorem tdL_one (bt : Rv → List UInt8) (x : Rv) : tdL bt [x] = if x.k = 6 then bt x else [] := rfl
theorem tdL_more (bt : Rv → List UInt8) (x y : Rv) (l : List Rv) : tdL bt (x :: y :: l) = bt x ++ tdL bt (y :: l) := rfl
theorem tdL_snoc (bt : Rv → List UInt8) : ∀ (o : List Rv) (y : Rv), tdL bt (o ++ [y]) = o.flatMap bt ++ (if y.k = 6 then bt y else [])
  | [], y => rfl
  | [x], y => by simp [tdL]
  | x :: z :: l, y => by
    have ih := tdL_snoc bt (z :: l) y
    simp only [List.cons_append] at ih ⊢
    rw [tdL_more, ih]
    simp
/-- What is told when one more comes. -/
def pnNew (bt : Rv → List UInt8) (A : List Rv) (x : Rv) : List UInt8 :=
  match A.getLast? with
  | none => if x.k = 6 then bt x else []
  | some y => if twoB y x = true then [] else bt y ++ (if x.k = 6 then bt x else [])
theorem pnn_nil (bt : Rv → List UInt8) (x : Rv) : pnNew bt [] x = if x.k = 6 then bt x else [] := rfl
theorem pnn_hit (bt : Rv → List UInt8) {o : List Rv} {y x : Rv} (h : twoB y x = true) : pnNew bt (o ++ [y]) x = [] := by simp [pnNew, h]
theorem pnn_miss (bt : Rv → List UInt8) {o : List Rv} {y x : Rv} (h : twoB y x = false) : pnNew bt (o ++ [y]) x = bt y ++ (if x.k = 6 then bt x else []) := by simp [pnNew, h]
theorem td_step (bt : Rv → List UInt8) (l : List Rv) (x : Rv) (h6 : lastK l ≠ 6) : tdL bt (mgAll (l ++ [x])) = tdL bt (mgAll l) ++ pnNew bt (mgAll l) x := by
  rw [← lastK_all] at h6
  rw [mga_snoc]
  rcases mgs_cases (mgAll l) x with ⟨e, h⟩ | ⟨o, y, e, ht, h⟩ | ⟨o, y, e, ht, h⟩ <;> rw [h]
  · rw [e, pnn_nil, tdL_one, tdL_nil, List.nil_append]
  · have hy : y.k ≠ 6 := by rw [e, lastK_snoc] at h6; exact h6
    have hp : (plusR y x).k ≠ 6 := hy
    rw [e, pnn_hit bt ht, tdL_snoc, tdL_snoc, if_neg hy, if_neg hp]
    simp
  · have hy : y.k ≠ 6 := by rw [e, lastK_snoc] at h6; exact h6
    rw [e, pnn_miss bt ht, tdL_snoc, tdL_snoc, if_neg hy]
    simp

/-- May a record come behind others? -/
def mayE (ok : Rv → Bool) (l : List Rv) (x : Rv) : Int :=
  if lastK l = 6 then 12 else if ok x = false then 2 else if x.k = 5 ∧ (l.length = 0 ∨ lastK l = 5) then 9 else 0
theorem may_end {ok : Rv → Bool} {l : List Rv} {x : Rv} (h : lastK l = 6) : mayE ok l x = 12 := if_pos h
theorem may_bad {ok : Rv → Bool} {l : List Rv} {x : Rv} (h : lastK l ≠ 6) (h2 : ok x = false) : mayE ok l x = 2 := by rw [mayE, if_neg h, if_pos h2]
theorem may_order {ok : Rv → Bool} {l : List Rv} {x : Rv} (h : lastK l ≠ 6) (h2 : ok x = true) (h3 : x.k = 5 ∧ (l.length = 0 ∨ lastK l = 5)) : mayE ok l x = 9 := by rw [mayE, if_neg h, if_neg (by rw [h2]; decide), if_pos h3]
theorem may_ok {ok : Rv → Bool} {l : List Rv} {x : Rv} (h : lastK l ≠ 6) (h2 : ok x = true) (h3 : ¬ (x.k = 5 ∧ (l.length = 0 ∨ lastK l = 5))) : mayE ok l x = 0 := by rw [mayE, if_neg h, if_neg (by rw [h2]; decide), if_neg h3]
theorem may_yes {ok : Rv → Bool} {l : List Rv} {x : Rv} (h : mayE ok l x = 0) : lastK l ≠ 6 ∧ ok x = true ∧ ¬ (x.k = 5 ∧ (l.length = 0 ∨ lastK l = 5)) := by
  by_cases h1 : lastK l = 6
  · rw [may_end h1] at h; cases h
  cases h2 : ok x with
  | false => rw [may_bad h1 h2] at h; cases h
  | true =>
    refine ⟨h1, rfl, fun h3 => ?_⟩
    rw [may_order h1 h2 h3] at h; cases h
/-- The first error, as one goes. -/
def mayS (ok : Rv → Bool) : List Rv → List Rv → Int
  | _, [] => 0
  | p, x :: l => if mayE ok p x = 0 then mayS ok (p ++ [x]) l else mayE ok p x
/-- Why records have no certificate, or 0. -/
def whE (ok : Rv → Bool) (l : List Rv) : Int := if mayS ok [] l = 0 then (if lastK l = 6 then 0 else 19) else mayS ok [] l
theorem mayS_good {ok : Rv → Bool} {p : List Rv} {x : Rv} {l : List Rv} (h : mayE ok p x = 0) : mayS ok p (x :: l) = mayS ok (p ++ [x]) l := by rw [mayS, if_pos h]
theorem mayS_bad {ok : Rv → Bool} {p : List Rv} {x : Rv} {l : List Rv} (h : mayE ok p x ≠ 0) : mayS ok p (x :: l) = mayE ok p x := by rw [mayS, if_neg h]
theorem mayS_app {ok : Rv → Bool} : ∀ (l p m : List Rv), mayS ok p (l ++ m) = if mayS ok p l = 0 then mayS ok (p ++ l) m else mayS ok p l
  | [], p, m => by simp [mayS]
  | x :: l, p, m => by
    by_cases h : mayE ok p x = 0
    · rw [List.cons_append, mayS_good h, mayS_good h, mayS_app l (p ++ [x]) m]
      simp
    · rw [List.cons_append, mayS_bad h, mayS_bad h, if_neg h]
theorem mayS_snoc {ok : Rv → Bool} (l : List Rv) (x : Rv) : mayS ok [] (l ++ [x]) = if mayS ok [] l = 0 then mayE ok l x else mayS ok [] l := by
  rw [mayS_app]
  by_cases h : mayS ok [] l = 0
  · rw [if_pos h, if_pos h, List.nil_append]
    by_cases h2 : mayE ok l x = 0
    · rw [mayS_good h2, h2]; rfl
    · rw [mayS_bad h2]
  · rw [if_neg h, if_neg h]
/-- All that came might come: where one goes on. -/
theorem mayS_next {ok : Rv → Bool} {l : List Rv} {x : Rv} {i : Nat} (hx : l[i]? = some x) (h : mayS ok [] (l.take i) = 0) : (mayE ok (l.take i) x = 0 → mayS ok [] (l.take (i + 1)) = 0) ∧ (mayE ok (l.take i) x ≠ 0 → mayS ok [] l = mayE ok (l.take i) x) := by
  obtain ⟨hi, rfl⟩ := List.getElem?_eq_some_iff.1 hx
  refine ⟨fun h2 => ?_, fun h2 => ?_⟩
  · rw [List.take_succ_eq_append_getElem hi, mayS_snoc, if_pos h, h2]
  · have e : l = l.take i ++ l[i] :: l.drop (i + 1) := by rw [← List.drop_eq_getElem_cons hi, List.take_append_drop]
    conv => lhs; rw [e]
    rw [mayS_app, if_pos h, List.nil_append, mayS_bad h2]

/-- Nothing is left to be put together. -/
theorem mgc_any (l : List Rv) : CanonL (mgAll l) := by
  refine mg_ind (P := fun l => CanonL (mgAll l)) (fun i x y h => by simp [mga_nil] at h) (fun l x ih => ?_) l
  rw [mga_snoc]
  rcases mgs_cases (mgAll l) x with ⟨e, h⟩ | ⟨o, y, e, ht, h⟩ | ⟨o, y, e, ht, h⟩ <;> rw [h]
  · intro i u v hu hv
    rw [List.getElem?_eq_none (by simp)] at hv; cases hv
  · rw [e] at ih
    refine ih.front.snoc fun z hz => ?_
    have hzy := ih.last hz
    have t := mg2_yes ht
    refine mg2_no fun q => ?_
    obtain ⟨q1, q2, q3, q4, q5, q6, q7, q8, q9⟩ := q
    simp only [plusR] at q3 q4 q9
    rw [mg2_mk ⟨q1, q2, q3, q4, q5, t.2.2.2.2.1, q7, t.2.2.2.2.2.2.1, by omega⟩] at hzy
    cases hzy
  · rw [e] at ih
    refine ih.snoc fun z hz => ?_
    simp at hz
    subst hz
    exact ht
theorem mga_twice (l : List Rv) : mgAll (mgAll l) = mgAll l := mgc_all _ (mgc_any l)

/-- Records that may be written: put together they may be, too. -/
theorem may_all {ok : Rv → Bool} (h2 : ∀ y x, ok y = true → ok x = true → twoB y x = true → ok (plusR y x) = true) (l : List Rv) : mayS ok [] l = 0 → mayS ok [] (mgAll l) = 0 := by
  refine mg_ind (P := fun l => mayS ok [] l = 0 → mayS ok [] (mgAll l) = 0) (fun h => h) (fun l x ih h => ?_) l
  rw [mayS_snoc] at h
  have hl : mayS ok [] l = 0 := by
    by_cases hl : mayS ok [] l = 0
    · exact hl
    · rw [if_neg hl] at h; exact h
  rw [if_pos hl] at h
  have i := ih hl
  obtain ⟨a1, a2, a3⟩ := may_yes h
  have k := lastK_all l
  rw [mga_snoc]
  rcases mgs_cases (mgAll l) x with ⟨e, h'⟩ | ⟨o, y, e, ht, h'⟩ | ⟨o, y, e, ht, h'⟩ <;> rw [h']
  · rw [e] at k
    have h5 : ¬ x.k = 5 := by
      rcases mg_cases l with rfl | ⟨o, y, rfl⟩
      · exact fun h => a3 ⟨h, .inl rfl⟩
      · obtain ⟨o2, y2, h⟩ := mga_pos o y
        rw [h] at e
        simp at e
    show mayS ok [] ([] ++ [x]) = 0
    rw [mayS_snoc, if_pos (show mayS ok [] [] = 0 from rfl)]
    exact may_ok (by rw [lastK_nil]; decide) a2 (fun h => h5 h.1)
  · rw [e] at i
    rw [mayS_snoc] at i ⊢
    have ho : mayS ok [] o = 0 := by
      by_cases ho : mayS ok [] o = 0
      · exact ho
      · rw [if_neg ho] at i; exact absurd i ho
    rw [if_pos ho] at i ⊢
    obtain ⟨b1, b2, b3⟩ := may_yes i
    have t := mg2_yes ht
    exact may_ok b1 (h2 y x b2 a2 ht) (fun h => by have : (plusR y x).k = y.k := rfl; omega)
  · rw [← e, mayS_snoc, if_pos i]
    refine may_ok (by rw [k]; exact a1) a2 (fun h => ?_)
    rcases h with ⟨q, q2 | q2⟩
    · rw [e] at q2; simp at q2
    · rw [k] at q2
      exact a3 ⟨q, .inr q2⟩
theorem wh_all {ok : Rv → Bool} (h2 : ∀ y x, ok y = true → ok x = true → twoB y x = true → ok (plusR y x) = true) (l : List Rv) (h : whE ok l = 0) : whE ok (mgAll l) = 0 := by
  unfold whE at h ⊢
  by_cases hs : mayS ok [] l = 0
  · rw [if_pos hs] at h
    rw [if_pos (may_all h2 l hs), lastK_all]
    exact h
  · rw [if_neg hs] at h; exact absurd h hs
/-- What is told is of what may be written. -/
theorem may_each {ok : Rv → Bool} : ∀ (l p : List Rv), mayS ok p l = 0 → ∀ x ∈ l, ok x = true
  | [], _, _, x, hx => by cases hx
  | y :: l, p, h, x, hx => by
    by_cases hy : mayE ok p y = 0
    · rw [mayS_good hy] at h
      rcases List.mem_cons.1 hx with rfl | hx
      · exact (may_yes hy).2.1
      · exact may_each l _ h x hx
    · rw [mayS_bad hy] at h; exact absurd h hy
theorem td_len {bt : Rv → List UInt8} {n : Nat} : ∀ (l : List Rv), (∀ x ∈ l, (bt x).length ≤ n) → (tdL bt l).length ≤ n * l.length
  | [], _ => by simp [tdL]
  | [x], h => by
    have := h x (by simp)
    rw [tdL_one]
    split <;> simp <;> omega
  | x :: y :: l, h => by
    have h1 := h x (by simp)
    have ih := td_len (y :: l) (fun z hz => h z (by simp [List.mem_cons] at hz ⊢; exact .inr hz))
    rw [tdL_more, List.length_append]
    simp only [List.length_cons, Nat.mul_succ] at ih ⊢
    omega

/-- The numbers of a record are few: so are its bytes. -/
theorem vall_len : ∀ (l : List Int), (∀ x ∈ l, x ≤ 9223372036854775807) → (vall l).length ≤ 9 * l.length
  | [], _ => by simp [vall]
  | x :: l, h => by
    have h1 := vput_length x (h x (by simp))
    have ih := vall_len l (fun y hy => h y (by simp [hy]))
    simp only [vall, List.length_append, List.length_cons]
    omega
theorem dif_most : ∀ (l : List Int) (a : Int), -1 ≤ a → risF a l = true → ∀ x ∈ difL (if a = -1 then 0 else a) l, x ≤ 65535
  | [], a, h0, h, x, hx => by simp [difL] at hx
  | y :: r, a, h0, h, x, hx => by
    obtain ⟨h1, h2, h3⟩ := ris_cons.1 h
    simp only [difL, List.mem_cons] at hx
    rcases hx with rfl | hx
    · split <;> omega
    · have := dif_most r y (by omega) h3 x
      rw [if_neg (by omega)] at this
      exact this hx
theorem putK_len {k n r : Int} {ids : List Int} (h : okK k n r ids = true) (hl : ids.length ≤ 30) : (putK k n r ids).length ≤ 300 := by
  unfold putK numsL
  rw [List.length_cons]
  by_cases h4 : k = 4
  · obtain ⟨_, _, h3⟩ := (ok_at h4).1 h
    rw [if_pos h4]
    have hd := dif_most ids (-1) (by omega) h3
    rw [if_pos rfl] at hd
    have := vall_len ((ids.length : Int) :: difL 0 ids) (fun x hx => by
      rcases List.mem_cons.1 hx with rfl | hx
      · omega
      · have := hd x hx; omega)
    rw [List.length_cons, dif_len] at this
    omega
  · obtain ⟨_, h2, h3, _⟩ := (ok_no h4).1 h
    rw [if_neg h4]
    have b1 := fit_bounds h2
    have b2 := fit_bounds h3
    have := vall_len [n, r] (fun x hx => by simp at hx; omega)
    simp only [List.length_cons, List.length_nil] at this
    omega
/-- Two that may be written, put together. -/
theorem okK_plus {x y : Rv} {zs ys : List Int} (hy : okK y.k y.n y.r ys = true) (hx : okK x.k x.n x.r zs = true) (ht : twoB y x = true) : okK y.k y.n (y.r + x.r) [] = true := by
  have t := mg2_yes ht
  have h4 : ¬ y.k = 4 := by omega
  obtain ⟨h1, h2, h3, _⟩ := (ok_no h4).1 hy
  refine (ok_no h4).2 ⟨h1, h2, ?_, rfl⟩
  unfold fitK leastK
  rw [if_neg (by omega)]
  simp only [Bool.and_eq_true, decide_eq_true_eq]
  exact ⟨ofs_mk (by omega) (by omega), by omega⟩
end Go.Proofs.Ytlfofdgeaigpbaa

namespace Go.Proofs.Ytlfofdgeaigpbaa
open Go.RowKit

/-- A slice that holds these texts. -/
def IsStrs (w : World) (a : Option Addr) (len : Nat) (ws : List (List UInt8)) : Prop :=
  ws.length = len ∧ (len = 0 ∨ ∃ b off, a = some ⟨b, off, none⟩ ∧ ∀ i (h : i < ws.length), w.cell? ⟨b, off + i, none⟩ = some (.string ⟨(ws[i]'h).toArray⟩))

theorem IsStrs.below {w w' : World} {a : Option Addr} {len : Nat} {ws : List (List UInt8)} (h : IsStrs w a len ws) (hb : Below w.heap.size w w') : IsStrs w' a len ws := by
  obtain ⟨hl, h⟩ := h
  refine ⟨hl, ?_⟩
  rcases h with h | ⟨b, off, ha, hc⟩
  · exact .inl h
  · refine .inr ⟨b, off, ha, fun i hi => ?_⟩
    have h1 := hc i hi
    rw [hb.cell (p := ⟨b, off + i, none⟩) (World.block_lt_of_cell? w _ h1)]
    exact h1

/-- One of them: where it lies. -/
theorem str_at {w wr : World} {a : Option Addr} {len : Nat} {ws : List (List UInt8)} (h : IsStrs w a len ws) (hb : Below w.heap.size w wr) (k : Nat) (hk : k < len) :
    ∃ b off, a = some ⟨b, off, none⟩ ∧ ∃ t, ws[k]? = some t ∧ wr.cell? ⟨b, off + k, none⟩ = some (.string ⟨t.toArray⟩) := by
  obtain ⟨hl, h⟩ := h.below hb
  rcases h with h | ⟨b, off, ha, hc⟩
  · omega
  · have hkl : k < ws.length := by omega
    exact ⟨b, off, ha, ws[k], List.getElem?_eq_getElem hkl, hc k hkl⟩

/-- The cells of texts. -/
def txCells (ws : List (List UInt8)) : List Value := ws.map fun t => .string ⟨t.toArray⟩
theorem txCells_snoc (ws : List (List UInt8)) (t : List UInt8) : txCells (ws ++ [t]) = txCells ws ++ [.string ⟨t.toArray⟩] := by simp [txCells]

theorem owns_strs {w : World} {base : Nat} {e : TypeId} {v : Value} {ws : List (List UInt8)} (h : w.ownsRow base e 1 v ws.length (txCells ws)) :
    ∃ ao cap, v = .slice ao ws.length cap ∧ IsStrs w ao ws.length ws := by
  rcases h.2 with ⟨hv, h0⟩ | ⟨g, cap, cur, hv, _⟩
  · have h0' : ws.length = 0 := h0
    exact ⟨none, 0, by rw [h0']; exact hv, rfl, .inl h0'⟩
  · refine ⟨some ⟨g, 0, none⟩, cap, hv, rfl, .inr ⟨g, 0, rfl, fun i hi => ?_⟩⟩
    have hc := h.cells (g := g) (by rw [hv]; rfl) i (.string ⟨(ws[i]'hi).toArray⟩) (by simp [txCells, List.getElem?_eq_getElem hi])
    rwa [addPlain] at hc

theorem tx_below {w w' : World} {base : Nat} {e : TypeId} {size : Nat} {v : Value} {n : Nat} {xs : List Value} (h : w.ownsRow base e size v n xs) (hb : Below w.heap.size w w') : w'.ownsRow base e size v n xs :=
  h.kept (row := none) ⟨hb.os, hb.tape, hb.output, hb.size, fun k hk _ => hb.block k hk⟩ (Classical.em _)

theorem below_drewS {B : Nat} {a w : World} (h : Below B a w) (n : Nat) : Below B a (w.drewN n) := h.trans ⟨rfl, rfl, rfl, Nat.le_refl _, fun _ _ => rfl⟩

/-- A list of words, as an answer: a slice of the call's own; nothing that was there is written. -/
def RetL (ws : List (List UInt8)) (w : World) (e : Ending) (w' : World) : Prop := ∃ (a : Option Addr) (cap : Nat), e = .returned (.slice a ws.length cap) ∧ IsStrs w' a ws.length ws ∧ Below w.heap.size w w'
theorem RetL.mk {ws R : List (List UInt8)} {w w' : World} {e : Ending} {a : Option Addr} {cap : Nat} (h : ws = R) (he : e = .returned (.slice a R.length cap)) (hf : IsStrs w' a R.length R) (hb : Below w.heap.size w w') : RetL ws w e w' := by
  subst h; exact ⟨a, cap, he, hf, hb⟩

theorem string_info : (Try.prog.info? 9).map (fun i => (i.zero, i.size, i.bytes)) = some (some (.string ByteArray.empty), 1, 16) := by kernel_rfl

/-- A text's one cell, in a block of its own. -/
theorem one_news {w : World} {X : Nat} {T : TypeId} {u : Value} (h : w.heap[X]? = some (.cells #[u] T (0, 0))) : ∀ j x, [u][j]? = some x → w.cell? ((⟨X, 0, none⟩ : Addr).add j) = some x := by
  intro j x hj
  match j, hj with
  | 0, hj => simp at hj; subst hj; simp [Addr.add, World.cell?, h]
theorem str_one {d : ByteArray} : ∀ x ∈ [Value.string d], x.oneCell' = true := by
  intro x hx
  simp at hx
  subst hx; rfl

theorem ext_cut (l : List UInt8) (st k : Nat) : (⟨l.toArray⟩ : ByteArray).extract st k = ⟨((l.take k).drop st).toArray⟩ := by
  rw [Lib.extract_eq]
  simp only [ByteArray.mk.injEq]
  rw [List.drop_take]
theorem ext_rest (l : List UInt8) (st : Nat) : (⟨l.toArray⟩ : ByteArray).extract st l.length = ⟨(l.drop st).toArray⟩ := by
  rw [ext_cut, List.take_length]
theorem cut_none (l : List UInt8) (k : Nat) : (l.take k).drop k = [] := List.drop_eq_nil_of_le (List.length_take_le _ _)

/-- Texts in one block of their own. -/
theorem strs_heap {w : World} {g n : Nat} {ws : List (List UInt8)} {T : TypeId} (h : w.heap[g]? = some (.cells (txCells ws).toArray T (0, 0))) (hn : ws.length = n) : IsStrs w (some ⟨g, 0, none⟩) n ws := by
  refine ⟨hn, .inr ⟨g, 0, rfl, fun i hi => ?_⟩⟩
  rw [Nat.zero_add, Lib.cell_of_heap h]
  simp [txCells, List.getElem?_eq_getElem hi]
end Go.Proofs.Ytlfofdgeaigpbaa

namespace Go.Proofs.Ytlfofdgeaigpbaa
open Go.RowKit

theorem int_info : (Try.prog.info? 3).map (fun i => (i.zero, i.size, i.bytes)) = some (some (.int .i64 0), 1, 8) := by kernel_rfl

/-- The cells of numbers. -/
def inCells (zs : List Int) : List Value := zs.map (Value.int .i64)
theorem inCells_snoc (zs : List Int) (x : Int) : inCells (zs ++ [x]) = inCells zs ++ [.int .i64 x] := by simp [inCells]

theorem owns_ints {w : World} {base : Nat} {e : TypeId} {v : Value} {zs : List Int} (h : w.ownsRow base e 1 v zs.length (inCells zs)) :
    ∃ ao cap, v = .slice ao zs.length cap ∧ (zs.length = 0 ∨ ∃ g, ao = some ⟨g, 0, none⟩ ∧ base ≤ g ∧ g < w.heap.size ∧ ∀ i, i < zs.length → w.cell? ⟨g, 0 + i, none⟩ = some (.int .i64 (zs.getD i 0))) := by
  rcases h.2 with ⟨hv, h0⟩ | ⟨g, cap, cur, hv, hg, _⟩
  · have h0' : zs.length = 0 := h0
    exact ⟨none, 0, by rw [h0']; exact hv, .inl h0'⟩
  · have hlt := h.lt (k := g) (by rw [hv]; rfl)
    refine ⟨some ⟨g, 0, none⟩, cap, hv, .inr ⟨g, rfl, hlt.1, hlt.2, fun i hi => ?_⟩⟩
    have hc := h.cells (g := g) (by rw [hv]; rfl) i (.int .i64 (zs.getD i 0)) (by simp [inCells, List.getD, List.getElem?_eq_getElem hi])
    rwa [addPlain] at hc

/-- Numbers in memory: all cells, not just those of a slice that came in. -/
theorem row_of_ints {w : World} {base : Nat} {e : TypeId} {v : Value} {zs : List Int} (h : w.ownsRow base e 1 v zs.length (inCells zs)) (hm : zs.length ≤ maxLen) :
    ∃ ao cap, v = .slice ao zs.length cap ∧ IsRow .i64 w ao zs.length zs.length zs := by
  obtain ⟨ao, cap, hv, h0 | ⟨g, hao, _, _, hc⟩⟩ := owns_ints h
  · exact ⟨ao, cap, hv, .inl h0⟩
  · exact ⟨ao, cap, hv, .inr ⟨g, 0, hao, Nat.le_refl _, hm, rfl, hc⟩⟩

/-- A number's one cell, in a block of its own. -/
theorem int_news {w : World} {X : Nat} {T : TypeId} {u : Value} (h : w.heap[X]? = some (.cells #[u] T (0, 0))) : ∀ j x, [u][j]? = some x → w.cell? ((⟨X, 0, none⟩ : Addr).add j) = some x := one_news h
theorem int_one {x : Int} : ∀ v ∈ [Value.int .i64 x], v.oneCell' = true := by
  intro v hv
  simp at hv
  subst hv; rfl

/-- A list of numbers, as an answer: a slice of the call's own; nothing that was there is written. -/
def RetN (zs : List Int) (w : World) (e : Ending) (w' : World) : Prop := ∃ (v : Value), e = .returned v ∧ w'.ownsRow w.heap.size 3 1 v zs.length (inCells zs) ∧ Below w.heap.size w w'

/-- A list of numbers, to be read: a slice; nothing that was there is written. -/
def RetI (zs : List Int) (w : World) (e : Ending) (w' : World) : Prop := ∃ (a : Option Addr) (cap : Nat), e = .returned (.slice a zs.length cap) ∧ IsRow .i64 w' a zs.length zs.length zs ∧ Below w.heap.size w w'
theorem RetI.of {zs L : List Int} {w0 w w' : World} {v : Value} (e : zs = L) (h : w'.ownsRow w0.heap.size 3 1 v L.length (inCells L)) (hm : L.length ≤ maxLen) (hb : Below w.heap.size w w') : ∃ a cap, v = .slice a L.length cap ∧ RetI zs w (.returned (.slice a L.length cap)) w' := by
  obtain ⟨ao, cap, hv, hr⟩ := row_of_ints h hm
  subst e
  exact ⟨ao, cap, hv, ao, cap, rfl, hr, hb⟩

/-- A row in one block of its own. -/
theorem row_heap {w : World} {g n : Nat} {zs : List Int} {T : TypeId} (h : w.heap[g]? = some (.cells (inCells zs).toArray T (0, 0))) (hn : zs.length = n) (hm : n ≤ maxLen) : IsRow .i64 w (some ⟨g, 0, none⟩) n n zs := by
  refine .inr ⟨g, 0, rfl, Nat.le_refl _, hm, hn, fun i hi => ?_⟩
  rw [Nat.zero_add, Lib.cell_of_heap h]
  simp [inCells, List.getD, List.getElem?_eq_getElem (show i < zs.length by omega)]
end Go.Proofs.Ytlfofdgeaigpbaa

namespace Go.Proofs.Ytlfofdgeaigpbaa
open Go.RowKit

/-- Behind a call that writes one block of its own: all others below 'base' are as they were. -/
structure But (base b : Nat) (w w' : World) : Prop where
  os : w'.os = w.os
  tape : w'.tape = w.tape
  output : w'.output = w.output
  size : w.heap.size ≤ w'.heap.size
  block : ∀ k, k < base → k ≠ b → w'.heap[k]? = w.heap[k]?

theorem But.refl (base b : Nat) (w : World) : But base b w w := ⟨rfl, rfl, rfl, Nat.le_refl _, fun _ _ _ => rfl⟩
theorem But.trans {base b : Nat} {u v w : World} (h : But base b u v) (k : But base b v w) : But base b u w :=
  ⟨k.os.trans h.os, k.tape.trans h.tape, k.output.trans h.output, Nat.le_trans h.size k.size, fun i hi hb => (k.block i hi hb).trans (h.block i hi hb)⟩
theorem But.below {base b : Nat} {w w' : World} (h : But base b w w') (hb : b ≤ base) : Below b w w' :=
  ⟨h.os, h.tape, h.output, h.size, fun k hk => h.block k (by omega) (by omega)⟩
theorem But.of {base b : Nat} {w w' : World} (h : Below base w w') : But base b w w' := ⟨h.os, h.tape, h.output, h.size, fun k hk _ => h.block k hk⟩

theorem owns_slice {w : World} {base : Nat} {e : TypeId} {v : Value} {n : Nat} {xs : List Value} (h : w.ownsRow base e 1 v n xs) : ∃ a cap, v = .slice a n cap := by
  rcases h.2 with ⟨rfl, rfl⟩ | ⟨g, cap, cur, rfl, _⟩
  · exact ⟨_, _, rfl⟩
  · exact ⟨_, _, rfl⟩

theorem owns_some {w : World} {base : Nat} {e : TypeId} {v : Value} {n : Nat} {xs : List Value} (h : w.ownsRow base e 1 v n xs) (hn : 0 < n) : ∃ g cap, base ≤ g ∧ n ≤ cap ∧ v = .slice (some ⟨g, 0, none⟩) n cap := by
  rcases h.2 with ⟨rfl, rfl⟩ | ⟨g, cap, cur, rfl, hg, _, hc, _⟩
  · omega
  · exact ⟨g, cap, hg, hc, rfl⟩

theorem put_heap {w : World} {b i : Nat} {cs : Array Value} {T : TypeId} (h : w.heap[b]? = some (.cells cs T (0, 0))) (u : Value) : (w.setCell ⟨b, i, none⟩ u).heap[b]? = some (.cells (cs.setIfInBounds i u) T (0, 0)) := by
  simp [World.setCell, Array.getElem?_modify, h]

theorem put_other {w : World} {b i k : Nat} (h : k ≠ b) (u : Value) : (w.setCell ⟨b, i, none⟩ u).heap[k]? = w.heap[k]? := Below.heap_setCell _ _ _ _ h

theorem lt_of_heap {w : World} {b : Nat} {o : Obj} (h : w.heap[b]? = some o) : b < w.heap.size := by
  rcases Nat.lt_or_ge b w.heap.size with h' | h'
  · exact h'
  · simp [Array.getElem?_eq_none h'] at h

/-- All that was stored was stored into block b. -/
structure Into (b : Nat) (w w' : World) : Prop where
  os : w'.os = w.os
  tape : w'.tape = w.tape
  output : w'.output = w.output
  size : w'.heap.size = w.heap.size
  block : ∀ k, k ≠ b → w'.heap[k]? = w.heap[k]?
theorem Into.refl (b : Nat) (w : World) : Into b w w := ⟨rfl, rfl, rfl, rfl, fun _ _ => rfl⟩
theorem Into.set {b : Nat} {w v : World} (h : Into b w v) (i : Nat) (u : Value) : Into b w (v.setCell ⟨b, i, none⟩ u) :=
  ⟨h.os, h.tape, h.output, by rw [← h.size]; simp [World.setCell], fun k hk => (put_other hk u).trans (h.block k hk)⟩
theorem Into.drewN {b : Nat} {w v : World} (h : Into b w v) (n : Nat) : Into b w (v.drewN n) := ⟨h.os, h.tape, h.output, h.size, h.block⟩

theorem Into.owns {base b : Nat} {w w' : World} {e : TypeId} {v : Value} {n : Nat} {xs : List Value} (h : Into b w w') (hb : b < base) (hown : w.ownsRow base e 1 v n xs) : w'.ownsRow base e 1 v n xs := by
  obtain ⟨hl, hx⟩ := hown
  refine ⟨hl, ?_⟩
  rcases hx with hx | ⟨g, cap, cur, hv, hg, hh, r⟩
  · exact .inl hx
  · exact .inr ⟨g, cap, cur, hv, hg, (h.block g (by omega)).trans hh, r⟩
end Go.Proofs.Ytlfofdgeaigpbaa

namespace Go.Proofs.Ytlfofdgeaigpbaa
open Go.RowKit

/-- All blocks of cells of a type are as they were. -/
def Keep (T : TypeId) (w w' : World) : Prop := ∀ (k : Nat) (cs : Array Value) (m : Nat × Nat), w.heap[k]? = some (.cells cs T m) → w'.heap[k]? = some (.cells cs T m)
theorem Keep.refl (T : TypeId) (w : World) : Keep T w w := fun _ _ _ h => h
theorem Keep.trans {T : TypeId} {u v w : World} (h : Keep T u v) (k : Keep T v w) : Keep T u w := fun i cs m hh => k i cs m (h i cs m hh)
theorem Keep.below {T : TypeId} {w w' : World} (h : Below w.heap.size w w') : Keep T w w' := fun i cs m hh => (h.block i (heap_lt hh)).trans hh
theorem Keep.heap {T : TypeId} {w w' : World} (e : w'.heap = w.heap) : Keep T w w' := fun i cs m hh => by rw [e]; exact hh
/-- A block of another type. -/
theorem type_ne {w : World} {k b : Nat} {cs ds : Array Value} {T U : TypeId} {m n : Nat × Nat} (h : w.heap[k]? = some (.cells cs T m)) (hb : w.heap[b]? = some (.cells ds U n)) (hT : T ≠ U) : k ≠ b := by
  rintro rfl
  rw [h] at hb
  injection hb with hb
  injection hb with h1 h2 h3
  exact hT h2
theorem Keep.but {T U : TypeId} {b : Nat} {w w' : World} (h : But w.heap.size b w w') {ds : Array Value} {n : Nat × Nat} (hb : w.heap[b]? = some (.cells ds U n)) (hT : T ≠ U) : Keep T w w' := fun i cs m hh =>
  (h.block i (heap_lt hh) (type_ne hh hb hT)).trans hh
theorem Keep.grown {T e : TypeId} {w w' : World} {base size n : Nat} {v : Value} {xs : List Value} (hown : w.ownsRow base e size v n xs) (hg : w.grownBy w' v.ownBlock) (hT : T ≠ e) : Keep T w w' := fun i cs m hh => by
  rw [hg.block i (heap_lt hh) (fun h => ?_)]
  · exact hh
  · rcases hown.2 with ⟨rfl, _⟩ | ⟨g, cap, cur, rfl, _, hb, _⟩
    · simp [Value.ownBlock] at h
    · simp only [Value.ownBlock, Option.some.injEq] at h
      exact type_ne hh hb hT h
theorem Keep.into {T U : TypeId} {b : Nat} {w w' : World} (h : Into b w w') {ds : Array Value} {n : Nat × Nat} (hb : w.heap[b]? = some (.cells ds U n)) (hT : T ≠ U) : Keep T w w' := fun i cs m hh =>
  (h.block i (type_ne hh hb hT)).trans hh
theorem Keep.owns {T : TypeId} {w w' : World} (h : Keep T w w') {base n size : Nat} {v : Value} {xs : List Value} (ho : w.ownsRow base T size v n xs) : w'.ownsRow base T size v n xs := by
  obtain ⟨hl, hx⟩ := ho
  refine ⟨hl, ?_⟩
  rcases hx with hx | ⟨g, cap, cur, hv, hg, hh, r⟩
  · exact .inl hx
  · exact .inr ⟨g, cap, cur, hv, hg, h g _ _ hh, r⟩

/-- A record as it lies: what it is, its slice of numbers. -/
structure Rc where
  R : EvR
  a : Option Addr
  c : Nat
def Rc.sl (x : Rc) : Value := .slice x.a x.R.ids.length x.c
def Rc.val (x : Rc) : Value := .agg #[.int .i64 (x.R.k : Int), .int .i64 (x.R.n : Int), .int .i64 (x.R.r : Int), x.sl]
def Rc.cells (x : Rc) : List Value := [.int .i64 (x.R.k : Int), .int .i64 (x.R.n : Int), .int .i64 (x.R.r : Int), x.sl]
/-- Its numbers. -/
def IdsAt (w : World) (x : Rc) : Prop := x.R.ids.length = 0 ∨ ∃ base, w.ownsRow base 3 1 x.sl x.R.ids.length (inCells x.R.ids)
theorem IdsAt.keep {w w' : World} {x : Rc} (h : IdsAt w x) (hk : Keep 3 w w') : IdsAt w' x := h.elim .inl fun ⟨b, h⟩ => .inr ⟨b, hk.owns h⟩
theorem IdsAt.row {w : World} {x : Rc} (h : IdsAt w x) (hm : x.R.ids.length ≤ maxLen) : IsRow .i64 w x.a x.R.ids.length x.R.ids.length x.R.ids := by
  rcases h with h | ⟨b, h⟩
  · exact .inl h
  · obtain ⟨ao, cap, hv, hr⟩ := row_of_ints h hm
    obtain ⟨R, a, c⟩ := x
    simp only [Rc.sl, Value.slice.injEq] at hv
    obtain ⟨rfl, _, _⟩ := hv
    exact hr

/-- The cells of records. -/
def rcCells (rs : List Rc) : List Value := rs.flatMap Rc.cells
theorem rcCells_app (l k : List Rc) : rcCells (l ++ k) = rcCells l ++ rcCells k := by simp [rcCells]
theorem rcCells_one (x : Rc) : rcCells [x] = x.cells := by simp [rcCells]
theorem rcCells_length : ∀ rs : List Rc, (rcCells rs).length = rs.length * 4
  | [] => rfl
  | x :: l => by
    have e : rcCells (x :: l) = x.cells ++ rcCells l := by simp [rcCells]
    rw [e, List.length_append, rcCells_length l, List.length_cons]
    simp [Rc.cells]
    omega
theorem rcCells_at : ∀ (rs : List Rc) (i : Nat) (x : Rc), rs[i]? = some x → ∀ j, j < 4 → (rcCells rs)[i * 4 + j]? = x.cells[j]?
  | [], i, x, h, _, _ => by simp at h
  | y :: l, 0, x, h, j, hj => by
    simp at h
    subst h
    have e : rcCells (y :: l) = y.cells ++ rcCells l := by simp [rcCells]
    rw [e, List.getElem?_append_left (by simp [Rc.cells]; omega), Nat.zero_mul, Nat.zero_add]
  | y :: l, i + 1, x, h, j, hj => by
    have e : rcCells (y :: l) = y.cells ++ rcCells l := by simp [rcCells]
    rw [e, List.getElem?_append_right (by simp [Rc.cells]; omega)]
    have hl : y.cells.length = 4 := rfl
    rw [hl, show (i + 1) * 4 + j - 4 = i * 4 + j by omega]
    exact rcCells_at l i x (by simpa using h) j hj
theorem rc_one {rs : List Rc} : ∀ u ∈ rcCells rs, u.oneCell' = true := by
  intro u hu
  simp only [rcCells, List.mem_flatMap] at hu
  obtain ⟨x, _, hx⟩ := hu
  simp [Rc.cells, Rc.sl] at hx
  rcases hx with rfl | rfl | rfl | rfl <;> rfl

/-- A slice that holds these records, to be read. -/
def IsRecs (w : World) (a : Option Addr) (rs : List Rc) : Prop :=
  (rs.length = 0 ∨ ∃ b, a = some ⟨b, 0, none⟩ ∧ ∀ j u, (rcCells rs)[j]? = some u → w.cell? ⟨b, j, none⟩ = some u) ∧ ∀ x ∈ rs, IdsAt w x
theorem cells_below {w w' : World} {b j : Nat} {u : Value} (h : w.cell? ⟨b, j, none⟩ = some u) (hb : Below w.heap.size w w') : w'.cell? ⟨b, j, none⟩ = some u := by
  rw [hb.cell (p := ⟨b, j, none⟩) (World.block_lt_of_cell? w _ h)]; exact h
theorem IsRecs.below {w w' : World} {a : Option Addr} {rs : List Rc} (h : IsRecs w a rs) (hb : Below w.heap.size w w') : IsRecs w' a rs := by
  obtain ⟨h1, h2⟩ := h
  refine ⟨?_, fun x hx => (h2 x hx).keep (.below hb)⟩
  rcases h1 with h1 | ⟨b, ha, hc⟩
  · exact .inl h1
  · exact .inr ⟨b, ha, fun j u hu => cells_below (hc j u hu) hb⟩
/-- One of them. -/
theorem IsRecs.get {w : World} {a : Option Addr} {rs : List Rc} (h : IsRecs w a rs) {i : Nat} (hi : i < rs.length) : ∃ b x, a = some ⟨b, 0, none⟩ ∧ rs[i]? = some x ∧ IdsAt w x ∧
    w.cell? ⟨b, i * 4, none⟩ = some (.int .i64 (x.R.k : Int)) ∧ w.cell? ⟨b, i * 4 + 1, none⟩ = some (.int .i64 (x.R.n : Int)) ∧ w.cell? ⟨b, i * 4 + 2, none⟩ = some (.int .i64 (x.R.r : Int)) ∧ w.cell? ⟨b, i * 4 + 3, none⟩ = some (.slice x.a x.R.ids.length x.c) := by
  obtain ⟨h1, h2⟩ := h
  rcases h1 with h1 | ⟨b, ha, hc⟩
  · omega
  · obtain ⟨x, hx⟩ : ∃ x, rs[i]? = some x := ⟨_, List.getElem?_eq_getElem hi⟩
    have hm := rcCells_at rs i x hx
    refine ⟨b, x, ha, hx, h2 x (List.mem_of_getElem? hx), ?_, ?_, ?_, ?_⟩
    · exact hc _ _ (hm 0 (by omega))
    · exact hc _ _ (hm 1 (by omega))
    · exact hc _ _ (hm 2 (by omega))
    · exact hc _ _ (hm 3 (by omega))
/-- Records that are owned, as ones that are read. -/
theorem owns_recs {w : World} {base : Nat} {v : Value} {rs : List Rc} (h : w.ownsRow base 34 4 v rs.length (rcCells rs)) (hi : ∀ x ∈ rs, IdsAt w x) :
    ∃ ao cap, v = .slice ao rs.length cap ∧ IsRecs w ao rs := by
  rcases h.2 with ⟨hv, h0⟩ | ⟨g, cap, cur, hv, _⟩
  · exact ⟨none, 0, by rw [h0]; exact hv, .inl h0, hi⟩
  · refine ⟨some ⟨g, 0, none⟩, cap, hv, .inr ⟨g, rfl, fun j u hu => ?_⟩, hi⟩
    have hc := h.cells (g := g) (by rw [hv]; rfl) j u hu
    rw [addPlain, Nat.zero_add] at hc
    exact hc
theorem owns_form4 {w : World} {base n : Nat} {e : TypeId} {size : Nat} {v : Value} {xs : List Value} (h : w.ownsRow base e size v n xs) : ∃ ao cap, v = .slice ao n cap := by
  rcases h.2 with ⟨hv, h0⟩ | ⟨g, cap, cur, hv, _⟩
  · exact ⟨none, 0, by rw [h0]; exact hv⟩
  · exact ⟨_, _, hv⟩
theorem rec_info : (Try.prog.info? 34).map (fun i => (i.zero, i.size, i.bytes)) = some (some (.agg #[.int .i64 0, .int .i64 0, .int .i64 0, .slice none 0 0]), 4, 48) := by kernel_rfl
/-- A record's four cells, in a block of their own. -/
theorem rec_news {w : World} {X : Nat} {T : TypeId} {x : Rc} (h : w.heap[X]? = some (.cells x.cells.toArray T (0, 0))) : ∀ j u, x.cells[j]? = some u → w.cell? ((⟨X, 0, none⟩ : Addr).add j) = some u := by
  intro j u hj
  rw [addPlain, Nat.zero_add, Lib.cell_of_heap h]
  simpa using hj

/-- The list of what they are. -/
def evs (rs : List Rc) : List EvR := rs.map Rc.R
theorem evs_app (l k : List Rc) : evs (l ++ k) = evs l ++ evs k := by simp [evs]
theorem evs_length (l : List Rc) : (evs l).length = l.length := by simp [evs]
theorem evs_at {l : List Rc} {i : Nat} {x : Rc} (h : l[i]? = some x) : (evs l)[i]? = some x.R := by simp [evs, h]
end Go.Proofs.Ytlfofdgeaigpbaa

namespace Go.Proofs.Ytlfofdgeaigpbaa
open Go.RowKit

/-- A record as an answer, its numbers to be read. -/
def RetE (R : EvR) (w : World) (e : Ending) (w' : World) : Prop :=
  ∃ a cap, e = .returned (.agg #[.int .i64 (R.k : Int), .int .i64 (R.n : Int), .int .i64 (R.r : Int), .slice a R.ids.length cap]) ∧ IsRow .i64 w' a R.ids.length R.ids.length R.ids ∧ Below w.heap.size w w'

end Go.Proofs.Ytlfofdgeaigpbaa

namespace Go.Proofs.Ytlfofdgeaigpbaa
open Go.ChangeShapes Go.WideShapes Go.Deep Go.RowKit

theorem rec_cells4 : Try.prog.cellsOf 34 = 4 := by kernel_rfl
/-- What is read as a slice is one. -/
theorem trod_slice {H : Type} {enc : TypeId × Value → H} {P : Program} {w : World} {base : Nat} {spare : Nat → Bool} {held : Bool} {t e : TypeId} (ht : P.underlying t = some (.slice e)) {n : Nat} {v : Value} {y : DataW H × List MemPlace}
    (h : DataW.trod enc P w base spare held n t [v] = some y) : ∃ a len cap, v = .slice a len cap := by
  cases n with
  | zero => simp [DataW.trod] at h
  | succ n =>
    cases v <;> first | exact ⟨_, _, _, rfl⟩ | (simp [DataW.trod, ht] at h)
set_option maxRecDepth 100000 in
theorem open_rec {H : Type} {enc : TypeId × Value → H} {w : World} {base : Nat} {spare : Nat → Bool} {held : Bool} {r : Reach} {b0 : Nat} {v : Value} {d : DataW H} {p : List MemPlace}
    (hv : Value.okWide Try.prog w r b0 34 v) (h : DataW.Trod enc Try.prog w base spare held 34 v d p) :
    ∃ (k n r : Int) (a : Option Addr) (len cap : Nat), v = .agg #[.int .i64 k, .int .i64 n, .int .i64 r, .slice a len cap] := by
  obtain ⟨c0, c1, c2, c3, y0, y1, y2, y3, m, rfl, rfl, rfl, hy0, hy1, hy2, hy3⟩ := Go.Joins.open_agg4 Try.underlying34 (by kernel_rfl) rec_cells4 hv h
  obtain ⟨k, e0, _, _⟩ := DataW.trod_int Try.underlying3 hy0
  obtain ⟨n, e1, _, _⟩ := DataW.trod_int Try.underlying3 hy1
  obtain ⟨r, e2, _, _⟩ := DataW.trod_int Try.underlying3 hy2
  obtain ⟨a, len, cap, e3⟩ := trod_slice Try.underlying32 hy3
  simp at e0 e1 e2
  subst e0 e1 e2 e3
  exact ⟨k, n, r, a, len, cap, rfl⟩
end Go.Proofs.Ytlfofdgeaigpbaa

namespace Go.Proofs.Ytlfofdgeaigpbaa
open Go.ChangeShapes Go.WideShapes Go.Deep Go.RowKit

set_option maxRecDepth 100000 in
set_option maxHeartbeats 1000000 in
/-- A slice of numbers inside what came in. -/
theorem came_ints {H : Type} {enc : TypeId × Value → H} {W : World} {n : Nat} {v : Value} {y : DataW H × List MemPlace} (h : DataW.trod enc Try.prog W 0 (fun _ => true) true n 32 [v] = some y) :
    ∃ (a : Option Addr) (len cap : Nat) (zs : List Int), v = .slice a len cap ∧ IsRow .i64 W a len cap zs ∧ len ≤ cap ∧ cap ≤ maxLen ∧ (a = none → cap = 0) := by
  rcases open_ints Try.underlying32 Try.underlying3 (by kernel_rfl) h with ⟨hcs, _⟩ | ⟨x, len, cap, zs, hcs, _, hl, hm, hz, _, hc, _⟩
  · simp at hcs
    exact ⟨none, 0, 0, [], hcs, .inl rfl, Nat.le_refl _, Nat.zero_le _, fun _ => rfl⟩
  · simp at hcs hz
    rcases Nat.eq_zero_or_pos cap with h0 | h0
    · exact ⟨some x, len, cap, zs, hcs, .inl (by omega), hl, hm, fun e => by cases e⟩
    · obtain ⟨b, off, spot⟩ := x
      have hc0 := hc 0 (by omega)
      have hspot : spot = none := by simpa [Addr.add] using World.cell?_spot hc0
      subst hspot
      exact ⟨_, len, cap, zs, hcs, .inr ⟨b, off, rfl, hl, hm, hz, fun i hi => by rw [← addPlain]; exact hc i (by omega)⟩, hl, hm, fun e => by cases e⟩

set_option maxRecDepth 100000 in
/-- A record by value that came in: what its cells are, and its numbers. -/
theorem open_row {H : Type} {enc : TypeId × Value → H} {W : World} {r : Reach} {b0 : Nat} {v : Value} {d : DataW H} {p : List MemPlace}
    (hv : Value.okWide Try.prog W r b0 34 v) (h : DataW.Trod enc Try.prog W 0 (fun _ => true) true 34 v d p) :
    ∃ (k n r : Int) (a : Option Addr) (len cap : Nat) (zs : List Int), v = .agg #[.int .i64 k, .int .i64 n, .int .i64 r, .slice a len cap] ∧ IsRow .i64 W a len cap zs := by
  obtain ⟨c0, c1, c2, c3, y0, y1, y2, y3, m, rfl, rfl, rfl, hy0, hy1, hy2, hy3⟩ := Go.Joins.open_agg4 Try.underlying34 (by kernel_rfl) rec_cells4 hv h
  obtain ⟨k, e0, _, _⟩ := DataW.trod_int Try.underlying3 hy0
  obtain ⟨n, e1, _, _⟩ := DataW.trod_int Try.underlying3 hy1
  obtain ⟨r, e2, _, _⟩ := DataW.trod_int Try.underlying3 hy2
  obtain ⟨a, len, cap, zs, e3, hr, _, _, _⟩ := came_ints hy3
  simp at e0 e1 e2
  subst e0 e1 e2 e3
  exact ⟨k, n, r, a, len, cap, zs, rfl, hr⟩
/-- Just the numbers of the slice. -/
theorem row_cut {w : World} {a : Option Addr} {len cap : Nat} {zs : List Int} (h : IsRow .i64 w a len cap zs) : ∃ ids : List Int, ids.length = len ∧ IsRow .i64 w a len len ids := by
  rcases h with h | ⟨b, off, ha, hl, hm, hz, hc⟩
  · exact ⟨[], by rw [h]; rfl, .inl h⟩
  · refine ⟨zs.take len, by rw [List.length_take]; omega, .inr ⟨b, off, ha, Nat.le_refl _, by omega, by rw [List.length_take]; omega, fun i hi => ?_⟩⟩
    rw [hc i (by omega)]
    congr 2
    simp [List.getD, List.getElem?_take, hi]
end Go.Proofs.Ytlfofdgeaigpbaa

namespace Go.Proofs.Ytlfofdgeaigpbaa
open Go.ChangeShapes Go.WideShapes Go.Deep Go.RowKit

/-- A record that came in: its numbers, its slice, what can be read there. -/
structure Ri where
  k : Int
  n : Int
  r : Int
  a : Option Addr
  len : Nat
  cap : Nat
  zs : List Int
/-- What came in: records, each with a slice of its own, or with one that others have, too. -/
def CameR (w : World) (a : Option Addr) (len cap : Nat) (rs : List Ri) : Prop :=
  rs.length = len ∧ len ≤ cap ∧ cap ≤ maxLen ∧
    (len = 0 ∨ ∃ b off, a = some ⟨b, off, none⟩ ∧ ∀ i (h : i < rs.length), w.cell? ⟨b, off + i * 4, none⟩ = some (.int .i64 (rs[i]'h).k) ∧ w.cell? ⟨b, off + i * 4 + 1, none⟩ = some (.int .i64 (rs[i]'h).n) ∧ w.cell? ⟨b, off + i * 4 + 2, none⟩ = some (.int .i64 (rs[i]'h).r) ∧ w.cell? ⟨b, off + i * 4 + 3, none⟩ = some (.slice (rs[i]'h).a (rs[i]'h).len (rs[i]'h).cap)) ∧
    ∀ x ∈ rs, IsRow .i64 w x.a x.len x.cap x.zs ∧ x.len ≤ x.cap ∧ x.cap ≤ maxLen ∧ (x.a = none → x.cap = 0) ∧ (Lit.int .i64 x.k).wf = true ∧ (Lit.int .i64 x.n).wf = true ∧ (Lit.int .i64 x.r).wf = true

set_option maxRecDepth 100000 in
set_option maxHeartbeats 1000000 in
theorem came_recs {H : Type} {enc : TypeId × Value → H} {W : World} {a : Option Addr} {len cap : Nat} {d : DataW H} {p : List MemPlace} (h : DataW.Trod enc Try.prog W 0 (fun _ => true) true 22 (.slice a len cap) d p) :
    ∃ rs, CameR W a len cap rs := by
  obtain ⟨fuel, hf⟩ := h
  rcases open_slice Try.underlying22 hf with ⟨hcs, _⟩ | ⟨x, l, c, m, n, D, Pl, hcs, _, hl, hm, hmm, _, hc⟩
  · simp [Value.cells] at hcs
    obtain ⟨rfl, rfl, rfl⟩ := hcs
    exact ⟨[], rfl, Nat.zero_le _, Nat.zero_le _, .inl rfl, fun x hx => (by cases hx)⟩
  · simp [Value.cells] at hcs
    obtain ⟨rfl, rfl, rfl⟩ := hcs
    have hmc : m = cap := by rw [hmm]; rfl
    subst hmc
    have each : ∀ i, i < len → ∃ f : Ri, (W.cell? (x.add (i * 4)) = some (.int .i64 f.k) ∧ W.cell? (x.add (i * 4 + 1)) = some (.int .i64 f.n) ∧ W.cell? (x.add (i * 4 + 2)) = some (.int .i64 f.r) ∧ W.cell? (x.add (i * 4 + 3)) = some (.slice f.a f.len f.cap)) ∧
        (IsRow .i64 W f.a f.len f.cap f.zs ∧ f.len ≤ f.cap ∧ f.cap ≤ maxLen ∧ (f.a = none → f.cap = 0) ∧ (Lit.int .i64 f.k).wf = true ∧ (Lit.int .i64 f.n).wf = true ∧ (Lit.int .i64 f.r).wf = true) := by
      intro i hi
      obtain ⟨cs', h1, h2⟩ := hc i (by omega)
      rw [rec_cells4] at h1
      obtain ⟨_, hlen, hcell⟩ := World.cells?_some h1
      obtain ⟨y0, y1, y2, y3, q, _, _, g0, g1, g2, g3⟩ := Go.Joins.trod_struct4 Try.underlying34 h2
      match cs', hlen with
      | [v0, v1, v2, v3], _ =>
        have e0 := hcell 0 (by omega)
        have e1 := hcell 1 (by omega)
        have e2 := hcell 2 (by omega)
        have e3 := hcell 3 (by omega)
        rw [add_add] at e0 e1 e2 e3
        obtain ⟨k, k0, _, k1⟩ := DataW.trod_int Try.underlying3 (cs := [v0]) g0
        obtain ⟨n', n0, _, n1⟩ := DataW.trod_int Try.underlying3 (cs := [v1]) g1
        obtain ⟨r, r0, _, r1⟩ := DataW.trod_int Try.underlying3 (cs := [v2]) g2
        obtain ⟨a', len', cap', zs, hv, hrow, hle, hmx, hnn⟩ := came_ints (v := v3) g3
        simp at k0 n0 r0
        subst k0 n0 r0 hv
        exact ⟨⟨k, n', r, a', len', cap', zs⟩, ⟨by simpa using e0, by simpa using e1, by simpa using e2, by simpa using e3⟩, hrow, hle, hmx, hnn, k1, n1, r1⟩
    haveI : Inhabited Ri := ⟨⟨0, 0, 0, none, 0, 0, []⟩⟩
    obtain ⟨F, hF⟩ := choose_lt each
    refine ⟨(List.range len).map F, by simp, hl, hm, ?_, fun y hy => ?_⟩
    · rcases Nat.eq_zero_or_pos len with h0 | h0
      · exact .inl h0
      · right
        obtain ⟨b, off, spot⟩ := x
        have hc0 := (hF 0 h0).1.1
        have hspot : spot = none := by simpa [Addr.add] using World.cell?_spot hc0
        subst hspot
        refine ⟨b, off, rfl, fun i hi => ?_⟩
        simp only [List.length_map, List.length_range] at hi
        obtain ⟨⟨h1, h2, h3, h4⟩, _⟩ := hF i hi
        rw [addPlain] at h1 h2 h3 h4
        simp only [List.getElem_map, List.getElem_range]
        rw [Nat.add_assoc, Nat.add_assoc, Nat.add_assoc]
        exact ⟨h1, h2, h3, h4⟩
    · obtain ⟨i, hi, rfl⟩ := List.mem_map.1 hy
      exact (hF i (List.mem_range.1 hi)).2

theorem CameR.below {w w' : World} {a : Option Addr} {len cap : Nat} {rs : List Ri} (h : CameR w a len cap rs) (hb : Below w.heap.size w w') : CameR w' a len cap rs := by
  obtain ⟨h1, h2, h3, h4, h5⟩ := h
  refine ⟨h1, h2, h3, ?_, fun x hx => ⟨(h5 x hx).1.below hb, (h5 x hx).2⟩⟩
  rcases h4 with h4 | ⟨b, off, ha, hc⟩
  · exact .inl h4
  · refine .inr ⟨b, off, ha, fun i hi => ?_⟩
    obtain ⟨c0, c1, c2, c3⟩ := hc i hi
    have up : ∀ {j : Nat} {u : Value}, w.cell? ⟨b, j, none⟩ = some u → w'.cell? ⟨b, j, none⟩ = some u := fun {j u} h => by
      rw [hb.cell (p := ⟨b, j, none⟩) (World.block_lt_of_cell? w _ h)]
      exact h
    exact ⟨up c0, up c1, up c2, up c3⟩
end Go.Proofs.Ytlfofdgeaigpbaa

namespace Go.Proofs.Ytlfofdgeaigpbaa
open Go.RowKit

theorem wpList_append_no {P : Program} (w : World) {ops : Array Oper} {rest : List Oper} {o : Oper} {a : Act} {Q : Exit → Act → World → Prop} (hgd : o.guard = none) (s x : Operand) (t : TypeId)
    (ho : o.op = .call { callee := .builtin .append, args := #[s, x], argTypes := #[t, t] })
    (base : Nat) (e : TypeId) (i : TypeInfo) (size : Nat) (ht : P.underlying t = some (.slice e)) (hi : P.info? e = some i) (hsize : i.size = size)
    (v : Value) (n : Nat) (xs : List Value) (hs : a.eval s = v) (hown : w.ownsRow base e size v n xs) (hx : a.eval x = .slice none 0 0)
    (h : wpList P ops Q rest (a.put o.dst v) w) : wpList P ops Q (o :: rest) a w := by
  refine wpList_plain hgd fun K hK => ?_
  have hr := run_append_owned_none (P := P) w base t o.type e i size ht hi v n xs hown
  have hK2 := hK _ _ h
  unfold Oper.wp execOp
  simp only [ho, resolve, invoke, builtin, Sem.run_bind, Sem.run_pure, Result.andThen_ok, List.map_toArray, List.map_cons, List.map_nil, hs, hx, hr]
  exact hK2
theorem grown_below {w w' : World} {B size n : Nat} {e : TypeId} {v : Value} {xs : List Value} (hB : B ≤ w.heap.size) (hown : w.ownsRow B e size v n xs) (hg : w.grownBy w' v.ownBlock) : Below B w w' :=
  ⟨hg.os, hg.tape, hg.output, hg.size, fun i hi => hg.block i (by omega) (fun e => by have := (hown.lt i e.symm).1; omega)⟩
end Go.Proofs.Ytlfofdgeaigpbaa

namespace Go.Proofs.Ytlfofdgeaigpbaa
open Go.RowKit

/-- The cells of records. -/
def rvCells (rs : List Rv) : List Value := rs.flatMap Rv.cells
theorem rvCells_app (l k : List Rv) : rvCells (l ++ k) = rvCells l ++ rvCells k := by simp [rvCells]
theorem rvCells_one (x : Rv) : rvCells [x] = x.cells := by simp [rvCells]
theorem rvCells_length : ∀ rs : List Rv, (rvCells rs).length = rs.length * 4
  | [] => rfl
  | x :: l => by
    have e : rvCells (x :: l) = x.cells ++ rvCells l := by simp [rvCells]
    rw [e, List.length_append, rvCells_length l, List.length_cons]
    simp [Rv.cells]
    omega
theorem rvCells_at : ∀ (rs : List Rv) (i : Nat) (x : Rv), rs[i]? = some x → ∀ j, j < 4 → (rvCells rs)[i * 4 + j]? = x.cells[j]?
  | [], i, x, h, _, _ => by simp at h
  | y :: l, 0, x, h, j, hj => by
    simp at h
    subst h
    have e : rvCells (y :: l) = y.cells ++ rvCells l := by simp [rvCells]
    rw [e, List.getElem?_append_left (by simp [Rv.cells]; omega), Nat.zero_mul, Nat.zero_add]
  | y :: l, i + 1, x, h, j, hj => by
    have e : rvCells (y :: l) = y.cells ++ rvCells l := by simp [rvCells]
    rw [e, List.getElem?_append_right (by simp [Rv.cells]; omega)]
    have hl : y.cells.length = 4 := rfl
    rw [hl, show (i + 1) * 4 + j - 4 = i * 4 + j by omega]
    exact rvCells_at l i x (by simpa using h) j hj
theorem rv_one {rs : List Rv} : ∀ u ∈ rvCells rs, u.oneCell' = true := by
  intro u hu
  simp only [rvCells, List.mem_flatMap] at hu
  obtain ⟨x, _, hx⟩ := hu
  simp [Rv.cells, Rv.sl] at hx
  rcases hx with rfl | rfl | rfl | rfl <;> rfl
theorem rv_one1 {x : Rv} : ∀ u ∈ x.cells, u.oneCell' = true := by
  intro u hu
  simp [Rv.cells, Rv.sl] at hu
  rcases hu with rfl | rfl | rfl | rfl <;> rfl

/-- A slice of records, to be read. -/
def RecAt (w : World) (a : Option Addr) (rs : List Rv) : Prop :=
  rs.length = 0 ∨ ∃ b off, a = some ⟨b, off, none⟩ ∧ ∀ i x, rs[i]? = some x → w.cell? ⟨b, off + i * 4, none⟩ = some (.int .i64 x.k) ∧ w.cell? ⟨b, off + i * 4 + 1, none⟩ = some (.int .i64 x.n) ∧ w.cell? ⟨b, off + i * 4 + 2, none⟩ = some (.int .i64 x.r) ∧ w.cell? ⟨b, off + i * 4 + 3, none⟩ = some (.slice x.a x.len x.cap)
theorem RecAt.below {w w' : World} {a : Option Addr} {rs : List Rv} (h : RecAt w a rs) (hb : Below w.heap.size w w') : RecAt w' a rs := by
  rcases h with h | ⟨b, off, ha, hc⟩
  · exact .inl h
  · refine .inr ⟨b, off, ha, fun i x hx => ?_⟩
    obtain ⟨c0, c1, c2, c3⟩ := hc i x hx
    exact ⟨cells_below c0 hb, cells_below c1 hb, cells_below c2 hb, cells_below c3 hb⟩
/-- One of them. -/
theorem RecAt.get {w : World} {a : Option Addr} {rs : List Rv} (h : RecAt w a rs) {i : Nat} (hi : i < rs.length) : ∃ b off x, a = some ⟨b, off, none⟩ ∧ rs[i]? = some x ∧ w.cell? ⟨b, off + i * 4, none⟩ = some (.int .i64 x.k) ∧ w.cell? ⟨b, off + i * 4 + 1, none⟩ = some (.int .i64 x.n) ∧ w.cell? ⟨b, off + i * 4 + 2, none⟩ = some (.int .i64 x.r) ∧ w.cell? ⟨b, off + i * 4 + 3, none⟩ = some (.slice x.a x.len x.cap) := by
  rcases h with h | ⟨b, off, ha, hc⟩
  · omega
  · obtain ⟨x, hx⟩ : ∃ x, rs[i]? = some x := ⟨_, List.getElem?_eq_getElem hi⟩
    exact ⟨b, off, x, ha, hx, hc i x hx⟩
/-- Records that are owned, as ones that are read. -/
theorem owns_rv {w : World} {base : Nat} {v : Value} {rs : List Rv} {n : Nat} (h : w.ownsRow base 34 4 v n (rvCells rs)) (hn : rs.length = n) :
    ∃ ao cap, v = .slice ao n cap ∧ RecAt w ao rs := by
  rcases h.2 with ⟨hv, h0⟩ | ⟨g, cap, cur, hv, _⟩
  · exact ⟨none, 0, by rw [h0]; exact hv, .inl (by omega)⟩
  · refine ⟨some ⟨g, 0, none⟩, cap, hv, .inr ⟨g, 0, rfl, fun i x hx => ?_⟩⟩
    have hc := h.cells (g := g) (by rw [hv]; rfl)
    have at' : ∀ j u, j < 4 → x.cells[j]? = some u → w.cell? ⟨g, 0 + i * 4 + j, none⟩ = some u := fun j u hj hu => by
      have := hc (i * 4 + j) u ((rvCells_at rs i x hx j hj).trans hu)
      rwa [addPlain, ← Nat.add_assoc] at this
    exact ⟨at' 0 _ (by omega) rfl, at' 1 _ (by omega) rfl, at' 2 _ (by omega) rfl, at' 3 _ (by omega) rfl⟩
theorem owns_form {w : World} {base n size : Nat} {e : TypeId} {v : Value} {xs : List Value} (h : w.ownsRow base e size v n xs) : (n = 0 ∧ v = .slice none 0 0) ∨ ∃ g cap, v = .slice (some ⟨g, 0, none⟩) n cap := by
  rcases h.2 with ⟨hv, h0⟩ | ⟨g, cap, cur, hv, _⟩
  · exact .inl ⟨h0, hv⟩
  · exact .inr ⟨g, cap, hv⟩

theorem rv_alloc {w : World} {b j : Nat} {v : Value} (h : w.cell? ⟨b, j, none⟩ = some v) (o : Obj) : (w.alloc o).cell? ⟨b, j, none⟩ = some v := cells_below h ((Below.refl _ _).alloc (Nat.le_refl _) _)
/-- A record's numbers, to be read. -/
def Rd (w : World) (x : Rv) : Prop := (x.a = none → x.cap = 0) ∧ ∃ zs : List Int, zs.length = x.len ∧ IsRow .i64 w x.a x.len x.len zs
theorem Rd.below {w w' : World} {x : Rv} (h : Rd w x) (hb : Below w.heap.size w w') : Rd w' x := ⟨h.1, h.2.elim fun zs h => ⟨zs, h.1, h.2.below hb⟩⟩
theorem Rd.none {w : World} {x : Rv} (hn : x.a = none → x.cap = 0) (h : x.len = 0) : Rd w x := ⟨hn, [], by rw [h]; rfl, .inl h⟩
/-- Two records that say the same. -/
def Eqv (w : World) (x y : Rv) : Prop := Alike x y ∧ (y.a = none → y.cap = 0) ∧ ∃ zs : List Int, zs.length = x.len ∧ IsRow .i64 w x.a x.len x.len zs ∧ IsRow .i64 w y.a x.len x.len zs
theorem Eqv.below {w w' : World} {x y : Rv} (h : Eqv w x y) (hb : Below w.heap.size w w') : Eqv w' x y := ⟨h.1, h.2.1, h.2.2.elim fun zs h => ⟨zs, h.1, h.2.1.below hb, h.2.2.below hb⟩⟩
theorem Eqv.none {w : World} {x y : Rv} (h : Alike x y) (hn : y.a = none → y.cap = 0) (h0 : x.len = 0) : Eqv w x y := ⟨h, hn, [], by rw [h0]; rfl, .inl h0, .inl h0⟩
theorem Eqv.same {w : World} {x : Rv} (h : Rd w x) : Eqv w x x := ⟨.refl x, h.1, h.2.elim fun zs h => ⟨zs, h.1, h.2, h.2⟩⟩
theorem Eqv.rd {w : World} {x y : Rv} (h : Eqv w x y) : Rd w y := ⟨h.2.1, h.2.2.elim fun zs hz => ⟨zs, by rw [h.1.2.2.2]; exact hz.1, by rw [h.1.2.2.2]; exact hz.2.2⟩⟩
/-- A copy: the one's numbers lie where they lay, the other's are owned. -/
def Cp (w0 w : World) (x y : Rv) : Prop := Alike x y ∧ (y.a = none → y.cap = 0) ∧ ∃ zs : List Int, zs.length = x.len ∧ IsRow .i64 w0 x.a x.len x.len zs ∧ (x.len = 0 ∨ ∃ base, w.ownsRow base 3 1 y.sl x.len (inCells zs))
theorem Cp.keep {w0 w w' : World} {x y : Rv} (h : Cp w0 w x y) (hk : Keep 3 w w') : Cp w0 w' x y :=
  ⟨h.1, h.2.1, h.2.2.elim fun zs h => ⟨zs, h.1, h.2.1, h.2.2.elim .inl fun h => .inr (h.elim fun b h => ⟨b, hk.owns h⟩)⟩⟩
theorem Cp.up {w0 w1 w : World} {x y : Rv} (h : Cp w0 w x y) (hb : Below w0.heap.size w0 w1) : Cp w1 w x y :=
  ⟨h.1, h.2.1, h.2.2.elim fun zs h => ⟨zs, h.1, h.2.1.below hb, h.2.2⟩⟩
theorem Cp.none {w0 w : World} {x y : Rv} (h : Alike x y) (hn : y.a = none → y.cap = 0) (h0 : x.len = 0) : Cp w0 w x y := ⟨h, hn, [], by rw [h0]; rfl, .inl h0, .inl h0⟩
theorem Cp.eqv {w0 w : World} {x y : Rv} (h : Cp w0 w x y) (hb : Below w0.heap.size w0 w) (hm : x.len ≤ maxLen) : Eqv w x y := by
  obtain ⟨ha, hn, zs, hz, hr, ho⟩ := h
  refine ⟨ha, hn, zs, hz, hr.below hb, ?_⟩
  rcases ho with ho | ⟨b, ho⟩
  · exact .inl ho
  · rw [← hz] at ho hm
    obtain ⟨ao, cap, hv, hrow⟩ := row_of_ints ho hm
    simp only [Rv.sl, Value.slice.injEq] at hv
    obtain ⟨rfl, _, _⟩ := hv
    rw [← hz]
    exact hrow

/-- What came in, as values. -/
def rvOf (x : Ri) : Rv := ⟨x.k, x.n, x.r, x.a, x.len, x.cap⟩
theorem CameR.at {w : World} {a : Option Addr} {len cap : Nat} {rs : List Ri} (h : CameR w a len cap rs) : (rs.map rvOf).length = len ∧ RecAt w a (rs.map rvOf) ∧ ∀ x ∈ rs.map rvOf, Rd w x := by
  obtain ⟨h1, h2, h3, h4, h5⟩ := h
  refine ⟨by simpa using h1, ?_, fun x hx => ?_⟩
  · rcases h4 with h4 | ⟨b, off, ha, hc⟩
    · exact .inl (by rw [List.length_map]; omega)
    · refine .inr ⟨b, off, ha, fun i x hx => ?_⟩
      rw [List.getElem?_map] at hx
      obtain ⟨y, hy, rfl⟩ := Option.map_eq_some_iff.1 hx
      obtain ⟨hi, rfl⟩ := List.getElem?_eq_some_iff.1 hy
      exact hc i hi
  · obtain ⟨y, hy, rfl⟩ := List.mem_map.1 hx
    obtain ⟨hr, hl, hm, hn, _⟩ := h5 y hy
    rcases hr with h0 | ⟨b, off, ha, _, _, hz, hc⟩
    · exact Rd.none hn h0
    · refine ⟨hn, y.zs.take y.len, by simp [rvOf]; omega, .inr ⟨b, off, ha, Nat.le_refl _, by show y.len ≤ maxLen; omega, by simp [rvOf]; omega, fun i hi => ?_⟩⟩
      have hi' : i < y.len := hi
      have := hc i (by omega)
      rw [this]
      congr 2
      simp [List.getD, List.getElem?_take, hi']

/-- An append of numbers to nil: a copy of them. -/
theorem wpList_append_cp (w : World) {ops : Array Oper} {rest : List Oper} {o : Oper} {a : Act} {Q : Exit → Act → World → Prop} (hgd : o.guard = none) (s x : Operand)
    (ho : o.op = .call { callee := .builtin .append, args := #[s, x], argTypes := #[32, 32] })
    (ao : Option Addr) (m c : Nat) (zs : List Int) (hs : a.eval s = .slice none 0 0) (hx : a.eval x = .slice ao m c) (hz : zs.length = m) (hrow : IsRow .i64 w ao m m zs) (hn : ao = none → c = 0) (hm : m ≤ 1000000)
    (h : ∀ a' c' w', w'.ownsRow w.heap.size 3 1 (.slice a' m c') m (inCells zs) → Below w.heap.size w w' → (a' = none → c' = 0) → wpList Try.prog ops Q rest (a.put o.dst (.slice a' m c')) w') : wpList Try.prog ops Q (o :: rest) a w := by
  obtain ⟨i0, hi, hz0, hz1, hz2⟩ := info_parts int_info
  have hown := World.ownsRow_nil w w.heap.size 3 1
  cases ao with
  | none =>
    have h0 : m = 0 := by
      rcases hrow with h | ⟨b, off, h, _⟩
      · exact h
      · cases h
    subst h0
    obtain rfl : c = 0 := hn rfl
    obtain rfl : zs = [] := List.eq_nil_of_length_eq_zero hz
    exact wpList_append_no w hgd s x _ ho w.heap.size 3 i0 1 Try.underlying32 hi hz1 _ 0 [] hs hown hx (h none 0 w hown (Below.refl _ _) (fun _ => rfl))
  | some ad =>
    refine wpList_append_own (w := w) hgd s x _ ho w.heap.size 3 i0 (.int .i64 0) 1 8 Try.underlying32 hi hz0 hz1 hz2 rfl (by decide) _ 0 [] hs hown ad m c (inCells zs) hx (by simp [inCells, hz]) (fun j u hu => ?_) (fun u hu => ?_) (by unfold maxLen; omega) (by omega) (Nat.le_refl _) (fun v' w' hown' hg _ => ?_)
    · have hj : j < m := by
        rcases Nat.lt_or_ge j m with h | h
        · exact h
        · rw [List.getElem?_eq_none (by simp [inCells, hz]; exact h)] at hu; cases hu
      rcases hrow with h | ⟨b, off, h, _, _, _, hc⟩
      · omega
      · injection h with h
        subst h
        rw [addPlain, hc j hj]
        rw [← hu]
        simp [inCells, List.getD, List.getElem?_eq_getElem (show j < zs.length by omega)]
    · simp only [inCells, List.mem_map] at hu
      obtain ⟨z, _, rfl⟩ := hu
      rfl
    · rw [Nat.zero_add, List.nil_append] at hown'
      obtain ⟨rfl, rfl⟩ | ⟨g', c', rfl⟩ := owns_form hown'
      · exact h none 0 w' hown' (grown_below (Nat.le_refl _) hown hg) (fun _ => rfl)
      · exact h (some ⟨g', 0, none⟩) c' w' hown' (grown_below (Nat.le_refl _) hown hg) (fun e => by cases e)
end Go.Proofs.Ytlfofdgeaigpbaa

namespace Go.Proofs.Ytlfofdgeaigpbaa
open Go.RowKit

/-- The numbers of a row are just these. -/
theorem row_one {w : World} {a : Option Addr} {n : Nat} {zs ys : List Int} (h1 : zs.length = n) (h2 : ys.length = n) (hz : IsRow .i64 w a n n zs) (hy : IsRow .i64 w a n n ys) : zs = ys := by
  refine List.ext_getElem (by omega) fun i hi hi' => ?_
  rcases hz with hz | ⟨b, off, ha, _, _, _, hc⟩
  · omega
  rcases hy with hy | ⟨b', off', ha', _, _, _, hc'⟩
  · omega
  rw [ha] at ha'
  injection ha' with ha'
  injection ha' with hb ho _
  subst hb ho
  have e := hc i (by omega)
  rw [hc' i (by omega)] at e
  rw [getD_at zs i hi, getD_at ys i hi'] at e
  injection e with e
  injection e with _ e
  exact e.symm
open Classical in
/-- The numbers of a record, as they lie. -/
noncomputable def rvI (w : World) (x : Rv) : List Int := if h : ∃ zs : List Int, zs.length = x.len ∧ IsRow .i64 w x.a x.len x.len zs then Classical.choose h else []
theorem rvi_row {w : World} {x : Rv} (h : Rd w x) : (rvI w x).length = x.len ∧ IsRow .i64 w x.a x.len x.len (rvI w x) := by
  unfold rvI
  rw [dif_pos h.2]
  exact Classical.choose_spec h.2
theorem rvi_is {w : World} {x : Rv} {zs : List Int} (h1 : zs.length = x.len) (h2 : IsRow .i64 w x.a x.len x.len zs) : rvI w x = zs := by
  have h : ∃ zs : List Int, zs.length = x.len ∧ IsRow .i64 w x.a x.len x.len zs := ⟨zs, h1, h2⟩
  have e := Classical.choose_spec h
  unfold rvI
  rw [dif_pos h]
  exact row_one e.1 h1 e.2 h2
theorem rvi_none {w : World} {x : Rv} (h : x.len = 0) : rvI w x = [] := rvi_is (by rw [h]; rfl) (.inl h)
theorem rvi_below {w w' : World} {x : Rv} (h : Rd w x) (hb : Below w.heap.size w w') : rvI w' x = rvI w x := rvi_is (rvi_row h).1 ((rvi_row h).2.below hb)
/-- A copy has the same numbers. -/
theorem rvi_copy {w w' : World} {x y : Rv} (h : Cp w w' x y) (hm : x.len ≤ maxLen) : (rvI w x).length = y.len ∧ IsRow .i64 w' y.a y.len y.len (rvI w x) := by
  obtain ⟨ha, hn, zs, hz, hr, ho⟩ := h
  have e := rvi_is hz hr
  rw [e, ha.2.2.2]
  refine ⟨hz, ?_⟩
  rcases ho with ho | ⟨b, ho⟩
  · exact .inl ho
  · rw [← hz] at ho hm
    obtain ⟨ao, cap, hv, hrow⟩ := row_of_ints ho hm
    simp only [Rv.sl, Value.slice.injEq] at hv
    obtain ⟨rfl, _, _⟩ := hv
    rw [← hz]
    exact hrow

/-- May it be written; its bytes. -/
noncomputable def rvOk (w : World) (x : Rv) : Bool := okK x.k x.n x.r (rvI w x)
noncomputable def rvB (w : World) (x : Rv) : List UInt8 := if rvOk w x = true then putK x.k x.n x.r (rvI w x) else []
theorem rvOk_plus {w : World} (y x : Rv) (hy : rvOk w y = true) (hx : rvOk w x = true) (ht : twoB y x = true) : rvOk w (plusR y x) = true := by
  unfold rvOk
  rw [rvi_none (x := plusR y x) rfl]
  exact okK_plus hy hx ht
theorem rvB_len {w : World} {x : Rv} (h : Rd w x) (hl : x.len ≤ 30) : (rvB w x).length ≤ 300 := by
  unfold rvB
  by_cases hk : rvOk w x = true
  · rw [if_pos hk]
    exact putK_len hk (by rw [(rvi_row h).1]; exact hl)
  · rw [if_neg hk]; simp
theorem rvB_alike {w : World} {x y : Rv} (h : Alike x y) (hi : rvI w y = rvI w x) : rvOk w y = rvOk w x ∧ rvB w y = rvB w x := by
  obtain ⟨a, b, c, d⟩ := h
  have e : rvOk w y = rvOk w x := by unfold rvOk; rw [a, b, c, hi]
  exact ⟨e, by unfold rvB; rw [e, a, b, c, hi]⟩
end Go.Proofs.Ytlfofdgeaigpbaa

namespace Go.Proofs.Ytlfofdgeaigpbaa
open Go.RowKit

set_option maxRecDepth 100000 in
theorem make_row (c : Nat) (w : World) (hc : c ≤ 1000000000) : (Instr.makeSlice 32 (.int .i64 (c : Int)) (.int .i64 (c : Int))).run Try.prog w = .ok (.slice (some ⟨w.heap.size, 0, none⟩) c c) (w.alloc (.cells (inCells (List.replicate c 0)).toArray 3)) := by
  obtain ⟨i0, hi, hz0, hz1, hz2⟩ := info_parts int_info
  have h := run_make (P := Try.prog) w 32 3 i0 (.int .i64 0) Try.underlying32 hi hz0 .i64 .i64 c c (by omega) (Int.le_refl _) (by rw [hz2]; omega) (by omega)
  rw [h, hz1, Nat.mul_one, Int.toNat_natCast, show inCells (List.replicate c 0) = List.replicate c (Value.int .i64 0) by simp [inCells]]
  congr 3
  show madeCells #[Value.int .i64 0] c = _
  rw [← toList_madeCells_one]
end Go.Proofs.Ytlfofdgeaigpbaa

namespace Go.Proofs.Ytlfofdgeaigpbaa
open Go.RowKit

/-- All blocks of cells of other types than T are as they were. -/
def Other (T : TypeId) (w w' : World) : Prop := ∀ (k : Nat) (cs : Array Value) (U : TypeId) (m : Nat × Nat), U ≠ T → w.heap[k]? = some (.cells cs U m) → w'.heap[k]? = some (.cells cs U m)
theorem Other.refl (T : TypeId) (w : World) : Other T w w := fun _ _ _ _ _ h => h
theorem Other.trans {T : TypeId} {u v w : World} (h : Other T u v) (k : Other T v w) : Other T u w := fun i cs U m hU hh => k i cs U m hU (h i cs U m hU hh)
theorem Other.set {T : TypeId} {w : World} {b i : Nat} {cs : Array Value} {m : Nat × Nat} (h : w.heap[b]? = some (.cells cs T m)) (u : Value) : Other T w (w.setCell ⟨b, i, none⟩ u) := fun k ds U m' hU hk => by
  have hne : k ≠ b := fun e => by
    subst e
    rw [h] at hk
    injection hk with hk
    injection hk with h1 h2 h3
    exact hU h2.symm
  rw [put_other hne]
  exact hk
theorem Other.heap {T : TypeId} {w w' : World} (e : w'.heap = w.heap) : Other T w w' := fun k cs U m hU hk => by rw [e]; exact hk
theorem Other.owns {T : TypeId} {w w' : World} (h : Other T w w') {base n : Nat} {size : Nat} {e : TypeId} {v : Value} {xs : List Value} (he : e ≠ T) (ho : w.ownsRow base e size v n xs) : w'.ownsRow base e size v n xs := by
  obtain ⟨hl, hx⟩ := ho
  refine ⟨hl, ?_⟩
  rcases hx with hx | ⟨g, cap, cur, hv, hg, hh, r⟩
  · exact .inl hx
  · exact .inr ⟨g, cap, cur, hv, hg, h g _ _ _ he hh, r⟩
end Go.Proofs.Ytlfofdgeaigpbaa

namespace Go.Proofs.Ytlfofdgeaigpbaa
open Go.RowKit

theorem Other.grown {w w' : World} {o : Obj} {base size n : Nat} {e : TypeId} {v : Value} {xs : List Value} (hown : w.ownsRow base e size v n xs) (hg : (w.alloc o).grownBy w' v.ownBlock) : Other e w w' := fun k cs U m hU hk => by
  have hlt := lt_of_heap hk
  have hne : v.ownBlock ≠ some k := fun h => by
    rcases hown.2 with ⟨rfl, _⟩ | ⟨g, cap, cur, rfl, _, hh, _⟩
    · simp [Value.ownBlock] at h
    · simp only [Value.ownBlock, Option.some.injEq] at h
      subst h
      rw [hk] at hh
      injection hh with hh
      injection hh with h1 h2 h3
      exact hU h2
  rw [hg.block k (by simp; omega) (fun e => hne e.symm), Lib.alloc_old _ _ k hlt]
  exact hk
theorem But.grown {b : Nat} {w0 w w' : World} {o : Obj} {size n : Nat} {e : TypeId} {v : Value} {xs : List Value} (hb : But w0.heap.size b w0 w) (hown : w.ownsRow w0.heap.size e size v n xs) (hg : (w.alloc o).grownBy w' v.ownBlock) : But w0.heap.size b w0 w' :=
  hb.trans ⟨hg.os, hg.tape, hg.output, Nat.le_trans (by simp) hg.size, fun i hi _ => by
    rw [hg.block i (by have := hb.size; simp; omega) (fun e => by have := (hown.lt i e.symm).1; omega), Lib.alloc_old _ _ i (by have := hb.size; omega)]⟩
theorem But.put {base b : Nat} {w0 w : World} (hb : But base b w0 w) (i : Nat) (u : Value) : But base b w0 (w.setCell ⟨b, i, none⟩ u) :=
  hb.trans ⟨rfl, rfl, rfl, by simp [World.setCell], fun k _ hk => put_other hk u⟩
theorem But.more {b : Nat} {w0 w w' : World} (hb : But w0.heap.size b w0 w) (h : Below w.heap.size w w') : But w0.heap.size b w0 w' := hb.trans (But.of (h.mono hb.size))

/-- One number of an own slice: where it lies. -/
theorem int_at {w : World} {base n cap j : Nat} {a : Option Addr} {zs : List Int} (h : w.ownsRow base 3 1 (.slice a n cap) n (inCells zs)) (hn : zs.length = n) (hj : j < n) :
    ∃ g off, a = some ⟨g, off, none⟩ ∧ ∃ x, zs[j]? = some x ∧ w.cell? ⟨g, off + j, none⟩ = some (.int .i64 x) := by
  obtain ⟨g, cap', _, _, he⟩ := owns_some h (by omega)
  have hc := h.cells (g := g) (by rw [he]; rfl)
  simp only [Value.slice.injEq] at he
  refine ⟨g, 0, he.1, zs[j]'(by omega), List.getElem?_eq_getElem (by omega), ?_⟩
  have := hc j (.int .i64 (zs[j]'(by omega))) (by simp [inCells, List.getElem?_eq_getElem (show j < zs.length by omega)])
  rw [addPlain] at this
  simpa using this
end Go.Proofs.Ytlfofdgeaigpbaa

namespace Go.Proofs.Ytlfofdgeaigpbaa
open Go.RowKit


/-- 'make([]int, 0, c)'. -/
theorem make_ints (c : Nat) (w : World) (hc : c ≤ 1000000000) : ∃ w', (Instr.makeSlice 32 (.int .i64 0) (.int .i64 (c : Int))).run Try.prog w = .ok (.slice (some ⟨w.heap.size, 0, none⟩) 0 c) w' ∧
    w'.ownsRow w.heap.size 3 1 (.slice (some ⟨w.heap.size, 0, none⟩) 0 c) 0 (inCells []) ∧ Below w.heap.size w w' ∧ w'.heap.size = w.heap.size + 1 := by
  obtain ⟨i0, hi, hz0, hz1, hz2⟩ := info_parts int_info
  have h := run_make (P := Try.prog) w 32 3 i0 _ Try.underlying32 hi hz0 .i64 .i64 0 c (by omega) (by omega) (by rw [hz2]; omega) (by omega)
  rw [hz1, Int.toNat_natCast] at h
  refine ⟨_, h, ?_, (Below.refl _ _).alloc (Nat.le_refl _) _, by simp⟩
  exact World.ownsRow_made w _ c (Nat.le_refl _) (by unfold maxLen; omega) (size_madeCells _ _)

end Go.Proofs.Ytlfofdgeaigpbaa
