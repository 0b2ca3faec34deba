/-
  Texts put together: PnM, LnM, LnR, But, Oth, Str, IntsB, OthG, OwnNo, RcPr, LpG, RecM, RecIn, RecRow.
-/
import Derived.Test.YtjmaccflnfaiiaaBn3
import Derived.Test.YtjmaccflnfaiiaaRcM
import Derived.Test.YtjmaccflnfaiiaaBn1
import Derived.Below
import Derived.Laws.AppendOwn
import Derived.WalkKit
import Derived.BigQuiet
import Derived.Test.YtjmaccflnfaiiaaRows
import Derived.WalkSpells
import Derived.WalkLawsBesides
import Derived.Lib.Hide
import Derived.Lib.Strings
import Derived.Deep.QuietTactic
import Derived.Laws.CopyOwn
import Derived.Laws.OwnMore
import Derived.Lib.SmallJoins
import Derived.ChangeArms
import Derived.KernelRfl
import Derived.Deep.SlicePairs
import Derived.ChangeSlices
set_option linter.unusedSimpArgs false
set_option linter.unusedVariables false
namespace Go.Proofs.Ytjmaccflnfaiiaa

/-- The kind of the last one, or 0. -/
def lastK (l : List Rv) : Int := match l.getLast? with | none => 0 | some y => y.k
theorem lastK_nil : lastK [] = 0 := rfl
theorem lastK_snoc (l : List Rv) (x : Rv) : lastK (l ++ [x]) = x.k := by simp [lastK]
/-- Like records put together: the last one's kind is the same. -/
theorem lastK_all (l : List Rv) : lastK (mgAll l) = lastK l := by
  refine mg_ind (P := fun l => lastK (mgAll l) = lastK l) rfl (fun l x ih => ?_) l
  rw [mga_snoc, lastK_snoc]
  rcases mgs_cases (mgAll l) x with ⟨e, h⟩ | ⟨o, y, e, ht, h⟩ | ⟨o, y, e, ht, h⟩ <;> rw [h]
  · rfl
  · rw [lastK_snoc]
    exact (mg2_yes ht).2.2.1.symm
  · rw [lastK_snoc]

/-- What is told of records that were put together: all, but for the last one, if that is no End. -/
def tdL (bt : Rv → List UInt8) : List Rv → List UInt8
  | [] => []
  | [x] => if x.k = 6 then bt x else []
  | x :: y :: l => bt x ++ tdL bt (y :: l)
theorem tdL_nil (bt : Rv → List UInt8) : tdL bt [] = [] := rfl
theorem tdL_one (bt : Rv → List UInt8) (x : Rv) : tdL bt [x] = if x.k = 6 then bt x else [] := rfl
theorem tdL_more (bt : Rv → List UInt8) (x y : Rv) (l : List Rv) : tdL bt (x :: y :: l) = bt x ++ tdL bt (y :: l) := rfl
theorem tdL_snoc (bt : Rv → List UInt8) : ∀ (o : List Rv) (y : Rv), tdL bt (o ++ [y]) = o.flatMap bt ++ (if y.k = 6 then bt y else [])
  | [], y => rfl
  | [x], y => by simp [tdL]
  | x :: z :: l, y => by
    have ih := tdL_snoc bt (z :: l) y
    simp only [List.cons_append] at ih ⊢
    rw [tdL_more, ih]
    simp
/-- What is told when one more comes. -/
def pnNew (bt : Rv → List UInt8) (A : List Rv) (x : Rv) : List UInt8 :=
  match A.getLast? with
  | none => if x.k = 6 then bt x else []
  | some y => if twoB y x = true then [] else bt y ++ (if x.k = 6 then bt x else [])
theorem pnn_nil (bt : Rv → List UInt8) (x : Rv) : pnNew bt [] x = if x.k = 6 then bt x else [] := rfl
theorem pnn_hit (bt : Rv → List UInt8) {o : List Rv} {y x : Rv} (h : twoB y x = true) : pnNew bt (o ++ [y]) x = [] := by simp [pnNew, h]
theorem pnn_miss (bt : Rv → List UInt8) {o : List Rv} {y x : Rv} (h : twoB y x = false) : pnNew bt (o ++ [y]) x = bt y ++ (if x.k = 6 then bt x else []) := by simp [pnNew, h]
theorem td_step (bt : Rv → List UInt8) (l : List Rv) (x : Rv) (h6 : lastK l ≠ 6) : tdL bt (mgAll (l ++ [x])) = tdL bt (mgAll l) ++ pnNew bt (mgAll l) x := by
  rw [← lastK_all] at h6
  rw [mga_snoc]
  rcases mgs_cases (mgAll l) x with ⟨e, h⟩ | ⟨o, y, e, ht, h⟩ | ⟨o, y, e, ht, h⟩ <;> rw [h]
  · rw [e, pnn_nil, tdL_one, tdL_nil, List.nil_append]
  · have hy : y.k ≠ 6 := by rw [e, lastK_snoc] at h6; exact h6
    have hp : (plusR y x).k ≠ 6 := hy
    rw [e, pnn_hit bt ht, tdL_snoc, tdL_snoc, if_neg hy, if_neg hp]
    simp
  · have hy : y.k ≠ 6 := by rw [e, lastK_snoc] at h6; exact h6
    rw [e, pnn_miss bt ht, tdL_snoc, tdL_snoc, if_neg hy]
    simp

/-- May a record come behind others? -/
def mayE (ok : Rv → Bool) (l : List Rv) (x : Rv) : Int :=
  if lastK l = 6 then 12 else if ok x = false then 2 else if x.k = 5 ∧ (l.length = 0 ∨ lastK l = 5) then 9 else 0
theorem may_end {ok : Rv → Bool} {l : List Rv} {x : Rv} (h : lastK l = 6) : mayE ok l x = 12 := if_pos h
theorem may_bad {ok : Rv → Bool} {l : List Rv} {x : Rv} (h : lastK l ≠ 6) (h2 : ok x = false) : mayE ok l x = 2 := by rw [mayE, if_neg h, if_pos h2]
theorem may_order {ok : Rv → Bool} {l : List Rv} {x : Rv} (h : lastK l ≠ 6) (h2 : ok x = true) (h3 : x.k = 5 ∧ (l.length = 0 ∨ lastK l = 5)) : mayE ok l x = 9 := by rw [mayE, if_neg h, if_neg (by rw [h2]; decide), if_pos h3]
theorem may_ok {ok : Rv → Bool} {l : List Rv} {x : Rv} (h : lastK l ≠ 6) (h2 : ok x = true) (h3 : ¬ (x.k = 5 ∧ (l.length = 0 ∨ lastK l = 5))) : mayE ok l x = 0 := by rw [mayE, if_neg h, if_neg (by rw [h2]; decide), if_neg h3]
theorem may_yes {ok : Rv → Bool} {l : List Rv} {x : Rv} (h : mayE ok l x = 0) : lastK l ≠ 6 ∧ ok x = true ∧ ¬ (x.k = 5 ∧ (l.length = 0 ∨ lastK l = 5)) := by
  by_cases h1 : lastK l = 6
  · rw [may_end h1] at h; cases h
  cases h2 : ok x with
  | false => rw [may_bad h1 h2] at h; cases h
  | true =>
    refine ⟨h1, rfl, fun h3 => ?_⟩
    rw [may_order h1 h2 h3] at h; cases h
/-- The first error, as one goes. -/
def mayS (ok : Rv → Bool) : List Rv → List Rv → Int
  | _, [] => 0
  | p, x :: l => if mayE ok p x = 0 then mayS ok (p ++ [x]) l else mayE ok p x
/-- Why records have no certificate, or 0. -/
def whE (ok : Rv → Bool) (l : List Rv) : Int := if mayS ok [] l = 0 then (if lastK l = 6 then 0 else 19) else mayS ok [] l
theorem mayS_good {ok : Rv → Bool} {p : List Rv} {x : Rv} {l : List Rv} (h : mayE ok p x = 0) : mayS ok p (x :: l) = mayS ok (p ++ [x]) l := by rw [mayS, if_pos h]
theorem mayS_bad {ok : Rv → Bool} {p : List Rv} {x : Rv} {l : List Rv} (h : mayE ok p x ≠ 0) : mayS ok p (x :: l) = mayE ok p x := by rw [mayS, if_neg h]
theorem mayS_app {ok : Rv → Bool} : ∀ (l p m : List Rv), mayS ok p (l ++ m) = if mayS ok p l = 0 then mayS ok (p ++ l) m else mayS ok p l
  | [], p, m => by simp [mayS]
  | x :: l, p, m => by
    by_cases h : mayE ok p x = 0
    · rw [List.cons_append, mayS_good h, mayS_good h, mayS_app l (p ++ [x]) m]
      simp
    · rw [List.cons_append, mayS_bad h, mayS_bad h, if_neg h]
theorem mayS_snoc {ok : Rv → Bool} (l : List Rv) (x : Rv) : mayS ok [] (l ++ [x]) = if mayS ok [] l = 0 then mayE ok l x else mayS ok [] l := by
  rw [mayS_app]
  by_cases h : mayS ok [] l = 0
  · rw [if_pos h, if_pos h, List.nil_append]
    by_cases h2 : mayE ok l x = 0
    · rw [mayS_good h2, h2]; rfl
    · rw [mayS_bad h2]
  · rw [if_neg h, if_neg h]
/-- All that came might come: where one goes on. -/
theorem mayS_next {ok : Rv → Bool} {l : List Rv} {x : Rv} {i : Nat} (hx : l[i]? = some x) (h : mayS ok [] (l.take i) = 0) : (mayE ok (l.take i) x = 0 → mayS ok [] (l.take (i + 1)) = 0) ∧ (mayE ok (l.take i) x ≠ 0 → mayS ok [] l = mayE ok (l.take i) x) := by
  obtain ⟨hi, rfl⟩ := List.getElem?_eq_some_iff.1 hx
  refine ⟨fun h2 => ?_, fun h2 => ?_⟩
  · rw [List.take_succ_eq_append_getElem hi, mayS_snoc, if_pos h, h2]
  · have e : l = l.take i ++ l[i] :: l.drop (i + 1) := by rw [← List.drop_eq_getElem_cons hi, List.take_append_drop]
    conv => lhs; rw [e]
    rw [mayS_app, if_pos h, List.nil_append, mayS_bad h2]

/-- Nothing is left to be put together. -/
theorem mgc_any (l : List Rv) : CanonL (mgAll l) := by
  refine mg_ind (P := fun l => CanonL (mgAll l)) (fun i x y h => by simp [mga_nil] at h) (fun l x ih => ?_) l
  rw [mga_snoc]
  rcases mgs_cases (mgAll l) x with ⟨e, h⟩ | ⟨o, y, e, ht, h⟩ | ⟨o, y, e, ht, h⟩ <;> rw [h]
  · intro i u v hu hv
    rw [List.getElem?_eq_none (by simp)] at hv; cases hv
  · rw [e] at ih
    refine ih.front.snoc fun z hz => ?_
    have hzy := ih.last hz
    have t := mg2_yes ht
    refine mg2_no fun q => ?_
    obtain ⟨q1, q2, q3, q4, q5, q6, q7, q8, q9⟩ := q
    simp only [plusR] at q3 q4 q9
    rw [mg2_mk ⟨q1, q2, q3, q4, q5, t.2.2.2.2.1, q7, t.2.2.2.2.2.2.1, by omega⟩] at hzy
    cases hzy
  · rw [e] at ih
    refine ih.snoc fun z hz => ?_
    simp at hz
    subst hz
    exact ht
theorem mga_twice (l : List Rv) : mgAll (mgAll l) = mgAll l := mgc_all _ (mgc_any l)

/-- Records that may be written: put together they may be, too. -/
theorem may_all {ok : Rv → Bool} (h2 : ∀ y x, ok y = true → ok x = true → twoB y x = true → ok (plusR y x) = true) (l : List Rv) : mayS ok [] l = 0 → mayS ok [] (mgAll l) = 0 := by
  refine mg_ind (P := fun l => mayS ok [] l = 0 → mayS ok [] (mgAll l) = 0) (fun h => h) (fun l x ih h => ?_) l
  rw [mayS_snoc] at h
  have hl : mayS ok [] l = 0 := by
    by_cases hl : mayS ok [] l = 0
    · exact hl
    · rw [if_neg hl] at h; exact h
  rw [if_pos hl] at h
  have i := ih hl
  obtain ⟨a1, a2, a3⟩ := may_yes h
  have k := lastK_all l
  rw [mga_snoc]
  rcases mgs_cases (mgAll l) x with ⟨e, h'⟩ | ⟨o, y, e, ht, h'⟩ | ⟨o, y, e, ht, h'⟩ <;> rw [h']
  · rw [e] at k
    have h5 : ¬ x.k = 5 := by
      rcases mg_cases l with rfl | ⟨o, y, rfl⟩
      · exact fun h => a3 ⟨h, .inl rfl⟩
      · obtain ⟨o2, y2, h⟩ := mga_pos o y
        rw [h] at e
        simp at e
    show mayS ok [] ([] ++ [x]) = 0
    rw [mayS_snoc, if_pos (show mayS ok [] [] = 0 from rfl)]
    exact may_ok (by rw [lastK_nil]; decide) a2 (fun h => h5 h.1)
  · rw [e] at i
    rw [mayS_snoc] at i ⊢
    have ho : mayS ok [] o = 0 := by
      by_cases ho : mayS ok [] o = 0
      · exact ho
      · rw [if_neg ho] at i; exact absurd i ho
    rw [if_pos ho] at i ⊢
    obtain ⟨b1, b2, b3⟩ := may_yes i
    have t := mg2_yes ht
    exact may_ok b1 (h2 y x b2 a2 ht) (fun h => by have : (plusR y x).k = y.k := rfl; omega)
  · rw [← e, mayS_snoc, if_pos i]
    refine may_ok (by rw [k]; exact a1) a2 (fun h => ?_)
    rcases h with ⟨q, q2 | q2⟩
    · rw [e] at q2; simp at q2
    · rw [k] at q2
      exact a3 ⟨q, .inr q2⟩
theorem wh_all {ok : Rv → Bool} (h2 : ∀ y x, ok y = true → ok x = true → twoB y x = true → ok (plusR y x) = true) (l : List Rv) (h : whE ok l = 0) : whE ok (mgAll l) = 0 := by
  unfold whE at h ⊢
  by_cases hs : mayS ok [] l = 0
  · rw [if_pos hs] at h
    rw [if_pos (may_all h2 l hs), lastK_all]
    exact h
  · rw [if_neg hs] at h; exact absurd h hs
/-- What is told is of what may be written. -/
theorem may_each {ok : Rv → Bool} : ∀ (l p : List Rv), mayS ok p l = 0 → ∀ x ∈ l, ok x = true
  | [], _, _, x, hx => by cases hx
  | y :: l, p, h, x, hx => by
    by_cases hy : mayE ok p y = 0
    · rw [mayS_good hy] at h
      rcases List.mem_cons.1 hx with rfl | hx
      · exact (may_yes hy).2.1
      · exact may_each l _ h x hx
    · rw [mayS_bad hy] at h; exact absurd h hy
theorem td_len {bt : Rv → List UInt8} {n : Nat} : ∀ (l : List Rv), (∀ x ∈ l, (bt x).length ≤ n) → (tdL bt l).length ≤ n * l.length
  | [], _ => by simp [tdL]
  | [x], h => by
    have := h x (by simp)
    rw [tdL_one]
    split <;> simp <;> omega
  | x :: y :: l, h => by
    have h1 := h x (by simp)
    have ih := td_len (y :: l) (fun z hz => h z (by simp [List.mem_cons] at hz ⊢; exact .inr hz))
    rw [tdL_more, List.length_append]
    simp only [List.length_cons, Nat.mul_succ] at ih ⊢
    omega

/-- The numbers of a record are few: so are its bytes. -/
theorem vall_len : ∀ (l : List Int), (∀ x ∈ l, x ≤ 9223372036854775807) → (vall l).length ≤ 9 * l.length
  | [], _ => by simp [vall]
  | x :: l, h => by
    have h1 := vput_length x (h x (by simp))
    have ih := vall_len l (fun y hy => h y (by simp [hy]))
    simp only [vall, List.length_append, List.length_cons]
    omega
theorem dif_most : ∀ (l : List Int) (a : Int), -1 ≤ a → risF a l = true → ∀ x ∈ difL (if a = -1 then 0 else a) l, x ≤ 65535
  | [], a, h0, h, x, hx => by simp [difL] at hx
  | y :: r, a, h0, h, x, hx => by
    obtain ⟨h1, h2, h3⟩ := ris_cons.1 h
    simp only [difL, List.mem_cons] at hx
    rcases hx with rfl | hx
    · split <;> omega
    · have := dif_most r y (by omega) h3 x
      rw [if_neg (by omega)] at this
      exact this hx
theorem putK_len {k n r : Int} {ids : List Int} (h : okK k n r ids = true) (hl : ids.length ≤ 300) : (putK k n r ids).length ≤ 3000 := by
  unfold putK numsL
  rw [List.length_cons]
  by_cases h4 : k = 4
  · obtain ⟨_, _, h3⟩ := (ok_at h4).1 h
    rw [if_pos h4]
    have hd := dif_most ids (-1) (by omega) h3
    rw [if_pos rfl] at hd
    have := vall_len ((ids.length : Int) :: difL 0 ids) (fun x hx => by
      rcases List.mem_cons.1 hx with rfl | hx
      · omega
      · have := hd x hx; omega)
    rw [List.length_cons, dif_len] at this
    omega
  · obtain ⟨_, h2, h3, _⟩ := (ok_no h4).1 h
    rw [if_neg h4]
    have b1 := fit_bounds h2
    have b2 := fit_bounds h3
    have := vall_len [n, r] (fun x hx => by simp at hx; omega)
    simp only [List.length_cons, List.length_nil] at this
    omega
/-- Two that may be written, put together. -/
theorem okK_plus {x y : Rv} {zs ys : List Int} (hy : okK y.k y.n y.r ys = true) (hx : okK x.k x.n x.r zs = true) (ht : twoB y x = true) : okK y.k y.n (y.r + x.r) [] = true := by
  have t := mg2_yes ht
  have h4 : ¬ y.k = 4 := by omega
  obtain ⟨h1, h2, h3, _⟩ := (ok_no h4).1 hy
  refine (ok_no h4).2 ⟨h1, h2, ?_, rfl⟩
  unfold fitK leastK
  rw [if_neg (by omega)]
  simp only [Bool.and_eq_true, decide_eq_true_eq]
  exact ⟨ofs_mk (by omega) (by omega), by omega⟩
end Go.Proofs.Ytjmaccflnfaiiaa

namespace Go.Proofs.Ytjmaccflnfaiiaa

/-- A record as a value: its numbers themselves. -/
structure Rn where
  k : Int
  n : Int
  r : Int
  ids : List Int
def rn0 : Rn := ⟨0, 0, 0, []⟩
def Rn.rv (x : Rn) : Rv := ⟨x.k, x.n, x.r, none, x.ids.length, 0⟩
def Tk.rn (T : Tk) : Rn := ⟨T.k, T.n, T.r, T.ids⟩
def rnOk (x : Rn) : Bool := okK x.k x.n x.r x.ids
def rnB (x : Rn) : List UInt8 := putK x.k x.n x.r x.ids
/-- The one that was read last. -/
def lnLast (l : List Rn) : Rn := match l.getLast? with | none => rn0 | some x => x
theorem lnl_nil : lnLast [] = rn0 := rfl
theorem lnl_snoc (l : List Rn) (x : Rn) : lnLast (l ++ [x]) = x := by simp [lnLast]
theorem lnl_at {l : List Rn} {m : Nat} (hm : l.length = m + 1) : l[m]? = some (lnLast l) := by
  rcases mg_cases l with rfl | ⟨o, y, rfl⟩
  · simp at hm
  · rw [lnl_snoc]
    simp at hm
    subst hm
    simp
/-- May a record not come behind those that were read? -/
def lnBad (l : List Rn) (x : Rn) : Bool := twoB (lnLast l).rv x.rv || (decide (x.k = 5) && (decide (l.length = 0) || decide ((lnLast l).k = 5)))
theorem lnbad_yes {l : List Rn} {x : Rn} (h : twoB (lnLast l).rv x.rv = true ∨ x.k = 5 ∧ (l.length = 0 ∨ (lnLast l).k = 5)) : lnBad l x = true := by
  unfold lnBad
  rcases h with h | ⟨h1, h2⟩
  · rw [h]; rfl
  · rw [decide_eq_true h1, Bool.true_and, Bool.or_eq_true, Bool.or_eq_true, decide_eq_true_eq, decide_eq_true_eq]
    exact .inr h2
theorem lnbad_no {l : List Rn} {x : Rn} : lnBad l x = false ↔ twoB (lnLast l).rv x.rv = false ∧ ¬ (x.k = 5 ∧ (l.length = 0 ∨ (lnLast l).k = 5)) := by
  unfold lnBad
  simp [Bool.or_eq_false_iff, Bool.and_eq_false_iff]

/-- A lens's state: the records that were read, what is left, whether it is closed, what was told ahead. -/
structure LnS where
  read : List Rn
  rest : List UInt8
  closed : Bool
  e : Int
/-- One record more, or none. -/
def lnNext (s : LnS) : LnS × Bool :=
  if s.e ≠ 0 then (s, false)
  else if (lnLast s.read).k = 6 then (if s.rest.length = 0 then (s, false) else ({ s with e := 20 }, false))
  else if (tkR s.rest).e = 4 ∧ s.closed = false then (s, false)
  else if (tkR s.rest).e ≠ 0 then ({ s with e := (tkR s.rest).e }, false)
  else if lnBad s.read (tkR s.rest).rn = true then ({ s with e := 9 }, false)
  else ({ s with read := s.read ++ [(tkR s.rest).rn], rest := (tkR s.rest).rest }, true)
theorem ln_wrong {s : LnS} (h : s.e ≠ 0) : lnNext s = (s, false) := if_pos h
theorem ln_end {s : LnS} (h : s.e = 0) (h6 : (lnLast s.read).k = 6) (hr : s.rest.length = 0) : lnNext s = (s, false) := by
  rw [lnNext, if_neg (fun g => g h), if_pos h6, if_pos hr]
theorem ln_more {s : LnS} (h : s.e = 0) (h6 : (lnLast s.read).k = 6) (hr : s.rest.length ≠ 0) : lnNext s = ({ s with e := 20 }, false) := by
  rw [lnNext, if_neg (fun g => g h), if_pos h6, if_neg hr]
theorem ln_wait {s : LnS} (h : s.e = 0) (h6 : (lnLast s.read).k ≠ 6) (h4 : (tkR s.rest).e = 4) (hc : s.closed = false) : lnNext s = (s, false) := by
  rw [lnNext, if_neg (fun g => g h), if_neg h6, if_pos ⟨h4, hc⟩]
theorem ln_err {s : LnS} (h : s.e = 0) (h6 : (lnLast s.read).k ≠ 6) (h4 : ¬ ((tkR s.rest).e = 4 ∧ s.closed = false)) (he : (tkR s.rest).e ≠ 0) : lnNext s = ({ s with e := (tkR s.rest).e }, false) := by
  rw [lnNext, if_neg (fun g => g h), if_neg h6, if_neg h4, if_pos he]
theorem ln_order {s : LnS} (h : s.e = 0) (h6 : (lnLast s.read).k ≠ 6) (he : (tkR s.rest).e = 0) (hb : lnBad s.read (tkR s.rest).rn = true) : lnNext s = ({ s with e := 9 }, false) := by
  rw [lnNext, if_neg (fun g => g h), if_neg h6, if_neg (fun g => by rw [he] at g; exact absurd g.1 (by decide)), if_neg (fun g => g he), if_pos hb]
theorem ln_read {s : LnS} (h : s.e = 0) (h6 : (lnLast s.read).k ≠ 6) (he : (tkR s.rest).e = 0) (hb : lnBad s.read (tkR s.rest).rn = false) : lnNext s = ({ s with read := s.read ++ [(tkR s.rest).rn], rest := (tkR s.rest).rest }, true) := by
  rw [lnNext, if_neg (fun g => g h), if_neg h6, if_neg (fun g => by rw [he] at g; exact absurd g.1 (by decide)), if_neg (fun g => g he), if_neg (by rw [hb]; decide)]
/-- When a record is told. -/
theorem ln_yes {s : LnS} (h : (lnNext s).2 = true) : s.e = 0 ∧ (lnLast s.read).k ≠ 6 ∧ (tkR s.rest).e = 0 ∧ lnBad s.read (tkR s.rest).rn = false := by
  by_cases h0 : s.e = 0
  · by_cases h6 : (lnLast s.read).k = 6
    · by_cases hr : s.rest.length = 0
      · rw [ln_end h0 h6 hr] at h; cases h
      · rw [ln_more h0 h6 hr] at h; cases h
    · by_cases he : (tkR s.rest).e = 0
      · cases hb : lnBad s.read (tkR s.rest).rn with
        | false => exact ⟨h0, h6, he, rfl⟩
        | true => rw [ln_order h0 h6 he hb] at h; cases h
      · by_cases h4 : (tkR s.rest).e = 4 ∧ s.closed = false
        · rw [ln_wait h0 h6 h4.1 h4.2] at h; cases h
        · rw [ln_err h0 h6 h4 he] at h; cases h
  · rw [ln_wrong h0] at h; cases h
theorem ln_told {s : LnS} (h : (lnNext s).2 = true) : lnNext s = ({ s with read := s.read ++ [(tkR s.rest).rn], rest := (tkR s.rest).rest }, true) := by
  obtain ⟨h1, h2, h3, h4⟩ := ln_yes h
  exact ln_read h1 h2 h3 h4
/-- If none is told, it is the same but for the error. -/
theorem ln_not {s : LnS} (h : (lnNext s).2 = false) : (lnNext s).1.read = s.read ∧ (lnNext s).1.rest = s.rest ∧ (lnNext s).1.closed = s.closed := by
  by_cases h0 : s.e = 0
  · by_cases h6 : (lnLast s.read).k = 6
    · by_cases hr : s.rest.length = 0
      · rw [ln_end h0 h6 hr]; exact ⟨rfl, rfl, rfl⟩
      · rw [ln_more h0 h6 hr]; exact ⟨rfl, rfl, rfl⟩
    · by_cases he : (tkR s.rest).e = 0
      · cases hb : lnBad s.read (tkR s.rest).rn with
        | false => rw [ln_read h0 h6 he hb] at h; cases h
        | true => rw [ln_order h0 h6 he hb]; exact ⟨rfl, rfl, rfl⟩
      · by_cases h4 : (tkR s.rest).e = 4 ∧ s.closed = false
        · rw [ln_wait h0 h6 h4.1 h4.2]; exact ⟨rfl, rfl, rfl⟩
        · rw [ln_err h0 h6 h4 he]; exact ⟨rfl, rfl, rfl⟩
  · rw [ln_wrong h0]; exact ⟨rfl, rfl, rfl⟩
/-- Of a closed lens nothing is told and nothing is wrong only behind an End, with nothing left. -/
theorem ln_done {s : LnS} (hc : s.closed = true) (h : (lnNext s).2 = false) (he : (lnNext s).1.e = 0) : (lnLast s.read).k = 6 ∧ s.rest = [] := by
  by_cases h0 : s.e = 0
  · by_cases h6 : (lnLast s.read).k = 6
    · by_cases hr : s.rest.length = 0
      · exact ⟨h6, List.eq_nil_of_length_eq_zero hr⟩
      · rw [ln_more h0 h6 hr] at he; exact absurd he (by show ¬ (20 : Int) = 0; decide)
    · by_cases hk : (tkR s.rest).e = 0
      · cases hb : lnBad s.read (tkR s.rest).rn with
        | false => rw [ln_read h0 h6 hk hb] at h; cases h
        | true => rw [ln_order h0 h6 hk hb] at he; exact absurd he (by show ¬ (9 : Int) = 0; decide)
      · rw [ln_err h0 h6 (fun g => by rw [hc] at g; exact absurd g.2 (by decide)) hk] at he; exact absurd he hk
  · rw [ln_wrong h0] at he; exact absurd he h0

/-- Records that may be read, one behind the other. -/
def LnMay (p : List Rn) (x : Rn) : Prop := (lnLast p).k ≠ 6 ∧ rnOk x = true ∧ lnBad p x = false
def LnC : List Rn → List Rn → Prop
  | _, [] => True
  | p, x :: l => LnMay p x ∧ LnC (p ++ [x]) l
theorem lnc_app : ∀ (l p m : List Rn), LnC p (l ++ m) ↔ LnC p l ∧ LnC (p ++ l) m
  | [], p, m => by simp [LnC]
  | x :: l, p, m => by
    have h := lnc_app l (p ++ [x]) m
    simp only [List.cons_append, LnC, h, List.append_assoc, List.cons_append, List.nil_append, and_assoc]
theorem lnc_snoc {l : List Rn} {x : Rn} : LnC [] (l ++ [x]) ↔ LnC [] l ∧ LnMay l x := by
  rw [lnc_app]
  simp [LnC]
theorem putK_pos (k n r : Int) (ids : List Int) : 1 ≤ (putK k n r ids).length := by unfold putK; simp
/-- What is kept by a record that is told. -/
theorem ln_keep {s : LnS} (h : (lnNext s).2 = true) (hc : LnC [] s.read) : LnC [] (lnNext s).1.read ∧ (lnNext s).1.read.flatMap rnB ++ (lnNext s).1.rest = s.read.flatMap rnB ++ s.rest ∧ (lnNext s).1.rest.length < s.rest.length ∧ (lnNext s).1.closed = s.closed ∧ (lnNext s).1.e = 0 := by
  obtain ⟨h1, h2, h3, h4⟩ := ln_yes h
  obtain ⟨b1, b2⟩ := rtk_back h3
  rw [ln_told h]
  have hl := congrArg List.length b2
  rw [List.length_append] at hl
  have := putK_pos (tkR s.rest).k (tkR s.rest).n (tkR s.rest).r (tkR s.rest).ids
  refine ⟨lnc_snoc.2 ⟨hc, h2, b1, h4⟩, ?_, by show (tkR s.rest).rest.length < _; omega, rfl, h1⟩
  show (s.read ++ [(tkR s.rest).rn]).flatMap rnB ++ (tkR s.rest).rest = _
  rw [List.flatMap_append, List.append_assoc]
  congr 1
  simp only [List.flatMap_cons, List.flatMap_nil, List.append_nil]
  exact b2
/-- All that is told, one by one. -/
def lnRun : Nat → LnS → LnS
  | 0, s => s
  | n + 1, s => if (lnNext s).2 = true then lnRun n (lnNext s).1 else (lnNext s).1
theorem lnrun_yes {n : Nat} {s : LnS} (h : (lnNext s).2 = true) : lnRun (n + 1) s = lnRun n (lnNext s).1 := by rw [lnRun, if_pos h]
theorem lnrun_no {n : Nat} {s : LnS} (h : (lnNext s).2 = false) : lnRun (n + 1) s = (lnNext s).1 := by rw [lnRun, if_neg (by rw [h]; decide)]
/-- As much fuel as one likes. -/
theorem lnrun_fuel : ∀ (n m : Nat) (s : LnS), s.rest.length < n → s.rest.length < m → LnC [] s.read → lnRun n s = lnRun m s
  | 0, m, s, h, _, _ => by omega
  | n + 1, 0, s, _, h, _ => by omega
  | n + 1, m + 1, s, h1, h2, hc => by
    cases h : (lnNext s).2 with
    | true =>
      obtain ⟨k1, _, k3, _, _⟩ := ln_keep h hc
      rw [lnrun_yes h, lnrun_yes h]
      exact lnrun_fuel n m _ (by omega) (by omega) k1
    | false => rw [lnrun_no h, lnrun_no h]
def lnStart (t : List UInt8) : LnS := ⟨[], t, true, 0⟩
def lnAll (t : List UInt8) : LnS := lnRun (t.length + 1) (lnStart t)
theorem lnrun_good : ∀ (n : Nat) (s : LnS), s.rest.length < n → s.closed = true → LnC [] s.read → (lnRun n s).e = 0 → LnC [] (lnRun n s).read ∧ (lnRun n s).read.flatMap rnB = s.read.flatMap rnB ++ s.rest ∧ (lnLast (lnRun n s).read).k = 6
  | 0, s, h, _, _, _ => by omega
  | n + 1, s, h, hcl, hc, he => by
    cases hx : (lnNext s).2 with
    | true =>
      obtain ⟨k1, k2, k3, k4, k5⟩ := ln_keep hx hc
      rw [lnrun_yes hx] at he ⊢
      obtain ⟨r1, r2, r3⟩ := lnrun_good n _ (by omega) (by rw [k4]; exact hcl) k1 he
      exact ⟨r1, by rw [r2, k2], r3⟩
    | false =>
      rw [lnrun_no hx] at he ⊢
      obtain ⟨n1, n2, n3⟩ := ln_not hx
      obtain ⟨d1, d2⟩ := ln_done hcl hx he
      rw [n1, d2]
      exact ⟨hc, by simp, d1⟩
/-- What is read of bytes without an error: these bytes. -/
theorem lnall_good {t : List UInt8} (h : (lnAll t).e = 0) : LnC [] (lnAll t).read ∧ (lnAll t).read.flatMap rnB = t ∧ (lnLast (lnAll t).read).k = 6 := by
  obtain ⟨a, b, c⟩ := lnrun_good (t.length + 1) (lnStart t) (by show t.length < _; omega) rfl trivial h
  exact ⟨a, b.trans rfl, c⟩
theorem lnrun_back : ∀ (q p : List Rn) (n : Nat), q.length < n → LnC p q → (lnLast (p ++ q)).k = 6 → lnRun n ⟨p, q.flatMap rnB, true, 0⟩ = ⟨p ++ q, [], true, 0⟩
  | [], p, 0, h, _, _ => by omega
  | _ :: _, p, 0, h, _, _ => by omega
  | [], p, n + 1, h, _, h6 => by
    rw [List.append_nil] at h6 ⊢
    have e : lnNext ⟨p, ([] : List Rn).flatMap rnB, true, 0⟩ = (⟨p, [], true, 0⟩, false) := ln_end (s := ⟨p, [], true, 0⟩) rfl h6 rfl
    rw [lnrun_no (by rw [e]), e]
  | x :: q, p, n + 1, h, hc, h6 => by
    obtain ⟨⟨m1, m2, m3⟩, hc2⟩ := hc
    have T := rtk_put (k := x.k) (n := x.n) (r := x.r) (ids := x.ids) m2 (q.flatMap rnB)
    have ef : (x :: q).flatMap rnB = putK x.k x.n x.r x.ids ++ q.flatMap rnB := by simp [rnB]
    have e : lnNext ⟨p, (x :: q).flatMap rnB, true, 0⟩ = (⟨p ++ [x], q.flatMap rnB, true, 0⟩, true) := by
      have hT : tkR ((x :: q).flatMap rnB) = ⟨0, x.k, x.n, x.r, x.ids, q.flatMap rnB⟩ := by rw [ef]; exact T
      have h := ln_read (s := ⟨p, (x :: q).flatMap rnB, true, 0⟩) rfl m1 (by show (tkR _).e = 0; rw [hT]) (by show lnBad p (tkR _).rn = false; rw [hT]; exact m3)
      rw [h]
      show (({ read := p ++ [(tkR ((x :: q).flatMap rnB)).rn], rest := (tkR ((x :: q).flatMap rnB)).rest, closed := true, e := 0 } : LnS), true) = _
      rw [hT]
      rfl
    have ih := lnrun_back q (p ++ [x]) n (by simp at h; omega) hc2 (by rw [List.append_assoc]; exact h6)
    rw [lnrun_yes (by rw [e]), e, ih, List.append_assoc]
    rfl
theorem flat_len : ∀ q : List Rn, q.length ≤ (q.flatMap rnB).length
  | [] => by simp
  | x :: q => by
    have ih := flat_len q
    have := putK_pos x.k x.n x.r x.ids
    rw [List.flatMap_cons, List.length_append, List.length_cons]
    unfold rnB at ih ⊢
    omega
/-- Records that may be read are read of their bytes. -/
theorem lnall_back {l : List Rn} (hc : LnC [] l) (h6 : (lnLast l).k = 6) : lnAll (l.flatMap rnB) = ⟨l, [], true, 0⟩ := by
  have h := lnrun_back l [] ((l.flatMap rnB).length + 1) (by have := flat_len l; omega) hc (by rw [List.nil_append]; exact h6)
  rw [List.nil_append] at h
  exact h
theorem lnc_each : ∀ (l p : List Rn), LnC p l → ∀ x ∈ l, rnOk x = true
  | [], _, _, x, hx => by cases hx
  | y :: l, p, h, x, hx => by
    rcases List.mem_cons.1 hx with rfl | hx
    · exact h.1.2.1
    · exact lnc_each l _ h.2 x hx
end Go.Proofs.Ytjmaccflnfaiiaa

namespace Go.Proofs.Ytjmaccflnfaiiaa

theorem hi_app (s z : List UInt8) : hi s ≤ hi (s ++ z) ∧ (hi s < s.length → hi (s ++ z) = hi s) := by
  induction s with
  | nil => exact ⟨Nat.zero_le _, fun h => absurd h (by simp)⟩
  | cons c t ih =>
    rw [List.cons_append]
    by_cases h : 128 ≤ c.toNat
    · simp only [hi, if_pos h, List.length_cons]
      exact ⟨by omega, fun g => by rw [ih.2 (by omega)]⟩
    · simp only [hi, if_neg h]
      exact ⟨Nat.le_refl _, fun _ => trivial⟩
theorem tE_app (s z : List UInt8) (h : tE s ≠ 4) : tE (s ++ z) = tE s := by
  have hs := hi_le s
  obtain ⟨h1, h2⟩ := hi_app s z
  unfold tE at h ⊢
  by_cases h9 : 9 ≤ hi s
  · rw [if_pos h9, if_pos (by omega)]
  · rw [if_neg h9] at h ⊢
    by_cases hl : hi s = s.length
    · rw [if_pos hl] at h; exact absurd rfl h
    · have hlt : hi s < s.length := by omega
      rw [if_neg hl, h2 hlt, if_neg h9, if_neg (by rw [List.length_append]; omega)]
      have e : (s ++ z).getD (hi s) 0 = s.getD (hi s) 0 := by
        simp [List.getD, List.getElem?_append_left hlt]
      rw [e]
theorem tN_app {s : List UInt8} (z : List UInt8) (h : tE s = 0) : tN (s ++ z) = tN s ∧ psv (s ++ z) = psv s ++ z := by
  have b := tN_bounds s
  have e : s ++ z = vput (tN s) ++ (psv s ++ z) := by rw [← List.append_assoc, put_psv h]
  have T := take_put (tN s) b.1 b.2 (psv s ++ z)
  exact ⟨by rw [e]; exact T.1, by rw [e]; exact psv_put _ b.1 b.2 _⟩
theorem fitE_app {k : Int} (s z : List UInt8) (h : fitE k s ≠ 4) : fitE k (s ++ z) = fitE k s := by
  unfold fitE at h ⊢
  by_cases h0 : tE s = 0
  · rw [tE_app s z (by rw [h0]; decide), (tN_app z h0).1]
  · rw [if_neg h0] at h
    rw [tE_app s z h]
    rw [if_neg h0, if_neg h0]
theorem idT_app : ∀ (m : Nat) (f : Bool) (a : Int) (s z : List UInt8), (idT m f a s).1 ≠ 4 → (idT m f a (s ++ z)).1 = (idT m f a s).1
  | 0, f, a, s, z, h => rfl
  | m + 1, f, a, s, z, h => by
    by_cases e1 : tE s = 0
    · have e2 := tE_app s z (by rw [e1]; decide)
      obtain ⟨n1, p1⟩ := tN_app z e1
      have e3 := e2.trans e1
      by_cases g2 : tN s = 0 ∧ f = false
      · rw [id_order e1 g2, id_order e3 (by rw [n1]; exact g2)]
      · by_cases g3 : 65534 - a < tN s
        · rw [id_range e1 g2 g3, id_range e3 (by rw [n1]; exact g2) (by rw [n1]; exact g3)]
        · rw [id_good e1 g2 g3] at h ⊢
          rw [id_good e3 (by rw [n1]; exact g2) (by rw [n1]; exact g3), n1, p1]
          exact idT_app m false _ _ z h
    · rw [id_form e1] at h ⊢
      have h' : tE s ≠ 4 := h
      have e2 := tE_app s z h'
      rw [id_form (by rw [e2]; exact e1)]
      exact e2
theorem rtk_e_app (s z : List UInt8) (h : (tkR s).e ≠ 4) : (tkR (s ++ z)).e = (tkR s).e := by
  cases s with
  | nil => exact absurd rfl h
  | cons c t =>
    show (tkC (c.toNat : Int) (t ++ z) (c :: (t ++ z))).e = (tkC (c.toNat : Int) t (c :: t)).e
    have h : (tkC (c.toNat : Int) t (c :: t)).e ≠ 4 := h
    generalize (c :: t) = s0 at h ⊢
    generalize c :: (t ++ z) = s1
    unfold tkC at h ⊢
    by_cases h1 : 1 ≤ (c.toNat : Int) ∧ (c.toNat : Int) ≤ 6
    · rw [if_pos h1] at h ⊢
      rw [if_pos h1]
      by_cases h4 : (c.toNat : Int) = 4
      · rw [if_pos h4] at h ⊢
        rw [if_pos h4]
        by_cases h5 : tE t = 0
        · obtain ⟨n1, p1⟩ := tN_app z h5
          rw [if_pos h5] at h ⊢
          rw [if_pos (by rw [tE_app t z (by rw [h5]; decide)]; exact h5), n1, p1]
          by_cases h6 : 65535 < tN t
          · rw [if_pos h6, if_pos h6]; rfl
          · rw [if_neg h6] at h ⊢
            rw [if_neg h6]
            have hq : (idT (tN t).toNat true 0 (psv t)).1 ≠ 4 := by
              by_cases h7 : (idT (tN t).toNat true 0 (psv t)).1 = 0
              · rw [h7]; decide
              · rw [if_neg h7] at h; exact h
            have e := idT_app _ true 0 (psv t) z hq
            rw [e]
            by_cases h7 : (idT (tN t).toNat true 0 (psv t)).1 = 0
            · rw [if_pos h7, if_pos h7]
            · rw [if_neg h7, if_neg h7]; rfl
        · rw [if_neg h5] at h ⊢
          have h' : tE t ≠ 4 := h
          have e := tE_app t z h'
          rw [if_neg (by rw [e]; exact h5), e]; rfl
      · rw [if_neg h4] at h ⊢
        rw [if_neg h4]
        by_cases h5 : fitE (c.toNat : Int) t = 0
        · rw [if_pos h5] at h ⊢
          obtain ⟨q1, _⟩ := fit_ok h5
          rw [if_pos (by rw [fitE_app t z (by rw [h5]; decide)]; exact h5), (tN_app z q1).2]
          by_cases h6 : fitE (c.toNat : Int) (psv t) = 0
          · rw [if_pos h6, if_pos (by rw [fitE_app _ z (by rw [h6]; decide)]; exact h6)]
          · rw [if_neg h6] at h ⊢
            have h' : fitE (c.toNat : Int) (psv t) ≠ 4 := h
            have e := fitE_app (k := (c.toNat : Int)) (psv t) z h'
            rw [if_neg (by rw [e]; exact h6), e]; rfl
        · rw [if_neg h5] at h ⊢
          have h' : fitE (c.toNat : Int) t ≠ 4 := h
          have e := fitE_app (k := (c.toNat : Int)) t z h'
          rw [if_neg (by rw [e]; exact h5), e]; rfl
    · rw [if_neg h1, if_neg h1]; rfl
/-- All that bytes tell that are not too short, they tell whatever stands behind them. -/
theorem rtk_app (s z : List UInt8) (h : (tkR s).e ≠ 4) : tkR (s ++ z) = ⟨(tkR s).e, (tkR s).k, (tkR s).n, (tkR s).r, (tkR s).ids, (tkR s).rest ++ z⟩ := by
  by_cases h0 : (tkR s).e = 0
  · obtain ⟨b1, b2⟩ := rtk_back h0
    have e : s ++ z = putK (tkR s).k (tkR s).n (tkR s).r (tkR s).ids ++ ((tkR s).rest ++ z) := by rw [← List.append_assoc, b2]
    have T := rtk_put b1 ((tkR s).rest ++ z)
    rw [← e] at T
    rw [T, h0]
  · have e := rtk_e_app s z h
    have h1 := rtk_bad s h0
    have h2 := rtk_bad (s ++ z) (by rw [e]; exact h0)
    rw [h2, e]
    generalize (tkR s).e = y at h1 ⊢
    rw [h1]
    rfl
theorem rtk_len (s : List UInt8) : (tkR s).rest.length ≤ s.length := by
  by_cases h0 : (tkR s).e = 0
  · obtain ⟨_, b2⟩ := rtk_back h0
    have := congrArg List.length b2
    rw [List.length_append] at this
    omega
  · have h1 := rtk_bad s h0
    generalize (tkR s).e = y at h1
    rw [h1]
    exact Nat.le_refl _
/-- What is left of it is what stands behind so many bytes. -/
theorem rtk_drop {s : List UInt8} (h : (tkR s).e = 0) : s.drop (s.length - (tkR s).rest.length) = (tkR s).rest := by
  obtain ⟨_, b2⟩ := rtk_back h
  have hl := congrArg List.length b2
  rw [List.length_append] at hl
  have e : s.length - (tkR s).rest.length = (putK (tkR s).k (tkR s).n (tkR s).r (tkR s).ids).length := by omega
  rw [e]
  conv => lhs; arg 2; rw [← b2]
  exact List.drop_left
end Go.Proofs.Ytjmaccflnfaiiaa

namespace Go.Proofs.Ytjmaccflnfaiiaa
open Go.RowKit

/-- Behind a call that writes one block of its own: all others below 'base' are as they were. -/
structure But (base b : Nat) (w w' : World) : Prop where
  os : w'.os = w.os
  tape : w'.tape = w.tape
  output : w'.output = w.output
  size : w.heap.size ≤ w'.heap.size
  block : ∀ k, k < base → k ≠ b → w'.heap[k]? = w.heap[k]?

theorem But.refl (base b : Nat) (w : World) : But base b w w := ⟨rfl, rfl, rfl, Nat.le_refl _, fun _ _ _ => rfl⟩
theorem But.trans {base b : Nat} {u v w : World} (h : But base b u v) (k : But base b v w) : But base b u w :=
  ⟨k.os.trans h.os, k.tape.trans h.tape, k.output.trans h.output, Nat.le_trans h.size k.size, fun i hi hb => (k.block i hi hb).trans (h.block i hi hb)⟩
theorem But.below {base b : Nat} {w w' : World} (h : But base b w w') (hb : b ≤ base) : Below b w w' :=
  ⟨h.os, h.tape, h.output, h.size, fun k hk => h.block k (by omega) (by omega)⟩
theorem But.of {base b : Nat} {w w' : World} (h : Below base w w') : But base b w w' := ⟨h.os, h.tape, h.output, h.size, fun k hk _ => h.block k hk⟩

theorem owns_slice {w : World} {base : Nat} {e : TypeId} {v : Value} {n : Nat} {xs : List Value} (h : w.ownsRow base e 1 v n xs) : ∃ a cap, v = .slice a n cap := by
  rcases h.2 with ⟨rfl, rfl⟩ | ⟨g, cap, cur, rfl, _⟩
  · exact ⟨_, _, rfl⟩
  · exact ⟨_, _, rfl⟩

theorem owns_some {w : World} {base : Nat} {e : TypeId} {v : Value} {n : Nat} {xs : List Value} (h : w.ownsRow base e 1 v n xs) (hn : 0 < n) : ∃ g cap, base ≤ g ∧ n ≤ cap ∧ v = .slice (some ⟨g, 0, none⟩) n cap := by
  rcases h.2 with ⟨rfl, rfl⟩ | ⟨g, cap, cur, rfl, hg, _, hc, _⟩
  · omega
  · exact ⟨g, cap, hg, hc, rfl⟩

theorem put_heap {w : World} {b i : Nat} {cs : Array Value} {T : TypeId} (h : w.heap[b]? = some (.cells cs T (0, 0))) (u : Value) : (w.setCell ⟨b, i, none⟩ u).heap[b]? = some (.cells (cs.setIfInBounds i u) T (0, 0)) := by
  simp [World.setCell, Array.getElem?_modify, h]

theorem put_other {w : World} {b i k : Nat} (h : k ≠ b) (u : Value) : (w.setCell ⟨b, i, none⟩ u).heap[k]? = w.heap[k]? := Below.heap_setCell _ _ _ _ h

theorem lt_of_heap {w : World} {b : Nat} {o : Obj} (h : w.heap[b]? = some o) : b < w.heap.size := by
  rcases Nat.lt_or_ge b w.heap.size with h' | h'
  · exact h'
  · simp [Array.getElem?_eq_none h'] at h

/-- All that was stored was stored into block b. -/
structure Into (b : Nat) (w w' : World) : Prop where
  os : w'.os = w.os
  tape : w'.tape = w.tape
  output : w'.output = w.output
  size : w'.heap.size = w.heap.size
  block : ∀ k, k ≠ b → w'.heap[k]? = w.heap[k]?
theorem Into.refl (b : Nat) (w : World) : Into b w w := ⟨rfl, rfl, rfl, rfl, fun _ _ => rfl⟩
theorem Into.set {b : Nat} {w v : World} (h : Into b w v) (i : Nat) (u : Value) : Into b w (v.setCell ⟨b, i, none⟩ u) :=
  ⟨h.os, h.tape, h.output, by rw [← h.size]; simp [World.setCell], fun k hk => (put_other hk u).trans (h.block k hk)⟩
theorem Into.drewN {b : Nat} {w v : World} (h : Into b w v) (n : Nat) : Into b w (v.drewN n) := ⟨h.os, h.tape, h.output, h.size, h.block⟩

theorem Into.owns {base b : Nat} {w w' : World} {e : TypeId} {v : Value} {n : Nat} {xs : List Value} (h : Into b w w') (hb : b < base) (hown : w.ownsRow base e 1 v n xs) : w'.ownsRow base e 1 v n xs := by
  obtain ⟨hl, hx⟩ := hown
  refine ⟨hl, ?_⟩
  rcases hx with hx | ⟨g, cap, cur, hv, hg, hh, r⟩
  · exact .inl hx
  · exact .inr ⟨g, cap, cur, hv, hg, (h.block g (by omega)).trans hh, r⟩
end Go.Proofs.Ytjmaccflnfaiiaa

namespace Go.Proofs.Ytjmaccflnfaiiaa
open Go.RowKit

/-- All blocks of cells of other types than T are as they were. -/
def Other (T : TypeId) (w w' : World) : Prop := ∀ (k : Nat) (cs : Array Value) (U : TypeId) (m : Nat × Nat), U ≠ T → w.heap[k]? = some (.cells cs U m) → w'.heap[k]? = some (.cells cs U m)
theorem Other.refl (T : TypeId) (w : World) : Other T w w := fun _ _ _ _ _ h => h
theorem Other.trans {T : TypeId} {u v w : World} (h : Other T u v) (k : Other T v w) : Other T u w := fun i cs U m hU hh => k i cs U m hU (h i cs U m hU hh)
theorem Other.set {T : TypeId} {w : World} {b i : Nat} {cs : Array Value} {m : Nat × Nat} (h : w.heap[b]? = some (.cells cs T m)) (u : Value) : Other T w (w.setCell ⟨b, i, none⟩ u) := fun k ds U m' hU hk => by
  have hne : k ≠ b := fun e => by
    subst e
    rw [h] at hk
    injection hk with hk
    injection hk with h1 h2 h3
    exact hU h2.symm
  rw [put_other hne]
  exact hk
theorem Other.heap {T : TypeId} {w w' : World} (e : w'.heap = w.heap) : Other T w w' := fun k cs U m hU hk => by rw [e]; exact hk
theorem Other.owns {T : TypeId} {w w' : World} (h : Other T w w') {base n : Nat} {size : Nat} {e : TypeId} {v : Value} {xs : List Value} (he : e ≠ T) (ho : w.ownsRow base e size v n xs) : w'.ownsRow base e size v n xs := by
  obtain ⟨hl, hx⟩ := ho
  refine ⟨hl, ?_⟩
  rcases hx with hx | ⟨g, cap, cur, hv, hg, hh, r⟩
  · exact .inl hx
  · exact .inr ⟨g, cap, cur, hv, hg, h g _ _ _ he hh, r⟩
end Go.Proofs.Ytjmaccflnfaiiaa

namespace Go.Proofs.Ytjmaccflnfaiiaa
open Go.RowKit

/-- A slice that holds these texts. -/
def IsStrs (w : World) (a : Option Addr) (len : Nat) (ws : List (List UInt8)) : Prop :=
  ws.length = len ∧ (len = 0 ∨ ∃ b off, a = some ⟨b, off, none⟩ ∧ ∀ i (h : i < ws.length), w.cell? ⟨b, off + i, none⟩ = some (.string ⟨(ws[i]'h).toArray⟩))

theorem IsStrs.below {w w' : World} {a : Option Addr} {len : Nat} {ws : List (List UInt8)} (h : IsStrs w a len ws) (hb : Below w.heap.size w w') : IsStrs w' a len ws := by
  obtain ⟨hl, h⟩ := h
  refine ⟨hl, ?_⟩
  rcases h with h | ⟨b, off, ha, hc⟩
  · exact .inl h
  · refine .inr ⟨b, off, ha, fun i hi => ?_⟩
    have h1 := hc i hi
    rw [hb.cell (p := ⟨b, off + i, none⟩) (World.block_lt_of_cell? w _ h1)]
    exact h1

/-- One of them: where it lies. -/
theorem str_at {w wr : World} {a : Option Addr} {len : Nat} {ws : List (List UInt8)} (h : IsStrs w a len ws) (hb : Below w.heap.size w wr) (k : Nat) (hk : k < len) :
    ∃ b off, a = some ⟨b, off, none⟩ ∧ ∃ t, ws[k]? = some t ∧ wr.cell? ⟨b, off + k, none⟩ = some (.string ⟨t.toArray⟩) := by
  obtain ⟨hl, h⟩ := h.below hb
  rcases h with h | ⟨b, off, ha, hc⟩
  · omega
  · have hkl : k < ws.length := by omega
    exact ⟨b, off, ha, ws[k], List.getElem?_eq_getElem hkl, hc k hkl⟩

/-- The cells of texts. -/
def txCells (ws : List (List UInt8)) : List Value := ws.map fun t => .string ⟨t.toArray⟩
theorem txCells_snoc (ws : List (List UInt8)) (t : List UInt8) : txCells (ws ++ [t]) = txCells ws ++ [.string ⟨t.toArray⟩] := by simp [txCells]

theorem owns_strs {w : World} {base : Nat} {e : TypeId} {v : Value} {ws : List (List UInt8)} (h : w.ownsRow base e 1 v ws.length (txCells ws)) :
    ∃ ao cap, v = .slice ao ws.length cap ∧ IsStrs w ao ws.length ws := by
  rcases h.2 with ⟨hv, h0⟩ | ⟨g, cap, cur, hv, _⟩
  · have h0' : ws.length = 0 := h0
    exact ⟨none, 0, by rw [h0']; exact hv, rfl, .inl h0'⟩
  · refine ⟨some ⟨g, 0, none⟩, cap, hv, rfl, .inr ⟨g, 0, rfl, fun i hi => ?_⟩⟩
    have hc := h.cells (g := g) (by rw [hv]; rfl) i (.string ⟨(ws[i]'hi).toArray⟩) (by simp [txCells, List.getElem?_eq_getElem hi])
    rwa [addPlain] at hc

theorem tx_below {w w' : World} {base : Nat} {e : TypeId} {size : Nat} {v : Value} {n : Nat} {xs : List Value} (h : w.ownsRow base e size v n xs) (hb : Below w.heap.size w w') : w'.ownsRow base e size v n xs :=
  h.kept (row := none) ⟨hb.os, hb.tape, hb.output, hb.size, fun k hk _ => hb.block k hk⟩ (Classical.em _)

theorem below_drewS {B : Nat} {a w : World} (h : Below B a w) (n : Nat) : Below B a (w.drewN n) := h.trans ⟨rfl, rfl, rfl, Nat.le_refl _, fun _ _ => rfl⟩

/-- A list of words, as an answer: a slice of the call's own; nothing that was there is written. -/
def RetL (ws : List (List UInt8)) (w : World) (e : Ending) (w' : World) : Prop := ∃ (a : Option Addr) (cap : Nat), e = .returned (.slice a ws.length cap) ∧ IsStrs w' a ws.length ws ∧ Below w.heap.size w w'
theorem RetL.mk {ws R : List (List UInt8)} {w w' : World} {e : Ending} {a : Option Addr} {cap : Nat} (h : ws = R) (he : e = .returned (.slice a R.length cap)) (hf : IsStrs w' a R.length R) (hb : Below w.heap.size w w') : RetL ws w e w' := by
  subst h; exact ⟨a, cap, he, hf, hb⟩

theorem string_info : (Try.prog.info? 9).map (fun i => (i.zero, i.size, i.bytes)) = some (some (.string ByteArray.empty), 1, 16) := by kernel_rfl

/-- A text's one cell, in a block of its own. -/
theorem one_news {w : World} {X : Nat} {T : TypeId} {u : Value} (h : w.heap[X]? = some (.cells #[u] T (0, 0))) : ∀ j x, [u][j]? = some x → w.cell? ((⟨X, 0, none⟩ : Addr).add j) = some x := by
  intro j x hj
  match j, hj with
  | 0, hj => simp at hj; subst hj; simp [Addr.add, World.cell?, h]
theorem str_one {d : ByteArray} : ∀ x ∈ [Value.string d], x.oneCell' = true := by
  intro x hx
  simp at hx
  subst hx; rfl

theorem ext_cut (l : List UInt8) (st k : Nat) : (⟨l.toArray⟩ : ByteArray).extract st k = ⟨((l.take k).drop st).toArray⟩ := by
  rw [Lib.extract_eq]
  simp only [ByteArray.mk.injEq]
  rw [List.drop_take]
theorem ext_rest (l : List UInt8) (st : Nat) : (⟨l.toArray⟩ : ByteArray).extract st l.length = ⟨(l.drop st).toArray⟩ := by
  rw [ext_cut, List.take_length]
theorem cut_none (l : List UInt8) (k : Nat) : (l.take k).drop k = [] := List.drop_eq_nil_of_le (List.length_take_le _ _)

/-- Texts in one block of their own. -/
theorem strs_heap {w : World} {g n : Nat} {ws : List (List UInt8)} {T : TypeId} (h : w.heap[g]? = some (.cells (txCells ws).toArray T (0, 0))) (hn : ws.length = n) : IsStrs w (some ⟨g, 0, none⟩) n ws := by
  refine ⟨hn, .inr ⟨g, 0, rfl, fun i hi => ?_⟩⟩
  rw [Nat.zero_add, Lib.cell_of_heap h]
  simp [txCells, List.getElem?_eq_getElem hi]
end Go.Proofs.Ytjmaccflnfaiiaa

namespace Go.Proofs.Ytjmaccflnfaiiaa
open Go.RowKit

theorem int_info : (Try.prog.info? 3).map (fun i => (i.zero, i.size, i.bytes)) = some (some (.int .i64 0), 1, 8) := by kernel_rfl

/-- The cells of numbers. -/
def inCells (zs : List Int) : List Value := zs.map (Value.int .i64)
theorem inCells_snoc (zs : List Int) (x : Int) : inCells (zs ++ [x]) = inCells zs ++ [.int .i64 x] := by simp [inCells]

theorem owns_ints {w : World} {base : Nat} {e : TypeId} {v : Value} {zs : List Int} (h : w.ownsRow base e 1 v zs.length (inCells zs)) :
    ∃ ao cap, v = .slice ao zs.length cap ∧ (zs.length = 0 ∨ ∃ g, ao = some ⟨g, 0, none⟩ ∧ base ≤ g ∧ g < w.heap.size ∧ ∀ i, i < zs.length → w.cell? ⟨g, 0 + i, none⟩ = some (.int .i64 (zs.getD i 0))) := by
  rcases h.2 with ⟨hv, h0⟩ | ⟨g, cap, cur, hv, hg, _⟩
  · have h0' : zs.length = 0 := h0
    exact ⟨none, 0, by rw [h0']; exact hv, .inl h0'⟩
  · have hlt := h.lt (k := g) (by rw [hv]; rfl)
    refine ⟨some ⟨g, 0, none⟩, cap, hv, .inr ⟨g, rfl, hlt.1, hlt.2, fun i hi => ?_⟩⟩
    have hc := h.cells (g := g) (by rw [hv]; rfl) i (.int .i64 (zs.getD i 0)) (by simp [inCells, List.getD, List.getElem?_eq_getElem hi])
    rwa [addPlain] at hc

/-- Numbers in memory: all cells, not just those of a slice that came in. -/
theorem row_of_ints {w : World} {base : Nat} {e : TypeId} {v : Value} {zs : List Int} (h : w.ownsRow base e 1 v zs.length (inCells zs)) (hm : zs.length ≤ maxLen) :
    ∃ ao cap, v = .slice ao zs.length cap ∧ IsRow .i64 w ao zs.length zs.length zs := by
  obtain ⟨ao, cap, hv, h0 | ⟨g, hao, _, _, hc⟩⟩ := owns_ints h
  · exact ⟨ao, cap, hv, .inl h0⟩
  · exact ⟨ao, cap, hv, .inr ⟨g, 0, hao, Nat.le_refl _, hm, rfl, hc⟩⟩

/-- A number's one cell, in a block of its own. -/
theorem int_news {w : World} {X : Nat} {T : TypeId} {u : Value} (h : w.heap[X]? = some (.cells #[u] T (0, 0))) : ∀ j x, [u][j]? = some x → w.cell? ((⟨X, 0, none⟩ : Addr).add j) = some x := one_news h
theorem int_one {x : Int} : ∀ v ∈ [Value.int .i64 x], v.oneCell' = true := by
  intro v hv
  simp at hv
  subst hv; rfl

/-- A list of numbers, as an answer: a slice of the call's own; nothing that was there is written. -/
def RetN (zs : List Int) (w : World) (e : Ending) (w' : World) : Prop := ∃ (v : Value), e = .returned v ∧ w'.ownsRow w.heap.size 3 1 v zs.length (inCells zs) ∧ Below w.heap.size w w'

/-- A list of numbers, to be read: a slice; nothing that was there is written. -/
def RetI (zs : List Int) (w : World) (e : Ending) (w' : World) : Prop := ∃ (a : Option Addr) (cap : Nat), e = .returned (.slice a zs.length cap) ∧ IsRow .i64 w' a zs.length zs.length zs ∧ Below w.heap.size w w'
theorem RetI.of {zs L : List Int} {w0 w w' : World} {v : Value} (e : zs = L) (h : w'.ownsRow w0.heap.size 3 1 v L.length (inCells L)) (hm : L.length ≤ maxLen) (hb : Below w.heap.size w w') : ∃ a cap, v = .slice a L.length cap ∧ RetI zs w (.returned (.slice a L.length cap)) w' := by
  obtain ⟨ao, cap, hv, hr⟩ := row_of_ints h hm
  subst e
  exact ⟨ao, cap, hv, ao, cap, rfl, hr, hb⟩

/-- A row in one block of its own. -/
theorem row_heap {w : World} {g n : Nat} {zs : List Int} {T : TypeId} (h : w.heap[g]? = some (.cells (inCells zs).toArray T (0, 0))) (hn : zs.length = n) (hm : n ≤ maxLen) : IsRow .i64 w (some ⟨g, 0, none⟩) n n zs := by
  refine .inr ⟨g, 0, rfl, Nat.le_refl _, hm, hn, fun i hi => ?_⟩
  rw [Nat.zero_add, Lib.cell_of_heap h]
  simp [inCells, List.getD, List.getElem?_eq_getElem (show i < zs.length by omega)]
end Go.Proofs.Ytjmaccflnfaiiaa

namespace Go.Proofs.Ytjmaccflnfaiiaa
open Go.RowKit

theorem Other.grown {w w' : World} {o : Obj} {base size n : Nat} {e : TypeId} {v : Value} {xs : List Value} (hown : w.ownsRow base e size v n xs) (hg : (w.alloc o).grownBy w' v.ownBlock) : Other e w w' := fun k cs U m hU hk => by
  have hlt := lt_of_heap hk
  have hne : v.ownBlock ≠ some k := fun h => by
    rcases hown.2 with ⟨rfl, _⟩ | ⟨g, cap, cur, rfl, _, hh, _⟩
    · simp [Value.ownBlock] at h
    · simp only [Value.ownBlock, Option.some.injEq] at h
      subst h
      rw [hk] at hh
      injection hh with hh
      injection hh with h1 h2 h3
      exact hU h2
  rw [hg.block k (by simp; omega) (fun e => hne e.symm), Lib.alloc_old _ _ k hlt]
  exact hk
theorem But.grown {b : Nat} {w0 w w' : World} {o : Obj} {size n : Nat} {e : TypeId} {v : Value} {xs : List Value} (hb : But w0.heap.size b w0 w) (hown : w.ownsRow w0.heap.size e size v n xs) (hg : (w.alloc o).grownBy w' v.ownBlock) : But w0.heap.size b w0 w' :=
  hb.trans ⟨hg.os, hg.tape, hg.output, Nat.le_trans (by simp) hg.size, fun i hi _ => by
    rw [hg.block i (by have := hb.size; simp; omega) (fun e => by have := (hown.lt i e.symm).1; omega), Lib.alloc_old _ _ i (by have := hb.size; omega)]⟩
theorem But.put {base b : Nat} {w0 w : World} (hb : But base b w0 w) (i : Nat) (u : Value) : But base b w0 (w.setCell ⟨b, i, none⟩ u) :=
  hb.trans ⟨rfl, rfl, rfl, by simp [World.setCell], fun k _ hk => put_other hk u⟩
theorem But.more {b : Nat} {w0 w w' : World} (hb : But w0.heap.size b w0 w) (h : Below w.heap.size w w') : But w0.heap.size b w0 w' := hb.trans (But.of (h.mono hb.size))

/-- One number of an own slice: where it lies. -/
theorem int_at {w : World} {base n cap j : Nat} {a : Option Addr} {zs : List Int} (h : w.ownsRow base 3 1 (.slice a n cap) n (inCells zs)) (hn : zs.length = n) (hj : j < n) :
    ∃ g off, a = some ⟨g, off, none⟩ ∧ ∃ x, zs[j]? = some x ∧ w.cell? ⟨g, off + j, none⟩ = some (.int .i64 x) := by
  obtain ⟨g, cap', _, _, he⟩ := owns_some h (by omega)
  have hc := h.cells (g := g) (by rw [he]; rfl)
  simp only [Value.slice.injEq] at he
  refine ⟨g, 0, he.1, zs[j]'(by omega), List.getElem?_eq_getElem (by omega), ?_⟩
  have := hc j (.int .i64 (zs[j]'(by omega))) (by simp [inCells, List.getElem?_eq_getElem (show j < zs.length by omega)])
  rw [addPlain] at this
  simpa using this
end Go.Proofs.Ytjmaccflnfaiiaa

namespace Go.Proofs.Ytjmaccflnfaiiaa
open Go.RowKit

theorem wpList_append_no {P : Program} (w : World) {ops : Array Oper} {rest : List Oper} {o : Oper} {a : Act} {Q : Exit → Act → World → Prop} (hgd : o.guard = none) (s x : Operand) (t : TypeId)
    (ho : o.op = .call { callee := .builtin .append, args := #[s, x], argTypes := #[t, t] })
    (base : Nat) (e : TypeId) (i : TypeInfo) (size : Nat) (ht : P.underlying t = some (.slice e)) (hi : P.info? e = some i) (hsize : i.size = size)
    (v : Value) (n : Nat) (xs : List Value) (hs : a.eval s = v) (hown : w.ownsRow base e size v n xs) (hx : a.eval x = .slice none 0 0)
    (h : wpList P ops Q rest (a.put o.dst v) w) : wpList P ops Q (o :: rest) a w := by
  refine wpList_plain hgd fun K hK => ?_
  have hr := run_append_owned_none (P := P) w base t o.type e i size ht hi v n xs hown
  have hK2 := hK _ _ h
  unfold Oper.wp execOp
  simp only [ho, resolve, invoke, builtin, Sem.run_bind, Sem.run_pure, Result.andThen_ok, List.map_toArray, List.map_cons, List.map_nil, hs, hx, hr]
  exact hK2
theorem grown_below {w w' : World} {B size n : Nat} {e : TypeId} {v : Value} {xs : List Value} (hB : B ≤ w.heap.size) (hown : w.ownsRow B e size v n xs) (hg : w.grownBy w' v.ownBlock) : Below B w w' :=
  ⟨hg.os, hg.tape, hg.output, hg.size, fun i hi => hg.block i (by omega) (fun e => by have := (hown.lt i e.symm).1; omega)⟩
end Go.Proofs.Ytjmaccflnfaiiaa

namespace Go.Proofs.Ytjmaccflnfaiiaa
open Go.RowKit


/-- What Put answers: the bytes, or the error. -/
def RetPk (k n r : Int) (ids : List Int) (w : World) (e : Ending) (w' : World) : Prop :=
  ((okK k n r ids = true ∧ e = .returned (.tuple #[.string ⟨(putK k n r ids).toArray⟩, .int .i64 0])) ∨ (okK k n r ids = false ∧ e = .returned (.tuple #[.string ⟨#[]⟩, .int .i64 2]))) ∧ Below w.heap.size w w'

end Go.Proofs.Ytjmaccflnfaiiaa

namespace Go.Proofs.Ytjmaccflnfaiiaa
open Go.RowKit

/-- All blocks of cells of a type are as they were. -/
def Keep (T : TypeId) (w w' : World) : Prop := ∀ (k : Nat) (cs : Array Value) (m : Nat × Nat), w.heap[k]? = some (.cells cs T m) → w'.heap[k]? = some (.cells cs T m)
theorem Keep.refl (T : TypeId) (w : World) : Keep T w w := fun _ _ _ h => h
theorem Keep.trans {T : TypeId} {u v w : World} (h : Keep T u v) (k : Keep T v w) : Keep T u w := fun i cs m hh => k i cs m (h i cs m hh)
theorem Keep.below {T : TypeId} {w w' : World} (h : Below w.heap.size w w') : Keep T w w' := fun i cs m hh => (h.block i (heap_lt hh)).trans hh
theorem Keep.heap {T : TypeId} {w w' : World} (e : w'.heap = w.heap) : Keep T w w' := fun i cs m hh => by rw [e]; exact hh
/-- A block of another type. -/
theorem type_ne {w : World} {k b : Nat} {cs ds : Array Value} {T U : TypeId} {m n : Nat × Nat} (h : w.heap[k]? = some (.cells cs T m)) (hb : w.heap[b]? = some (.cells ds U n)) (hT : T ≠ U) : k ≠ b := by
  rintro rfl
  rw [h] at hb
  injection hb with hb
  injection hb with h1 h2 h3
  exact hT h2
theorem Keep.but {T U : TypeId} {b : Nat} {w w' : World} (h : But w.heap.size b w w') {ds : Array Value} {n : Nat × Nat} (hb : w.heap[b]? = some (.cells ds U n)) (hT : T ≠ U) : Keep T w w' := fun i cs m hh =>
  (h.block i (heap_lt hh) (type_ne hh hb hT)).trans hh
theorem Keep.grown {T e : TypeId} {w w' : World} {base size n : Nat} {v : Value} {xs : List Value} (hown : w.ownsRow base e size v n xs) (hg : w.grownBy w' v.ownBlock) (hT : T ≠ e) : Keep T w w' := fun i cs m hh => by
  rw [hg.block i (heap_lt hh) (fun h => ?_)]
  · exact hh
  · rcases hown.2 with ⟨rfl, _⟩ | ⟨g, cap, cur, rfl, _, hb, _⟩
    · simp [Value.ownBlock] at h
    · simp only [Value.ownBlock, Option.some.injEq] at h
      exact type_ne hh hb hT h
theorem Keep.into {T U : TypeId} {b : Nat} {w w' : World} (h : Into b w w') {ds : Array Value} {n : Nat × Nat} (hb : w.heap[b]? = some (.cells ds U n)) (hT : T ≠ U) : Keep T w w' := fun i cs m hh =>
  (h.block i (type_ne hh hb hT)).trans hh
theorem Keep.owns {T : TypeId} {w w' : World} (h : Keep T w w') {base n size : Nat} {v : Value} {xs : List Value} (ho : w.ownsRow base T size v n xs) : w'.ownsRow base T size v n xs := by
  obtain ⟨hl, hx⟩ := ho
  refine ⟨hl, ?_⟩
  rcases hx with hx | ⟨g, cap, cur, hv, hg, hh, r⟩
  · exact .inl hx
  · exact .inr ⟨g, cap, cur, hv, hg, h g _ _ hh, r⟩

/-- A record as it lies: what it is, its slice of numbers. -/
structure Rc where
  R : EvR
  a : Option Addr
  c : Nat
def Rc.sl (x : Rc) : Value := .slice x.a x.R.ids.length x.c
def Rc.val (x : Rc) : Value := .agg #[.int .i64 (x.R.k : Int), .int .i64 (x.R.n : Int), .int .i64 (x.R.r : Int), x.sl]
def Rc.cells (x : Rc) : List Value := [.int .i64 (x.R.k : Int), .int .i64 (x.R.n : Int), .int .i64 (x.R.r : Int), x.sl]
/-- Its numbers. -/
def IdsAt (w : World) (x : Rc) : Prop := x.R.ids.length = 0 ∨ ∃ base, w.ownsRow base 3 1 x.sl x.R.ids.length (inCells x.R.ids)
theorem IdsAt.keep {w w' : World} {x : Rc} (h : IdsAt w x) (hk : Keep 3 w w') : IdsAt w' x := h.elim .inl fun ⟨b, h⟩ => .inr ⟨b, hk.owns h⟩
theorem IdsAt.row {w : World} {x : Rc} (h : IdsAt w x) (hm : x.R.ids.length ≤ maxLen) : IsRow .i64 w x.a x.R.ids.length x.R.ids.length x.R.ids := by
  rcases h with h | ⟨b, h⟩
  · exact .inl h
  · obtain ⟨ao, cap, hv, hr⟩ := row_of_ints h hm
    obtain ⟨R, a, c⟩ := x
    simp only [Rc.sl, Value.slice.injEq] at hv
    obtain ⟨rfl, _, _⟩ := hv
    exact hr

/-- The cells of records. -/
def rcCells (rs : List Rc) : List Value := rs.flatMap Rc.cells
theorem rcCells_app (l k : List Rc) : rcCells (l ++ k) = rcCells l ++ rcCells k := by simp [rcCells]
theorem rcCells_one (x : Rc) : rcCells [x] = x.cells := by simp [rcCells]
theorem rcCells_length : ∀ rs : List Rc, (rcCells rs).length = rs.length * 4
  | [] => rfl
  | x :: l => by
    have e : rcCells (x :: l) = x.cells ++ rcCells l := by simp [rcCells]
    rw [e, List.length_append, rcCells_length l, List.length_cons]
    simp [Rc.cells]
    omega
theorem rcCells_at : ∀ (rs : List Rc) (i : Nat) (x : Rc), rs[i]? = some x → ∀ j, j < 4 → (rcCells rs)[i * 4 + j]? = x.cells[j]?
  | [], i, x, h, _, _ => by simp at h
  | y :: l, 0, x, h, j, hj => by
    simp at h
    subst h
    have e : rcCells (y :: l) = y.cells ++ rcCells l := by simp [rcCells]
    rw [e, List.getElem?_append_left (by simp [Rc.cells]; omega), Nat.zero_mul, Nat.zero_add]
  | y :: l, i + 1, x, h, j, hj => by
    have e : rcCells (y :: l) = y.cells ++ rcCells l := by simp [rcCells]
    rw [e, List.getElem?_append_right (by simp [Rc.cells]; omega)]
    have hl : y.cells.length = 4 := rfl
    rw [hl, show (i + 1) * 4 + j - 4 = i * 4 + j by omega]
    exact rcCells_at l i x (by simpa using h) j hj
theorem rc_one {rs : List Rc} : ∀ u ∈ rcCells rs, u.oneCell' = true := by
  intro u hu
  simp only [rcCells, List.mem_flatMap] at hu
  obtain ⟨x, _, hx⟩ := hu
  simp [Rc.cells, Rc.sl] at hx
  rcases hx with rfl | rfl | rfl | rfl <;> rfl

/-- A slice that holds these records, to be read. -/
def IsRecs (w : World) (a : Option Addr) (rs : List Rc) : Prop :=
  (rs.length = 0 ∨ ∃ b, a = some ⟨b, 0, none⟩ ∧ ∀ j u, (rcCells rs)[j]? = some u → w.cell? ⟨b, j, none⟩ = some u) ∧ ∀ x ∈ rs, IdsAt w x
theorem cells_below {w w' : World} {b j : Nat} {u : Value} (h : w.cell? ⟨b, j, none⟩ = some u) (hb : Below w.heap.size w w') : w'.cell? ⟨b, j, none⟩ = some u := by
  rw [hb.cell (p := ⟨b, j, none⟩) (World.block_lt_of_cell? w _ h)]; exact h
theorem IsRecs.below {w w' : World} {a : Option Addr} {rs : List Rc} (h : IsRecs w a rs) (hb : Below w.heap.size w w') : IsRecs w' a rs := by
  obtain ⟨h1, h2⟩ := h
  refine ⟨?_, fun x hx => (h2 x hx).keep (.below hb)⟩
  rcases h1 with h1 | ⟨b, ha, hc⟩
  · exact .inl h1
  · exact .inr ⟨b, ha, fun j u hu => cells_below (hc j u hu) hb⟩
/-- One of them. -/
theorem IsRecs.get {w : World} {a : Option Addr} {rs : List Rc} (h : IsRecs w a rs) {i : Nat} (hi : i < rs.length) : ∃ b x, a = some ⟨b, 0, none⟩ ∧ rs[i]? = some x ∧ IdsAt w x ∧
    w.cell? ⟨b, i * 4, none⟩ = some (.int .i64 (x.R.k : Int)) ∧ w.cell? ⟨b, i * 4 + 1, none⟩ = some (.int .i64 (x.R.n : Int)) ∧ w.cell? ⟨b, i * 4 + 2, none⟩ = some (.int .i64 (x.R.r : Int)) ∧ w.cell? ⟨b, i * 4 + 3, none⟩ = some (.slice x.a x.R.ids.length x.c) := by
  obtain ⟨h1, h2⟩ := h
  rcases h1 with h1 | ⟨b, ha, hc⟩
  · omega
  · obtain ⟨x, hx⟩ : ∃ x, rs[i]? = some x := ⟨_, List.getElem?_eq_getElem hi⟩
    have hm := rcCells_at rs i x hx
    refine ⟨b, x, ha, hx, h2 x (List.mem_of_getElem? hx), ?_, ?_, ?_, ?_⟩
    · exact hc _ _ (hm 0 (by omega))
    · exact hc _ _ (hm 1 (by omega))
    · exact hc _ _ (hm 2 (by omega))
    · exact hc _ _ (hm 3 (by omega))
/-- Records that are owned, as ones that are read. -/
theorem owns_recs {w : World} {base : Nat} {v : Value} {rs : List Rc} (h : w.ownsRow base 34 4 v rs.length (rcCells rs)) (hi : ∀ x ∈ rs, IdsAt w x) :
    ∃ ao cap, v = .slice ao rs.length cap ∧ IsRecs w ao rs := by
  rcases h.2 with ⟨hv, h0⟩ | ⟨g, cap, cur, hv, _⟩
  · exact ⟨none, 0, by rw [h0]; exact hv, .inl h0, hi⟩
  · refine ⟨some ⟨g, 0, none⟩, cap, hv, .inr ⟨g, rfl, fun j u hu => ?_⟩, hi⟩
    have hc := h.cells (g := g) (by rw [hv]; rfl) j u hu
    rw [addPlain, Nat.zero_add] at hc
    exact hc
theorem owns_form4 {w : World} {base n : Nat} {e : TypeId} {size : Nat} {v : Value} {xs : List Value} (h : w.ownsRow base e size v n xs) : ∃ ao cap, v = .slice ao n cap := by
  rcases h.2 with ⟨hv, h0⟩ | ⟨g, cap, cur, hv, _⟩
  · exact ⟨none, 0, by rw [h0]; exact hv⟩
  · exact ⟨_, _, hv⟩
theorem rec_info : (Try.prog.info? 34).map (fun i => (i.zero, i.size, i.bytes)) = some (some (.agg #[.int .i64 0, .int .i64 0, .int .i64 0, .slice none 0 0]), 4, 48) := by kernel_rfl
/-- A record's four cells, in a block of their own. -/
theorem rec_news {w : World} {X : Nat} {T : TypeId} {x : Rc} (h : w.heap[X]? = some (.cells x.cells.toArray T (0, 0))) : ∀ j u, x.cells[j]? = some u → w.cell? ((⟨X, 0, none⟩ : Addr).add j) = some u := by
  intro j u hj
  rw [addPlain, Nat.zero_add, Lib.cell_of_heap h]
  simpa using hj

/-- The list of what they are. -/
def evs (rs : List Rc) : List EvR := rs.map Rc.R
theorem evs_app (l k : List Rc) : evs (l ++ k) = evs l ++ evs k := by simp [evs]
theorem evs_length (l : List Rc) : (evs l).length = l.length := by simp [evs]
theorem evs_at {l : List Rc} {i : Nat} {x : Rc} (h : l[i]? = some x) : (evs l)[i]? = some x.R := by simp [evs, h]
end Go.Proofs.Ytjmaccflnfaiiaa

namespace Go.Proofs.Ytjmaccflnfaiiaa
open Go.RowKit

/-- A record as an answer, its numbers to be read. -/
def RetE (R : EvR) (w : World) (e : Ending) (w' : World) : Prop :=
  ∃ a cap, e = .returned (.agg #[.int .i64 (R.k : Int), .int .i64 (R.n : Int), .int .i64 (R.r : Int), .slice a R.ids.length cap]) ∧ IsRow .i64 w' a R.ids.length R.ids.length R.ids ∧ Below w.heap.size w w'

end Go.Proofs.Ytjmaccflnfaiiaa

namespace Go.Proofs.Ytjmaccflnfaiiaa
open Go.ChangeShapes Go.WideShapes Go.Deep Go.RowKit

theorem rec_cells4 : Try.prog.cellsOf 34 = 4 := by kernel_rfl
/-- What is read as a slice is one. -/
theorem trod_slice {H : Type} {enc : TypeId × Value → H} {P : Program} {w : World} {base : Nat} {spare : Nat → Bool} {held : Bool} {t e : TypeId} (ht : P.underlying t = some (.slice e)) {n : Nat} {v : Value} {y : DataW H × List MemPlace}
    (h : DataW.trod enc P w base spare held n t [v] = some y) : ∃ a len cap, v = .slice a len cap := by
  cases n with
  | zero => simp [DataW.trod] at h
  | succ n =>
    cases v <;> first | exact ⟨_, _, _, rfl⟩ | (simp [DataW.trod, ht] at h)
set_option maxRecDepth 100000 in
theorem open_rec {H : Type} {enc : TypeId × Value → H} {w : World} {base : Nat} {spare : Nat → Bool} {held : Bool} {r : Reach} {b0 : Nat} {v : Value} {d : DataW H} {p : List MemPlace}
    (hv : Value.okWide Try.prog w r b0 34 v) (h : DataW.Trod enc Try.prog w base spare held 34 v d p) :
    ∃ (k n r : Int) (a : Option Addr) (len cap : Nat), v = .agg #[.int .i64 k, .int .i64 n, .int .i64 r, .slice a len cap] := by
  obtain ⟨c0, c1, c2, c3, y0, y1, y2, y3, m, rfl, rfl, rfl, hy0, hy1, hy2, hy3⟩ := Go.Joins.open_agg4 Try.underlying34 (by kernel_rfl) rec_cells4 hv h
  obtain ⟨k, e0, _, _⟩ := DataW.trod_int Try.underlying3 hy0
  obtain ⟨n, e1, _, _⟩ := DataW.trod_int Try.underlying3 hy1
  obtain ⟨r, e2, _, _⟩ := DataW.trod_int Try.underlying3 hy2
  obtain ⟨a, len, cap, e3⟩ := trod_slice Try.underlying23 hy3
  simp at e0 e1 e2
  subst e0 e1 e2 e3
  exact ⟨k, n, r, a, len, cap, rfl⟩
end Go.Proofs.Ytjmaccflnfaiiaa

namespace Go.Proofs.Ytjmaccflnfaiiaa
open Go.ChangeShapes Go.WideShapes Go.Deep Go.RowKit

set_option maxRecDepth 100000 in
set_option maxHeartbeats 1000000 in
/-- A slice of numbers inside what came in. -/
theorem came_ints {H : Type} {enc : TypeId × Value → H} {W : World} {n : Nat} {v : Value} {y : DataW H × List MemPlace} (h : DataW.trod enc Try.prog W 0 (fun _ => true) true n 23 [v] = some y) :
    ∃ (a : Option Addr) (len cap : Nat) (zs : List Int), v = .slice a len cap ∧ IsRow .i64 W a len cap zs ∧ len ≤ cap ∧ cap ≤ maxLen ∧ (a = none → cap = 0) := by
  rcases open_ints Try.underlying23 Try.underlying3 (by kernel_rfl) h with ⟨hcs, _⟩ | ⟨x, len, cap, zs, hcs, _, hl, hm, hz, _, hc, _⟩
  · simp at hcs
    exact ⟨none, 0, 0, [], hcs, .inl rfl, Nat.le_refl _, Nat.zero_le _, fun _ => rfl⟩
  · simp at hcs hz
    rcases Nat.eq_zero_or_pos cap with h0 | h0
    · exact ⟨some x, len, cap, zs, hcs, .inl (by omega), hl, hm, fun e => by cases e⟩
    · obtain ⟨b, off, spot⟩ := x
      have hc0 := hc 0 (by omega)
      have hspot : spot = none := by simpa [Addr.add] using World.cell?_spot hc0
      subst hspot
      exact ⟨_, len, cap, zs, hcs, .inr ⟨b, off, rfl, hl, hm, hz, fun i hi => by rw [← addPlain]; exact hc i (by omega)⟩, hl, hm, fun e => by cases e⟩

set_option maxRecDepth 100000 in
/-- A record by value that came in: what its cells are, and its numbers. -/
theorem open_row {H : Type} {enc : TypeId × Value → H} {W : World} {r : Reach} {b0 : Nat} {v : Value} {d : DataW H} {p : List MemPlace}
    (hv : Value.okWide Try.prog W r b0 34 v) (h : DataW.Trod enc Try.prog W 0 (fun _ => true) true 34 v d p) :
    ∃ (k n r : Int) (a : Option Addr) (len cap : Nat) (zs : List Int), v = .agg #[.int .i64 k, .int .i64 n, .int .i64 r, .slice a len cap] ∧ IsRow .i64 W a len cap zs := by
  obtain ⟨c0, c1, c2, c3, y0, y1, y2, y3, m, rfl, rfl, rfl, hy0, hy1, hy2, hy3⟩ := Go.Joins.open_agg4 Try.underlying34 (by kernel_rfl) rec_cells4 hv h
  obtain ⟨k, e0, _, _⟩ := DataW.trod_int Try.underlying3 hy0
  obtain ⟨n, e1, _, _⟩ := DataW.trod_int Try.underlying3 hy1
  obtain ⟨r, e2, _, _⟩ := DataW.trod_int Try.underlying3 hy2
  obtain ⟨a, len, cap, zs, e3, hr, _, _, _⟩ := came_ints hy3
  simp at e0 e1 e2
  subst e0 e1 e2 e3
  exact ⟨k, n, r, a, len, cap, zs, rfl, hr⟩
/-- Just the numbers of the slice. -/
theorem row_cut {w : World} {a : Option Addr} {len cap : Nat} {zs : List Int} (h : IsRow .i64 w a len cap zs) : ∃ ids : List Int, ids.length = len ∧ IsRow .i64 w a len len ids := by
  rcases h with h | ⟨b, off, ha, hl, hm, hz, hc⟩
  · exact ⟨[], by rw [h]; rfl, .inl h⟩
  · refine ⟨zs.take len, by rw [List.length_take]; omega, .inr ⟨b, off, ha, Nat.le_refl _, by omega, by rw [List.length_take]; omega, fun i hi => ?_⟩⟩
    rw [hc i (by omega)]
    congr 2
    simp [List.getD, List.getElem?_take, hi]
end Go.Proofs.Ytjmaccflnfaiiaa
