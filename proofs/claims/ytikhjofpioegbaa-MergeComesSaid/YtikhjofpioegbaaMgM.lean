/-
  Like records put together: records as values, as lists. No program here.
-/
import Derived.Test.YtikhjofpioegbaaRkM
import Derived.Test.YtikhjofpioegbaaPbM
set_option linter.unusedSimpArgs false
set_option linter.unusedVariables false
namespace Go.Proofs.Ytikhjofpioegbaa

/-- A record as a value: its numbers, its slice. -/
structure Rv where
  k : Int
  n : Int
  r : Int
  a : Option Addr
  len : Nat
  cap : Nat
def Rv.sl (x : Rv) : Value := .slice x.a x.len x.cap
def Rv.val (x : Rv) : Value := .agg #[.int .i64 x.k, .int .i64 x.n, .int .i64 x.r, x.sl]
def Rv.cells (x : Rv) : List Value := [.int .i64 x.k, .int .i64 x.n, .int .i64 x.r, x.sl]
def rv0 : Rv := ⟨0, 0, 0, none, 0, 0⟩

/-- Can two be put together? -/
def twoB (x y : Rv) : Bool := decide (1 ≤ x.k ∧ x.k ≤ 3 ∧ y.k = x.k ∧ y.n = x.n ∧ x.len = 0 ∧ y.len = 0 ∧ 1 ≤ x.r ∧ 1 ≤ y.r ∧ x.r + y.r ≤ 4611686018427387903)
def plusR (x y : Rv) : Rv := ⟨x.k, x.n, x.r + y.r, none, 0, 0⟩
def twoR (x y : Rv) : Rv := if twoB x y = true then plusR x y else rv0
theorem mg2_yes {x y : Rv} (h : twoB x y = true) : 1 ≤ x.k ∧ x.k ≤ 3 ∧ y.k = x.k ∧ y.n = x.n ∧ x.len = 0 ∧ y.len = 0 ∧ 1 ≤ x.r ∧ 1 ≤ y.r ∧ x.r + y.r ≤ 4611686018427387903 := of_decide_eq_true h
theorem mg2_mk {x y : Rv} (h : 1 ≤ x.k ∧ x.k ≤ 3 ∧ y.k = x.k ∧ y.n = x.n ∧ x.len = 0 ∧ y.len = 0 ∧ 1 ≤ x.r ∧ 1 ≤ y.r ∧ x.r + y.r ≤ 4611686018427387903) : twoB x y = true := decide_eq_true h
theorem mg2_no {x y : Rv} (h : ¬ (1 ≤ x.k ∧ x.k ≤ 3 ∧ y.k = x.k ∧ y.n = x.n ∧ x.len = 0 ∧ y.len = 0 ∧ 1 ≤ x.r ∧ 1 ≤ y.r ∧ x.r + y.r ≤ 4611686018427387903)) : twoB x y = false := decide_eq_false h
theorem mgr_yes {x y : Rv} (h : twoB x y = true) : twoR x y = plusR x y := if_pos h
theorem mgr_no {x y : Rv} (h : twoB x y = false) : twoR x y = rv0 := if_neg (by rw [h]; decide)
theorem mgr_none {x y : Rv} : (twoR x y).len = 0 := by
  unfold twoR; split <;> rfl
theorem mg2_zero (y : Rv) : twoB rv0 y = false := mg2_no (by simp [rv0])

/-- Alike, but for where the numbers lie. -/
def Alike (x y : Rv) : Prop := y.k = x.k ∧ y.n = x.n ∧ y.r = x.r ∧ y.len = x.len
theorem Alike.refl (x : Rv) : Alike x x := ⟨rfl, rfl, rfl, rfl⟩
theorem Alike.two {x y u v : Rv} (h : Alike x y) (h2 : Alike u v) : twoB y v = twoB x u := by
  obtain ⟨a, b, c, d⟩ := h
  obtain ⟨a', b', c', d'⟩ := h2
  unfold twoB
  rw [a, b, c, d, a', b', c', d']
theorem Alike.plus {x y : Rv} (h : Alike x y) (u : Rv) : plusR y u = plusR x u := by
  obtain ⟨a, b, c, d⟩ := h
  unfold plusR
  rw [a, b, c]

/-- One more record. -/
def mgStep (out : List Rv) (x : Rv) : List Rv :=
  match out.getLast? with
  | none => [x]
  | some y => if twoB y x = true then out.dropLast ++ [plusR y x] else out ++ [x]
theorem mgs_nil (x : Rv) : mgStep [] x = [x] := rfl
theorem mgs_hit {o : List Rv} {y x : Rv} (h : twoB y x = true) : mgStep (o ++ [y]) x = o ++ [plusR y x] := by simp [mgStep, h]
theorem mgs_miss {o : List Rv} {y x : Rv} (h : twoB y x = false) : mgStep (o ++ [y]) x = o ++ [y] ++ [x] := by simp [mgStep, h]
/-- Records, like ones put together. -/
def mgAll (l : List Rv) : List Rv := l.foldl mgStep []
theorem mga_nil : mgAll [] = [] := rfl
theorem mga_snoc (l : List Rv) (x : Rv) : mgAll (l ++ [x]) = mgStep (mgAll l) x := by simp [mgAll]
theorem mg_cases {α : Type} (l : List α) : l = [] ∨ ∃ o y, l = o ++ [y] := by
  rcases l.eq_nil_or_concat with h | ⟨o, y, h⟩
  · exact .inl h
  · exact .inr ⟨o, y, by rw [h]; try simp⟩
theorem mg_ind {α : Type} {P : List α → Prop} (h0 : P []) (h1 : ∀ l x, P l → P (l ++ [x])) (l : List α) : P l := by
  suffices h : ∀ n (l : List α), l.length = n → P l from h _ l rfl
  intro n
  induction n with
  | zero => intro l hl; rw [List.eq_nil_of_length_eq_zero hl]; exact h0
  | succ n ih =>
    intro l hl
    rcases mg_cases l with rfl | ⟨o, y, rfl⟩
    · simp at hl
    · exact h1 _ _ (ih o (by simp at hl; exact hl))
theorem mgs_cases (out : List Rv) (x : Rv) : (out = [] ∧ mgStep out x = [x]) ∨ (∃ o y, out = o ++ [y] ∧ twoB y x = true ∧ mgStep out x = o ++ [plusR y x]) ∨ (∃ o y, out = o ++ [y] ∧ twoB y x = false ∧ mgStep out x = o ++ [y] ++ [x]) := by
  rcases mg_cases out with rfl | ⟨o, y, rfl⟩
  · exact .inl ⟨rfl, rfl⟩
  · cases h : twoB y x with
    | true => exact .inr (.inl ⟨o, y, rfl, h, mgs_hit h⟩)
    | false => exact .inr (.inr ⟨o, y, rfl, h, mgs_miss h⟩)
theorem mgs_len (out : List Rv) (x : Rv) : (mgStep out x).length ≤ out.length + 1 ∧ 0 < (mgStep out x).length := by
  rcases mgs_cases out x with ⟨rfl, h⟩ | ⟨o, y, rfl, _, h⟩ | ⟨o, y, rfl, _, h⟩ <;> rw [h] <;> simp
theorem mga_len (l : List Rv) : (mgAll l).length ≤ l.length := by
  refine mg_ind (P := fun l => (mgAll l).length ≤ l.length) (Nat.le_refl _) (fun l x ih => ?_) l
  rw [mga_snoc, List.length_append]
  have := (mgs_len (mgAll l) x).1
  simp
  omega
theorem mga_pos (l : List Rv) (x : Rv) : ∃ o y, mgAll (l ++ [x]) = o ++ [y] := by
  rcases mg_cases (mgAll (l ++ [x])) with h | h
  · have := (mgs_len (mgAll l) x).2
    rw [← mga_snoc, h] at this
    simp at this
  · exact h
/-- What is told is of what came, or has no numbers. -/
theorem mga_from (l : List Rv) : ∀ y ∈ mgAll l, y ∈ l ∨ y.len = 0 := by
  refine mg_ind (P := fun l => ∀ y ∈ mgAll l, y ∈ l ∨ y.len = 0) (fun y h => by cases h) (fun l x ih => ?_) l
  intro z hz
  rw [mga_snoc] at hz
  have up : ∀ {y}, y ∈ mgAll l → y ∈ l ++ [x] ∨ y.len = 0 := fun {y} h => (ih y h).elim (fun h => .inl (List.mem_append_left _ h)) .inr
  rcases mgs_cases (mgAll l) x with ⟨_, h⟩ | ⟨o, y, e, _, h⟩ | ⟨o, y, e, _, h⟩ <;> rw [h] at hz
  · rw [List.mem_singleton] at hz
    subst hz
    exact .inl (by simp)
  · rcases List.mem_append.1 hz with hz | hz
    · exact up (by rw [e]; exact List.mem_append_left _ hz)
    · rw [List.mem_singleton] at hz
      subst hz
      exact .inr rfl
  · rcases List.mem_append.1 hz with hz | hz
    · exact up (by rw [e]; exact hz)
    · rw [List.mem_singleton] at hz
      subst hz
      exact .inl (by simp)

/-- Nothing is left to be put together. -/
def CanonL (l : List Rv) : Prop := ∀ (i : Nat) (x y : Rv), l[i]? = some x → l[i + 1]? = some y → twoB x y = false
noncomputable def canonB (l : List Rv) : Bool := @decide (CanonL l) (Classical.propDecidable _)
theorem mgc_hit {l : List Rv} {i : Nat} {x y : Rv} (hx : l[i]? = some x) (hy : l[i + 1]? = some y) (h : twoB x y = true) : canonB l = false := by
  unfold canonB
  exact @decide_eq_false _ (Classical.propDecidable _) fun hc => by rw [hc i x y hx hy] at h; cases h
theorem mgc_mk {l : List Rv} (h : CanonL l) : canonB l = true := by
  unfold canonB
  exact @decide_eq_true _ (Classical.propDecidable _) h
theorem CanonL.snoc {o : List Rv} {y : Rv} (h : CanonL o) (hl : ∀ z, o.getLast? = some z → twoB z y = false) : CanonL (o ++ [y]) := by
  intro i u v hu hv
  rcases Nat.lt_or_ge (i + 1) o.length with hi | hi
  · rw [List.getElem?_append_left (by omega)] at hu
    rw [List.getElem?_append_left hi] at hv
    exact h i u v hu hv
  · rw [List.getElem?_append_right hi] at hv
    have h0 : i + 1 - o.length = 0 := by
      rcases Nat.eq_zero_or_pos (i + 1 - o.length) with h | h
      · exact h
      · rw [List.getElem?_eq_none (by simp; omega)] at hv; cases hv
    rw [h0] at hv
    simp at hv
    subst hv
    rw [List.getElem?_append_left (by omega)] at hu
    refine hl u ?_
    rw [List.getLast?_eq_getElem?, show o.length - 1 = i by omega]
    exact hu
theorem CanonL.front {o m : List Rv} (h : CanonL (o ++ m)) : CanonL o := by
  intro i u v hu hv
  have hi : i + 1 < o.length := by
    rcases Nat.lt_or_ge (i + 1) o.length with h | h
    · exact h
    · rw [List.getElem?_eq_none h] at hv; cases hv
  exact h i u v (by rw [List.getElem?_append_left (by omega)]; exact hu) (by rw [List.getElem?_append_left hi]; exact hv)
theorem CanonL.last {o : List Rv} {y : Rv} (h : CanonL (o ++ [y])) {z : Rv} (hz : o.getLast? = some z) : twoB z y = false := by
  rw [List.getLast?_eq_getElem?] at hz
  have hi : o.length - 1 < o.length := by
    rcases Nat.lt_or_ge (o.length - 1) o.length with h | h
    · exact h
    · rw [List.getElem?_eq_none h] at hz; cases hz
  refine h (o.length - 1) z y (by rw [List.getElem?_append_left hi]; exact hz) ?_
  rw [show o.length - 1 + 1 = o.length by omega, List.getElem?_append_right (Nat.le_refl _)]
  simp
/-- Where nothing is left, the same is told. -/
theorem mgc_all (l : List Rv) : CanonL l → mgAll l = l := by
  refine mg_ind (P := fun l => CanonL l → mgAll l = l) (fun _ => rfl) (fun l x ih h => ?_) l
  have e := ih h.front
  rw [mga_snoc, e]
  rcases mg_cases l with rfl | ⟨o, y, rfl⟩
  · rfl
  · exact mgs_miss (h.last (z := y) (by simp))

/-- What was told has nothing left, where the R's are small. -/
theorem mga_canon (l : List Rv) : (∀ x ∈ l, 0 ≤ x.r ∧ x.r < 1125899906842624) → l.length ≤ 1000 → CanonL (mgAll l) ∧ ∀ y ∈ mgAll l, 0 ≤ y.r ∧ y.r ≤ 1125899906842624 * (l.length : Int) := by
  refine mg_ind (P := fun l => (∀ x ∈ l, 0 ≤ x.r ∧ x.r < 1125899906842624) → l.length ≤ 1000 → CanonL (mgAll l) ∧ ∀ y ∈ mgAll l, 0 ≤ y.r ∧ y.r ≤ 1125899906842624 * (l.length : Int)) (fun _ _ => ⟨fun i x y h => by simp [mga_nil] at h, fun y h => by cases h⟩) (fun l x ih hr hl => ?_) l
  have hlen : (l ++ [x]).length = l.length + 1 := by simp
  rw [hlen] at hl ⊢
  obtain ⟨hc, hb⟩ := ih (fun y hy => hr y (List.mem_append_left _ hy)) (by omega)
  have hx := hr x (by simp)
  rw [mga_snoc]
  rcases mgs_cases (mgAll l) x with ⟨e, h⟩ | ⟨o, y, e, ht, h⟩ | ⟨o, y, e, ht, h⟩ <;> rw [h]
  · refine ⟨fun i u v hu hv => ?_, fun z hz => ?_⟩
    · rw [List.getElem?_eq_none (by simp)] at hv; cases hv
    · rw [List.mem_singleton] at hz
      subst hz
      omega
  · rw [e] at hc hb
    have hy := hb y (by simp)
    refine ⟨hc.front.snoc fun z hz => ?_, fun z hz => ?_⟩
    · have hzy := hc.last hz
      have hzo := hb z (List.mem_append_left _ (List.mem_of_getLast? hz))
      have t := mg2_yes ht
      refine mg2_no fun q => ?_
      obtain ⟨q1, q2, q3, q4, q5, q6, q7, q8, q9⟩ := q
      simp only [plusR] at q3 q4 q9
      rw [mg2_mk ⟨q1, q2, q3, q4, q5, t.2.2.2.2.1, q7, t.2.2.2.2.2.2.1, by omega⟩] at hzy
      cases hzy
    · rcases List.mem_append.1 hz with hz | hz
      · have := hb z (List.mem_append_left _ hz); omega
      · rw [List.mem_singleton] at hz
        subst hz
        simp only [plusR]
        omega
  · rw [e] at hc hb
    refine ⟨hc.snoc fun z hz => ?_, fun z hz => ?_⟩
    · simp at hz
      subst hz
      exact ht
    · rcases List.mem_append.1 hz with hz | hz
      · have := hb z hz; omega
      · rw [List.mem_singleton] at hz
        subst hz
        omega

/-- How many ends a record covers, and why none is told. -/
def mgE (x : Rv) : Int := if 1 ≤ x.k ∧ x.k ≤ 3 then mulE (covZ x.k x.n) x.r else 0
def mgV (x : Rv) : Int := if 1 ≤ x.k ∧ x.k ≤ 3 then mulV (covZ x.k x.n) x.r else covZ x.k x.n
/-- The last end that records cover: a number, an error. -/
def mgP : Int → List Rv → Int × Int
  | at', [] => (at', 0)
  | at', x :: l => if mgE x ≠ 0 then (0, mgE x) else if addE at' (mgV x) ≠ 0 then (0, addE at' (mgV x)) else mgP (addV at' (mgV x)) l
def mgF (at' : Int) (l : List Rv) : Int × Int := if ofs at' = true then mgP at' l else (0, 2)
theorem mgf_app : ∀ (l m : List Rv) (at' : Int), mgP at' (l ++ m) = if (mgP at' l).2 = 0 then mgP (mgP at' l).1 m else mgP at' l
  | [], m, at' => by simp [mgP]
  | x :: l, m, at' => by
    simp only [List.cons_append, mgP]
    by_cases h1 : mgE x = 0
    · by_cases h2 : addE at' (mgV x) = 0
      · simp only [h1, h2, ne_eq, not_true_eq_false, if_false]
        exact mgf_app l m _
      · simp [h1, h2]
    · simp [h1]
theorem mgf_one (at' : Int) (x : Rv) : mgP at' [x] = if mgE x ≠ 0 then (0, mgE x) else if addE at' (mgV x) ≠ 0 then (0, addE at' (mgV x)) else (addV at' (mgV x), 0) := by
  simp [mgP]
theorem mgf_one_ok {at' v : Int} {x : Rv} (h : mgP at' [x] = (v, 0)) : mgE x = 0 ∧ addE at' (mgV x) = 0 ∧ v = at' + mgV x ∧ 0 ≤ mgV x ∧ 0 ≤ at' ∧ v ≤ 4611686018427387903 := by
  rw [mgf_one] at h
  by_cases h1 : mgE x = 0
  · by_cases h2 : addE at' (mgV x) = 0
    · simp only [h1, h2, ne_eq, not_true_eq_false, if_false, Prod.mk.injEq] at h
      have hv : addV at' (mgV x) = at' + mgV x := by unfold addV; rw [if_pos h2]
      have ho : (ofs at' && ofs (mgV x)) = true := by
        cases ho : (ofs at' && ofs (mgV x)) with
        | true => rfl
        | false => rw [(add_arg ho).1] at h2; cases h2
      obtain ⟨a0, a1⟩ := ofs_true (both ho).1
      obtain ⟨b0, b1⟩ := ofs_true (both ho).2
      refine ⟨h1, h2, by rw [← h.1, hv], b0, a0, ?_⟩
      rcases Int.lt_or_le 4611686018427387903 (at' + mgV x) with hlt | hle
      · rw [(add_over ho hlt).1] at h2; cases h2
      · rw [← h.1, hv]; exact hle
    · simp [h1, h2] at h
  · simp [h1] at h
theorem mgf_one_mk {at' : Int} {x : Rv} (h1 : mgE x = 0) (h0 : 0 ≤ at') (hc : 0 ≤ mgV x) (hm : at' + mgV x ≤ 4611686018427387903) : mgP at' [x] = (at' + mgV x, 0) := by
  have ho : (ofs at' && ofs (mgV x)) = true := by rw [ofs_mk h0 (by omega), ofs_mk hc (by omega)]; rfl
  obtain ⟨e1, e2⟩ := add_good ho hm
  rw [mgf_one, e1, e2]
  simp [h1]
theorem mgcov_ok {x : Rv} (hk : 1 ≤ x.k ∧ x.k ≤ 3) (h : mgE x = 0) : ofs (covZ x.k x.n) = true ∧ mgV x = covZ x.k x.n * x.r ∧ covZ x.k x.n * x.r ≤ 4611686018427387903 := by
  have e : mgE x = mulE (covZ x.k x.n) x.r := if_pos hk
  have e2 : mgV x = mulV (covZ x.k x.n) x.r := if_pos hk
  rw [e] at h
  have ho : (ofs (covZ x.k x.n) && ofs x.r) = true := by
    cases ho : (ofs (covZ x.k x.n) && ofs x.r) with
    | true => rfl
    | false => rw [(mul_arg ho).1] at h; cases h
  have hv : mgV x = covZ x.k x.n * x.r := by rw [e2]; unfold mulV; rw [if_pos h]
  refine ⟨(both ho).1, hv, ?_⟩
  rcases Int.lt_or_le 4611686018427387903 (covZ x.k x.n * x.r) with hlt | hle
  · rw [(mul_over ho hlt).1] at h; cases h
  · exact hle
/-- Two as one cover as many. -/
theorem mgf_two {u v z : Int} {y x : Rv} (ht : twoB y x = true) (h1 : mgP u [y] = (v, 0)) (h2 : mgP v [x] = (z, 0)) : mgP u [plusR y x] = (z, 0) := by
  obtain ⟨t1, t2, t3, t4, _, _, t7, t8, t9⟩ := mg2_yes ht
  obtain ⟨c1, _, e1, p1, u0, m1⟩ := mgf_one_ok h1
  obtain ⟨c2, _, e2, p2, _, m2⟩ := mgf_one_ok h2
  obtain ⟨o1, w1, _⟩ := mgcov_ok ⟨t1, t2⟩ c1
  obtain ⟨o2, w2, _⟩ := mgcov_ok (x := x) (by rw [t3]; exact ⟨t1, t2⟩) c2
  rw [t3, t4] at w2
  have hd : covZ y.k y.n * (y.r + x.r) = mgV y + mgV x := by rw [Int.mul_add, w1, w2]
  have hle : covZ y.k y.n * (y.r + x.r) ≤ 4611686018427387903 := by omega
  have hog : (ofs (covZ y.k y.n) && ofs (y.r + x.r)) = true := by rw [o1, ofs_mk (by omega) (by omega)]; rfl
  obtain ⟨g1, g2⟩ := mul_good hog hle
  have ce : mgE (plusR y x) = 0 := by
    have : mgE (plusR y x) = mulE (covZ y.k y.n) (y.r + x.r) := if_pos ⟨t1, t2⟩
    rw [this, g1]
  have cv : mgV (plusR y x) = mgV y + mgV x := by
    have : mgV (plusR y x) = mulV (covZ y.k y.n) (y.r + x.r) := if_pos ⟨t1, t2⟩
    rw [this, g2, hd]
  have := mgf_one_mk (at' := u) (x := plusR y x) ce u0 (by omega) (by omega)
  rw [this, cv]
  congr 1
  omega
theorem mgf_snoc {at' : Int} {l : List Rv} {x : Rv} {z : Int} (h : mgP at' (l ++ [x]) = (z, 0)) : ∃ v, mgP at' l = (v, 0) ∧ mgP v [x] = (z, 0) := by
  rw [mgf_app] at h
  by_cases h2 : (mgP at' l).2 = 0
  · rw [if_pos h2] at h
    refine ⟨(mgP at' l).1, ?_, h⟩
    rw [← h2]
  · rw [if_neg h2] at h
    rw [h] at h2
    simp at h2
theorem mgf_join {at' v z : Int} {l : List Rv} {x : Rv} (h1 : mgP at' l = (v, 0)) (h2 : mgP v [x] = (z, 0)) : mgP at' (l ++ [x]) = (z, 0) := by
  rw [mgf_app, h1]
  simpa using h2
/-- What was put together covers as many. -/
theorem mgf_all (at' : Int) (l : List Rv) : ∀ z, mgP at' l = (z, 0) → mgP at' (mgAll l) = (z, 0) := by
  refine mg_ind (P := fun l => ∀ z, mgP at' l = (z, 0) → mgP at' (mgAll l) = (z, 0)) (fun z h => h) (fun l x ih z h => ?_) l
  obtain ⟨v, hv, hx⟩ := mgf_snoc h
  have hl := ih v hv
  rw [mga_snoc]
  rcases mgs_cases (mgAll l) x with ⟨e, h⟩ | ⟨o, y, e, ht, h⟩ | ⟨o, y, e, ht, h⟩ <;> rw [h]
  · rw [e] at hl
    exact mgf_join hl hx
  · rw [e] at hl
    obtain ⟨u, hu, hy⟩ := mgf_snoc hl
    exact mgf_join hu (mgf_two ht hy hx)
  · rw [e] at hl
    exact mgf_join hl hx
theorem Alike.cov {x y : Rv} (h : Alike x y) : mgE y = mgE x ∧ mgV y = mgV x := by
  obtain ⟨a, b, c, d⟩ := h
  unfold mgE mgV
  rw [a, b, c]
  exact ⟨rfl, rfl⟩

/-- Lists alike, one by one, by any relation. -/
def Pair2 (R : Rv → Rv → Prop) (l m : List Rv) : Prop := l.length = m.length ∧ ∀ (i : Nat) (x y : Rv), l[i]? = some x → m[i]? = some y → R x y
theorem Pair2.nil {R : Rv → Rv → Prop} : Pair2 R [] [] := ⟨rfl, fun i x y h => by simp at h⟩
theorem Pair2.snoc {R : Rv → Rv → Prop} {l m : List Rv} {x y : Rv} (h : Pair2 R l m) (hr : R x y) : Pair2 R (l ++ [x]) (m ++ [y]) := by
  refine ⟨by simp [h.1], fun i u v hu hv => ?_⟩
  rcases Nat.lt_or_ge i l.length with hi | hi
  · rw [List.getElem?_append_left hi] at hu
    rw [List.getElem?_append_left (by rw [← h.1]; exact hi)] at hv
    exact h.2 i u v hu hv
  · rw [List.getElem?_append_right hi] at hu
    rw [List.getElem?_append_right (by rw [← h.1]; exact hi), ← h.1] at hv
    rcases Nat.eq_zero_or_pos (i - l.length) with h0 | h0
    · rw [h0] at hu hv
      simp at hu hv
      subst hu hv
      exact hr
    · rw [List.getElem?_eq_none (by simp; omega)] at hu; cases hu
theorem Pair2.mono {R S : Rv → Rv → Prop} {l m : List Rv} (h : Pair2 R l m) (hs : ∀ x y, R x y → S x y) : Pair2 S l m := ⟨h.1, fun i x y hx hy => hs x y (h.2 i x y hx hy)⟩
theorem Pair2.cons {R : Rv → Rv → Prop} {l m : List Rv} {x y : Rv} (h : Pair2 R (x :: l) (y :: m)) : R x y ∧ Pair2 R l m :=
  ⟨h.2 0 x y rfl rfl, by have := h.1; simp at this; exact this, fun i u v hu hv => h.2 (i + 1) u v (by simpa using hu) (by simpa using hv)⟩
theorem Pair2.far : ∀ {l m : List Rv}, Pair2 Alike l m → ∀ at', mgP at' m = mgP at' l
  | [], [], _, _ => rfl
  | [], _ :: _, h, _ => by have := h.1; simp at this
  | _ :: _, [], h, _ => by have := h.1; simp at this
  | x :: l, y :: m, h, at' => by
    obtain ⟨hxy, hlm⟩ := h.cons
    obtain ⟨e1, e2⟩ := hxy.cov
    simp only [mgP]
    rw [e1, e2, Pair2.far hlm]
theorem Pair2.mgF {l m : List Rv} (h : Pair2 Alike l m) (at' : Int) : mgF at' m = Go.Proofs.Ytikhjofpioegbaa.mgF at' l := by
  unfold Go.Proofs.Ytikhjofpioegbaa.mgF
  rw [h.far]
theorem Pair2.canon {l m : List Rv} (h : Pair2 Alike l m) (hc : CanonL l) : CanonL m := by
  intro i x y hx hy
  have hl := h.1
  have hi : i < m.length := by
    rcases Nat.lt_or_ge i m.length with h | h
    · exact h
    · rw [List.getElem?_eq_none h] at hx; cases hx
  have hi2 : i + 1 < m.length := by
    rcases Nat.lt_or_ge (i + 1) m.length with h | h
    · exact h
    · rw [List.getElem?_eq_none h] at hy; cases hy
  obtain ⟨u, hu⟩ : ∃ u, l[i]? = some u := ⟨_, List.getElem?_eq_getElem (by omega)⟩
  obtain ⟨v, hv⟩ : ∃ v, l[i + 1]? = some v := ⟨_, List.getElem?_eq_getElem (by omega)⟩
  rw [(h.2 i u x hu hx).two (h.2 (i + 1) v y hv hy)]
  exact hc i u v hu hv
end Go.Proofs.Ytikhjofpioegbaa
