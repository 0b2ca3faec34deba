/-
  How bytes are written: plain lists. No program here.
-/
import Derived.Lib.Strings
import Derived.Lib.Bytealg
set_option linter.unusedSimpArgs false
set_option linter.unusedVariables false
namespace Go.Proofs.Ytoedbolmajcgpaa

theorem u8_ext {c d : UInt8} (h : c.toNat = d.toNat) : c = d := UInt8.toNat_inj.1 h

/-- Whether a byte is plain. -/
def pln (c : UInt8) : Bool := decide (33 ≤ c.toNat ∧ c.toNat ≤ 126 ∧ c.toNat ≠ 92)

def hexes : List UInt8 := [48, 49, 50, 51, 52, 53, 54, 55, 56, 57, 97, 98, 99, 100, 101, 102]
/-- The digit to the base 16 of a number below it. -/
def hx (n : Nat) : UInt8 := hexes.getD n 0

/-- How one byte is written among others. -/
def sgn (c : UInt8) : List UInt8 := if c.toNat = 92 then [92, 92] else if pln c = true then [c] else [92, 120, hx (c.toNat / 16), hx (c.toNat % 16)]
def sgns (l : List UInt8) : List UInt8 := l.flatMap sgn
/-- How bytes are written. -/
def quo (l : List UInt8) : List UInt8 := if l = [] then [45] else if l = [45] then [92, 120, 50, 100] else sgns l

theorem pln_iff (c : UInt8) : pln c = true ↔ 33 ≤ c.toNat ∧ c.toNat ≤ 126 ∧ c.toNat ≠ 92 := by simp [pln]
theorem pln_not (c : UInt8) : pln c = false ↔ ¬ (33 ≤ c.toNat ∧ c.toNat ≤ 126 ∧ c.toNat ≠ 92) := by simp [pln]

theorem sgn_back (c : UInt8) (h : c.toNat = 92) : sgn c = [92, 92] := by simp [sgn, h]
theorem sgn_plain (c : UInt8) (h : pln c = true) : sgn c = [c] := by
  have := (pln_iff c).1 h
  simp [sgn, h, this.2.2]
theorem sgn_hex (c : UInt8) (h : pln c = false) (h2 : c.toNat ≠ 92) : sgn c = [92, 120, hx (c.toNat / 16), hx (c.toNat % 16)] := by simp [sgn, h, h2]

theorem sgn_pos (c : UInt8) : 0 < (sgn c).length := by unfold sgn; split <;> (try split) <;> simp
theorem sgn_le (c : UInt8) : (sgn c).length ≤ 4 := by unfold sgn; split <;> (try split) <;> simp

theorem sgns_nil : sgns [] = [] := rfl
theorem sgns_cons (c : UInt8) (l : List UInt8) : sgns (c :: l) = sgn c ++ sgns l := by simp [sgns]
theorem sgns_snoc (l : List UInt8) (c : UInt8) : sgns (l ++ [c]) = sgns l ++ sgn c := by simp [sgns]
theorem sgns_len : ∀ l : List UInt8, l.length ≤ (sgns l).length ∧ (sgns l).length ≤ 4 * l.length
  | [] => by simp [sgns_nil]
  | c :: l => by
    have := sgns_len l; have := sgn_pos c; have := sgn_le c
    rw [sgns_cons, List.length_append, List.length_cons]; omega
theorem quo_len (l : List UInt8) : (quo l).length ≤ 4 * l.length + 4 := by
  have := sgns_len l
  unfold quo; split <;> (try split) <;> simp <;> omega

theorem hx_inj (a b : Nat) (ha : a < 16) (hb : b < 16) (h : hx a = hx b) : a = b := by
  have key : ∀ a, a < 16 → ∀ b, b < 16 → hx a = hx b → a = b := by decide +kernel
  exact key a ha b hb h
theorem hx_range (a : Nat) (ha : a < 16) : 48 ≤ (hx a).toNat ∧ (hx a).toNat ≤ 102 := by
  have key : ∀ a, a < 16 → 48 ≤ (hx a).toNat ∧ (hx a).toNat ≤ 102 := by decide +kernel
  exact key a ha

/-- How a byte is written begins no other byte's writing. -/
theorem sgn_pre {c d : UInt8} {r r' : List UInt8} (h : sgn c ++ r = sgn d ++ r') : c = d := by
  by_cases hc : c.toNat = 92
  · by_cases hd : d.toNat = 92
    · exact u8_ext (hc.trans hd.symm)
    · rw [sgn_back c hc] at h
      cases hp : pln d with
      | true =>
        rw [sgn_plain d hp] at h
        simp at h
        rw [← h.1] at hd; exact absurd rfl hd
      | false =>
        rw [sgn_hex d hp hd] at h
        simp at h
  · cases hq : pln c with
    | true =>
      rw [sgn_plain c hq] at h
      by_cases hd : d.toNat = 92
      · rw [sgn_back d hd] at h
        simp at h
        rw [h.1] at hc; exact absurd rfl hc
      · cases hp : pln d with
        | true => rw [sgn_plain d hp] at h; simp at h; exact h.1
        | false =>
          rw [sgn_hex d hp hd] at h
          simp at h
          rw [h.1] at hc; exact absurd rfl hc
    | false =>
      rw [sgn_hex c hq hc] at h
      by_cases hd : d.toNat = 92
      · rw [sgn_back d hd] at h
        simp at h
      · cases hp : pln d with
        | true =>
          rw [sgn_plain d hp] at h
          simp at h
          rw [← h.1] at hd; exact absurd rfl hd
        | false =>
          rw [sgn_hex d hp hd] at h
          simp at h
          have l1 := c.toNat_lt; have l2 := d.toNat_lt
          have e1 := hx_inj _ _ (by omega) (by omega) h.1
          have e2 := hx_inj _ _ (by omega) (by omega) h.2.1
          exact u8_ext (by omega)

theorem sgns_inj : ∀ l m : List UInt8, sgns l = sgns m → l = m
  | [], [], _ => rfl
  | [], d :: m, h => by
    have h0 := sgn_pos d
    have e := congrArg List.length h
    rw [sgns_cons, List.length_append, sgns_nil, List.length_nil] at e
    omega
  | c :: l, [], h => by
    have h0 := sgn_pos c
    have e := congrArg List.length h
    rw [sgns_cons, List.length_append, sgns_nil, List.length_nil] at e
    omega
  | c :: l, d :: m, h => by
    rw [sgns_cons, sgns_cons] at h
    obtain rfl := sgn_pre h
    rw [sgns_inj l m (List.append_cancel_left h)]

theorem sgn_dash : sgn 45 = [45] := by decide
theorem sgns_dash : sgns [45] = [45] := by decide

theorem first_of {c : UInt8} {l : List UInt8} {t : List UInt8} (h : sgns (c :: l) = t) : ∃ r, t = sgn c ++ r := ⟨_, by rw [← h, sgns_cons]⟩

/-- No byte is written as \x2d among others. -/
theorem sgn_not_2d (c : UInt8) (r : List UInt8) : sgn c ++ r ≠ [92, 120, 50, 100] := by
  intro h
  by_cases hc : c.toNat = 92
  · rw [sgn_back c hc] at h; simp at h
  · cases hp : pln c with
    | true => rw [sgn_plain c hp] at h; simp at h; rw [h.1] at hc; exact hc rfl
    | false =>
      rw [sgn_hex c hp hc] at h
      simp at h
      have l1 := c.toNat_lt
      have e1 := hx_inj _ 2 (by omega) (by omega) (h.1.trans (by decide))
      have e2 := hx_inj _ 13 (by omega) (by omega) (h.2.1.trans (by decide))
      have : c.toNat = 45 := by omega
      have := (pln_not c).1 hp
      omega

theorem quo_inj (l m : List UInt8) (h : quo l = quo m) : l = m := by
  have nd : ∀ k : List UInt8, sgns k = [45] → k = [45] := fun k hk => sgns_inj k [45] (hk.trans sgns_dash.symm)
  have n2 : ∀ k : List UInt8, sgns k ≠ [92, 120, 50, 100] := fun k hk => by
    cases k with
    | nil => simp [sgns_nil] at hk
    | cons c k => rw [sgns_cons] at hk; exact sgn_not_2d c _ hk
  unfold quo at h
  split at h
  · rename_i h1; subst h1
    split at h
    · rename_i h2; exact h2.symm
    · split at h
      · simp at h
      · rename_i h2 h3; exact absurd (nd m h.symm) h3
  · split at h
    · rename_i h1 h2; subst h2
      split at h
      · simp at h
      · split at h
        · rename_i h3; exact h3.symm
        · exact absurd h.symm (n2 m)
    · rename_i h1 h2
      split at h
      · exact absurd (nd l h) h2
      · split at h
        · exact absurd h (n2 l)
        · exact sgns_inj l m h

/-! The byte with whose writing a text begins. -/

def hv (c : UInt8) : Int := Lib.indexByte hexes c

/-- The byte, and how long its writing is; 0: none. -/
def tak : List UInt8 → UInt8 × Nat
  | [] => (0, 0)
  | a :: r => if pln a = true then (a, 1) else if a.toNat ≠ 92 then (0, 0) else match r with
    | [] => (0, 0)
    | b :: r => if b.toNat = 92 then (92, 2) else if b.toNat ≠ 120 then (0, 0) else match r with
      | h :: o :: _ => if hv h < 0 ∨ hv o < 0 then (0, 0) else
          if pln (UInt8.ofNat (hv h * 16 + hv o).toNat) = true ∨ (hv h * 16 + hv o).toNat = 92 then (0, 0) else (UInt8.ofNat (hv h * 16 + hv o).toNat, 4)
      | _ => (0, 0)

theorem hv_all (c : UInt8) : hv c < 16 ∧ -1 ≤ hv c ∧ (0 ≤ hv c → hx (hv c).toNat = c) := by
  have key : ∀ n : Nat, n < 256 → hv (UInt8.ofNat n) < 16 ∧ -1 ≤ hv (UInt8.ofNat n) ∧ (0 ≤ hv (UInt8.ofNat n) → hx (hv (UInt8.ofNat n)).toNat = UInt8.ofNat n) := by decide +kernel
  have := key c.toNat c.toNat_lt
  rwa [show UInt8.ofNat c.toNat = c from by simp] at this
theorem hv_hx (n : Nat) (h : n < 16) : hv (hx n) = n := by
  have key : ∀ n, n < 16 → hv (hx n) = n := by decide +kernel
  exact key n h

/-- What is found, is written there. -/
theorem tak_says (l : List UInt8) (h : (tak l).2 ≠ 0) : (∃ r, l = sgn (tak l).1 ++ r) ∧ (tak l).2 = (sgn (tak l).1).length := by
  match l with
  | [] => simp [tak] at h
  | a :: r =>
    by_cases ha : pln a = true
    · simp only [tak, ha, if_true]
      rw [sgn_plain a ha]
      exact ⟨⟨r, rfl⟩, rfl⟩
    · by_cases h92 : a.toNat = 92
      · obtain rfl : a = 92 := u8_ext h92
        match r with
        | [] => simp [tak, ha, h92] at h
        | b :: r =>
          by_cases hb : b.toNat = 92
          · obtain rfl : b = 92 := u8_ext hb
            have e : tak (92 :: 92 :: r) = (92, 2) := by simp [tak, ha]
            rw [e, sgn_back 92 rfl]
            exact ⟨⟨r, rfl⟩, rfl⟩
          · by_cases hb2 : b.toNat = 120
            · obtain rfl : b = 120 := u8_ext hb2
              match r with
              | [] => simp [tak, ha] at h
              | [x] => simp [tak, ha] at h
              | x :: y :: r =>
                obtain ⟨x1, x2, x3⟩ := hv_all x
                obtain ⟨y1, y2, y3⟩ := hv_all y
                by_cases hv0 : hv x < 0 ∨ hv y < 0
                · simp [tak, ha, hv0] at h
                · have e : tak (92 :: 120 :: x :: y :: r) = if pln (UInt8.ofNat (hv x * 16 + hv y).toNat) = true ∨ (hv x * 16 + hv y).toNat = 92 then (0, 0) else (UInt8.ofNat (hv x * 16 + hv y).toNat, 4) := by
                    simp only [tak, ha, hv0]; simp
                  have x3' := x3 (by omega)
                  have y3' := y3 (by omega)
                  rw [e] at h ⊢
                  have hn : (hv x * 16 + hv y).toNat < 256 := by omega
                  have ht : (UInt8.ofNat (hv x * 16 + hv y).toNat).toNat = (hv x * 16 + hv y).toNat := by simp; omega
                  by_cases hp : pln (UInt8.ofNat (hv x * 16 + hv y).toNat) = true ∨ (hv x * 16 + hv y).toNat = 92
                  · simp [hp] at h
                  · rw [if_neg hp]
                    have hs := sgn_hex (UInt8.ofNat (hv x * 16 + hv y).toNat) (by cases hq : pln (UInt8.ofNat (hv x * 16 + hv y).toNat) with
                      | true => exact absurd (.inl hq) hp
                      | false => rfl) (by rw [ht]; exact fun q => hp (.inr q))
                    have q1 : (UInt8.ofNat (hv x * 16 + hv y).toNat).toNat / 16 = (hv x).toNat := by omega
                    have q2 : (UInt8.ofNat (hv x * 16 + hv y).toNat).toNat % 16 = (hv y).toNat := by omega
                    rw [q1, q2, x3', y3'] at hs
                    rw [hs]
                    exact ⟨⟨r, rfl⟩, rfl⟩
            · simp [tak, ha, hb, hb2] at h
      · simp [tak, ha, h92] at h

/-- What is written there, is found. -/
theorem tak_sgn (c : UInt8) (r : List UInt8) : tak (sgn c ++ r) = (c, (sgn c).length) := by
  by_cases hc : c.toNat = 92
  · obtain rfl : c = 92 := u8_ext hc
    rw [sgn_back 92 rfl]
    have : pln 92 = false := by decide
    simp [tak, this]
  · cases hp : pln c with
    | true => rw [sgn_plain c hp]; simp [tak, hp]
    | false =>
      rw [sgn_hex c hp hc]
      have l1 := c.toNat_lt
      have e1 := hv_hx (c.toNat / 16) (by omega)
      have e2 := hv_hx (c.toNat % 16) (by omega)
      have p1 : pln 92 = false := by decide
      have en : ((c.toNat / 16 : Nat) : Int) * 16 + ((c.toNat % 16 : Nat) : Int) = (c.toNat : Int) := by omega
      have hc' : ¬ c.toNat = 92 := hc
      have g1 : ¬ (((c.toNat / 16 : Nat) : Int) < 0) := by omega
      have g2 : ¬ (((c.toNat % 16 : Nat) : Int) < 0) := by omega
      simp only [tak, List.cons_append, List.nil_append, p1, e1, e2, en, Int.toNat_natCast, UInt8.ofNat_toNat, hp, hc', g1, g2, or_self, if_false, Bool.false_eq_true]
      simp

theorem tak_none {l : List UInt8} (h : (tak l).2 = 0) (c : UInt8) (r : List UInt8) : l ≠ sgn c ++ r := by
  rintro rfl
  rw [tak_sgn] at h
  have := sgn_pos c
  simp at h
  rw [h] at this
  simp at this

/-! What is read. -/

/-- The answer of Unquote: bytes and an error. -/
def UnqIs (s u : List UInt8) (e : Int) : Prop := (e = 0 ∧ quo u = s) ∨ (e = 3 ∧ u = [] ∧ ∀ v, quo v ≠ s)

open Classical in
noncomputable def unqU (s : List UInt8) : List UInt8 := if h : ∃ u, quo u = s then h.choose else []
open Classical in
noncomputable def unqE (s : List UInt8) : Int := if ∃ u, quo u = s then 0 else 3

theorem unq_is {s u : List UInt8} {e : Int} (h : UnqIs s u e) : unqU s = u ∧ unqE s = e := by
  rcases h with ⟨rfl, h⟩ | ⟨rfl, rfl, h⟩
  · have hx : ∃ u, quo u = s := ⟨u, h⟩
    unfold unqU unqE
    rw [dif_pos hx, if_pos hx]
    exact ⟨quo_inj _ _ (hx.choose_spec.trans h.symm), rfl⟩
  · have hx : ¬ ∃ u, quo u = s := fun ⟨u, hu⟩ => h u hu
    unfold unqU unqE
    rw [dif_neg hx, if_neg hx]
    exact ⟨rfl, rfl⟩

theorem unq_quo (u : List UInt8) : unqU (quo u) = u ∧ unqE (quo u) = 0 := unq_is (.inl ⟨rfl, rfl⟩)
theorem unq_cases (s : List UInt8) : (unqE s = 0 ∧ quo (unqU s) = s) ∨ (unqE s = 3 ∧ unqU s = []) := by
  by_cases hx : ∃ u, quo u = s
  · obtain ⟨u, rfl⟩ := hx
    have := unq_quo u
    exact .inl ⟨this.2, by rw [this.1]⟩
  · have := unq_is (s := s) (u := []) (e := 3) (.inr ⟨rfl, rfl, fun v hv => hx ⟨v, hv⟩⟩)
    exact .inr ⟨this.2, this.1⟩

/-- All has been read: the bytes are these. -/
theorem unq_end {s acc : List UInt8} (h0 : s ≠ []) (h1 : s ≠ [45]) (h : sgns acc = s) : unqU s = acc ∧ unqE s = 0 := by
  refine unq_is (.inl ⟨rfl, ?_⟩)
  have a0 : acc ≠ [] := by rintro rfl; exact h0 h.symm
  have a1 : acc ≠ [45] := by rintro rfl; exact h1 (h.symm.trans sgns_dash)
  unfold quo
  rw [if_neg a0, if_neg a1, h]

theorem sgns_stop {rest : List UInt8} (hr : rest ≠ []) (ht : ∀ c r, rest ≠ sgn c ++ r) : ∀ acc v : List UInt8, sgns v ≠ sgns acc ++ rest
  | [], [], h => hr h.symm
  | [], c :: v, h => by rw [sgns_cons, sgns_nil, List.nil_append] at h; exact ht c _ h.symm
  | a :: acc, [], h => by
    have e := congrArg List.length h
    have := sgn_pos a
    rw [sgns_nil, sgns_cons, List.append_assoc, List.length_append] at e
    simp at e; omega
  | a :: acc, c :: v, h => by
    rw [sgns_cons, sgns_cons, List.append_assoc] at h
    obtain rfl := sgn_pre h
    exact sgns_stop hr ht acc v (List.append_cancel_left h)

/-- Nothing is written so. -/
theorem unq_stop {s acc rest : List UInt8} (h1 : s ≠ [45]) (h2 : s ≠ [92, 120, 50, 100]) (h : sgns acc ++ rest = s) (hr : rest ≠ []) (ht : ∀ c r, rest ≠ sgn c ++ r) : unqU s = [] ∧ unqE s = 3 := by
  refine unq_is (.inr ⟨rfl, rfl, fun v hv => ?_⟩)
  unfold quo at hv
  split at hv
  · exact h1 hv.symm
  · split at hv
    · exact h2 hv.symm
    · exact sgns_stop hr ht acc v (hv.trans h.symm)

theorem unq_nil : unqU [] = [] ∧ unqE [] = 3 := by
  refine unq_is (.inr ⟨rfl, rfl, fun v hv => ?_⟩)
  unfold quo at hv
  split at hv
  · simp at hv
  · split at hv
    · simp at hv
    · rename_i h0 _
      have := (sgns_len v).1
      rw [hv] at this
      exact h0 (List.length_eq_zero_iff.1 (by simpa using this))
theorem unq_dash : unqU [45] = [] ∧ unqE [45] = 0 := unq_is (.inl ⟨rfl, rfl⟩)
theorem unq_2d : unqU [92, 120, 50, 100] = [45] ∧ unqE [92, 120, 50, 100] = 0 := unq_is (.inl ⟨rfl, rfl⟩)

/-! Words. -/

/-- What stands between blanks, of a rest, with the word under way and the words behind it. -/
def wgo : List UInt8 → List UInt8 → List (List UInt8) → List (List UInt8)
  | [], cur, acc => if cur = [] then acc else acc ++ [cur]
  | c :: r, cur, acc => if c.toNat = 32 then wgo r [] (if cur = [] then acc else acc ++ [cur]) else wgo r (cur ++ [c]) acc
def wds (l : List UInt8) : List (List UInt8) := wgo l [] []

theorem wgo_nil (acc : List (List UInt8)) : wgo [] [] acc = acc := rfl
theorem wgo_last (cur : List UInt8) (acc : List (List UInt8)) (h : cur ≠ []) : wgo [] cur acc = acc ++ [cur] := by simp [wgo, h]
theorem wgo_blank (c : UInt8) (r : List UInt8) (acc : List (List UInt8)) (h : c.toNat = 32) : wgo (c :: r) [] acc = wgo r [] acc := by simp [wgo, h]
theorem wgo_cut (c : UInt8) (r cur : List UInt8) (acc : List (List UInt8)) (h : c.toNat = 32) (hc : cur ≠ []) : wgo (c :: r) cur acc = wgo r [] (acc ++ [cur]) := by simp [wgo, h, hc]
theorem wgo_more (c : UInt8) (r cur : List UInt8) (acc : List (List UInt8)) (h : c.toNat ≠ 32) : wgo (c :: r) cur acc = wgo r (cur ++ [c]) acc := by simp [wgo, h]

theorem wgo_one : ∀ (l cur : List UInt8), (∀ c ∈ l, c.toNat ≠ 32) → cur ++ l ≠ [] → wgo l cur [] = [cur ++ l]
  | [], cur, _, h => by rw [wgo_last cur [] (by simpa using h)]; simp
  | c :: r, cur, h, _ => by
    rw [wgo_more c r cur [] (h c (by simp)), wgo_one r (cur ++ [c]) (fun d hd => h d (by simp [hd])) (by simp)]
    simp
theorem wgo_few : ∀ (l cur : List UInt8) (acc : List (List UInt8)), (wgo l cur acc).length ≤ l.length + acc.length + 1
  | [], cur, acc => by unfold wgo; split <;> simp
  | c :: r, cur, acc => by
    unfold wgo
    split
    · have h1 := wgo_few r [] (if cur = [] then acc else acc ++ [cur])
      have h2 : (if cur = [] then acc else acc ++ [cur]).length ≤ acc.length + 1 := by split <;> simp
      rw [List.length_cons]; omega
    · have := wgo_few r (cur ++ [c]) acc
      simp at this ⊢; omega

/-- Bytes that are written: from 33 to 126. -/
theorem sgn_seen (c d : UInt8) (h : d ∈ sgn c) : 33 ≤ d.toNat ∧ d.toNat ≤ 126 := by
  have l1 := c.toNat_lt
  by_cases hc : c.toNat = 92
  · rw [sgn_back c hc] at h
    simp at h; subst h; decide
  · cases hp : pln c with
    | true =>
      rw [sgn_plain c hp] at h
      simp at h; subst h
      have := (pln_iff d).1 hp
      omega
    | false =>
      rw [sgn_hex c hp hc] at h
      have a1 := hx_range (c.toNat / 16) (by omega)
      have a2 := hx_range (c.toNat % 16) (by omega)
      simp at h
      rcases h with rfl | rfl | rfl | rfl
      · decide
      · decide
      · omega
      · omega
theorem quo_seen (l : List UInt8) (d : UInt8) (h : d ∈ quo l) : 33 ≤ d.toNat ∧ d.toNat ≤ 126 := by
  unfold quo at h
  split at h
  · simp at h; subst h; decide
  · split at h
    · simp at h
      rcases h with rfl | rfl | rfl | rfl <;> decide
    · simp only [sgns, List.mem_flatMap] at h
      obtain ⟨c, _, h⟩ := h
      exact sgn_seen c d h
theorem quo_full (l : List UInt8) : quo l ≠ [] := by
  unfold quo
  split
  · simp
  · split
    · simp
    · rename_i h _
      intro e
      have := (sgns_len l).1
      rw [e] at this
      exact h (List.length_eq_zero_iff.1 (by simpa using this))
theorem wds_quo (l : List UInt8) : wds (quo l) = [quo l] :=
  wgo_one (quo l) [] (fun c hc => by have := quo_seen l c hc; omega) (by simpa using quo_full l)

end Go.Proofs.Ytoedbolmajcgpaa
