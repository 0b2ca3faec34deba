/-
  Plain facts: what is written is read as it was, and no other text leads there. No program here.
-/
import Derived.Test.YtgoidhlemmdjgaaDoorPieces
set_option linter.unusedSimpArgs false
set_option linter.unusedVariables false
namespace Go.Proofs.YtgoidhlemmdjgaaDoor
open Go.Lib

theorem dig_of (k : Nat) (h : k < 10) : isDig (UInt8.ofNat (48 + k)) = true ∧ (UInt8.ofNat (48 + k)).toNat - 48 = k ∧ (UInt8.ofNat (48 + k) = 48 → k = 0) := by
  have e : (UInt8.ofNat (48 + k)).toNat = 48 + k := by simp; omega
  refine ⟨(isDig_iff _).2 (by omega), by omega, fun h' => ?_⟩
  have h48 : (48 : UInt8).toNat = 48 := rfl
  rw [h'] at e; omega

theorem dec_mag (u : Nat) : mag (decDigits u) = u := by
  induction u using Nat.strongRecOn with
  | _ u ih =>
    rw [decDigits]
    split
    · rename_i h
      have := (dig_of u h).2.1
      simp only [mag, List.foldl_cons, List.foldl_nil]
      omega
    · rename_i h
      have := (dig_of (u % 10) (by omega)).2.1
      rw [mag_snoc, ih (u / 10) (by omega), this]
      omega

theorem dec_all (u : Nat) : (decDigits u).all isDig = true := by
  induction u using Nat.strongRecOn with
  | _ u ih =>
    rw [decDigits]
    split
    · rename_i h
      rw [List.all_cons, (dig_of u h).1]; rfl
    · rename_i h
      rw [List.all_append, ih (u / 10) (by omega), List.all_cons, (dig_of (u % 10) (by omega)).1]; rfl

theorem dec_pos (u : Nat) : 0 < (decDigits u).length := by
  rw [decDigits_length]; exact nDigits_pos u

theorem dec_head (u : Nat) : (decDigits u)[0]'(dec_pos u) = 48 → u = 0 := by
  induction u using Nat.strongRecOn with
  | _ u ih =>
    intro h
    by_cases hu : u < 10
    · have e : decDigits u = [UInt8.ofNat (48 + u)] := by rw [decDigits, dif_pos hu]
      simp only [e, List.getElem_cons_zero] at h
      exact (dig_of u hu).2.2 h
    · have e : decDigits u = decDigits (u / 10) ++ [UInt8.ofNat (48 + u % 10)] := by rw [decDigits, dif_neg hu]
      have hp := dec_pos (u / 10)
      have h' : (decDigits (u / 10))[0]'hp = 48 := by
        simp only [e] at h
        rwa [List.getElem_append_left hp] at h
      have := ih (u / 10) (by omega) h'
      omega

theorem dec_zero : decDigits 0 = [48] := by rw [decDigits, dif_pos (by omega)]; rfl

theorem neg_dec (u : Nat) : neg (decDigits u) = false := by
  rw [neg_head _ (dec_pos u), decide_eq_false_iff_not]
  intro h
  have hall := dec_all u
  rw [List.all_eq_true] at hall
  have := (isDig_iff _).1 (hall _ (List.getElem_mem (dec_pos u)))
  rw [h] at this
  have e : (45 : UInt8).toNat = 45 := rfl
  omega

theorem body_itoa (n : Int) : body (itoa n) = decDigits n.natAbs ∧ neg (itoa n) = decide (n < 0) := by
  unfold itoa
  by_cases h : n < 0
  · rw [if_pos h, decide_eq_true h]
    exact ⟨by simp [body, trimPrefix, hasPrefix], by simp [neg, hasPrefix]⟩
  · rw [if_neg h, decide_eq_false h, show n.toNat = n.natAbs by omega]
    exact ⟨body_pos (neg_dec _), neg_dec _⟩

theorem form_itoa (n : Int) : formB (itoa n) = true := by
  obtain ⟨hb, hn⟩ := body_itoa n
  have hp : 0 < (body (itoa n)).length := by rw [hb]; exact dec_pos _
  by_cases hc : (body (itoa n))[0] = 48
  · rw [form_zero _ hp hc, decide_eq_true_iff]
    have h0 : n.natAbs = 0 := dec_head n.natAbs (by simpa [hb] using hc)
    have : n = 0 := by omega
    subst this
    have : itoa 0 = [48] := by unfold itoa; rw [if_neg (by omega)]; exact dec_zero
    rw [this]; rfl
  · exact form_full _ hp (by rw [hb]; exact dec_all _) hc

theorem val_itoa (n : Int) (h1 : -9223372036854775808 ≤ n) (h2 : n ≤ 9223372036854775807) : valN (itoa n) = n ∧ valB (itoa n) = true := by
  obtain ⟨hb, hn⟩ := body_itoa n
  have hm : mag (body (itoa n)) = n.natAbs := by rw [hb, dec_mag]
  by_cases h : n < 0
  · obtain ⟨a, b⟩ := val_neg (itoa n) n.natAbs hm (by omega) (by rw [hn, decide_eq_true h])
    exact ⟨by rw [a]; omega, b⟩
  · obtain ⟨a, b⟩ := val_pos (itoa n) n.natAbs hm (by omega) (by rw [hn, decide_eq_false h])
    exact ⟨by rw [a]; omega, b⟩

theorem par_itoa (n : Int) (h1 : -9223372036854775808 ≤ n) (h2 : n ≤ 9223372036854775807) : parN (itoa n) (-9223372036854775808) 9223372036854775807 = n ∧ parE (itoa n) (-9223372036854775808) 9223372036854775807 = 0 := by
  obtain ⟨a, b⟩ := val_itoa n h1 h2
  obtain ⟨c, d⟩ := par_ok (itoa n) (-9223372036854775808) 9223372036854775807 (form_itoa n) (by rw [a, b]; simp; omega)
  exact ⟨by rw [c, a], d⟩

theorem mag_ge : ∀ (d : List UInt8) (c : UInt8), isDig c = true → c ≠ 48 → 1 ≤ mag (c :: d) := by
  intro d c hc h48
  have h1 := mag_take_le (c :: d) 1
  have e : mag ((c :: d).take 1) = c.toNat - 48 := by simp [mag]
  have h2 := (isDig_iff c).1 hc
  have : c.toNat ≠ 48 := fun e' => h48 (UInt8.toNat.inj e')
  omega

/-- Digits without a 0 ahead are the numeral of the number that they make. -/
theorem dec_of_mag : ∀ (n : Nat) (c : UInt8) (d : List UInt8), d.length = n → (c :: d).all isDig = true → (c ≠ 48 ∨ d = []) → decDigits (mag (c :: d)) = c :: d := by
  intro n
  induction n with
  | zero =>
    intro c d hd hall _
    obtain rfl := List.eq_nil_of_length_eq_zero hd
    have hc : isDig c = true := by simpa using hall
    have h2 := (isDig_iff c).1 hc
    have e : mag [c] = c.toNat - 48 := by simp [mag]
    rw [e, decDigits, dif_pos (by omega)]
    congr 1
    apply UInt8.toNat.inj
    simp
    omega
  | succ n ih =>
    intro c d hd hall hc
    have hne : d ≠ [] := fun e => by rw [e] at hd; simp at hd
    have h48 : c ≠ 48 := hc.resolve_right hne
    obtain ⟨d', x, rfl⟩ : ∃ d' x, d = d' ++ [x] := ⟨d.dropLast, d.getLast hne, (List.dropLast_concat_getLast hne).symm⟩
    rw [← List.cons_append] at hall ⊢
    rw [List.all_append, Bool.and_eq_true] at hall
    have hx : isDig x = true := by simpa using hall.2
    have h2 := (isDig_iff x).1 hx
    have hcd : isDig c = true := by
      have := hall.1
      rw [List.all_cons, Bool.and_eq_true] at this
      exact this.1
    have hg := mag_ge d' c hcd h48
    have hi := ih c d' (by simp at hd; exact hd) hall.1 (.inl h48)
    rw [mag_snoc, decDigits, dif_neg (by omega), show (10 * mag (c :: d') + (x.toNat - 48)) / 10 = mag (c :: d') by omega, show (10 * mag (c :: d') + (x.toNat - 48)) % 10 = x.toNat - 48 by omega, hi]
    congr 2
    apply UInt8.toNat.inj
    simp
    omega

/-- A text that is a number's is the one that is written of it. -/
theorem itoa_val (l : List UInt8) (hf : formB l = true) (hv : valB l = true) : itoa (valN l) = l := by
  have hall := form_digits l hf
  have hp : 0 < (body l).length := by
    rcases Nat.eq_zero_or_pos (body l).length with e | e
    · rw [form_empty l e] at hf; cases hf
    · exact e
  have hnl : ¬ lim < mag (body l) := fun h => by rw [(val_over l h).2] at hv; cases hv
  have hml : mag (body l) ≤ 9223372036854775808 := by unfold lim at hnl; omega
  obtain ⟨c, d, hb⟩ : ∃ c d, body l = c :: d := by
    cases hb : body l with
    | nil => rw [hb] at hp; simp at hp
    | cons c d => exact ⟨c, d, rfl⟩
  have hc0 : (body l)[0] = c := by simp [hb]
  by_cases hn : neg l = true
  · have hl := body_neg hn
    have h48 : c ≠ 48 := fun e => by
      have := form_zero l hp (by rw [hc0, e])
      rw [hf, eq_comm, decide_eq_true_iff] at this
      rw [hl, List.length_cons] at this
      omega
    rw [hb] at hall
    have hg := mag_ge d c (by rw [List.all_cons, Bool.and_eq_true] at hall; exact hall.1) h48
    rw [(val_neg l _ rfl hml hn).1, itoa_neg _ (by rw [hb]; exact hg), hb, dec_of_mag _ c d rfl hall (.inl h48), ← hb]
    exact hl.symm
  · have hl := body_pos (by simpa using hn)
    have hz : c ≠ 48 ∨ d = [] := by
      by_cases e : c = 48
      · right
        have := form_zero l hp (by rw [hc0, e])
        rw [hf, eq_comm, decide_eq_true_iff, ← hl, hb, List.length_cons] at this
        exact List.eq_nil_of_length_eq_zero (by omega)
      · exact .inl e
    have hlt : mag (body l) < 9223372036854775808 := by
      rcases Nat.lt_or_ge (mag (body l)) 9223372036854775808 with h | h
      · exact h
      · rw [(val_edge l _ rfl (by omega) (by simpa using hn)).2] at hv; cases hv
    rw [(val_pos l _ rfl hlt (by simpa using hn)).1, itoa_nonneg, hb]
    rw [hb] at hall
    rw [dec_of_mag _ c d rfl hall hz, ← hb]
    exact hl

/-- What Parse answers hangs together: with no error the text is the number's and it lies in the bounds; else the number is 0; the error is 3 just where the text is no number's. -/
theorem par_back (l : List UInt8) (least most : Int) :
    (parE l least most = 0 → formB l = true ∧ itoa (parN l least most) = l ∧ least ≤ parN l least most ∧ parN l least most ≤ most) ∧ (parE l least most ≠ 0 → parN l least most = 0) ∧
    (formB l = false → parE l least most = 3) ∧ (formB l = true → parE l least most = 0 ∨ parE l least most = 11) := by
  by_cases hf : formB l = true
  · by_cases hr : valB l = false ∨ valN l < least ∨ most < valN l
    · obtain ⟨a, b⟩ := par_range l least most hf hr
      rw [a, b]
      exact ⟨fun h => absurd h (by omega), fun _ => rfl, (fun h => by rw [hf] at h; cases h), fun _ => .inr rfl⟩
    · obtain ⟨a, b⟩ := par_ok l least most hf hr
      rw [a, b]
      refine ⟨fun _ => ⟨hf, itoa_val l hf ?_, ?_, ?_⟩, fun h => absurd rfl h, (fun h => by rw [hf] at h; cases h), fun _ => .inl rfl⟩
      · cases hv : valB l with
        | true => rfl
        | false => exact absurd (.inl hv) hr
      · exact Int.not_lt.1 fun h => hr (.inr (.inl h))
      · exact Int.not_lt.1 fun h => hr (.inr (.inr h))
  · obtain ⟨a, b⟩ := par_form l least most (by simpa using hf)
    rw [a, b]
    exact ⟨fun h => absurd h (by omega), fun _ => rfl, fun _ => rfl, fun h => absurd h hf⟩

theorem parN_bounds (l : List UInt8) (least most : Int) : -9223372036854775808 ≤ parN l least most ∧ parN l least most ≤ 9223372036854775807 := by
  have := valN_bounds l
  unfold parN
  split
  · omega
  · split <;> omega

theorem no_comma (n : Int) : ∀ c ∈ itoa n, c ≠ 44 := by
  have hd : ∀ u, ∀ c ∈ decDigits u, c ≠ 44 := fun u c hc e => by
    have hall := dec_all u
    rw [List.all_eq_true] at hall
    have := (isDig_iff _).1 (hall c hc)
    subst e
    have e : (44 : UInt8).toNat = 44 := rfl
    omega
  unfold itoa
  split
  · intro c hc
    rcases List.mem_cons.1 hc with rfl | hc
    · decide
    · exact hd _ c hc
  · exact hd _

theorem pieces_cons (p r : List UInt8) (h : ∀ c ∈ p, c ≠ 44) : pieces (p ++ 44 :: r) = p :: pieces r := by
  have := pieces_some (p ++ 44 :: r) p.length (by simp) (fun k hk => by
    rw [List.getElem?_append_left hk, List.getElem?_eq_getElem hk]
    simp only [ne_eq, Option.some.injEq]
    exact h _ (List.getElem_mem hk))
  rw [this]
  simp

theorem pieces_rowTo : ∀ (l : List Int), l ≠ [] → pieces (rowTo l) = l.map itoa
  | [], h => absurd rfl h
  | [x], _ => by
    rw [rowTo_one, pieces_none _ (fun k e => ?_)]
    · rfl
    · exact no_comma x 44 (List.mem_of_getElem? e) rfl
  | x :: y :: r, _ => by
    have ih := pieces_rowTo (y :: r) (by simp)
    rw [show rowTo (x :: y :: r) = itoa x ++ 44 :: rowTo (y :: r) from rfl, pieces_cons _ _ (no_comma x), ih]
    rfl

theorem itoa_not_minus (n : Int) : itoa n ≠ [45] := by
  intro e
  have := form_itoa n
  rw [e] at this
  exact absurd this (by decide)

theorem rowTo_not_minus : ∀ (l : List Int), l ≠ [] → rowTo l ≠ [45]
  | [], h => absurd rfl h
  | [x], _ => by rw [rowTo_one]; exact itoa_not_minus x
  | x :: y :: r, _ => by
    intro e
    have h1 := congrArg List.length e
    have h2 : 0 < (itoa x).length := by
      rcases Nat.eq_zero_or_pos (itoa x).length with h | h
      · exact absurd (List.eq_nil_of_length_eq_zero h) (itoa_ne_nil x)
      · exact h
    rw [show rowTo (x :: y :: r) = itoa x ++ 44 :: rowTo (y :: r) from rfl] at h1
    simp at h1
    omega

/-- What a row's text answers, parsed: the row. -/
theorem row_back (l : List Int) (h : Int64s l) (hne : l ≠ []) :
    rowE (-9223372036854775808) 9223372036854775807 (pieces (rowTo l)) = 0 ∧ rowN (-9223372036854775808) 9223372036854775807 (pieces (rowTo l)) = l := by
  rw [pieces_rowTo l hne]
  refine ⟨rowE_ok _ _ _ (fun p hp => ?_), ?_⟩
  · obtain ⟨x, hx, rfl⟩ := List.mem_map.1 hp
    exact (par_itoa x (h x hx).1 (h x hx).2).2
  · unfold rowN
    rw [List.map_map]
    conv => rhs; rw [← List.map_id l]
    apply List.map_congr_left
    intro x hx
    exact (par_itoa x (h x hx).1 (h x hx).2).1

end Go.Proofs.YtgoidhlemmdjgaaDoor
