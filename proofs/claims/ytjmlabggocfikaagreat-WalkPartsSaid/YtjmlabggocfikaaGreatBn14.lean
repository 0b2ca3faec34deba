/-
  Texts put together: ChM, ChDg.
-/
import Derived.Test.YtjmlabggocfikaaGreatBn4
set_option linter.unusedSimpArgs false
set_option linter.unusedVariables false
namespace Go.Proofs.YtjmlabggocfikaaGreat

/-- A text in parts of these lengths, and what is left. -/
def cutL : List UInt8 → List Int → List (List UInt8)
  | l, [] => if l.isEmpty then [] else [l]
  | l, n :: r => l.take n.toNat :: cutL (l.drop n.toNat) r
theorem cutL_nil : cutL [] [] = [] := rfl
theorem cutL_rest {l : List UInt8} (h : l ≠ []) : cutL l [] = [l] := by
  cases l with
  | nil => exact absurd rfl h
  | cons _ _ => rfl
theorem cutL_cons (l : List UInt8) (n : Int) (r : List Int) : cutL l (n :: r) = l.take n.toNat :: cutL (l.drop n.toNat) r := by rw [cutL]

theorem cutL_flat : ∀ (l : List UInt8) (ns : List Int), (cutL l ns).flatten = l
  | l, [] => by
    cases l with
    | nil => rfl
    | cons a r => rw [cutL_rest (by simp)]; simp
  | l, n :: r => by rw [cutL_cons, List.flatten_cons, cutL_flat, List.take_append_drop]

/-- How long the parts are. -/
def lensL (ws : List (List UInt8)) : List Int := ws.map fun t => (t.length : Int)
theorem cutL_lens : ∀ (ws : List (List UInt8)), cutL ws.flatten (lensL ws) = ws
  | [] => rfl
  | t :: r => by
    have ih := cutL_lens r
    have e : lensL (t :: r) = (t.length : Int) :: lensL r := rfl
    rw [e, cutL_cons, List.flatten_cons, Int.toNat_natCast, List.take_left, List.drop_left, ih]

/-- In parts of one length. -/
def evL (l : List UInt8) (n : Nat) : List (List UInt8) := cutL l (List.replicate (l.length / n) (n : Int))
theorem evL_nil (n : Nat) : evL [] n = [] := by simp [evL, cutL]
theorem evL_cons {l : List UInt8} {n : Nat} (hn : 1 ≤ n) (h : l ≠ []) : evL l n = l.take n :: evL (l.drop n) n := by
  have hp : 0 < l.length := List.length_pos_iff.2 h
  by_cases hle : n ≤ l.length
  · have e : l.length / n = (l.drop n).length / n + 1 := by
      rw [List.length_drop]
      have : l.length = (l.length - n) + n := by omega
      rw [this, Nat.add_div_right _ (by omega)]
      simp
    show cutL l (List.replicate (l.length / n) (n : Int)) = _
    rw [e, List.replicate_succ, cutL_cons, Int.toNat_natCast]
    rfl
  · have e : l.length / n = 0 := Nat.div_eq_of_lt (by omega)
    have e2 : l.drop n = [] := List.drop_eq_nil_of_le (by omega)
    rw [e2, evL_nil, List.take_of_length_le (by omega)]
    show cutL l (List.replicate (l.length / n) (n : Int)) = _
    rw [e]
    exact cutL_rest h
theorem evL_flat (l : List UInt8) (n : Nat) : (evL l n).flatten = l := cutL_flat _ _
theorem evL_short (n : Nat) (hn : 1 ≤ n) : ∀ (k : Nat) (l : List UInt8), l.length ≤ k → ∀ t ∈ evL l n, t.length ≤ n
  | 0, l, hk, t, ht => by
    obtain rfl : l = [] := List.eq_nil_of_length_eq_zero (by omega)
    rw [evL_nil] at ht
    cases ht
  | k + 1, l, hk, t, ht => by
    by_cases h : l = []
    · subst h
      rw [evL_nil] at ht
      cases ht
    · rw [evL_cons hn h] at ht
      have hp : 0 < l.length := List.length_pos_iff.2 h
      rcases List.mem_cons.1 ht with rfl | ht
      · rw [List.length_take]; omega
      · exact evL_short n hn k _ (by rw [List.length_drop]; omega) t ht

/-- How long the longest one is. -/
def lonL (ws : List (List UInt8)) : Nat := ws.foldl (fun m t => max m t.length) 0
theorem lonL_snoc (ws : List (List UInt8)) (t : List UInt8) : lonL (ws ++ [t]) = max (lonL ws) t.length := by simp [lonL, List.foldl_append]
theorem lonL_le_go (n : Nat) : ∀ (ws : List (List UInt8)) (m : Nat), m ≤ n → (∀ t ∈ ws, t.length ≤ n) → ws.foldl (fun m t => max m t.length) m ≤ n
  | [], m, hm, _ => hm
  | t :: r, m, hm, h => lonL_le_go n r _ (Nat.max_le.2 ⟨hm, h t (by simp)⟩) (fun x hx => h x (by simp [hx]))
theorem lonL_le {ws : List (List UInt8)} {n : Nat} (h : ∀ t ∈ ws, t.length ≤ n) : lonL ws ≤ n := lonL_le_go n ws 0 (Nat.zero_le _) h
theorem lonL_ge_go : ∀ (ws : List (List UInt8)) (m : Nat), m ≤ ws.foldl (fun m t => max m t.length) m ∧ ∀ t ∈ ws, t.length ≤ ws.foldl (fun m t => max m t.length) m
  | [], m => ⟨Nat.le_refl _, by simp⟩
  | t :: r, m => by
    obtain ⟨h1, h2⟩ := lonL_ge_go r (max m t.length)
    refine ⟨Nat.le_trans (Nat.le_max_left _ _) h1, fun x hx => ?_⟩
    rcases List.mem_cons.1 hx with rfl | hx
    · exact Nat.le_trans (Nat.le_max_right _ _) h1
    · exact h2 x hx
theorem lonL_ge {ws : List (List UInt8)} {t : List UInt8} (h : t ∈ ws) : t.length ≤ lonL ws := (lonL_ge_go ws 0).2 t h

/-- How many bytes stand ahead of a part. -/
def ahd (ws : List (List UInt8)) (k : Nat) : Nat := ((ws.take k).map List.length).sum
theorem ahd_zero (ws : List (List UInt8)) : ahd ws 0 = 0 := by simp [ahd]
theorem ahd_succ {ws : List (List UInt8)} {k : Nat} {t : List UInt8} (h : ws[k]? = some t) : ahd ws (k + 1) = ahd ws k + t.length := by
  obtain ⟨hk, rfl⟩ := List.getElem?_eq_some_iff.1 h
  unfold ahd
  rw [List.take_succ_eq_append_getElem hk, List.map_append, List.sum_append]
  simp only [List.map_cons, List.map_nil, List.sum_cons, List.sum_nil, Nat.add_zero]
theorem ahd_most (B : Nat) : ∀ (ws : List (List UInt8)) (k : Nat), (∀ t ∈ ws, t.length ≤ B) → ahd ws k ≤ k * B
  | _, 0, _ => by simp [ahd]
  | [], k + 1, _ => by simp [ahd]
  | t :: r, k + 1, h => by
    have ih := ahd_most B r k (fun x hx => h x (by simp [hx]))
    have h1 := h t (by simp)
    have e : ahd (t :: r) (k + 1) = t.length + ahd r k := by simp [ahd]
    rw [e, Nat.succ_mul]
    omega
theorem flat_ahd (ws : List (List UInt8)) (k : Nat) : (ws.take k).flatten.length = ahd ws k := by simp [ahd, List.length_flatten]

/-- In which part a byte stands, and where there. -/
def whL : List (List UInt8) → Nat → Option (Nat × Nat)
  | [], _ => none
  | t :: r, at_ => if at_ < t.length then some (0, at_) else (whL r (at_ - t.length)).map fun p => (p.1 + 1, p.2)
theorem whL_hit : ∀ (ws : List (List UInt8)) (k at_ : Nat) (t : List UInt8), ws[k]? = some t → ahd ws k ≤ at_ → at_ < ahd ws k + t.length → whL ws at_ = some (k, at_ - ahd ws k)
  | [], k, at_, t, h, _, _ => by simp at h
  | s :: r, 0, at_, t, h, h1, h2 => by
    obtain rfl : s = t := by simpa using h
    rw [ahd_zero] at h2 ⊢
    rw [whL, if_pos (by omega), Nat.sub_zero]
  | s :: r, k + 1, at_, t, h, h1, h2 => by
    have e : ahd (s :: r) (k + 1) = s.length + ahd r k := by simp [ahd]
    rw [e] at h1 h2 ⊢
    rw [whL, if_neg (by omega), whL_hit r k (at_ - s.length) t (by simpa using h) (by omega) (by omega)]
    simp
    omega
theorem whL_none : ∀ (ws : List (List UInt8)) (at_ : Nat), ahd ws ws.length ≤ at_ → whL ws at_ = none
  | [], _, _ => rfl
  | t :: r, at_, h => by
    have e : ahd (t :: r) (r.length + 1) = t.length + ahd r r.length := by simp [ahd]
    rw [List.length_cons, e] at h
    rw [whL, if_neg (by omega), whL_none r _ (by omega)]
    rfl

/-- What one goes through: each part with how many bytes stand ahead of it. -/
def allL (ws : List (List UInt8)) (k : Nat) : Nat × List UInt8 := (ahd ws k, ws[k]?.getD [])
def uptoL (ws : List (List UInt8)) (k : Nat) : List (Nat × List UInt8) := (List.range k).map (allL ws)
theorem uptoL_succ (ws : List (List UInt8)) (k : Nat) : uptoL ws (k + 1) = uptoL ws k ++ [allL ws k] := by simp [uptoL, List.range_succ]
theorem uptoL_length (ws : List (List UInt8)) (k : Nat) : (uptoL ws k).length = k := by simp [uptoL]
end Go.Proofs.YtjmlabggocfikaaGreat

namespace Go.Proofs.YtjmlabggocfikaaGreat

theorem drop_get (zs : List Int) (len k : Nat) (h : k < len) (hz : len ≤ zs.length) : (zs.take len).drop k = zs.getD k 0 :: (zs.take len).drop (k + 1) := by
  have hk : k < (zs.take len).length := by rw [List.length_take]; omega
  rw [List.drop_eq_getElem_cons hk, List.getElem_take, getD_at zs k (by omega)]

end Go.Proofs.YtjmlabggocfikaaGreat
