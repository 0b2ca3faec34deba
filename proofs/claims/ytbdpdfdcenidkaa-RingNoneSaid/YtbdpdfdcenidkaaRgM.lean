/-
  A ring as data: which of the bytes that came lie where in its room. No program here.
-/
import Derived.Test.YtbdpdfdcenidkaaGen
set_option linter.unusedSimpArgs false
set_option linter.unusedVariables false
namespace Go.Proofs.Ytbdpdfdcenidkaa

/-- The last bytes of a text, so many at most. -/
def lastL (l : List UInt8) (n : Nat) : List UInt8 := l.drop (l.length - n)

theorem lastL_length (l : List UInt8) (n : Nat) : (lastL l n).length = min l.length n := by simp only [lastL, List.length_drop]; omega
theorem lastL_nil (n : Nat) : lastL [] n = [] := by simp [lastL]
theorem lastL_zero (l : List UInt8) : lastL l 0 = [] := by simp [lastL]
theorem lastL_all (l : List UInt8) (n : Nat) (h : l.length ≤ n) : lastL l n = l := by simp [lastL, Nat.sub_eq_zero_of_le h]
theorem lastL_lastL (l : List UInt8) (n m : Nat) : lastL (lastL l n) m = lastL l (min n m) := by
  simp only [lastL, List.drop_drop, List.length_drop]
  congr 1
  omega

structure RingM (size : Nat) (s room : List UInt8) (next : Nat) : Prop where
  pos : 1 ≤ size
  len : room.length = min s.length size
  nxt : next = s.length % size
  lies : ∀ j, j < s.length → s.length ≤ j + size → room[j % size]? = s[j]?

theorem RingM.none {size : Nat} (h : 1 ≤ size) : RingM size [] [] 0 :=
  ⟨h, by simp, by simp, fun j hj => by simp at hj⟩

theorem RingM.lt {size next : Nat} {s room : List UInt8} (h : RingM size s room next) : next < size := by
  rw [h.nxt]; exact Nat.mod_lt _ h.pos

theorem RingM.low {size next : Nat} {s room : List UInt8} (h : RingM size s room next) (hs : s.length < size) : next = s.length ∧ room.length = s.length := by
  have := h.len; have := h.nxt
  rw [Nat.mod_eq_of_lt hs] at this
  omega

theorem RingM.full {size next : Nat} {s room : List UInt8} (h : RingM size s room next) (hs : size ≤ s.length) : room.length = size := by
  have := h.len; omega

theorem succ_mod (L size : Nat) (h : 1 ≤ size) : (L + 1) % size = if L % size + 1 = size then 0 else L % size + 1 := by
  have h1 := Nat.mod_lt L h
  have h2 := Nat.div_add_mod L size
  split
  · rename_i e
    rw [show L + 1 = size * (L / size + 1) by rw [Nat.mul_add, Nat.mul_one]; omega, Nat.mul_mod_right]
  · rw [show L + 1 = size * (L / size) + (L % size + 1) by omega, Nat.mul_add_mod, Nat.mod_eq_of_lt (by omega)]

/-- Where the next place is. -/
def nx (size next : Nat) : Nat := if next + 1 = size then 0 else next + 1

theorem RingM.grow {size next : Nat} {s room : List UInt8} (h : RingM size s room next) (hs : s.length < size) (c : UInt8) : RingM size (s ++ [c]) (room ++ [c]) (nx size next) := by
  obtain ⟨e1, e2⟩ := h.low hs
  have hp := h.pos
  refine ⟨hp, by simp; omega, ?_, fun j hj hj2 => ?_⟩
  · rw [List.length_append, List.length_singleton, succ_mod _ _ hp, ← h.nxt]; rfl
  · simp only [List.length_append, List.length_singleton] at hj hj2
    rw [Nat.mod_eq_of_lt (by omega)]
    by_cases hlt : j < s.length
    · have := h.lies j hlt (by omega)
      rw [Nat.mod_eq_of_lt (by omega)] at this
      rw [List.getElem?_append_left (by omega), List.getElem?_append_left hlt, this]
    · obtain rfl : j = s.length := by omega
      rw [List.getElem?_append_right (by omega), List.getElem?_append_right (by omega), e2]

theorem mod_apart {i j size : Nat} (h : i < j) (h2 : j < i + size) : i % size ≠ j % size := by
  intro e
  have hi := Nat.div_add_mod i size
  have hj := Nat.div_add_mod j size
  rcases Nat.lt_or_ge (i / size) (j / size) with hq | hq
  · have := Nat.mul_le_mul_left size (Nat.succ_le_of_lt hq)
    rw [Nat.succ_eq_add_one, Nat.mul_add, Nat.mul_one] at this
    omega
  · have := Nat.mul_le_mul_left size hq
    omega

theorem RingM.turn {size next : Nat} {s room : List UInt8} (h : RingM size s room next) (hs : size ≤ s.length) (c : UInt8) : RingM size (s ++ [c]) (room.set next c) (nx size next) := by
  have hf := h.full hs
  have hp := h.pos
  have hl := h.lt
  refine ⟨hp, by simp; omega, ?_, fun j hj hj2 => ?_⟩
  · rw [List.length_append, List.length_singleton, succ_mod _ _ hp, ← h.nxt]; rfl
  · simp only [List.length_append, List.length_singleton] at hj hj2
    by_cases hlt : j < s.length
    · have hne : next ≠ j % size := fun e => mod_apart hlt (show s.length < j + size by omega) (by rw [← e, h.nxt])
      rw [List.getElem?_set_ne hne, List.getElem?_append_left hlt]
      exact h.lies j hlt (by omega)
    · obtain rfl : j = s.length := by omega
      rw [← h.nxt, List.getElem?_set_self (by omega), List.getElem?_append_right (by omega)]
      simp

/-- What lies at a place of the room, by how often it was gone round in. -/
theorem RingM.place {size next : Nat} {s room : List UInt8} (h : RingM size s room next) (j q r : Nat) (e : j = size * q + r) (hr : r < size) (hj : j < s.length) (hj2 : s.length ≤ j + size) : room[r]? = s[j]? := by
  have := h.lies j hj hj2
  rwa [e, Nat.mul_add_mod, Nat.mod_eq_of_lt hr, ← e] at this

theorem RingM.parts {size next : Nat} {s room : List UInt8} (h : RingM size s room next) : ∃ q, s.length = size * q + next := ⟨s.length / size, by rw [h.nxt]; exact (Nat.div_add_mod _ _).symm⟩

/-- The byte so far ahead of the last one. -/
theorem RingM.back {size next : Nat} {s room : List UInt8} (h : RingM size s room next) (d : Nat) (hd : d < room.length) :
    (d + 1 ≤ next → room[next - 1 - d]? = s[s.length - 1 - d]?) ∧ (next < d + 1 → next + room.length - 1 - d < room.length ∧ room[next + room.length - 1 - d]? = s[s.length - 1 - d]?) := by
  obtain ⟨q, hq⟩ := h.parts
  have hl := h.lt
  have hlen := h.len
  refine ⟨fun h1 => h.place _ q _ (by omega) (by omega) (by omega) (by omega), fun h1 => ?_⟩
  have hs : size ≤ s.length := by
    rcases Nat.lt_or_ge s.length size with h2 | h2
    · have := h.low h2; omega
    · exact h2
  have hf := h.full hs
  refine ⟨by omega, ?_⟩
  obtain ⟨k, rfl⟩ : ∃ k, q = k + 1 := by
    rcases q with _ | k
    · rw [Nat.mul_zero] at hq; omega
    · exact ⟨k, rfl⟩
  rw [Nat.mul_add, Nat.mul_one] at hq
  exact h.place _ k _ (by omega) (by omega) (by omega) (by omega)

/-- The last bytes, where they lie in one piece. -/
theorem RingM.piece {size next : Nat} {s room : List UInt8} (h : RingM size s room next) (n : Nat) (hn : n ≤ room.length) (h1 : n ≤ next) : (room.take next).drop (next - n) = lastL s n := by
  obtain ⟨q, hq⟩ := h.parts
  have hl := h.lt
  have hlen := h.len
  have hnl : next ≤ room.length := by
    rcases Nat.lt_or_ge s.length size with h2 | h2
    · have := h.low h2; omega
    · have := h.full h2; omega
  refine List.ext_getElem? fun i => ?_
  unfold lastL
  rw [List.getElem?_drop, List.getElem?_drop]
  by_cases hi : i < n
  · rw [List.getElem?_take, if_pos (by omega)]
    exact h.place _ q _ (by omega) (by omega) (by omega) (by omega)
  · rw [List.getElem?_eq_none (by rw [List.length_take]; omega), List.getElem?_eq_none (by omega)]

/-- The last bytes, where they lie in two pieces. -/
theorem RingM.pieces {size next : Nat} {s room : List UInt8} (h : RingM size s room next) (n : Nat) (hn : n ≤ room.length) (h1 : next < n) : room.length = size ∧ room.drop (room.length - n + next) ++ room.take next = lastL s n := by
  obtain ⟨q, hq⟩ := h.parts
  have hl := h.lt
  have hlen := h.len
  have hs : size ≤ s.length := by
    rcases Nat.lt_or_ge s.length size with h2 | h2
    · have := h.low h2; omega
    · exact h2
  have hf := h.full hs
  refine ⟨hf, List.ext_getElem? fun i => ?_⟩
  unfold lastL
  rw [List.getElem?_drop]
  obtain ⟨k, rfl⟩ : ∃ k, q = k + 1 := by
    rcases q with _ | k
    · rw [Nat.mul_zero] at hq; omega
    · exact ⟨k, rfl⟩
  rw [Nat.mul_add, Nat.mul_one] at hq
  by_cases hi : i < n - next
  · rw [List.getElem?_append_left (by rw [List.length_drop]; omega), List.getElem?_drop]
    exact h.place _ k _ (by omega) (by omega) (by omega) (by omega)
  · rw [List.getElem?_append_right (by rw [List.length_drop]; omega), List.length_drop, List.getElem?_take]
    by_cases hi2 : i < n
    · rw [if_pos (by omega)]
      exact h.place _ (k + 1) _ (by rw [Nat.mul_add, Nat.mul_one]; omega) (by omega) (by omega) (by omega)
    · rw [if_neg (by omega), List.getElem?_eq_none (by omega)]

theorem RingM.inside {size next : Nat} {s room : List UInt8} (h : RingM size s room next) : next ≤ room.length := by
  have hl := h.lt
  rcases Nat.lt_or_ge s.length size with h2 | h2
  · have := h.low h2; omega
  · have := h.full h2; omega

theorem RingM.kept {size next : Nat} {s room : List UInt8} (h : RingM size s room next) : room.length = (lastL s size).length := by
  rw [lastL_length, h.len]
end Go.Proofs.Ytbdpdfdcenidkaa
