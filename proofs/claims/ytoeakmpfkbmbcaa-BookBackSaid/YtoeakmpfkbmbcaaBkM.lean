/-
  The bytes of sets, as lists: what is put, what is read. No program here.
-/
import Derived.Test.YtoeakmpfkbmbcaaVarM
import Derived.Test.YtoeakmpfkbmbcaaPtM
set_option linter.unusedSimpArgs false
set_option linter.unusedVariables false
namespace Go.Proofs.Ytoeakmpfkbmbcaa
open Go.Lib

/-- How the bytes of a set begin. -/
def hdB : List UInt8 := [106, 117, 114, 97, 116, 1]
/-- What stands of a text behind another one. -/
def entB (a t : List UInt8) : List UInt8 := vput (preL a t : Int) ++ (vput ((t.length - preL a t : Nat) : Int) ++ t.drop (preL a t))
def restB : List UInt8 → List (List UInt8) → List UInt8
  | _, [] => []
  | a, t :: r => entB a t ++ restB t r
def bookB (ws : List (List UInt8)) : List UInt8 := if ws.length = 0 then [] else hdB ++ (vput (ws.length : Int) ++ restB [] ws)

theorem rest_snoc : ∀ (a : List UInt8) (ws : List (List UInt8)) (k : Nat) {b c : List UInt8}, (a :: ws)[k]? = some b → ws[k]? = some c → restB a (ws.take (k + 1)) = restB a (ws.take k) ++ entB b c
  | a, t :: r, 0, b, c, h1, h2 => by simp at h1 h2; subst h1; subst h2; simp [restB]
  | a, t :: r, k + 1, b, c, h1, h2 => by
    rw [List.getElem?_cons_succ] at h1 h2
    have := rest_snoc t r k h1 h2
    rw [List.take_succ_cons, List.take_succ_cons, restB, restB, this, List.append_assoc]

/-- The last one; of none the empty text. -/
def lastP (L : List (List UInt8)) : List UInt8 := L.getLastD []
theorem last_snoc (L : List (List UInt8)) (t : List UInt8) : lastP (L ++ [t]) = t := by
  unfold lastP
  rw [List.getLastD_eq_getLast?]; simp

/-- What is behind a number. -/
def pastB (s : List UInt8) : List UInt8 := s.drop (tS s).toNat
/-- Why no pattern comes next: of both numbers; of the next byte. -/
def lenE (A B a T left : Int) : Int := if a < A then 3 else if A = 0 ∧ B = 0 then 7 else if B = 0 then 9 else if 65535 - A < B then 5 else if 16777216 < T + A + B then 13 else if left < B then 4 else 0
def nxtE (a : List UInt8) (A : Nat) (s : List UInt8) : Int := if A < a.length then (if s.getD 0 0 = a.getD A 0 then 3 else if s.getD 0 0 < a.getD A 0 then 9 else 0) else 0
def patE (a : List UInt8) (A B : Int) (T : Nat) (s : List UInt8) : Int := if lenE A B a.length T s.length = 0 then nxtE a A.toNat s else lenE A B a.length T s.length
def entE (T : Nat) (a s : List UInt8) : Int := if tE s = 0 then (if tE (pastB s) = 0 then patE a (tN s) (tN (pastB s)) T (pastB (pastB s)) else tE (pastB s)) else tE s
def entP (a s : List UInt8) : List UInt8 := a.take (tN s).toNat ++ (pastB (pastB s)).take (tN (pastB s)).toNat
def entR (s : List UInt8) : List UInt8 := (pastB (pastB s)).drop (tN (pastB s)).toNat

/-- So many patterns are read behind these. -/
def rdB : Nat → List (List UInt8) → List UInt8 → Int × List (List UInt8)
  | 0, L, s => (if s.length = 0 then 0 else 20, L)
  | n + 1, L, s => if entE (totalL L) (lastP L) s = 0 then rdB n (L ++ [entP (lastP L) s]) (entR s) else (entE (totalL L) (lastP L) s, [])
/-- All behind the beginning. -/
def allB (s : List UInt8) : Int × List (List UInt8) :=
  if tE s = 0 then (if tN s = 0 then (14, []) else if 65535 < tN s then (6, []) else rdB (tN s).toNat [] (pastB s)) else (tE s, [])
def tkB (s : List UInt8) : Int × List (List UInt8) := if hasPrefix s hdB = true then allB (s.drop 6) else (15, [])

theorem rdB_succ (n : Nat) (L : List (List UInt8)) (s : List UInt8) : rdB (n + 1) L s = if entE (totalL L) (lastP L) s = 0 then rdB n (L ++ [entP (lastP L) s]) (entR s) else (entE (totalL L) (lastP L) s, []) := rfl

theorem lt_share : ∀ (a b : List UInt8), a < b → preL a b < b.length ∧ (preL a b < a.length → a.getD (preL a b) 0 < b.getD (preL a b) 0)
  | [], [], h => absurd h (List.lt_irrefl _)
  | [], c :: y, _ => by rw [preL_nil]; simp
  | c :: x, [], h => by simp at h
  | c :: x, d :: y, h => by
    rw [preL_cons]
    rw [List.cons_lt_cons_iff] at h
    by_cases e : c = d
    · subst e
      have := lt_share x y (by rcases h with h | h; exact absurd h (by simp); exact h.2)
      rw [if_pos rfl]
      refine ⟨by simpa using this.1, fun h2 => ?_⟩
      have := this.2 (by simpa using h2)
      simpa using this
    · rw [if_neg e]
      have : c < d := by rcases h with h | h; exact h; exact absurd h.1 e
      simpa using this
theorem share_lt : ∀ (a b : List UInt8), preL a b < b.length → (preL a b < a.length → a.getD (preL a b) 0 < b.getD (preL a b) 0) → a < b
  | _, [], h, _ => by simp at h
  | [], c :: y, _, _ => List.nil_lt_cons _ _
  | c :: x, d :: y, h, h2 => by
    rw [preL_cons] at h h2
    rw [List.cons_lt_cons_iff]
    by_cases e : c = d
    · subst e
      rw [if_pos rfl] at h h2
      refine .inr ⟨rfl, share_lt x y (by simpa using h) (fun h3 => ?_)⟩
      have := h2 (by simpa using h3)
      simpa using this
    · rw [if_neg e] at h2
      exact .inl (by simpa using h2 (by simp))

theorem past_put (n : Int) (h0 : 0 ≤ n) (h1 : n ≤ 9223372036854775807) (z : List UInt8) : pastB (vput n ++ z) = z := by
  unfold pastB
  rw [(take_put n h0 h1 z).2.1]; simp

theorem share_cut (a t : List UInt8) : a.take (preL a t) = t.take (preL a t) := by
  induction a generalizing t with
  | nil => rw [preL_nil]; simp
  | cons c x ih =>
    cases t with
    | nil => rw [preL_nil']; simp
    | cons d y =>
      rw [preL_cons]
      by_cases e : c = d
      · subst e; rw [if_pos rfl, List.take_succ_cons, List.take_succ_cons, ih]
      · rw [if_neg e]; simp

theorem getD_drop0 (t : List UInt8) (k : Nat) (z : List UInt8) (h : k < t.length) : (t.drop k ++ z).getD 0 0 = t.getD k 0 := by
  simp only [List.getD]
  rw [List.getElem?_append_left (by rw [List.length_drop]; omega), List.getElem?_drop]; rfl

/-- What is put of a text is taken. -/
theorem ent_put (a t z : List UInt8) (T : Nat) (h : a < t) (hl : t.length ≤ 65535) (hT : T + t.length ≤ 16777216) :
    entE T a (entB a t ++ z) = 0 ∧ entP a (entB a t ++ z) = t ∧ entR (entB a t ++ z) = z := by
  have hle := preL_le a t
  have hs := lt_share a t h
  have e0 : entB a t ++ z = vput (preL a t : Int) ++ (vput ((t.length - preL a t : Nat) : Int) ++ (t.drop (preL a t) ++ z)) := by unfold entB; simp
  have T1 := take_put (preL a t : Int) (by omega) (by omega) (vput ((t.length - preL a t : Nat) : Int) ++ (t.drop (preL a t) ++ z))
  have P1 := past_put (preL a t : Int) (by omega) (by omega) (vput ((t.length - preL a t : Nat) : Int) ++ (t.drop (preL a t) ++ z))
  have T2 := take_put ((t.length - preL a t : Nat) : Int) (by omega) (by omega) (t.drop (preL a t) ++ z)
  have P2 := past_put ((t.length - preL a t : Nat) : Int) (by omega) (by omega) (t.drop (preL a t) ++ z)
  have hd : (t.drop (preL a t)).length = t.length - preL a t := List.length_drop
  rw [e0]
  refine ⟨?_, ?_, ?_⟩
  · unfold entE
    rw [P1, P2, T1.2.2, T2.2.2, T1.1, T2.1, if_pos rfl, if_pos rfl]
    have hL : lenE (preL a t : Int) ((t.length - preL a t : Nat) : Int) a.length T (t.drop (preL a t) ++ z).length = 0 := by
      unfold lenE
      rw [List.length_append, hd]
      rw [if_neg (by omega), if_neg (by omega), if_neg (by omega), if_neg (by omega), if_neg (by omega), if_neg (by omega)]
    unfold patE nxtE
    rw [hL, if_pos rfl, Int.toNat_natCast, getD_drop0 t _ z hs.1]
    by_cases hc : preL a t < a.length
    · have hlt := hs.2 hc
      rw [if_pos hc, if_neg (fun e => by rw [e] at hlt; exact absurd hlt (by simp)), if_neg (UInt8.not_lt.2 (UInt8.le_of_lt hlt))]
    · rw [if_neg hc]
  · unfold entP
    rw [P1, P2, T1.1, T2.1, Int.toNat_natCast, Int.toNat_natCast, share_cut, List.take_append_of_le_length (by omega), List.take_of_length_le (l := t.drop (preL a t)) (by omega), List.take_append_drop]
  · unfold entR
    rw [P1, P2, T2.1, Int.toNat_natCast, List.drop_append_of_le_length (by omega), List.drop_of_length_le (l := t.drop (preL a t)) (by omega), List.nil_append]

theorem vput_cut (n : Int) (h0 : 0 ≤ n) (h1 : n ≤ 9223372036854775807) (j : Nat) (hj : j < (vput n).length) : tE ((vput n).take j) = 4 := by
  have hlen := vput_length n h1
  unfold vput at hj hlen ⊢
  rw [if_neg (by omega)] at hj hlen ⊢
  obtain ⟨p, c, e, ⟨hp, hc, hz⟩, hv⟩ := put_form n.toNat
  rw [e] at hj hlen ⊢
  rw [List.length_append, List.length_singleton] at hj hlen
  have e2 : (p ++ [c]).take j = p.take j := List.take_append_of_le_length (by omega)
  have hl : (p.take j).length = j := by rw [List.length_take]; omega
  have hge : j ≤ hi (p.take j) := hi_ge _ _ (by omega) (fun i hi _ => by
    rw [List.getElem_take]
    exact hp _ (List.getElem_mem _))
  have hle := hi_le (p.take j)
  rw [e2]
  exact (t_short (p.take j) (by omega) (by omega)).1

/-- Of what is cut off less is there than is told. -/
theorem ent_cut (a t : List UInt8) (T j : Nat) (h : a < t) (hl : t.length ≤ 65535) (hT : T + t.length ≤ 16777216) (hj : j < (entB a t).length) : entE T a ((entB a t).take j) = 4 := by
  have hle := preL_le a t
  have hs := lt_share a t h
  have hd : (t.drop (preL a t)).length = t.length - preL a t := List.length_drop
  have e0 : entB a t = vput (preL a t : Int) ++ (vput ((t.length - preL a t : Nat) : Int) ++ t.drop (preL a t)) := rfl
  rw [e0] at hj ⊢
  rw [List.length_append, List.length_append] at hj
  by_cases h1 : j < (vput (preL a t : Int)).length
  · rw [List.take_append_of_le_length (by omega)]
    have := vput_cut (preL a t : Int) (by omega) (by omega) j h1
    unfold entE
    rw [this]; rfl
  · rw [List.take_append, List.take_of_length_le (l := vput (preL a t : Int)) (by omega)]
    obtain ⟨j2, hj2⟩ : ∃ j2, j - (vput (preL a t : Int)).length = j2 := ⟨_, rfl⟩
    rw [hj2]
    have T1 := take_put (preL a t : Int) (by omega) (by omega) ((vput ((t.length - preL a t : Nat) : Int) ++ t.drop (preL a t)).take j2)
    have P1 := past_put (preL a t : Int) (by omega) (by omega) ((vput ((t.length - preL a t : Nat) : Int) ++ t.drop (preL a t)).take j2)
    unfold entE
    rw [P1, T1.2.2, T1.1, if_pos rfl]
    by_cases h2 : j2 < (vput ((t.length - preL a t : Nat) : Int)).length
    · rw [List.take_append_of_le_length (by omega)]
      have := vput_cut ((t.length - preL a t : Nat) : Int) (by omega) (by omega) j2 h2
      rw [this]; rfl
    · rw [List.take_append, List.take_of_length_le (l := vput ((t.length - preL a t : Nat) : Int)) (by omega)]
      obtain ⟨j3, hj3⟩ : ∃ j3, j2 - (vput ((t.length - preL a t : Nat) : Int)).length = j3 := ⟨_, rfl⟩
      rw [hj3]
      have T2 := take_put ((t.length - preL a t : Nat) : Int) (by omega) (by omega) ((t.drop (preL a t)).take j3)
      have P2 := past_put ((t.length - preL a t : Nat) : Int) (by omega) (by omega) ((t.drop (preL a t)).take j3)
      rw [P2, T2.2.2, T2.1, if_pos rfl]
      have hL : lenE (preL a t : Int) ((t.length - preL a t : Nat) : Int) a.length T ((t.drop (preL a t)).take j3).length = 4 := by
        unfold lenE
        rw [List.length_take, hd]
        rw [if_neg (by omega), if_neg (by omega), if_neg (by omega), if_neg (by omega), if_neg (by omega), if_pos (by omega)]
      unfold patE
      rw [hL]; rfl

/-- Texts in order, each once, that are patterns, and few bytes in all. -/
structure Grow (L : List (List UInt8)) : Prop where
  each : ∀ t ∈ L, 1 ≤ t.length ∧ t.length ≤ 65535
  total : totalL L ≤ 16777216
  rise : L.Pairwise (· < ·)

theorem Grow.nil : Grow [] := ⟨by simp, by simp [totalL], List.Pairwise.nil⟩
theorem Grow.of {ws : List (List UInt8)} (h : Pats ws) (ha : Asc ws) : Grow ws := by
  refine ⟨h.each, h.total, ?_⟩
  refine (ha.and h.once).imp ?_
  intro x y hxy
  have h1 := (cmp_le x y).1 hxy.1
  exact Classical.byContradiction fun hh => hxy.2 (List.le_antisymm h1 (List.not_lt.1 hh))
theorem Grow.asc {ws : List (List UInt8)} (h : Grow ws) : Asc ws := h.rise.imp fun {x y} hxy => by
  have := (cmp_neg x y).2 hxy
  omega
theorem Grow.pats {ws : List (List UInt8)} (h : Grow ws) (h1 : 1 ≤ ws.length) (h2 : ws.length ≤ 65535) : Pats ws :=
  ⟨h1, h2, h.each, h.total, h.rise.imp fun {x y} hxy e => by subst e; exact List.lt_irrefl _ hxy⟩
theorem Grow.append {L R : List (List UInt8)} (h : Grow (L ++ R)) : Grow L := by
  refine ⟨fun t ht => h.each t (List.mem_append_left _ ht), ?_, (List.pairwise_append.1 h.rise).1⟩
  have := h.total
  rw [total_append] at this
  omega
theorem last_lt {L : List (List UInt8)} {t : List UInt8} (h : Grow (L ++ [t])) : lastP L < t := by
  have h2 := (List.pairwise_append.1 h.rise).2.2
  by_cases e : L = []
  · subst e
    have := (h.each t (by simp)).1
    cases t with
    | nil => simp at this
    | cons c r => exact List.nil_lt_cons _ _
  · have e2 : lastP L = L.getLast e := by unfold lastP; rw [List.getLastD_eq_getLast?, List.getLast?_eq_some_getLast e]; rfl
    rw [e2]
    exact h2 _ (List.getLast_mem e) t (by simp)
theorem Grow.snoc {L : List (List UInt8)} {t : List UInt8} (h : Grow L) (h1 : 1 ≤ t.length) (h2 : t.length ≤ 65535) (h3 : totalL L + t.length ≤ 16777216) (h4 : lastP L < t) : Grow (L ++ [t]) := by
  refine ⟨fun u hu => ?_, ?_, List.pairwise_append.2 ⟨h.rise, List.pairwise_singleton _ _, fun x hx y hy => ?_⟩⟩
  · rcases List.mem_append.1 hu with hu | hu
    · exact h.each u hu
    · rw [List.mem_singleton.1 hu]; exact ⟨h1, h2⟩
  · rw [total_append, total_cons]
    simp only [totalL, List.foldl_nil] at h3 ⊢
    omega
  · rw [List.mem_singleton.1 hy]
    have e : L ≠ [] := List.ne_nil_of_mem hx
    have e2 : lastP L = L.getLast e := by unfold lastP; rw [List.getLastD_eq_getLast?, List.getLast?_eq_some_getLast e]; rfl
    rw [e2] at h4
    have hL := List.dropLast_concat_getLast e
    have hr := h.rise
    rw [← hL] at hx hr
    rcases List.mem_append.1 hx with hx | hx
    · exact List.lt_trans ((List.pairwise_append.1 hr).2.2 x hx _ (by simp)) h4
    · rw [List.mem_singleton.1 hx]; exact h4

theorem rd_put : ∀ (u L : List (List UInt8)) (z : List UInt8), Grow (L ++ u) → rdB u.length L (restB (lastP L) u ++ z) = rdB 0 (L ++ u) z
  | [], L, z, _ => by simp [restB]
  | t :: r, L, z, h => by
    have hc : L ++ t :: r = L ++ [t] ++ r := by simp
    rw [hc] at h
    have h1 := h.append
    have ht := h1.each t (by simp)
    have hT := h1.total
    rw [total_append, total_cons] at hT
    obtain ⟨e1, e2, e3⟩ := ent_put (lastP L) t (restB t r ++ z) (totalL L) (last_lt h1) ht.2 (by omega)
    have ih := rd_put r (L ++ [t]) z h
    rw [last_snoc] at ih
    rw [restB, List.append_assoc, List.length_cons, rdB_succ, e1, e2, e3, if_pos rfl, ih, hc]
theorem rd_cut : ∀ (u L : List (List UInt8)) (j : Nat), Grow (L ++ u) → j < (restB (lastP L) u).length → (rdB u.length L ((restB (lastP L) u).take j)).1 = 4
  | [], L, j, _, hj => by simp [restB] at hj
  | t :: r, L, j, h, hj => by
    have hc : L ++ t :: r = L ++ [t] ++ r := by simp
    rw [hc] at h
    have h1 := h.append
    have ht := h1.each t (by simp)
    have hT := h1.total
    rw [total_append, total_cons] at hT
    rw [restB] at hj ⊢
    rw [List.length_append] at hj
    rw [List.length_cons, rdB_succ]
    by_cases h2 : j < (entB (lastP L) t).length
    · have e := ent_cut (lastP L) t (totalL L) j (last_lt h1) ht.2 (by omega) h2
      rw [List.take_append_of_le_length (by omega), e]; rfl
    · rw [List.take_append, List.take_of_length_le (l := entB (lastP L) t) (by omega)]
      obtain ⟨e1, e2, e3⟩ := ent_put (lastP L) t ((restB t r).take (j - (entB (lastP L) t).length)) (totalL L) (last_lt h1) ht.2 (by omega)
      have ih := rd_cut r (L ++ [t]) (j - (entB (lastP L) t).length) h (by rw [last_snoc]; omega)
      rw [last_snoc] at ih
      rw [e1, e2, e3, if_pos rfl]
      exact ih

/-- What is taken of bytes is put. -/
theorem ent_take (a s : List UInt8) (T : Nat) (h : entE T a s = 0) :
    a < entP a s ∧ 1 ≤ (entP a s).length ∧ (entP a s).length ≤ 65535 ∧ T + (entP a s).length ≤ 16777216 ∧ entB a (entP a s) ++ entR s = s := by
  unfold entE at h
  by_cases h1 : tE s = 0
  · rw [if_pos h1] at h
    by_cases h2 : tE (pastB s) = 0
    · rw [if_pos h2] at h
      obtain ⟨p1, q1, r1⟩ := put_take s h1
      obtain ⟨p2, q2, r2⟩ := put_take (pastB s) h2
      have b1 := tN_bounds s
      have b2 := tN_bounds (pastB s)
      have f1 : vput (tN s) ++ pastB s = s := by unfold pastB; rw [r1, List.take_append_drop]
      have f2 : vput (tN (pastB s)) ++ pastB (pastB s) = pastB s := by rw [r2]; unfold pastB; rw [List.take_append_drop]
      unfold entP entR
      generalize pastB (pastB s) = v at h f2 ⊢
      generalize tN (pastB s) = B at h f2 b2 ⊢
      generalize pastB s = s1 at f1 f2
      generalize tN s = A at h f1 b1 ⊢
      clear p1 q1 r1 p2 q2 r2 h1 h2
      obtain ⟨A, rfl⟩ := Int.eq_ofNat_of_zero_le b1.1
      obtain ⟨B, rfl⟩ := Int.eq_ofNat_of_zero_le b2.1
      rw [Int.toNat_natCast, Int.toNat_natCast]
      unfold patE at h
      have hL : lenE (A : Int) (B : Int) a.length T v.length = 0 := Classical.byContradiction fun hh => hh (by rwa [if_neg hh] at h)
      rw [hL, if_pos rfl, Int.toNat_natCast] at h
      have hb : A ≤ a.length ∧ 1 ≤ B ∧ A + B ≤ 65535 ∧ T + A + B ≤ 16777216 ∧ B ≤ v.length := by
        unfold lenE at hL
        (repeat' split at hL) <;> omega
      obtain ⟨g1, g2, g3, g4, g5⟩ := hb
      have la : (a.take A).length = A := by rw [List.length_take]; omega
      have lv : (v.take B).length = B := by rw [List.length_take]; omega
      have lp : (a.take A ++ v.take B).length = A + B := by rw [List.length_append, la, lv]
      have hn : ∀ i, i < A → a[i]? = (a.take A ++ v.take B)[i]? := fun i hi => by
        rw [List.getElem?_append_left (by omega), List.getElem?_take_of_lt hi]
      have hv0 : (a.take A ++ v.take B).getD A 0 = v.getD 0 0 := by
        simp only [List.getD]
        rw [List.getElem?_append_right (by omega), la, Nat.sub_self, List.getElem?_take_of_lt (by omega)]
      have hnx : A < a.length → a.getD A 0 < (a.take A ++ v.take B).getD A 0 := fun hA => by
        unfold nxtE at h
        rw [if_pos hA] at h
        rw [hv0]
        by_cases e1 : v.getD 0 0 = a.getD A 0
        · rw [if_pos e1] at h; omega
        · rw [if_neg e1] at h
          by_cases e2 : v.getD 0 0 < a.getD A 0
          · rw [if_pos e2] at h; omega
          · have := UInt8.not_lt.1 e2
            exact Classical.byContradiction fun hh => e1 (UInt8.le_antisymm (UInt8.not_lt.1 hh) this)
      have hP : preL a (a.take A ++ v.take B) = A := by
        refine preL_is a _ A g1 (by omega) hn ?_
        by_cases hA : A < a.length
        · right; right
          have := hnx hA
          intro e
          simp only [List.getD] at this
          rw [e] at this
          exact absurd this (by simp)
        · left; omega
      refine ⟨share_lt _ _ (by rw [hP]; omega) (by rw [hP]; exact hnx), by omega, by omega, by omega, ?_⟩
      unfold entB
      rw [hP, lp, List.drop_append_of_le_length (by omega), List.drop_of_length_le (l := a.take A) (by omega), List.nil_append, show A + B - A = B by omega, List.append_assoc, List.append_assoc, List.take_append_drop, f2, f1]
    · rw [if_neg h2] at h; exact absurd h h2
  · rw [if_neg h1] at h; exact absurd h h1

theorem rd_back : ∀ (n : Nat) (L : List (List UInt8)) (s : List UInt8) (L' : List (List UInt8)), Grow L → rdB n L s = (0, L') → ∃ u, L' = L ++ u ∧ u.length = n ∧ Grow L' ∧ restB (lastP L) u = s
  | 0, L, s, L', hg, h => by
    rw [rdB] at h
    have h1 := (Prod.mk.inj h).1
    have h2 := (Prod.mk.inj h).2
    have hs : s.length = 0 := Classical.byContradiction fun hh => by rw [if_neg hh] at h1; omega
    refine ⟨[], by rw [← h2]; simp, rfl, by rw [← h2]; exact hg, ?_⟩
    rw [List.eq_nil_of_length_eq_zero hs]; rfl
  | n + 1, L, s, L', hg, h => by
    rw [rdB_succ] at h
    by_cases he : entE (totalL L) (lastP L) s = 0
    · rw [if_pos he] at h
      obtain ⟨a1, a2, a3, a4, a5⟩ := ent_take _ _ _ he
      obtain ⟨u, e1, e2, e3, e4⟩ := rd_back n _ _ L' (hg.snoc a2 a3 a4 a1) h
      rw [last_snoc] at e4
      refine ⟨entP (lastP L) s :: u, by rw [e1]; simp, by rw [List.length_cons, e2], e3, ?_⟩
      rw [restB, e4, a5]
    · rw [if_neg he] at h
      exact absurd (Prod.mk.inj h).1 he

theorem tk_some {u : List (List UInt8)} (h : Pats u) (z : List UInt8) : tkB (bookB u ++ z) = rdB u.length [] (restB [] u ++ z) := by
  have h1 := h.some
  have h2 := h.few
  have e : bookB u ++ z = hdB ++ (vput (u.length : Int) ++ (restB [] u ++ z)) := by unfold bookB; rw [if_neg (by omega)]; simp
  rw [e]
  have e2 : hasPrefix (hdB ++ (vput (u.length : Int) ++ (restB [] u ++ z))) hdB = true := by
    simp only [hasPrefix, List.isPrefixOf_iff_prefix]; exact List.prefix_append _ _
  have T1 := take_put (u.length : Int) (by omega) (by omega) (restB [] u ++ z)
  have P1 := past_put (u.length : Int) (by omega) (by omega) (restB [] u ++ z)
  unfold tkB
  rw [if_pos e2, List.drop_append_of_le_length (by decide), show hdB.drop 6 = [] from rfl, List.nil_append]
  unfold allB
  rw [T1.2.2, T1.1, P1, if_pos rfl, if_neg (by omega), if_neg (by omega), Int.toNat_natCast]
theorem tk_put {u : List (List UInt8)} (h : Pats u) (ha : Asc u) (z : List UInt8) : tkB (bookB u ++ z) = (if z.length = 0 then 0 else 20, u) := by
  rw [tk_some h z]
  exact rd_put u [] z (Grow.of h ha)
theorem tk_cut {u : List (List UInt8)} (h : Pats u) (ha : Asc u) (j : Nat) (hj : j < (bookB u).length) : (tkB ((bookB u).take j)).1 = 15 ∨ (tkB ((bookB u).take j)).1 = 4 := by
  have h1 := h.some
  have h2 := h.few
  have e : bookB u = hdB ++ (vput (u.length : Int) ++ restB [] u) := by unfold bookB; rw [if_neg (by omega)]
  rw [e] at hj ⊢
  rw [List.length_append, List.length_append, show hdB.length = 6 from rfl] at hj
  by_cases h6 : j < 6
  · left
    have : hasPrefix ((hdB ++ (vput (u.length : Int) ++ restB [] u)).take j) hdB = false := by
      rw [Bool.eq_false_iff]
      intro hh
      simp only [hasPrefix, List.isPrefixOf_iff_prefix] at hh
      have := hh.length_le
      rw [List.length_take, show hdB.length = 6 from rfl] at this
      omega
    unfold tkB
    rw [this]; rfl
  · right
    rw [List.take_append, List.take_of_length_le (l := hdB) (by rw [show hdB.length = 6 from rfl]; omega), show hdB.length = 6 from rfl]
    obtain ⟨i, hi⟩ : ∃ i, j - 6 = i := ⟨_, rfl⟩
    rw [hi]
    have e2 : hasPrefix (hdB ++ (vput (u.length : Int) ++ restB [] u).take i) hdB = true := by
      simp only [hasPrefix, List.isPrefixOf_iff_prefix]; exact List.prefix_append _ _
    unfold tkB
    rw [if_pos e2, List.drop_append_of_le_length (by decide), show hdB.drop 6 = [] from rfl, List.nil_append]
    unfold allB
    by_cases h3 : i < (vput (u.length : Int)).length
    · rw [List.take_append_of_le_length (by omega), vput_cut (u.length : Int) (by omega) (by omega) i h3]; rfl
    · rw [List.take_append, List.take_of_length_le (l := vput (u.length : Int)) (by omega)]
      have T1 := take_put (u.length : Int) (by omega) (by omega) ((restB [] u).take (i - (vput (u.length : Int)).length))
      have P1 := past_put (u.length : Int) (by omega) (by omega) ((restB [] u).take (i - (vput (u.length : Int)).length))
      rw [T1.2.2, T1.1, P1, if_pos rfl, if_neg (by omega), if_neg (by omega), Int.toNat_natCast]
      exact rd_cut u [] _ (Grow.of h ha) (by show _ < (restB [] u).length; omega)
theorem all_back {s : List UInt8} {L : List (List UInt8)} (h : allB s = (0, L)) : Pats L ∧ Asc L ∧ vput (L.length : Int) ++ restB [] L = s := by
  unfold allB at h
  by_cases h1 : tE s = 0
  · rw [if_pos h1] at h
    by_cases h2 : tN s = 0
    · rw [if_pos h2] at h; exact absurd (Prod.mk.inj h).1 (by decide)
    · rw [if_neg h2] at h
      by_cases h3 : 65535 < tN s
      · rw [if_pos h3] at h; exact absurd (Prod.mk.inj h).1 (by decide)
      · rw [if_neg h3] at h
        have b1 := tN_bounds s
        obtain ⟨p1, q1, r1⟩ := put_take s h1
        obtain ⟨u, e1, e2, e3, e4⟩ := rd_back _ [] _ L Grow.nil h
        obtain rfl : L = u := by rw [e1]; rfl
        refine ⟨e3.pats (by omega) (by omega), e3.asc, ?_⟩
        rw [show restB [] L = pastB s from e4, e2, Int.toNat_of_nonneg b1.1, r1]
        unfold pastB
        rw [List.take_append_drop]
  · rw [if_neg h1] at h
    exact absurd (Prod.mk.inj h).1 h1
theorem tk_back {s : List UInt8} {L : List (List UInt8)} (h : tkB s = (0, L)) : Pats L ∧ Asc L ∧ bookB L = s := by
  unfold tkB at h
  by_cases hp : hasPrefix s hdB = true
  · rw [if_pos hp] at h
    obtain ⟨h1, h2, h3⟩ := all_back h
    refine ⟨h1, h2, ?_⟩
    unfold bookB
    rw [if_neg (by have := h1.some; omega), h3]
    simp only [hasPrefix, List.isPrefixOf_iff_prefix] at hp
    obtain ⟨r, rfl⟩ := hp
    rw [List.drop_append_of_le_length (by decide)]; rfl
  · rw [if_neg hp] at h
    exact absurd (Prod.mk.inj h).1 (by decide)
theorem ent_len (a t : List UInt8) (ht : t.length ≤ 65535) : (entB a t).length ≤ 18 + t.length := by
  have hle := preL_le a t
  have h1 := vput_length (preL a t : Int) (by omega)
  have h2 := vput_length ((t.length - preL a t : Nat) : Int) (by omega)
  unfold entB
  rw [List.length_append, List.length_append, List.length_drop]
  omega
theorem rest_len : ∀ (a : List UInt8) (ws : List (List UInt8)), (∀ t ∈ ws, t.length ≤ 65535) → (restB a ws).length ≤ 18 * ws.length + totalL ws
  | a, [], _ => by simp [restB]
  | a, t :: r, h => by
    have h1 := ent_len a t (h t (by simp))
    have h2 := rest_len t r (fun u hu => h u (List.mem_cons_of_mem _ hu))
    rw [restB, List.length_append, List.length_cons, total_cons]
    omega
end Go.Proofs.Ytoeakmpfkbmbcaa
