/-
  Plain facts on frames: a kind, a length, a body; what Put, Join, Take and Split answer. No program here.
-/
import Derived.Test.YtjmaccflnfaiiaaVarM
import Derived.Lib.Strings
set_option linter.unusedSimpArgs false
set_option linter.unusedVariables false
namespace Go.Proofs.Ytjmaccflnfaiiaa
open Go.Lib

/-- A frame: its kind, its body. -/
abbrev Fr := Int × ByteArray

/-- Why a frame has no bytes, or 0. -/
def frE (f : Fr) : Int := if f.1 < 1 then 2 else if 127 < f.1 then 2 else if 67108864 < f.2.size then 5 else 0
/-- Its bytes. -/
def frB (f : Fr) : List UInt8 := vb f.1 :: (vput (f.2.size : Int) ++ f.2.data.toList)
/-- What Put answers. -/
def putB (f : Fr) : List UInt8 := if frE f = 0 then frB f else []

theorem frE_low (f : Fr) (h : f.1 < 1) : frE f = 2 := by unfold frE; rw [if_pos h]
theorem frE_high (f : Fr) (h0 : ¬ f.1 < 1) (h : 127 < f.1) : frE f = 2 := by unfold frE; rw [if_neg h0, if_pos h]
theorem frE_long (f : Fr) (h0 : ¬ f.1 < 1) (h1 : ¬ 127 < f.1) (h : 67108864 < f.2.size) : frE f = 5 := by unfold frE; rw [if_neg h0, if_neg h1, if_pos h]
theorem frE_ok (f : Fr) (h0 : ¬ f.1 < 1) (h1 : ¬ 127 < f.1) (h : ¬ 67108864 < f.2.size) : frE f = 0 := by unfold frE; rw [if_neg h0, if_neg h1, if_neg h]
theorem frE_parts (f : Fr) (h : frE f = 0) : 1 ≤ f.1 ∧ f.1 ≤ 127 ∧ f.2.size ≤ 67108864 := by
  by_cases h0 : f.1 < 1
  · rw [frE_low f h0] at h; omega
  by_cases h1 : 127 < f.1
  · rw [frE_high f h0 h1] at h; omega
  by_cases h2 : 67108864 < f.2.size
  · rw [frE_long f h0 h1 h2] at h; omega
  omega

theorem frB_length (f : Fr) (h : frE f = 0) : (frB f).length ≤ f.2.size + 10 := by
  obtain ⟨_, _, h2⟩ := frE_parts f h
  have := vput_length (f.2.size : Int) (by omega)
  have := Lib.size_eq f.2
  unfold frB
  rw [List.length_cons, List.length_append]
  omega

/-- The first error. -/
def joinE : List Fr → Int
  | [] => 0
  | f :: r => if frE f = 0 then joinE r else frE f
/-- All bytes. -/
def frs : List Fr → List UInt8
  | [] => []
  | f :: r => frB f ++ frs r
def joinB (l : List Fr) : List UInt8 := if joinE l = 0 then frs l else []

theorem joinE_all : ∀ (l : List Fr), joinE l = 0 → ∀ f ∈ l, frE f = 0
  | [], _, f, hf => by simp at hf
  | g :: r, h, f, hf => by
    by_cases hg : frE g = 0
    · simp only [joinE, if_pos hg] at h
      rcases List.mem_cons.1 hf with rfl | hf
      · exact hg
      · exact joinE_all r h f hf
    · simp only [joinE, if_neg hg] at h; exact absurd h hg

theorem joinE_of : ∀ (l : List Fr), (∀ f ∈ l, frE f = 0) → joinE l = 0
  | [], _ => rfl
  | g :: r, h => by
    simp only [joinE, if_pos (h g (by simp))]
    exact joinE_of r fun f hf => h f (by simp [hf])

theorem joinE_step (l : List Fr) (k : Nat) (hk : k < l.length) (h : joinE (l.take k) = 0) (he : frE l[k] = 0) : joinE (l.take (k + 1)) = 0 := by
  refine joinE_of _ fun f hf => ?_
  rw [List.take_succ_eq_append_getElem hk, List.mem_append] at hf
  rcases hf with hf | hf
  · exact joinE_all _ h f hf
  · simp at hf; rw [hf]; exact he

theorem joinE_hit : ∀ (l : List Fr) (k : Nat) (hk : k < l.length), joinE (l.take k) = 0 → frE l[k] ≠ 0 → joinE l = frE l[k]
  | g :: r, 0, _, _, he => by simp only [List.getElem_cons_zero] at he ⊢; simp only [joinE, if_neg he]
  | g :: r, k + 1, hk, h, he => by
    simp only [List.take_succ_cons] at h
    have hg : frE g = 0 := joinE_all _ h g (by simp)
    simp only [joinE, if_pos hg] at h ⊢
    simp only [List.getElem_cons_succ] at he ⊢
    exact joinE_hit r k (by simpa using hk) h he

theorem frs_append (a b : List Fr) : frs (a ++ b) = frs a ++ frs b := by
  induction a with
  | nil => rfl
  | cons f r ih => simp [frs, ih]

theorem frs_step (l : List Fr) (k : Nat) (hk : k < l.length) : frs (l.take (k + 1)) = frs (l.take k) ++ frB l[k] := by
  rw [List.take_succ_eq_append_getElem hk, frs_append]
  simp [frs]

/-- Few frames, of few bytes. -/
def Few (l : List Fr) : Prop := l.length ≤ 20 ∧ ∀ f ∈ l, f.2.size ≤ 500

theorem frs_length (l : List Fr) (n : Nat) (h : ∀ f ∈ l, f.2.size ≤ n) (he : ∀ f ∈ l, frE f = 0) : (frs l).length ≤ (n + 10) * l.length := by
  induction l with
  | nil => simp [frs]
  | cons f r ih =>
    have h1 := frB_length f (he f (by simp))
    have h2 := h f (by simp)
    have h3 := ih (fun g hg => h g (by simp [hg])) (fun g hg => he g (by simp [hg]))
    simp only [frs, List.length_append, List.length_cons, Nat.mul_succ]
    omega

/-- What Take answers: the error, the size, the kind, the body. -/
def tkE : List UInt8 → Int
  | [] => 4
  | c :: r => if c.toNat < 1 then 3 else if 127 < c.toNat then 3 else if tE r ≠ 0 then tE r else if 67108864 < tN r then 5 else if (r.length : Int) - tS r < tN r then 4 else 0
def tkS (l : List UInt8) : Int := if tkE l = 0 then 1 + tS l.tail + tN l.tail else 0
def tkK (l : List UInt8) : Int := if tkE l = 0 then ((l.headD 0).toNat : Int) else 0
def tkB (l : List UInt8) : ByteArray := if tkE l = 0 then (⟨l.toArray⟩ : ByteArray).extract (1 + tS l.tail).toNat (1 + tS l.tail + tN l.tail).toNat else ByteArray.empty
def tkF (l : List UInt8) : Fr := (tkK l, tkB l)

theorem tk_bad (l : List UInt8) (x : Int) (h : tkE l = x) (hx : x ≠ 0) : tkE l = x ∧ tkS l = 0 ∧ tkK l = 0 ∧ tkB l = ByteArray.empty := by
  subst h
  exact ⟨rfl, by unfold tkS; rw [if_neg hx], by unfold tkK; rw [if_neg hx], by unfold tkB; rw [if_neg hx]⟩

theorem tk_nil : tkE [] = 4 := rfl
theorem tk_low (c : UInt8) (r : List UInt8) (h : c.toNat < 1) : tkE (c :: r) = 3 := by simp only [tkE]; rw [if_pos h]
theorem tk_high (c : UInt8) (r : List UInt8) (h0 : ¬ c.toNat < 1) (h : 127 < c.toNat) : tkE (c :: r) = 3 := by simp only [tkE]; rw [if_neg h0, if_pos h]
theorem tk_num (c : UInt8) (r : List UInt8) (h0 : ¬ c.toNat < 1) (h1 : ¬ 127 < c.toNat) (h : tE r ≠ 0) : tkE (c :: r) = tE r := by
  simp only [tkE]; rw [if_neg h0, if_neg h1, if_pos h]
theorem tk_long (c : UInt8) (r : List UInt8) (h0 : ¬ c.toNat < 1) (h1 : ¬ 127 < c.toNat) (h : tE r = 0) (h2 : 67108864 < tN r) : tkE (c :: r) = 5 := by
  simp only [tkE]; rw [if_neg h0, if_neg h1, if_neg (by simp [h]), if_pos h2]
theorem tk_short (c : UInt8) (r : List UInt8) (h0 : ¬ c.toNat < 1) (h1 : ¬ 127 < c.toNat) (h : tE r = 0) (h2 : ¬ 67108864 < tN r) (h3 : (r.length : Int) - tS r < tN r) : tkE (c :: r) = 4 := by
  simp only [tkE]; rw [if_neg h0, if_neg h1, if_neg (by simp [h]), if_neg h2, if_pos h3]
theorem tk_good (c : UInt8) (r : List UInt8) (h0 : ¬ c.toNat < 1) (h1 : ¬ 127 < c.toNat) (h : tE r = 0) (h2 : ¬ 67108864 < tN r) (h3 : ¬ (r.length : Int) - tS r < tN r) :
    tkE (c :: r) = 0 ∧ tkS (c :: r) = 1 + tS r + tN r ∧ tkK (c :: r) = (c.toNat : Int) ∧ tkB (c :: r) = (⟨(c :: r).toArray⟩ : ByteArray).extract (1 + tS r).toNat (1 + tS r + tN r).toNat := by
  have e : tkE (c :: r) = 0 := by simp only [tkE]; rw [if_neg h0, if_neg h1, if_neg (by simp [h]), if_neg h2, if_neg h3]
  exact ⟨e, by unfold tkS; rw [if_pos e]; rfl, by unfold tkK; rw [if_pos e]; rfl, by unfold tkB; rw [if_pos e]; rfl⟩

/-- Out of error 0: all that stands behind it. -/
theorem tk_parts (l : List UInt8) (h : tkE l = 0) : ∃ c r, l = c :: r ∧ ¬ c.toNat < 1 ∧ ¬ 127 < c.toNat ∧ tE r = 0 ∧ ¬ 67108864 < tN r ∧ ¬ (r.length : Int) - tS r < tN r := by
  match l, h with
  | [], h => exact absurd h (by decide)
  | c :: r, h =>
    refine ⟨c, r, rfl, ?_⟩
    by_cases h0 : c.toNat < 1
    · rw [tk_low c r h0] at h; omega
    by_cases h1 : 127 < c.toNat
    · rw [tk_high c r h0 h1] at h; omega
    by_cases h2 : tE r = 0
    · by_cases h3 : 67108864 < tN r
      · rw [tk_long c r h0 h1 h2 h3] at h; omega
      by_cases h4 : (r.length : Int) - tS r < tN r
      · rw [tk_short c r h0 h1 h2 h3 h4] at h; omega
      exact ⟨h0, h1, h2, h3, h4⟩
    · rw [tk_num c r h0 h1 h2] at h; exact absurd h h2

theorem tk_size (l : List UInt8) (h : tkE l = 0) : 2 ≤ tkS l ∧ tkS l ≤ l.length := by
  obtain ⟨c, r, rfl, h0, h1, h2, h3, h4⟩ := tk_parts l h
  obtain ⟨_, e, _, _⟩ := tk_good c r h0 h1 h2 h3 h4
  obtain ⟨a, b, _⟩ := put_take r h2
  have := tN_bounds r
  rw [e, List.length_cons]
  omega

/-- What is taken is put so. -/
theorem tk_back (l : List UInt8) (h : tkE l = 0) : frE (tkF l) = 0 ∧ frB (tkF l) = l.take (tkS l).toNat := by
  obtain ⟨c, r, rfl, h0, h1, h2, h3, h4⟩ := tk_parts l h
  obtain ⟨_, eS, eK, eB⟩ := tk_good c r h0 h1 h2 h3 h4
  obtain ⟨a, b, hp⟩ := put_take r h2
  have hn := tN_bounds r
  obtain ⟨s, hs⟩ : ∃ s : Nat, tS r = s := ⟨(tS r).toNat, by omega⟩
  obtain ⟨n, hn'⟩ : ∃ n : Nat, tN r = n := ⟨(tN r).toNat, by omega⟩
  simp only [hs, hn'] at eB eS hn h3 h4 a b hp
  have e1 : (1 + (s : Int)).toNat = s + 1 := by omega
  have e2 : (1 + (s : Int) + (n : Int)).toNat = s + n + 1 := by omega
  rw [e1, e2, Lib.extract_eq] at eB
  have eB' : (tkB (c :: r)).data.toList = (r.drop s).take n := by
    rw [eB]; simp [show s + n - s = n by omega]
  have esz : (tkB (c :: r)).size = n := by
    rw [Lib.size_eq, eB', List.length_take, List.length_drop]; omega
  refine ⟨frE_ok _ ?_ ?_ ?_, ?_⟩
  · show ¬ tkK (c :: r) < 1; rw [eK]; omega
  · show ¬ 127 < tkK (c :: r); rw [eK]; omega
  · show ¬ 67108864 < (tkB (c :: r)).size; rw [esz]; omega
  · show vb (tkK (c :: r)) :: (vput ((tkB (c :: r)).size : Int) ++ (tkB (c :: r)).data.toList) = _
    have ec : vb (tkK (c :: r)) = c := by
      rw [eK]; unfold vb; simp
    rw [ec, esz, eB', eS, hp, e2, Int.toNat_natCast, List.take_succ_cons, List.take_add]

/-- What was put is taken as it was, whatever stands behind it. -/
theorem tk_put (f : Fr) (h : frE f = 0) (s : List UInt8) : tkE (frB f ++ s) = 0 ∧ tkS (frB f ++ s) = ((frB f).length : Int) ∧ tkK (frB f ++ s) = f.1 ∧ tkB (frB f ++ s) = f.2 := by
  obtain ⟨h1, h2, h3⟩ := frE_parts f h
  obtain ⟨k, d⟩ := f
  simp only at h1 h2 h3
  have hv := vb_toNat k (by omega) (by omega)
  obtain ⟨t1, t2, t3⟩ := take_put (d.size : Int) (by omega) (by omega) (d.data.toList ++ s)
  have hd := Lib.size_eq d
  have e : frB (k, d) ++ s = vb k :: (vput (d.size : Int) ++ (d.data.toList ++ s)) := by simp [frB]
  obtain ⟨o1, o2, o3, o4⟩ := tk_good (vb k) (vput (d.size : Int) ++ (d.data.toList ++ s)) (by omega) (by omega) t3 (by rw [t1]; omega) (by
    rw [t1, t2]; simp only [List.length_append]; omega)
  rw [t1, t2] at o2 o4
  rw [e]
  refine ⟨o1, ?_, ?_, ?_⟩
  · rw [o2]; simp only [frB, List.length_cons, List.length_append]; omega
  · rw [o3, hv]
  · rw [o4, Lib.extract_eq]
    have e1 : (1 + ((vput (d.size : Int)).length : Int)).toNat = (vput (d.size : Int)).length + 1 := by omega
    have e2 : (1 + ((vput (d.size : Int)).length : Int) + (d.size : Int)).toNat = (vput (d.size : Int)).length + d.size + 1 := by omega
    rw [e1, e2]
    simp only [List.drop_succ_cons, List.drop_append, Nat.sub_self, List.drop_zero, Nat.le_refl, List.drop_of_length_le, List.nil_append]
    rw [show (vput (d.size : Int)).length + d.size + 1 - ((vput (d.size : Int)).length + 1) = d.data.toList.length by omega, List.take_left]

/-- A number's bytes, cut off. -/
theorem tE_cut (n : Int) (h0 : 0 ≤ n) (h1 : n ≤ 9223372036854775807) (j : Nat) (hj : j < (vput n).length) : tE ((vput n).take j) = 4 := by
  have hlen := vput_length n h1
  unfold vput at hlen hj ⊢
  rw [if_neg (by omega)] at hlen hj ⊢
  obtain ⟨p, c, e, ⟨hp, _, _⟩, _⟩ := put_form n.toNat
  rw [e] at hlen hj ⊢
  rw [List.length_append, List.length_singleton] at hlen hj
  rw [List.take_append_of_le_length (by omega)]
  have hge : (p.take j).length ≤ hi (p.take j) := hi_ge _ _ (Nat.le_refl _) fun i hi _ => hp _ (List.mem_of_mem_take (List.getElem_mem hi))
  have hle := hi_le (p.take j)
  have hl : (p.take j).length ≤ 8 := by rw [List.length_take]; omega
  exact (t_short _ (by omega) (by omega)).1

/-- A frame's bytes, cut off. -/
theorem tk_cut (f : Fr) (h : frE f = 0) (c : Nat) (hc : c < (frB f).length) : tkE ((frB f).take c) = 4 := by
  obtain ⟨h1, h2, h3⟩ := frE_parts f h
  obtain ⟨k, d⟩ := f
  simp only at h1 h2 h3
  have hd := Lib.size_eq d
  cases c with
  | zero => rw [List.take_zero]; rfl
  | succ c =>
    have hv := vb_toNat k (by omega) (by omega)
    simp only [frB, List.take_succ_cons]
    simp only [frB, List.length_cons, List.length_append] at hc
    by_cases hlt : c < (vput (d.size : Int)).length
    · rw [List.take_append_of_le_length (by omega)]
      have := tE_cut (d.size : Int) (by omega) (by omega) c hlt
      rw [tk_num _ _ (by omega) (by omega) (by rw [this]; decide), this]
    · rw [List.take_append, List.take_of_length_le (by omega)]
      obtain ⟨t1, t2, t3⟩ := take_put (d.size : Int) (by omega) (by omega) (d.data.toList.take (c - (vput (d.size : Int)).length))
      refine tk_short _ _ (by omega) (by omega) t3 (by rw [t1]; omega) ?_
      rw [t1, t2]
      simp only [List.length_append, List.length_take]
      omega

/-- What Split answers: the frames, how many bytes stand ahead of the fault, the error. -/
def splN : Nat → List UInt8 → List Fr × Int × Int
  | 0, _ => ([], 0, 0)
  | n + 1, l => if l = [] then ([], 0, 0) else if tkE l ≠ 0 then ([], 0, tkE l) else
      if (splN n (l.drop (tkS l).toNat)).2.2 ≠ 0 then ([], tkS l + (splN n (l.drop (tkS l).toNat)).2.1, (splN n (l.drop (tkS l).toNat)).2.2)
      else (tkF l :: (splN n (l.drop (tkS l).toNat)).1, 0, 0)
def spl (l : List UInt8) : List Fr × Int × Int := splN l.length l

theorem splN_eq : ∀ (n m : Nat) (l : List UInt8), l.length ≤ n → l.length ≤ m → splN n l = splN m l
  | 0, 0, _, _, _ => rfl
  | 0, m + 1, l, hn, _ => by
    obtain rfl : l = [] := List.eq_nil_of_length_eq_zero (by omega)
    simp [splN]
  | n + 1, 0, l, _, hm => by
    obtain rfl : l = [] := List.eq_nil_of_length_eq_zero (by omega)
    simp [splN]
  | n + 1, m + 1, l, hn, hm => by
    simp only [splN]
    by_cases h0 : l = []
    · rw [if_pos h0, if_pos h0]
    by_cases h1 : tkE l ≠ 0
    · rw [if_neg h0, if_pos h1, if_neg h0, if_pos h1]
    have hs := tk_size l (by simpa using h1)
    have e := splN_eq n m (l.drop (tkS l).toNat) (by rw [List.length_drop]; omega) (by rw [List.length_drop]; omega)
    rw [e]

theorem spl_nil : spl [] = ([], 0, 0) := rfl

theorem spl_bad (l : List UInt8) (h0 : l ≠ []) (h : tkE l ≠ 0) : spl l = ([], 0, tkE l) := by
  obtain ⟨n, hn⟩ : ∃ n, l.length = n + 1 := ⟨l.length - 1, by have := List.length_pos_iff.2 h0; omega⟩
  unfold spl
  rw [hn]
  simp only [splN]
  rw [if_neg h0, if_pos h]

/-- a bytes have been split into F; R: what the rest answers. -/
def cont (a : Int) (F : List Fr) (R : List Fr × Int × Int) : List Fr × Int × Int := if R.2.2 ≠ 0 then ([], a + R.2.1, R.2.2) else (F ++ R.1, 0, 0)

theorem spl_good (l : List UInt8) (h : tkE l = 0) : spl l = cont (tkS l) [tkF l] (spl (l.drop (tkS l).toNat)) := by
  have hs := tk_size l h
  have h0 : l ≠ [] := by rintro rfl; simp at hs; omega
  obtain ⟨n, hn⟩ : ∃ n, l.length = n + 1 := ⟨l.length - 1, by have := List.length_pos_iff.2 h0; omega⟩
  have e : splN n (l.drop (tkS l).toNat) = spl (l.drop (tkS l).toNat) := splN_eq _ _ _ (by rw [List.length_drop]; omega) (Nat.le_refl _)
  conv => lhs; unfold spl
  rw [hn]
  simp only [splN]
  rw [if_neg h0, if_neg (by simp [h]), e]
  unfold cont
  rfl

theorem cont_cont (a b : Int) (F G : List Fr) (R : List Fr × Int × Int) : cont a F (cont b G R) = cont (a + b) (F ++ G) R := by
  unfold cont
  by_cases h : R.2.2 ≠ 0
  · simp only [if_pos h, Int.add_assoc]
  · simp only [if_neg h]
    simp

theorem spl_form : ∀ (n : Nat) (l : List UInt8), l.length ≤ n → cont 0 [] (spl l) = spl l ∧ 0 ≤ (spl l).2.1 ∧ (spl l).2.1 ≤ l.length ∧ 0 ≤ (spl l).2.2 ∧ (spl l).1.length ≤ l.length
  | 0, l, h => by
    obtain rfl : l = [] := List.eq_nil_of_length_eq_zero (by omega)
    rw [spl_nil]; exact ⟨rfl, by simp⟩
  | n + 1, l, h => by
    by_cases h0 : l = []
    · subst h0; rw [spl_nil]; exact ⟨rfl, by simp⟩
    by_cases h1 : tkE l = 0
    · have hs := tk_size l h1
      obtain ⟨_, i1, i2, i3, i4⟩ := spl_form n (l.drop (tkS l).toNat) (by rw [List.length_drop]; omega)
      rw [List.length_drop] at i2 i4
      rw [spl_good l h1, cont_cont]
      generalize spl (l.drop (tkS l).toNat) = R at *
      refine ⟨by simp, ?_⟩
      unfold cont
      by_cases hR : R.2.2 ≠ 0
      · simp only [if_pos hR]
        refine ⟨by omega, by omega, i3, by simp⟩
      · simp only [if_neg hR, List.length_append, List.length_singleton]
        refine ⟨by omega, by omega, by omega, by omega⟩
    · rw [spl_bad l h0 h1]
      refine ⟨by simp [cont, h1], by simp, by simp, ?_, by simp⟩
      show 0 ≤ tkE l
      match l, h0 with
      | c :: r, _ =>
        simp only [tkE]
        have : 0 ≤ tE r := by unfold tE; split; omega; split; omega; split <;> omega
        repeat' split
        all_goals omega

theorem spl_start (l : List UInt8) : spl l = cont 0 [] (spl l) := (spl_form l.length l (Nat.le_refl _)).1.symm
theorem spl_err (l : List UInt8) (h : (spl l).2.2 ≠ 0) : (spl l).1 = [] := by
  have e := spl_start l
  rw [e]; unfold cont; rw [if_pos h]
theorem spl_ok (l : List UInt8) (h : (spl l).2.2 = 0) : (spl l).2.1 = 0 := by
  have e := spl_start l
  rw [e]; unfold cont; rw [if_neg (by simpa using h)]

/-- One frame further. -/
theorem cont_step (l : List UInt8) (a : Nat) (F : List Fr) (h : tkE (l.drop a) = 0) : cont a F (spl (l.drop a)) = cont ((a : Int) + tkS (l.drop a)) (F ++ [tkF (l.drop a)]) (spl (l.drop (a + (tkS (l.drop a)).toNat))) := by
  rw [spl_good _ h, cont_cont, List.drop_drop]

theorem cont_end (l : List UInt8) (a : Nat) (F : List Fr) (h : l.length ≤ a) : cont a F (spl (l.drop a)) = (F, 0, 0) := by
  rw [List.drop_of_length_le h, spl_nil]; simp [cont]

theorem cont_bad (l : List UInt8) (a : Nat) (F : List Fr) (h0 : a < l.length) (h : tkE (l.drop a) ≠ 0) : cont a F (spl (l.drop a)) = ([], (a : Int), tkE (l.drop a)) := by
  rw [spl_bad _ (by intro e; have := congrArg List.length e; simp at this; omega) h]
  unfold cont
  rw [if_pos h]
  simp

/-- What was joined is split as it was. -/
theorem spl_join : ∀ (fs : List Fr), joinE fs = 0 → spl (frs fs) = (fs, 0, 0)
  | [], _ => rfl
  | f :: r, h => by
    have hf : frE f = 0 := joinE_all _ h f (by simp)
    have hr : joinE r = 0 := joinE_of _ fun g hg => joinE_all _ h g (by simp [hg])
    obtain ⟨t1, t2, t3, t4⟩ := tk_put f hf (frs r)
    have ih := spl_join r hr
    simp only [frs]
    rw [spl_good _ t1, t2, Int.toNat_natCast, List.drop_left, ih]
    unfold tkF
    rw [t3, t4]
    simp [cont]

/-- Of bytes that are cut off. -/
theorem spl_cut : ∀ (fs : List Fr) (c : Nat), joinE fs = 0 → (spl ((frs fs).take c)).2.2 = 0 ∨ ((spl ((frs fs).take c)).2.2 = 4 ∧ (spl ((frs fs).take c)).2.1 ≤ c)
  | [], c, _ => by left; simp [frs, spl_nil]
  | f :: r, c, h => by
    have hf : frE f = 0 := joinE_all _ h f (by simp)
    have hr : joinE r = 0 := joinE_of _ fun g hg => joinE_all _ h g (by simp [hg])
    by_cases h0 : c = 0
    · subst h0; left; simp [spl_nil]
    simp only [frs]
    by_cases hc : c < (frB f).length
    · rw [List.take_append_of_le_length (by omega)]
      have e := tk_cut f hf c hc
      rw [spl_bad _ (by intro e; have := congrArg List.length e; rw [List.length_take, List.length_nil] at this; omega) (by rw [e]; decide), e]
      right
      exact ⟨rfl, by simp⟩
    · rw [List.take_append, List.take_of_length_le (by omega)]
      obtain ⟨t1, t2, t3, t4⟩ := tk_put f hf ((frs r).take (c - (frB f).length))
      have ih := spl_cut r (c - (frB f).length) hr
      rw [spl_good _ t1, t2, Int.toNat_natCast, List.drop_left]
      generalize spl ((frs r).take (c - (frB f).length)) = R at ih
      unfold cont
      by_cases hR : R.2.2 ≠ 0
      · simp only [if_pos hR]
        right
        rcases ih with h | ⟨h, h'⟩
        · exact absurd h hR
        · exact ⟨h, by omega⟩
      · simp only [if_neg hR]
        left; trivial

/-- No other bytes lead there. -/
theorem spl_back : ∀ (n : Nat) (l : List UInt8), l.length ≤ n → (spl l).2.2 = 0 → joinE (spl l).1 = 0 ∧ frs (spl l).1 = l
  | 0, l, h, _ => by
    obtain rfl : l = [] := List.eq_nil_of_length_eq_zero (by omega)
    exact ⟨rfl, rfl⟩
  | n + 1, l, h, he => by
    by_cases h0 : l = []
    · subst h0; exact ⟨rfl, rfl⟩
    by_cases h1 : tkE l = 0
    · have hs := tk_size l h1
      obtain ⟨b1, b2⟩ := tk_back l h1
      have ih := spl_back n (l.drop (tkS l).toNat) (by rw [List.length_drop]; omega)
      have hsp := spl_good l h1
      rw [hsp] at he ⊢
      generalize hq : spl (l.drop (tkS l).toNat) = R at *
      have hR : ¬ R.2.2 ≠ 0 := by
        intro hR
        unfold cont at he
        rw [if_pos hR] at he
        exact hR he
      obtain ⟨j1, j2⟩ := ih (by simpa using hR)
      unfold cont
      rw [if_neg hR]
      simp only [List.cons_append, List.nil_append, joinE, if_pos b1, frs, b2, j2]
      exact ⟨j1, List.take_append_drop _ _⟩
    · rw [spl_bad l h0 h1] at he
      exact absurd he h1

theorem spl_few (l : List UInt8) : (spl l).1.length ≤ l.length := (spl_form l.length l (Nat.le_refl _)).2.2.2.2
end Go.Proofs.Ytjmaccflnfaiiaa
