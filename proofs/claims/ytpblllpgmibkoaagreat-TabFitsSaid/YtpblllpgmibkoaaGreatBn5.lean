/-
  Texts put together: ClM, DnM, ClW, IntsB, Ints, OwnBe, DnW, TbW.
-/
import Derived.Test.YtpblllpgmibkoaaGreatBn4
import Derived.Lib.Hide
import Derived.Test.YtpblllpgmibkoaaGreatBn2
import Derived.Laws.CopyOwn
import Derived.Test.YtpblllpgmibkoaaGreatShelf
import Derived.Outline
import Derived.IntWalk
import Derived.BigQuiet
import Derived.Deep.QuietTactic
set_option linter.unusedSimpArgs false
set_option linter.unusedVariables false
namespace Go.Proofs.YtpblllpgmibkoaaGreat

/-- Does a byte stand in a text? -/
def inT (t : List UInt8) (c : Nat) : Bool := t.any fun x => x.toNat == c
/-- .. in one of some texts? -/
def hasC (us : List (List UInt8)) (c : Nat) : Bool := us.any fun t => inT t c
theorem inT_iff {t : List UInt8} {c : Nat} : inT t c = true ↔ ∃ x ∈ t, x.toNat = c := by
  unfold inT
  simp only [List.any_eq_true, beq_iff_eq]
theorem hasC_iff {us : List (List UInt8)} {c : Nat} : hasC us c = true ↔ ∃ t ∈ us, ∃ x ∈ t, x.toNat = c := by
  unfold hasC
  simp only [List.any_eq_true, inT_iff]
theorem hasC_lt {us : List (List UInt8)} {c : Nat} (h : hasC us c = true) : c < 256 := by
  obtain ⟨t, _, x, _, rfl⟩ := hasC_iff.1 h
  exact x.toNat_lt

theorem any_snoc {α : Type} {p : α → Bool} {l : List α} {k : Nat} {x : α} (h : l[k]? = some x) : (l.take (k + 1)).any p = ((l.take k).any p || p x) := by
  obtain ⟨hk, rfl⟩ := List.getElem?_eq_some_iff.1 h
  rw [List.take_succ_eq_append_getElem hk, List.any_append]
  simp
theorem inT_snoc {t : List UInt8} {k : Nat} {x : UInt8} (h : t[k]? = some x) (c : Nat) : inT (t.take (k + 1)) c = (inT (t.take k) c || x.toNat == c) := any_snoc h
theorem hasC_snoc {us : List (List UInt8)} {k : Nat} {t : List UInt8} (h : us[k]? = some t) (c : Nat) : hasC (us.take (k + 1)) c = (hasC (us.take k) c || inT t c) := any_snoc h
theorem hasC_mem {us : List (List UInt8)} {t : List UInt8} {x : UInt8} (h : t ∈ us) (hx : x ∈ t) : hasC us x.toNat = true := hasC_iff.2 ⟨t, h, x, hx, rfl⟩

/-- The bytes below n that stand in texts, rising. -/
def bcK (us : List (List UInt8)) : Nat → List UInt8
  | 0 => []
  | n + 1 => bcK us n ++ if hasC us n then [UInt8.ofNat n] else []
theorem bc_hit {us : List (List UInt8)} {n : Nat} (h : hasC us n = true) : bcK us (n + 1) = bcK us n ++ [UInt8.ofNat n] := by rw [bcK, if_pos h]
theorem bc_miss {us : List (List UInt8)} {n : Nat} (h : hasC us n = false) : bcK us (n + 1) = bcK us n := by rw [bcK, if_neg (by rw [h]; decide), List.append_nil]
theorem bc_length (us : List (List UInt8)) : ∀ n, (bcK us n).length ≤ n
  | 0 => Nat.le_refl _
  | n + 1 => by
    have := bc_length us n
    rw [bcK, List.length_append]
    split <;> simp <;> omega
theorem bc_mono (us : List (List UInt8)) (n : Nat) : ∀ m, (bcK us n).length ≤ (bcK us (n + m)).length
  | 0 => Nat.le_refl _
  | m + 1 => by
    have := bc_mono us n m
    rw [← Nat.add_assoc, bcK, List.length_append]
    omega
theorem bc_le (us : List (List UInt8)) {m n : Nat} (h : m ≤ n) : (bcK us m).length ≤ (bcK us n).length := by
  have := bc_mono us m (n - m)
  rwa [Nat.add_sub_cancel' h] at this

/-- A byte's class. -/
def ofC (us : List (List UInt8)) (c : Nat) : Nat := if hasC us c then (bcK us (c + 1)).length else 0
theorem of_hit {us : List (List UInt8)} {c : Nat} (h : hasC us c = true) : ofC us c = (bcK us c).length + 1 := by
  unfold ofC
  rw [if_pos h, bc_hit h]
  simp
theorem of_miss {us : List (List UInt8)} {c : Nat} (h : hasC us c = false) : ofC us c = 0 := by
  unfold ofC
  rw [h]; rfl
theorem of_pos {us : List (List UInt8)} {c : Nat} : 0 < ofC us c ↔ hasC us c = true := by
  cases h : hasC us c with
  | true => rw [of_hit h]; simp
  | false => rw [of_miss h]; simp
theorem of_le (us : List (List UInt8)) (c : Nat) : ofC us c ≤ 256 := by
  cases h : hasC us c with
  | true =>
    rw [of_hit h]
    have h1 := bc_length us c
    have h2 := hasC_lt h
    omega
  | false => rw [of_miss h]; omega
/-- Of two bytes that are not foreign the greater one has the greater class. -/
theorem of_lt {us : List (List UInt8)} {a b : Nat} (ha : 0 < ofC us a) (hb : 0 < ofC us b) : ofC us a < ofC us b ↔ a < b := by
  have ha' := of_pos.1 ha
  have hb' := of_pos.1 hb
  have key : ∀ {x y : Nat}, hasC us x = true → hasC us y = true → x < y → ofC us x < ofC us y := by
    intro x y hx hy h
    rw [of_hit hy]
    have h1 := bc_le us (show x + 1 ≤ y by omega)
    have h2 := of_hit hx
    rw [bc_hit hx, List.length_append, List.length_singleton] at h1
    omega
  refine ⟨fun h => ?_, fun h => key ha' hb' h⟩
  rcases Nat.lt_trichotomy a b with h' | h' | h'
  · exact h'
  · subst h'; omega
  · have := key hb' ha' h'; omega

/-- How many of a text's last bytes have no class. -/
def forL (F : Nat → Nat) (s : List UInt8) : Nat := mn (fun k => decide (0 < F (s.getD (s.length - 1 - k) 0).toNat)) s.length
theorem forL_is {F : Nat → Nat} {s : List UInt8} {n : Nat} (h1 : n ≤ s.length) (h2 : ∀ k, k < n → F (s.getD (s.length - 1 - k) 0).toNat = 0) (h3 : n < s.length → 0 < F (s.getD (s.length - 1 - n) 0).toNat) : forL F s = n := by
  unfold forL
  exact mn_is h1 (fun d hd => decide_eq_false (by rw [h2 d hd]; omega)) (fun hl => decide_eq_true (h3 hl))
end Go.Proofs.YtpblllpgmibkoaaGreat

namespace Go.Proofs.YtpblllpgmibkoaaGreat

/-- A byte stands in its place among the bytes of classes. -/
theorem bc_snoc_at (us : List (List UInt8)) : ∀ (n : Nat), n ≤ 256 → ∀ (j : Nat) (c : UInt8), (bcK us n)[j]? = some c ↔ c.toNat < n ∧ hasC us c.toNat = true ∧ ofC us c.toNat = j + 1
  | 0, _, j, c => by simp [bcK]
  | n + 1, hn, j, c => by
    have ih := bc_snoc_at us n (by omega)
    have hcl := c.toNat_lt
    cases hq : hasC us n with
    | true =>
      rw [bc_hit hq]
      have hnn : (UInt8.ofNat n).toNat = n := by simp; omega
      by_cases hj : j < (bcK us n).length
      · rw [List.getElem?_append_left hj, ih]
        constructor
        · rintro ⟨h1, h2⟩; exact ⟨by omega, h2⟩
        · rintro ⟨h1, h2, h3⟩
          refine ⟨?_, h2, h3⟩
          rcases Nat.lt_or_ge c.toNat n with h | h
          · exact h
          · have hcn : c.toNat = n := by omega
            rw [hcn, of_hit hq] at h3
            omega
      · rw [List.getElem?_append_right (by omega)]
        constructor
        · intro h
          obtain ⟨h1, h2⟩ := List.getElem?_eq_some_iff.1 h
          have h0 : j - (bcK us n).length = 0 := by simp at h1; omega
          simp only [h0, List.getElem_cons_zero] at h2
          have hcn : c.toNat = n := by rw [← h2, hnn]
          rw [hcn]
          exact ⟨by omega, hq, by rw [of_hit hq]; omega⟩
        · rintro ⟨h1, h2, h3⟩
          rcases Nat.lt_or_ge c.toNat n with h | h
          · have := (List.getElem?_eq_some_iff.1 ((ih j c).2 ⟨h, h2, h3⟩)).1
            omega
          · have hcn : c.toNat = n := by omega
            rw [hcn, of_hit hq] at h3
            rw [show j - (bcK us n).length = 0 by omega]
            have : UInt8.ofNat n = c := by rw [← hcn]; simp
            simp [this]
    | false =>
      rw [bc_miss hq, ih]
      constructor
      · rintro ⟨h1, h2⟩; exact ⟨by omega, h2⟩
      · rintro ⟨h1, h2, h3⟩
        refine ⟨?_, h2, h3⟩
        rcases Nat.lt_or_ge c.toNat n with h | h
        · exact h
        · have hcn : c.toNat = n := by omega
          rw [hcn, hq] at h2
          cases h2
theorem bc_at (us : List (List UInt8)) (j : Nat) (c : UInt8) : (bcK us 256)[j]? = some c ↔ hasC us c.toNat = true ∧ ofC us c.toNat = j + 1 := by
  rw [bc_snoc_at us 256 (Nat.le_refl _)]
  exact ⟨fun h => h.2, fun h => ⟨c.toNat_lt, h⟩⟩
theorem of_few (us : List (List UInt8)) (c : UInt8) : ofC us c.toNat < (bcK us 256).length + 1 := by
  cases hq : hasC us c.toNat with
  | true =>
    have h1 := of_pos.2 hq
    have := (List.getElem?_eq_some_iff.1 ((bc_at us (ofC us c.toNat - 1) c).2 ⟨hq, by omega⟩)).1
    omega
  | false => rw [of_miss hq]; omega

/-- A byte that stands in no text leads to the root. -/
theorem lg_foreign {us S : List (List UInt8)} (hs : IsSt us S) {c : UInt8} (h : hasC us c.toNat = false) (q : List UInt8) : lgL S (q ++ [c]) = [] := by
  rcases lg_or S (q ++ [c]) with h1 | h1
  · exact h1
  · obtain ⟨a, ha⟩ := lg_end S (q ++ [c])
    generalize lgL S (q ++ [c]) = t at h1 ha
    rcases List.eq_nil_or_concat t with rfl | ⟨t', d, rfl⟩
    · rfl
    · exfalso
      rw [List.concat_eq_append, ← List.append_assoc] at ha
      obtain ⟨_, e⟩ := List.append_inj' ha rfl
      cases e
      rcases (hs.2 _).1 h1 with h2 | h2
      · simp at h2
      · obtain ⟨p, hp, hpre⟩ := beg_iff.1 h2
        have hd : c ∈ p := hpre.subset (by simp)
        rw [hasC_mem hp hd] at h
        cases h

/-- The number of the state to which a byte leads. -/
def dnS (S : List (List UInt8)) (s : List UInt8) (c : UInt8) : Nat := (ixL (lgL S (s ++ [c])) S).toNat
theorem dn_ix {S : List (List UInt8)} (h0 : [] ∈ S) (s : List UInt8) (c : UInt8) : ixL (lgL S (s ++ [c])) S = (dnS S s c : Int) := by
  unfold dnS ixL
  rw [if_pos (lg_mem h0 _)]
  rfl
theorem dn_is {S : List (List UInt8)} (hn : S.Nodup) {s : List UInt8} {c : UInt8} {n : Nat} (h : S[n]? = some (lgL S (s ++ [c]))) : dnS S s c = n := by
  unfold dnS
  rw [ix_is hn h]
  rfl
theorem dn_at {S : List (List UInt8)} (hn : S.Nodup) (h0 : [] ∈ S) (s : List UInt8) (c : UInt8) : S[dnS S s c]? = some (lgL S (s ++ [c])) := by
  obtain ⟨n, hn', e⟩ := List.getElem_of_mem (lg_mem h0 (s ++ [c]))
  have h : S[n]? = some (lgL S (s ++ [c])) := by rw [List.getElem?_eq_getElem hn', e]
  rw [dn_is hn h]
  exact h
theorem dn_lt {S : List (List UInt8)} (hn : S.Nodup) (h0 : [] ∈ S) (s : List UInt8) (c : UInt8) : dnS S s c < S.length := (List.getElem?_eq_some_iff.1 (dn_at hn h0 s c)).1
theorem dn_root {S : List (List UInt8)} (hn : S.Nodup) (h0 : S[0]? = some []) {s : List UInt8} {c : UInt8} (h : lgL S (s ++ [c]) = []) : dnS S s c = 0 := dn_is hn (by rw [h]; exact h0)

/-- Where each class leads from a state. -/
def rwF (us S : List (List UInt8)) (s : List UInt8) : List Nat := 0 :: (bcK us 256).map (dnS S s)
/-- .. where it is known by these bytes, and by the state to which it falls back. -/
def rwP (us S : List (List UInt8)) (s ks : List UInt8) : List Nat := 0 :: (bcK us 256).map fun c => if c ∈ ks then dnS S s c else if s = [] then 0 else dnS S (fbL S s) c
theorem rwF_length (us S : List (List UInt8)) (s : List UInt8) : (rwF us S s).length = (bcK us 256).length + 1 := by simp [rwF]
theorem rwP_length (us S : List (List UInt8)) (s ks : List UInt8) : (rwP us S s ks).length = (bcK us 256).length + 1 := by simp [rwP]
theorem rwP_fall (us S : List (List UInt8)) {s : List UInt8} (h : s ≠ []) : rwP us S s [] = rwF us S (fbL S s) := by
  unfold rwP rwF
  simp [h]
theorem rwP_root (us S : List (List UInt8)) : rwP us S [] [] = List.replicate ((bcK us 256).length + 1) 0 := by
  unfold rwP
  rw [List.replicate_succ]
  refine congrArg (List.cons 0) ?_
  simp only [List.not_mem_nil, if_false, if_true]
  exact List.map_const' ..
theorem rwP_all {us S : List (List UInt8)} (hs : IsSt us S) (hn : S.Nodup) (h0 : S[0]? = some []) (s : List UInt8) (hm : s ∈ S) : rwP us S s (kidsL us s) = rwF us S s := by
  unfold rwP rwF
  refine congrArg (List.cons 0) ?_
  refine List.map_congr_left fun c _ => ?_
  by_cases hk : c ∈ kidsL us s
  · rw [if_pos hk]
  · rw [if_neg hk]
    have hmiss : s ++ [c] ∉ S := fun h => by
      rcases (hs.2 _).1 h with h | h
      · simp at h
      · exact hk (kids_mem.2 h)
    by_cases e : s = []
    · subst e
      rw [if_pos rfl, dn_root hn h0]
      rw [lg_miss hmiss]; rfl
    · rw [if_neg e]
      unfold dnS
      rw [← lg_step hs c e hmiss]
/-- One more byte by which the state leads on. -/
theorem rwP_set {us S : List (List UInt8)} {s ks : List UInt8} {c : UInt8} (hc : hasC us c.toNat = true) : (rwP us S s ks).set (ofC us c.toNat) (dnS S s c) = rwP us S s (ks ++ [c]) := by
  have h1 := of_pos.2 hc
  obtain ⟨j, hj⟩ : ∃ j, ofC us c.toNat = j + 1 := ⟨ofC us c.toNat - 1, by omega⟩
  have hat := (bc_at us j c).2 ⟨hc, hj⟩
  unfold rwP
  rw [hj, List.set_cons_succ]
  refine congrArg (List.cons 0) ?_
  apply List.ext_getElem?
  intro i
  rw [List.getElem?_set, List.getElem?_map, List.getElem?_map, List.length_map]
  by_cases e : j = i
  · subst e
    rw [if_pos rfl, if_pos (List.getElem?_eq_some_iff.1 hat).1, hat]
    simp
  · rw [if_neg e]
    cases hx : (bcK us 256)[i]? with
    | none => rfl
    | some d =>
      have hd := (bc_at us i d).1 hx
      have hne : d ≠ c := fun h => by
        subst h
        omega
      simp [hne]
/-- What a row says of a byte. -/
theorem rw_of {us S : List (List UInt8)} (hs : IsSt us S) (hn : S.Nodup) (h0 : S[0]? = some []) (s : List UInt8) (c : UInt8) : (rwF us S s)[ofC us c.toNat]? = some (dnS S s c) := by
  cases hq : hasC us c.toNat with
  | true =>
    have h1 := of_pos.2 hq
    obtain ⟨j, hj⟩ : ∃ j, ofC us c.toNat = j + 1 := ⟨ofC us c.toNat - 1, by omega⟩
    have hat := (bc_at us j c).2 ⟨hq, hj⟩
    unfold rwF
    rw [hj, List.getElem?_cons_succ, List.getElem?_map, hat]
    rfl
  | false =>
    rw [of_miss hq, dn_root hn h0 (lg_foreign hs hq s)]
    rfl
theorem kid_has {us S : List (List UInt8)} {s : List UInt8} {c : UInt8} (h : c ∈ kidsL us s) : hasC us c.toNat = true := by
  obtain ⟨p, hp, hpre⟩ := beg_iff.1 (kids_mem.1 h)
  exact hasC_mem hp (hpre.subset (by simp))
theorem rw_le {us S : List (List UInt8)} (hn : S.Nodup) (h0 : [] ∈ S) (s : List UInt8) : ∀ x ∈ rwF us S s, x ≤ S.length := fun x hx => by
  unfold rwF at hx
  rcases List.mem_cons.1 hx with rfl | hx
  · omega
  · obtain ⟨c, _, rfl⟩ := List.mem_map.1 hx
    exact Nat.le_of_lt (dn_lt hn h0 s c)

/-- One row of them all. -/
def seg (L : List Nat) (W i : Nat) : List Nat := (L.drop (i * W)).take W
theorem seg_at (L : List Nat) (W i j : Nat) : (seg L W i)[j]? = if j < W then L[i * W + j]? else none := by
  unfold seg
  by_cases h : j < W
  · rw [if_pos h, List.getElem?_take_of_lt h, List.getElem?_drop]
  · rw [if_neg h, List.getElem?_eq_none]
    simp; omega
theorem seg_in {n W i : Nat} (h : i < n) : i * W + W ≤ n * W := by
  have := Nat.mul_le_mul_right W (show i + 1 ≤ n from h)
  rwa [Nat.succ_mul] at this
theorem seg_length {L : List Nat} {n W i : Nat} (hl : L.length = n * W) (h : i < n) : (seg L W i).length = W := by
  have := seg_in (W := W) h
  unfold seg
  rw [List.length_take, List.length_drop]
  omega
theorem seg_apart {W i j a b : Nat} (h : i ≠ j) (ha : a < W) (hb : b < W) : i * W + a ≠ j * W + b := by
  rcases Nat.lt_or_gt_of_ne h with h | h
  · have := seg_in (W := W) h; omega
  · have := seg_in (W := W) h; omega
theorem seg_set_same {L : List Nat} {n W i k : Nat} (hl : L.length = n * W) (hi : i < n) (hk : k < W) (v : Nat) : seg (L.set (i * W + k) v) W i = (seg L W i).set k v := by
  have hin := seg_in (W := W) hi
  apply List.ext_getElem?
  intro j
  rw [List.getElem?_set, seg_length hl hi, seg_at, seg_at, List.getElem?_set]
  by_cases e : k = j
  · subst e
    rw [if_pos hk, if_pos rfl, if_pos rfl, if_pos (by omega), if_pos hk]
  · rw [if_neg e, if_neg (show ¬ i * W + k = i * W + j by omega)]
theorem seg_set_other {L : List Nat} {W i j k : Nat} (h : i ≠ j) (hk : k < W) (v : Nat) : seg (L.set (i * W + k) v) W j = seg L W j := by
  apply List.ext_getElem?
  intro a
  rw [seg_at, seg_at]
  by_cases ha : a < W
  · rw [if_pos ha, if_pos ha, List.getElem?_set_ne (seg_apart h hk ha)]
  · rw [if_neg ha, if_neg ha]
theorem splice_at {L R : List Nat} {o j : Nat} (h : o + R.length ≤ L.length) : (splice L o R)[j]? = if o ≤ j ∧ j < o + R.length then R[j - o]? else L[j]? := by
  unfold splice
  have ht : (L.take o).length = o := by rw [List.length_take]; omega
  by_cases h1 : j < o
  · rw [List.getElem?_append_left (by omega), List.getElem?_take_of_lt h1, if_neg (by omega)]
  · rw [List.getElem?_append_right (by omega), ht]
    by_cases h2 : j < o + R.length
    · rw [List.getElem?_append_left (by omega), if_pos (by omega)]
    · rw [List.getElem?_append_right (by omega), List.getElem?_drop, if_neg (by omega)]
      congr 1; omega
theorem seg_splice_same {L R : List Nat} {n W i : Nat} (hl : L.length = n * W) (hi : i < n) (hR : R.length = W) : seg (splice L (i * W) R) W i = R := by
  have hin := seg_in (W := W) hi
  apply List.ext_getElem?
  intro j
  rw [seg_at]
  by_cases h : j < W
  · rw [if_pos h, splice_at (by omega), if_pos (by omega)]
    congr 1; omega
  · rw [if_neg h, List.getElem?_eq_none (by omega)]
theorem seg_splice_other {L R : List Nat} {n W i j : Nat} (hl : L.length = n * W) (hi : i < n) (hR : R.length = W) (h : i ≠ j) : seg (splice L (i * W) R) W j = seg L W j := by
  have hin := seg_in (W := W) hi
  apply List.ext_getElem?
  intro a
  rw [seg_at, seg_at]
  by_cases ha : a < W
  · rw [if_pos ha, if_pos ha, splice_at (by omega), if_neg]
    rintro ⟨h1, h2⟩
    exact seg_apart h (show j * W + a - i * W < W by omega) ha (by omega)
  · rw [if_neg ha, if_neg ha]
theorem seg_zero {n W i : Nat} (h : i < n) : seg (List.replicate (n * W) 0) W i = List.replicate W 0 := by
  have := seg_in (W := W) h
  unfold seg
  rw [List.drop_replicate, List.take_replicate]
  congr 1; omega
end Go.Proofs.YtpblllpgmibkoaaGreat

namespace Go.Proofs.YtpblllpgmibkoaaGreat
open Go.RowKit

/-- The cells of classes: each byte's class, and the bytes that have one. -/
def ClsAt (cs : Array Value) (F : Nat → Nat) (B : List UInt8) : Prop := (∀ c, c < 256 → cs[c]? = some (.int .i64 (F c : Int))) ∧ cs[256]? = some (.string ⟨B.toArray⟩)
/-- Classes in block b. -/
def IsCls (w : World) (b : Nat) (F : Nat → Nat) (B : List UInt8) : Prop := ∃ cs : Array Value, w.heap[b]? = some (.cells cs 109 (0, 0)) ∧ ClsAt cs F B
theorem IsCls.lt {w : World} {b : Nat} {F : Nat → Nat} {B : List UInt8} (h : IsCls w b F B) : b < w.heap.size := by
  obtain ⟨cs, h, _⟩ := h
  exact heap_lt h
theorem IsCls.below {w w' : World} {b : Nat} {F : Nat → Nat} {B : List UInt8} (h : IsCls w b F B) (hb : Below w.heap.size w w') : IsCls w' b F B := by
  have hlt := h.lt
  obtain ⟨cs, h1, h2⟩ := h
  exact ⟨cs, (hb.block b hlt).trans h1, h2⟩
theorem IsCls.heap {w W : World} {b : Nat} {F : Nat → Nat} {B : List UInt8} (h : IsCls w b F B) (e : W.heap = w.heap) : IsCls W b F B := by
  unfold IsCls at *
  rw [e]
  exact h
theorem IsCls.congr {w : World} {b : Nat} {F G : Nat → Nat} {B : List UInt8} (h : IsCls w b F B) (e : ∀ c, c < 256 → F c = G c) : IsCls w b G B := by
  obtain ⟨cs, h1, h2, h3⟩ := h
  exact ⟨cs, h1, fun c hc => by rw [← e c hc]; exact h2 c hc, h3⟩
theorem IsCls.put {w : World} {b c n : Nat} {F : Nat → Nat} {B : List UInt8} (h : IsCls w b F B) (hc : c < 256) : IsCls (w.setCell ⟨b, c, none⟩ (.int .i64 (n : Int))) b (fun d => if d = c then n else F d) B := by
  obtain ⟨cs, h1, h2, h3⟩ := h
  refine ⟨_, put_heap h1 _, fun d hd => ?_, ?_⟩
  · have hl := (Array.getElem?_eq_some_iff.1 (h2 d hd)).1
    by_cases e : d = c
    · subst e
      simp only [↓reduceIte]
      rw [Array.getElem?_setIfInBounds_self_of_lt hl]
    · simp only [if_neg e]
      rw [Array.getElem?_setIfInBounds_ne (by omega)]
      exact h2 d hd
  · rw [Array.getElem?_setIfInBounds_ne (by omega)]
    exact h3
theorem IsCls.putB {w : World} {b : Nat} {F : Nat → Nat} {B : List UInt8} (h : IsCls w b F B) (L : List UInt8) : IsCls (w.setCell ⟨b, 256, none⟩ (.string ⟨L.toArray⟩)) b F L := by
  obtain ⟨cs, h1, h2, h3⟩ := h
  have hl := (Array.getElem?_eq_some_iff.1 h3).1
  refine ⟨_, put_heap h1 _, fun d hd => ?_, ?_⟩
  · rw [Array.getElem?_setIfInBounds_ne (by omega)]
    exact h2 d hd
  · rw [Array.getElem?_setIfInBounds_self_of_lt hl]
theorem IsCls.cell {w : World} {b c : Nat} {F : Nat → Nat} {B : List UInt8} (h : IsCls w b F B) (hc : c < 256) : w.cell? ⟨b, c, none⟩ = some (.int .i64 (F c : Int)) := by
  obtain ⟨cs, h1, h2, _⟩ := h
  rw [Lib.cell_of_heap h1]
  exact h2 c hc
theorem IsCls.last {w : World} {b : Nat} {F : Nat → Nat} {B : List UInt8} (h : IsCls w b F B) : w.cell? ⟨b, 256, none⟩ = some (.string ⟨B.toArray⟩) := by
  obtain ⟨cs, h1, _, h3⟩ := h
  rw [Lib.cell_of_heap h1]
  exact h3
theorem IsCls.free {w : World} {b i : Nat} {F : Nat → Nat} {B : List UInt8} (h : IsCls w b F B) : w.frozen? ⟨b, i, none⟩ = false := by
  obtain ⟨cs, h1, _⟩ := h
  exact Lib.frozen_of_heap h1 _

/-- Classes behind a pointer, or none: then all bytes are foreign; how many there are. -/
def HasCls (w : World) (p : Option Addr) (F : Nat → Nat) (B : List UInt8) (n : Nat) : Prop := (p = none ∧ (∀ c, F c = 0) ∧ B = [] ∧ n = 0) ∨ ∃ b, p = some ⟨b, 0, none⟩ ∧ IsCls w b F B ∧ n = B.length + 1
theorem HasCls.below {w w' : World} {p : Option Addr} {F : Nat → Nat} {B : List UInt8} {n : Nat} (h : HasCls w p F B n) (hb : Below w.heap.size w w') : HasCls w' p F B n :=
  h.elim .inl (fun ⟨b, h1, h2, h3⟩ => .inr ⟨b, h1, h2.below hb, h3⟩)
theorem HasCls.heap {w W : World} {p : Option Addr} {F : Nat → Nat} {B : List UInt8} {n : Nat} (h : HasCls w p F B n) (e : W.heap = w.heap) : HasCls W p F B n :=
  h.elim .inl (fun ⟨b, h1, h2, h3⟩ => .inr ⟨b, h1, h2.heap e, h3⟩)

theorem clof_any {w : World} {p : Option Addr} {F : Nat → Nat} {B : List UInt8} {n : Nat} (h : HasCls w p F B n) (c : Nat) (hc : c < 256) :
    Calls Tryz.prog 63 #[.pointer p, .int .u8 (c : Int)] w fun e w' => e = .returned (.int .i64 (F c : Int)) ∧ w' = w := by
  rcases h with ⟨rfl, h, _⟩ | ⟨b, rfl, h, _⟩
  · rw [h c]
    clear h
    go_enter Tryz.func63, Tryz.ntmps63
    go_wp2
    go_ret
    exact ⟨rfl, rfl⟩
  · have c0 := h.cell hc
    clear h
    have g0 : (0 : Int) ≤ (c : Int) := by omega
    have g1 : (c : Int) < 256 := by omega
    go_enter Tryz.func63, Tryz.ntmps63
    go_wp2
    go_ret
    exact ⟨rfl, rfl⟩
theorem cllen_any {w : World} {p : Option Addr} {F : Nat → Nat} {B : List UInt8} {n : Nat} (h : HasCls w p F B n) (hB : B.length ≤ 1000000) :
    Calls Tryz.prog 57 #[.pointer p] w fun e w' => e = .returned (.int .i64 (n : Int)) ∧ w' = w := by
  rcases h with ⟨rfl, _, _, rfl⟩ | ⟨b, rfl, h, rfl⟩
  · go_enter Tryz.func57, Tryz.ntmps57
    go_wp2
    go_ret
    exact ⟨rfl, rfl⟩
  · have c0 := h.last
    have S1 := Lib.hid (bsize B)
    clear h
    have hs := bsize B
    have g0 : IntKind.i64.wrap (1 + (B.length : Int)) = ((B.length + 1 : Nat) : Int) := by rw [IntKind.wrap_i64]; omega
    go_enter Tryz.func57, Tryz.ntmps57
    go_wp2
    go_ret
    refine ⟨?_, rfl⟩
    try go_num
    try rfl

end Go.Proofs.YtpblllpgmibkoaaGreat

namespace Go.Proofs.YtpblllpgmibkoaaGreat
open Go.RowKit

theorem int_info : (Tryz.prog.info? 3).map (fun i => (i.zero, i.size, i.bytes)) = some (some (.int .i64 0), 1, 8) := by kernel_rfl

/-- The cells of numbers. -/
def inCells (zs : List Int) : List Value := zs.map (Value.int .i64)
theorem inCells_snoc (zs : List Int) (x : Int) : inCells (zs ++ [x]) = inCells zs ++ [.int .i64 x] := by simp [inCells]

theorem owns_ints {w : World} {base : Nat} {e : TypeId} {v : Value} {zs : List Int} (h : w.ownsRow base e 1 v zs.length (inCells zs)) :
    ∃ ao cap, v = .slice ao zs.length cap ∧ (zs.length = 0 ∨ ∃ g, ao = some ⟨g, 0, none⟩ ∧ base ≤ g ∧ g < w.heap.size ∧ ∀ i, i < zs.length → w.cell? ⟨g, 0 + i, none⟩ = some (.int .i64 (zs.getD i 0))) := by
  rcases h.2 with ⟨hv, h0⟩ | ⟨g, cap, cur, hv, hg, _⟩
  · have h0' : zs.length = 0 := h0
    exact ⟨none, 0, by rw [h0']; exact hv, .inl h0'⟩
  · have hlt := h.lt (k := g) (by rw [hv]; rfl)
    refine ⟨some ⟨g, 0, none⟩, cap, hv, .inr ⟨g, rfl, hlt.1, hlt.2, fun i hi => ?_⟩⟩
    have hc := h.cells (g := g) (by rw [hv]; rfl) i (.int .i64 (zs.getD i 0)) (by simp [inCells, List.getD, List.getElem?_eq_getElem hi])
    rwa [addPlain] at hc

/-- Numbers in memory: all cells, not just those of a slice that came in. -/
theorem row_of_ints {w : World} {base : Nat} {e : TypeId} {v : Value} {zs : List Int} (h : w.ownsRow base e 1 v zs.length (inCells zs)) (hm : zs.length ≤ maxLen) :
    ∃ ao cap, v = .slice ao zs.length cap ∧ IsRow .i64 w ao zs.length zs.length zs := by
  obtain ⟨ao, cap, hv, h0 | ⟨g, hao, _, _, hc⟩⟩ := owns_ints h
  · exact ⟨ao, cap, hv, .inl h0⟩
  · exact ⟨ao, cap, hv, .inr ⟨g, 0, hao, Nat.le_refl _, hm, rfl, hc⟩⟩

/-- A number's one cell, in a block of its own. -/
theorem int_news {w : World} {X : Nat} {T : TypeId} {u : Value} (h : w.heap[X]? = some (.cells #[u] T (0, 0))) : ∀ j x, [u][j]? = some x → w.cell? ((⟨X, 0, none⟩ : Addr).add j) = some x := one_news h
theorem int_one {x : Int} : ∀ v ∈ [Value.int .i64 x], v.oneCell' = true := by
  intro v hv
  simp at hv
  subst hv; rfl

/-- A list of numbers, as an answer: a slice of the call's own; nothing that was there is written. -/
def RetN (zs : List Int) (w : World) (e : Ending) (w' : World) : Prop := ∃ (v : Value), e = .returned v ∧ w'.ownsRow w.heap.size 3 1 v zs.length (inCells zs) ∧ Below w.heap.size w w'

/-- A list of numbers, to be read: a slice; nothing that was there is written. -/
def RetI (zs : List Int) (w : World) (e : Ending) (w' : World) : Prop := ∃ (a : Option Addr) (cap : Nat), e = .returned (.slice a zs.length cap) ∧ IsRow .i64 w' a zs.length zs.length zs ∧ Below w.heap.size w w'
theorem RetI.of {zs L : List Int} {w0 w w' : World} {v : Value} (e : zs = L) (h : w'.ownsRow w0.heap.size 3 1 v L.length (inCells L)) (hm : L.length ≤ maxLen) (hb : Below w.heap.size w w') : ∃ a cap, v = .slice a L.length cap ∧ RetI zs w (.returned (.slice a L.length cap)) w' := by
  obtain ⟨ao, cap, hv, hr⟩ := row_of_ints h hm
  subst e
  exact ⟨ao, cap, hv, ao, cap, rfl, hr, hb⟩

/-- A row in one block of its own. -/
theorem row_heap {w : World} {g n : Nat} {zs : List Int} {T : TypeId} (h : w.heap[g]? = some (.cells (inCells zs).toArray T (0, 0))) (hn : zs.length = n) (hm : n ≤ maxLen) : IsRow .i64 w (some ⟨g, 0, none⟩) n n zs := by
  refine .inr ⟨g, 0, rfl, Nat.le_refl _, hm, hn, fun i hi => ?_⟩
  rw [Nat.zero_add, Lib.cell_of_heap h]
  simp [inCells, List.getD, List.getElem?_eq_getElem (show i < zs.length by omega)]
end Go.Proofs.YtpblllpgmibkoaaGreat

namespace Go.Proofs.YtpblllpgmibkoaaGreat
open Go.RowKit

set_option maxRecDepth 100000 in
theorem make_row (c : Nat) (w : World) (hc : c ≤ 1000000000) : (Instr.makeSlice 37 (.int .i64 (c : Int)) (.int .i64 (c : Int))).run Tryz.prog w = .ok (.slice (some ⟨w.heap.size, 0, none⟩) c c) (w.alloc (.cells (inCells (List.replicate c 0)).toArray 3)) := by
  obtain ⟨i0, hi, hz0, hz1, hz2⟩ := info_parts int_info
  have h := run_make (P := Tryz.prog) w 37 3 i0 (.int .i64 0) Tryz.underlying37 hi hz0 .i64 .i64 c c (by omega) (Int.le_refl _) (by rw [hz2]; omega) (by omega)
  rw [h, hz1, Nat.mul_one, Int.toNat_natCast, show inCells (List.replicate c 0) = List.replicate c (Value.int .i64 0) by simp [inCells]]
  congr 3
  show madeCells #[Value.int .i64 0] c = _
  rw [← toList_madeCells_one]
end Go.Proofs.YtpblllpgmibkoaaGreat

namespace Go.Proofs.YtpblllpgmibkoaaGreat
open Go.RowKit

theorem own_below {base : Nat} {e : TypeId} {v : Value} {n : Nat} {xs : List Value} {w0 w w' : World} {o : Obj} (hb : Below w0.heap.size w0 w) (hown : w.ownsRow base e 1 v n xs) (hbase : w0.heap.size ≤ base) (hg : (w.alloc o).grownBy w' v.ownBlock) : Below w0.heap.size w0 w' :=
  hb.trans ⟨hg.os, hg.tape, hg.output, Nat.le_trans (by simp) hg.size, fun i hi => by
    rw [hg.block i (by have := hb.size; simp; omega) (fun e => by have := (hown.lt i e.symm).1; omega), Lib.alloc_old _ _ i (by have := hb.size; omega)]⟩
end Go.Proofs.YtpblllpgmibkoaaGreat

namespace Go.Proofs.YtpblllpgmibkoaaGreat
open Go.RowKit

/-- The cells of rows. -/
def dnV (n : Nat) : Value := .int .i32 (n : Int)
def dnCells (L : List Nat) : List Value := L.map dnV
theorem dnCells_length (L : List Nat) : (dnCells L).length = L.length := List.length_map _
/-- A table in block b, its rows in block g. -/
structure IsTb (w : World) (b g : Nat) (pc : Option Addr) (n W : Nat) (L : List Nat) : Prop where
  head : w.heap[b]? = some (.cells #[.pointer pc, .int .i64 (n : Int), .slice (some ⟨g, 0, none⟩) L.length L.length] 98 (0, 0))
  row : w.heap[g]? = some (.cells (dnCells L).toArray 21 (0, 0))
  len : L.length = n * W
  fn : n ≤ 16777217
  fw : W ≤ 257
  wp : 0 < W
  fit : ∀ x ∈ L, x ≤ 16777217
theorem IsTb.lt {w : World} {b g : Nat} {pc : Option Addr} {n W : Nat} {L : List Nat} (h : IsTb w b g pc n W L) : b < w.heap.size := heap_lt h.head
theorem IsTb.ltg {w : World} {b g : Nat} {pc : Option Addr} {n W : Nat} {L : List Nat} (h : IsTb w b g pc n W L) : g < w.heap.size := heap_lt h.row
theorem IsTb.below {w w' : World} {b g : Nat} {pc : Option Addr} {n W : Nat} {L : List Nat} (h : IsTb w b g pc n W L) (hb : Below w.heap.size w w') : IsTb w' b g pc n W L :=
  ⟨(hb.block b h.lt).trans h.head, (hb.block g h.ltg).trans h.row, h.len, h.fn, h.fw, h.wp, h.fit⟩
theorem IsTb.heap {w w' : World} {b g : Nat} {pc : Option Addr} {n W : Nat} {L : List Nat} (h : IsTb w b g pc n W L) (e : w'.heap = w.heap) : IsTb w' b g pc n W L :=
  ⟨by rw [e]; exact h.head, by rw [e]; exact h.row, h.len, h.fn, h.fw, h.wp, h.fit⟩
theorem IsTb.most {w : World} {b g : Nat} {pc : Option Addr} {n W : Nat} {L : List Nat} (h : IsTb w b g pc n W L) : L.length ≤ 4311744769 := by
  have h1 := h.fn
  have h2 := h.fw
  have := Nat.mul_le_mul h1 h2
  rw [h.len]; omega
theorem IsTb.reads {w : World} {b g : Nat} {pc : Option Addr} {n W : Nat} {L : List Nat} (h : IsTb w b g pc n W L) : w.cell? ⟨b, 0, none⟩ = some (.pointer pc) ∧ w.cell? ⟨b, 1, none⟩ = some (.int .i64 (n : Int)) ∧ w.cell? ⟨b, 2, none⟩ = some (.slice (some ⟨g, 0, none⟩) L.length L.length) := by
  refine ⟨?_, ?_, ?_⟩ <;> rw [Lib.cell_of_heap h.head] <;> rfl
theorem IsTb.cell {w : World} {b g : Nat} {pc : Option Addr} {n W : Nat} {L : List Nat} (h : IsTb w b g pc n W L) {j x : Nat} (hx : L[j]? = some x) : w.cell? ⟨g, j, none⟩ = some (.int .i32 (x : Int)) := by
  rw [Lib.cell_of_heap h.row]
  simp [dnCells, hx, dnV]
theorem IsTb.free {w : World} {b g : Nat} {pc : Option Addr} {n W : Nat} {L : List Nat} (h : IsTb w b g pc n W L) (j : Nat) : w.frozen? ⟨g, j, none⟩ = false := Lib.frozen_of_heap h.row _
theorem IsTb.seg_cell {w : World} {b g : Nat} {pc : Option Addr} {n W : Nat} {L : List Nat} (h : IsTb w b g pc n W L) {i k x : Nat} (hx : (seg L W i)[k]? = some x) : k < W ∧ x ≤ 16777217 ∧ w.cell? ⟨g, i * W + k, none⟩ = some (.int .i32 (x : Int)) := by
  rw [seg_at] at hx
  by_cases hk : k < W
  · rw [if_pos hk] at hx
    exact ⟨hk, h.fit x (List.mem_of_getElem? hx), h.cell hx⟩
  · rw [if_neg hk] at hx; cases hx
/-- A table and its classes. -/
structure IsDn (w : World) (b g : Nat) (pc : Option Addr) (n W : Nat) (L : List Nat) (F : Nat → Nat) (B : List UInt8) : Prop where
  tb : IsTb w b g pc n W L
  cl : HasCls w pc F B W
  fb : B.length ≤ 1000
theorem IsDn.below {w w' : World} {b g : Nat} {pc : Option Addr} {n W : Nat} {L : List Nat} {F : Nat → Nat} {B : List UInt8} (h : IsDn w b g pc n W L F B) (hb : Below w.heap.size w w') : IsDn w' b g pc n W L F B := ⟨h.tb.below hb, h.cl.below hb, h.fb⟩

theorem dnnil_eq (w : World) (a : Option Addr) (n c n' c' : Nat) : (binOp .eql 65 (.slice a n c) (.slice none n' c')).run Tryz.prog w = .ok (.bool a.isNone) w := Lib.run_eql_slice_nil w _ _ a n c n' c' Tryz.underlying65
theorem dnlen_any {w : World} {b g : Nat} {pc : Option Addr} {n W : Nat} {L : List Nat} (h : IsTb w b g pc n W L) : Calls Tryz.prog 32 #[.pointer (some ⟨b, 0, none⟩)] w fun e w' => e = .returned (.int .i64 (n : Int)) ∧ w' = w := by
  have c1 := h.reads.2.1
  clear h
  go_enter Tryz.func32, Tryz.ntmps32
  go_wp2
  go_ret
  exact ⟨rfl, rfl⟩
theorem dncls_any {w : World} {b g : Nat} {pc : Option Addr} {n W : Nat} {L : List Nat} (h : IsTb w b g pc n W L) : Calls Tryz.prog 30 #[.pointer (some ⟨b, 0, none⟩)] w fun e w' => e = .returned (.pointer pc) ∧ w' = w := by
  have c1 := h.reads.1
  clear h
  go_enter Tryz.func30, Tryz.ntmps30
  go_wp2
  go_ret
  exact ⟨rfl, rfl⟩
theorem dnwid_any {w : World} {b g : Nat} {pc : Option Addr} {n W : Nat} {L : List Nat} {F : Nat → Nat} {B : List UInt8} (h : IsDn w b g pc n W L F B) : Calls Tryz.prog 89 #[.pointer (some ⟨b, 0, none⟩)] w fun e w' => e = .returned (.int .i64 (W : Int)) ∧ w' = w := by
  have HC := Lib.hid (dncls_any h.tb)
  have HL := Lib.hid (cllen_any h.cl (by have := h.fb; omega))
  clear h
  go_enter Tryz.func89, Tryz.ntmps89
  go_wp2_with fail
  refine HC.out.mono ?_
  rintro e w' ⟨rfl, rfl⟩
  go_wp2_with fail
  refine HL.out.mono ?_
  rintro e w' ⟨rfl, rfl⟩
  go_wp2
  go_ret
  exact ⟨rfl, rfl⟩
/-- A nil table. -/
theorem dnlen_nil (w : World) : Calls Tryz.prog 32 #[.pointer none] w fun e w' => e = .returned (.int .i64 0) ∧ w' = w := by
  go_enter Tryz.func32, Tryz.ntmps32
  go_wp2
  go_ret
  exact ⟨rfl, rfl⟩
theorem dncls_nil (w : World) : Calls Tryz.prog 30 #[.pointer none] w fun e w' => e = .returned (.pointer none) ∧ w' = w := by
  go_enter Tryz.func30, Tryz.ntmps30
  go_wp2
  go_ret
  exact ⟨rfl, rfl⟩
theorem dnwid_nil (w : World) : Calls Tryz.prog 89 #[.pointer none] w fun e w' => e = .returned (.int .i64 0) ∧ w' = w := by
  have HC := Lib.hid (dncls_nil w)
  have HL := Lib.hid (cllen_any (w := w) (p := none) (F := fun _ => 0) (B := []) (n := 0) (.inl ⟨rfl, fun _ => rfl, rfl, rfl⟩) (by simp))
  go_enter Tryz.func89, Tryz.ntmps89
  go_wp2_with fail
  refine HC.out.mono ?_
  rintro e w' ⟨rfl, rfl⟩
  go_wp2_with fail
  refine HL.out.mono ?_
  rintro e w' ⟨rfl, rfl⟩
  go_wp2
  go_ret
  exact ⟨rfl, rfl⟩

set_option maxHeartbeats 1000000 in
theorem dnrow_in {w : World} {b g : Nat} {pc : Option Addr} {n W : Nat} {L : List Nat} {F : Nat → Nat} {B : List UInt8} (h : IsDn w b g pc n W L F B) (i : Nat) (hi : i < n) : Calls Tryz.prog 62 #[.pointer (some ⟨b, 0, none⟩), .int .i64 (i : Int)] w fun e w' => e = .returned (.slice (some ⟨g, i * W, none⟩) W W) ∧ w' = w := by
  have HL := Lib.hid (dnlen_any h.tb)
  have HW := Lib.hid (dnwid_any h)
  have c2 := h.tb.reads.2.2
  have hm := h.tb.most
  have hin := seg_in (W := W) hi
  rw [← h.tb.len] at hin
  have hfw := h.tb.fw
  have hfn := h.tb.fn
  have hwp := h.tb.wp
  clear h
  have hmul : (i : Int) * (W : Int) = ((i * W : Nat) : Int) := by simp
  generalize i * W = q at *
  generalize L.length = m at *
  have w0 : IntKind.i64.wrap ((i : Int) * (W : Int)) = (q : Int) := by rw [hmul, IntKind.wrap_i64]; omega
  have w1 : IntKind.i64.wrap ((q : Int) + (W : Int)) = ((q + W : Nat) : Int) := by rw [IntKind.wrap_i64]; omega
  have g0 : ¬ (i : Int) < 0 := by omega
  have g1 : decide ((i : Int) < 0) = false := decide_eq_false g0
  have g2 : ¬ (n : Int) ≤ (i : Int) := by omega
  have g3 : decide ((n : Int) ≤ (i : Int)) = false := decide_eq_false g2
  have g4 : (q : Int) ≤ ((q + W : Nat) : Int) := by omega
  have g5 : ((q + W : Nat) : Int) ≤ (m : Int) := by omega
  have g6 : (0 : Int) ≤ (q : Int) := by omega
  have g7 : ¬ W = 0 := by omega
  have g8 : ¬ q + W = q := by omega
  clear hmul
  go_enter Tryz.func62, Tryz.ntmps62
  go_wp2_with fail
  refine HL.out.mono ?_
  rintro e w' ⟨rfl, hw'⟩
  obtain rfl := hw'.symm
  clear hw'
  go_wp2_with fail
  refine HW.out.mono ?_
  rintro e w' ⟨rfl, hw'⟩
  obtain rfl := hw'.symm
  clear hw'
  go_wp2_with fail
  refine HW.out.mono ?_
  rintro e w' ⟨rfl, hw'⟩
  obtain rfl := hw'.symm
  clear hw'
  go_wp2
  go_ret
  refine ⟨?_, rfl⟩
  show Ending.returned (Value.slice (some ⟨g, q, none⟩) (q + W - q) (q + W - q)) = _
  rw [Nat.add_sub_cancel_left]
set_option maxRecDepth 100000 in
theorem dnrow_out {w : World} {b g : Nat} {pc : Option Addr} {n W : Nat} {L : List Nat} (h : IsTb w b g pc n W L) (s : Int) (hs : s < 0 ∨ (n : Int) ≤ s) : Calls Tryz.prog 62 #[.pointer (some ⟨b, 0, none⟩), .int .i64 s] w fun e w' => e = .returned (.slice none 0 0) ∧ w' = w := by
  have HL := Lib.hid (dnlen_any h)
  clear h
  go_enter Tryz.func62, Tryz.ntmps62
  by_cases g0 : s < 0
  · have g1 : decide (s < 0) = true := decide_eq_true g0
    go_wp2
    go_ret
    exact ⟨rfl, rfl⟩
  · have g1 : decide (s < 0) = false := decide_eq_false g0
    have g2 : (n : Int) ≤ s := by omega
    have g3 : decide ((n : Int) ≤ s) = true := decide_eq_true g2
    go_wp2_with fail
    refine HL.out.mono ?_
    rintro e w' ⟨rfl, rfl⟩
    go_wp2
    go_ret
    exact ⟨rfl, rfl⟩
set_option maxRecDepth 100000 in
theorem dnrow_nil (s : Int) (w : World) : Calls Tryz.prog 62 #[.pointer none, .int .i64 s] w fun e w' => e = .returned (.slice none 0 0) ∧ w' = w := by
  have HL := Lib.hid (dnlen_nil w)
  go_enter Tryz.func62, Tryz.ntmps62
  by_cases g0 : s < 0
  · have g1 : decide (s < 0) = true := decide_eq_true g0
    go_wp2
    go_ret
    exact ⟨rfl, rfl⟩
  · have g1 : decide (s < 0) = false := decide_eq_false g0
    have g2 : (0 : Int) ≤ s := by omega
    have g3 : decide ((0 : Int) ≤ s) = true := decide_eq_true g2
    go_wp2_with fail
    refine HL.out.mono ?_
    rintro e w' ⟨rfl, rfl⟩
    go_wp2
    go_ret
    exact ⟨rfl, rfl⟩

/-- Of what is no state nothing is told. -/
def NoRow (w : World) (p : Option Addr) (s : Int) : Prop := ∀ W, W.heap = w.heap → Calls Tryz.prog 62 #[.pointer p, .int .i64 s] W fun e w' => e = .returned (.slice none 0 0) ∧ w' = W
set_option maxRecDepth 100000 in
theorem dnstep_none {w : World} {p : Option Addr} {s : Int} (h : NoRow w p s) (c : UInt8) : Calls Tryz.prog 35 #[.pointer p, .int .i64 s, .int .u8 (c.toNat : Int)] w fun e w' => e = .returned (.int .i64 0) ∧ w' = w := by
  have HR := Lib.hid (h w rfl)
  have hnil := dnnil_eq (n' := 0) (c' := 0)
  clear h
  go_enter Tryz.func35, Tryz.ntmps35
  go_wp2_with fail
  refine HR.out.mono ?_
  rintro e w' ⟨rfl, rfl⟩
  go_wp2
  go_ret
  exact ⟨rfl, rfl⟩
set_option maxRecDepth 100000 in
set_option maxHeartbeats 1000000 in
theorem dnstep_in {w : World} {b g : Nat} {pc : Option Addr} {n W : Nat} {L : List Nat} {F : Nat → Nat} {B : List UInt8} (h : IsDn w b g pc n W L F B) (i : Nat) (hi : i < n) (c : UInt8) {x : Nat} (hx : (seg L W i)[F c.toNat]? = some x) : Calls Tryz.prog 35 #[.pointer (some ⟨b, 0, none⟩), .int .i64 (i : Int), .int .u8 (c.toNat : Int)] w fun e w' => e = .returned (.int .i64 (x : Int)) ∧ w' = w := by
  have HR := Lib.hid (dnrow_in h i hi)
  have HO := Lib.hid (clof_any h.cl c.toNat c.toNat_lt)
  have c0 := h.tb.reads.1
  obtain ⟨hk, hxl, cx⟩ := h.tb.seg_cell hx
  clear h hx
  generalize i * W = q at *
  generalize F c.toNat = k at *
  have g0 : (0 : Int) ≤ (k : Int) := by omega
  have g1 : (k : Int) < (W : Int) := by omega
  have w0 : IntKind.i64.wrap (x : Int) = (x : Int) := by rw [IntKind.wrap_i64]; omega
  have hnil := dnnil_eq (n' := 0) (c' := 0)
  go_enter Tryz.func35, Tryz.ntmps35
  go_wp2_with fail
  refine HR.out.mono ?_
  rintro e w' ⟨rfl, hw'⟩
  obtain rfl := hw'.symm
  clear hw'
  go_wp2_with fail
  refine HO.out.mono ?_
  rintro e w' ⟨rfl, hw'⟩
  obtain rfl := hw'.symm
  clear hw'
  go_wp2
  go_ret
  exact ⟨rfl, rfl⟩
end Go.Proofs.YtpblllpgmibkoaaGreat

namespace Go.Proofs.YtpblllpgmibkoaaGreat
open Go.RowKit

/-- Rows in block b: the bytes, and of each state its numbers. -/
structure IsTab (w : World) (b : Nat) (own : List UInt8) (R : List (List Int)) : Prop where
  head : ∃ g off cap, w.heap[b]? = some (.cells #[.string ⟨own.toArray⟩, .slice (some ⟨g, off, none⟩) (R.length * (own.length + 1)) cap] 67 (0, 0)) ∧ R.length * (own.length + 1) ≤ cap ∧ cap ≤ maxLen ∧
    ∀ i, i < R.length * (own.length + 1) → w.cell? ⟨g, off + i, none⟩ = some (.int .i32 (R.flatten.getD i 0))
  good : GoodT own R
theorem IsTab.lt {w : World} {b : Nat} {own : List UInt8} {R : List (List Int)} (h : IsTab w b own R) : b < w.heap.size := by
  obtain ⟨g, off, cap, h1, _⟩ := h.head
  exact heap_lt h1
theorem IsTab.below {w w' : World} {b : Nat} {own : List UInt8} {R : List (List Int)} (h : IsTab w b own R) (hb : Below w.heap.size w w') : IsTab w' b own R := by
  have hl := h.lt
  obtain ⟨g, off, cap, h1, h2, h3, h4⟩ := h.head
  refine ⟨⟨g, off, cap, (hb.block b hl).trans h1, h2, h3, fun i hi => ?_⟩, h.good⟩
  have h5 := h4 i hi
  rw [hb.cell (p := ⟨g, off + i, none⟩) (World.block_lt_of_cell? w _ h5)]
  exact h5
theorem IsTab.heap {w w' : World} {b : Nat} {own : List UInt8} {R : List (List Int)} (h : IsTab w b own R) (e : w'.heap = w.heap) : IsTab w' b own R := by
  obtain ⟨g, off, cap, h1, h2, h3, h4⟩ := h.head
  refine ⟨⟨g, off, cap, by rw [e]; exact h1, h2, h3, fun i hi => ?_⟩, h.good⟩
  rw [World.cell?_of_block (w := w) (by rw [e])]
  exact h4 i hi
/-- How many numbers there are. -/
theorem IsTab.most {w : World} {b : Nat} {own : List UInt8} {R : List (List Int)} (h : IsTab w b own R) : R.length * (own.length + 1) ≤ 4311744769 ∧ own.length ≤ 256 ∧ 1 ≤ R.length ∧ R.length ≤ 16777217 := by
  have h1 := h.good.most
  have h2 := h.good.few
  have := Nat.mul_le_mul h1 (show own.length + 1 ≤ 257 by omega)
  exact ⟨by omega, h2, h.good.some, h1⟩

theorem tbwid_any {w : World} {b : Nat} {own : List UInt8} {R : List (List Int)} (h : IsTab w b own R) : Calls Tryz.prog 38 #[.pointer (some ⟨b, 0, none⟩)] w fun e w' => e = .returned (.int .i64 ((own.length + 1 : Nat) : Int)) ∧ w' = w := by
  have hf := h.most.2.1
  obtain ⟨g, off, cap, h1, _⟩ := h.head
  have c0 : w.cell? ⟨b, 0, none⟩ = some (.string ⟨own.toArray⟩) := by rw [Lib.cell_of_heap h1]; rfl
  have w0 : IntKind.i64.wrap (1 + (own.length : Int)) = ((own.length + 1 : Nat) : Int) := by rw [IntKind.wrap_i64]; omega
  clear h h1
  go_enter Tryz.func38, Tryz.ntmps38
  go_wp2
  go_ret
  exact ⟨rfl, rfl⟩

theorem tblen_nil (w : World) : Calls Tryz.prog 16 #[.pointer none] w fun e w' => e = .returned (.int .i64 0) ∧ w' = w := by
  go_enter Tryz.func16, Tryz.ntmps16
  go_wp2
  go_ret
  exact ⟨rfl, rfl⟩

set_option maxHeartbeats 1000000 in
theorem tblen_any {w : World} {b : Nat} {own : List UInt8} {R : List (List Int)} (h : IsTab w b own R) : Calls Tryz.prog 16 #[.pointer (some ⟨b, 0, none⟩)] w fun e w' => e = .returned (.int .i64 (R.length : Int)) ∧ ∃ q, w' = w.drewN q := by
  obtain ⟨hm, hf, hs, hl⟩ := h.most
  have HW := Lib.hid (fun (q : Nat) => Calls.quiet_of_same (tbwid_any (h.heap (w' := w.drewN q) rfl)))
  obtain ⟨g, off, cap, h1, _⟩ := h.head
  have c0 : w.cell? ⟨b, 0, none⟩ = some (.string ⟨own.toArray⟩) := by rw [Lib.cell_of_heap h1]; rfl
  have c1 : w.cell? ⟨b, 1, none⟩ = some (.slice (some ⟨g, off, none⟩) (R.length * (own.length + 1)) cap) := by rw [Lib.cell_of_heap h1]; rfl
  obtain ⟨W, hW⟩ : ∃ W, own.length + 1 = W := ⟨_, rfl⟩
  rw [hW] at HW c1 hm
  have hWp : 0 < W := by omega
  have hq : ((R.length * W : Nat) : Int).tdiv (W : Int) = (R.length : Int) := by
    rw [Int.tdiv_eq_ediv_of_nonneg (by omega), ← Int.natCast_ediv, Nat.mul_div_cancel _ hWp]
  generalize R.length * W = m at *
  have hz : ¬ (W : Int) = 0 := by omega
  have hz2 : ((W : Int) == 0) = false := by simpa using hz
  clear h h1
  go_enter Tryz.func16, Tryz.ntmps16
  go_wp2_with fail
  go_quiet (with_reducible exact HW.out _)
  go_wp2
  go_ret
  exact ⟨rfl, _, rfl⟩

theorem tbrow_nil (s : Int) (w : World) : Calls Tryz.prog 39 #[.pointer none, .int .i64 s] w fun e w' => e = .returned (.slice none 0 0) ∧ w' = w := by
  have HL := Lib.hid (tblen_nil w)
  by_cases h : s < 0
  · have g0 : decide (s < 0) = true := decide_eq_true h
    go_enter Tryz.func39, Tryz.ntmps39
    go_wp2
    go_ret
    exact ⟨rfl, rfl⟩
  · have g0 : decide (s < 0) = false := decide_eq_false h
    have g1 : (0 : Int) ≤ s := by omega
    have g2 : decide ((0 : Int) ≤ s) = true := decide_eq_true g1
    go_enter Tryz.func39, Tryz.ntmps39
    go_wp2_with fail
    refine HL.out.mono ?_
    rintro e w' ⟨rfl, hw⟩
    obtain rfl := hw.symm
    clear hw
    go_wp2
    go_ret
    exact ⟨rfl, rfl⟩

theorem tbrow_out {w : World} {b : Nat} {own : List UInt8} {R : List (List Int)} (h : IsTab w b own R) (s : Int) (hs : s < 0 ∨ (R.length : Int) ≤ s) : Calls Tryz.prog 39 #[.pointer (some ⟨b, 0, none⟩), .int .i64 s] w fun e w' => e = .returned (.slice none 0 0) ∧ ∃ q, w' = w.drewN q := by
  have HL := Lib.hid (tblen_any h)
  clear h
  by_cases h : s < 0
  · have g0 : decide (s < 0) = true := decide_eq_true h
    go_enter Tryz.func39, Tryz.ntmps39
    go_wp2
    go_ret
    exact ⟨rfl, 0, rfl⟩
  · have g0 : decide (s < 0) = false := decide_eq_false h
    have g1 : (R.length : Int) ≤ s := by omega
    have g2 : decide ((R.length : Int) ≤ s) = true := decide_eq_true g1
    go_enter Tryz.func39, Tryz.ntmps39
    go_wp2_with fail
    refine HL.out.mono ?_
    rintro e w' ⟨rfl, q, rfl⟩
    go_wp2
    go_ret
    exact ⟨rfl, q, rfl⟩

theorem IsTab.cells {w : World} {b : Nat} {own : List UInt8} {R : List (List Int)} {g off m : Nat} (hg : GoodT own R) (hc : ∀ i, i < R.length * (own.length + 1) → w.cell? ⟨g, off + i, none⟩ = some (.int .i32 (R.flatten.getD i 0))) (j : Nat) {r : List Int} (hr : R[j]? = some r) :
    j * (own.length + 1) + (own.length + 1) ≤ R.length * (own.length + 1) ∧ IsRow .i32 w (some ⟨g, off + j * (own.length + 1), none⟩) (own.length + 1) (own.length + 1) r := by
  have hj := (List.getElem?_eq_some_iff.1 hr).1
  have hin := seg_in (W := own.length + 1) hj
  have hf := hg.few
  have hl := hg.len r (List.mem_of_getElem? hr)
  refine ⟨hin, .inr ⟨g, off + j * (own.length + 1), rfl, Nat.le_refl _, by unfold maxLen; omega, hl, fun i hi => ?_⟩⟩
  rw [Nat.add_assoc, hc _ (by omega)]
  have := flat_at hg.len j i r hr hi
  simp only [List.getD, this]

set_option maxHeartbeats 2000000 in
theorem tbrow_in {w : World} {b : Nat} {own : List UInt8} {R : List (List Int)} (h : IsTab w b own R) (j : Nat) {r : List Int} (hr : R[j]? = some r) : Calls Tryz.prog 39 #[.pointer (some ⟨b, 0, none⟩), .int .i64 (j : Int)] w fun e w' => (∃ a c, e = .returned (.slice (some a) (own.length + 1) c) ∧ IsRow .i32 w' (some a) (own.length + 1) (own.length + 1) r) ∧ ∃ q, w' = w.drewN q := by
  obtain ⟨hm, hf, hs, hl⟩ := h.most
  have hj := (List.getElem?_eq_some_iff.1 hr).1
  have HL := Lib.hid (tblen_any h)
  have HW1 := Lib.hid (fun (q : Nat) => tbwid_any (h.heap (w' := w.drewN q) rfl))
  have HW2 := Lib.hid (fun (p q : Nat) => Calls.quiet_of_same (n := q) (tbwid_any (h.heap (w' := (w.drewN p).drewN q) rfl)))
  obtain ⟨g, off, cap, h1, hcap, hcm, hc⟩ := h.head
  obtain ⟨hin, hrow⟩ := IsTab.cells (b := b) (m := 0) h.good hc j hr
  have HR := Lib.hid hrow
  have c1 : w.cell? ⟨b, 1, none⟩ = some (.slice (some ⟨g, off, none⟩) (R.length * (own.length + 1)) cap) := by rw [Lib.cell_of_heap h1]; rfl
  obtain ⟨W, hW⟩ : ∃ W, own.length + 1 = W := ⟨_, rfl⟩
  rw [hW] at HW1 HW2 c1 hm HR hin hcap ⊢
  have hWp : 0 < W := by omega
  have hmul : IntKind.i64.wrap ((j : Int) * (W : Int)) = ((j * W : Nat) : Int) := by
    rw [show (j : Int) * (W : Int) = ((j * W : Nat) : Int) by simp, IntKind.wrap_i64]; omega
  have hWl : W ≤ 257 := by omega
  generalize R.length * W = m at *
  generalize j * W = f at *
  have hadd : IntKind.i64.wrap ((f : Int) + (W : Int)) = ((f + W : Nat) : Int) := by rw [IntKind.wrap_i64]; omega
  have g0 : decide ((j : Int) < 0) = false := decide_eq_false (by omega)
  have g1 : ¬ (R.length : Int) ≤ (j : Int) := by omega
  have g2 : decide ((R.length : Int) ≤ (j : Int)) = false := decide_eq_false g1
  have g3 : ¬ R.length ≤ j := by omega
  have g4 : decide (R.length ≤ j) = false := decide_eq_false g3
  have g5 : (f : Int) ≤ ((f + W : Nat) : Int) := by omega
  have g6 : ((f + W : Nat) : Int) ≤ (cap : Int) := by omega
  have g7 : (0 : Int) ≤ (f : Int) := by omega
  have g8 : ¬ f + W = f := by omega
  have g9 : ¬ W = 0 := by omega
  clear h h1 hc hr hj hrow
  go_enter Tryz.func39, Tryz.ntmps39
  go_wp2_with fail
  refine HL.out.mono ?_
  rintro e w' ⟨rfl, q, rfl⟩
  have HW3 := Lib.hid (HW1.out q)
  go_wp2_with fail
  refine HW3.out.mono ?_
  rintro e w' ⟨rfl, hw⟩
  subst hw
  have HW4 := Lib.hid (HW2.out q)
  obtain ⟨w1, hw1⟩ : ∃ w1, w.drewN q = w1 := ⟨_, rfl⟩
  have c1' : w1.cell? ⟨b, 1, none⟩ = some (.slice (some ⟨g, off, none⟩) m cap) := by rw [← hw1]; exact c1
  have HR1 : Hid (∀ n, IsRow .i32 (w1.drewN n) (some ⟨g, off + f, none⟩) W W r) := Lib.hid (fun n => by rw [← hw1]; exact HR.out)
  have HE : Hid (∀ n, ∃ k, w1.drewN n = w.drewN k) := Lib.hid (fun n => ⟨_, by rw [← hw1]; exact World.drewN_drewN ..⟩)
  rw [hw1] at HW4 ⊢
  clear c1 HW1 HW2 HW3 hw1
  go_wp2_with fail
  go_quiet (with_reducible exact HW4.out _)
  go_wp2
  go_ret
  refine ⟨⟨⟨g, off + f, none⟩, cap - f, ?_, HR1.out _⟩, HE.out _⟩
  show Ending.returned (Value.slice (some ⟨g, off + f, none⟩) (f + W - f) (cap - f)) = _
  rw [Nat.add_sub_cancel_left]

/-- What is told of what is no state. -/
theorem tbdepth_none {w : World} {p : Option Addr} {s : Int} (h : Calls Tryz.prog 39 #[.pointer p, .int .i64 s] w fun e w' => e = .returned (.slice none 0 0) ∧ ∃ q, w' = w.drewN q) :
    Calls Tryz.prog 18 #[.pointer p, .int .i64 s] w fun e w' => e = .returned (.int .i64 0) ∧ ∃ q, w' = w.drewN q := by
  have HR := Lib.hid h
  have hnil := dnnil_eq (n' := 0) (c' := 0)
  clear h
  go_enter Tryz.func18, Tryz.ntmps18
  go_wp2_with fail
  refine HR.out.mono ?_
  rintro e w' ⟨rfl, q, rfl⟩
  go_wp2
  go_ret
  exact ⟨rfl, q, rfl⟩
set_option maxRecDepth 100000 in
theorem tbstep_none {w : World} {p : Option Addr} {s : Int} (h : Calls Tryz.prog 39 #[.pointer p, .int .i64 s] w fun e w' => e = .returned (.slice none 0 0) ∧ ∃ q, w' = w.drewN q) (c : UInt8) :
    Calls Tryz.prog 19 #[.pointer p, .int .i64 s, .int .u8 (c.toNat : Int)] w fun e w' => e = .returned (.int .i64 0) ∧ ∃ q, w' = w.drewN q := by
  have HR := Lib.hid h
  have hnil := dnnil_eq (n' := 0) (c' := 0)
  clear h
  go_enter Tryz.func19, Tryz.ntmps19
  go_wp2_with fail
  refine HR.out.mono ?_
  rintro e w' ⟨rfl, q, rfl⟩
  go_wp2
  go_ret
  exact ⟨rfl, q, rfl⟩
theorem tbrow_nilq (s : Int) (w : World) : Calls Tryz.prog 39 #[.pointer none, .int .i64 s] w fun e w' => e = .returned (.slice none 0 0) ∧ ∃ q, w' = w.drewN q :=
  (tbrow_nil s w).mono fun e w' ⟨h1, h2⟩ => ⟨h1, 0, h2⟩

theorem GoodT.cell {own : List UInt8} {R : List (List Int)} (h : GoodT own R) {j : Nat} {r : List Int} (hr : R[j]? = Option.some r) (i : Nat) (hi : i < own.length + 1) : 0 ≤ r.getD i 0 ∧ r.getD i 0 ≤ 16777216 := by
  obtain ⟨d, l, rfl, h0, h1, h2, hl, hx⟩ := h.row j r hr
  have hm := h.most
  have hs := h.some
  cases i with
  | zero => simp; omega
  | succ i =>
    have hil : i < l.length := by omega
    have := hx l[i] (List.getElem_mem hil)
    simp only [List.getD, List.getElem?_cons_succ, List.getElem?_eq_getElem hil, Option.getD_some]
    omega

set_option maxRecDepth 100000 in
theorem tbdepth_any {w : World} {b : Nat} {own : List UInt8} {R : List (List Int)} (h : IsTab w b own R) (no : Int) :
    Calls Tryz.prog 18 #[.pointer (some ⟨b, 0, none⟩), .int .i64 no] w fun e w' => e = .returned (.int .i64 (dptT R no)) ∧ ∃ q, w' = w.drewN q := by
  by_cases hin : 0 ≤ no ∧ no < (R.length : Int)
  · obtain ⟨j, rfl⟩ := Int.eq_ofNat_of_zero_le hin.1
    have hj : j < R.length := by omega
    obtain ⟨r, hr⟩ : ∃ r, R[j]? = some r := ⟨_, List.getElem?_eq_getElem hj⟩
    have HR := Lib.hid (tbrow_in h j hr)
    obtain ⟨x0, x1⟩ := h.good.cell hr 0 (by omega)
    have hW : own.length ≤ 256 := h.good.few
    rw [dpt_in hr]
    obtain ⟨x, hx⟩ : ∃ x, r.getD 0 0 = x := ⟨_, rfl⟩
    have HX := Lib.hid hx
    rw [hx] at x0 x1 ⊢
    have w0 : IntKind.i64.wrap x = x := by rw [IntKind.wrap_i64]; omega
    have hnil := dnnil_eq (n' := 0) (c' := 0)
    have g0 : (0 : Int) < ((own.length + 1 : Nat) : Int) := by omega
    have g1 : (0 : Int) < (own.length : Int) + 1 := by omega
    have g2 : 0 < own.length + 1 := by omega
    clear h hr hj hin hx
    go_enter Tryz.func18, Tryz.ntmps18
    go_wp2_with fail
    refine HR.out.mono ?_
    rintro e w' ⟨⟨a, c, rfl, hrow⟩, q, rfl⟩
    obtain h0 | ⟨g, off, ha, hl, hm, hz, hc⟩ := hrow
    · omega
    cases ha
    have c0 := hc 0 (by omega)
    rw [Nat.add_zero, HX.out] at c0
    clear hc hz hl hm
    go_wp2
    go_ret
    exact ⟨rfl, q, rfl⟩
  · rw [dpt_out (by omega)]
    exact tbdepth_none (tbrow_out h no (by omega))

set_option maxRecDepth 100000 in
set_option maxHeartbeats 1000000 in
theorem tbstep_any {w : World} {b : Nat} {own : List UInt8} {R : List (List Int)} (h : IsTab w b own R) (no : Int) (c : UInt8) :
    Calls Tryz.prog 19 #[.pointer (some ⟨b, 0, none⟩), .int .i64 no, .int .u8 (c.toNat : Int)] w fun e w' => e = .returned (.int .i64 (stpT own R no c)) ∧ ∃ q, w' = w.drewN q := by
  by_cases hin : 0 ≤ no ∧ no < (R.length : Int)
  · obtain ⟨j, rfl⟩ := Int.eq_ofNat_of_zero_le hin.1
    have hj : j < R.length := by omega
    obtain ⟨r, hr⟩ : ∃ r, R[j]? = some r := ⟨_, List.getElem?_eq_getElem hj⟩
    have HR := Lib.hid (tbrow_in h j hr)
    have hW : own.length ≤ 256 := h.good.few
    have hnil := dnnil_eq (n' := 0) (c' := 0)
    obtain ⟨g, off, cap, h1, _⟩ := h.head
    have c0 : w.cell? ⟨b, 0, none⟩ = some (.string ⟨own.toArray⟩) := by rw [Lib.cell_of_heap h1]; rfl
    have HI := Lib.hid (fun W => Tryz.strings_IndexByte ⟨own.toArray⟩ (c.toNat : Int) W)
    have e1 : ((c.toNat : Int)).toNat.toUInt8 = c := by simp
    rw [e1] at HI
    simp only at HI
    rcases index_cases own c with ⟨hx, _⟩ | ⟨k, hx, _, hk⟩
    · rw [stp_none (by omega)]
      rw [hx] at HI
      clear h hr hj hin h1
      go_enter Tryz.func19, Tryz.ntmps19
      go_wp2_with fail
      refine HR.out.mono ?_
      rintro e w' ⟨⟨a, c, rfl, hrow⟩, q, rfl⟩
      clear hrow
      go_wp2_with fail
      refine (HI.out _).mono ?_
      rintro e w' ⟨rfl, hw⟩
      subst hw
      go_wp2
      go_ret
      exact ⟨rfl, q, rfl⟩
    · rw [stp_in hr hx]
      rw [hx] at HI
      obtain ⟨x0, x1⟩ := h.good.cell hr (1 + k) (by omega)
      obtain ⟨x, hxx⟩ : ∃ x, r.getD (1 + k) 0 = x := ⟨_, rfl⟩
      have HX := Lib.hid hxx
      rw [hxx] at x0 x1 ⊢
      have w0 : IntKind.i64.wrap x = x := by rw [IntKind.wrap_i64]; omega
      have w1 : IntKind.i64.wrap (1 + (k : Int)) = ((1 + k : Nat) : Int) := by rw [IntKind.wrap_i64]; omega
      have g1 : ((1 + k : Nat) : Int) < ((own.length + 1 : Nat) : Int) := by omega
      have g2 : (1 : Int) + (k : Int) < (own.length : Int) + 1 := by omega
      have g3 : (0 : Int) ≤ 1 + (k : Int) := by omega
      have g4 : (1 + (k : Int)).toNat = 1 + k := by omega
      clear h hr hj hin hxx h1 hx
      go_enter Tryz.func19, Tryz.ntmps19
      go_wp2_with fail
      refine HR.out.mono ?_
      rintro e w' ⟨⟨a, c, rfl, hrow⟩, q, rfl⟩
      obtain h0 | ⟨g, off, ha, hl, hm, hz, hc⟩ := hrow
      · omega
      cases ha
      have c2 := hc (1 + k) (by omega)
      rw [HX.out] at c2
      clear hc hz hl hm
      go_wp2_with fail
      refine (HI.out _).mono ?_
      rintro e w' ⟨rfl, hw⟩
      subst hw
      go_wp2
      go_ret
      exact ⟨rfl, q, rfl⟩
  · rw [stp_out (by omega)]
    exact tbstep_none (tbrow_out h no (by omega)) c
end Go.Proofs.YtpblllpgmibkoaaGreat
