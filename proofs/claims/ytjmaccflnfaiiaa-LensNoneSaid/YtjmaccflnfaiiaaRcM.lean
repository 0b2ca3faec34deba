/-
  Records as bytes, as lists: what may be written, its bytes, what bytes tell; there and back. No program here.
-/
import Derived.Test.YtjmaccflnfaiiaaBn3
import Derived.Test.YtjmaccflnfaiiaaBn1
set_option linter.unusedSimpArgs false
set_option linter.unusedVariables false
namespace Go.Proofs.Ytjmaccflnfaiiaa

/-- Numbers that rise above one, each a pattern's. -/
def risF : Int → List Int → Bool
  | _, [] => true
  | a, x :: r => decide (a < x) && (decide (x < 65535) && risF x r)
theorem ris_cons {a x : Int} {r : List Int} : risF a (x :: r) = true ↔ a < x ∧ x < 65535 ∧ risF x r = true := by simp [risF]
theorem ris_len : ∀ (l : List Int) (a : Int), -1 ≤ a → a ≤ 65534 → risF a l = true → (l.length : Int) ≤ 65534 - a
  | [], a, h0, h1, h => by simp; omega
  | x :: r, a, h0, h1, h => by
    obtain ⟨h2, h3, h4⟩ := ris_cons.1 h
    have := ris_len r x (by omega) (by omega) h4
    simp only [List.length_cons]
    omega
/-- The least N, and R, of a kind; is a number one of it. -/
def leastK (k : Int) : Int := if k = 5 ∨ k = 6 then 0 else 1
def fitK (k n : Int) : Bool := ofs n && decide (leastK k ≤ n)
theorem fit_bounds {k n : Int} (h : fitK k n = true) : 0 ≤ n ∧ n ≤ 9223372036854775807 := by
  unfold fitK at h
  simp at h
  have := ofs_true h.1
  omega
/-- May it be written? -/
def okK (k n r : Int) (ids : List Int) : Bool :=
  if k = 4 then decide (n = 0) && (decide (r = 0) && risF (-1) ids) else (decide (1 ≤ k) && decide (k ≤ 6)) && (fitK k n && (fitK k r && decide (ids.length = 0)))
theorem ok_at {k n r : Int} {ids : List Int} (h4 : k = 4) : okK k n r ids = true ↔ n = 0 ∧ r = 0 ∧ risF (-1) ids = true := by
  unfold okK; rw [if_pos h4]; simp
theorem ok_no {k n r : Int} {ids : List Int} (h4 : ¬ k = 4) : okK k n r ids = true ↔ (1 ≤ k ∧ k ≤ 6) ∧ fitK k n = true ∧ fitK k r = true ∧ ids = [] := by
  unfold okK; rw [if_neg h4]; simp [List.length_eq_zero_iff]
theorem ok_kind {k n r : Int} {ids : List Int} (h : okK k n r ids = true) : 1 ≤ k ∧ k ≤ 6 := by
  by_cases h4 : k = 4
  · omega
  · exact ((ok_no h4).1 h).1
/-- By how much each is above the one ahead. -/
def difL : Int → List Int → List Int
  | _, [] => []
  | a, x :: r => (x - a) :: difL x r
theorem dif_len : ∀ (l : List Int) (a : Int), (difL a l).length = l.length
  | [], _ => rfl
  | x :: r, a => by simp [difL, dif_len r x]
/-- What is told of it behind its kind. -/
def numsL (k n r : Int) (ids : List Int) : List Int := if k = 4 then (ids.length : Int) :: difL 0 ids else [n, r]
/-- Its bytes. -/
def putK (k n r : Int) (ids : List Int) : List UInt8 := vb k :: vall (numsL k n r ids)

/-- So many Ids, read from here: what is wrong, these, what is left. -/
def idT : Nat → Bool → Int → List UInt8 → Int × List Int × List UInt8
  | 0, _, _, s => (0, [], s)
  | m + 1, f, a, s => if ¬ tE s = 0 then (tE s, [], s) else if tN s = 0 ∧ f = false then (9, [], s) else if 65534 - a < tN s then (11, [], s) else
      ((idT m false (a + tN s) (psv s)).1, (a + tN s) :: (idT m false (a + tN s) (psv s)).2.1, (idT m false (a + tN s) (psv s)).2.2)
theorem id_form {m : Nat} {f : Bool} {a : Int} {s : List UInt8} (h : ¬ tE s = 0) : idT (m + 1) f a s = (tE s, [], s) := by rw [idT, if_pos h]
theorem id_order {m : Nat} {f : Bool} {a : Int} {s : List UInt8} (h : tE s = 0) (h2 : tN s = 0 ∧ f = false) : idT (m + 1) f a s = (9, [], s) := by rw [idT, if_neg (fun g => g h), if_pos h2]
theorem id_range {m : Nat} {f : Bool} {a : Int} {s : List UInt8} (h : tE s = 0) (h2 : ¬ (tN s = 0 ∧ f = false)) (h3 : 65534 - a < tN s) : idT (m + 1) f a s = (11, [], s) := by rw [idT, if_neg (fun g => g h), if_neg h2, if_pos h3]
theorem id_good {m : Nat} {f : Bool} {a : Int} {s : List UInt8} (h : tE s = 0) (h2 : ¬ (tN s = 0 ∧ f = false)) (h3 : ¬ 65534 - a < tN s) : idT (m + 1) f a s = ((idT m false (a + tN s) (psv s)).1, (a + tN s) :: (idT m false (a + tN s) (psv s)).2.1, (idT m false (a + tN s) (psv s)).2.2) := by rw [idT, if_neg (fun g => g h), if_neg h2, if_neg h3]
/-- Ahead of the first one any number that is told will do. -/
def aheadF (f : Bool) (a : Int) : Int := if f then -1 else a
theorem id_put : ∀ (ids : List Int) (f : Bool) (a : Int), (f = true → a = 0) → 0 ≤ a → a ≤ 65534 → risF (aheadF f a) ids = true → ∀ z, idT ids.length f a (vall (difL a ids) ++ z) = (0, ids, z)
  | [], f, a, hf, h0, h1, h, z => rfl
  | x :: r, f, a, hf, h0, h1, h, z => by
    obtain ⟨h2, h3, h4⟩ := ris_cons.1 h
    have hx : a ≤ x ∧ (f = false → a < x) := by
      unfold aheadF at h2
      cases f with
      | true => have := hf rfl; simp at h2; exact ⟨by omega, fun h => by cases h⟩
      | false => simp at h2; exact ⟨by omega, fun _ => h2⟩
    have e : vall (difL a (x :: r)) ++ z = vput (x - a) ++ (vall (difL x r) ++ z) := by simp [difL, vall]
    rw [e]
    have T := take_put (x - a) (by omega) (by omega) (vall (difL x r) ++ z)
    have ih := id_put r false x (fun h => by cases h) (by omega) (by omega) h4 z
    have hg := id_good (m := r.length) (f := f) (a := a) (s := vput (x - a) ++ (vall (difL x r) ++ z)) T.2.2 (by rw [T.1]; rintro ⟨q1, q2⟩; have := hx.2 q2; omega) (by rw [T.1]; omega)
    rw [List.length_cons, hg, T.1, psv_put _ (by omega) (by omega), show a + (x - a) = x by omega, ih]
theorem id_cut : ∀ (ids : List Int) (f : Bool) (a : Int), (f = true → a = 0) → 0 ≤ a → a ≤ 65534 → risF (aheadF f a) ids = true → ∀ c, c < (vall (difL a ids)).length → (idT ids.length f a ((vall (difL a ids)).take c)).1 = 4
  | [], f, a, hf, h0, h1, h, c, hc => by simp [difL, vall] at hc
  | x :: r, f, a, hf, h0, h1, h, c, hc => by
    obtain ⟨h2, h3, h4⟩ := ris_cons.1 h
    have hx : a ≤ x ∧ (f = false → a < x) := by
      unfold aheadF at h2
      cases f with
      | true => have := hf rfl; simp at h2; exact ⟨by omega, fun h => by cases h⟩
      | false => simp at h2; exact ⟨by omega, fun _ => h2⟩
    have e : vall (difL a (x :: r)) = vput (x - a) ++ vall (difL x r) := by simp [difL, vall]
    rw [e] at hc ⊢
    rw [List.length_cons]
    rcases vcut_app (x - a) (by omega) (by omega) (vall (difL x r)) c with ⟨g1, g2⟩ | ⟨d, g1, g2⟩
    · rw [id_form (by rw [g2]; decide), g2]
    · rw [g2]
      rw [List.length_append] at hc
      have T := take_put (x - a) (by omega) (by omega) ((vall (difL x r)).take d)
      have ih := id_cut r false x (fun h => by cases h) (by omega) (by omega) h4 d (by omega)
      rw [id_good T.2.2 (by rw [T.1]; rintro ⟨q1, q2⟩; have := hx.2 q2; omega) (by rw [T.1]; omega), T.1, psv_put _ (by omega) (by omega), show a + (x - a) = x by omega]
      exact ih
theorem id_back : ∀ (m : Nat) (f : Bool) (a : Int) (s : List UInt8), (f = true → a = 0) → 0 ≤ a → a ≤ 65534 → (idT m f a s).1 = 0 → (idT m f a s).2.1.length = m ∧ risF (aheadF f a) (idT m f a s).2.1 = true ∧ vall (difL a (idT m f a s).2.1) ++ (idT m f a s).2.2 = s
  | 0, f, a, s, hf, h0, h1, h => ⟨rfl, rfl, rfl⟩
  | m + 1, f, a, s, hf, h0, h1, h => by
    by_cases e1 : tE s = 0
    · by_cases e2 : tN s = 0 ∧ f = false
      · rw [id_order e1 e2] at h; exact absurd h (by simp)
      · by_cases e3 : 65534 - a < tN s
        · rw [id_range e1 e2 e3] at h; exact absurd h (by simp)
        · have hn := tN_bounds s
          rw [id_good e1 e2 e3] at h ⊢
          obtain ⟨i1, i2, i3⟩ := id_back m false (a + tN s) (psv s) (fun h => by cases h) (by omega) (by omega) h
          refine ⟨by simp only [List.length_cons, i1], ris_cons.2 ⟨?_, by omega, i2⟩, ?_⟩
          · unfold aheadF
            cases f with
            | true => simp; omega
            | false =>
              have : ¬ tN s = 0 := fun q => e2 ⟨q, rfl⟩
              simp; omega
          · simp only [difL, vall]
            rw [show a + tN s - a = tN s by omega, List.append_assoc, i3, put_psv e1]
    · rw [id_form e1] at h; exact absurd h e1

/-- What bytes tell: what is wrong, a record, what is left. -/
structure Tk where
  e : Int
  k : Int
  n : Int
  r : Int
  ids : List Int
  rest : List UInt8
def errR (x : Int) (s : List UInt8) : Tk := ⟨x, 0, 0, 0, [], s⟩
/-- What is wrong with an N, or an R. -/
def fitE (k : Int) (s : List UInt8) : Int := if tE s = 0 then (if fitK k (tN s) = true then 0 else 11) else tE s
theorem fit_ok {k : Int} {s : List UInt8} (h : fitE k s = 0) : tE s = 0 ∧ fitK k (tN s) = true := by
  unfold fitE at h
  by_cases h1 : tE s = 0
  · rw [if_pos h1] at h
    by_cases h2 : fitK k (tN s) = true
    · exact ⟨h1, h2⟩
    · rw [if_neg h2] at h; exact absurd h (by decide)
  · rw [if_neg h1] at h; exact absurd h h1
theorem fit_put {k n : Int} (h : fitK k n = true) (z : List UInt8) : fitE k (vput n ++ z) = 0 := by
  have b := fit_bounds h
  have T := take_put n b.1 b.2 z
  unfold fitE
  rw [T.2.2, T.1, if_pos rfl, if_pos h]
theorem fit_cut {k : Int} {s : List UInt8} (h : tE s = 4) : fitE k s = 4 := by unfold fitE; rw [h]; rfl
/-- Behind a byte that is told as the kind. -/
def tkC (k : Int) (t s : List UInt8) : Tk :=
  if 1 ≤ k ∧ k ≤ 6 then
    (if k = 4 then
      (if tE t = 0 then (if 65535 < tN t then errR 6 s else if (idT (tN t).toNat true 0 (psv t)).1 = 0 then ⟨0, 4, 0, 0, (idT (tN t).toNat true 0 (psv t)).2.1, (idT (tN t).toNat true 0 (psv t)).2.2⟩ else errR (idT (tN t).toNat true 0 (psv t)).1 s) else errR (tE t) s)
    else (if fitE k t = 0 then (if fitE k (psv t) = 0 then ⟨0, k, tN t, tN (psv t), [], psv (psv t)⟩ else errR (fitE k (psv t)) s) else errR (fitE k t) s))
  else errR 3 s
def tkR : List UInt8 → Tk
  | [] => errR 4 []
  | c :: t => tkC (c.toNat : Int) t (c :: t)
theorem rtk_bad (s : List UInt8) (h : ¬ (tkR s).e = 0) : tkR s = errR (tkR s).e s := by
  cases s with
  | nil => rfl
  | cons c t =>
    show tkC _ _ _ = errR (tkC _ _ _).e _
    have h' : ¬ (tkC (c.toNat : Int) t (c :: t)).e = 0 := h
    generalize c :: t = s at h' ⊢
    unfold tkC at h' ⊢
    split
    · split
      · split
        · split
          · rfl
          · split
            · rename_i g1 g2 g3 g4 g5
              rw [if_pos g1, if_pos g2, if_pos g3, if_neg g4, if_pos g5] at h'
              exact absurd rfl h'
            · rfl
        · rfl
      · split
        · split
          · rename_i g1 g2 g3 g4
            rw [if_pos g1, if_neg g2, if_pos g3, if_pos g4] at h'
            exact absurd rfl h'
          · rfl
        · rfl
    · rfl
theorem byte_kind {k : Int} (h : 1 ≤ k ∧ k ≤ 6) : ((vb k).toNat : Int) = k := vb_toNat k (by omega) (by omega)
/-- What was put is taken as it was. -/
theorem rtk_put {k n r : Int} {ids : List Int} (h : okK k n r ids = true) (z : List UInt8) : tkR (putK k n r ids ++ z) = ⟨0, k, n, r, ids, z⟩ := by
  have hk := ok_kind h
  have e0 : putK k n r ids ++ z = vb k :: (vall (numsL k n r ids) ++ z) := rfl
  rw [e0]
  show tkC _ _ _ = _
  rw [byte_kind hk]
  unfold tkC numsL
  rw [if_pos hk]
  by_cases h4 : k = 4
  · obtain ⟨rfl, rfl, h3⟩ := (ok_at h4).1 h
    have hl := ris_len ids (-1) (by omega) (by omega) h3
    rw [if_pos h4, if_pos h4]
    have e : vall ((ids.length : Int) :: difL 0 ids) ++ z = vput (ids.length : Int) ++ (vall (difL 0 ids) ++ z) := by simp [vall]
    rw [e]
    have T := take_put (ids.length : Int) (by omega) (by omega) (vall (difL 0 ids) ++ z)
    rw [T.2.2, T.1, if_pos rfl, if_neg (by omega), psv_put _ (by omega) (by omega), Int.toNat_natCast, id_put ids true 0 (fun _ => rfl) (by omega) (by omega) h3 z, if_pos rfl, h4]
  · obtain ⟨_, hn, hr, rfl⟩ := (ok_no h4).1 h
    have b1 := fit_bounds hn
    have b2 := fit_bounds hr
    rw [if_neg h4, if_neg h4]
    have e : vall [n, r] ++ z = vput n ++ (vput r ++ z) := by simp [vall]
    have T1 := take_put n b1.1 b1.2 (vput r ++ z)
    have T2 := take_put r b2.1 b2.2 z
    rw [e, fit_put hn, if_pos rfl, psv_put n b1.1 b1.2, fit_put hr, if_pos rfl, T1.1, T2.1, psv_put r b2.1 b2.2]
/-- Of bytes that are cut off. -/
theorem rtk_cut {k n r : Int} {ids : List Int} (h : okK k n r ids = true) (c : Nat) (hc : c < (putK k n r ids).length) : (tkR ((putK k n r ids).take c)).e = 4 := by
  have hk := ok_kind h
  cases c with
  | zero => rfl
  | succ c =>
    have e0 : (putK k n r ids).take (c + 1) = vb k :: (vall (numsL k n r ids)).take c := rfl
    have hl : (putK k n r ids).length = (vall (numsL k n r ids)).length + 1 := rfl
    rw [e0]
    have hc' : c < (vall (numsL k n r ids)).length := by omega
    show (tkC _ _ _).e = _
    rw [byte_kind hk]
    generalize vb k :: (vall (numsL k n r ids)).take c = s0
    unfold tkC
    unfold numsL at hc' ⊢
    rw [if_pos hk]
    by_cases h4 : k = 4
    · obtain ⟨rfl, rfl, h3⟩ := (ok_at h4).1 h
      have hlen := ris_len ids (-1) (by omega) (by omega) h3
      rw [if_pos h4] at hc' ⊢
      rw [if_pos h4]
      have e : vall ((ids.length : Int) :: difL 0 ids) = vput (ids.length : Int) ++ vall (difL 0 ids) := rfl
      rw [e] at hc' ⊢
      rcases vcut_app (ids.length : Int) (by omega) (by omega) (vall (difL 0 ids)) c with ⟨g1, g2⟩ | ⟨d, g1, g2⟩
      · rw [g2, if_neg (by decide)]; rfl
      · rw [g2]
        rw [List.length_append] at hc'
        have T := take_put (ids.length : Int) (by omega) (by omega) ((vall (difL 0 ids)).take d)
        have H := id_cut ids true 0 (fun _ => rfl) (by omega) (by omega) h3 d (by omega)
        rw [T.2.2, T.1, if_pos rfl, if_neg (by omega), psv_put _ (by omega) (by omega), Int.toNat_natCast, H, if_neg (by decide)]
        rfl
    · obtain ⟨_, hn, hr, rfl⟩ := (ok_no h4).1 h
      have b1 := fit_bounds hn
      have b2 := fit_bounds hr
      rw [if_neg h4] at hc' ⊢
      rw [if_neg h4]
      have e : vall [n, r] = vput n ++ (vput r ++ []) := rfl
      rw [e] at hc' ⊢
      rw [List.append_nil] at hc' ⊢
      rcases vcut_app n b1.1 b1.2 (vput r) c with ⟨g1, g2⟩ | ⟨d, g1, g2⟩
      · rw [fit_cut g2, if_neg (by decide)]; rfl
      · rw [g2]
        rw [List.length_append] at hc'
        have g3 := vcut r b2.1 b2.2 d (by omega)
        rw [fit_put hn, if_pos rfl, psv_put n b1.1 b1.2, fit_cut g3, if_neg (by decide)]; rfl
/-- Bytes that are taken are those that are put of the record. -/
theorem rtk_back {s : List UInt8} (h : (tkR s).e = 0) : okK (tkR s).k (tkR s).n (tkR s).r (tkR s).ids = true ∧ putK (tkR s).k (tkR s).n (tkR s).r (tkR s).ids ++ (tkR s).rest = s := by
  cases s with
  | nil => exact absurd h (by decide)
  | cons c t =>
    have e0 : tkR (c :: t) = tkC (c.toNat : Int) t (c :: t) := rfl
    rw [e0] at h ⊢
    have hv : ∀ k : Int, (c.toNat : Int) = k → vb k = c := fun k e => by subst e; unfold vb; simp
    unfold tkC at h ⊢
    by_cases h1 : 1 ≤ (c.toNat : Int) ∧ (c.toNat : Int) ≤ 6
    · rw [if_pos h1] at h ⊢
      by_cases h4 : (c.toNat : Int) = 4
      · rw [if_pos h4] at h ⊢
        by_cases h5 : tE t = 0
        · rw [if_pos h5] at h ⊢
          by_cases h6 : 65535 < tN t
          · rw [if_pos h6] at h; exact absurd h (by simp [errR])
          · rw [if_neg h6] at h ⊢
            by_cases h7 : (idT (tN t).toNat true 0 (psv t)).1 = 0
            · rw [if_pos h7]
              have hn := tN_bounds t
              obtain ⟨i1, i2, i3⟩ := id_back _ true 0 _ (fun _ => rfl) (by omega) (by omega) h7
              refine ⟨(ok_at rfl).2 ⟨rfl, rfl, i2⟩, ?_⟩
              show vb 4 :: (vall (numsL 4 0 0 _) ++ _) = c :: t
              rw [hv 4 h4]
              congr 1
              unfold numsL
              rw [if_pos rfl]
              simp only [vall]
              rw [i1, Int.toNat_of_nonneg hn.1, List.append_assoc, i3, put_psv h5]
            · rw [if_neg h7] at h
              exact absurd h h7
        · rw [if_neg h5] at h; exact absurd h h5
      · rw [if_neg h4] at h ⊢
        by_cases h5 : fitE (c.toNat : Int) t = 0
        · rw [if_pos h5] at h ⊢
          by_cases h6 : fitE (c.toNat : Int) (psv t) = 0
          · rw [if_pos h6] at h ⊢
            obtain ⟨a1, a2⟩ := fit_ok h5
            obtain ⟨b1, b2⟩ := fit_ok h6
            refine ⟨(ok_no h4).2 ⟨h1, a2, b2, rfl⟩, ?_⟩
            show vb _ :: (vall (numsL _ _ _ _) ++ _) = c :: t
            rw [hv _ rfl]
            congr 1
            unfold numsL
            rw [if_neg h4]
            simp only [vall]
            rw [List.append_nil, List.append_assoc, put_psv b1, put_psv a1]
          · rw [if_neg h6] at h; exact absurd h h6
        · rw [if_neg h5] at h; exact absurd h h5
    · rw [if_neg h1] at h; exact absurd h (by simp [errR])
end Go.Proofs.Ytjmaccflnfaiiaa
