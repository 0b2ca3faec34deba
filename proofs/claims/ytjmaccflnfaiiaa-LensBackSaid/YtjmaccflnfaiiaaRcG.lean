/-
  The document's Take of layer 28: walked.
-/
import Derived.Test.YtjmaccflnfaiiaaBn9
import Derived.Test.YtjmaccflnfaiiaaRcF
import Derived.Test.YtjmaccflnfaiiaaBn8
import Derived.Test.YtjmaccflnfaiiaaBn5
set_option linter.unusedSimpArgs false
set_option linter.unusedVariables false
namespace Go.Proofs.Ytjmaccflnfaiiaa
open Go.RowKit

/-- Is a number none of a kind, or one: what is asked, one behind the other. -/
theorem fit_bad {k n : Int} (hk : 1 ≤ k ∧ k ≤ 6) (h4 : ¬ k = 4) (h : ¬ fitK k n = true) : ofs n = false ∨ (ofs n = true ∧ k < 4 ∧ n = 0) := by
  cases ho : ofs n with
  | false => exact .inl rfl
  | true =>
    refine .inr ⟨rfl, ?_⟩
    have hb := ofs_true ho
    unfold fitK leastK at h
    rw [ho] at h
    by_cases h5 : k = 5 ∨ k = 6
    · rw [if_pos h5] at h
      simp at h
      omega
    · rw [if_neg h5] at h
      simp at h
      omega
theorem fit_good {k n : Int} (hk : 1 ≤ k ∧ k ≤ 6) (h4 : ¬ k = 4) (h : fitK k n = true) : ofs n = true ∧ ((k < 4 ∧ (n == 0) = false) ∨ ¬ k < 4) := by
  unfold fitK leastK at h
  simp only [Bool.and_eq_true, decide_eq_true_eq] at h
  refine ⟨h.1, ?_⟩
  by_cases h5 : k = 5 ∨ k = 6
  · exact .inr (by omega)
  · rw [if_neg h5] at h
    by_cases h3 : k < 4
    · exact .inl ⟨h3, by simp; omega⟩
    · exact .inr h3

/-- Behind the byte of an At. -/
theorem id_tk (c : UInt8) (t : List UInt8) (h4 : (c.toNat : Int) = 4) : (¬ (idsR t).1 = 0 → tkR (c :: t) = errR (idsR t).1 (c :: t)) ∧ ((idsR t).1 = 0 → tkR (c :: t) = ⟨0, 4, 0, 0, (idsR t).2.1, (idsR t).2.2⟩) := by
  have e0 : tkR (c :: t) = tkC 4 t (c :: t) := by show tkC (c.toNat : Int) t (c :: t) = _; rw [h4]
  rw [e0]
  unfold tkC idsR
  rw [if_pos (show (1 : Int) ≤ 4 ∧ (4 : Int) ≤ 6 from by decide), if_pos (rfl : (4 : Int) = 4)]
  by_cases c1 : tE t = 0
  · rw [if_pos c1, if_pos c1]
    by_cases c2 : 65535 < tN t
    · rw [if_pos c2, if_pos c2]
      exact ⟨fun _ => rfl, fun h => absurd h (by simp)⟩
    · rw [if_neg c2, if_neg c2]
      by_cases c3 : (idT (tN t).toNat true 0 (psv t)).1 = 0
      · rw [if_pos c3]
        exact ⟨fun h => absurd c3 h, fun _ => rfl⟩
      · rw [if_neg c3]
        exact ⟨fun _ => rfl, fun h => absurd h c3⟩
  · rw [if_neg c1, if_neg c1]
    exact ⟨fun _ => rfl, fun h => absurd h c1⟩

theorem retk_err {s : List UInt8} {y : Int} {w w' : World} (h : tkR s = errR y s) (hb : Below w.heap.size w w') : RetTk (tkR s) s.length w (.returned (.tuple #[.agg #[.int .i64 0, .int .i64 0, .int .i64 0, .slice none 0 0], .int .i64 0, .int .i64 y])) w' := by
  rw [h]
  exact ⟨none, 0, by simp [errR], OwnI.nil, hb⟩

set_option maxRecDepth 100000 in
set_option maxHeartbeats 2000000 in
theorem rtk_nil (w : World) : Calls Try.prog 29 #[.string ⟨#[]⟩] w (RetTk (tkR []) 0 w) := by
  obtain ⟨w1, hw1⟩ : ∃ w1, w.alloc (.cells #[.int .i64 0, .int .i64 0, .int .i64 0, .slice none 0 0] 34) = w1 := ⟨_, rfl⟩
  have hX1 : w1.heap[w.heap.size]? = some (.cells #[.int .i64 0, .int .i64 0, .int .i64 0, .slice none 0 0] 34 (0, 0)) := by rw [← hw1]; exact heap_alloc_new w _
  have hB1 : Below w.heap.size w w1 := by rw [← hw1]; exact (Below.refl w.heap.size w).alloc (Nat.le_refl _) _
  obtain ⟨d0, d1, d2, d3⟩ := rec_reads hX1
  obtain ⟨g0, g1, g2, g3⟩ := rec_free hX1
  have HB1 := Lib.hid hB1
  have HF := Lib.hid (put_rec hX1 (.int .i64 0) (.int .i64 0) (.int .i64 0) (.slice none 0 0))
  have HE : Hid (tkR [] = errR 4 []) := Lib.hid rfl
  clear hX1 hB1
  go_enter Try.func29, Try.ntmps29
  go_wp2_with fail
  try rw [hw1]
  go_wp2
  obtain ⟨j0, j1, j2, j3⟩ := rec_reads HF.out
  refine bodyPost_ret (v := .tuple #[.agg #[.int .i64 0, .int .i64 0, .int .i64 0, .slice none 0 0], .int .i64 0, .int .i64 4]) (by simp [results, Try.results29, go_sem, j0, j1, j2, j3]) rfl ?_
  exact retk_err HE.out (below_rec HB1.out (Nat.le_refl _) _ _ _ _)

set_option maxRecDepth 100000 in
set_option maxHeartbeats 2000000 in
theorem rtk_kind (c : UInt8) (t : List UInt8) (w : World) (hs : t.length ≤ 1000000000) (h : ¬ (1 ≤ (c.toNat : Int) ∧ (c.toNat : Int) ≤ 6)) : Calls Try.prog 29 #[.string ⟨(c :: t).toArray⟩] w (RetTk (tkR (c :: t)) (c :: t).length w) := by
  obtain ⟨w1, hw1⟩ : ∃ w1, w.alloc (.cells #[.int .i64 0, .int .i64 0, .int .i64 0, .slice none 0 0] 34) = w1 := ⟨_, rfl⟩
  have hX1 : w1.heap[w.heap.size]? = some (.cells #[.int .i64 0, .int .i64 0, .int .i64 0, .slice none 0 0] 34 (0, 0)) := by rw [← hw1]; exact heap_alloc_new w _
  have hB1 : Below w.heap.size w w1 := by rw [← hw1]; exact (Below.refl w.heap.size w).alloc (Nat.le_refl _) _
  obtain ⟨d0, d1, d2, d3⟩ := rec_reads hX1
  obtain ⟨g0, g1, g2, g3⟩ := rec_free hX1
  have HB1 := Lib.hid hB1
  have HF := Lib.hid (put_rec hX1 (.int .i64 0) (.int .i64 0) (.int .i64 0) (.slice none 0 0))
  have HE : Hid (tkR (c :: t) = errR 3 (c :: t)) := Lib.hid (by show tkC _ _ _ = _; unfold tkC; rw [if_neg h])
  have hc := c.toNat_lt
  have Z1 := bsize (c :: t)
  have hb0 := byteAt (c :: t) 0 (by simp) (by rw [Z1]; simp)
  rw [List.getElem_cons_zero] at hb0
  clear hX1 hB1
  have hcase : ((c.toNat : Int) < 1) ∨ (¬ (c.toNat : Int) < 1 ∧ 6 < (c.toNat : Int)) := by omega
  clear h
  rcases hcase with k1 | ⟨k1, k2⟩
  all_goals
    go_enter Try.func29, Try.ntmps29
    go_wp2_with fail
    try rw [hw1]
    go_wp2
    obtain ⟨j0, j1, j2, j3⟩ := rec_reads HF.out
    refine bodyPost_ret (v := .tuple #[.agg #[.int .i64 0, .int .i64 0, .int .i64 0, .slice none 0 0], .int .i64 0, .int .i64 3]) (by simp [results, Try.results29, go_sem, j0, j1, j2, j3]) rfl ?_
    exact retk_err HE.out (below_rec HB1.out (Nat.le_refl _) _ _ _ _)

set_option maxRecDepth 100000 in
set_option maxHeartbeats 2000000 in
theorem rtk_num1 (c : UInt8) (t : List UInt8) (w : World) (hs : t.length ≤ 1000000000) (hk : 1 ≤ (c.toNat : Int) ∧ (c.toNat : Int) ≤ 6) (h4 : ¬ (c.toNat : Int) = 4) (he : ¬ tE t = 0) : Calls Try.prog 29 #[.string ⟨(c :: t).toArray⟩] w (RetTk (tkR (c :: t)) (c :: t).length w) := by
  obtain ⟨w1, hw1⟩ : ∃ w1, w.alloc (.cells #[.int .i64 0, .int .i64 0, .int .i64 0, .slice none 0 0] 34) = w1 := ⟨_, rfl⟩
  have hX1 : w1.heap[w.heap.size]? = some (.cells #[.int .i64 0, .int .i64 0, .int .i64 0, .slice none 0 0] 34 (0, 0)) := by rw [← hw1]; exact heap_alloc_new w _
  have hB1 : Below w.heap.size w w1 := by rw [← hw1]; exact (Below.refl w.heap.size w).alloc (Nat.le_refl _) _
  obtain ⟨d0, d1, d2, d3⟩ := rec_reads hX1
  obtain ⟨g0, g1, g2, g3⟩ := rec_free hX1
  have HB1 := Lib.hid hB1
  have HF := Lib.hid (put_rec hX1 (.int .i64 0) (.int .i64 0) (.int .i64 0) (.slice none 0 0))
  have HE : Hid (tkR (c :: t) = errR (tE t) (c :: t)) := Lib.hid (by
    have hf : fitE (c.toNat : Int) t = tE t := by unfold fitE; rw [if_neg he]
    show tkC _ _ _ = _
    unfold tkC
    rw [if_pos hk, if_neg h4, hf, if_neg he])
  have hc := c.toNat_lt
  have Z1 := bsize (c :: t)
  have hb0 := byteAt (c :: t) 0 (by simp) (by rw [Z1]; simp)
  rw [List.getElem_cons_zero] at hb0
  have x1 := ext_rest (c :: t) 1
  rw [show (c :: t).drop 1 = t from rfl, List.length_cons] at x1
  obtain ⟨k1, k2⟩ := hk
  have k3 : ¬ (c.toNat : Int) < 1 := by omega
  have k4 : ¬ 6 < (c.toNat : Int) := by omega
  have k5 : ((c.toNat : Int) == 4) = false := by simpa using h4
  have HT := Lib.hid (fun W => reftake_any t W (by omega))
  have hs0 : tS t = 0 := by unfold tS; rw [if_neg he]
  have hn : tN t = 0 := by unfold tN; rw [if_neg he]
  rw [hs0, hn] at HT
  generalize tE t = y at *
  have gy : (y != 0) = true := by simpa using he
  clear hX1 hB1 hs0 hn he h4 k1 k2
  go_enter Try.func29, Try.ntmps29
  go_wp2_with fail
  try rw [hw1]
  try rw [x1]
  refine (HT.out _).mono ?_
  rintro e w' ⟨rfl, hw⟩
  subst hw
  go_wp2
  obtain ⟨j0, j1, j2, j3⟩ := rec_reads HF.out
  refine bodyPost_ret (v := .tuple #[.agg #[.int .i64 0, .int .i64 0, .int .i64 0, .slice none 0 0], .int .i64 0, .int .i64 y]) (by simp [results, Try.results29, go_sem, j0, j1, j2, j3]) rfl ?_
  exact retk_err HE.out (below_rec HB1.out (Nat.le_refl _) _ _ _ _)

set_option maxRecDepth 100000 in
set_option maxHeartbeats 2000000 in
theorem rtk_fit1 (c : UInt8) (t : List UInt8) (w : World) (hs : t.length ≤ 1000000000) (hk : 1 ≤ (c.toNat : Int) ∧ (c.toNat : Int) ≤ 6) (h4 : ¬ (c.toNat : Int) = 4) (he : tE t = 0) (hf : ¬ fitK (c.toNat : Int) (tN t) = true) : Calls Try.prog 29 #[.string ⟨(c :: t).toArray⟩] w (RetTk (tkR (c :: t)) (c :: t).length w) := by
  obtain ⟨w1, hw1⟩ : ∃ w1, w.alloc (.cells #[.int .i64 0, .int .i64 0, .int .i64 0, .slice none 0 0] 34) = w1 := ⟨_, rfl⟩
  have hX1 : w1.heap[w.heap.size]? = some (.cells #[.int .i64 0, .int .i64 0, .int .i64 0, .slice none 0 0] 34 (0, 0)) := by rw [← hw1]; exact heap_alloc_new w _
  have hB1 : Below w.heap.size w w1 := by rw [← hw1]; exact (Below.refl w.heap.size w).alloc (Nat.le_refl _) _
  obtain ⟨d0, d1, d2, d3⟩ := rec_reads hX1
  obtain ⟨g0, g1, g2, g3⟩ := rec_free hX1
  have HB1 := Lib.hid hB1
  have HF := Lib.hid (put_rec hX1 (.int .i64 0) (.int .i64 0) (.int .i64 0) (.slice none 0 0))
  have HE : Hid (tkR (c :: t) = errR 11 (c :: t)) := Lib.hid (by
    have hf : fitE (c.toNat : Int) t = 11 := by unfold fitE; rw [if_pos he, if_neg hf]
    show tkC _ _ _ = _
    unfold tkC
    rw [if_pos hk, if_neg h4, hf, if_neg (by decide)])
  have hcase := fit_bad hk h4 hf
  have hc := c.toNat_lt
  have Z1 := bsize (c :: t)
  have hb0 := byteAt (c :: t) 0 (by simp) (by rw [Z1]; simp)
  rw [List.getElem_cons_zero] at hb0
  have x1 := ext_rest (c :: t) 1
  rw [show (c :: t).drop 1 = t from rfl, List.length_cons] at x1
  obtain ⟨k1, k2⟩ := hk
  have k3 : ¬ (c.toNat : Int) < 1 := by omega
  have k4 : ¬ 6 < (c.toNat : Int) := by omega
  have k5 : ((c.toNat : Int) == 4) = false := by simpa using h4
  have HT := Lib.hid (fun W => reftake_any t W (by omega))
  rw [he] at HT
  have HI := Lib.hid (fun W q (hq : ofs (tN t) = q) => ris_any (tN t) W q hq)
  generalize tN t = n at *
  generalize tS t = z at *
  clear hX1 hB1 he h4 k1 k2 hf
  rcases hcase with ho | ⟨ho, k6, rfl⟩
  · have HI1 := Lib.hid (fun W => HI.out W false ho)
    clear HI ho
    go_enter Try.func29, Try.ntmps29
    go_wp2_with fail
    try rw [hw1]
    try rw [x1]
    refine (HT.out _).mono ?_
    rintro e w' ⟨rfl, hw⟩
    subst hw
    go_wp2_with fail
    refine (HI1.out _).mono ?_
    rintro e w' ⟨rfl, hw⟩
    subst hw
    go_wp2
    obtain ⟨j0, j1, j2, j3⟩ := rec_reads HF.out
    refine bodyPost_ret (v := .tuple #[.agg #[.int .i64 0, .int .i64 0, .int .i64 0, .slice none 0 0], .int .i64 0, .int .i64 11]) (by simp [results, Try.results29, go_sem, j0, j1, j2, j3]) rfl ?_
    exact retk_err HE.out (below_rec HB1.out (Nat.le_refl _) _ _ _ _)
  · have HI1 := Lib.hid (fun W => HI.out W true ho)
    clear HI ho
    go_enter Try.func29, Try.ntmps29
    go_wp2_with fail
    try rw [hw1]
    try rw [x1]
    refine (HT.out _).mono ?_
    rintro e w' ⟨rfl, hw⟩
    subst hw
    go_wp2_with fail
    refine (HI1.out _).mono ?_
    rintro e w' ⟨rfl, hw⟩
    subst hw
    go_wp2
    obtain ⟨j0, j1, j2, j3⟩ := rec_reads HF.out
    refine bodyPost_ret (v := .tuple #[.agg #[.int .i64 0, .int .i64 0, .int .i64 0, .slice none 0 0], .int .i64 0, .int .i64 11]) (by simp [results, Try.results29, go_sem, j0, j1, j2, j3]) rfl ?_
    exact retk_err HE.out (below_rec HB1.out (Nat.le_refl _) _ _ _ _)

set_option maxRecDepth 100000 in
set_option maxHeartbeats 2000000 in
theorem rtk_num2 (c : UInt8) (t : List UInt8) (w : World) (hs : t.length ≤ 1000000000) (hk : 1 ≤ (c.toNat : Int) ∧ (c.toNat : Int) ≤ 6) (h4 : ¬ (c.toNat : Int) = 4) (he : tE t = 0) (hf : fitK (c.toNat : Int) (tN t) = true) (he2 : ¬ tE (psv t) = 0) : Calls Try.prog 29 #[.string ⟨(c :: t).toArray⟩] w (RetTk (tkR (c :: t)) (c :: t).length w) := by
  obtain ⟨w1, hw1⟩ : ∃ w1, w.alloc (.cells #[.int .i64 0, .int .i64 0, .int .i64 0, .slice none 0 0] 34) = w1 := ⟨_, rfl⟩
  have hX1 : w1.heap[w.heap.size]? = some (.cells #[.int .i64 0, .int .i64 0, .int .i64 0, .slice none 0 0] 34 (0, 0)) := by rw [← hw1]; exact heap_alloc_new w _
  have hB1 : Below w.heap.size w w1 := by rw [← hw1]; exact (Below.refl w.heap.size w).alloc (Nat.le_refl _) _
  obtain ⟨d0, d1, d2, d3⟩ := rec_reads hX1
  obtain ⟨g0, g1, g2, g3⟩ := rec_free hX1
  have HB1 := Lib.hid hB1
  have HF := Lib.hid (put_rec hX1 (.int .i64 0) (.int .i64 0) (.int .i64 0) (.slice none 0 0))
  have HE : Hid (tkR (c :: t) = errR (tE (psv t)) (c :: t)) := Lib.hid (by
    have hf0 : fitE (c.toNat : Int) t = 0 := by unfold fitE; rw [if_pos he, if_pos hf]
    have hf2 : fitE (c.toNat : Int) (psv t) = tE (psv t) := by unfold fitE; rw [if_neg he2]
    show tkC _ _ _ = _
    unfold tkC
    rw [if_pos hk, if_neg h4, if_pos hf0, hf2, if_neg he2])
  have hc := c.toNat_lt
  have Z1 := bsize (c :: t)
  have hb0 := byteAt (c :: t) 0 (by simp) (by rw [Z1]; simp)
  rw [List.getElem_cons_zero] at hb0
  have x1 := ext_rest (c :: t) 1
  rw [show (c :: t).drop 1 = t from rfl, List.length_cons] at x1
  have HT := Lib.hid (fun W => reftake_any t W (by omega))
  obtain ⟨p1, p2, _⟩ := put_take t he
  obtain ⟨z, hz⟩ : ∃ z : Nat, tS t = (z : Int) := ⟨(tS t).toNat, by omega⟩
  have hp : (c :: t).drop (1 + z) = psv t := by unfold psv; rw [hz, Int.toNat_natCast, Nat.add_comm]; rfl
  have x2 := ext_rest (c :: t) (1 + z)
  rw [hp, List.length_cons] at x2
  have hpl := psv_le t
  have hwz : IntKind.i64.wrap (1 + (z : Int)) = ((1 + z : Nat) : Int) := by rw [IntKind.wrap_i64]; omega
  have hwz1 : (0 : Int) ≤ 1 + (z : Int) := by omega
  have hwz2 : (1 : Int) + (z : Int) ≤ (t.length : Int) + 1 := by omega
  have hwz3 : ((1 : Int) + (z : Int)).toNat = 1 + z := by omega
  obtain ⟨hof, hg1⟩ := fit_good hk h4 hf
  have HI1 := Lib.hid (fun W => ris_any (tN t) W true hof)
  rw [he, hz] at HT
  have HT2 := Lib.hid (fun W => reftake_any (psv t) W (by omega))
  obtain ⟨k1, k2⟩ := hk
  have k3 : ¬ (c.toNat : Int) < 1 := by omega
  have k4 : ¬ 6 < (c.toNat : Int) := by omega
  have k5 : ((c.toNat : Int) == 4) = false := by simpa using h4
  have hs0 : tS (psv t) = 0 := by unfold tS; rw [if_neg he2]
  have hn : tN (psv t) = 0 := by unfold tN; rw [if_neg he2]
  rw [hs0, hn] at HT2
  generalize tE (psv t) = y at *
  have gy : (y != 0) = true := by simpa using he2
  generalize tN t = n at *
  clear hX1 hB1 hs0 hn he he2 hf h4 k1 k2 hp p1 p2 hz hof hpl
  rcases hg1 with ⟨k6, k7⟩ | k6
  all_goals
    go_enter Try.func29, Try.ntmps29
    go_wp2_with fail
    try rw [hw1]
    try rw [x1]
    refine (HT.out _).mono ?_
    rintro e w' ⟨rfl, hw⟩
    subst hw
    go_wp2_with fail
    refine (HI1.out _).mono ?_
    rintro e w' ⟨rfl, hw⟩
    subst hw
    go_wp2_with fail
    try rw [x2]
    refine (HT2.out _).mono ?_
    rintro e w' ⟨rfl, hw⟩
    subst hw
    go_wp2
    obtain ⟨j0, j1, j2, j3⟩ := rec_reads HF.out
    refine bodyPost_ret (v := .tuple #[.agg #[.int .i64 0, .int .i64 0, .int .i64 0, .slice none 0 0], .int .i64 0, .int .i64 y]) (by simp [results, Try.results29, go_sem, j0, j1, j2, j3]) rfl ?_
    exact retk_err HE.out (below_rec HB1.out (Nat.le_refl _) _ _ _ _)

set_option maxRecDepth 100000 in
set_option maxHeartbeats 2000000 in
theorem rtk_fit2 (c : UInt8) (t : List UInt8) (w : World) (hs : t.length ≤ 1000000000) (hk : 1 ≤ (c.toNat : Int) ∧ (c.toNat : Int) ≤ 6) (h4 : ¬ (c.toNat : Int) = 4) (he : tE t = 0) (hf : fitK (c.toNat : Int) (tN t) = true) (he2 : tE (psv t) = 0) (hf2 : ¬ fitK (c.toNat : Int) (tN (psv t)) = true) : Calls Try.prog 29 #[.string ⟨(c :: t).toArray⟩] w (RetTk (tkR (c :: t)) (c :: t).length w) := by
  obtain ⟨w1, hw1⟩ : ∃ w1, w.alloc (.cells #[.int .i64 0, .int .i64 0, .int .i64 0, .slice none 0 0] 34) = w1 := ⟨_, rfl⟩
  have hX1 : w1.heap[w.heap.size]? = some (.cells #[.int .i64 0, .int .i64 0, .int .i64 0, .slice none 0 0] 34 (0, 0)) := by rw [← hw1]; exact heap_alloc_new w _
  have hB1 : Below w.heap.size w w1 := by rw [← hw1]; exact (Below.refl w.heap.size w).alloc (Nat.le_refl _) _
  obtain ⟨d0, d1, d2, d3⟩ := rec_reads hX1
  obtain ⟨g0, g1, g2, g3⟩ := rec_free hX1
  have HB1 := Lib.hid hB1
  have HF := Lib.hid (put_rec hX1 (.int .i64 0) (.int .i64 0) (.int .i64 0) (.slice none 0 0))
  have HE : Hid (tkR (c :: t) = errR 11 (c :: t)) := Lib.hid (by
    have hf0 : fitE (c.toNat : Int) t = 0 := by unfold fitE; rw [if_pos he, if_pos hf]
    have hf3 : fitE (c.toNat : Int) (psv t) = 11 := by unfold fitE; rw [if_pos he2, if_neg hf2]
    show tkC _ _ _ = _
    unfold tkC
    rw [if_pos hk, if_neg h4, if_pos hf0, hf3, if_neg (by decide)])
  have hcase := fit_bad hk h4 hf2
  have hc := c.toNat_lt
  have Z1 := bsize (c :: t)
  have hb0 := byteAt (c :: t) 0 (by simp) (by rw [Z1]; simp)
  rw [List.getElem_cons_zero] at hb0
  have x1 := ext_rest (c :: t) 1
  rw [show (c :: t).drop 1 = t from rfl, List.length_cons] at x1
  have HT := Lib.hid (fun W => reftake_any t W (by omega))
  obtain ⟨p1, p2, _⟩ := put_take t he
  obtain ⟨z, hz⟩ : ∃ z : Nat, tS t = (z : Int) := ⟨(tS t).toNat, by omega⟩
  have hp : (c :: t).drop (1 + z) = psv t := by unfold psv; rw [hz, Int.toNat_natCast, Nat.add_comm]; rfl
  have x2 := ext_rest (c :: t) (1 + z)
  rw [hp, List.length_cons] at x2
  have hpl := psv_le t
  have hwz : IntKind.i64.wrap (1 + (z : Int)) = ((1 + z : Nat) : Int) := by rw [IntKind.wrap_i64]; omega
  have hwz1 : (0 : Int) ≤ 1 + (z : Int) := by omega
  have hwz2 : (1 : Int) + (z : Int) ≤ (t.length : Int) + 1 := by omega
  have hwz3 : ((1 : Int) + (z : Int)).toNat = 1 + z := by omega
  obtain ⟨hof, hg1⟩ := fit_good hk h4 hf
  have HI1 := Lib.hid (fun W => ris_any (tN t) W true hof)
  rw [he, hz] at HT
  have HT2 := Lib.hid (fun W => reftake_any (psv t) W (by omega))
  obtain ⟨k1, k2⟩ := hk
  have k3 : ¬ (c.toNat : Int) < 1 := by omega
  have k4 : ¬ 6 < (c.toNat : Int) := by omega
  have k5 : ((c.toNat : Int) == 4) = false := by simpa using h4
  rw [he2] at HT2
  have HI := Lib.hid (fun W q (hq : ofs (tN (psv t)) = q) => ris_any (tN (psv t)) W q hq)
  generalize tN (psv t) = m at *
  generalize tS (psv t) = z2 at *
  generalize tN t = n at *
  clear hX1 hB1 he he2 hf hf2 h4 k1 k2 hp p1 p2 hz hof hpl
  rcases hcase with ho | ⟨ho, k8, rfl⟩
  · have HI2 := Lib.hid (fun W => HI.out W false ho)
    clear HI ho
    rcases hg1 with ⟨k6, k7⟩ | k6
    all_goals
      go_enter Try.func29, Try.ntmps29
      go_wp2_with fail
      try rw [hw1]
      try rw [x1]
      refine (HT.out _).mono ?_
      rintro e w' ⟨rfl, hw⟩
      subst hw
      go_wp2_with fail
      refine (HI1.out _).mono ?_
      rintro e w' ⟨rfl, hw⟩
      subst hw
      go_wp2_with fail
      try rw [x2]
      refine (HT2.out _).mono ?_
      rintro e w' ⟨rfl, hw⟩
      subst hw
      go_wp2_with fail
      refine (HI2.out _).mono ?_
      rintro e w' ⟨rfl, hw⟩
      subst hw
      go_wp2
      obtain ⟨j0, j1, j2, j3⟩ := rec_reads HF.out
      refine bodyPost_ret (v := .tuple #[.agg #[.int .i64 0, .int .i64 0, .int .i64 0, .slice none 0 0], .int .i64 0, .int .i64 11]) (by simp [results, Try.results29, go_sem, j0, j1, j2, j3]) rfl ?_
      exact retk_err HE.out (below_rec HB1.out (Nat.le_refl _) _ _ _ _)
  · have HI2 := Lib.hid (fun W => HI.out W true ho)
    clear HI ho
    rcases hg1 with ⟨k6, k7⟩ | k6
    ·
      go_enter Try.func29, Try.ntmps29
      go_wp2_with fail
      try rw [hw1]
      try rw [x1]
      refine (HT.out _).mono ?_
      rintro e w' ⟨rfl, hw⟩
      subst hw
      go_wp2_with fail
      refine (HI1.out _).mono ?_
      rintro e w' ⟨rfl, hw⟩
      subst hw
      go_wp2_with fail
      try rw [x2]
      refine (HT2.out _).mono ?_
      rintro e w' ⟨rfl, hw⟩
      subst hw
      go_wp2_with fail
      refine (HI2.out _).mono ?_
      rintro e w' ⟨rfl, hw⟩
      subst hw
      go_wp2
      obtain ⟨j0, j1, j2, j3⟩ := rec_reads HF.out
      refine bodyPost_ret (v := .tuple #[.agg #[.int .i64 0, .int .i64 0, .int .i64 0, .slice none 0 0], .int .i64 0, .int .i64 11]) (by simp [results, Try.results29, go_sem, j0, j1, j2, j3]) rfl ?_
      exact retk_err HE.out (below_rec HB1.out (Nat.le_refl _) _ _ _ _)
    · exact absurd k8 k6

set_option maxRecDepth 100000 in
set_option maxHeartbeats 2000000 in
theorem rtk_good (c : UInt8) (t : List UInt8) (w : World) (hs : t.length ≤ 1000000000) (hk : 1 ≤ (c.toNat : Int) ∧ (c.toNat : Int) ≤ 6) (h4 : ¬ (c.toNat : Int) = 4) (he : tE t = 0) (hf : fitK (c.toNat : Int) (tN t) = true) (he2 : tE (psv t) = 0) (hf2 : fitK (c.toNat : Int) (tN (psv t)) = true) : Calls Try.prog 29 #[.string ⟨(c :: t).toArray⟩] w (RetTk (tkR (c :: t)) (c :: t).length w) := by
  obtain ⟨w1, hw1⟩ : ∃ w1, w.alloc (.cells #[.int .i64 0, .int .i64 0, .int .i64 0, .slice none 0 0] 34) = w1 := ⟨_, rfl⟩
  have hX1 : w1.heap[w.heap.size]? = some (.cells #[.int .i64 0, .int .i64 0, .int .i64 0, .slice none 0 0] 34 (0, 0)) := by rw [← hw1]; exact heap_alloc_new w _
  have hB1 : Below w.heap.size w w1 := by rw [← hw1]; exact (Below.refl w.heap.size w).alloc (Nat.le_refl _) _
  obtain ⟨d0, d1, d2, d3⟩ := rec_reads hX1
  obtain ⟨g0, g1, g2, g3⟩ := rec_free hX1
  have HB1 := Lib.hid hB1
  have HF := Lib.hid (put_rec hX1 (.int .i64 (c.toNat : Int)) (.int .i64 (tN t)) (.int .i64 (tN (psv t))) (.slice none 0 0))
  have HE : Hid (tkR (c :: t) = ⟨0, (c.toNat : Int), tN t, tN (psv t), [], psv (psv t)⟩) := Lib.hid (by
    have hf0 : fitE (c.toNat : Int) t = 0 := by unfold fitE; rw [if_pos he, if_pos hf]
    have hf3 : fitE (c.toNat : Int) (psv t) = 0 := by unfold fitE; rw [if_pos he2, if_pos hf2]
    show tkC _ _ _ = _
    unfold tkC
    rw [if_pos hk, if_neg h4, if_pos hf0, if_pos hf3])
  have hc := c.toNat_lt
  have Z1 := bsize (c :: t)
  have hb0 := byteAt (c :: t) 0 (by simp) (by rw [Z1]; simp)
  rw [List.getElem_cons_zero] at hb0
  have x1 := ext_rest (c :: t) 1
  rw [show (c :: t).drop 1 = t from rfl, List.length_cons] at x1
  have HT := Lib.hid (fun W => reftake_any t W (by omega))
  obtain ⟨p1, p2, _⟩ := put_take t he
  obtain ⟨z, hz⟩ : ∃ z : Nat, tS t = (z : Int) := ⟨(tS t).toNat, by omega⟩
  have hp : (c :: t).drop (1 + z) = psv t := by unfold psv; rw [hz, Int.toNat_natCast, Nat.add_comm]; rfl
  have x2 := ext_rest (c :: t) (1 + z)
  rw [hp, List.length_cons] at x2
  have hpl := psv_le t
  have hwz : IntKind.i64.wrap (1 + (z : Int)) = ((1 + z : Nat) : Int) := by rw [IntKind.wrap_i64]; omega
  have hwz1 : (0 : Int) ≤ 1 + (z : Int) := by omega
  have hwz2 : (1 : Int) + (z : Int) ≤ (t.length : Int) + 1 := by omega
  have hwz3 : ((1 : Int) + (z : Int)).toNat = 1 + z := by omega
  obtain ⟨hof, hg1⟩ := fit_good hk h4 hf
  have HI1 := Lib.hid (fun W => ris_any (tN t) W true hof)
  rw [he, hz] at HT
  have HT2 := Lib.hid (fun W => reftake_any (psv t) W (by omega))
  obtain ⟨hof2, hg2⟩ := fit_good hk h4 hf2
  have HI2 := Lib.hid (fun W => ris_any (tN (psv t)) W true hof2)
  obtain ⟨q1, q2, _⟩ := put_take (psv t) he2
  obtain ⟨z2, hz2⟩ : ∃ z : Nat, tS (psv t) = (z : Int) := ⟨(tS (psv t)).toNat, by omega⟩
  rw [he2, hz2] at HT2
  have HL : Hid (((c :: t).length : Int) - ((psv (psv t)).length : Int) = 1 + (z : Int) + (z2 : Int)) := Lib.hid (by
    have e1 : (psv t).length = t.length - z := by unfold psv; rw [hz, List.length_drop]; rfl
    have e2 : (psv (psv t)).length = (psv t).length - z2 := by unfold psv; unfold psv at hz2; rw [hz2, List.length_drop]; rfl
    rw [List.length_cons]
    omega)
  have hws : IntKind.i64.wrap (1 + (z : Int) + (z2 : Int)) = 1 + (z : Int) + (z2 : Int) := by rw [IntKind.wrap_i64]; omega
  obtain ⟨k1, k2⟩ := hk
  have k3 : ¬ (c.toNat : Int) < 1 := by omega
  have k4 : ¬ 6 < (c.toNat : Int) := by omega
  have k5 : ((c.toNat : Int) == 4) = false := by simpa using h4
  generalize tN (psv t) = m at *
  generalize tN t = n at *
  clear hX1 hB1 he he2 hf hf2 h4 k1 k2 hp p1 p2 q1 q2 hz hz2 hof hof2 hpl
  rcases hg1 with ⟨k6, k7⟩ | k6 <;> rcases hg2 with ⟨k8, k9⟩ | k8
  all_goals first
    | (exact absurd k6 k8)
    | (exact absurd k8 k6)
    | skip
  all_goals
    go_enter Try.func29, Try.ntmps29
    go_wp2_with fail
    try rw [hw1]
    try rw [x1]
    refine (HT.out _).mono ?_
    rintro e w' ⟨rfl, hw⟩
    subst hw
    go_wp2_with fail
    refine (HI1.out _).mono ?_
    rintro e w' ⟨rfl, hw⟩
    subst hw
    go_wp2_with fail
    try rw [x2]
    refine (HT2.out _).mono ?_
    rintro e w' ⟨rfl, hw⟩
    subst hw
    go_wp2_with fail
    refine (HI2.out _).mono ?_
    rintro e w' ⟨rfl, hw⟩
    subst hw
    go_wp2
    obtain ⟨j0, j1, j2, j3⟩ := rec_reads HF.out
    refine bodyPost_ret (v := .tuple #[.agg #[.int .i64 (c.toNat : Int), .int .i64 n, .int .i64 m, .slice none 0 0], .int .i64 (1 + (z : Int) + (z2 : Int)), .int .i64 0]) (by simp [results, Try.results29, go_sem, j0, j1, j2, j3]) rfl ?_
    exact ⟨none, 0, by rw [HE.out]; have h9 := HL.out; simp only [List.length_cons, List.length_nil] at h9 ⊢; rw [h9], by rw [HE.out]; exact OwnI.nil, below_rec HB1.out (Nat.le_refl _) _ _ _ _⟩

set_option maxRecDepth 100000 in
set_option maxHeartbeats 2000000 in
theorem rtk_ids (c : UInt8) (t : List UInt8) (w : World) (hs : t.length ≤ 1000000000) (h4 : (c.toNat : Int) = 4) : Calls Try.prog 29 #[.string ⟨(c :: t).toArray⟩] w (RetTk (tkR (c :: t)) (c :: t).length w) := by
  obtain ⟨w1, hw1⟩ : ∃ w1, w.alloc (.cells #[.int .i64 0, .int .i64 0, .int .i64 0, .slice none 0 0] 34) = w1 := ⟨_, rfl⟩
  have hX1 : w1.heap[w.heap.size]? = some (.cells #[.int .i64 0, .int .i64 0, .int .i64 0, .slice none 0 0] 34 (0, 0)) := by rw [← hw1]; exact heap_alloc_new w _
  have hB1 : Below w.heap.size w w1 := by rw [← hw1]; exact (Below.refl w.heap.size w).alloc (Nat.le_refl _) _
  obtain ⟨d0, d1, d2, d3⟩ := rec_reads hX1
  obtain ⟨g0, g1, g2, g3⟩ := rec_free hX1
  have HB1 := Lib.hid hB1
  have HR := Lib.hid (rids_any c t w1 hs)
  have hE := id_tk c t h4
  have hc := c.toNat_lt
  have Z1 := bsize (c :: t)
  have hb0 := byteAt (c :: t) 0 (by simp) (by rw [Z1]; simp)
  rw [List.getElem_cons_zero] at hb0
  have hb4 : ((((⟨(c :: t).toArray⟩ : ByteArray)[0]'(by rw [Z1]; simp)).toNat : Int)) = 4 := by rw [hb0]; exact h4
  have hl := tk_ids_le (c :: t)
  have HLs := Lib.hid (show (idsR t).1 = 0 → (idsR t).2.1.length ≤ 65535 from fun h0 => by rw [hE.2 h0] at hl; exact hl)
  have HE := Lib.hid hE
  generalize idsR t = S at HR HE HLs
  have HZ1 : Hid (w1.heap.size = w.heap.size + 1) := Lib.hid (by rw [← hw1]; simp)
  have HX1 := Lib.hid hX1
  clear hX1 hB1 hE hl d0 d1 d2 d3 g0 g1 g2 g3
  go_enter Try.func29, Try.ntmps29
  go_wp2_with fail
  try rw [hw1]
  refine HR.out.mono ?_
  rintro e w2 ⟨hcase, hb2⟩
  have hX2 := (hb2.block w.heap.size (by have := HZ1.out; omega)).trans HX1.out
  have HB2 := Lib.hid (HB1.out.trans (hb2.mono (by have := HZ1.out; omega)))
  obtain ⟨d0, d1, d2, d3⟩ := rec_reads hX2
  obtain ⟨g0, g1, g2, g3⟩ := rec_free hX2
  obtain ⟨x, L, r⟩ := S
  rcases hcase with ⟨hx, rfl⟩ | ⟨hx, ao, cap, rfl, ho⟩
  · have gx : (x != 0) = true := by simpa using hx
    have HF := Lib.hid (put_rec hX2 (.int .i64 0) (.int .i64 0) (.int .i64 0) (.slice none 0 0))
    have HE2 := Lib.hid (HE.out.1 hx)
    clear HE hX2 hb2 hx HLs
    go_wp2
    obtain ⟨j0, j1, j2, j3⟩ := rec_reads HF.out
    refine bodyPost_ret (v := .tuple #[.agg #[.int .i64 0, .int .i64 0, .int .i64 0, .slice none 0 0], .int .i64 0, .int .i64 x]) (by simp [results, Try.results29, go_sem, j0, j1, j2, j3]) rfl ?_
    exact retk_err HE2.out (below_rec HB2.out (Nat.le_refl _) _ _ _ _)
  · obtain rfl : x = 0 := hx
    have HF := Lib.hid (put_rec hX2 (.int .i64 4) (.int .i64 0) (.int .i64 0) (.slice ao L.length cap))
    have HE2 := Lib.hid (HE.out.2 (by first | rfl | trivial))
    have HO := Lib.hid ho
    have HM : Hid (L.length ≤ maxLen) := Lib.hid (by have := HLs.out (by first | rfl | trivial); unfold maxLen; simp only at this; omega)
    clear HE hX2 hb2 HLs ho
    dsimp only at *
    go_wp2
    obtain ⟨j0, j1, j2, j3⟩ := rec_reads HF.out
    refine bodyPost_ret (v := .tuple #[.agg #[.int .i64 4, .int .i64 0, .int .i64 0, .slice ao L.length cap], .int .i64 (((c :: t).length : Int) - (r.length : Int)), .int .i64 0]) (by simp [results, Try.results29, go_sem, j0, j1, j2, j3]) rfl ?_
    have hlt : w.heap.size < w1.heap.size := by have := HZ1.out; omega
    have ho := own_putTo (r := w.heap.size) (i := 3) (u := .slice ao L.length cap) (own_putTo (r := w.heap.size) (i := 2) (u := .int .i64 0) (own_putTo (r := w.heap.size) (i := 1) (u := .int .i64 0) (own_putTo (r := w.heap.size) (i := 0) (u := .int .i64 4) HO.out hlt) hlt) hlt) hlt
    exact ⟨ao, cap, by rw [HE2.out]; rfl, by rw [HE2.out]; exact ⟨_, ho⟩, below_rec HB2.out (Nat.le_refl _) _ _ _ _⟩

theorem rtake_any (s : List UInt8) (w : World) (hs : s.length ≤ 1000000000) : Calls Try.prog 29 #[.string ⟨s.toArray⟩] w (RetTk (tkR s) s.length w) := by
  cases s with
  | nil => exact rtk_nil w
  | cons c t =>
    have ht : t.length ≤ 1000000000 := by simp at hs; omega
    by_cases hk : 1 ≤ (c.toNat : Int) ∧ (c.toNat : Int) ≤ 6
    · by_cases h4 : (c.toNat : Int) = 4
      · exact rtk_ids c t w ht h4
      · by_cases he : tE t = 0
        · by_cases hf : fitK (c.toNat : Int) (tN t) = true
          · by_cases he2 : tE (psv t) = 0
            · by_cases hf2 : fitK (c.toNat : Int) (tN (psv t)) = true
              · exact rtk_good c t w ht hk h4 he hf he2 hf2
              · exact rtk_fit2 c t w ht hk h4 he hf he2 hf2
            · exact rtk_num2 c t w ht hk h4 he hf he2
          · exact rtk_fit1 c t w ht hk h4 he hf
        · exact rtk_num1 c t w ht hk h4 he
    · exact rtk_kind c t w ht hk
end Go.Proofs.Ytjmaccflnfaiiaa
