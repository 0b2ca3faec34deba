/-
  record: the reader's ids: walked.
-/
import Derived.Test.YtjmaccflnfaiiaaBn7
import Derived.Test.YtjmaccflnfaiiaaBn4
import Derived.Lib.MinMax
set_option linter.unusedSimpArgs false
set_option linter.unusedVariables false
namespace Go.Proofs.Ytjmaccflnfaiiaa
open Go.RowKit
/-- What the Ids' bytes tell: what is wrong, these, what is left. -/
def idsR (s : List UInt8) : Int × List Int × List UInt8 := if tE s = 0 then (if 65535 < tN s then (6, [], s) else idT (tN s).toNat true 0 (psv s)) else (tE s, [], s)

/-- What is known in the midst of them: these are read, this is the last one; what is left, what was wrong. -/
def RelI (N : Nat) (S : Int × List Int × List UInt8) (L : List Int) (a : Int) (t : List UInt8) (y : Int) : Prop :=
  (y = 0 ∧ 0 ≤ a ∧ a ≤ 65534 ∧ ∃ G, idT (N - L.length) (decide (L.length = 0)) a t = (S.1, G, S.2.2) ∧ S.2.1 = L ++ G) ∨ (¬ y = 0 ∧ S.1 = y)
theorem ri_end {N : Nat} {S : Int × List Int × List UInt8} {L : List Int} {a : Int} {t : List UInt8} {y : Int} (h : RelI N S L a t y) (hl : L.length = N) : S.1 = y ∧ (y = 0 → S.2.1 = L ∧ S.2.2 = t) := by
  rcases h with ⟨rfl, h0, h1, G, hG, hS⟩ | ⟨hy, hS⟩
  · rw [hl, Nat.sub_self] at hG
    simp only [idT, Prod.mk.injEq] at hG
    obtain ⟨g1, g2, g3⟩ := hG
    exact ⟨g1.symm, fun _ => ⟨by rw [hS, ← g2, List.append_nil], g3.symm⟩⟩
  · exact ⟨hS, fun h => absurd h hy⟩
theorem ri_stop {N : Nat} {S : Int × List Int × List UInt8} {L : List Int} {a : Int} {t : List UInt8} {y : Int} (h : RelI N S L a t y) (hy : ¬ y = 0) : S.1 = y ∧ (y = 0 → S.2.1 = L ∧ S.2.2 = t) := by
  rcases h with ⟨h0, _⟩ | ⟨_, hS⟩
  · exact absurd h0 hy
  · exact ⟨hS, fun h => absurd h hy⟩
theorem ask_stuck2 {x : Int} (h : ¬ x = 0) (q : Bool) (e : Int) : askX x q e = x := by unfold askX; rw [if_neg (fun hh => h hh.1)]
theorem ri_step {N : Nat} {S : Int × List Int × List UInt8} {L : List Int} {a : Int} {t t1 : List UInt8} {y1 y2 y3 A : Int} {q1 q2 : Bool} (h : RelI N S L a t 0) (hl : L.length < N) (e1 : tE t = y1) (eA : (if y1 = 0 then tN t else 0) = A) (et : (if y1 = 0 then psv t else t) = t1)
    (hq1 : q1 = true ↔ (0 < A ∨ L.length = 0)) (e2 : askX y1 q1 9 = y2) (hq2 : q2 = true ↔ A ≤ 65534 - a) (e3 : askX y2 q2 11 = y3) (a' : Int) (ha : q2 = true → a' = a + A) :
    RelI N S (L ++ [a']) a' t1 y3 := by
  rcases h with ⟨_, h0, h1, G, hG, hS⟩ | ⟨hy, _⟩
  · obtain ⟨m, hm⟩ : ∃ m, N - L.length = m + 1 := ⟨N - L.length - 1, by omega⟩
    rw [hm] at hG
    by_cases c1 : tE t = 0
    · rw [c1] at e1
      subst e1
      rw [if_pos rfl] at eA et
      subst eA et
      have hn := tN_bounds t
      by_cases c2 : tN t = 0 ∧ decide (L.length = 0) = false
      · rw [id_order c1 c2] at hG
        have hq : q1 = false := by
          rw [Bool.eq_false_iff]
          intro hq
          have c3 := c2.2
          simp at c3
          rcases hq1.1 hq with h | h
          · omega
          · exact c3 (List.length_eq_zero_iff.1 h)
        rw [hq] at e2
        have : y2 = 9 := by rw [← e2]; rfl
        rw [this, ask_stuck2 (by decide)] at e3
        injection hG with g1 g2
        exact .inr ⟨by omega, by omega⟩
      · have hq : q1 = true := by
          rw [hq1]
          by_cases h : L.length = 0
          · exact .inr h
          · left
            have : ¬ tN t = 0 := fun h2 => c2 ⟨h2, by simpa using h⟩
            omega
        rw [hq, ask_true] at e2
        subst e2
        by_cases c3 : 65534 - a < tN t
        · rw [id_range c1 c2 c3] at hG
          have hq : q2 = false := by
            rw [Bool.eq_false_iff]
            intro hq
            have := hq2.1 hq
            omega
          rw [hq] at e3
          have : y3 = 11 := by rw [← e3]; rfl
          injection hG with g1 g2
          exact .inr ⟨by omega, by omega⟩
        · rw [id_good c1 c2 c3] at hG
          have hq : q2 = true := hq2.2 (by omega)
          rw [hq, ask_true] at e3
          have ha' := ha hq
          subst ha'
          simp only [Prod.mk.injEq] at hG
          obtain ⟨g1, g2, g3⟩ := hG
          refine .inl ⟨e3.symm, by omega, by omega, (idT m false (a + tN t) (psv t)).2.1, ?_, by rw [hS, ← g2]; simp⟩
          rw [show N - (L ++ [a + tN t]).length = m by simp; omega, show decide ((L ++ [a + tN t]).length = 0) = false by simp, ← g1, ← g3]
    · rw [id_form c1] at hG
      injection hG with g1 g2
      rw [← e1, ask_stuck2 c1] at e2
      rw [← e2, ask_stuck2 c1] at e3
      exact .inr ⟨by omega, by omega⟩
  · exact absurd rfl hy

/-- How many there are in a slice. -/
def vlen : Value → Nat
  | .slice _ n _ => n
  | _ => 0

/-- What ids answers. -/
def RetIds (S : Int × List Int × List UInt8) (b : Nat) (w : World) (e : Ending) (w' : World) : Prop :=
  ∃ ao n cap t, e = .returned (.slice ao n cap) ∧ IsRr w' b t S.1 ∧ (S.1 = 0 → t = S.2.2 ∧ n = S.2.1.length ∧ w'.ownsRow w.heap.size 3 1 (.slice ao n cap) n (inCells S.2.1)) ∧ But w.heap.size b w w'

set_option maxHeartbeats 1000000 in
theorem rcids_form {w : World} {b : Nat} {s : List UInt8} (h : IsRr w b s 0) (hs : s.length ≤ 1000000000) (he : ¬ tE s = 0) :
    Calls Try.prog 53 #[.pointer (some ⟨b, 0, none⟩)] w (RetIds (idsR s) b w) := by
  have HS : Hid (idsR s = (tE s, [], s)) := Lib.hid (by unfold idsR; rw [if_neg he])
  rw [HS.out]
  have H1 := Lib.hid (rcnum_any h (tE s) (by unfold numY; rw [if_pos rfl]) hs)
  rw [if_neg he, if_neg he] at H1
  have H2 := Lib.hid (fun (W : World) (hW : IsRr W b s (tE s)) => rcask_any hW true 6)
  rw [ask_true] at H2
  have HN : Hid ((tE s, ([] : List Int), s).1 = 0 → False) := Lib.hid (fun h => he h)
  generalize tE s = y at *
  have g1 : (y == 0) = false := by simpa using he
  clear h he HS
  go_enter Try.func53, Try.ntmps53
  go_wp2_with fail
  refine H1.out.mono ?_
  rintro e w1 ⟨rfl, hr1, hi1⟩
  have H3 := Lib.hid (H2.out w1 hr1)
  have HI := Lib.hid hi1
  clear hr1 hi1 H1 H2
  go_wp2_with fail
  refine H3.out.mono ?_
  rintro e w2 ⟨rfl, hr2, hi2⟩
  obtain ⟨c0, c1, f0, f1⟩ := hr2.reads
  have HR := Lib.hid hr2
  have HI2 := Lib.hid (HI.out.trans hi2)
  clear hr2 hi2 H3
  go_wp2
  go_ret
  exact ⟨none, 0, 0, s, rfl, HR.out, fun h => (HN.out h).elim, But.into HI2.out⟩

set_option maxHeartbeats 1000000 in
theorem rcids_many {w : World} {b : Nat} {s : List UInt8} (h : IsRr w b s 0) (hs : s.length ≤ 1000000000) (he : tE s = 0) (hm : 65535 < tN s) :
    Calls Try.prog 53 #[.pointer (some ⟨b, 0, none⟩)] w (RetIds (idsR s) b w) := by
  have HS : Hid (idsR s = (6, [], s)) := Lib.hid (by unfold idsR; rw [if_pos he, if_pos hm])
  rw [HS.out]
  have H1 := Lib.hid (rcnum_any h 0 (by unfold numY; rw [if_pos rfl, he]) hs)
  rw [if_pos rfl, if_pos rfl] at H1
  have H2 := Lib.hid (fun (W : World) (hW : IsRr W b (psv s) 0) => rcask_any hW false 6)
  rw [show askX 0 false 6 = 6 from rfl] at H2
  have hd : decide (tN s ≤ 65535) = false := decide_eq_false (by omega)
  have g1 : ¬ tN s ≤ 65535 := by omega
  generalize psv s = t at *
  generalize tN s = n at *
  clear h he HS
  go_enter Try.func53, Try.ntmps53
  go_wp2_with fail
  refine H1.out.mono ?_
  rintro e w1 ⟨rfl, hr1, hi1⟩
  have H3 := Lib.hid (H2.out w1 hr1)
  have HI := Lib.hid hi1
  clear hr1 hi1 H1 H2
  go_wp2_with fail
  refine H3.out.mono ?_
  rintro e w2 ⟨rfl, hr2, hi2⟩
  obtain ⟨c0, c1, f0, f1⟩ := hr2.reads
  have HR := Lib.hid hr2
  have HI2 := Lib.hid (HI.out.trans hi2)
  clear hr2 hi2 H3
  go_wp2
  go_ret
  exact ⟨none, 0, 0, t, rfl, HR.out, fun h => absurd h (by simp), But.into HI2.out⟩

set_option maxRecDepth 100000 in
set_option maxHeartbeats 4000000 in
theorem rcids_read {w : World} {b : Nat} {s : List UInt8} (h : IsRr w b s 0) (hs : s.length ≤ 1000000000) (he : tE s = 0) (hm : ¬ 65535 < tN s) :
    Calls Try.prog 53 #[.pointer (some ⟨b, 0, none⟩)] w (RetIds (idsR s) b w) := by
  have hn0 := tN_bounds s
  have HS : Hid (idsR s = idT (tN s).toNat true 0 (psv s)) := Lib.hid (by unfold idsR; rw [if_pos he, if_neg hm])
  rw [HS.out]
  have H1 := Lib.hid (rcnum_any h 0 (by unfold numY; rw [if_pos rfl, he]) hs)
  rw [if_pos rfl, if_pos rfl] at H1
  have hl1 := psv_le s
  generalize psv s = s1 at *
  obtain ⟨N, hN⟩ : ∃ N : Nat, tN s = (N : Int) := ⟨(tN s).toNat, by omega⟩
  have hN2 : N ≤ 65535 := by omega
  rw [hN] at H1
  rw [hN, Int.toNat_natCast]
  have H2 := Lib.hid (fun (W : World) (hW : IsRr W b s1 0) => rcask_any hW true 6)
  rw [ask_true] at H2
  have hd : decide ((N : Int) ≤ 65535) = true := decide_eq_true (by omega)
  obtain ⟨S, hS⟩ : ∃ S, idT N true 0 s1 = S := ⟨_, rfl⟩
  have HR0 : Hid (RelI N S [] 0 s1 0) := Lib.hid (.inl ⟨rfl, by omega, by omega, S.2.1, hS, rfl⟩)
  rw [hS]
  have hl2 : s1.length ≤ 1000000000 := by omega
  have hblt := h.lt
  have Z1 := Lib.hid (bsize s1)
  clear h he hm HS hS hN hn0 hl1 hs
  go_enter Try.func53, Try.ntmps53
  go_wp2_with fail
  refine H1.out.mono ?_
  rintro e w1 ⟨rfl, hr1, hi1⟩
  have H3 := Lib.hid (H2.out w1 hr1)
  have HI := Lib.hid hi1
  clear hr1 hi1 H1 H2
  go_wp2_with fail
  refine H3.out.mono ?_
  rintro e w2 ⟨rfl, hr2, hi2⟩
  obtain ⟨c0, c1, f0, f1⟩ := hr2.reads
  have HR := Lib.hid hr2
  have HI2 := Lib.hid (HI.out.trans hi2)
  clear hr2 hi2 H3 HI
  have hmin : min (N : Int) (s1.length : Int) = ((min N s1.length : Nat) : Int) := by omega
  have hcl : min N s1.length ≤ 1000000000 := by omega
  generalize min N s1.length = C at hmin hcl
  obtain ⟨w8, hmake, hown8, hb8, hz8⟩ := make_ints C w2 hcl
  have HO8 := Lib.hid hown8
  have HI8 : Hid (IsRr w8 b s1 0) := Lib.hid (HR.out.kept (hb8.block b HR.out.lt))
  have HB8 : Hid (But w.heap.size b w w8) := Lib.hid ((But.into HI2.out).more hb8)
  have hsz : w2.heap.size = w.heap.size := HI2.out.size
  obtain ⟨i0, hi, hz0, hz1, hz2⟩ := info_parts int_info
  rw [hsz] at hmake HO8
  clear hown8 hb8 hz8 HR HI2 hsz
  go_wp2_with fail
  go_loopw [4, 5] (fun v l wr => ∃ (L : List Int) (a : Int) (t : List UInt8) (y : Int), l = .int .i64 a ∧ L.length ≤ N ∧ Hid (wr.ownsRow w.heap.size 3 1 v L.length (inCells L)) ∧ Hid (IsRr wr b t y) ∧ t.length ≤ 1000000000 ∧ Hid (RelI N S L a t y) ∧ Hid (But w.heap.size b w wr)) (fun v _ _ => N - vlen v)
  case atStart => exact ⟨[], 0, s1, 0, rfl, Nat.zero_le _, HO8, HI8, hl2, HR0, HB8⟩
  case round =>
    clear HO8 HI8 HR0 HB8
    obtain ⟨L, a, t, y, rfl, hL, HO, HI, hts, HR, HB⟩ := hrel
    obtain ⟨ao, cv, rfl⟩ := owns_slice HO.out
    obtain ⟨c0, c1, f0, f1⟩ := HI.out.reads
    by_cases hlt : L.length < N
    · have g0 : (L.length : Int) < (N : Int) := by omega
      by_cases hy : y = 0
      · subst hy
        obtain ⟨y1, e1⟩ : ∃ z, tE t = z := ⟨_, rfl⟩
        have H1 := Lib.hid (rcnum_any HI.out y1 (by unfold numY; rw [if_pos rfl, e1]) hts)
        obtain ⟨A, eA⟩ : ∃ z, (if y1 = 0 then tN t else 0) = z := ⟨_, rfl⟩
        obtain ⟨t1, et⟩ : ∃ z, (if y1 = 0 then psv t else t) = z := ⟨_, rfl⟩
        rw [eA, et] at H1
        have ht1 : t1.length ≤ 1000000000 := by rw [← et]; have := psv_le t; split <;> omega
        have hA : 0 ≤ A ∧ A ≤ 9223372036854775807 := by rw [← eA]; have := tN_bounds t; split <;> omega
        obtain ⟨q1, hq1⟩ : ∃ q, (decide (0 < A) || decide (L.length = 0)) = q := ⟨_, rfl⟩
        obtain ⟨y2, e2⟩ : ∃ z, askX y1 q1 9 = z := ⟨_, rfl⟩
        have H2 := Lib.hid (fun (W : World) (hW : IsRr W b t1 y1) => rcask_any hW q1 9)
        rw [e2] at H2
        have ha : 0 ≤ a ∧ a ≤ 65534 := by
          rcases HR.out with ⟨_, h0, h1, _⟩ | ⟨h, _⟩
          · exact ⟨h0, h1⟩
          · exact absurd rfl h
        have hw1 : IntKind.i64.wrap (65534 - a) = 65534 - a := by rw [IntKind.wrap_i64]; omega
        obtain ⟨q2, hq2⟩ : ∃ q, decide (A ≤ 65534 - a) = q := ⟨_, rfl⟩
        obtain ⟨y3, e3⟩ : ∃ z, askX y2 q2 11 = z := ⟨_, rfl⟩
        have H3 := Lib.hid (fun (W : World) (hW : IsRr W b t1 y2) => rcask_any hW q2 11)
        rw [e3] at H3
        obtain ⟨a', ha'⟩ : ∃ z, IntKind.i64.wrap (a + A) = z := ⟨_, rfl⟩
        have HN := Lib.hid (ri_step HR.out hlt e1 eA et (by rw [← hq1]; simp) e2 (by rw [← hq2]; simp) e3 a' (fun hq => by
          rw [hq] at hq2
          have := of_decide_eq_true hq2
          rw [← ha', IntKind.wrap_i64]; omega))
        have hcase : (0 < A ∧ q1 = true) ∨ (decide (0 < A) = false ∧ ((L.length : Int) == 0) = q1) := by
          by_cases h : 0 < A
          · exact .inl ⟨h, by rw [← hq1, decide_eq_true h]; rfl⟩
          · refine .inr ⟨decide_eq_false h, ?_⟩
            rw [← hq1, decide_eq_false h, Bool.false_or]
            by_cases h2 : L.length = 0 <;> simp [h2]
        clear e1 eA et hq1 e2 e3 HR
        rcases hcase with ⟨gA, rfl⟩ | ⟨gA, gq⟩
        all_goals
          go_wp2_with fail
          refine H1.out.mono ?_
          rintro e w9 ⟨rfl, hr9, hi9⟩
          have H4 := Lib.hid (H2.out w9 hr9)
          clear hr9
          go_wp2_with fail
          refine H4.out.mono ?_
          rintro e w10 ⟨rfl, hr10, hi10⟩
          have hi10 := hi9.trans hi10
          have H5 := Lib.hid (H3.out w10 hr10)
          clear hr10 hi9
          go_wp2_with fail
          refine H5.out.mono ?_
          rintro e w11 ⟨rfl, hr11, hi11⟩
          have hi11 := hi10.trans hi11
          have HR11 := Lib.hid hr11
          have HB11 := Lib.hid (HB.out.trans (But.into hi11))
          have hown := hi11.owns hblt HO.out
          clear hi10 hi11 hr11 H1 H2 H3 H4 H5 HO HI HB c0 c1 f0 f1
          have hBs : w.heap.size ≤ w11.heap.size := HB11.out.size
          go_wp2_with (at_builtin; refine wpList_append_own _ rfl _ _ 23 rfl w.heap.size 3 i0 (.int .i64 0) 1 8 Try.underlying23 hi hz0 hz1 hz2 rfl (by decide) _ _ _ rfl (hown.alloc _) ⟨w11.heap.size, 0, none⟩ 1 1 [.int .i64 a'] rfl rfl (one_news (heap_alloc_new _ _)) int_one (by unfold maxLen; omega) (by omega) (by simp; omega) ?_)
          intro v' w12 hown12 hgrow _
          have HB12 := Lib.hid (HB11.out.grown hown hgrow)
          have HR12 : Hid (IsRr w12 b t1 y3) := Lib.hid (HR11.out.kept (by
            rw [hgrow.block b (by simp; omega) (fun e => by have := (hown.lt b e.symm).1; omega), Lib.alloc_old _ _ b (by omega)]))
          have HO12 : Hid (w12.ownsRow w.heap.size 3 1 v' (L ++ [a']).length (inCells (L ++ [a']))) := Lib.hid (by rw [inCells_snoc, List.length_append]; exact hown12)
          have hv' : vlen v' = L.length + 1 := by
            obtain ⟨a9, c9, rfl⟩ := owns_slice hown12
            rfl
          have hL12 : (L ++ [a']).length ≤ N := by simp; omega
          generalize L ++ [a'] = L1 at HN HO12 hL12
          clear hown hown12 hgrow hBs HB11 HR11
          go_wp2
          exact ⟨⟨L1, a', t1, y3, rfl, hL12, HO12, HR12, ht1, HN, HB12⟩, by rw [hv']; show _ < N - L.length; omega⟩
      · have g1 : (y == 0) = false := by simpa using hy
        have HE := Lib.hid (ri_stop HR.out hy)
        clear HR hy
        go_wp2
        go_ret
        exact ⟨ao, L.length, cv, t, rfl, by rw [HE.out.1]; exact HI.out, fun h0 => by
          obtain ⟨e1, e2⟩ := HE.out.2 (by rw [← HE.out.1]; exact h0)
          rw [e1]
          exact ⟨e2.symm, rfl, HO.out⟩, HB.out⟩
    · have g0 : ¬ (L.length : Int) < (N : Int) := by omega
      have HE := Lib.hid (ri_end HR.out (by omega))
      clear HR
      go_wp2
      go_ret
      exact ⟨ao, L.length, cv, t, rfl, by rw [HE.out.1]; exact HI.out, fun h0 => by
        obtain ⟨e1, e2⟩ := HE.out.2 (by rw [← HE.out.1]; exact h0)
        rw [e1]
        exact ⟨e2.symm, rfl, HO.out⟩, HB.out⟩

theorem rcids_any {w : World} {b : Nat} {s : List UInt8} (h : IsRr w b s 0) (hs : s.length ≤ 1000000000) :
    Calls Try.prog 53 #[.pointer (some ⟨b, 0, none⟩)] w (RetIds (idsR s) b w) := by
  by_cases he : tE s = 0
  · by_cases hm : 65535 < tN s
    · exact rcids_many h hs he hm
    · exact rcids_read h hs he hm
  · exact rcids_form h hs he
end Go.Proofs.Ytjmaccflnfaiiaa
