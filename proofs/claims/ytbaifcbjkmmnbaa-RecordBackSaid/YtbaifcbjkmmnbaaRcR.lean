/-
  record: what is left of bytes, in memory; least, fits; the reader's ask, number, fitting, kind: walked.
-/
import Derived.Test.YtbaifcbjkmmnbaaRcM
import Derived.Test.YtbaifcbjkmmnbaaRdX
import Derived.Test.YtbaifcbjkmmnbaaRkIs
import Derived.Test.YtbaifcbjkmmnbaaVarT
import Derived.Test.YtbaifcbjkmmnbaaIntoB
import Derived.Test.YtbaifcbjkmmnbaaStr
import Derived.BigQuiet
import Derived.Deep.RegionWith
import Derived.Outline
import Derived.IntWalk
import Derived.Lib.Hide
set_option linter.unusedSimpArgs false
set_option linter.unusedVariables false
namespace Go.Proofs.Ytbaifcbjkmmnbaa
open Go.RowKit

/-- In block b lies what is left, and what was wrong first. -/
def IsRr (w : World) (b : Nat) (s : List UInt8) (x : Int) : Prop := w.heap[b]? = some (.cells #[.string ⟨s.toArray⟩, .int .i64 x] 44 (0, 0))
theorem IsRr.reads {w : World} {b : Nat} {s : List UInt8} {x : Int} (h : IsRr w b s x) : w.cell? ⟨b, 0, none⟩ = some (.string ⟨s.toArray⟩) ∧ w.cell? ⟨b, 1, none⟩ = some (.int .i64 x) ∧ w.frozen? ⟨b, 0, none⟩ = false ∧ w.frozen? ⟨b, 1, none⟩ = false := by
  refine ⟨?_, ?_, Lib.frozen_of_heap h 0, Lib.frozen_of_heap h 1⟩ <;> rw [Lib.cell_of_heap h] <;> rfl
theorem IsRr.err {w : World} {b : Nat} {s : List UInt8} {x : Int} (h : IsRr w b s x) (y : Int) : IsRr (w.setCell ⟨b, 1, none⟩ (.int .i64 y)) b s y := by
  unfold IsRr at h ⊢; rw [put_heap h]; rfl
theorem IsRr.left {w : World} {b : Nat} {s : List UInt8} {x : Int} (h : IsRr w b s x) (t : List UInt8) : IsRr (w.setCell ⟨b, 0, none⟩ (.string ⟨t.toArray⟩)) b t x := by
  unfold IsRr at h ⊢; rw [put_heap h]; rfl
theorem IsRr.drewN {w : World} {b : Nat} {s : List UInt8} {x : Int} (h : IsRr w b s x) (q : Nat) : IsRr (w.drewN q) b s x := h
theorem IsRr.lt {w : World} {b : Nat} {s : List UInt8} {x : Int} (h : IsRr w b s x) : b < w.heap.size := heap_lt h
theorem IsRr.kept {w w' : World} {b : Nat} {s : List UInt8} {x : Int} (h : IsRr w b s x) (e : w'.heap[b]? = w.heap[b]?) : IsRr w' b s x := e.trans h

set_option maxHeartbeats 1000000 in
theorem rcask_any {w : World} {b : Nat} {s : List UInt8} {x : Int} (h : IsRr w b s x) (q : Bool) (e : Int) :
    Calls Try.prog 33 #[.pointer (some ⟨b, 0, none⟩), .bool q, .int .i64 e] w fun r w' => r = .returned (.tuple #[]) ∧ IsRr w' b s (askX x q e) ∧ Into b w w' := by
  obtain ⟨c0, c1, f0, f1⟩ := h.reads
  have H := Lib.hid h
  clear h
  by_cases hx : x = 0
  · subst hx
    cases q with
    | true =>
      go_enter Try.func33, Try.ntmps33
      go_wp2
      go_end0
      exact ⟨rfl, by rw [ask_true]; exact H.out, Into.refl _ _⟩
    | false =>
      go_enter Try.func33, Try.ntmps33
      go_wp2
      go_end0
      exact ⟨rfl, H.out.err e, (Into.refl _ _).set _ _⟩
  · have g : (x == 0) = false := by simpa using hx
    have E : Hid (askX x q e = x) := Lib.hid (by unfold askX; rw [if_neg (fun hh => hx hh.1)])
    go_enter Try.func33, Try.ntmps33
    go_wp2
    go_end0
    exact ⟨rfl, by rw [E.out]; exact H.out, Into.refl _ _⟩

/-- What was wrong first, behind one more number. -/
def numY (x : Int) (s : List UInt8) : Int := if x = 0 then tE s else x

set_option maxHeartbeats 2000000 in
theorem rcnum_any {w : World} {b : Nat} {s : List UInt8} {x : Int} (h : IsRr w b s x) (y : Int) (hy : numY x s = y) (hs : s.length ≤ 1000000000) :
    Calls Try.prog 34 #[.pointer (some ⟨b, 0, none⟩)] w fun r w' => r = .returned (.int .i64 (if y = 0 then tN s else 0)) ∧ IsRr w' b (if y = 0 then psv s else s) y ∧ Into b w w' := by
  obtain ⟨c0, c1, f0, f1⟩ := h.reads
  by_cases hx : x = 0
  · subst hx
    rw [numY, if_pos rfl] at hy
    have HT := Lib.hid (take_any s w (by omega))
    by_cases h1 : tE s = 0
    · obtain ⟨p1, p2, _⟩ := put_take s h1
      obtain ⟨k, hk⟩ : ∃ k : Nat, tS s = (k : Int) := ⟨(tS s).toNat, by omega⟩
      have HP : Hid (psv s = s.drop k) := Lib.hid (by unfold psv; rw [hk, Int.toNat_natCast])
      rw [hk] at HT p2
      rw [h1] at HT hy
      subst hy
      have HZ := Lib.hid (bsize s)
      have x2 := ext_rest s k
      have g3 : (k : Int) ≤ (s.length : Int) := by omega
      have HA := Lib.hid (rcask_any h true 0)
      rw [ask_true] at HA
      rw [if_pos rfl, if_pos rfl, HP.out]
      generalize tN s = n at *
      clear h h1 p1 p2 hk HP
      go_enter Try.func34, Try.ntmps34
      go_wp2_with fail
      refine HT.out.mono ?_
      rintro e w' ⟨rfl, hw⟩
      obtain rfl := hw.symm
      clear hw
      go_wp2_with fail
      refine HA.out.mono ?_
      rintro e w1 ⟨rfl, hr1, hi1⟩
      obtain ⟨c0, c1, f0, f1⟩ := hr1.reads
      have HR := Lib.hid hr1
      have HI := Lib.hid hi1
      clear hr1 hi1 HA
      go_wp2
      go_ret
      exact ⟨rfl, HR.out.left _, HI.out.set _ _⟩
    · have e : y = tE s := hy.symm
      subst e
      have hs0 : tS s = 0 := by unfold tS; rw [if_neg h1]
      have hn : tN s = 0 := by unfold tN; rw [if_neg h1]
      rw [hs0, hn] at HT
      rw [if_neg h1, if_neg h1]
      have HA := Lib.hid (rcask_any h false (tE s))
      rw [show askX 0 false (tE s) = tE s from rfl] at HA
      have x2 := ext_rest s 0
      rw [List.drop_zero] at x2
      have HZ := Lib.hid (bsize s)
      generalize tE s = y at *
      have g1 : (y == 0) = false := by simpa using h1
      clear h hy hs0 hn h1
      go_enter Try.func34, Try.ntmps34
      go_wp2_with fail
      refine HT.out.mono ?_
      rintro e w' ⟨rfl, hw⟩
      obtain rfl := hw.symm
      clear hw
      go_wp2_with fail
      refine HA.out.mono ?_
      rintro e w1 ⟨rfl, hr1, hi1⟩
      obtain ⟨c0, c1, f0, f1⟩ := hr1.reads
      have HR := Lib.hid hr1
      have HI := Lib.hid hi1
      clear hr1 hi1 HA
      go_wp2
      go_ret
      exact ⟨rfl, HR.out.left _, HI.out.set _ _⟩
  · have e : y = x := by rw [← hy]; unfold numY; rw [if_neg hx]
    subst e
    have g1 : (y == 0) = false := by simpa using hx
    rw [if_neg hx, if_neg hx]
    have H := Lib.hid h
    clear h hy
    go_enter Try.func34, Try.ntmps34
    go_wp2
    go_ret
    exact ⟨rfl, H.out, Into.refl _ _⟩

set_option maxHeartbeats 1000000 in
theorem rcleast_any (k : Int) (w : World) :
    Calls Try.prog 27 #[.int .i64 k] w fun e w' => e = .returned (.int .i64 (leastK k)) ∧ w' = w := by
  unfold leastK
  by_cases h5 : k = 5
  · subst h5
    rw [if_pos (.inl rfl)]
    go_enter Try.func27, Try.ntmps27
    go_wp2
    go_ret
    exact ⟨rfl, rfl⟩
  · by_cases h6 : k = 6
    · subst h6
      rw [if_pos (.inr rfl)]
      go_enter Try.func27, Try.ntmps27
      go_wp2
      go_ret
      exact ⟨rfl, rfl⟩
    · rw [if_neg (by omega)]
      have g5 : (k == 5) = false := by simpa using h5
      have g6 : (k == 6) = false := by simpa using h6
      clear h5 h6
      go_enter Try.func27, Try.ntmps27
      go_wp2
      go_ret
      exact ⟨rfl, rfl⟩

set_option maxHeartbeats 1000000 in
theorem rcfits_any (k n : Int) (w : World) (q : Bool) (hq : fitK k n = q) :
    Calls Try.prog 17 #[.int .i64 k, .int .i64 n] w fun e w' => e = .returned (.bool q) ∧ Below w.heap.size w w' := by
  unfold fitK at hq
  cases ho : ofs n with
  | false =>
    rw [ho] at hq
    subst hq
    have HI := Lib.hid (is_any n w false ho)
    clear ho
    go_enter Try.func17, Try.ntmps17
    go_wp2_with fail
    refine HI.out.mono ?_
    rintro e w1 ⟨rfl, hb1⟩
    go_wp2
    go_ret
    exact ⟨rfl, hb1⟩
  | true =>
    rw [ho, Bool.true_and] at hq
    have HI := Lib.hid (is_any n w true ho)
    have HL := Lib.hid (fun W => rcleast_any k W)
    generalize leastK k = m at hq HL
    clear ho
    go_enter Try.func17, Try.ntmps17
    go_wp2_with fail
    refine HI.out.mono ?_
    rintro e w1 ⟨rfl, hb1⟩
    have HB := Lib.hid hb1
    clear hb1 HI
    go_wp2_with fail
    refine (HL.out _).mono ?_
    rintro e w2 ⟨rfl, hw⟩
    obtain rfl := hw.symm
    clear hw
    go_wp2
    go_ret
    exact ⟨rfl, HB.out⟩

set_option maxHeartbeats 1000000 in
theorem rcfitting_any {w : World} {b : Nat} {s : List UInt8} {x : Int} (h : IsRr w b s x) (k y z : Int) (hy : numY x s = y) (hz : askX y (fitK k (if y = 0 then tN s else 0)) 11 = z) (hs : s.length ≤ 1000000000) :
    Calls Try.prog 30 #[.pointer (some ⟨b, 0, none⟩), .int .i64 k] w fun r w' => r = .returned (.int .i64 (if y = 0 then tN s else 0)) ∧ IsRr w' b (if y = 0 then psv s else s) z ∧ But w.heap.size b w w' := by
  have H1 := Lib.hid (rcnum_any h y hy hs)
  have hlt := h.lt
  generalize (if y = 0 then tN s else 0) = n at H1 hz ⊢
  generalize (if y = 0 then psv s else s) = t at H1 ⊢
  obtain ⟨q, hq⟩ : ∃ q, fitK k n = q := ⟨_, rfl⟩
  rw [hq] at hz
  have H2 := Lib.hid (fun W => rcfits_any k n W q hq)
  clear h hq hy
  have HZ := Lib.hid hz
  clear hz
  go_enter Try.func30, Try.ntmps30
  go_wp2_with fail
  refine H1.out.mono ?_
  rintro e w1 ⟨rfl, hr1, hi1⟩
  go_wp2_with fail
  refine (H2.out w1).mono ?_
  rintro e w2 ⟨rfl, hb2⟩
  have hr2 := hr1.kept (hb2.block b hr1.lt)
  have H3 := Lib.hid (rcask_any hr2 q 11)
  rw [HZ.out] at H3
  have HB2 := Lib.hid (((But.into (base := w.heap.size) hi1).trans (But.of (hb2.mono (Nat.le_of_eq hi1.size.symm)))))
  clear hr1 hr2 hi1 hb2 H1 H2
  go_wp2_with fail
  refine H3.out.mono ?_
  rintro e w3 ⟨rfl, hr3, hi3⟩
  have HR := Lib.hid hr3
  have HB3 := Lib.hid (HB2.out.trans (But.into hi3))
  clear hr3 hi3
  go_wp2
  go_ret
  exact ⟨rfl, HR.out, HB3.out⟩

set_option maxHeartbeats 1000000 in
theorem rckind_nil {w : World} {b : Nat} (h : IsRr w b [] 0) :
    Calls Try.prog 28 #[.pointer (some ⟨b, 0, none⟩)] w fun r w' => r = .returned (.int .i64 0) ∧ IsRr w' b [] 4 ∧ Into b w w' := by
  obtain ⟨c0, c1, f0, f1⟩ := h.reads
  have H1 := Lib.hid (rcask_any h false 4)
  rw [show askX 0 false 4 = 4 from rfl] at H1
  clear h
  go_enter Try.func28, Try.ntmps28
  go_wp2_with fail
  refine H1.out.mono ?_
  rintro e w1 ⟨rfl, hr1, hi1⟩
  obtain ⟨c0, c1, f0, f1⟩ := hr1.reads
  have HR := Lib.hid hr1
  have HI := Lib.hid hi1
  clear hr1 hi1 H1
  go_wp2
  go_ret
  exact ⟨rfl, HR.out, HI.out⟩

set_option maxHeartbeats 1000000 in
theorem rckind_by {w : World} {b : Nat} {c : UInt8} {t : List UInt8} (h : IsRr w b (c :: t) 0) (hs : t.length ≤ 1000000000) (q : Bool) (hq : (¬ 1 ≤ (c.toNat : Int) ∧ q = false) ∨ (1 ≤ (c.toNat : Int) ∧ decide ((c.toNat : Int) ≤ 6) = q)) :
    Calls Try.prog 28 #[.pointer (some ⟨b, 0, none⟩)] w fun r w' => r = .returned (.int .i64 (c.toNat : Int)) ∧ IsRr w' b t (askX 0 q 3) ∧ Into b w w' := by
  obtain ⟨c0, c1, f0, f1⟩ := h.reads
  have H1 := Lib.hid (rcask_any h true 4)
  rw [ask_true] at H1
  have H2 := Lib.hid (fun (W : World) (hW : IsRr W b (c :: t) 0) => rcask_any hW q 3)
  have hc := c.toNat_lt
  have HZ := bsize (c :: t)
  have hb0 := byteAt (c :: t) 0 (by simp) (by rw [HZ]; simp)
  rw [List.getElem_cons_zero] at hb0
  have x1 := ext_rest (c :: t) 1
  rw [show (c :: t).drop 1 = t from rfl, List.length_cons] at x1
  clear h
  rcases hq with ⟨g1, rfl⟩ | ⟨g1, g2⟩
  all_goals
    go_enter Try.func28, Try.ntmps28
    go_wp2_with fail
    refine H1.out.mono ?_
    rintro e w1 ⟨rfl, hr1, hi1⟩
    obtain ⟨c0, c1, f0, f1⟩ := hr1.reads
    have H3 := Lib.hid (H2.out w1 hr1)
    have HI := Lib.hid hi1
    clear hr1 hi1 H1 H2
    go_wp2_with fail
    refine H3.out.mono ?_
    rintro e w2 ⟨rfl, hr2, hi2⟩
    obtain ⟨c0, c1, f0, f1⟩ := hr2.reads
    have HR := Lib.hid hr2
    have HI2 := Lib.hid (HI.out.trans hi2)
    clear hr2 hi2 H3
    go_wp2
    go_ret
    exact ⟨rfl, HR.out.left _, HI2.out.set _ _⟩
theorem rckind_cons {w : World} {b : Nat} {c : UInt8} {t : List UInt8} (h : IsRr w b (c :: t) 0) (hs : t.length ≤ 1000000000) :
    Calls Try.prog 28 #[.pointer (some ⟨b, 0, none⟩)] w fun r w' => r = .returned (.int .i64 (c.toNat : Int)) ∧ IsRr w' b t (if 1 ≤ (c.toNat : Int) ∧ (c.toNat : Int) ≤ 6 then 0 else 3) ∧ Into b w w' := by
  by_cases g1 : 1 ≤ (c.toNat : Int)
  · have H := rckind_by h hs (decide ((c.toNat : Int) ≤ 6)) (.inr ⟨g1, rfl⟩)
    by_cases g2 : (c.toNat : Int) ≤ 6
    · rw [if_pos ⟨g1, g2⟩]
      rw [decide_eq_true g2] at H
      exact H
    · rw [if_neg (fun g => g2 g.2)]
      rw [decide_eq_false g2] at H
      exact H
  · have H := rckind_by h hs false (.inl ⟨g1, rfl⟩)
    rw [if_neg (fun g => g1 g.1)]
    exact H
end Go.Proofs.Ytbaifcbjkmmnbaa
