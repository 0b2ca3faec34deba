/-
  A match in memory; Left, Done, Feed: walked.
-/
import Derived.Test.YtgkpeehondmalaaHdM
import Derived.Test.YtgkpeehondmalaaAfP
import Derived.Test.YtgkpeehondmalaaIntoB
import Derived.BigQuiet
import Derived.Deep.QuietTactic
set_option linter.unusedSimpArgs false
set_option linter.unusedVariables false
namespace Go.Proofs.Ytgkpeehondmalaa
open Go.RowKit

/-- In block b lies a head, how many of its bytes came, whether another one came. -/
def IsMt (w : World) (b : Nat) (l : List UInt8) (c : Nat) (x : Bool) : Prop := w.heap[b]? = some (.cells #[.string ⟨l.toArray⟩, .int .i64 (c : Int), .bool x] 47 (0, 0))
theorem IsMt.reads {w : World} {b : Nat} {l : List UInt8} {c : Nat} {x : Bool} (h : IsMt w b l c x) : w.cell? ⟨b, 0, none⟩ = some (.string ⟨l.toArray⟩) ∧ w.cell? ⟨b, 1, none⟩ = some (.int .i64 (c : Int)) ∧ w.cell? ⟨b, 2, none⟩ = some (.bool x) ∧ w.frozen? ⟨b, 1, none⟩ = false ∧ w.frozen? ⟨b, 2, none⟩ = false := by
  refine ⟨?_, ?_, ?_, Lib.frozen_of_heap h 1, Lib.frozen_of_heap h 2⟩ <;> rw [Lib.cell_of_heap h] <;> rfl
theorem IsMt.came {w : World} {b : Nat} {l : List UInt8} {c : Nat} {x : Bool} (h : IsMt w b l c x) (k : Nat) : IsMt (w.setCell ⟨b, 1, none⟩ (.int .i64 (k : Int))) b l k x := by
  unfold IsMt at h ⊢; rw [put_heap h]; rfl
theorem IsMt.wrong {w : World} {b : Nat} {l : List UInt8} {c : Nat} {x : Bool} (h : IsMt w b l c x) (y : Bool) : IsMt (w.setCell ⟨b, 2, none⟩ (.bool y)) b l c y := by
  unfold IsMt at h ⊢; rw [put_heap h]; rfl
theorem IsMt.drewN {w : World} {b : Nat} {l : List UInt8} {c : Nat} {x : Bool} (h : IsMt w b l c x) (q : Nat) : IsMt (w.drewN q) b l c x := h
theorem IsMt.lt {w : World} {b : Nat} {l : List UInt8} {c : Nat} {x : Bool} (h : IsMt w b l c x) : b < w.heap.size := heap_lt h
theorem IsMt.below {w w' : World} {b : Nat} {l : List UInt8} {c : Nat} {x : Bool} (h : IsMt w b l c x) (hb : Below w.heap.size w w') : IsMt w' b l c x := (hb.block b h.lt).trans h

theorem hdleft_nil (w : World) : Calls Try.prog 20 #[.pointer none] w fun e w' => e = .returned (.int .i64 0) ∧ w' = w := by
  go_enter Try.func20, Try.ntmps20
  go_wp2
  go_ret
  exact ⟨rfl, rfl⟩
set_option maxHeartbeats 1000000 in
theorem hdleft_draws {w : World} {b : Nat} {l : List UInt8} {c : Nat} {x : Bool} (h : IsMt w b l c x) (hc : c ≤ l.length) (hl : l.length ≤ 1000000000) :
    Calls Try.prog 20 #[.pointer (some ⟨b, 0, none⟩)] w (Drew (.int .i64 ((l.length - c : Nat) : Int)) w) := by
  obtain ⟨c0, c1, c2, f1, f2⟩ := h.reads
  have HZ := Lib.hid (bsize l)
  obtain ⟨k, hk⟩ : ∃ k, l.length - c = k := ⟨_, rfl⟩
  have g : (l.length : Int) = (c : Int) + (k : Int) := by omega
  have gk : (k : Int) ≤ 1000000000 := by omega
  have gc : (c : Int) ≤ 1000000000 := by omega
  rw [hk]
  clear h hk
  go_enter Try.func20, Try.ntmps20
  go_wp2_with fail
  go_quiet (fail)
  go_wp2
  go_ret
  exact ⟨by go_num, _, rfl⟩

theorem hddone_nil (w : World) : Calls Try.prog 12 #[.pointer none] w fun e w' => e = .returned (.bool false) ∧ w' = w := by
  go_enter Try.func12, Try.ntmps12
  go_wp2
  go_ret
  exact ⟨rfl, rfl⟩
set_option maxHeartbeats 1000000 in
theorem hddone_draws {w : World} {b : Nat} {l : List UInt8} {c : Nat} {x : Bool} (h : IsMt w b l c x) (hc : c ≤ l.length) (hl : l.length ≤ 1000000000) :
    Calls Try.prog 12 #[.pointer (some ⟨b, 0, none⟩)] w (Drew (.bool (decide (l.length = c))) w) := by
  have HL := Lib.hid (hdleft_draws h hc hl)
  have HQ : Hid ((((l.length - c : Nat) : Int) == 0) = decide (l.length = c)) := Lib.hid (by
    by_cases e : l.length = c
    · rw [decide_eq_true e, e]; simp
    · rw [decide_eq_false e]
      simp only [beq_eq_false_iff_ne, ne_eq]
      omega)
  generalize decide (l.length = c) = q at HQ ⊢
  generalize (((l.length - c : Nat)) : Int) = n at HL HQ
  clear h hc hl
  go_enter Try.func12, Try.ntmps12
  go_wp2_with fail
  refine HL.out.mono ?_
  rintro e w1 ⟨rfl, k, rfl⟩
  go_wp2
  go_ret
  exact ⟨by rw [← HQ.out]; rfl, _, rfl⟩

theorem hdfeed_nil (s : ByteArray) (w : World) : Calls Try.prog 11 #[.pointer none, .string s] w fun e w' => e = .returned (.tuple #[.int .i64 0, .int .i64 1]) ∧ w' = w := by
  go_enter Try.func11, Try.ntmps11
  go_wp2
  go_ret2
  exact ⟨rfl, rfl⟩
/-- Another byte came. -/
theorem hdfeed_wrong {w : World} {b : Nat} {l : List UInt8} {c : Nat} (h : IsMt w b l c true) (s : ByteArray) : Calls Try.prog 11 #[.pointer (some ⟨b, 0, none⟩), .string s] w fun e w' => e = .returned (.tuple #[.int .i64 0, .int .i64 15]) ∧ w' = w := by
  obtain ⟨c0, c1, c2, f1, f2⟩ := h.reads
  clear h
  go_enter Try.func11, Try.ntmps11
  go_wp2
  go_ret2
  exact ⟨rfl, rfl⟩

/-- How many bytes of s are those of the head that have not come yet. -/
def mtN (l : List UInt8) (c : Nat) (s : List UInt8) : Nat := preL (l.drop c) s
/-- Is the next one another one? -/
def mtX (l : List UInt8) (c : Nat) (s : List UInt8) : Bool := decide (mtN l c s < s.length ∧ c + mtN l c s < l.length)
theorem mtN_le (l : List UInt8) (c : Nat) (s : List UInt8) (hc : c ≤ l.length) : c + mtN l c s ≤ l.length ∧ mtN l c s ≤ s.length := by
  have := preL_le (l.drop c) s
  rw [List.length_drop] at this
  unfold mtN
  omega

set_option maxRecDepth 100000 in
set_option maxHeartbeats 4000000 in
theorem hdfeed_any {w : World} {b : Nat} {l : List UInt8} {c : Nat} (h : IsMt w b l c false) (hc : c ≤ l.length) (hl : l.length ≤ 1000000000) (s : List UInt8) (hs : s.length ≤ 1000000000) :
    Calls Try.prog 11 #[.pointer (some ⟨b, 0, none⟩), .string ⟨s.toArray⟩] w fun e w' => e = .returned (.tuple #[.int .i64 (mtN l c s : Int), .int .i64 (if mtX l c s = true then 15 else 0)]) ∧ IsMt w' b l (c + mtN l c s) (mtX l c s) ∧ Into b w w' := by
  obtain ⟨c0, c1, c2, f1, f2⟩ := h.reads
  have HZ := Lib.hid (bsize l)
  have HY := Lib.hid (bsize s)
  have x2 := ext_rest l c
  obtain ⟨m1, m2⟩ := mtN_le l c s hc
  have HP : Hid (∀ q, Calls Try.prog 19 #[.string ⟨(l.drop c).toArray⟩, .string ⟨s.toArray⟩] (w.drewN q) fun e w' => e = .returned (.int .i64 (mtN l c s : Int)) ∧ ∃ m, w' = w.drewN m) := Lib.hid (fun q => Calls.quiet_of (prefix_draws (l.drop c) s (w.drewN q) (by rw [List.length_drop]; omega) hs))
  have HN : Hid (∀ (W : World), IsMt W b l (c + mtN l c s) false → Calls Try.prog 20 #[.pointer (some ⟨b, 0, none⟩)] W (Drew (.int .i64 ((l.length - (c + mtN l c s) : Nat) : Int)) W)) := Lib.hid (fun W hW => hdleft_draws hW m1 hl)
  have HX : Hid (mtX l c s = decide (mtN l c s < s.length ∧ c + mtN l c s < l.length)) := Lib.hid rfl
  generalize mtN l c s = n at *
  generalize mtX l c s = q at *
  obtain ⟨r, hr⟩ : ∃ r, l.length - (c + n) = r := ⟨_, rfl⟩
  rw [hr] at HN
  have H := Lib.hid h
  have g0 : (c : Int) ≤ (l.length : Int) := by omega
  have g1 : (c : Int) + (n : Int) ≤ 1000000000 := by omega
  have HC : Hid (((c + n : Nat) : Int) = (c : Int) + (n : Int)) := Lib.hid (by omega)
  by_cases h1 : n < s.length
  · by_cases h2 : c + n < l.length
    · have e : q = true := by rw [HX.out]; simp [h1, h2]
      subst e
      have g2 : (n : Int) < (s.length : Int) := by omega
      have g3 : (0 : Int) < (r : Int) := by omega
      clear h HX hr m1 m2 h1 h2 hl hs hc
      go_enter Try.func11, Try.ntmps11
      go_wp2_with fail
      go_quiet (first | with_reducible exact HP.out _)
      have HW1 := Lib.hid (((H.out.drewN nq).came (c + n)))
      have HI1 : Hid (Into b w ((w.drewN nq).setCell ⟨b, 1, none⟩ (.int .i64 ((c + n : Nat) : Int)))) := Lib.hid (((Into.refl b w).drewN nq).set _ _)
      rw [HC.out] at HW1 HI1
      clear HP
      go_wp2_with fail
      refine (HN.out _ HW1.out).mono ?_
      rintro e w1 ⟨rfl, k, rfl⟩
      go_wp2
      go_ret2
      exact ⟨rfl, (HW1.out.drewN k).wrong true, (HI1.out.drewN k).set _ _⟩
    · have e : q = false := by rw [HX.out]; simp [h2]
      subst e
      have g2 : (n : Int) < (s.length : Int) := by omega
      obtain rfl : r = 0 := by omega
      rw [Int.natCast_zero] at HN
      clear h HX hr m1 m2 h1 h2 hl hs hc
      go_enter Try.func11, Try.ntmps11
      go_wp2_with fail
      go_quiet (first | with_reducible exact HP.out _)
      have HW1 := Lib.hid (((H.out.drewN nq).came (c + n)))
      have HI1 : Hid (Into b w ((w.drewN nq).setCell ⟨b, 1, none⟩ (.int .i64 ((c + n : Nat) : Int)))) := Lib.hid (((Into.refl b w).drewN nq).set _ _)
      rw [HC.out] at HW1 HI1
      clear HP
      go_wp2_with fail
      refine (HN.out _ HW1.out).mono ?_
      rintro e w1 ⟨rfl, k, rfl⟩
      go_wp2
      go_ret2
      exact ⟨rfl, HW1.out.drewN k, HI1.out.drewN k⟩
  · have e : q = false := by rw [HX.out]; simp [h1]
    subst e
    have g2 : ¬ (n : Int) < (s.length : Int) := by omega
    clear h HX hr m1 m2 h1 hl hs hc HN
    go_enter Try.func11, Try.ntmps11
    go_wp2_with fail
    go_quiet (first | with_reducible exact HP.out _)
    have HW1 := Lib.hid (((H.out.drewN nq).came (c + n)))
    have HI1 : Hid (Into b w ((w.drewN nq).setCell ⟨b, 1, none⟩ (.int .i64 ((c + n : Nat) : Int)))) := Lib.hid (((Into.refl b w).drewN nq).set _ _)
    rw [HC.out] at HW1 HI1
    clear HP
    go_wp2
    go_ret2
    exact ⟨rfl, HW1.out, HI1.out⟩
end Go.Proofs.Ytgkpeehondmalaa
