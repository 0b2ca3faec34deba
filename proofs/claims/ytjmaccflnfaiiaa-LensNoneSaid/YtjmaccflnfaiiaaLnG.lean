/-
  (*Lens).unfit: walked.
-/
import Derived.Test.YtjmaccflnfaiiaaBn7
import Derived.Test.YtjmaccflnfaiiaaBn8
import Derived.Test.YtjmaccflnfaiiaaMgT
import Derived.Deep.RegionWith
import Derived.Deep.CutRange
set_option linter.unusedSimpArgs false
set_option linter.unusedVariables false
namespace Go.Proofs.Ytjmaccflnfaiiaa
open Go.RowKit

/-- A record without its Ids is put together as it is. -/
theorem two_bare {L : List Rn} (h : LnC [] L) (x : Rv) : twoB ⟨(lnLast L).k, (lnLast L).n, (lnLast L).r, none, 0, 0⟩ x = twoB (lnLast L).rv x := by
  rcases mg_cases L with rfl | ⟨o, y, rfl⟩
  · rfl
  · rw [lnl_snoc]
    have hy := lnc_each _ _ h y (by simp)
    by_cases h4 : y.k = 4
    · rw [mg2_no (x := ⟨y.k, y.n, y.r, none, 0, 0⟩) (fun q => by have := q.2.1; simp only at this; omega), mg2_no (x := y.rv) (fun q => by have h := q.2.1; have : y.k ≤ 3 := h; omega)]
    · have := ((ok_no h4).1 hy).2.2.2
      have e : y.rv = ⟨y.k, y.n, y.r, none, 0, 0⟩ := by unfold Rn.rv; rw [this]; rfl
      rw [e]
theorem mgtwo_say {W1 : World} (V : World) {L : List Rn} (hc : LnC [] L) {u : Rv} {z : Rn} (h2 : Say W1 u z) :
    Calls Try.prog 39 #[.agg #[.int .i64 (lnLast L).k, .int .i64 (lnLast L).n, .int .i64 (lnLast L).r, .slice none 0 0], .agg #[.int .i64 u.k, .int .i64 u.n, .int .i64 u.r, .slice u.a u.len u.cap]] V fun e V' => ∃ q : Rv, e = .returned (.tuple #[.agg #[.int .i64 q.k, .int .i64 q.n, .int .i64 q.r, .slice q.a q.len q.cap], .bool (twoB (lnLast L).rv z.rv)]) ∧ Below V.heap.size V V' := by
  refine (mgtwo_any (lnLast L).k (lnLast L).n (lnLast L).r none 0 0 u.k u.n u.r u.a u.len u.cap V).mono fun e V' hr => ?_
  obtain ⟨hr, hb⟩ := hr
  have e1 : twoB ⟨(lnLast L).k, (lnLast L).n, (lnLast L).r, none, 0, 0⟩ ⟨u.k, u.n, u.r, u.a, u.len, u.cap⟩ = twoB (lnLast L).rv z.rv := by
    rw [two_bare hc]
    exact ((Alike.refl (lnLast L).rv).two h2.alike).symm
  rw [e1] at hr
  exact ⟨_, hr, hb⟩

/-- How it stands, told by its kind. -/
theorem bad_check {L : List Rn} (hc : LnC [] L) {z : Rn} (h : z.k = 5) : lnBad L z = decide ((lnLast L).k = 0 ∨ (lnLast L).k = 5) := by
  have h2 : twoB (lnLast L).rv z.rv = false := mg2_no (fun q => by
    have q2 : (lnLast L).k ≤ 3 := q.2.1
    have q3 : z.k = (lnLast L).k := q.2.2.1
    omega)
  have hk := ln_kind hc
  by_cases g : (lnLast L).k = 0 ∨ (lnLast L).k = 5
  · rw [decide_eq_true g]
    exact lnbad_yes (.inr ⟨h, g.imp hk.1 id⟩)
  · rw [decide_eq_false g]
    exact lnbad_no.2 ⟨h2, fun q => g (q.2.imp hk.2 id)⟩
theorem bad_two {L : List Rn} {z : Rn} (h : z.k ≠ 5) : lnBad L z = twoB (lnLast L).rv z.rv := by
  cases h2 : twoB (lnLast L).rv z.rv with
  | true => exact lnbad_yes (.inl h2)
  | false => exact lnbad_no.2 ⟨h2, fun q => h q.1⟩

set_option maxRecDepth 100000 in
set_option maxHeartbeats 4000000 in
theorem lnunfit_raw {W : World} {B b : Nat} {l cm : List UInt8} {v : Value} {p : Nat} {L : List Rn} {y : Int} {cl : Bool} (h : LnRaw W B b l cm v p (lnLast L) y cl) (hc : LnC [] L) {k n r : Int} {a : Option Addr} {len cap : Nat} {z : Rn} (hz : Say W ⟨k, n, r, a, len, cap⟩ z) :
    Calls Try.prog 25 #[.pointer (some ⟨b, 0, none⟩), .agg #[.int .i64 k, .int .i64 n, .int .i64 r, .slice a len cap]] W fun e W' => e = .returned (.bool (lnBad L z)) ∧ Below W.heap.size W W' := by
  obtain ⟨W1, hW1⟩ : ∃ W1, W.alloc (.cells #[.int .i64 k, .int .i64 n, .int .i64 r, .slice a len cap] 34) = W1 := ⟨_, rfl⟩
  have hX : W1.heap[W.heap.size]? = some (.cells #[.int .i64 k, .int .i64 n, .int .i64 r, .slice a len cap] 34 (0, 0)) := by rw [← hW1]; exact heap_alloc_new W _
  have hB : Below W.heap.size W W1 := by rw [← hW1]; exact (Below.refl W.heap.size W).alloc (Nat.le_refl _) _
  have h1 := h.below hB
  obtain ⟨_, _, _, c1, c2, c3, c4, _, _⟩ := raw_reads h1
  obtain ⟨d0, d1, d2, d3⟩ := rec_reads hX
  have HB := Lib.hid hB
  have hkz : k = z.k := hz.1
  by_cases h5 : k = 5
  · have hbd := bad_check hc (hkz.symm.trans h5)
    subst h5
    rw [hbd]
    generalize (lnLast L).k = lk at c1 ⊢
    clear h h1 hz hX hB hc c2 c3 c4 d1 d2 d3 hkz hbd
    by_cases h0 : lk = 0
    · subst h0
      rw [decide_eq_true (Or.inl rfl)]
      go_enter Try.func25, Try.ntmps25
      go_wp2_with fail
      try rw [hW1]
      go_wp2
      go_ret
      exact ⟨rfl, HB.out⟩
    · by_cases h7 : lk = 5
      · subst h7
        rw [decide_eq_true (Or.inr rfl)]
        go_enter Try.func25, Try.ntmps25
        go_wp2_with fail
        try rw [hW1]
        go_wp2
        go_ret
        exact ⟨rfl, HB.out⟩
      · have g0 : (lk == 0) = false := by simpa using h0
        have g7 : (lk == 5) = false := by simpa using h7
        rw [decide_eq_false (fun q => q.elim h0 h7)]
        clear h0 h7
        go_enter Try.func25, Try.ntmps25
        go_wp2_with fail
        try rw [hW1]
        go_wp2
        go_ret
        exact ⟨rfl, HB.out⟩
  · have hbd := bad_two (L := L) (fun q => h5 (hkz.trans q))
    rw [hbd]
    have gk : (k == 5) = false := by simpa using h5
    have HC := Lib.hid hc
    have HZ := Lib.hid hz
    obtain ⟨β, hβ⟩ : ∃ β, twoB (lnLast L).rv z.rv = β := ⟨_, rfl⟩
    have HT := Lib.hid (fun V => mgtwo_say V HC.out HZ.out)
    rw [hβ] at HT ⊢
    dsimp only at HT
    generalize (lnLast L).k = lk at c1 HT
    generalize (lnLast L).n = ln at c2 HT
    generalize (lnLast L).r = lr at c3 HT
    clear h h1 hz hX hB hβ hkz hbd hc h5 HC HZ
    have hdd : Below W1.heap.size W1 W1.drew := (Below.refl _ _).drew
    have kk : Below W1.heap.size W1 (W1.drew.alloc (.cells #[.int .i64 0, .int .i64 0, .int .i64 0, .slice none 0 0] 34)) := hdd.alloc (Nat.le_refl _) _
    have kx := heap_alloc_new W1.drew (.cells #[.int .i64 0, .int .i64 0, .int .i64 0, .slice none 0 0] 34)
    have a0' := fun o => rv_alloc (w := W1.drew) (b := b) c1 o
    have a1' := fun o => rv_alloc (w := W1.drew) (b := b) c2 o
    have a2' := fun o => rv_alloc (w := W1.drew) (b := b) c3 o
    have a3' := fun o => rv_alloc (w := W1.drew) (b := b) c4 o
    have e0' := fun o => rv_alloc (w := W1.drew) (b := W.heap.size) d0 o
    have e1' := fun o => rv_alloc (w := W1.drew) (b := W.heap.size) d1 o
    have e2' := fun o => rv_alloc (w := W1.drew) (b := W.heap.size) d2 o
    have e3' := fun o => rv_alloc (w := W1.drew) (b := W.heap.size) d3 o
    have a0 := fun o => rv_alloc (w := W1) (b := b) c1 o
    have a1 := fun o => rv_alloc (w := W1) (b := b) c2 o
    have a2 := fun o => rv_alloc (w := W1) (b := b) c3 o
    have a3 := fun o => rv_alloc (w := W1) (b := b) c4 o
    have e0 := fun o => rv_alloc (w := W1) (b := W.heap.size) d0 o
    have e1 := fun o => rv_alloc (w := W1) (b := W.heap.size) d1 o
    have e2 := fun o => rv_alloc (w := W1) (b := W.heap.size) d2 o
    have e3 := fun o => rv_alloc (w := W1) (b := W.heap.size) d3 o
    go_enter Try.func25, Try.ntmps25
    go_upto_region 3 with fail
    try rw [hW1]
    clear hW1
    go_cut [5, 6] from 24 (fun p5 q6 wx => ∃ g5, p5 = .pointer (some ⟨g5, 0, none⟩) ∧ q6 = .bool β ∧ Hid (Below W1.heap.size W1 wx))
    case first =>
      go_region_with (first
        | (go_at_call 39
           refine (HT.out _).mono ?_
           rintro E w2 ⟨⟨tk, tn, tr, ta, tl, tc⟩, rfl, hb⟩
           have HB2 : Hid (Below W1.heap.size W1 w2) := Lib.hid (by first | exact hdd.trans hb | exact kk.trans (hb.mono kk.size))
           (first
             | (have X4 : w2.heap[W1.heap.size]? = some (.cells #[.int .i64 0, .int .i64 0, .int .i64 0, .slice none 0 0] 34 (0, 0)) := (hb.block _ (heap_lt kx)).trans kx; obtain ⟨f0, f1, f2, f3⟩ := rec_free X4; obtain ⟨k0, k1, k2, k3⟩ := rec_reads X4; clear X4)
             | skip)
           clear hb))
      all_goals
        have q1 : Hid (Below W1.heap.size W1 ((((w2.setCell ⟨W1.heap.size, 0, none⟩ (.int .i64 tk)).setCell ⟨W1.heap.size, 1, none⟩ (.int .i64 tn)).setCell ⟨W1.heap.size, 2, none⟩ (.int .i64 tr)).setCell ⟨W1.heap.size, 3, none⟩ (.slice ta tl tc))) := Lib.hid (below_rec HB2.out (Nat.le_refl _) _ _ _ _)
        have q3 : Hid (Below W1.heap.size W1 (w2.alloc (.cells #[.int .i64 tk, .int .i64 tn, .int .i64 tr, .slice ta tl tc] 34))) := Lib.hid (HB2.out.alloc HB2.out.size _)
        go_wp2_with fail
        go_meet
        exact ⟨_, rfl, rfl, by first | exact q1 | exact q3⟩
    case rest =>
      obtain ⟨g5, rfl, rfl, HBx⟩ := hcut
      have HBe := Lib.hid (HB.out.trans (HBx.out.mono HB.out.size))
      clear a0 a1 a2 a3 e0 e1 e2 e3 a0' a1' a2' a3' e0' e1' e2' e3' hdd kk kx HT c1 c2 c3 c4 d0 d1 d2 d3
      go_wp2
      go_ret
      exact ⟨rfl, HBe.out⟩
end Go.Proofs.Ytjmaccflnfaiiaa
