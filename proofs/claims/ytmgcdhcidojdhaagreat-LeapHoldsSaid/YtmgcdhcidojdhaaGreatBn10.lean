/-
  Texts put together: PtMo, LpW, LpT.
-/
import Derived.Test.YtmgcdhcidojdhaaGreatBn5
import Derived.Test.YtmgcdhcidojdhaaGreatPbO
import Derived.Test.YtmgcdhcidojdhaaGreatBn4
import Derived.Test.YtmgcdhcidojdhaaGreatBn2
set_option linter.unusedSimpArgs false
set_option linter.unusedVariables false
namespace Go.Proofs.YtmgcdhcidojdhaaGreat
open Go.RowKit


theorem ptmost_nil (w : World) : Calls Tryz.prog 30 #[.pointer none] w fun e w' => e = .returned (.int .i64 0) ∧ w' = w := by
  go_enter Tryz.func30, Tryz.ntmps30
  go_wp2
  go_ret
  exact ⟨rfl, rfl⟩
theorem ptmost_any {w : World} {b : Nat} {ws : List (List UInt8)} (h : IsSet w b ws) : Calls Tryz.prog 30 #[.pointer (some ⟨b, 0, none⟩)] w fun e w' => e = .returned (.int .i64 (mostL ws : Int)) ∧ w' = w := by
  obtain ⟨g, cap, _, _, c2, _⟩ := h.reads
  clear h
  generalize mostL ws = n at c2 ⊢
  go_enter Tryz.func30, Tryz.ntmps30
  go_wp2
  go_ret
  exact ⟨rfl, rfl⟩
end Go.Proofs.YtmgcdhcidojdhaaGreat

namespace Go.Proofs.YtmgcdhcidojdhaaGreat
open Go.RowKit

/-- A store into a block of a type that nothing else is of. -/
structure Sole (T : TypeId) (b : Nat) (w w' : World) : Prop where
  os : w'.os = w.os
  tape : w'.tape = w.tape
  output : w'.output = w.output
  size : w.heap.size ≤ w'.heap.size
  was : ∃ cs m, w.heap[b]? = some (.cells cs T m)
  block : ∀ k, k ≠ b → w'.heap[k]? = w.heap[k]?
theorem Sole.cells {T U : TypeId} {b k : Nat} {w w' : World} (h : Sole T b w w') {cs : Array Value} {m : Nat × Nat} (hk : w.heap[k]? = some (.cells cs U m)) (hU : U ≠ T) : w'.heap[k]? = some (.cells cs U m) := by
  obtain ⟨ds, n, hd⟩ := h.was
  exact (h.block k (type_ne hk hd hU)).trans hk
theorem Sole.owns {T e : TypeId} {b : Nat} {w w' : World} (h : Sole T b w w') {base n size : Nat} {v : Value} {xs : List Value} (ho : w.ownsRow base e size v n xs) (he : e ≠ T) : w'.ownsRow base e size v n xs := by
  obtain ⟨hl, hx⟩ := ho
  refine ⟨hl, ?_⟩
  rcases hx with hx | ⟨g, cap, cur, hv, hg, hh, r⟩
  · exact .inl hx
  · exact .inr ⟨g, cap, cur, hv, hg, h.cells hh he, r⟩
theorem Sole.set {w : World} {b i : Nat} {T : TypeId} {cs : Array Value} {m : Nat × Nat} (h : w.heap[b]? = some (.cells cs T m)) (u : Value) : Sole T b w (w.setCell ⟨b, i, none⟩ u) :=
  ⟨rfl, rfl, rfl, by simp [World.setCell], ⟨cs, m, h⟩, fun k hk => put_other hk u⟩
set_option maxRecDepth 100000 in
theorem IsPats.sole {w w' : World} {b : Nat} {p : Option Addr} {us : List (List UInt8)} (h : IsPats w p us) (k : Sole 68 b w w') : IsPats w' p us := by
  rcases h with h | ⟨b', rfl, ⟨g, cap, h1, h2⟩, h3⟩
  · exact .inl h
  · exact .inr ⟨b', rfl, ⟨g, cap, k.cells h1 (by decide), k.owns h2 (by decide)⟩, h3⟩
set_option maxRecDepth 100000 in
theorem IsProbe.sole {w w' : World} {b pb : Nat} {us : List (List UInt8)} (h : IsProbe w pb us) (k : Sole 68 b w w') : IsProbe w' pb us := by
  obtain ⟨y, bu, sh, pr, l, h1, h2, h3, h4, h5⟩ := h
  refine ⟨y, bu, sh, pr, l, k.cells h1 (by decide), h2.sole k, ?_, ?_, ?_⟩
  · rcases h3 with h3 | ⟨base, c, e, i1, i2, cs, v, i3, i4, i5⟩
    · exact .inl h3
    · refine .inr ⟨base, c, e, i1, Nat.le_trans i2 k.size, cs, v, k.cells i3 (by decide), fun x hx => ?_, i5⟩
      obtain ⟨a1, a2, a3⟩ := i4 x hx
      exact ⟨a1, a2, k.owns a3 (by decide)⟩
  · rcases h4 with h4 | ⟨c, e, cs, i1, i2⟩
    · exact .inl h4
    · exact .inr ⟨c, e, cs, k.cells i1 (by decide), i2⟩
  · rcases h5 with h5 | ⟨c, g, n, D, e, i1, i2⟩
    · exact .inl h5
    · obtain ⟨ds, n', hd⟩ := k.was
      obtain ⟨i0, es, clock, i3, i4⟩ := i1
      refine .inr ⟨c, g, n, D, e, ⟨k.cells i0 (by decide), es, clock, (k.block g (fun e => ?_)).trans i3, i4⟩, i2⟩
      subst e
      rw [hd] at i3
      cases i3

/-- A loop of a set, in block b. -/
def IsLoop (w : World) (b : Nat) (us : List (List UInt8)) (skip : Bool) : Prop :=
  ∃ pb, w.heap[b]? = some (.cells #[.pointer (some ⟨pb, 0, none⟩), .int .i64 ((max (mostL us) 2 : Nat) : Int), .bool skip] 68 (0, 0)) ∧ IsProbe w pb us
theorem IsLoop.below {w w' : World} {b : Nat} {us : List (List UInt8)} {skip : Bool} (h : IsLoop w b us skip) (hb : Below w.heap.size w w') : IsLoop w' b us skip := by
  obtain ⟨pb, h1, h2⟩ := h
  exact ⟨pb, (hb.block b (heap_lt h1)).trans h1, h2.below hb⟩
theorem IsLoop.lt {w : World} {b : Nat} {us : List (List UInt8)} {skip : Bool} (h : IsLoop w b us skip) : b < w.heap.size := by
  obtain ⟨pb, h1, h2⟩ := h
  exact heap_lt h1
/-- One of no set. -/
def NoLoop (w : World) (b : Nat) : Prop := ∃ u, w.heap[b]? = some (.cells #[.pointer none, .int .i64 2, u] 68 (0, 0))
theorem NoLoop.below {w w' : World} {b : Nat} (h : NoLoop w b) (hb : Below w.heap.size w w') : NoLoop w' b := by
  obtain ⟨u, h⟩ := h
  exact ⟨u, (hb.block b (heap_lt h)).trans h⟩
theorem loop_reads {w : World} {b : Nat} {p k s : Value} (h : w.heap[b]? = some (.cells #[p, k, s] 68 (0, 0))) : w.cell? ⟨b, 0, none⟩ = some p ∧ w.cell? ⟨b, 1, none⟩ = some k ∧ w.cell? ⟨b, 2, none⟩ = some s := by
  refine ⟨?_, ?_, ?_⟩ <;> rw [Lib.cell_of_heap h] <;> rfl

set_option maxRecDepth 100000 in
set_option maxHeartbeats 400000 in
theorem lpkeep_nil (w : World) : Calls Tryz.prog 10 #[.pointer none] w fun e w' => e = .returned (.int .i64 0) ∧ w' = w := by
  go_enter Tryz.func10, Tryz.ntmps10
  go_wp2
  go_ret
  exact ⟨rfl, rfl⟩
set_option maxRecDepth 100000 in
set_option maxHeartbeats 400000 in
theorem lpkeep_at {w : World} {b : Nat} {p s : Value} {k : Int} (h : w.heap[b]? = some (.cells #[p, .int .i64 k, s] 68 (0, 0))) : Calls Tryz.prog 10 #[.pointer (some ⟨b, 0, none⟩)] w fun e w' => e = .returned (.int .i64 k) ∧ w' = w := by
  obtain ⟨c0, c1, c2⟩ := loop_reads h
  clear h
  go_enter Tryz.func10, Tryz.ntmps10
  go_wp2
  go_ret
  exact ⟨rfl, rfl⟩
theorem lpkeep_any {w : World} {b : Nat} {us : List (List UInt8)} {skip : Bool} (h : IsLoop w b us skip) : Calls Tryz.prog 10 #[.pointer (some ⟨b, 0, none⟩)] w fun e w' => e = .returned (.int .i64 ((max (mostL us) 2 : Nat) : Int)) ∧ w' = w := by
  obtain ⟨pb, h1, _⟩ := h
  exact lpkeep_at h1
theorem lpkeep_no {w : World} {b : Nat} (h : NoLoop w b) : Calls Tryz.prog 10 #[.pointer (some ⟨b, 0, none⟩)] w fun e w' => e = .returned (.int .i64 2) ∧ w' = w := by
  obtain ⟨u, h1⟩ := h
  exact lpkeep_at h1

set_option maxRecDepth 100000 in
set_option maxHeartbeats 1000000 in
theorem lpnew_nil (skip : Bool) (w : World) : Calls Tryz.prog 9 #[.pointer none, .bool skip] w fun e w' => ∃ b, e = .returned (.pointer (some ⟨b, 0, none⟩)) ∧ NoLoop w' b ∧ Below w.heap.size w w' := by
  have H1 := Lib.hid (ptmost_nil w)
  have hX := heap_alloc_new w (.cells #[.pointer none, .int .i64 2, .bool skip] 68)
  have hB := (Below.refl w.heap.size w).alloc (Nat.le_refl _) (.cells #[.pointer none, .int .i64 2, .bool skip] 68)
  go_enter Tryz.func9, Tryz.ntmps9
  go_wp2_with fail
  refine H1.out.mono ?_
  rintro e w' ⟨rfl, hw⟩
  obtain rfl := hw.symm
  go_wp2
  go_ret
  exact ⟨_, rfl, ⟨_, hX⟩, hB⟩
set_option maxRecDepth 100000 in
set_option maxHeartbeats 1000000 in
theorem lpnew_any {w : World} {b : Nat} {us : List (List UInt8)} (h : IsSet w b us) (hp : Pats us) (skip : Bool) : Calls Tryz.prog 9 #[.pointer (some ⟨b, 0, none⟩), .bool skip] w fun e w' => ∃ b, e = .returned (.pointer (some ⟨b, 0, none⟩)) ∧ IsLoop w' b us skip ∧ Below w.heap.size w w' := by
  have H1 := Lib.hid (ptmost_any h)
  obtain ⟨K, hK⟩ : ∃ K : Nat, max (mostL us) 2 = K := ⟨_, rfl⟩
  have hK2 : max ((mostL us : Nat) : Int) 2 = (K : Int) := by omega
  have HK := Lib.hid hK
  obtain ⟨w1, hw1⟩ : ∃ w1, w.alloc (.cells #[.pointer none, .int .i64 (K : Int), .bool skip] 68) = w1 := ⟨_, rfl⟩
  have hX : w1.heap[w.heap.size]? = some (.cells #[.pointer none, .int .i64 (K : Int), .bool skip] 68 (0, 0)) := by
    rw [← hw1]
    exact heap_alloc_new w _
  have hB : Below w.heap.size w w1 := by
    rw [← hw1]
    exact (Below.refl w.heap.size w).alloc (Nat.le_refl _) _
  have H2 := Lib.hid (pbnew_any (w := w1) (.inr ⟨b, rfl, h.below hB, hp⟩))
  clear h hp hK
  go_enter Tryz.func9, Tryz.ntmps9
  go_wp2_with fail
  refine H1.out.mono ?_
  rintro e w' ⟨rfl, hw⟩
  obtain rfl := hw.symm
  go_wp2_with fail
  try rw [hK2]
  try rw [hw1]
  refine H2.out.mono ?_
  rintro e w2 ⟨pb, rfl, _, hpr, hb2⟩
  have hX2 := (hb2.block _ (heap_lt hX)).trans hX
  have f0 := Lib.frozen_of_heap hX2 0
  obtain ⟨c0, c1, c2⟩ := loop_reads hX2
  have HB := Lib.hid (hB.trans (hb2.mono hB.size))
  have HP := Lib.hid (hpr.sole (Sole.set hX2 (i := 0) (.pointer (some ⟨pb, 0, none⟩))))
  have HX := Lib.hid hX2
  clear hX2 hpr hb2 hB hX H1 H2 hw1
  go_wp2
  go_ret
  refine ⟨_, rfl, ⟨pb, ?_, HP.out⟩, HB.out.setCell (p := ⟨w.heap.size, 0, none⟩) (Nat.le_refl _) _⟩
  rw [HK.out]
  exact (put_heap HX.out _).trans rfl

end Go.Proofs.YtmgcdhcidojdhaaGreat

namespace Go.Proofs.YtmgcdhcidojdhaaGreat
open Go.RowKit

theorem lp_drewN {B : Nat} {w w' : World} (h : Below B w w') (q : Nat) : Below B w (w'.drewN q) := h.trans ⟨rfl, rfl, rfl, Nat.le_refl _, fun _ _ => rfl⟩
/-- The answer where there is no tail. -/
def NoTail (w : World) (e : Ending) (w' : World) : Prop := e = .returned (.tuple #[.string ⟨#[]⟩, .bool false]) ∧ ∃ q, w' = w.drewN q

set_option maxRecDepth 100000 in
set_option maxHeartbeats 1000000 in
theorem lptail_nil (k : Value) (hk : ∃ p, k = .pointer p) (e : Int) (w : World) : Calls Tryz.prog 42 #[.pointer none, k, .int .i64 e] w (NoTail w) := by
  obtain ⟨p, rfl⟩ := hk
  go_enter Tryz.func42, Tryz.ntmps42
  go_wp2
  go_ret2
  exact ⟨rfl, 0, rfl⟩
set_option maxRecDepth 100000 in
set_option maxHeartbeats 1000000 in
theorem lptail_none {w : World} {b : Nat} (h : NoLoop w b) (k : Value) (hk : ∃ p, k = .pointer p) (e : Int) : Calls Tryz.prog 42 #[.pointer (some ⟨b, 0, none⟩), k, .int .i64 e] w (NoTail w) := by
  obtain ⟨p, rfl⟩ := hk
  obtain ⟨u, h⟩ := h
  obtain ⟨c0, c1, c2⟩ := loop_reads h
  clear h
  go_enter Tryz.func42, Tryz.ntmps42
  go_wp2
  go_ret2
  exact ⟨rfl, 0, rfl⟩
set_option maxRecDepth 100000 in
set_option maxHeartbeats 1000000 in
theorem lptail_far {w : World} {b : Nat} {us : List (List UInt8)} {skip : Bool} (h : IsLoop w b us skip) {n : Nat} {k : Value} (hp : ∃ p, k = .pointer p) (hk : Calls Tryz.prog 32 #[k] w fun e w' => e = .returned (.int .i64 (n : Int)) ∧ w' = w) (e : Int) (he : e < 0 ∨ (n : Int) ≤ e) : Calls Tryz.prog 42 #[.pointer (some ⟨b, 0, none⟩), k, .int .i64 e] w (NoTail w) := by
  obtain ⟨pb, h, _⟩ := h
  obtain ⟨p, rfl⟩ := hp
  obtain ⟨c0, c1, c2⟩ := loop_reads h
  have HK := Lib.hid hk
  clear h hk
  by_cases h0 : e < 0
  · go_enter Tryz.func42, Tryz.ntmps42
    go_wp2
    go_ret2
    exact ⟨rfl, 0, rfl⟩
  · have h1 : (n : Int) ≤ e := by omega
    go_enter Tryz.func42, Tryz.ntmps42
    go_wp2_with fail
    refine HK.out.mono ?_
    rintro E w' ⟨rfl, hw⟩
    obtain rfl := hw.symm
    go_wp2
    go_ret2
    exact ⟨rfl, 0, rfl⟩

set_option maxRecDepth 100000 in
set_option maxHeartbeats 1000000 in
theorem lptail_in {w : World} {b bl base keep done : Nat} {us : List (List UInt8)} {skip : Bool} {s : List UInt8} (h : IsLoop w bl us skip) (hc : IsCarry w base b keep s done) (hk : max (mostL us) 2 ≤ keep) (hs : s.length ≤ 1000000000) (e : Nat) (h1 : done ≤ e + 1) (h2 : e < s.length) :
    Calls Tryz.prog 42 #[.pointer (some ⟨bl, 0, none⟩), .pointer (some ⟨b, 0, none⟩), .int .i64 (e : Int)] w fun E w' => E = .returned (.tuple #[.string ⟨(midL s (e + 1 - keep) (e + 1)).toArray⟩, .bool true]) ∧ ∃ q, w' = w.drewN q := by
  obtain ⟨pb, h, _⟩ := h
  obtain ⟨c0, c1, c2⟩ := loop_reads h
  have HK := Lib.hid (caseen_any hc)
  have HT := Lib.hid (catail_any hc hs ((e + 1 : Nat) : Int))
  rw [tlK_in h1 (by omega)] at HT
  dsimp only [tlR, cvR] at HT
  have hl : (midL s (e + 1 - keep) (e + 1)).length = e + 1 - (e + 1 - keep) := midL_length _ _ _ (by omega)
  generalize midL s (e + 1 - keep) (e + 1) = t at *
  obtain ⟨K, hK⟩ : ∃ K : Nat, max (mostL us) 2 = K := ⟨_, rfl⟩
  rw [hK] at c1 hk
  have S1 := Lib.hid (bsize t)
  have e0 : ¬ (e : Int) < 0 := by omega
  have e1 : ¬ (s.length : Int) ≤ (e : Int) := by omega
  have wE : IntKind.i64.wrap ((e : Int) + 1) = ((e + 1 : Nat) : Int) := by rw [IntKind.wrap_i64]; omega
  have HM : Hid (decide (min ((e : Int) + 1) (K : Int) ≤ (t.length : Int)) = true) := Lib.hid (decide_eq_true (by omega))
  clear h hc hl hK hk h1 h2 hs
  go_enter Tryz.func42, Tryz.ntmps42
  go_wp2_with fail
  refine HK.out.mono ?_
  rintro E w' ⟨rfl, hw⟩
  obtain rfl := hw.symm
  go_wp2_with fail
  refine HT.out.mono ?_
  rintro E w' ⟨rfl, q, rfl⟩
  go_wp2_with fail
  go_quiet (fail)
  go_wp2
  go_ret2
  refine ⟨?_, q + nq, by simp [World.drewN, Nat.add_assoc]⟩
  show Ending.returned (.tuple #[.string ⟨t.toArray⟩, .bool (decide (min ((e : Int) + 1) (K : Int) ≤ (t.length : Int)))]) = _
  rw [HM.out]
/-- .. and what it is. -/
theorem tail_is {s : List UInt8} {us : List (List UInt8)} {e keep : Nat} (hk : max (mostL us) 2 ≤ keep) (h2 : e < s.length) : IsTail us s (e + 1) (midL s (e + 1 - keep) (e + 1)) := by
  have := IsTail.drop (us := us) (s := s) (e := e + 1) (n := e + 1 - (e + 1 - keep)) (by omega) (by omega) (by omega) (by omega)
  rw [show e + 1 - (e + 1 - (e + 1 - keep)) = e + 1 - keep by omega] at this
  exact this
end Go.Proofs.YtmgcdhcidojdhaaGreat
