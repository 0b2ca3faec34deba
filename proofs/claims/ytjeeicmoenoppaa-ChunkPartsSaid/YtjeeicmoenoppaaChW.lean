/-
  chunk.Where, walked.
-/
import Derived.Test.YtjeeicmoenoppaaChI
set_option linter.unusedSimpArgs false
set_option linter.unusedVariables false
namespace Go.Proofs.Ytjeeicmoenoppaa
open Go.RowKit Go.Shelf

attribute [local go_sem] Oper.semAt_some

theorem boxed_row {A B : World} {row : Option Nat} {b : Nat} {t : TypeId} {v : Value} (h : Boxed A b t v) (hg : A.grownBy B row) (hr : ∀ r, row = some r → ∃ o : Obj, A.heap[r]? = some o ∧ o.isCells = false) : Boxed B b t v :=
  boxed_own b t (fun _ : Unit => v) () A B row h hg hr

theorem allL_get {ws : List (List UInt8)} {k : Nat} {t : List UInt8} (h : ws[k]? = some t) : allL ws k = (ahd ws k, t) := by unfold allL; rw [h]; rfl
theorem wh_up (ws : List (List UInt8)) (at_ : Int) (h0 : 0 ≤ at_) : ∀ k, k ≤ ws.length → (∀ y ∈ uptoL ws k, ¬ (at_ - (y.1 : Int) < (y.2.length : Int))) → (ahd ws k : Int) ≤ at_
  | 0, _, _ => by rw [ahd_zero]; exact h0
  | k + 1, hk, h => by
    have hf : ws[k]? = some (ws[k]'(by omega)) := List.getElem?_eq_getElem _
    have ih := wh_up ws at_ h0 k (by omega) (fun y hy => h y (by rw [uptoL_succ]; exact List.mem_append_left _ hy))
    have h1 := h (allL ws k) (by rw [uptoL_succ]; simp)
    rw [allL_get hf] at h1
    rw [ahd_succ hf]
    simp only at h1
    omega
theorem wh_stop (ws : List (List UInt8)) (at_ : Int) (h0 : 0 ≤ at_) (k : Nat) (hk : k ≤ ws.length) (q : List (Nat × List UInt8)) (y : Nat × List UInt8) (h : q ++ [y] = uptoL ws k) (hy : at_ - (y.1 : Int) < (y.2.length : Int)) (hq : ∀ z ∈ q, ¬ (at_ - (z.1 : Int) < (z.2.length : Int))) :
    whI ws at_ = (q.length : Int) ∧ whK ws at_ = at_ - (y.1 : Int) := by
  cases k with
  | zero => simp [uptoL] at h
  | succ k =>
    rw [uptoL_succ] at h
    obtain ⟨h1, h2⟩ := List.append_inj' h rfl
    obtain ⟨t, hf⟩ : ∃ t, ws[k]? = some t := ⟨_, List.getElem?_eq_getElem (by omega)⟩
    have h3 : y = (ahd ws k, t) := by rw [allL_get hf] at h2; simpa using h2
    subst h1 h3
    simp only at hy
    rw [uptoL_length]
    exact wh_hit hf (wh_up ws at_ h0 k (by omega) hq) (by omega)

/-- What Where answers. -/
def RetWh (ws : List (List UInt8)) (at_ : Int) (w : World) (e : Ending) (w' : World) : Prop :=
  ∃ (p k : Int) (b : Bool), e = .returned (.tuple #[.int .i64 p, .int .i64 k, .bool b]) ∧ ((b = true ∧ p = whI ws at_ ∧ k = whK ws at_ ∧ 0 ≤ whI ws at_) ∨ (b = false ∧ p = 0 ∧ k = 0 ∧ whI ws at_ = -1)) ∧ Below w.heap.size w w'

set_option maxHeartbeats 400000 in
theorem where_neg (a : Option Addr) (len cap : Nat) (ws : List (List UInt8)) (at_ : Int) (w : World) (h : at_ < 0) :
    Calls Try.prog 14 #[.slice a len cap, .int .i64 at_] w (RetWh ws at_ w) := by
  go_enter Try.func14, Try.ntmps14
  go_wp2
  refine bodyPost_ret (v := .tuple #[.int .i64 0, .int .i64 0, .bool false]) (by simp [results, Try.results14, go_sem]) rfl ?_
  refine ⟨_, _, _, rfl, .inr ⟨rfl, rfl, rfl, (wh_neg h).1⟩, ?_⟩
  repeat (first | exact Below.refl _ _ | refine Below.setCell ?_ (by simp; omega) _ | refine Below.setCell ?_ (by simp) _ | refine Below.alloc ?_ (by simp; omega) _ | refine Below.alloc ?_ (by simp) _)

/-- The four boxes that Where makes itself. -/
def whWorld (at_ : Int) (w : World) : World :=
  (((w.alloc (.cells #[.int .i64 at_] 3)).alloc (.cells #[.int .i64 0] 3)).alloc (.cells #[.int .i64 0] 3)).alloc (.cells #[.bool false] 4)
theorem whWorld_size (at_ : Int) (w : World) : (whWorld at_ w).heap.size = w.heap.size + 4 := by simp [whWorld]
theorem whWorld_below (at_ : Int) (w : World) : Below w.heap.size w (whWorld at_ w) := by
  unfold whWorld
  repeat (first | exact Below.refl _ _ | refine Below.alloc ?_ (by simp; omega) _ | refine Below.alloc ?_ (by simp) _)

/-- Between two rounds: so many parts have come, in none of them the byte stands. -/
def WhI (at_ : Int) (w : World) (pre : List (Nat × List UInt8)) (W : World) : Prop :=
  ((∀ y ∈ pre, ¬ (at_ - (y.1 : Int) < (y.2.length : Int))) ∧ Boxed W w.heap.size 3 (.int .i64 at_) ∧ Boxed W (w.heap.size + 1) 3 (.int .i64 (pre.length : Int)) ∧ Boxed W (w.heap.size + 1 + 1) 3 (.int .i64 0) ∧ Boxed W (w.heap.size + 1 + 1 + 1) 4 (.bool false)) ∧ Below w.heap.size w W
/-- A round has left: the byte stands in the last part. -/
def WhX (at_ : Int) (w : World) (c : Code) (pre : List (Nat × List UInt8)) (W : World) : Prop :=
  (c = .ret ∧ ∃ q y, pre = q ++ [y] ∧ at_ - (y.1 : Int) < (y.2.length : Int) ∧ (∀ z ∈ q, ¬ (at_ - (z.1 : Int) < (z.2.length : Int))) ∧ Boxed W (w.heap.size + 1) 3 (.int .i64 (q.length : Int)) ∧ Boxed W (w.heap.size + 1 + 1) 3 (.int .i64 (at_ - y.1)) ∧ Boxed W (w.heap.size + 1 + 1 + 1) 4 (.bool true)) ∧ Below w.heap.size w W

theorem whI_turn (at_ : Int) (w : World) (C : Nat) (hC : w.heap.size ≤ C) : OwnFrom C (WhI at_ w) := by
  rintro s A B row ⟨⟨h0, h1, h2, h3, h4⟩, h5⟩ hg hr
  have hr' : ∀ r, row = some r → ∃ o : Obj, A.heap[r]? = some o ∧ o.isCells = false := fun r e => (hr r e).2
  exact ⟨⟨h0, boxed_row h1 hg hr', boxed_row h2 hg hr', boxed_row h3 hg hr', boxed_row h4 hg hr'⟩, ownFrom_below (β := Unit) (Nat.le_refl _) hC () A B row h5 hg hr⟩
theorem whX_turn (at_ : Int) (w : World) (C : Nat) (hC : w.heap.size ≤ C) (c : Code) : OwnFrom C (WhX at_ w c) := by
  rintro s A B row ⟨⟨h0, q, y, h1, h2, h3, h4, h5, h6⟩, h7⟩ hg hr
  have hr' : ∀ r, row = some r → ∃ o : Obj, A.heap[r]? = some o ∧ o.isCells = false := fun r e => (hr r e).2
  exact ⟨⟨h0, q, y, h1, h2, h3, boxed_row h4 hg hr', boxed_row h5 hg hr', boxed_row h6 hg hr'⟩, ownFrom_below (β := Unit) (Nat.le_refl _) hC () A B row h7 hg hr⟩

theorem whStart (at_ : Int) (w : World) (o : Obj) : WhI at_ w [] ((whWorld at_ w).alloc o) := by
  have b0 := Boxed.new w 3 (.int .i64 at_)
  have b1 := Boxed.new (w.alloc (.cells #[.int .i64 at_] 3)) 3 (.int .i64 0)
  have b2 := Boxed.new ((w.alloc (.cells #[.int .i64 at_] 3)).alloc (.cells #[.int .i64 0] 3)) 3 (.int .i64 0)
  have b3 := Boxed.new (((w.alloc (.cells #[.int .i64 at_] 3)).alloc (.cells #[.int .i64 0] 3)).alloc (.cells #[.int .i64 0] 3)) 4 (.bool false)
  simp only [World.size_alloc] at b1 b2 b3
  refine ⟨⟨by simp, ?_, ?_, ?_, ?_⟩, ?_⟩
  · exact (((b0.alloc _).alloc _).alloc _).alloc _
  · exact ((b1.alloc _).alloc _).alloc _
  · exact (b2.alloc _).alloc _
  · exact b3.alloc _
  · exact (whWorld_below at_ w).alloc (by rw [whWorld_size]; omega) _

set_option maxRecDepth 100000 in
set_option maxHeartbeats 2000000 in
theorem where_pos (a : Option Addr) (len cap : Nat) (ws : List (List UInt8)) (at_ : Int) (w : World) (h0 : 0 ≤ at_) (h1 : at_ ≤ 9223372036854775807) (hl : len ≤ 1000000) (hs : ∀ t ∈ ws, t.length ≤ 1000000) (hr : IsStrs w a len ws) :
    Calls Try.prog 14 #[.slice a len cap, .int .i64 at_] w (RetWh ws at_ w) := by
  have hz := whWorld_size at_ w
  have hbw := whWorld_below at_ w
  have HM := Lib.hid (thr_moves Fence.wide 4 trivial rfl (by omega) (w.heap.size + 4) (fun k => k < w.heap.size) a len cap ws hl hs
    (fun h b off e => by
      obtain ⟨b', off', e', t, _, hc⟩ := str_at hr (Below.refl _ _) 0 h
      rw [e] at e'
      cases e'
      exact World.block_lt_of_cell? w _ hc)
    ((whWorld at_ w).alloc (.cells #[.slice a len cap] 24)) (by rw [World.size_alloc, hz]; omega) (by rw [← hz, World.cell?_alloc_new]; rfl) (hr.below (hbw.alloc (by omega) _)))
  refine callsIn_wide (n := 5) |>.1 ?_
  refine callsIn_of_wp_marks Try.func14 rfl trivial ?_ rfl
  simp only [Try.ntmps14, List.size_toArray, List.length_cons, List.length_nil, Nat.reduceAdd, Nat.reduceSub, Array.replicate_succ, Array.replicate_zero, List.push_toArray, List.append_toArray, List.nil_append, List.cons_append]
  gi_wp2_with fail
  refine ⟨trivial, ?_⟩
  refine (through_in Fence.wide 4 trivial rfl a len cap (whWorld at_ w)).mono ?_
  rintro e w' ⟨rfl, rfl⟩
  gi_wp2
  obtain ⟨W0, hW0⟩ : ∃ W0, (whWorld at_ w).alloc (.cells #[.slice a len cap] 24) = W0 := ⟨_, rfl⟩
  have hI0 : WhI at_ w [] W0 := by rw [← hW0]; exact whStart at_ w _
  have hsz0 : w.heap.size + 5 ≤ W0.heap.size := by rw [← hW0, World.size_alloc, hz]; omega
  rw [hW0] at HM ⊢
  clear hW0 hz hbw
  refine wpIn_rangeFunc_moves (F := Fence.wide) (n := 5) rfl (by omega) (gf := 25) (lb := #[.pointer (some ⟨w.heap.size + 4, 0, none⟩)]) rfl trivial (enters_of Try.func25 (by kernel_rfl) rfl)
    HM.out (fun h k => h.trans k) (fun W lp o o' hlp ho _ _ k hk => World.putObj_heap_other (by omega)) (fun h => h.elim) (Below.refl _ _) (fun _ => rfl)
    (WhI at_ w) (WhX at_ w) (whI_turn at_ w _ (by omega)) (fun _ _ _ _ h => h.elim) (whX_turn at_ w _ (by omega)) hI0
    (fun x => { tmps := #[.slice a len cap, .int .i64 at_, undef, .pointer (some ⟨w.heap.size, 0, none⟩), .pointer (some ⟨w.heap.size + 1, 0, none⟩), .pointer (some ⟨w.heap.size + 1 + 1, 0, none⟩), .pointer (some ⟨w.heap.size + 1 + 1 + 1, 0, none⟩), .int .i64 (x.1 : Int), .string ⟨x.2.toArray⟩, .int .i64 at_, .bool (decide (at_ < 0)), .slice a len cap, thrFunc (w.heap.size + 4), .int .i64 (x.1 : Int), .string ⟨x.2.toArray⟩, undef, undef, undef, undef, undef, undef, undef, undef, undef, undef, undef, undef], defers := [] }) ?assign ?body ?done ?stop
  case assign =>
    intro lp x W K hK
    dsimp only [encA]
    gi_wp2
    exact hK
  case body =>
    rintro lp pre ⟨m, t⟩ W ⟨⟨hpre, i1, i2, i3, i4⟩, hbe⟩ hplt ⟨hm, ht⟩
    simp only at hm ht
    have c1 := i1.cell
    have c2 := i2.cell
    have c3 := i3.cell
    have c4 := i4.cell
    have f2 := i2.frozen
    have f3 := i3.frozen
    have f4 := i4.frozen
    have HS := Lib.hid (bsize t)
    have HP := Lib.hid hpre
    have hsz := hbe.size
    clear hpre
    have hw : IntKind.i64.wrap (at_ - (m : Int)) = at_ - (m : Int) := by rw [IntKind.wrap_i64]; omega
    by_cases hh : at_ - (m : Int) < (t.length : Int)
    · have HH := Lib.hid hh
      have hmx : Try.prog.follows .mixedOrders = true := by kernel_rfl
      have hX : ∀ (W' : World), W' = ((W.setCell ⟨w.heap.size + 1, 0, none⟩ (.int .i64 (pre.length : Int))).setCell ⟨w.heap.size + 1 + 1, 0, none⟩ (.int .i64 (at_ - (m : Int)))).setCell ⟨w.heap.size + 1 + 1 + 1, 0, none⟩ (.bool true) → KeepsOthers W W'.drew ∧ WhX at_ w .ret (pre ++ [(m, t)]) W'.drew := by
        rintro W' rfl
        refine ⟨(((KeepsOthers.setCell _ _ _).trans (KeepsOthers.setCell _ _ _)).trans (KeepsOthers.setCell _ _ _)).trans (KeepsOthers.drew _), ⟨rfl, pre, (m, t), rfl, HH.out, HP.out, ?_, ?_, ?_⟩, ?_⟩
        · exact ((i2.set _).other (by omega) _).other (by omega) _
        · exact ((i3.other (by omega) _).set _).other (by omega) _
        · exact ((i4.other (by omega) _).other (by omega) _).set _
        · exact (((hbe.setCell (p := ⟨w.heap.size + 1, 0, none⟩) (by simp) _).setCell (p := ⟨w.heap.size + 1 + 1, 0, none⟩) (by simp; omega) _).setCell (p := ⟨w.heap.size + 1 + 1 + 1, 0, none⟩) (by simp; omega) _).drew
      have HX := Lib.hid hX
      clear hX
      gi_wp2
      gi_region_with_o (fail)
      all_goals gi_wp2
      all_goals exact HX.out _ rfl
    · have HH := Lib.hid hh
      gi_wp2
      refine ⟨KeepsOthers.setCell _ _ _, fun k hk => Below.heap_setCell _ _ _ _ (by simp; omega), ⟨?_, ?_, ?_, ?_, ?_⟩, ?_⟩
      · intro y hy
        rcases List.mem_append.1 hy with hy | hy
        · exact Int.not_lt.2 (HP.out y hy)
        · rw [List.mem_singleton.1 hy]; exact Int.not_lt.2 HH.out
      · exact i1.other (by omega) _
      · rw [List.length_append, List.length_singleton, Int.natCast_add]; exact i2.set _
      · exact i3.other (by omega) _
      · exact i4.other (by omega) _
      · exact hbe.setCell (p := ⟨w.heap.size + 1, 0, none⟩) (by simp) _
  case done =>
    rintro D ys W hD rfl ⟨⟨hpre, i1, i2, i3, i4⟩, hbe⟩ hK
    have HN : Hid (whI ws at_ = -1) := Lib.hid (by
      have hwl := hr.1
      refine (wh_none (ws := ws) ?_).1
      rw [hwl]
      exact wh_up ws at_ h0 len (by omega) hpre)
    have c2 := i2.cell
    have c3 := i3.cell
    have c4 := i4.cell
    have f2 := i2.frozen
    have f3 := i3.frozen
    have f4 := i4.frozen
    clear hpre
    gi_wp2
    have hko : KeepsOthers W (((W.setCell ⟨w.heap.size + 1, 0, none⟩ (.int .i64 0)).setCell ⟨w.heap.size + 1 + 1, 0, none⟩ (.int .i64 0)).setCell ⟨w.heap.size + 1 + 1 + 1, 0, none⟩ (.bool false)) := ((KeepsOthers.setCell _ _ _).trans (KeepsOthers.setCell _ _ _)).trans (KeepsOthers.setCell _ _ _)
    have hK' := hko.same D _ hK rfl
    have j2 : Boxed (((W.setCell ⟨w.heap.size + 1, 0, none⟩ (.int .i64 0)).setCell ⟨w.heap.size + 1 + 1, 0, none⟩ (.int .i64 0)).setCell ⟨w.heap.size + 1 + 1 + 1, 0, none⟩ (.bool false)) (w.heap.size + 1) 3 (.int .i64 0) := ((i2.set _).other (by omega) _).other (by omega) _
    have j3 : Boxed (((W.setCell ⟨w.heap.size + 1, 0, none⟩ (.int .i64 0)).setCell ⟨w.heap.size + 1 + 1, 0, none⟩ (.int .i64 0)).setCell ⟨w.heap.size + 1 + 1 + 1, 0, none⟩ (.bool false)) (w.heap.size + 1 + 1) 3 (.int .i64 0) := ((i3.other (by omega) _).set _).other (by omega) _
    have j4 : Boxed (((W.setCell ⟨w.heap.size + 1, 0, none⟩ (.int .i64 0)).setCell ⟨w.heap.size + 1 + 1, 0, none⟩ (.int .i64 0)).setCell ⟨w.heap.size + 1 + 1 + 1, 0, none⟩ (.bool false)) (w.heap.size + 1 + 1 + 1) 4 (.bool false) := ((i4.other (by omega) _).other (by omega) _).set _
    have hb' : Below w.heap.size w (((W.setCell ⟨w.heap.size + 1, 0, none⟩ (.int .i64 0)).setCell ⟨w.heap.size + 1 + 1, 0, none⟩ (.int .i64 0)).setCell ⟨w.heap.size + 1 + 1 + 1, 0, none⟩ (.bool false)) := ((hbe.setCell (p := ⟨w.heap.size + 1, 0, none⟩) (by simp) _).setCell (p := ⟨w.heap.size + 1 + 1, 0, none⟩) (by simp; omega) _).setCell (p := ⟨w.heap.size + 1 + 1 + 1, 0, none⟩) (by simp; omega) _
    generalize ((W.setCell ⟨w.heap.size + 1, 0, none⟩ (.int .i64 0)).setCell ⟨w.heap.size + 1 + 1, 0, none⟩ (.int .i64 0)).setCell ⟨w.heap.size + 1 + 1 + 1, 0, none⟩ (.bool false) = W' at hK' j2 j3 j4 hb' ⊢
    have e2 := (boxed_row j2 (grownBy_putObj' W' D (.deferred none)) (fun r e => by cases e; exact ⟨_, hK', rfl⟩)).cell
    have e3 := (boxed_row j3 (grownBy_putObj' W' D (.deferred none)) (fun r e => by cases e; exact ⟨_, hK', rfl⟩)).cell
    have e4 := (boxed_row j4 (grownBy_putObj' W' D (.deferred none)) (fun r e => by cases e; exact ⟨_, hK', rfl⟩)).cell
    refine ⟨by simp, .inl ⟨_, _, rfl, run_takeDeferred hK', ?_⟩⟩
    refine ⟨.tuple #[.int .i64 0, .int .i64 0, .bool false], by simp [results, Try.f14, go_sem, e2, e3, e4], ?_⟩
    exact ⟨_, _, _, rfl, .inr ⟨rfl, rfl, rfl, HN.out⟩, hb'.trans (belowK_b (w := w) (Nat.le_refl _) W' D _ _ (by omega) hK' rfl rfl)⟩
  case stop =>
    rintro D c pre W hD ⟨k, hk, hpre⟩ ⟨⟨rfl, q, y, rfl, hy, hq, i2, i3, i4⟩, hbe⟩ hK
    have HR : Hid (whI ws at_ = (q.length : Int) ∧ whK ws at_ = at_ - (y.1 : Int)) := Lib.hid (by
      have hwl := hr.1
      exact wh_stop ws at_ h0 k (by omega) q y hpre hy hq)
    clear hq hpre
    gi_wp2
    have e2 := (boxed_row i2 (grownBy_putObj' W D (.deferred none)) (fun r e => by cases e; exact ⟨_, hK, rfl⟩)).cell
    have e3 := (boxed_row i3 (grownBy_putObj' W D (.deferred none)) (fun r e => by cases e; exact ⟨_, hK, rfl⟩)).cell
    have e4 := (boxed_row i4 (grownBy_putObj' W D (.deferred none)) (fun r e => by cases e; exact ⟨_, hK, rfl⟩)).cell
    refine ⟨by simp, .inl ⟨_, _, rfl, run_takeDeferred hK, ?_⟩⟩
    refine ⟨.tuple #[.int .i64 (q.length : Int), .int .i64 (at_ - y.1), .bool true], by simp [results, Try.f14, go_sem, e2, e3, e4], ?_⟩
    exact ⟨_, _, _, rfl, .inl ⟨rfl, HR.out.1.symm, HR.out.2.symm, by rw [HR.out.1]; omega⟩, hbe.trans (belowK_b (w := w) (Nat.le_refl _) W D _ _ (by omega) hK rfl rfl)⟩

theorem where_any (a : Option Addr) (len cap : Nat) (ws : List (List UInt8)) (at_ : Int) (w : World) (h1 : at_ ≤ 9223372036854775807) (hl : len ≤ 1000000) (hs : ∀ t ∈ ws, t.length ≤ 1000000) (hr : IsStrs w a len ws) :
    Calls Try.prog 14 #[.slice a len cap, .int .i64 at_] w (RetWh ws at_ w) := by
  by_cases h : at_ < 0
  · exact where_neg a len cap ws at_ w h
  · exact where_pos a len cap ws at_ w (by omega) h1 hl hs hr

theorem where_hit (a : Option Addr) (len cap : Nat) (ws : List (List UInt8)) (at_ : Int) (w : World) (h1 : at_ ≤ 9223372036854775807) (hl : len ≤ 1000000) (hs : ∀ t ∈ ws, t.length ≤ 1000000) (hr : IsStrs w a len ws) (h : 0 ≤ whI ws at_) :
    Calls Try.prog 14 #[.slice a len cap, .int .i64 at_] w fun e w' => e = .returned (.tuple #[.int .i64 (whI ws at_), .int .i64 (whK ws at_), .bool true]) ∧ Below w.heap.size w w' := by
  refine (where_any a len cap ws at_ w h1 hl hs hr).mono ?_
  rintro e w' ⟨p, k, b, rfl, ⟨rfl, rfl, rfl, _⟩ | ⟨_, _, _, h2⟩, hb⟩
  · exact ⟨rfl, hb⟩
  · omega
theorem where_miss (a : Option Addr) (len cap : Nat) (ws : List (List UInt8)) (at_ : Int) (w : World) (h1 : at_ ≤ 9223372036854775807) (hl : len ≤ 1000000) (hs : ∀ t ∈ ws, t.length ≤ 1000000) (hr : IsStrs w a len ws) (h : whI ws at_ < 0) :
    Calls Try.prog 14 #[.slice a len cap, .int .i64 at_] w fun e w' => e = .returned (.tuple #[.int .i64 0, .int .i64 0, .bool false]) ∧ Below w.heap.size w w' := by
  refine (where_any a len cap ws at_ w h1 hl hs hr).mono ?_
  rintro e w' ⟨p, k, b, rfl, ⟨_, _, _, h2⟩ | ⟨rfl, rfl, rfl, _⟩, hb⟩
  · omega
  · exact ⟨rfl, hb⟩
end Go.Proofs.Ytjeeicmoenoppaa
