/-
  digit.ParseRow: the walk.
-/
import Derived.Test.YtgoidhlemmdjgaaDoorSplit
import Derived.Test.YtgoidhlemmdjgaaDoorParse
set_option linter.unusedSimpArgs false
set_option linter.unusedVariables false
namespace Go.Proofs.YtgoidhlemmdjgaaDoor
open Go.RowKit Go.Shelf

attribute [local go_sem] Oper.semAt_some

/-- What a parsed row answers: the numbers of all parts, in a slice of the call's own, or nil and the first error. -/
def RowPost (ps : List (List UInt8)) (least most : Int) (w : World) (e : Ending) (w' : World) : Prop :=
  ∃ v, e = .returned (.tuple #[v, .int .i64 (rowE least most ps)]) ∧ Below w.heap.size w w' ∧
    ((rowE least most ps = 0 ∧ w'.ownsRow w.heap.size 3 1 v ps.length ((rowN least most ps).map (Value.int .i64))) ∨ (rowE least most ps ≠ 0 ∧ v = .slice none 0 0))

/-- The parts of a row's text. -/
def parts (l : List UInt8) : List (List UInt8) := if l = [45] then [] else pieces l

theorem owns_mono {w : World} {base base' : Nat} {e : TypeId} {size : Nat} {v : Value} {n : Nat} {xs : List Value} (h : w.ownsRow base e size v n xs) (hb : base' ≤ base) : w.ownsRow base' e size v n xs :=
  ⟨h.1, h.2.elim .inl (fun ⟨g, cap, cur, a, b, r⟩ => .inr ⟨g, cap, cur, a, Nat.le_trans hb b, r⟩)⟩

theorem owns_form {w : World} {base : Nat} {e : TypeId} {size : Nat} {v : Value} {n : Nat} {xs : List Value} (h : w.ownsRow base e size v n xs) : ∃ a cap, v = .slice a n cap := by
  rcases h.2 with ⟨rfl, rfl⟩ | ⟨g, cap, cur, rfl, _⟩
  · exact ⟨_, _, rfl⟩
  · exact ⟨_, _, rfl⟩

theorem int_info : (Tryd.prog.info? 3).map (fun i => (i.zero, i.size, i.bytes)) = some (some (.int .i64 0), 1, 8) := by kernel_rfl

set_option maxHeartbeats 400000 in
theorem parseRow_none (least most : Int) (w : World) :
    Calls Tryd.prog 8 #[.string ⟨#[45]⟩, .int .i64 least, .int .i64 most] w (RowPost [] least most w) := by
  go_enter Tryd.func8, Tryd.ntmps8
  go_wp2
  refine bodyPost_ret (v := .tuple #[.slice none 0 0, .int .i64 0]) (by simp [results, Tryd.results8, go_sem]) rfl ?_
  refine ⟨_, rfl, ?_, .inl ⟨rfl, World.ownsRow_nil _ _ _ _⟩⟩
  repeat (first | exact Below.refl _ _ | refine Below.setCell ?_ (by simp; omega) _ | refine Below.setCell ?_ (by simp) _ | refine Below.alloc ?_ (by simp; omega) _ | refine Below.alloc ?_ (by simp) _)

/-- Between two rounds: all parts so far have numbers, and the slice holds them. -/
def PrI (least most : Int) (w : World) (C : Nat) (pre : List (List UInt8)) (W : World) : Prop :=
  (∀ y ∈ pre, parE y least most = 0) ∧ Boxed W w.heap.size 3 (.int .i64 least) ∧ Boxed W (w.heap.size + 1) 3 (.int .i64 most) ∧ Boxed W (w.heap.size + 1 + 1) 26 (.slice none 0 0) ∧
    Boxed W (w.heap.size + 1 + 1 + 1) 23 (.int .i64 0) ∧ (∃ v, Boxed W (w.heap.size + 1 + 1 + 1 + 1) 26 v ∧ W.ownsRow C 3 1 v pre.length ((rowN least most pre).map (Value.int .i64)) ∧ True) ∧ Below w.heap.size w W ∧ C ≤ W.heap.size

/-- A round has left: the last part has an error. -/
def PrX (least most : Int) (w : World) (c : Code) (pre : List (List UInt8)) (W : World) : Prop :=
  (c = .ret ∧ (∃ q y, pre = q ++ [y] ∧ (∀ z ∈ q, parE z least most = 0) ∧ parE y least most ≠ 0 ∧ Boxed W (w.heap.size + 1 + 1) 26 (.slice none 0 0) ∧ Boxed W (w.heap.size + 1 + 1 + 1) 23 (.int .i64 (parE y least most)))) ∧ Below w.heap.size w W

theorem boxed_turn {A B : World} {row : Option Nat} {b : Nat} {t : TypeId} {v : Value} (h : Boxed A b t v) (hg : A.grownBy B row) (hr : ∀ r, row = some r → ∃ o : Obj, A.heap[r]? = some o ∧ o.isCells = false) : Boxed B b t v :=
  boxed_own b t (fun _ : Unit => v) () A B row h hg hr

theorem prI_turn (least most : Int) (w : World) (C : Nat) (hC : w.heap.size ≤ C) : OwnFrom C (PrI least most w C) := by
  rintro s A B row ⟨h0, h1, h2, h3, h4, h5, h6, h7⟩ hg hr
  have hr' : ∀ r, row = some r → ∃ o : Obj, A.heap[r]? = some o ∧ o.isCells = false := fun r e => (hr r e).2
  refine ⟨h0, boxed_turn h1 hg hr', boxed_turn h2 hg hr', boxed_turn h3 hg hr', boxed_turn h4 hg hr', ?_, ?_, Nat.le_trans h7 hg.size⟩
  · exact holdsRow_own C (w.heap.size + 1 + 1 + 1 + 1) 26 3 1 (fun p : List (List UInt8) => p.length) (fun p => (rowN least most p).map (Value.int .i64)) (fun _ _ => True) s A B row h5 hg hr'
  · exact ownFrom_below (β := Unit) (Nat.le_refl _) hC () A B row h6 hg hr

theorem prX_turn (least most : Int) (w : World) (C : Nat) (hC : w.heap.size ≤ C) (c : Code) : OwnFrom C (PrX least most w c) := by
  rintro s A B row ⟨⟨h0, q, y, h1, h2, h3, h4, h5⟩, h6⟩ hg hr
  have hr' : ∀ r, row = some r → ∃ o : Obj, A.heap[r]? = some o ∧ o.isCells = false := fun r e => (hr r e).2
  exact ⟨⟨h0, q, y, h1, h2, h3, boxed_turn h4 hg hr', boxed_turn h5 hg hr'⟩, ownFrom_below (β := Unit) (Nat.le_refl _) hC () A B row h6 hg hr⟩

theorem prI_move (least most : Int) (w : World) (C b : Nat) (hb : w.heap.size + 4 < b) : ∀ s A B, PrI least most w C s A → MoveBox b A B → PrI least most w C s B := by
  rintro s A B ⟨h0, h1, h2, h3, h4, ⟨v, h5, h6, _⟩, h7, h8⟩ ⟨u, u', rfl, hu⟩
  refine ⟨h0, h1.other (by omega) _, h2.other (by omega) _, h3.other (by omega) _, h4.other (by omega) _, ⟨v, h5.other (by omega) _, h6.kept (grownBy_setCell' A b u) (.inr (hu.not_row (by decide) h6).symm), trivial⟩, h7.setCell (p := ⟨b, 0, none⟩) (by simp; omega) _, Nat.le_trans h8 (grownBy_setCell' A b u).size⟩

/-- The five boxes that ParseRow makes itself. -/
def prWorld (least most : Int) (w : World) : World :=
  ((((w.alloc (.cells #[.int .i64 least] 3)).alloc (.cells #[.int .i64 most] 3)).alloc (.cells #[.slice none 0 0] 26)).alloc (.cells #[.int .i64 0] 23)).alloc (.cells #[.slice none 0 0] 26)

theorem prWorld_size (least most : Int) (w : World) : (prWorld least most w).heap.size = w.heap.size + 5 := by simp [prWorld]

theorem prWorld_start (l : List UInt8) (least most : Int) (w : World) : PrI least most w (splitWorld l (prWorld least most w)).heap.size [] (splitWorld l (prWorld least most w)) := by
  have b0 := Boxed.new w 3 (.int .i64 least)
  have b1 := Boxed.new (w.alloc (.cells #[.int .i64 least] 3)) 3 (.int .i64 most)
  have b2 := Boxed.new ((w.alloc (.cells #[.int .i64 least] 3)).alloc (.cells #[.int .i64 most] 3)) 26 (.slice none 0 0)
  have b3 := Boxed.new (((w.alloc (.cells #[.int .i64 least] 3)).alloc (.cells #[.int .i64 most] 3)).alloc (.cells #[.slice none 0 0] 26)) 23 (.int .i64 0)
  have b4 := Boxed.new ((((w.alloc (.cells #[.int .i64 least] 3)).alloc (.cells #[.int .i64 most] 3)).alloc (.cells #[.slice none 0 0] 26)).alloc (.cells #[.int .i64 0] 23)) 26 (.slice none 0 0)
  simp only [World.size_alloc] at b1 b2 b3 b4
  refine ⟨by simp, ?_, ?_, ?_, ?_, ⟨.slice none 0 0, ?_, World.ownsRow_nil _ _ _ _, trivial⟩, ?_, Nat.le_refl _⟩
  · exact ((((((b0.alloc _).alloc _).alloc _).alloc _).alloc _).alloc _).alloc _
  · exact (((((b1.alloc _).alloc _).alloc _).alloc _).alloc _).alloc _
  · exact ((((b2.alloc _).alloc _).alloc _).alloc _).alloc _
  · exact (((b3.alloc _).alloc _).alloc _).alloc _
  · exact ((b4.alloc _).alloc _).alloc _
  · unfold splitWorld prWorld
    repeat (first | exact Below.refl _ _ | refine Below.alloc ?_ (by simp; omega) _ | refine Below.alloc ?_ (by simp) _)

theorem splitWorld_boxes (l : List UInt8) (w : World) : Boxed (splitWorld l w) w.heap.size 9 (.string ⟨l.toArray⟩) ∧ Boxed (splitWorld l w) (w.heap.size + 1) 9 (.string ⟨#[44]⟩) ∧ Boxed (splitWorld l w) (w.heap.size + 2) 3 (.int .i64 0) ∧ (splitWorld l w).heap.size = w.heap.size + 3 := by
  have b0 := Boxed.new w 9 (.string ⟨l.toArray⟩)
  have b1 := Boxed.new (w.alloc (.cells #[.string ⟨l.toArray⟩] 9)) 9 (.string ⟨#[44]⟩)
  have b2 := Boxed.new ((w.alloc (.cells #[.string ⟨l.toArray⟩] 9)).alloc (.cells #[.string ⟨#[44]⟩] 9)) 3 (.int .i64 0)
  simp only [World.size_alloc] at b1 b2
  exact ⟨(b0.alloc _).alloc _, b1.alloc _, b2, by simp [splitWorld]⟩

set_option maxRecDepth 100000 in
set_option maxHeartbeats 2000000 in
theorem parseRow_some (l : List UInt8) (least most : Int) (w : World) (hl : l ≠ [45]) (hlen : l.length ≤ 100000) :
    Calls Tryd.prog 8 #[.string ⟨l.toArray⟩, .int .i64 least, .int .i64 most] w (RowPost (pieces l) least most w) := by
  have hne : (l == [45]) = false := by simpa using hl
  obtain ⟨i0, hi, hz0, hz1, hz2⟩ := info_parts int_info
  refine callsIn_wide (n := 5) |>.1 ?_
  refine callsIn_of_wp_marks Tryd.func8 rfl trivial ?_ rfl
  simp only [Tryd.ntmps8, List.size_toArray, List.length_cons, List.length_nil, Nat.reduceAdd, Nat.reduceSub, Array.replicate_succ, Array.replicate_zero, List.push_toArray, List.append_toArray, List.nil_append, List.cons_append]
  gi_wp2_with fail
  refine ⟨trivial, ?_⟩
  refine (SplitSeq_in Fence.wide 4 trivial trivial rfl (by omega) _ (prWorld least most w)).mono ?_
  rintro e w' ⟨rfl, rfl⟩
  gi_wp2
  obtain ⟨s0, s1, s2, ssz⟩ := splitWorld_boxes l (prWorld least most w)
  have hsz := prWorld_size least most w
  have z1 : w.heap.size + 5 ≤ (prWorld least most w).heap.size := by omega
  have z2 : (prWorld least most w).heap.size ≤ w.heap.size + 5 := by omega
  have z3 : (prWorld least most w).heap.size + 3 ≤ (splitWorld l (prWorld least most w)).heap.size := by omega
  clear hsz ssz
  refine wpIn_rangeFunc_moves (F := Fence.wide) (n := 5) rfl (by omega) (gf := 26) (lb := #[.pointer (some ⟨(prWorld least most w).heap.size + 1, 0, none⟩), .pointer (some ⟨(prWorld least most w).heap.size, 0, none⟩), .pointer (some ⟨(prWorld least most w).heap.size + 1 + 1, 0, none⟩)]) rfl trivial (enters_of Tryd.func26 (by kernel_rfl) rfl)
    (split_moves Fence.wide 4 trivial trivial rfl (by omega) (fun c s w => callsIn_wide.2 (Tryd.strings_Index_one s c w)) (prWorld least most w).heap.size l (splitWorld l (prWorld least most w)) (by omega) (by omega) s0 s1 s2)
    (fun h k j h1 h2 => (k j h1 h2).trans (h j h1 h2)) (fun W lp o o' hlp ho _ _ j h1 h2 => World.putObj_heap_other (by omega)) (fun h => by obtain ⟨v, u, rfl, _⟩ := h; exact KeepsOthers.setCell _ _ _) (Below.refl _ _) (fun _ => rfl)
    (PrI least most w (splitWorld l (prWorld least most w)).heap.size) (PrX least most w) (prI_turn least most w _ (by omega)) (prI_move least most w _ _ (by omega)) (prX_turn least most w _ (by omega)) (prWorld_start l least most w)
    (fun x => { tmps := #[.string ⟨l.toArray⟩, .int .i64 least, .int .i64 most, undef, .pointer (some ⟨w.heap.size, 0, none⟩), .pointer (some ⟨w.heap.size + 1, 0, none⟩), .pointer (some ⟨w.heap.size + 1 + 1, 0, none⟩), .pointer (some ⟨w.heap.size + 1 + 1 + 1, 0, none⟩), .pointer (some ⟨w.heap.size + 1 + 1 + 1 + 1, 0, none⟩), .string ⟨x.toArray⟩, undef, undef, .string ⟨l.toArray⟩, .bool false, .string ⟨l.toArray⟩, splitFunc (prWorld least most w).heap.size, .string ⟨x.toArray⟩, undef, undef, undef, undef, undef, undef, undef, undef, undef, undef, undef, undef, undef, undef, undef], defers := [] }) ?assign ?body ?done ?stop
  case assign =>
    intro lp x W K hK
    gi_wp2
    exact hK
  case body =>
    rintro lp pre x W ⟨hpre, i1, i2, i3, i4, ⟨v, i5, hown, _⟩, hbe, hC⟩ hplt hx
    generalize (splitWorld l (prWorld least most w)).heap.size = C at hown hC z3 ⊢
    generalize (prWorld least most w).heap.size = b at z1 z2 z3 ⊢
    have c1 := i1.cell
    have c2 := i2.cell
    have c3 := i3.cell
    have c4 := i4.cell
    have c5 := i5.cell
    have f3 := i3.frozen
    have f4 := i4.frozen
    have f5 := i5.frozen
    obtain ⟨m, hm⟩ : ∃ m, parN x least most = m := ⟨_, rfl⟩
    obtain ⟨c, hc⟩ : ∃ c, parE x least most = c := ⟨_, rfl⟩
    have HP : ∀ w, Hid (Calls Tryd.prog 6 #[.string ⟨x.toArray⟩, .int .i64 least, .int .i64 most] w (RetP m c w)) := fun w => by
      have := parse_any x least most w (by omega)
      rw [hm, hc] at this
      exact Lib.hid this
    by_cases h0 : c = 0
    · subst h0
      have HM := Lib.hid hm
      have HC := Lib.hid hc
      clear hm hc
      have hpl := pieces_length l
      have hle := hbe.size
      gi_wp2_with (first | (refine ⟨trivial, ?_⟩; gi_at_call 6; refine (CallsIn.inRound lp (callsIn_wide.2 (HP _).out)).mono ?_; rintro e w' ⟨rfl, rfl⟩) | (gi_at_builtin; refine wpListIn_append_own _ rfl _ _ 26 rfl C 3 i0 (.int .i64 0) 1 8 Tryd.underlying26 hi hz0 hz1 hz2 rfl (by decide) _ _ _ rfl (hown.alloc _) ⟨W.heap.size, 0, none⟩ 1 1 [.int .i64 m] rfl rfl (cell_one_new _ _ _) (by simp [Value.oneCell']) (by unfold maxLen; omega) (by omega) (by simp; omega) ?_; intro v' w1 hown' hgrow _; obtain ⟨g', cap', rfl⟩ := ownsRow_succ hown'; obtain ⟨hv1, hv2, hr2, hk2, hb2⟩ := i5.appended (by decide) (owns_mono hown (by omega : w.heap.size ≤ C)) hle (by omega) (owns_mono hown' (by omega : w.heap.size ≤ C)) hgrow; have hc1 := hv1.cell; have hf1 := hv1.frozen))
      have hkeep : ∀ k, k < C → k ≠ w.heap.size + 1 + 1 + 1 + 1 → (w1.setCell ⟨w.heap.size + 1 + 1 + 1 + 1, 0, none⟩ (.slice (some ⟨g', 0, none⟩) (pre.length + 1) cap')).heap[k]? = W.heap[k]? := fun k hk hne => by
        rw [Below.heap_setCell _ _ _ _ hne, hgrow.block k (by simp; omega) (fun e => by have := (hown.lt k e.symm).1; omega)]
        exact Below.heap_alloc _ _ _ (by omega)
      refine ⟨hk2, fun k h1 h2 => hkeep k (by omega) (by omega), ?_, (hkeep _ (by omega) (by omega)).trans i1, (hkeep _ (by omega) (by omega)).trans i2, (hkeep _ (by omega) (by omega)).trans i3, (hkeep _ (by omega) (by omega)).trans i4, ⟨_, hv2, ?_, trivial⟩, hbe.trans hb2, Nat.le_trans hC hk2.size⟩
      · intro y hy
        rcases List.mem_append.1 hy with hy | hy
        · exact hpre y hy
        · rw [List.mem_singleton.1 hy]; exact HC.out
      · have := hown'.kept (grownBy_setCell' w1 (w.heap.size + 1 + 1 + 1 + 1) (.slice (some ⟨g', 0, none⟩) (pre.length + 1) cap')) (.inr (hv1.not_row (by decide) hown').symm)
        simpa [rowN, HM.out] using this
    · have hcb : (c != 0) = true := by simpa using h0
      have hcb' : (c == 0) = false := by simpa using h0
      have HM := Lib.hid hm
      have HC := Lib.hid hc
      clear hm hc
      gi_wp2_with (refine ⟨trivial, ?_⟩; gi_at_call 6; refine (CallsIn.inRound lp (callsIn_wide.2 (HP _).out)).mono ?_; rintro e w' ⟨rfl, rfl⟩)
      refine ⟨(KeepsOthers.setCell _ _ _).trans (KeepsOthers.setCell _ _ _), ⟨rfl, pre, x, rfl, hpre, by rw [HC.out]; exact h0, ?_, ?_⟩, (hbe.setCell (p := ⟨w.heap.size + 1 + 1, 0, none⟩) (by simp; omega) _).setCell (p := ⟨w.heap.size + 1 + 1 + 1, 0, none⟩) (by simp; omega) _⟩
      · exact (i3.set _).other (by omega) _
      · rw [HC.out]
        exact (i4.other (by omega) _).set _
  case done =>
    rintro D ys W hD rfl ⟨hpre, i1, i2, i3, i4, ⟨v, i5, hown, _⟩, hbe, hC⟩ hK
    obtain ⟨ao, cap, rfl⟩ := owns_form hown
    have c5 := i5.cell
    have c3 := i3.cell
    have c4 := i4.cell
    have f3 := i3.frozen
    have f4 := i4.frozen
    have HO := Lib.hid hown
    have HPR := Lib.hid (rowE_ok least most _ hpre)
    clear hown hpre
    gi_wp2
    have hko : KeepsOthers W ((W.setCell ⟨w.heap.size + 1 + 1, 0, none⟩ (.slice ao (pieces l).length cap)).setCell ⟨w.heap.size + 1 + 1 + 1, 0, none⟩ (.int .i64 0)) := (KeepsOthers.setCell _ _ _).trans (KeepsOthers.setCell _ _ _)
    have hK' := hko.same D _ hK rfl
    have j3 : Boxed ((W.setCell ⟨w.heap.size + 1 + 1, 0, none⟩ (.slice ao (pieces l).length cap)).setCell ⟨w.heap.size + 1 + 1 + 1, 0, none⟩ (.int .i64 0)) (w.heap.size + 1 + 1) 26 (.slice ao (pieces l).length cap) := (i3.set _).other (by omega) _
    have j4 : Boxed ((W.setCell ⟨w.heap.size + 1 + 1, 0, none⟩ (.slice ao (pieces l).length cap)).setCell ⟨w.heap.size + 1 + 1 + 1, 0, none⟩ (.int .i64 0)) (w.heap.size + 1 + 1 + 1) 23 (.int .i64 0) := (i4.other (by omega) _).set _
    have hb' : Below w.heap.size w ((W.setCell ⟨w.heap.size + 1 + 1, 0, none⟩ (.slice ao (pieces l).length cap)).setCell ⟨w.heap.size + 1 + 1 + 1, 0, none⟩ (.int .i64 0)) := (hbe.setCell (p := ⟨w.heap.size + 1 + 1, 0, none⟩) (by simp; omega) _).setCell (p := ⟨w.heap.size + 1 + 1 + 1, 0, none⟩) (by simp; omega) _
    have ho' := ((HO.out.kept (grownBy_setCell' W (w.heap.size + 1 + 1) (.slice ao (pieces l).length cap)) (.inr (i3.not_row (by decide) HO.out).symm)).kept (grownBy_setCell' _ (w.heap.size + 1 + 1 + 1) (.int .i64 0)) (.inr ((i4.other (by omega : w.heap.size + 1 + 1 + 1 ≠ w.heap.size + 1 + 1) (.slice ao (pieces l).length cap)).not_row (by decide) (HO.out.kept (grownBy_setCell' W (w.heap.size + 1 + 1) (.slice ao (pieces l).length cap)) (.inr (i3.not_row (by decide) HO.out).symm))).symm))
    generalize (W.setCell ⟨w.heap.size + 1 + 1, 0, none⟩ (.slice ao (pieces l).length cap)).setCell ⟨w.heap.size + 1 + 1 + 1, 0, none⟩ (.int .i64 0) = W' at hK' j3 j4 hb' ho' ⊢
    have e3 := (boxed_turn j3 (grownBy_putObj' W' D (.deferred none)) (fun r e => by cases e; exact ⟨_, hK', rfl⟩)).cell
    have e4 := (boxed_turn j4 (grownBy_putObj' W' D (.deferred none)) (fun r e => by cases e; exact ⟨_, hK', rfl⟩)).cell
    refine ⟨by simp, .inl ⟨_, _, rfl, run_takeDeferred hK', ?_⟩⟩
    refine ⟨.tuple #[.slice ao (pieces l).length cap, .int .i64 0], by simp [results, Tryd.f8, go_sem, e3, e4], ?_⟩
    refine ⟨_, by rw [HPR.out], hb'.trans (belowK_b (w := w) (Nat.le_refl _) W' D _ _ (by omega) hK' rfl rfl), .inl ⟨HPR.out, ?_⟩⟩
    exact owns_mono (ownsRow_putObj ho' _ hK' rfl) (by omega)
  case stop =>
    rintro D c pre W hD hpre ⟨⟨rfl, q, y, rfl, hq, hy, i3, i4⟩, hbe⟩ hK
    obtain ⟨r, hr⟩ := hpre
    have HE := Lib.hid (show rowE least most (pieces l) = parE y least most by rw [← hr, List.append_assoc, List.singleton_append]; exact rowE_bad least most q y r hq hy)
    clear hr
    gi_wp2
    have e3 := (boxed_turn i3 (grownBy_putObj' W D (.deferred none)) (fun r e => by cases e; exact ⟨_, hK, rfl⟩)).cell
    have e4 := (boxed_turn i4 (grownBy_putObj' W D (.deferred none)) (fun r e => by cases e; exact ⟨_, hK, rfl⟩)).cell
    refine ⟨by simp, .inl ⟨_, _, rfl, run_takeDeferred hK, ?_⟩⟩
    refine ⟨.tuple #[.slice none 0 0, .int .i64 (parE y least most)], by simp [results, Tryd.f8, go_sem, e3, e4], ?_⟩
    exact ⟨_, by rw [HE.out], hbe.trans (belowK_b (w := w) (Nat.le_refl _) W D _ _ (by omega) hK rfl rfl), .inr ⟨by rw [HE.out]; exact hy, rfl⟩⟩

/-- What ParseRow answers, of any text that is not too long. -/
theorem parseRow_any (l : List UInt8) (least most : Int) (w : World) (hlen : l.length ≤ 100000) :
    Calls Tryd.prog 8 #[.string ⟨l.toArray⟩, .int .i64 least, .int .i64 most] w (RowPost (parts l) least most w) := by
  by_cases hl : l = [45]
  · subst hl
    exact parseRow_none least most w
  · unfold parts
    rw [if_neg hl]
    exact parseRow_some l least most w hl hlen
end Go.Proofs.YtgoidhlemmdjgaaDoor
