/-
  The law ChunkParts, walked.
-/
import Derived.Test.YtjeeicmoenoppaaChG
import Derived.Lib.QuietBelow
import Derived.BigQuiet
set_option linter.unusedSimpArgs false
set_option linter.unusedVariables false
namespace Go.Proofs.Ytjeeicmoenoppaa
open Go.RowKit Go.Shelf

attribute [local go_sem] Oper.semAt_some

/-- A world in which nothing that was there has turned, under one name. -/
theorem regrown_calls {w : World} {P : Program} {f : FuncId} {args : Array Value} {v : Value} (H : ∀ c, Below w.heap.size w c → Calls P f args c fun e w' => e = .returned v ∧ Below c.heap.size c w') (d : Nat) (os : Array Obj) :
    Calls P f args (Go.Sort.grow (redrawn w d) os) fun e w'' => e = .returned v ∧ ∃ p : Regrown, w'' = Go.Sort.grow (redrawn w p.d) p.os := Calls.regrown_of (H _ (below_regrown w d os))

/-- How many bytes have come. -/
def sumL (pre : List (Nat × List UInt8)) : Nat := (pre.map fun y => y.2.length).sum
theorem sumL_snoc (pre : List (Nat × List UInt8)) (x : Nat × List UInt8) : sumL (pre ++ [x]) = sumL pre + x.2.length := by simp [sumL]
theorem sumL_le : ∀ (pre : List (Nat × List UInt8)), (∀ y ∈ pre, y.2.length ≤ 1000000) → sumL pre ≤ pre.length * 1000000
  | [], _ => by simp [sumL]
  | x :: r, h => by
    have ih := sumL_le r (fun y hy => h y (by simp [hy]))
    have h1 := h x (by simp)
    have e : sumL (x :: r) = x.2.length + sumL r := by simp [sumL]
    rw [e, List.length_cons, Nat.succ_mul]
    omega
theorem sumL_upto (ws : List (List UInt8)) : ∀ k, k ≤ ws.length → sumL (uptoL ws k) = ahd ws k
  | 0, _ => by simp [sumL, uptoL, ahd]
  | k + 1, h => by
    obtain ⟨t, hf⟩ : ∃ t, ws[k]? = some t := ⟨_, List.getElem?_eq_getElem (by omega)⟩
    rw [uptoL_succ, sumL_snoc, sumL_upto ws k (by omega), allL_get hf, ahd_succ hf]

/-- Between two rounds: what has come, counted. -/
def PaI (Wb : World) (pre : List (Nat × List UInt8)) (W : World) : Prop :=
  ((∀ y ∈ pre, y.2.length ≤ 1000000) ∧ Boxed W Wb.heap.size 3 (.int .i64 (pre.length : Int)) ∧ Boxed W (Wb.heap.size + 1) 3 (.int .i64 (sumL pre : Int))) ∧ Below Wb.heap.size Wb W
/-- A round has left: what came is not what stands there. -/
def PaX (ws : List (List UInt8)) (c : Code) (pre : List (Nat × List UInt8)) (_ : World) : Prop :=
  ∃ q y, pre = q ++ [y] ∧ ¬ (y.1 = sumL q ∧ ws[q.length]? = some y.2)
theorem paI_turn (Wb : World) (C : Nat) (hC : Wb.heap.size ≤ C) : OwnFrom C (PaI Wb) := by
  rintro s A B row ⟨⟨h0, h1, h2⟩, h5⟩ hg hr
  have hr' : ∀ r, row = some r → ∃ o : Obj, A.heap[r]? = some o ∧ o.isCells = false := fun r e => (hr r e).2
  exact ⟨⟨h0, boxed_row h1 hg hr', boxed_row h2 hg hr'⟩, ownFrom_below (β := Unit) (Nat.le_refl _) hC () A B row h5 hg hr⟩
theorem paX_not {ws : List (List UInt8)} {c : Code} {pre : List (Nat × List UInt8)} {W : World} {k : Nat} (hk : k ≤ ws.length) (h : pre = uptoL ws k) (hx : PaX ws c pre W) : False := by
  obtain ⟨q, y, rfl, hno⟩ := hx
  cases k with
  | zero => simp [uptoL] at h
  | succ k =>
    rw [uptoL_succ] at h
    obtain ⟨h1, h2⟩ := List.append_inj' h rfl
    obtain ⟨t, hf⟩ : ∃ t, ws[k]? = some t := ⟨_, List.getElem?_eq_getElem (by omega)⟩
    have h3 : y = (ahd ws k, t) := by rw [allL_get hf] at h2; simpa using h2
    subst h1 h3
    exact hno ⟨by rw [sumL_upto ws k (by omega)], by rw [uptoL_length]; exact hf⟩
theorem lens_at {ws : List (List UInt8)} {k : Nat} {t : List UInt8} (h : ws[k]? = some t) : (lensL ws).getD k 0 = (t.length : Int) := by
  simp [lensL, List.getD, h]

set_option maxRecDepth 100000 in
set_option maxHeartbeats 4000000 in
theorem parts_hit (a : Option Addr) (len cap : Nat) (ws : List (List UInt8)) (at_ : Int) (w : World) (h1 : at_ ≤ 9223372036854775807) (h30 : len ≤ 30) (hlc : len ≤ cap) (hr : IsStrs w a len ws) (hw : lonL ws ≤ 100) (hI : 0 ≤ whI ws at_) :
    Calls Try.prog 4 #[.slice a len cap, .int .i64 at_] w fun e w' => e = .returned (.bool true) ∧ Below w.heap.size w w' := by
  have hs : ∀ t ∈ ws, t.length ≤ 1000000 := fun t ht => by have := lonL_ge ht; omega
  have hwl := hr.1
  obtain ⟨b0, b1⟩ := lawWorld_boxes a len cap w
  have hbl := lawWorld_below a len cap w
  have hsl := hbl.size
  have HL := Lib.hid (fun c (h : Below w.heap.size w c) => rlongest_any a len cap ws c (by omega) (hr.below h))
  have HG := Lib.hid (fun c (h : Below w.heap.size w c) => longest_any a len cap ws c (by omega) (hr.below h))
  have HJ := Lib.hid (fun c (h : Below w.heap.size w c) => join_any a len cap ws c (by omega) hlc hs (hr.below h))
  have HK := Lib.hid (fun c (h : Below w.heap.size w c) => rjoin_any a len cap ws c (by omega) hs (hr.below h))
  have HN := Lib.hid (fun c (h : Below w.heap.size w c) => lengths_any a len cap ws c (by omega) (hr.below h))
  have HW := Lib.hid (fun c (h : Below w.heap.size w c) => where_hit a len cap ws at_ c h1 (by omega) hs (hr.below h) hI)
  have HV := Lib.hid (fun c (h : Below w.heap.size w c) => rwhere_any a len cap ws at_ c (by omega) hs (hr.below h))
  have HA := Lib.hid (fun c (h : Below w.heap.size w c) => all_any a len cap ws c (by omega) (hr.below h))
  have HR := Lib.hid hr
  have HSH := Lib.hid hs
  generalize lonL ws = m at HL HG hw
  generalize ws.flatten = f at HJ HK
  generalize whI ws at_ = I at HW HV hI
  generalize whK ws at_ = K at HW HV
  clear hr hs
  refine callsIn_wide (n := 5) |>.1 ?_
  refine callsIn_of_wp_marks Try.func4 rfl trivial ?_ rfl
  simp only [Try.ntmps4, List.size_toArray, List.length_cons, List.length_nil, Nat.reduceAdd, Nat.reduceSub, Array.replicate_succ, Array.replicate_zero, List.push_toArray, List.append_toArray, List.nil_append, List.cons_append]
  gi_wp2_with fail
  refine ⟨trivial, ?_⟩
  refine (callsIn_wide.2 (HL.out (lawWorld a len cap w) hbl)).mono ?_
  rintro e w1 ⟨rfl, hb1⟩
  have p1 := hbl.trans (hb1.mono hsl)
  have s1 := p1.size
  have x1 := boxed_below b0 hb1
  have y1 := boxed_below b1 hb1
  have c1 := Boxed.cell x1
  clear b0 b1 hb1
  gi_wp2_with fail
  refine ⟨trivial, ?_⟩
  refine (callsIn_wide.2 (HN.out w1 p1)).mono ?_
  rintro e w2 ⟨v, rfl, hown, hb2⟩
  obtain ⟨ao, capn, rfl, hcell⟩ := owns_ints hown
  rw [lensL_length, hwl] at hcell
  rw [lensL_length, hwl]
  clear hown
  have p2 := p1.trans (hb2.mono s1)
  have s2 := p2.size
  have x2 := boxed_below x1 hb2
  have y2 := boxed_below y1 hb2
  have HCE := Lib.hid hcell
  have b3 : Below w2.heap.size w2 (w2.alloc (.cells #[.slice ao len capn] 22)) := (Below.refl _ _).alloc (Nat.le_refl _) _
  have p3 := p2.trans (b3.mono s2)
  have s3 := p3.size
  have x3 := boxed_below x2 b3
  have y3 := boxed_below y2 b3
  have z3 := Boxed.new w2 22 (.slice ao len capn)
  have c2 := Boxed.cell x2
  have c3 := Boxed.cell x3
  have H3 := Lib.hid (HW.out _ p3)
  clear x1 y1 c1 hb2 HN hcell HW x2 y2 b3
  gi_wp2_with fail
  refine ⟨trivial, ?_⟩
  refine (callsIn_wide.2 H3.out).mono ?_
  rintro e w4 ⟨rfl, hb4⟩
  have p4 := p3.trans (hb4.mono s3)
  have s4 := p4.size
  have x4 := boxed_below x3 hb4
  have y4 := boxed_below y3 hb4
  have z4 := boxed_below z3 hb4
  have c4 := Boxed.cell x4
  have t4 : w2.heap.size ≤ w4.heap.size := Nat.le_trans (by simp) hb4.size
  have k4 : Below w2.heap.size w2 w4 := ((Below.refl _ w2).alloc (Nat.le_refl _) _).trans (hb4.mono (by simp))
  have H4 := Lib.hid (HV.out w4 p4)
  clear x3 y3 z3 hb4 c2 c3 H3 HV
  gi_wp2_with fail
  refine ⟨trivial, ?_⟩
  refine (callsIn_wide.2 H4.out).mono ?_
  rintro e w5 ⟨rfl, hb5⟩
  have p5 := p4.trans (hb5.mono s4)
  have s5 := p5.size
  have x5 := boxed_below x4 hb5
  have y5 := boxed_below y4 hb5
  have z5 := boxed_below z4 hb5
  have c5 := Boxed.cell x5
  have d5 := Boxed.cell z5
  have k5 : Below w2.heap.size w2 w5 := k4.trans (hb5.mono t4)
  have G1 := regrown_calls (w := w5) (fun c h => HG.out c (p5.trans (h.mono s5)))
  have G2 := regrown_calls (w := w5) (fun c h => HL.out c (p5.trans (h.mono s5)))
  have G3 := regrown_calls (w := w5) (fun c h => HJ.out c (p5.trans (h.mono s5)))
  have G4 := regrown_calls (w := w5) (fun c h => HK.out c (p5.trans (h.mono s5)))
  have q5 := cell_regrown c5
  have r5 := cell_regrown d5
  have hmx : Try.prog.follows .mixedOrders = true := by kernel_rfl
  clear x4 y4 z4 hb5 c4 H4 HG HL HJ HK t4 k4
  gi_wp2_with fail
  refine wpIn_wide.2 ?_
  refine wp_region_quiet_below hmx (by kernel_rfl) ?_
  repeat (go_big_quiet_step (first | exact G1 _ _ | exact G2 _ _ | exact G3 _ _ | exact G4 _ _))
  refine wpQuiet_nil ?_
  intro W6 hw6
  obtain ⟨⟨dq, osq⟩, rfl⟩ := hw6
  have b6 := below_regrown w5 dq osq
  generalize Go.Sort.grow (redrawn w5 dq) osq = w6 at b6 ⊢
  have p6 := p5.trans (b6.mono s5)
  have s6 := p6.size
  have x6 := boxed_below x5 b6
  have y6 := boxed_below y5 b6
  have z6 := boxed_below z5 b6
  have k6 : Below w2.heap.size w2 w6 := k5.trans (b6.mono k5.size)
  have b7 : Below w6.heap.size w6 ((w6.alloc (.cells #[.int .i64 0] 3)).alloc (.cells #[.int .i64 0] 3)) := ((Below.refl _ w6).alloc (Nat.le_refl _) _).alloc (by simp) _
  have p7 := p6.trans (b7.mono s6)
  have H7 := Lib.hid (HA.out _ p7)
  have c7 := Boxed.cell (boxed_below x6 b7)
  clear x5 y5 z5 q5 r5 G1 G2 G3 G4 c5 d5 k5 b6 HA
  gi_wp2_with fail
  refine ⟨trivial, ?_⟩
  refine (callsIn_wide.2 H7.out).mono ?_
  rintro e w8 ⟨bb, ac, capc, rfl, hbx, hcs, hgr, hb8⟩
  have k8 : Below w6.heap.size w6 w8 := b7.trans (hb8.mono (by simp; omega))
  have sz8 : w6.heap.size + 2 ≤ w8.heap.size := by have := hb8.size; simp only [World.size_alloc] at this; omega
  have i8 : Boxed w8 w6.heap.size 3 (.int .i64 0) := boxed_below ((Boxed.new w6 3 (.int .i64 0)).alloc _) hb8
  have j8 : Boxed w8 (w6.heap.size + 1) 3 (.int .i64 0) := by
    have := Boxed.new (w6.alloc (.cells #[.int .i64 0] 3)) 3 (.int .i64 0)
    rw [World.size_alloc] at this
    exact boxed_below this hb8
  simp only [World.size_alloc] at hgr
  clear H7 c7 b7 p7 hb8
  have hrun : Sem.run Try.prog (binOp BinOp.eql 41 (Value.func (.func 25) #[] #[.pointer (some ⟨bb, 0, none⟩)]) Value.nilFunc) w8 = .ok (.bool false) w8 := by kernel_rfl
  dsimp only [thrFunc]
  gi_wp2_with fail
  have HM := Lib.hid (thr_moves Fence.wide 4 trivial rfl (by omega) bb (fun k => w6.heap.size + 2 ≤ k ∧ k < w8.heap.size) ac len capc ws (by omega) HSH.out
    (fun h g off e => by have := hgr h g off e; omega) w8 hbx.lt hbx.cell hcs)
  have hI0 : PaI w6 [] w8 := ⟨⟨by simp, by simpa using i8, by simpa [sumL] using j8⟩, k8⟩
  clear hrun hgr hbx hcs i8 j8
  refine wpIn_rangeFunc_moves (F := Fence.wide) (n := 5) rfl (by omega) (gf := 25) (lb := #[.pointer (some ⟨bb, 0, none⟩)]) rfl trivial (enters_of Try.func25 (by kernel_rfl) rfl)
    HM.out (fun h k => h.trans k) (fun W lp o o' hlp ho _ _ k hk => World.putObj_heap_other (by have := hk.2; omega)) (fun h => h.elim) (Below.refl _ _) (fun _ => rfl)
    (PaI w6) (PaX ws) (paI_turn w6 _ (by omega)) (fun _ _ _ _ h => h.elim) (fun _ _ _ _ _ h _ _ => h) hI0
    (fun x => { tmps := #[Value.slice a len cap, Value.int IntKind.i64 at_, Value.pointer (some ⟨w.heap.size, 0, Option.none⟩), undef, Value.pointer (some ⟨w.heap.size + 1, 0, Option.none⟩), Value.pointer (some ⟨w2.heap.size, 0, Option.none⟩), Value.int IntKind.i64 I, Value.int IntKind.i64 K, Value.bool true, Value.int IntKind.i64 I, Value.int IntKind.i64 K, Value.pointer (some ⟨w6.heap.size, 0, Option.none⟩), Value.pointer (some ⟨w6.heap.size + 1, 0, Option.none⟩), Value.func (Fn.func 25) #[] #[Value.pointer (some ⟨bb, 0, Option.none⟩)], Value.int .i64 (x.1 : Int), Value.string ⟨x.2.toArray⟩, Value.slice a len cap, Value.int IntKind.i64 (len : Int), Value.bool (decide ((30 : Int) < (len : Int))), Value.bool (decide ((30 : Int) < (len : Int))), Value.slice a len cap, Value.int IntKind.i64 (m : Int), Value.bool (decide ((100 : Int) < (m : Int))), Value.bool (decide ((30 : Int) < (len : Int)) || decide ((100 : Int) < (m : Int))), undef, Value.slice a len cap, Value.slice ao len capn, Value.tuple #[Value.int IntKind.i64 I, Value.int IntKind.i64 K, Value.bool true], Value.slice a len cap, Value.int IntKind.i64 at_, Value.tuple #[Value.int IntKind.i64 I, Value.int IntKind.i64 K, Value.bool true], Value.int IntKind.i64 I, Value.int IntKind.i64 K, Value.bool true, Value.tuple #[Value.int IntKind.i64 I, Value.int IntKind.i64 K], Value.slice a len cap, Value.int IntKind.i64 at_, Value.tuple #[Value.int IntKind.i64 I, Value.int IntKind.i64 K], Value.int IntKind.i64 I, Value.int IntKind.i64 K, Value.slice ao len capn, Value.int IntKind.i64 (len : Int), Value.slice a len cap, Value.int IntKind.i64 (len : Int), Value.bool false, Value.bool false, Value.slice a len cap, Value.int IntKind.i64 (m : Int), Value.slice a len cap, Value.int IntKind.i64 (m : Int), Value.bool false, Value.bool false, Value.bool false, Value.slice a len cap, Value.string ⟨f.toArray⟩, Value.slice a len cap, Value.string ⟨f.toArray⟩, Value.bool false, Value.bool false, Value.bool false, Value.bool true, Value.int IntKind.i64 I, Value.bool true, Value.bool false, Value.bool false, Value.bool false, Value.bool true, Value.bool true, Value.int IntKind.i64 I, Value.int IntKind.i64 I, Value.bool false, Value.bool false, Value.int IntKind.i64 K, Value.int IntKind.i64 K, Value.bool false, Value.bool false, Value.bool false, Value.bool false, Value.bool false, Value.bool true, Value.bool false, Value.bool false, undef, undef, undef, undef, undef, undef, Value.bool false, Value.bool false, Value.slice a len cap, Value.func (Fn.func 25) #[] #[Value.pointer (some ⟨bb, 0, Option.none⟩)], Value.func (Fn.func 25) #[] #[Value.pointer (some ⟨bb, 0, Option.none⟩)], Value.bool false, Value.func (Fn.func 25) #[] #[Value.pointer (some ⟨bb, 0, Option.none⟩)], Value.int .i64 (x.1 : Int), Value.string ⟨x.2.toArray⟩, undef, undef, undef, undef, undef, undef, undef, undef, undef, undef, undef, undef, undef, undef, undef, undef, undef, undef, undef, undef, undef, undef, undef, undef, undef, undef, undef, undef, undef, undef, undef, undef, undef, undef, undef, undef, undef, undef, undef], defers := [] }) ?assign ?body ?done ?stop
  case assign =>
    intro lp x W Kx hK
    dsimp only [encA]
    gi_wp2
    exact hK
  case body =>
    rintro lp pre ⟨mm, t⟩ W ⟨⟨hpre, i1, i2⟩, hbe⟩ hplt ⟨hm, ht⟩
    simp only at hm ht
    have c1 := i1.cell
    have c2 := i2.cell
    have f1 := i1.frozen
    have f2 := i2.frozen
    have x7 := boxed_below x6 hbe
    have y7 := boxed_below y6 hbe
    have z7 := boxed_below z6 hbe
    have cx := x7.cell
    have cz := z7.cell
    have fy := y7.frozen
    have cy := y7.cell
    have HS := Lib.hid (bsize t)
    have HP := Lib.hid hpre
    have hsum := sumL_le pre hpre
    have g0 : (0 : Int) ≤ (pre.length : Int) := by omega
    have g1 : (pre.length : Int) < (len : Int) := by omega
    obtain ⟨b, off, ha, t', hf, hc⟩ := str_at HR.out (p6.trans (hbe.mono s6)) pre.length hplt
    obtain ⟨g, hao, hcn⟩ : ∃ g, ao = some ⟨g, 0, none⟩ ∧ W.cell? ⟨g, 0 + pre.length, none⟩ = some (.int .i64 (t'.length : Int)) := by
      rcases HCE.out with h0 | ⟨g, hg, _, _, hcell⟩
      · omega
      · refine ⟨g, hg, ?_⟩
        have h1 := hcell pre.length hplt
        rw [lens_at hf] at h1
        exact cell_below h1 (k6.trans (hbe.mono k6.size))
    rw [Nat.zero_add] at hcn
    have HF := Lib.hid hf
    obtain ⟨S, hS⟩ : ∃ S, sumL pre = S := ⟨_, rfl⟩
    have HSS := Lib.hid hS
    rw [hS] at c2 hsum
    clear hpre hf x7 y7 z7 hS
    subst ha hao
    by_cases h1 : mm = S
    · subst h1
      by_cases h2 : t = t'
      · subst h2
        gi_wp2
        refine ⟨(KeepsOthers.setCell _ _ _).trans (KeepsOthers.setCell _ _ _), fun k hk => ?_, ⟨?_, ?_, ?_⟩, ?_⟩
        · have := hk.1
          rw [Below.heap_setCell _ _ _ _ (by simp; omega), Below.heap_setCell _ _ _ _ (by simp; omega)]
        · intro y hy
          rcases List.mem_append.1 hy with hy | hy
          · exact HP.out y hy
          · rw [List.mem_singleton.1 hy]; exact ht
        · rw [List.length_append, List.length_singleton, Int.natCast_add]
          exact (i1.set _).other (by omega) _
        · rw [sumL_snoc, HSS.out, Int.natCast_add]
          exact (i2.other (by omega) _).set _
        · exact (hbe.setCell (p := ⟨w6.heap.size, 0, none⟩) (Nat.le_refl _) _).setCell (p := ⟨w6.heap.size + 1, 0, none⟩) (by simp) _
      · have hne : (t == t') = false := by simpa using h2
        gi_wp2
        refine ⟨KeepsOthers.setCell _ _ _, pre, _, rfl, ?_⟩
        rintro ⟨_, e2⟩
        rw [HF.out] at e2
        exact h2 (Option.some.inj e2).symm
    · have hne : ¬ (mm : Int) = (S : Int) := by omega
      gi_wp2
      refine ⟨KeepsOthers.setCell _ _ _, pre, _, rfl, ?_⟩
      rintro ⟨e1, _⟩
      exact h1 (e1.trans HSS.out)
  case done =>
    rintro D ys W hD rfl ⟨⟨hpre, i1, i2⟩, hbe⟩ hK
    rw [uptoL_length] at i1
    have c1 := i1.cell
    have x7 := boxed_below x6 hbe
    have y7 := boxed_below y6 hbe
    have cx := x7.cell
    have p9 := p6.trans (hbe.mono s6)
    have s9 := p9.size
    have hDW : D < W.heap.size := by
      rcases Nat.lt_or_ge D W.heap.size with h' | h'
      · exact h'
      · rw [Array.getElem?_eq_none h'] at hK; cases hK
    clear i2 hpre
    gi_wp2_with fail
    refine ⟨trivial, ?_⟩
    refine (callsIn_wide.2 (chawake_any W)).mono ?_
    rintro e w9 ⟨rfl, hb9⟩
    have hK9 : w9.heap[D]? = some (.deferred (some [])) := (hb9.block D hDW).trans hK
    have y9 := boxed_below y7 hb9
    have cy := y9.cell
    have fy := y9.frozen
    have p10 := p9.trans (hb9.mono s9)
    clear x7 y7 cx c1 i1
    gi_wp2
    have hK' : (w9.setCell ⟨w.heap.size + 1, 0, none⟩ (.bool true)).heap[D]? = some (.deferred (some [])) := (KeepsOthers.setCell _ _ _).same D _ hK9 rfl
    have j9 := y9.set (.bool true)
    have hb' : Below w.heap.size w (w9.setCell ⟨w.heap.size + 1, 0, none⟩ (.bool true)) := p10.setCell (p := ⟨w.heap.size + 1, 0, none⟩) (by simp) _
    generalize w9.setCell ⟨w.heap.size + 1, 0, none⟩ (.bool true) = W' at hK' j9 hb' ⊢
    have e9 := (boxed_row j9 (grownBy_putObj' W' D (.deferred none)) (fun r e => by cases e; exact ⟨_, hK', rfl⟩)).cell
    refine ⟨by simp, .inl ⟨_, _, rfl, run_takeDeferred hK', ?_⟩⟩
    refine ⟨.bool true, by simp [results, Try.f4, go_sem, e9], ?_⟩
    exact ⟨rfl, hb'.trans (belowK_b (w := w) (Nat.le_refl _) W' D _ _ (by omega) hK' rfl rfl)⟩
  case stop =>
    rintro D c pre W hD ⟨k, hk, hpre⟩ hx hK
    exact (paX_not (by omega) hpre hx).elim

set_option maxRecDepth 100000 in
set_option maxHeartbeats 4000000 in
theorem parts_miss (a : Option Addr) (len cap : Nat) (ws : List (List UInt8)) (at_ : Int) (w : World) (h1 : at_ ≤ 9223372036854775807) (h30 : len ≤ 30) (hlc : len ≤ cap) (hr : IsStrs w a len ws) (hw : lonL ws ≤ 100) (hI : whI ws at_ < 0) :
    Calls Try.prog 4 #[.slice a len cap, .int .i64 at_] w fun e w' => e = .returned (.bool true) ∧ Below w.heap.size w w' := by
  have hs : ∀ t ∈ ws, t.length ≤ 1000000 := fun t ht => by have := lonL_ge ht; omega
  have hwl := hr.1
  obtain ⟨b0, b1⟩ := lawWorld_boxes a len cap w
  have hbl := lawWorld_below a len cap w
  have hsl := hbl.size
  have HL := Lib.hid (fun c (h : Below w.heap.size w c) => rlongest_any a len cap ws c (by omega) (hr.below h))
  have HG := Lib.hid (fun c (h : Below w.heap.size w c) => longest_any a len cap ws c (by omega) (hr.below h))
  have HJ := Lib.hid (fun c (h : Below w.heap.size w c) => join_any a len cap ws c (by omega) hlc hs (hr.below h))
  have HK := Lib.hid (fun c (h : Below w.heap.size w c) => rjoin_any a len cap ws c (by omega) hs (hr.below h))
  have HN := Lib.hid (fun c (h : Below w.heap.size w c) => lengths_any a len cap ws c (by omega) (hr.below h))
  have HW := Lib.hid (fun c (h : Below w.heap.size w c) => where_miss a len cap ws at_ c h1 (by omega) hs (hr.below h) hI)
  have HV := Lib.hid (fun c (h : Below w.heap.size w c) => rwhere_any a len cap ws at_ c (by omega) hs (hr.below h))
  have HA := Lib.hid (fun c (h : Below w.heap.size w c) => all_any a len cap ws c (by omega) (hr.below h))
  have HR := Lib.hid hr
  have HSH := Lib.hid hs
  generalize lonL ws = m at HL HG hw
  generalize ws.flatten = f at HJ HK
  generalize whI ws at_ = I at HW HV hI
  generalize whK ws at_ = K at HW HV
  clear hr hs
  refine callsIn_wide (n := 5) |>.1 ?_
  refine callsIn_of_wp_marks Try.func4 rfl trivial ?_ rfl
  simp only [Try.ntmps4, List.size_toArray, List.length_cons, List.length_nil, Nat.reduceAdd, Nat.reduceSub, Array.replicate_succ, Array.replicate_zero, List.push_toArray, List.append_toArray, List.nil_append, List.cons_append]
  gi_wp2_with fail
  refine ⟨trivial, ?_⟩
  refine (callsIn_wide.2 (HL.out (lawWorld a len cap w) hbl)).mono ?_
  rintro e w1 ⟨rfl, hb1⟩
  have p1 := hbl.trans (hb1.mono hsl)
  have s1 := p1.size
  have x1 := boxed_below b0 hb1
  have y1 := boxed_below b1 hb1
  have c1 := Boxed.cell x1
  clear b0 b1 hb1
  gi_wp2_with fail
  refine ⟨trivial, ?_⟩
  refine (callsIn_wide.2 (HN.out w1 p1)).mono ?_
  rintro e w2 ⟨v, rfl, hown, hb2⟩
  obtain ⟨ao, capn, rfl, hcell⟩ := owns_ints hown
  rw [lensL_length, hwl] at hcell
  rw [lensL_length, hwl]
  clear hown
  have p2 := p1.trans (hb2.mono s1)
  have s2 := p2.size
  have x2 := boxed_below x1 hb2
  have y2 := boxed_below y1 hb2
  have HCE := Lib.hid hcell
  have b3 : Below w2.heap.size w2 (w2.alloc (.cells #[.slice ao len capn] 22)) := (Below.refl _ _).alloc (Nat.le_refl _) _
  have p3 := p2.trans (b3.mono s2)
  have s3 := p3.size
  have x3 := boxed_below x2 b3
  have y3 := boxed_below y2 b3
  have z3 := Boxed.new w2 22 (.slice ao len capn)
  have c2 := Boxed.cell x2
  have c3 := Boxed.cell x3
  have H3 := Lib.hid (HW.out _ p3)
  clear x1 y1 c1 hb2 HN hcell HW x2 y2 b3
  gi_wp2_with fail
  refine ⟨trivial, ?_⟩
  refine (callsIn_wide.2 H3.out).mono ?_
  rintro e w4 ⟨rfl, hb4⟩
  have p4 := p3.trans (hb4.mono s3)
  have s4 := p4.size
  have x4 := boxed_below x3 hb4
  have y4 := boxed_below y3 hb4
  have z4 := boxed_below z3 hb4
  have c4 := Boxed.cell x4
  have t4 : w2.heap.size ≤ w4.heap.size := Nat.le_trans (by simp) hb4.size
  have k4 : Below w2.heap.size w2 w4 := ((Below.refl _ w2).alloc (Nat.le_refl _) _).trans (hb4.mono (by simp))
  have H4 := Lib.hid (HV.out w4 p4)
  clear x3 y3 z3 hb4 c2 c3 H3 HV
  gi_wp2_with fail
  refine ⟨trivial, ?_⟩
  refine (callsIn_wide.2 H4.out).mono ?_
  rintro e w5 ⟨rfl, hb5⟩
  have p5 := p4.trans (hb5.mono s4)
  have s5 := p5.size
  have x5 := boxed_below x4 hb5
  have y5 := boxed_below y4 hb5
  have z5 := boxed_below z4 hb5
  have c5 := Boxed.cell x5
  have d5 := Boxed.cell z5
  have k5 : Below w2.heap.size w2 w5 := k4.trans (hb5.mono t4)
  have G1 := regrown_calls (w := w5) (fun c h => HG.out c (p5.trans (h.mono s5)))
  have G2 := regrown_calls (w := w5) (fun c h => HL.out c (p5.trans (h.mono s5)))
  have G3 := regrown_calls (w := w5) (fun c h => HJ.out c (p5.trans (h.mono s5)))
  have G4 := regrown_calls (w := w5) (fun c h => HK.out c (p5.trans (h.mono s5)))
  have q5 := cell_regrown c5
  have r5 := cell_regrown d5
  have hmx : Try.prog.follows .mixedOrders = true := by kernel_rfl
  clear x4 y4 z4 hb5 c4 H4 HG HL HJ HK t4 k4
  gi_wp2_with fail
  have hdI : decide ((0 : Int) ≤ I) = false := by simp; omega
  refine wpIn_wide.2 ?_
  refine wp_region_quiet_below hmx (by kernel_rfl) ?_
  repeat (go_big_quiet_step (first | exact G1 _ _ | exact G2 _ _ | exact G3 _ _ | exact G4 _ _))
  refine wpQuiet_nil ?_
  intro W6 hw6
  obtain ⟨⟨dq, osq⟩, rfl⟩ := hw6
  have b6 := below_regrown w5 dq osq
  generalize Go.Sort.grow (redrawn w5 dq) osq = w6 at b6 ⊢
  have p6 := p5.trans (b6.mono s5)
  have s6 := p6.size
  have x6 := boxed_below x5 b6
  have y6 := boxed_below y5 b6
  have z6 := boxed_below z5 b6
  have k6 : Below w2.heap.size w2 w6 := k5.trans (b6.mono k5.size)
  have b7 : Below w6.heap.size w6 ((w6.alloc (.cells #[.int .i64 0] 3)).alloc (.cells #[.int .i64 0] 3)) := ((Below.refl _ w6).alloc (Nat.le_refl _) _).alloc (by simp) _
  have p7 := p6.trans (b7.mono s6)
  have H7 := Lib.hid (HA.out _ p7)
  have c7 := Boxed.cell (boxed_below x6 b7)
  clear x5 y5 z5 q5 r5 G1 G2 G3 G4 c5 d5 k5 b6 HA
  gi_wp2_with fail
  refine ⟨trivial, ?_⟩
  refine (callsIn_wide.2 H7.out).mono ?_
  rintro e w8 ⟨bb, ac, capc, rfl, hbx, hcs, hgr, hb8⟩
  have k8 : Below w6.heap.size w6 w8 := b7.trans (hb8.mono (by simp; omega))
  have sz8 : w6.heap.size + 2 ≤ w8.heap.size := by have := hb8.size; simp only [World.size_alloc] at this; omega
  have i8 : Boxed w8 w6.heap.size 3 (.int .i64 0) := boxed_below ((Boxed.new w6 3 (.int .i64 0)).alloc _) hb8
  have j8 : Boxed w8 (w6.heap.size + 1) 3 (.int .i64 0) := by
    have := Boxed.new (w6.alloc (.cells #[.int .i64 0] 3)) 3 (.int .i64 0)
    rw [World.size_alloc] at this
    exact boxed_below this hb8
  simp only [World.size_alloc] at hgr
  clear H7 c7 b7 p7 hb8
  have hrun : Sem.run Try.prog (binOp BinOp.eql 41 (Value.func (.func 25) #[] #[.pointer (some ⟨bb, 0, none⟩)]) Value.nilFunc) w8 = .ok (.bool false) w8 := by kernel_rfl
  dsimp only [thrFunc]
  gi_wp2_with fail
  have HM := Lib.hid (thr_moves Fence.wide 4 trivial rfl (by omega) bb (fun k => w6.heap.size + 2 ≤ k ∧ k < w8.heap.size) ac len capc ws (by omega) HSH.out
    (fun h g off e => by have := hgr h g off e; omega) w8 hbx.lt hbx.cell hcs)
  have hI0 : PaI w6 [] w8 := ⟨⟨by simp, by simpa using i8, by simpa [sumL] using j8⟩, k8⟩
  clear hrun hgr hbx hcs i8 j8
  refine wpIn_rangeFunc_moves (F := Fence.wide) (n := 5) rfl (by omega) (gf := 25) (lb := #[.pointer (some ⟨bb, 0, none⟩)]) rfl trivial (enters_of Try.func25 (by kernel_rfl) rfl)
    HM.out (fun h k => h.trans k) (fun W lp o o' hlp ho _ _ k hk => World.putObj_heap_other (by have := hk.2; omega)) (fun h => h.elim) (Below.refl _ _) (fun _ => rfl)
    (PaI w6) (PaX ws) (paI_turn w6 _ (by omega)) (fun _ _ _ _ h => h.elim) (fun _ _ _ _ _ h _ _ => h) hI0
    (fun x => { tmps := #[Value.slice a len cap, Value.int IntKind.i64 at_, Value.pointer (some ⟨w.heap.size, 0, Option.none⟩), undef, Value.pointer (some ⟨w.heap.size + 1, 0, Option.none⟩), Value.pointer (some ⟨w2.heap.size, 0, Option.none⟩), Value.int IntKind.i64 0, Value.int IntKind.i64 0, Value.bool false, Value.int IntKind.i64 I, Value.int IntKind.i64 K, Value.pointer (some ⟨w6.heap.size, 0, Option.none⟩), Value.pointer (some ⟨w6.heap.size + 1, 0, Option.none⟩), Value.func (Fn.func 25) #[] #[Value.pointer (some ⟨bb, 0, Option.none⟩)], Value.int .i64 (x.1 : Int), Value.string ⟨x.2.toArray⟩, Value.slice a len cap, Value.int IntKind.i64 (len : Int), Value.bool (decide ((30 : Int) < (len : Int))), Value.bool (decide ((30 : Int) < (len : Int))), Value.slice a len cap, Value.int IntKind.i64 (m : Int), Value.bool (decide ((100 : Int) < (m : Int))), Value.bool (decide ((30 : Int) < (len : Int)) || decide ((100 : Int) < (m : Int))), undef, Value.slice a len cap, Value.slice ao len capn, Value.tuple #[Value.int IntKind.i64 0, Value.int IntKind.i64 0, Value.bool false], Value.slice a len cap, Value.int IntKind.i64 at_, Value.tuple #[Value.int IntKind.i64 0, Value.int IntKind.i64 0, Value.bool false], Value.int IntKind.i64 0, Value.int IntKind.i64 0, Value.bool false, Value.tuple #[Value.int IntKind.i64 I, Value.int IntKind.i64 K], Value.slice a len cap, Value.int IntKind.i64 at_, Value.tuple #[Value.int IntKind.i64 I, Value.int IntKind.i64 K], Value.int IntKind.i64 I, Value.int IntKind.i64 K, Value.slice ao len capn, Value.int IntKind.i64 (len : Int), Value.slice a len cap, Value.int IntKind.i64 (len : Int), Value.bool false, Value.bool false, Value.slice a len cap, Value.int IntKind.i64 (m : Int), Value.slice a len cap, Value.int IntKind.i64 (m : Int), Value.bool false, Value.bool false, Value.bool false, Value.slice a len cap, Value.string ⟨f.toArray⟩, Value.slice a len cap, Value.string ⟨f.toArray⟩, Value.bool false, Value.bool false, Value.bool false, Value.bool false, Value.int IntKind.i64 I, Value.bool false, Value.bool false, Value.bool false, Value.bool false, Value.bool false, Value.bool false, undef, undef, undef, undef, undef, undef, undef, undef, Value.bool false, Value.bool false, Value.bool false, Value.bool false, Value.bool true, Value.bool true, Value.int IntKind.i64 0, Value.bool false, Value.bool false, Value.int IntKind.i64 0, Value.bool false, Value.bool false, Value.bool false, Value.bool false, Value.slice a len cap, Value.func (Fn.func 25) #[] #[Value.pointer (some ⟨bb, 0, Option.none⟩)], Value.func (Fn.func 25) #[] #[Value.pointer (some ⟨bb, 0, Option.none⟩)], Value.bool false, Value.func (Fn.func 25) #[] #[Value.pointer (some ⟨bb, 0, Option.none⟩)], Value.int .i64 (x.1 : Int), Value.string ⟨x.2.toArray⟩, undef, undef, undef, undef, undef, undef, undef, undef, undef, undef, undef, undef, undef, undef, undef, undef, undef, undef, undef, undef, undef, undef, undef, undef, undef, undef, undef, undef, undef, undef, undef, undef, undef, undef, undef, undef, undef, undef, undef], defers := [] }) ?assign ?body ?done ?stop
  case assign =>
    intro lp x W Kx hK
    dsimp only [encA]
    gi_wp2
    exact hK
  case body =>
    rintro lp pre ⟨mm, t⟩ W ⟨⟨hpre, i1, i2⟩, hbe⟩ hplt ⟨hm, ht⟩
    simp only at hm ht
    have c1 := i1.cell
    have c2 := i2.cell
    have f1 := i1.frozen
    have f2 := i2.frozen
    have x7 := boxed_below x6 hbe
    have y7 := boxed_below y6 hbe
    have z7 := boxed_below z6 hbe
    have cx := x7.cell
    have cz := z7.cell
    have fy := y7.frozen
    have cy := y7.cell
    have HS := Lib.hid (bsize t)
    have HP := Lib.hid hpre
    have hsum := sumL_le pre hpre
    have g0 : (0 : Int) ≤ (pre.length : Int) := by omega
    have g1 : (pre.length : Int) < (len : Int) := by omega
    obtain ⟨b, off, ha, t', hf, hc⟩ := str_at HR.out (p6.trans (hbe.mono s6)) pre.length hplt
    obtain ⟨g, hao, hcn⟩ : ∃ g, ao = some ⟨g, 0, none⟩ ∧ W.cell? ⟨g, 0 + pre.length, none⟩ = some (.int .i64 (t'.length : Int)) := by
      rcases HCE.out with h0 | ⟨g, hg, _, _, hcell⟩
      · omega
      · refine ⟨g, hg, ?_⟩
        have h1 := hcell pre.length hplt
        rw [lens_at hf] at h1
        exact cell_below h1 (k6.trans (hbe.mono k6.size))
    rw [Nat.zero_add] at hcn
    have HF := Lib.hid hf
    obtain ⟨S, hS⟩ : ∃ S, sumL pre = S := ⟨_, rfl⟩
    have HSS := Lib.hid hS
    rw [hS] at c2 hsum
    clear hpre hf x7 y7 z7 hS
    subst ha hao
    by_cases h1 : mm = S
    · subst h1
      by_cases h2 : t = t'
      · subst h2
        gi_wp2
        refine ⟨(KeepsOthers.setCell _ _ _).trans (KeepsOthers.setCell _ _ _), fun k hk => ?_, ⟨?_, ?_, ?_⟩, ?_⟩
        · have := hk.1
          rw [Below.heap_setCell _ _ _ _ (by simp; omega), Below.heap_setCell _ _ _ _ (by simp; omega)]
        · intro y hy
          rcases List.mem_append.1 hy with hy | hy
          · exact HP.out y hy
          · rw [List.mem_singleton.1 hy]; exact ht
        · rw [List.length_append, List.length_singleton, Int.natCast_add]
          exact (i1.set _).other (by omega) _
        · rw [sumL_snoc, HSS.out, Int.natCast_add]
          exact (i2.other (by omega) _).set _
        · exact (hbe.setCell (p := ⟨w6.heap.size, 0, none⟩) (Nat.le_refl _) _).setCell (p := ⟨w6.heap.size + 1, 0, none⟩) (by simp) _
      · have hne : (t == t') = false := by simpa using h2
        gi_wp2
        refine ⟨KeepsOthers.setCell _ _ _, pre, _, rfl, ?_⟩
        rintro ⟨_, e2⟩
        rw [HF.out] at e2
        exact h2 (Option.some.inj e2).symm
    · have hne : ¬ (mm : Int) = (S : Int) := by omega
      gi_wp2
      refine ⟨KeepsOthers.setCell _ _ _, pre, _, rfl, ?_⟩
      rintro ⟨e1, _⟩
      exact h1 (e1.trans HSS.out)
  case done =>
    rintro D ys W hD rfl ⟨⟨hpre, i1, i2⟩, hbe⟩ hK
    rw [uptoL_length] at i1
    have c1 := i1.cell
    have x7 := boxed_below x6 hbe
    have y7 := boxed_below y6 hbe
    have cx := x7.cell
    have p9 := p6.trans (hbe.mono s6)
    have s9 := p9.size
    have hDW : D < W.heap.size := by
      rcases Nat.lt_or_ge D W.heap.size with h' | h'
      · exact h'
      · rw [Array.getElem?_eq_none h'] at hK; cases hK
    clear i2 hpre
    gi_wp2_with fail
    refine ⟨trivial, ?_⟩
    refine (callsIn_wide.2 (chawake_any W)).mono ?_
    rintro e w9 ⟨rfl, hb9⟩
    have hK9 : w9.heap[D]? = some (.deferred (some [])) := (hb9.block D hDW).trans hK
    have y9 := boxed_below y7 hb9
    have cy := y9.cell
    have fy := y9.frozen
    have p10 := p9.trans (hb9.mono s9)
    clear x7 y7 cx c1 i1
    gi_wp2
    have hK' : (w9.setCell ⟨w.heap.size + 1, 0, none⟩ (.bool true)).heap[D]? = some (.deferred (some [])) := (KeepsOthers.setCell _ _ _).same D _ hK9 rfl
    have j9 := y9.set (.bool true)
    have hb' : Below w.heap.size w (w9.setCell ⟨w.heap.size + 1, 0, none⟩ (.bool true)) := p10.setCell (p := ⟨w.heap.size + 1, 0, none⟩) (by simp) _
    generalize w9.setCell ⟨w.heap.size + 1, 0, none⟩ (.bool true) = W' at hK' j9 hb' ⊢
    have e9 := (boxed_row j9 (grownBy_putObj' W' D (.deferred none)) (fun r e => by cases e; exact ⟨_, hK', rfl⟩)).cell
    refine ⟨by simp, .inl ⟨_, _, rfl, run_takeDeferred hK', ?_⟩⟩
    refine ⟨.bool true, by simp [results, Try.f4, go_sem, e9], ?_⟩
    exact ⟨rfl, hb'.trans (belowK_b (w := w) (Nat.le_refl _) W' D _ _ (by omega) hK' rfl rfl)⟩
  case stop =>
    rintro D c pre W hD ⟨k, hk, hpre⟩ hx hK
    exact (paX_not (by omega) hpre hx).elim

theorem parts_good (a : Option Addr) (len cap : Nat) (ws : List (List UInt8)) (at_ : Int) (w : World) (h1 : at_ ≤ 9223372036854775807) (h30 : len ≤ 30) (hlc : len ≤ cap) (hr : IsStrs w a len ws) (hw : lonL ws ≤ 100) :
    Calls Try.prog 4 #[.slice a len cap, .int .i64 at_] w fun e w' => e = .returned (.bool true) ∧ Below w.heap.size w w' := by
  by_cases hI : 0 ≤ whI ws at_
  · exact parts_hit a len cap ws at_ w h1 h30 hlc hr hw hI
  · exact parts_miss a len cap ws at_ w h1 h30 hlc hr hw (by omega)
end Go.Proofs.Ytjeeicmoenoppaa
