/-
  merge.All: walked.
-/
import Derived.Test.YtikhjofpioegbaaMgA
set_option linter.unusedSimpArgs false
set_option linter.unusedVariables false
namespace Go.Proofs.Ytikhjofpioegbaa
open Go.RowKit

/-- The midst of All: the merger in block M, what it has told, what it holds. -/
structure MAt (w wr : World) (M : Nat) (v : Value) (P : List Rv) (y : Rv) (s : Bool) (recs : List Rv) : Prop where
  below : Below w.heap.size w wr
  ism : IsM wr M y s
  own : wr.ownsRow (M + 1) 24 4 v recs.length (rvCells recs)
  none : s = false → P = [] ∧ recs = [] ∧ y = rv0
  pair : s = true → Pair2 (Cp w wr) (mgAll P) (recs ++ [y])
  few : recs.length ≤ P.length
theorem MAt.same {w wr w' : World} {M : Nat} {v : Value} {P : List Rv} {y : Rv} {s : Bool} {recs : List Rv} (h : MAt w wr M v P y s recs) (hb : Below wr.heap.size wr w') : MAt w w' M v P y s recs :=
  ⟨h.below.trans (hb.mono h.below.size), h.ism.below hb, (Keep.below hb).owns h.own, h.none, fun hs => (h.pair hs).mono fun _ _ c => c.keep (.below hb), h.few⟩
theorem But.belowM {b B : Nat} {w w' : World} (h : But w.heap.size b w w') (hB : B ≤ w.heap.size) (hb : B ≤ b) : Below B w w' := ⟨h.os, h.tape, h.output, h.size, fun k hk => h.block k (by omega) (by omega)⟩
theorem pair_last {R : Rv → Rv → Prop} {l m : List Rv} {y : Rv} (h : Pair2 R l (m ++ [y])) : ∃ o y', l = o ++ [y'] ∧ R y' y ∧ Pair2 R o m := by
  have hl := h.1
  simp at hl
  rcases mg_cases l with rfl | ⟨o, y', rfl⟩
  · simp at hl
  · simp at hl
    refine ⟨o, y', rfl, h.2 o.length y' y (by simp) (by rw [hl]; simp), hl, fun i u v hu hv => h.2 i u v ?_ ?_⟩
    · rw [List.getElem?_append_left (List.getElem?_eq_some_iff.1 hu).1]; exact hu
    · rw [List.getElem?_append_left (List.getElem?_eq_some_iff.1 hv).1]; exact hv
theorem MAt.hit {w W W' : World} {M : Nat} {v : Value} {P : List Rv} {y x : Rv} {s : Bool} {recs : List Rv} (h : MAt w W M v P y s recs) (hM : w.heap.size ≤ M) (hb : But W.heap.size M W W') (ht : twoB y x = true) (hi : IsM W' M (plusR y x) s) :
    MAt w W' M v (P ++ [x]) (plusR y x) s recs := by
  cases s with
  | false =>
    obtain ⟨_, _, rfl⟩ := h.none rfl
    rw [mg2_zero] at ht
    cases ht
  | true =>
    have hki : Keep 3 W W' := Keep.but hb h.ism (by decide)
    have hkr : Keep 24 W W' := Keep.but hb h.ism (by decide)
    refine ⟨h.below.trans (hb.belowM h.below.size hM), hi, hkr.owns h.own, fun e => by (cases e), fun _ => ?_, by have := h.few; simp; omega⟩
    obtain ⟨o, y', e, hc, hp⟩ := pair_last (h.pair rfl)
    have hal := hc.1
    have ht' : twoB y' x = true := (hal.two (Alike.refl x)).symm.trans ht
    rw [mga_snoc, e, mgs_hit ht', hal.plus x]
    exact (hp.mono fun _ _ c => c.keep hki).snoc (Cp.none (Alike.refl _) (fun _ => rfl) rfl)
/-- A record that can't be put to what is held. -/
theorem MAt.miss {w W W' : World} {M : Nat} {v : Value} {P : List Rv} {y x z : Rv} {recs : List Rv} (h : MAt w W M v P y true recs) (hM : w.heap.size ≤ M) (hb : But W.heap.size M W W') (ht : twoB y x = false) (hc : Cp w W' x z) :
    Below w.heap.size w W' ∧ W'.ownsRow (M + 1) 24 4 v recs.length (rvCells recs) ∧ Pair2 (Cp w W') (mgAll (P ++ [x])) (recs ++ [y] ++ [z]) := by
  have hki : Keep 3 W W' := Keep.but hb h.ism (by decide)
  have hkr : Keep 24 W W' := Keep.but hb h.ism (by decide)
  refine ⟨h.below.trans (hb.belowM h.below.size hM), hkr.owns h.own, ?_⟩
  obtain ⟨o, y', e, hc', hp⟩ := pair_last (h.pair rfl)
  have ht' : twoB y' x = false := (hc'.1.two (Alike.refl x)).symm.trans ht
  rw [mga_snoc, e, mgs_miss ht']
  exact ((hp.mono fun _ _ c => c.keep hki).snoc (hc'.keep hki)).snoc hc
theorem MAt.first {w W W' : World} {M : Nat} {v : Value} {P : List Rv} {y x z : Rv} {recs : List Rv} (h : MAt w W M v P y false recs) (hM : w.heap.size ≤ M) (hb : But W.heap.size M W W') (hi : IsM W' M z true) (hc : Cp w W' x z) :
    MAt w W' M v (P ++ [x]) z true recs := by
  obtain ⟨rfl, rfl, _⟩ := h.none rfl
  have hkr : Keep 24 W W' := Keep.but hb h.ism (by decide)
  exact ⟨h.below.trans (hb.belowM h.below.size hM), hi, hkr.owns h.own, fun e => by (cases e), fun _ => Pair2.snoc (l := []) (m := []) Pair2.nil hc, by simp⟩
theorem MAt.told {w W' W2 W'' : World} {M : Nat} {v v' : Value} {P : List Rv} {x y z : Rv} {recs : List Rv} (hM : w.heap.size ≤ M) (h : Below w.heap.size w W' ∧ W'.ownsRow (M + 1) 24 4 v recs.length (rvCells recs) ∧ Pair2 (Cp w W') (mgAll (P ++ [x])) (recs ++ [y] ++ [z])) (hi : IsM W' M z true) (hf : recs.length ≤ P.length)
    (h2 : Below W'.heap.size W' W2) (ho2 : W2.ownsRow (M + 1) 24 4 v recs.length (rvCells recs)) (hg : W2.grownBy W'' v.ownBlock) (ho : W''.ownsRow (M + 1) 24 4 v' (recs.length + 1) (rvCells recs ++ y.cells)) :
    MAt w W'' M v' (P ++ [x]) z true (recs ++ [y]) := by
  have hlt := hi.lt
  have hs := h.1.size
  have hs2 := h2.size
  refine ⟨h.1.trans ((h2.mono hs).trans ?_), ?_, ?_, fun e => by (cases e), fun _ => ?_, by simp; omega⟩
  · exact ⟨hg.os, hg.tape, hg.output, hg.size, fun i hi' => hg.block i (by omega) (fun e => by have := (ho2.lt i e.symm).1; omega)⟩
  · exact (Keep.grown ho2 hg (T := 41) (by decide)) M _ _ ((h2.block _ hlt).trans hi)
  · rw [rvCells_app, rvCells_one, List.length_append]
    exact ho
  · exact h.2.2.mono fun _ _ c => (c.keep (.below h2)).keep (Keep.grown ho2 hg (by decide))
/-- What is told in the end. -/
theorem MAt.fin {w w' : World} {a : Option Addr} {m : Nat} {rs qs : List Rv} (hp : Pair2 (Cp w w') (mgAll rs) qs) (hb : Below w.heap.size w w') (hl : ∀ x ∈ rs, x.len ≤ 1000000) : Pair2 (Eqv w') (mgAll rs) qs := by
  refine ⟨hp.1, fun i x y hx hy => (hp.2 i x y hx hy).eqv hb ?_⟩
  rcases mga_from rs x (List.mem_of_getElem? hx) with h | h
  · have := hl x h
    unfold maxLen
    omega
  · rw [h]; exact Nat.zero_le _

/-- Records, put together, as an answer. -/
def RetAllM (rs : List Rv) (w : World) (e : Ending) (w' : World) : Prop :=
  ∃ (a : Option Addr) (c : Nat) (qs : List Rv), e = .returned (.slice a qs.length c) ∧ RecAt w' a qs ∧ Pair2 (Eqv w') (mgAll rs) qs ∧ Below w.heap.size w w'

set_option maxRecDepth 100000 in
set_option maxHeartbeats 4000000 in
theorem mgall_any (a : Option Addr) (m ca : Nat) (rs : List Rv) (w : World) (hn : rs.length = m) (hm : m ≤ 1000) (ha : RecAt w a rs) (hrd : ∀ x ∈ rs, Rd w x) (hl : ∀ x ∈ rs, x.len ≤ 1000000) :
    Calls Try.prog 16 #[.slice a m ca] w (RetAllM rs w) := by
  obtain ⟨i0, hi, hz0, hz1, hz2⟩ := info_parts rec_info
  have HA := Lib.hid ha
  have HRD := Lib.hid hrd
  have HLN := Lib.hid hl
  have HN := Lib.hid hn
  have hX := heap_alloc_new w (.cells #[.int .i64 0, .int .i64 0, .int .i64 0, .slice none 0 0, .bool false] 41)
  have hB := (Below.refl w.heap.size w).alloc (Nat.le_refl _) (.cells #[.int .i64 0, .int .i64 0, .int .i64 0, .slice none 0 0, .bool false] 41)
  obtain ⟨w1, hw1⟩ : ∃ w1, w.alloc (.cells #[.int .i64 0, .int .i64 0, .int .i64 0, .slice none 0 0, .bool false] 41) = w1 := ⟨_, rfl⟩
  rw [hw1] at hX hB
  have H0 : Hid (MAt w w1 w.heap.size (.slice none 0 0) (rs.take 0) rv0 false []) := Lib.hid ⟨hB, hX, World.ownsRow_nil _ _ _ _, fun _ => ⟨rfl, rfl, rfl⟩, fun e => by (cases e), by simp⟩
  clear ha hrd hl hX hB
  go_enter Try.func16, Try.ntmps16
  go_wp2
  go_loopw [4, 13] (fun v i wr => ∃ (k : Nat) (y : Rv) (s : Bool) (recs : List Rv), k ≤ m ∧ i = .int .i64 (k : Int) ∧ Hid (MAt w wr w.heap.size v (rs.take k) y s recs)) (fun _ i _ => m - (RowKit.intOf i).toNat)
  case atStart => exact ⟨0, rv0, false, [], Nat.zero_le _, rfl, H0⟩
  case round =>
    obtain ⟨k, y, s, recs, hk, rfl, HM⟩ := hrel
    by_cases hlt : k < m
    · obtain ⟨b1, off1, x, rfl, hx, c0, c1, c2, c3⟩ := (HA.out.below HM.out.below).get (i := k) (by omega)
      have u0 : (0 : Int) ≤ (k : Int) := by omega
      have u1 : (k : Int) < (m : Int) := by omega
      have hxr := HRD.out x (List.mem_of_getElem? hx)
      have hxl := HLN.out x (List.mem_of_getElem? hx)
      have htk : rs.take (k + 1) = rs.take k ++ [x] := by
        rw [List.take_add_one, hx]
        rfl
      have hpl : (rs.take k).length ≤ k := by simp; omega
      obtain ⟨P, hP⟩ : ∃ P, rs.take k = P := ⟨_, rfl⟩
      rw [hP] at HM htk hpl
      have HTK := Lib.hid htk
      have HPL := Lib.hid hpl
      clear hx htk hP hpl
      obtain ⟨xk, xn, xr, xa, xl, xc⟩ := x
      dsimp only at c0 c1 c2 c3 hxl
      have hBA := (Below.refl wr.heap.size wr).alloc (Nat.le_refl _) (.cells #[.int .i64 xk, .int .i64 xn, .int .i64 xr, .slice xa xl xc] 24)
      have HMA := Lib.hid (HM.out.same hBA)
      have hXA := heap_alloc_new wr (.cells #[.int .i64 xk, .int .i64 xn, .int .i64 xr, .slice xa xl xc] 24)
      obtain ⟨wA, hwA⟩ : ∃ wA, wr.alloc (.cells #[.int .i64 xk, .int .i64 xn, .int .i64 xr, .slice xa xl xc] 24) = wA := ⟨_, rfl⟩
      rw [hwA] at HMA hXA
      obtain ⟨d0, d1, d2, d3⟩ := rec_reads hXA
      obtain ⟨yk, yn, yr, ya, yl, yc⟩ := y
      have HADD := Lib.hid (mgadd_any HMA.out.below (Nat.le_refl _) yk yn yr ya yl yc s HMA.out.ism xk xn xr xa xl xc hxr hxl)
      clear hBA hXA hxr HM
      go_wp2_with fail
      refine HADD.out.mono ?_
      rintro E w2 ⟨hb2, h2⟩
      rcases h2 with ⟨ht, rfl, hi2⟩ | ⟨ht, rfl, z, hi2, hc2⟩
      · have HM2 := Lib.hid (HMA.out.hit (Nat.le_refl _) hb2 ht hi2)
        rw [← HTK.out] at HM2
        have HM3 := Lib.hid (HM2.out.same ((Below.refl w2.heap.size w2).alloc (Nat.le_refl _) (.cells #[.int .i64 0, .int .i64 0, .int .i64 0, .slice none 0 0] 24)))
        clear hb2 ht hi2 HMA HADD HM2 HTK
        go_wp2
        exact ⟨⟨k + 1, _, s, recs, by omega, by go_num, HM3⟩, by simp [RowKit.intOf]; omega⟩
      · cases s with
        | false =>
          have HM2 := Lib.hid (HMA.out.first (Nat.le_refl _) hb2 hi2 hc2)
          rw [← HTK.out] at HM2
          have HM3 := Lib.hid (HM2.out.same ((Below.refl w2.heap.size w2).alloc (Nat.le_refl _) (.cells #[.int .i64 yk, .int .i64 yn, .int .i64 yr, .slice ya yl yc] 24)))
          clear hb2 ht hi2 hc2 HMA HADD HM2 HTK
          go_wp2
          exact ⟨⟨k + 1, _, true, recs, by omega, by go_num, HM3⟩, by simp [RowKit.intOf]; omega⟩
        | true =>
          have HMI := Lib.hid (HMA.out.miss (Nat.le_refl _) hb2 ht hc2)
          have hfew := HMA.out.few
          have hrl : recs.length ≤ 1000 := by have := HPL.out; omega
          have hrl2 : (recs.length + 1) * 48 ≤ 140737488355328 := by omega
          have hrl3 : recs.length + 1 ≤ maxLen := by unfold maxLen; omega
          have hB3 := (Below.refl w2.heap.size w2).alloc (Nat.le_refl _) (.cells #[.int .i64 yk, .int .i64 yn, .int .i64 yr, .slice ya yl yc] 24)
          have hX3 := heap_alloc_new w2 (.cells #[.int .i64 yk, .int .i64 yn, .int .i64 yr, .slice ya yl yc] 24)
          obtain ⟨w3, hw3⟩ : ∃ w3, w2.alloc (.cells #[.int .i64 yk, .int .i64 yn, .int .i64 yr, .slice ya yl yc] 24) = w3 := ⟨_, rfl⟩
          rw [hw3] at hB3 hX3
          obtain ⟨k0, k1, k2, k3⟩ := rec_reads hX3
          have hNew := heap_alloc_new w3 (.cells #[.int .i64 yk, .int .i64 yn, .int .i64 yr, .slice ya yl yc] 24)
          have hB4 := (Below.refl w3.heap.size w3).alloc (Nat.le_refl _) (.cells #[.int .i64 yk, .int .i64 yn, .int .i64 yr, .slice ya yl yc] 24)
          have hB24 := hB3.trans (hB4.mono hB3.size)
          have hrc := (Keep.below hB24 (T := 24)).owns HMI.out.2.1
          have hbase : w.heap.size + 1 ≤ (w3.alloc (.cells #[.int .i64 yk, .int .i64 yn, .int .i64 yr, .slice ya yl yc] 24)).heap.size := by have := hB24.size; have := hi2.lt; omega
          have HB24 := Lib.hid hB24
          have HI2 := Lib.hid hi2
          have HFW := Lib.hid hfew
          clear hB3 hB4 hB24 hX3 hb2 ht hi2 hc2 HMA HADD hfew
          go_wp2_with (at_builtin; (try rw [hw3]); refine wpList_append_own _ rfl _ _ 25 rfl (w.heap.size + 1) 24 i0 (.agg #[.int .i64 0, .int .i64 0, .int .i64 0, .slice none 0 0]) 4 48 Try.underlying25 hi hz0 hz1 hz2 rfl (by decide) _ _ _ rfl hrc ⟨w3.heap.size, 0, none⟩ 1 1 (Rv.cells ⟨yk, yn, yr, ya, yl, yc⟩) rfl rfl ?g1 ?g2 ?g3 ?g4 ?g5 ?_)
          case g1 => first | exact fun j u hj => by rw [addPlain, Nat.zero_add, Lib.cell_of_heap hNew]; simpa [Rv.cells, Rv.sl] using hj
          case g2 => exact rv_one1
          case g3 => exact hrl3
          case g4 => exact hrl2
          case g5 => exact hbase
          intro v' w4 hown' hgrow _
          have HM4 := Lib.hid (MAt.told (Nat.le_refl _) HMI.out HI2.out HFW.out HB24.out hrc hgrow hown')
          rw [← HTK.out] at HM4
          clear hown' hgrow hrc hNew HMI HTK
          go_wp2
          exact ⟨⟨k + 1, _, true, _, by omega, by go_num, HM4⟩, by simp [RowKit.intOf]; omega⟩
    · obtain rfl : k = m := by omega
      have u1 : ¬ (k : Int) < (k : Int) := by omega
      have htk : rs.take k = rs := List.take_of_length_le (by have := HN.out; omega)
      rw [htk] at HM
      obtain ⟨yk, yn, yr, ya, yl, yc⟩ := y
      have HFL := Lib.hid (mgflush_any yk yn yr ya yl yc s HM.out.ism)
      clear htk
      go_wp2_with fail
      refine HFL.out.mono ?_
      rintro E w2 ⟨rfl, hi2, hb2⟩
      have hki : Keep 3 wr w2 := Keep.but hb2 HM.out.ism (by decide)
      have hkr : Keep 24 wr w2 := Keep.but hb2 HM.out.ism (by decide)
      have hB2 := HM.out.below.trans (hb2.belowM HM.out.below.size (Nat.le_refl _))
      have hown2 := hkr.owns HM.out.own
      cases s with
      | false =>
        obtain ⟨e1, e2, _⟩ := HM.out.none rfl
        subst e2
        obtain ⟨a1, c1, rfl, hra⟩ := owns_rv hown2 rfl
        have HF := Lib.hid (hB2.trans (((Below.refl w2.heap.size w2).alloc (Nat.le_refl _) (.cells #[.int .i64 yk, .int .i64 yn, .int .i64 yr, .slice ya yl yc] 24)).mono hB2.size))
        clear hki hkr hB2 hown2 hb2 hi2 HFL
        go_wp2
        go_ret
        exact ⟨a1, c1, [], rfl, .inl rfl, by rw [e1]; exact Pair2.nil, HF.out⟩
      | true =>
        have hp := (HM.out.pair rfl).mono fun _ _ c => c.keep hki
        have hfew := HM.out.few
        have hrl : recs.length ≤ 1000 := by have := HN.out; omega
        have hrl2 : (recs.length + 1) * 48 ≤ 140737488355328 := by omega
        have hrl3 : recs.length + 1 ≤ maxLen := by unfold maxLen; omega
        have hB3 := (Below.refl w2.heap.size w2).alloc (Nat.le_refl _) (.cells #[.int .i64 yk, .int .i64 yn, .int .i64 yr, .slice ya yl yc] 24)
        have hX3 := heap_alloc_new w2 (.cells #[.int .i64 yk, .int .i64 yn, .int .i64 yr, .slice ya yl yc] 24)
        obtain ⟨w3, hw3⟩ : ∃ w3, w2.alloc (.cells #[.int .i64 yk, .int .i64 yn, .int .i64 yr, .slice ya yl yc] 24) = w3 := ⟨_, rfl⟩
        rw [hw3] at hB3 hX3
        obtain ⟨k0, k1, k2, k3⟩ := rec_reads hX3
        have hNew := heap_alloc_new w3 (.cells #[.int .i64 yk, .int .i64 yn, .int .i64 yr, .slice ya yl yc] 24)
        have hB4 := (Below.refl w3.heap.size w3).alloc (Nat.le_refl _) (.cells #[.int .i64 yk, .int .i64 yn, .int .i64 yr, .slice ya yl yc] 24)
        have hB24 := hB3.trans (hB4.mono hB3.size)
        have hrc := (Keep.below hB24 (T := 24)).owns hown2
        have hbase : w.heap.size + 1 ≤ (w3.alloc (.cells #[.int .i64 yk, .int .i64 yn, .int .i64 yr, .slice ya yl yc] 24)).heap.size := by have := hB24.size; have := hi2.lt; omega
        have HPP := Lib.hid (hp.mono fun _ _ c => c.keep (.below hB24))
        have HB04 := Lib.hid (hB2.trans (hB24.mono hB2.size))
        clear hB3 hB4 hB24 hX3 hb2 hi2 hki hkr hB2 hown2 hp hfew HFL
        go_wp2_with (at_builtin; (try rw [hw3]); refine wpList_append_own _ rfl _ _ 25 rfl (w.heap.size + 1) 24 i0 (.agg #[.int .i64 0, .int .i64 0, .int .i64 0, .slice none 0 0]) 4 48 Try.underlying25 hi hz0 hz1 hz2 rfl (by decide) _ _ _ rfl hrc ⟨w3.heap.size, 0, none⟩ 1 1 (Rv.cells ⟨yk, yn, yr, ya, yl, yc⟩) rfl rfl ?f1 ?f2 ?f3 ?f4 ?f5 ?_)
        case f1 => first | exact fun j u hj => by rw [addPlain, Nat.zero_add, Lib.cell_of_heap hNew]; simpa [Rv.cells, Rv.sl] using hj
        case f2 => exact rv_one1
        case f3 => exact hrl3
        case f4 => exact hrl2
        case f5 => exact hbase
        intro v' w4 hown' hgrow _
        rw [← rvCells_one, ← rvCells_app] at hown'
        have hF := HB04.out.trans ((grown_below hbase hrc hgrow).mono (by omega))
        have HPQ := Lib.hid (MAt.fin (a := none) (m := 0) (HPP.out.mono fun _ _ c => c.keep (Keep.grown hrc hgrow (by decide))) hF HLN.out)
        have HF := Lib.hid hF
        obtain ⟨a1, c1, rfl, hra⟩ := owns_rv hown' (by simp)
        have HRA := Lib.hid hra
        clear hown' hgrow hrc hNew hF hra
        go_wp2
        go_ret
        refine ⟨a1, c1, recs ++ [⟨yk, yn, yr, ya, yl, yc⟩], ?_, HRA.out, HPQ.out, HF.out⟩
        rw [List.length_append]
        rfl
end Go.Proofs.Ytikhjofpioegbaa
