/-
  The law PenAdds: walked. (Written by mkPnZ.py.)
-/
import Derived.Test.YtlfofdgeaigpbaaPnQ
import Derived.Test.YtlfofdgeaigpbaaBn13
import Derived.Test.YtlfofdgeaigpbaaPnX
import Derived.Test.YtlfofdgeaigpbaaBn10
set_option linter.unusedSimpArgs false
set_option linter.unusedVariables false
namespace Go.Proofs.Ytlfofdgeaigpbaa
open Go.RowKit

/-- The midst of the law: a pen in block b to which ps came, an own list of records. -/
structure PAt (w wr : World) (base b : Nat) (v : Value) (cs ps : List Rv) (k : Nat) : Prop where
  below : Below w.heap.size w wr
  wb : w.heap.size ≤ b
  bb : b < base
  bs : base ≤ wr.heap.size
  pen : IsPen w wr b ps
  own : wr.ownsRow base 34 4 v cs.length (rvCells cs)
  fits : Fits w cs
  few : cs.length ≤ k
theorem PAt.same {w wr w' : World} {base b : Nat} {v : Value} {cs ps : List Rv} {k : Nat} (h : PAt w wr base b v cs ps k) (hb : Below wr.heap.size wr w') : PAt w w' base b v cs ps k :=
  ⟨h.below.trans (hb.mono h.below.size), h.wb, h.bb, Nat.le_trans h.bs hb.size, h.pen.below hb, (Keep.below hb).owns h.own, h.fits, h.few⟩
theorem PAt.add {w wr w' : World} {base b : Nat} {v : Value} {cs ps qs : List Rv} {k : Nat} (h : PAt w wr base b v cs ps k) (hb : But wr.heap.size b wr w') (hp : IsPen w w' b qs) : PAt w w' base b v cs qs k := by
  obtain ⟨ds, hd⟩ := h.pen.typ
  have hkr : Keep 34 wr w' := Keep.but hb hd (by decide)
  exact ⟨h.below.trans (hb.belowM h.below.size h.wb), h.wb, h.bb, Nat.le_trans h.bs hb.size, hp, hkr.owns h.own, h.fits, h.few⟩
theorem PAt.app {w wr w' : World} {base b : Nat} {v v' : Value} {cs ps : List Rv} {x : Rv} {k : Nat} (h : PAt w wr base b v cs ps k) (hx : Rd w x ∧ x.len ≤ 30) (hg : wr.grownBy w' v.ownBlock) (ho : w'.ownsRow base 34 4 v' (cs.length + 1) (rvCells cs ++ x.cells)) : PAt w w' base b v' (cs ++ [x]) ps (k + 1) := by
  have hs := h.below.size
  have hB : Below w.heap.size w w' := h.below.trans ⟨hg.os, hg.tape, hg.output, hg.size, fun i hi' => hg.block i (by omega) (fun e => by have := (h.own.lt i e.symm).1; have := h.bb; have := h.wb; omega)⟩
  refine ⟨hB, h.wb, h.bb, Nat.le_trans h.bs hg.size, h.pen.keep (Keep.grown h.own hg (by decide)) (Keep.grown h.own hg (by decide)), ?_, ?_, by have := h.few; simp; omega⟩
  · rw [rvCells_app, rvCells_one, List.length_append]
    exact ho
  · intro y hy
    rcases List.mem_append.1 hy with hy | hy
    · exact h.fits y hy
    · rw [List.mem_singleton] at hy
      subst hy
      exact hx
theorem PAt.less {w wr : World} {base b : Nat} {v : Value} {cs ps : List Rv} {k : Nat} (h : PAt w wr base b v cs ps k) : PAt w wr base b v cs ps (k + 1) := ⟨h.below, h.wb, h.bb, h.bs, h.pen, h.own, h.fits, Nat.le_succ_of_le h.few⟩

set_option maxHeartbeats 1000000 in
theorem penAdds_long (f : ByteArray) (a : Option Addr) (m ca : Nat) (rs : List Rv) (w : World) (hn : rs.length = m) (ha : RecAt w a rs) (hfs : f.size ≤ 9223372036854775807) (h : fewM rs 20 = false ∨ 300 < f.size) :
    Calls Try.prog 3 #[.string f, .slice a m ca] w fun e w' => e = .returned (.bool true) ∧ Below w.heap.size w w' := by
  cases hq : fewM rs 20 with
  | false =>
    have HF := Lib.hid (mgfew_any a m ca 20 rs w hn (by omega) ha false hq)
    clear ha h hq
    go_enter Try.func3, Try.ntmps3
    go_wp2_with fail
    refine HF.out.mono ?_
    rintro E w1 ⟨rfl, rfl⟩
    clear HF
    go_wp2_with fail
    refine (pnawake_any _).mono ?_
    rintro E w2 ⟨rfl, hb⟩
    go_wp2
    go_ret
    exact ⟨rfl, hb⟩
  | true =>
    have g : (300 : Int) < (f.size : Int) := by
      rcases h with h | h
      · rw [hq] at h; cases h
      · omega
    have HF := Lib.hid (mgfew_any a m ca 20 rs w hn (by omega) ha true hq)
    clear ha h hq
    go_enter Try.func3, Try.ntmps3
    go_wp2_with fail
    refine HF.out.mono ?_
    rintro E w1 ⟨rfl, rfl⟩
    clear HF
    go_wp2_with fail
    refine (pnawake_any _).mono ?_
    rintro E w2 ⟨rfl, hb⟩
    go_wp2
    go_ret
    exact ⟨rfl, hb⟩

set_option maxRecDepth 100000 in
set_option maxHeartbeats 8000000 in
theorem penAdds_few (f : List UInt8) (a : Option Addr) (m ca : Nat) (rs : List Rv) (w : World) (hn : rs.length = m) (ha : RecAt w a rs) (hrd : ∀ x ∈ rs, Rd w x) (hq : fewM rs 20 = true) (hfl : f.length ≤ 300) :
    Calls Try.prog 3 #[.string ⟨f.toArray⟩, .slice a m ca] w fun e w' => e = .returned (.bool true) ∧ Below w.heap.size w w' := by
  have HF := Lib.hid (mgfew_any a m ca 20 rs w hn (by omega) ha true hq)
  obtain ⟨hm, h30⟩ := fewM_yes hq
  have hm20 : m ≤ 20 := by omega
  have HFT : Hid (Fits w rs) := Lib.hid (fun x hx => ⟨hrd x hx, h30 x hx⟩)
  have HA := Lib.hid ha
  have HR := Lib.hid hn
  have he := hcE_ok f (by omega)
  have H1 := Lib.hid (fun W => pnnew_any w W f (by omega))
  have H2 : Hid (∀ W, Calls Try.prog 8 #[.string ⟨f.toArray⟩] W fun e W' => e = .returned (.tuple #[.string ⟨(hcB f).toArray⟩, .int .i64 0]) ∧ Below W.heap.size W W') := Lib.hid (fun W => by
    have h : Calls Try.prog 8 #[.string ⟨f.toArray⟩] W fun e W' => e = .returned (.tuple #[.string ⟨(hcP f).toArray⟩, .int .i64 (hcE f)]) ∧ Below W.heap.size W W' := rhdput_any f W (by omega)
    rw [hcP_ok f he, he] at h
    exact h)
  generalize hcB f = S at *
  have Z1 := Lib.hid (bsize f)
  have g : ¬ (300 : Int) < (f.length : Int) := by omega
  obtain ⟨i0, hi, hz0, hz1, hz2⟩ := info_parts rec_info
  have HI := Lib.hid (And.intro hi (And.intro hz0 (And.intro hz1 hz2)))
  clear ha hrd hq h30 hm he hfl hi hz0 hz1 hz2
  go_enter Try.func3, Try.ntmps3
  go_wp2_with fail
  refine HF.out.mono ?_
  rintro e w1 ⟨rfl, hw⟩
  obtain rfl := hw.symm
  clear HF hw
  go_wp2_with fail
  refine (H1.out _).mono ?_
  rintro e w2 ⟨b, rfl, hwb, hp2, hb2⟩
  have HP2 := Lib.hid (And.intro hwb (And.intro hp2 hb2))
  clear H1 hwb hp2 hb2
  go_wp2_with fail
  refine (H2.out _).mono ?_
  rintro e w3 ⟨rfl, hb3⟩
  have H0 : Hid (PAt w w3 w3.heap.size b (.slice none 0 0) [] [] 0) := Lib.hid ⟨HP2.out.2.2.trans (hb3.mono HP2.out.2.2.size), HP2.out.1, by have := HP2.out.2.1.lt; have := hb3.size; omega, Nat.le_refl _, HP2.out.2.1.below hb3, World.ownsRow_nil _ _ _ _, (fun x hx => by cases hx), Nat.le_refl _⟩
  clear H2 HP2 hb3
  generalize w3.heap.size = base at H0
  go_wp2
  go_loopw [10, 11, 12] (fun v s i wr => ∃ (k : Nat) (cs : List Rv) (u : List UInt8), k ≤ m ∧ i = .int .i64 (k : Int) ∧ s = .string ⟨u.toArray⟩ ∧ Hid (u = tdL (rvB w) (mgAll cs)) ∧ Hid (PAt w wr base b v cs cs k)) (fun _ _ i _ => m - (RowKit.intOf i).toNat)
  case atStart => exact ⟨0, [], [], Nat.zero_le _, rfl, rfl, Lib.hid rfl, H0⟩
  case round =>
    obtain ⟨k, cs, u, hk, rfl, rfl, HU, HP⟩ := hrel
    by_cases hlt : k < m
    · obtain ⟨b1, off1, x, rfl, hx, c0, c1, c2, c3⟩ := (HA.out.below HP.out.below).get (i := k) (by rw [HR.out]; exact hlt)
      have hxm := List.mem_of_getElem? hx
      have HXF := Lib.hid (HFT.out x hxm)
      have HXR := Lib.hid hx
      have u0 : (0 : Int) ≤ (k : Int) := by omega
      have u1 : (k : Int) < (m : Int) := by omega
      obtain ⟨av, cv, hv, hra⟩ := owns_rv HP.out.own rfl
      subst hv
      have HRA := Lib.hid hra
      obtain ⟨n, hcn⟩ : ∃ n, cs.length = n := ⟨_, rfl⟩
      have hn20 : n ≤ 20 := by have := HP.out.few; omega
      have HCN := Lib.hid hcn
      rw [hcn] at HP ⊢
      obtain ⟨xk, xn, xr, xa, xl, xc⟩ := x
      dsimp only at c0 c1 c2 c3
      have HADD : Hid (Calls Try.prog 9 #[.pointer (some ⟨b, 0, none⟩), .agg #[.int .i64 xk, .int .i64 xn, .int .i64 xr, .slice xa xl xc]] wr fun e W' => But wr.heap.size b wr W' ∧
          e = .returned (.tuple #[.string ⟨(if mayE (rvOk w) cs ⟨xk, xn, xr, xa, xl, xc⟩ = 0 then pnNew (rvB w) (mgAll cs) ⟨xk, xn, xr, xa, xl, xc⟩ else []).toArray⟩, .int .i64 (mayE (rvOk w) cs ⟨xk, xn, xr, xa, xl, xc⟩)]) ∧
          IsPen w W' b (if mayE (rvOk w) cs ⟨xk, xn, xr, xa, xl, xc⟩ = 0 then cs ++ [⟨xk, xn, xr, xa, xl, xc⟩] else cs)) := Lib.hid (pnadd_any HP.out.below HP.out.wb HP.out.pen (by omega) HP.out.fits HXF.out.1 HXF.out.2)
      have HMY := Lib.hid (fun (W : World) (hW : Below w.heap.size w W) (hA' : RecAt W av cs) => rpnmay_any (w := w) (W := W) (rs := cs) (a := av) (m := n) (ca := cv) hcn (by omega) hA' (k := xk) (n := xn) (r := xr) (ra := xa) (L := xl) (c := xc) (by have := HXF.out.2; dsimp only at this; omega) (rvi_row HXF.out.1).1 ((rvi_row HXF.out.1).2.below hW))
      have HST := Lib.hid (fun h => td_step (rvB w) cs ⟨xk, xn, xr, xa, xl, xc⟩ h)
      have HMZ := Lib.hid (fun h => may_yes (ok := rvOk w) (l := cs) (x := ⟨xk, xn, xr, xa, xl, xc⟩) h)
      generalize mayE (rvOk w) cs ⟨xk, xn, xr, xa, xl, xc⟩ = E at HADD HMY HMZ
      generalize pnNew (rvB w) (mgAll cs) ⟨xk, xn, xr, xa, xl, xc⟩ = t at HADD HST
      have r1 : (E == E) = true := by simp
      have r2 : (E != E) = false := by simp
      clear hx hxm hra hcn
      by_cases hE : E = 0
      · subst hE
        rw [if_pos rfl, if_pos rfl] at HADD
        have h6 := (HMZ.out rfl).1
        have hst := HST.out h6
        rw [← HU.out] at hst
        have hfw : Fits w (cs ++ [⟨xk, xn, xr, xa, xl, xc⟩]) := fun y hy => by
          rcases List.mem_append.1 hy with hy | hy
          · exact HP.out.fits y hy
          · rw [List.mem_singleton] at hy
            subst hy
            exact HXF.out
        have hut := td_few hfw (by rw [List.length_append, HCN.out]; simp; omega)
        rw [hst, List.length_append] at hut
        have HST2 := Lib.hid hst
        have hadd := pn_app u t
        have z1 : ¬ 9223372036854775807 < u.length + t.length := by omega
        have S1 := Lib.hid (bsize u)
        have S2 := Lib.hid (bsize t)
        clear h6 hst hfw hut HST HMZ
        go_wp2_with fail
        refine HADD.out.mono ?_
        rintro e w2 ⟨hb2, rfl, hp2⟩
        have HP2 := Lib.hid (HP.out.add hb2 hp2)
        have HRA2 := Lib.hid (owns_rv HP2.out.own rfl)
        have HB2 := Lib.hid hb2
        have hra2 : RecAt w2 av cs := by
          obtain ⟨ao, cap, e1, e2⟩ := HRA2.out
          rw [HCN.out] at e1
          injection e1 with e1 _ _
          rw [e1]; exact e2
        obtain ⟨b2, off2, y, e1, e2, d0, d1, d2, d3⟩ := (HA.out.below HP2.out.below).get (i := k) (by rw [HR.out]; exact hlt)
        injection e1 with e1
        injection e1 with e1 e1' _
        subst e1 e1'
        obtain rfl : y = ⟨xk, xn, xr, xa, xl, xc⟩ := by rw [HXR.out] at e2; injection e2 with e2; exact e2.symm
        dsimp only at d0 d1 d2 d3
        have M2 := Lib.hid (HMY.out w2 HP2.out.below hra2)
        clear c0 c1 c2 c3 hb2 hp2 HADD HMY hra2 e2
        go_wp2_with fail
        refine M2.out.mono ?_
        rintro e w3 ⟨rfl, hb3⟩
        have HP3 := Lib.hid (HP2.out.same hb3)
        have c0 := cells_below d0 hb3
        have c1 := cells_below d1 hb3
        have c2 := cells_below d2 hb3
        have c3 := cells_below d3 hb3
        have hNew := heap_alloc_new w3 (.cells #[.int .i64 xk, .int .i64 xn, .int .i64 xr, .slice xa xl xc] 34)
        have HP4 := Lib.hid (HP3.out.same ((Below.refl w3.heap.size w3).alloc (Nat.le_refl _) (.cells #[.int .i64 xk, .int .i64 xn, .int .i64 xr, .slice xa xl xc] 34)))
        have hown4 := HP4.out.own
        rw [HCN.out] at hown4
        have hl2 : (n + 1) * 48 ≤ 140737488355328 := by omega
        have hl3 : n + 1 ≤ maxLen := by unfold maxLen; omega
        have hbase := HP4.out.bs
        obtain ⟨hi, hz0, hz1, hz2⟩ := HI.out
        clear d0 d1 d2 d3 hb3 M2
        go_wp2_with (at_builtin; refine wpList_append_own _ rfl _ _ 22 rfl base 34 i0 (.agg #[.int .i64 0, .int .i64 0, .int .i64 0, .slice none 0 0]) 4 48 Try.underlying22 hi hz0 hz1 hz2 rfl (by decide) _ _ _ rfl hown4 ⟨w3.heap.size, 0, none⟩ 1 1 (Rv.cells ⟨xk, xn, xr, xa, xl, xc⟩) rfl rfl ?n1 ?n2 ?n3 ?n4 ?n5 ?_)
        case n1 => exact fun j u hj => by rw [addPlain, Nat.zero_add, Lib.cell_of_heap hNew]; simpa [Rv.cells, Rv.sl] using hj
        case n2 => exact rv_one1
        case n3 => exact hl3
        case n4 => exact hl2
        case n5 => exact hbase
        intro v5 w5 hown5 hgrow _
        rw [← HCN.out] at hown5
        have HP5 := Lib.hid (HP4.out.app HXF.out hgrow hown5)
        clear hown4 hown5 hgrow hNew hi hz0 hz1 hz2 c0 c1 c2 c3 hbase
        obtain ⟨a5, c5, hv5, hra5⟩ := owns_rv HP5.out.own rfl
        have hl5 : (cs ++ [(⟨xk, xn, xr, xa, xl, xc⟩ : Rv)]).length = n + 1 := by rw [List.length_append, HCN.out]; rfl
        rw [hl5] at hv5
        subst hv5
        have HT5 : Hid (Calls Try.prog 11 #[.slice a5 (n + 1) c5] w5 fun e W' => e = .returned (.string ⟨(u ++ t).toArray⟩) ∧ Below w5.heap.size w5 W') := Lib.hid (by
          have h := rpntold_any (w := w) (W := w5) HP5.out.below (a := a5) (m := n + 1) (ca := c5) hl5 (by omega) hra5 HP5.out.fits
          rw [HST2.out] at h
          exact h)
        obtain ⟨U, hU⟩ : ∃ U, u ++ t = U := ⟨_, rfl⟩
        have HU2 : Hid (U = tdL (rvB w) (mgAll (cs ++ [(⟨xk, xn, xr, xa, xl, xc⟩ : Rv)]))) := Lib.hid (hU.symm.trans HST2.out.symm)
        rw [hU] at HT5 hadd
        have HRA5 := Lib.hid hra5
        have HK := Lib.hid (lastK_snoc cs (⟨xk, xn, xr, xa, xl, xc⟩ : Rv))
        have HIX : Hid ((cs ++ [(⟨xk, xn, xr, xa, xl, xc⟩ : Rv)])[n]? = some ⟨xk, xn, xr, xa, xl, xc⟩) := Lib.hid (by rw [← HCN.out]; simp)
        have HL5 := Lib.hid hl5
        have v0 : (0 : Int) ≤ (n : Int) := by omega
        have v1 : (n : Int) < (n : Int) + 1 := by omega
        have r3 : (U == U) = true := by simp
        have r4 : (U != U) = false := by simp
        clear hU hra5 hl5 HST2 HRA HRA2 HP HP2 HP3 HP4 HU H0 HB2
        go_wp2_with fail
        refine HT5.out.mono ?_
        rintro e w6 ⟨rfl, hb6⟩
        have HP6 := Lib.hid (HP5.out.same hb6)
        have HE6 := Lib.hid (pnended_any HP6.out.pen)
        try dsimp only at HK
        obtain ⟨b6, off6, y, rfl, hy, y0, y1, y2, y3⟩ := (HRA5.out.below hb6).get (i := n) (by rw [HL5.out]; omega)
        obtain rfl : y = ⟨xk, xn, xr, xa, xl, xc⟩ := by rw [HIX.out] at hy; injection hy with hy; exact hy.symm
        dsimp only at y0
        rw [HK.out] at HE6
        have HQ : Hid ((xk == 6) = decide (xk = 6)) := Lib.hid (by by_cases h : xk = 6 <;> simp [h])
        generalize decide (xk = 6) = qb at HE6 HQ
        have r5 : (qb == qb) = true := by simp
        have r6 : (qb != qb) = false := by simp
        have r7 := HQ.out
        clear y1 y2 y3 hy hb6 HT5 HRA5
        go_wp2_with fail
        refine HE6.out.mono ?_
        rintro e w7 ⟨rfl, q7, rfl⟩
        have HP7 : Hid (PAt w (w6.drewN q7) base b (.slice (some ⟨b6, off6, none⟩) (n + 1) c5) (cs ++ [⟨xk, xn, xr, xa, xl, xc⟩]) (cs ++ [⟨xk, xn, xr, xa, xl, xc⟩]) (k + 1)) := Lib.hid (HP6.out.same (below_drewS (Below.refl _ _) q7))
        clear HE6 HP6 HP5
        go_wp2
        exact ⟨⟨k + 1, _, U, by omega, by go_num, rfl, HU2, HP7⟩, by simp [RowKit.intOf]; omega⟩
      · have g1 : (E == 0) = false := by simpa using hE
        have g2 : (E != 0) = true := by simpa using hE
        rw [if_neg hE, if_neg hE] at HADD
        have hut := td_few HP.out.fits (by rw [HCN.out]; omega)
        rw [← HU.out] at hut
        have hadd := pn_app u []
        rw [List.append_nil] at hadd
        have hadd' : (⟨u.toArray⟩ : ByteArray) ++ (⟨#[]⟩ : ByteArray) = ⟨u.toArray⟩ := hadd
        have z1 : ¬ 9223372036854775807 < u.length := by omega
        have S1 := Lib.hid (bsize u)
        clear hut HST HMZ hE
        go_wp2_with fail
        refine HADD.out.mono ?_
        rintro e w2 ⟨hb2, rfl, hp2⟩
        have HP2 := Lib.hid (HP.out.add hb2 hp2)
        have HRA2 := Lib.hid (owns_rv HP2.out.own rfl)
        have hra2 : RecAt w2 av cs := by
          obtain ⟨ao, cap, e1, e2⟩ := HRA2.out
          rw [HCN.out] at e1
          injection e1 with e1 _ _
          rw [e1]; exact e2
        obtain ⟨b2, off2, y, e1, e2, d0, d1, d2, d3⟩ := (HA.out.below HP2.out.below).get (i := k) (by rw [HR.out]; exact hlt)
        injection e1 with e1
        injection e1 with e1 e1' _
        subst e1 e1'
        obtain rfl : y = ⟨xk, xn, xr, xa, xl, xc⟩ := by rw [HXR.out] at e2; injection e2 with e2; exact e2.symm
        dsimp only at d0 d1 d2 d3
        have M2 := Lib.hid (HMY.out w2 HP2.out.below hra2)
        clear c0 c1 c2 c3 hb2 hp2 HADD HMY hra2 e2
        go_wp2_with fail
        refine M2.out.mono ?_
        rintro e w5 ⟨rfl, hb3⟩
        have HP5 := Lib.hid (HP2.out.same hb3).less
        clear d0 d1 d2 d3 hb3 M2
        rcases mg_cases cs with rfl | ⟨o, y, rfl⟩
        · obtain rfl : n = 0 := HCN.out.symm
          have HT5 : Hid (Calls Try.prog 11 #[.slice av 0 cv] w5 fun e W' => e = .returned (.string ⟨u.toArray⟩) ∧ Below w5.heap.size w5 W') := Lib.hid (by
            have h := rpntold_any (w := w) (W := w5) HP5.out.below (rs := []) (a := av) (m := 0) (ca := cv) rfl (by omega) (.inl rfl) HP5.out.fits
            rw [← HU.out] at h
            exact h)
          have r3 : (u == u) = true := by simp
          have r4 : (u != u) = false := by simp
          clear HRA HRA2 HP HP2 H0
          go_wp2_with fail
          refine HT5.out.mono ?_
          rintro e w6 ⟨rfl, hb6⟩
          have HP6 := Lib.hid (HP5.out.same hb6)
          have HE6 : Hid (Calls Try.prog 12 #[.pointer (some ⟨b, 0, none⟩)] w6 fun e W' => e = .returned (.bool false) ∧ ∃ q, W' = w6.drewN q) := Lib.hid (pnended_any HP6.out.pen)
          clear hb6 HT5 HP5
          go_wp2_with fail
          refine HE6.out.mono ?_
          rintro e w7 ⟨rfl, q7, rfl⟩
          have HP7 : Hid (PAt w (w6.drewN q7) base b (.slice av 0 cv) [] [] (k + 1)) := Lib.hid (HP6.out.same (below_drewS (Below.refl _ _) q7))
          clear HE6 HP6
          go_wp2
          exact ⟨⟨k + 1, [], u, by omega, by go_num, rfl, HU, HP7⟩, by simp [RowKit.intOf]; omega⟩
        · obtain ⟨p, rfl⟩ : ∃ p, n = p + 1 := ⟨n - 1, by have := HCN.out; simp at this; omega⟩
          have hra5 : RecAt w5 av (o ++ [y]) := by
            obtain ⟨ao, cap, e1, e2⟩ := owns_rv HP5.out.own rfl
            rw [HCN.out] at e1
            injection e1 with e1 _ _
            rw [e1]; exact e2
          have HT5 : Hid (Calls Try.prog 11 #[.slice av (p + 1) cv] w5 fun e W' => e = .returned (.string ⟨u.toArray⟩) ∧ Below w5.heap.size w5 W') := Lib.hid (by
            have h := rpntold_any (w := w) (W := w5) HP5.out.below (rs := o ++ [y]) (a := av) (m := p + 1) (ca := cv) HCN.out (by omega) hra5 HP5.out.fits
            rw [← HU.out] at h
            exact h)
          have HRA5 := Lib.hid hra5
          have HIX : Hid ((o ++ [y])[p]? = some y) := Lib.hid (by
            have h : o.length = p := by have := HCN.out; simp at this; omega
            rw [← h]; simp)
          have HK := Lib.hid (lastK_snoc o y)
          have v0 : (0 : Int) ≤ (p : Int) := by omega
          have v1 : (p : Int) < (p : Int) + 1 := by omega
          have r3 : (u == u) = true := by simp
          have r4 : (u != u) = false := by simp
          clear hra5 HRA HRA2 HP HP2 H0
          go_wp2_with fail
          refine HT5.out.mono ?_
          rintro e w6 ⟨rfl, hb6⟩
          have HP6 := Lib.hid (HP5.out.same hb6)
          have HE6 := Lib.hid (pnended_any HP6.out.pen)
          obtain ⟨b6, off6, ⟨yk, yn, yr, ya, yl, yc⟩, rfl, hy, y0, y1, y2, y3⟩ := (HRA5.out.below hb6).get (i := p) (by rw [HCN.out]; omega)
          obtain rfl : y = ⟨yk, yn, yr, ya, yl, yc⟩ := by rw [HIX.out] at hy; injection hy with hy
          dsimp only at y0
          try dsimp only at HK
          rw [HK.out] at HE6
          have HQ : Hid ((yk == 6) = decide (yk = 6)) := Lib.hid (by by_cases h : yk = 6 <;> simp [h])
          generalize decide (yk = 6) = qb at HE6 HQ
          have r5 : (qb == qb) = true := by simp
          have r6 : (qb != qb) = false := by simp
          have r7 := HQ.out
          clear y1 y2 y3 hy hb6 HT5 HRA5
          go_wp2_with fail
          refine HE6.out.mono ?_
          rintro e w7 ⟨rfl, q7, rfl⟩
          have HP7 : Hid (PAt w (w6.drewN q7) base b (.slice (some ⟨b6, off6, none⟩) (p + 1) cv) (o ++ [⟨yk, yn, yr, ya, yl, yc⟩]) (o ++ [⟨yk, yn, yr, ya, yl, yc⟩]) (k + 1)) := Lib.hid (HP6.out.same (below_drewS (Below.refl _ _) q7))
          clear HE6 HP6 HP5
          go_wp2
          exact ⟨⟨k + 1, _, u, by omega, by go_num, rfl, HU, HP7⟩, by simp [RowKit.intOf]; omega⟩
    · obtain rfl : k = m := by omega
      have u1 : ¬ (k : Int) < (k : Int) := by omega
      have HB := Lib.hid HP.out.below
      clear HP HU
      go_wp2_with fail
      refine (pnskip_any 1 _).mono ?_
      rintro e w2 ⟨rfl, hb2⟩
      have HB2 := Lib.hid (HB.out.trans (hb2.mono HB.out.size))
      clear hb2
      go_wp2_with fail
      refine (pnadd_nil _ _ _ _ _ _ _).mono ?_
      rintro e w3 ⟨rfl, hb3⟩
      have HB3 := Lib.hid (HB2.out.trans (hb3.mono HB2.out.size))
      clear hb3
      go_wp2_with fail
      refine (pnended_nil _).mono ?_
      rintro e w4 ⟨rfl, hw⟩
      obtain rfl := hw.symm
      clear hw
      go_wp2_with fail
      refine (pnawake_any _).mono ?_
      rintro e w5 ⟨rfl, hb5⟩
      have HB5 := Lib.hid (HB3.out.trans (hb5.mono HB3.out.size))
      clear hb5
      go_wp2
      go_ret
      exact ⟨rfl, HB5.out⟩

theorem penAdds_walk (f : ByteArray) (a : Option Addr) (m ca : Nat) (rs : List Rv) (w : World) (hn : rs.length = m) (ha : RecAt w a rs) (hrd : ∀ x ∈ rs, Rd w x) (hfs : f.size ≤ 9223372036854775807) :
    Calls Try.prog 3 #[.string f, .slice a m ca] w fun e w' => e = .returned (.bool true) ∧ Below w.heap.size w w' := by
  by_cases h : fewM rs 20 = false ∨ 300 < f.size
  · exact penAdds_long f a m ca rs w hn ha hfs h
  · have e1 := Lib.size_eq f
    have b1 : f = ⟨f.data.toList.toArray⟩ := by simp
    have hq : fewM rs 20 = true := by
      cases hq : fewM rs 20 with
      | true => rfl
      | false => exact absurd (.inl hq) h
    have h3 : ¬ 300 < f.size := fun h' => h (.inr h')
    rw [b1]
    exact penAdds_few f.data.toList a m ca rs w hn ha hrd hq (by omega)
end Go.Proofs.Ytlfofdgeaigpbaa
