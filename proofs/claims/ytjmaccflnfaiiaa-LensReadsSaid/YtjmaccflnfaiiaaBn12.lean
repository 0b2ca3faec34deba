/-
  Texts put together: LnA, LnV, SameI, MgSm, MgS, MgRn, LnK, LnX.
-/
import Derived.Test.YtjmaccflnfaiiaaLnU
import Derived.BigQuiet
import Derived.Test.YtjmaccflnfaiiaaLnH
import Derived.Test.YtjmaccflnfaiiaaBn11
import Derived.Test.YtjmaccflnfaiiaaMgQ
import Derived.Test.YtjmaccflnfaiiaaBn4
import Derived.Test.YtjmaccflnfaiiaaBn7
import Derived.Test.YtjmaccflnfaiiaaBn5
import Derived.Deep.RegionWith
set_option linter.unusedSimpArgs false
set_option linter.unusedVariables false
namespace Go.Proofs.Ytjmaccflnfaiiaa
open Go.RowKit

/-- Next of any state. -/
theorem lnnext_ref {W : World} (L : List Rn) (t : List UInt8) (cl : Bool) (y : Int) {a : Option Addr} {m c : Nat} (h : LnAt W L a m c) (hm : m ≤ 1000) (ht : t.length ≤ 1000000000) :
    Calls Try.prog 12 #[.agg #[.slice a m c, .string ⟨t.toArray⟩, .bool cl, .int .i64 y]] W (RetLn ⟨L, t, cl, y⟩ W) := by
  by_cases hw : y ≠ 0 ∨ (lnLast L).k = 6
  · exact lnnext_stop L t cl y h hm ht hw
  · have hy : y = 0 := by
      by_cases h : y = 0
      · exact h
      · exact absurd (.inl h) hw
    have h6 : (lnLast L).k ≠ 6 := fun g => hw (.inr g)
    subst hy
    by_cases he : (tkR t).e = 0
    · exact lnnext_good L t cl h hm ht h6 he
    · exact lnnext_bad L t cl h hm ht h6 he

/-- How many bytes are left of a state in memory. -/
def lnLeft (w : World) (b : Nat) : Nat := match w.cell? ⟨b, 1, none⟩ with | some (.string s) => s.size | _ => 0
theorem lnleft_of {w : World} {b : Nat} {T : TypeId} {x0 x2 x3 : Value} {r : List UInt8} (h : w.heap[b]? = some (.cells #[x0, .string ⟨r.toArray⟩, x2, x3] T (0, 0))) : lnLeft w b = r.length := by
  unfold lnLeft
  rw [show w.cell? ⟨b, 1, none⟩ = some (.string ⟨r.toArray⟩) by rw [Lib.cell_of_heap h]; rfl]
  exact bsize r
/-- What All tells. -/
def lnOut (s : LnS) : List Rn := if s.e = 0 then s.read else []
def RetLa (t : List UInt8) (W : World) (e : Ending) (W' : World) : Prop := ∃ a m c, e = .returned (.tuple #[.slice a m c, .int .i64 (lnAll t).e]) ∧ LnAt W' (lnOut (lnAll t)) a m c ∧ Below W.heap.size W W'

set_option maxRecDepth 100000 in
set_option maxHeartbeats 4000000 in
theorem lnall_ref (t : List UInt8) (W : World) (ht : t.length ≤ 1000) : Calls Try.prog 18 #[.string ⟨t.toArray⟩] W (RetLa t W) := by
  have hX1 := heap_alloc_new W (.cells #[.slice none 0 0, .string ⟨t.toArray⟩, .bool true, .int .i64 0] 31)
  have hB1 := (Below.refl W.heap.size W).alloc (Nat.le_refl _) (.cells #[.slice none 0 0, .string ⟨t.toArray⟩, .bool true, .int .i64 0] 31)
  have HX1 := Lib.hid hX1
  have HB1 := Lib.hid hB1
  have HA1 := Lib.hid (LnAt.start (W.alloc (.cells #[.slice none 0 0, .string ⟨t.toArray⟩, .bool true, .int .i64 0] 31)))
  clear hX1 hB1
  go_enter Try.func18, Try.ntmps18
  go_wp2
  go_loopw [] (fun wr => ∃ (L : List Rn) (r : List UInt8) (a : Option Addr) (m c : Nat), Hid (wr.heap[W.heap.size]? = some (.cells #[.slice a m c, .string ⟨r.toArray⟩, .bool true, .int .i64 0] 31 (0, 0))) ∧ Hid (LnAt wr L a m c) ∧ Hid (LnC [] L ∧ L.length + r.length ≤ t.length ∧ lnRun (r.length + 1) ⟨L, r, true, 0⟩ = lnAll t) ∧ Below W.heap.size W wr) (fun wx => lnLeft wx W.heap.size)
  case atStart => exact ⟨[], t, none, 0, 0, HX1, HA1, Lib.hid ⟨trivial, by simp, rfl⟩, HB1.out⟩
  case round =>
    obtain ⟨L, r, a, m, c, HX, HA, HI, hbe⟩ := hrel
    have HBe := Lib.hid hbe
    obtain ⟨c0, c1, c2, c3⟩ := rec_reads HX.out
    have HLeft := Lib.hid (lnleft_of HX.out)
    have hml : m ≤ 1000 := by have h1 := HA.out.1; have h2 := HI.out.2.1; omega
    have HN := Lib.hid (lnnext_ref L r true 0 HA.out hml (by have := HI.out.2.1; omega))
    unfold RetLn at HN
    have HLn := Lib.hid (fun h => ln_keep (s := ⟨L, r, true, 0⟩) h HI.out.1)
    have HTd := Lib.hid (fun h => congrArg (fun q => q.1.read.length) (ln_told (s := ⟨L, r, true, 0⟩) h))
    have HRy := Lib.hid (fun h => lnrun_yes (n := r.length) (s := ⟨L, r, true, 0⟩) h)
    have HRn := Lib.hid (fun h => lnrun_no (n := r.length) (s := ⟨L, r, true, 0⟩) h)
    generalize lnNext ⟨L, r, true, 0⟩ = q at HN HLn HTd HRy HRn
    obtain ⟨⟨L', r', cl', y'⟩, β⟩ := q
    dsimp only at HN HLn HTd HRy HRn
    clear hbe
    cases β with
    | true =>
      obtain ⟨k1, k2, k3, rfl, rfl⟩ := HLn.out rfl
      have hll : L'.length = L.length + 1 := by
        have h := HTd.out rfl
        rw [h]
        simp
      have HI2 : Hid (LnC [] L' ∧ L'.length + r'.length ≤ t.length ∧ lnRun (r'.length + 1) ⟨L', r', true, 0⟩ = lnAll t) := Lib.hid ⟨k1, by have := HI.out.2.1; omega, by
        rw [← HI.out.2.2, HRy.out rfl]
        exact lnrun_fuel _ _ _ (by show r'.length < _; omega) (by show r'.length < _; omega) k1⟩
      have HK3 := Lib.hid k3
      clear HLn HTd HRy HRn k1 k2 k3 hll
      go_wp2_with fail
      refine HN.out.mono ?_
      rintro e w2 ⟨a2, c2', rfl, hat, hb⟩
      obtain ⟨m2, hm2⟩ : ∃ m2, L'.length = m2 := ⟨_, rfl⟩
      rw [hm2] at hat
      have hX2 := (hb.block _ (heap_lt HX.out)).trans HX.out
      have hXn := heap_alloc_new w2 (.cells #[.slice a2 m2 c2', .string ⟨r'.toArray⟩, .bool true, .int .i64 0] 31)
      have hBn := (Below.refl w2.heap.size w2).alloc (Nat.le_refl _) (.cells #[.slice a2 m2 c2', .string ⟨r'.toArray⟩, .bool true, .int .i64 0] 31)
      have hX3 := (hBn.block _ (heap_lt hX2)).trans hX2
      obtain ⟨f0, f1, f2, f3⟩ := rec_free hX3
      obtain ⟨e0, e1, e2, e3⟩ := rec_reads hX3
      obtain ⟨d0, d1, d2, d3⟩ := rec_reads hXn
      have HX4 := Lib.hid (put_rec hX3 (.slice a2 m2 c2') (.string ⟨r'.toArray⟩) (.bool true) (.int .i64 0))
      have HB3 := Lib.hid (HBe.out.trans ((hb.trans (hBn.mono hb.size)).mono HBe.out.size))
      have HB4 := Lib.hid (below_rec HB3.out (r := W.heap.size) (Nat.le_refl _) (.slice a2 m2 c2') (.string ⟨r'.toArray⟩) (.bool true) (.int .i64 0))
      have hI := lninto4 (w2.alloc (.cells #[.slice a2 m2 c2', .string ⟨r'.toArray⟩, .bool true, .int .i64 0] 31)) W.heap.size (.slice a2 m2 c2') (.string ⟨r'.toArray⟩) (.bool true) (.int .i64 0)
      have HA4 := Lib.hid ((hat.below hBn).keep (Keep.into hI hX3 (by decide)) (Keep.into hI hX3 (by decide)))
      have HM2 := Lib.hid hm2
      clear hat hb hX2 hXn hBn hX3 hI HN HA c0 c1 c2 c3
      rw [hm2]
      clear hm2
      go_wp2
      exact ⟨⟨L', r', a2, m2, c2', HX4, HA4, HI2, HB4.out⟩, by rw [lnleft_of HX4.out, HLeft.out]; exact HK3.out⟩
    | false =>
      have hfin := (HI.out.2.2).symm.trans (HRn.out rfl)
      have hfe : (lnAll t).e = y' := by rw [hfin]
      have HFE := Lib.hid hfe
      have HFO : Hid (y' = 0 → lnOut (lnAll t) = L') := Lib.hid (fun h => by unfold lnOut; rw [hfin]; exact if_pos h)
      have HFN : Hid (y' ≠ 0 → lnOut (lnAll t) = []) := Lib.hid (fun h => by unfold lnOut; rw [hfin]; exact if_neg h)
      clear HLn HTd HRy HRn hfin hfe
      go_wp2_with fail
      refine HN.out.mono ?_
      rintro e w2 ⟨a2, c2', rfl, hat, hb⟩
      obtain ⟨m2, hm2⟩ : ∃ m2, L'.length = m2 := ⟨_, rfl⟩
      rw [hm2] at hat ⊢
      clear hm2
      have hXn := heap_alloc_new w2 (.cells #[.slice a2 m2 c2', .string ⟨r'.toArray⟩, .bool cl', .int .i64 y'] 31)
      have hBn := (Below.refl w2.heap.size w2).alloc (Nat.le_refl _) (.cells #[.slice a2 m2 c2', .string ⟨r'.toArray⟩, .bool cl', .int .i64 y'] 31)
      obtain ⟨d0, d1, d2, d3⟩ := rec_reads hXn
      have HB3 := Lib.hid (HBe.out.trans ((hb.trans (hBn.mono hb.size)).mono HBe.out.size))
      have HA3 := Lib.hid (hat.below hBn)
      clear hat hb hXn hBn HN HA c0 c1 c2 c3
      by_cases hy : y' = 0
      · subst hy
        have HO := Lib.hid (HFO.out rfl)
        clear HFO HFN
        go_wp2
        go_ret2
        exact ⟨a2, m2, c2', by rw [HFE.out]; rfl, by rw [HO.out]; exact HA3.out, HB3.out⟩
      · have HO := Lib.hid (HFN.out hy)
        have gy : (y' == 0) = false := by simpa using hy
        have gy2 : (y' != 0) = true := by simpa using hy
        clear HFO HFN hy
        go_wp2_with fail
        go_quiet (fail)
        go_wp2
        go_ret2
        exact ⟨none, 0, 0, by rw [HFE.out]; rfl, by rw [HO.out]; exact LnAt.start _, HB3.out.trans ((below_drewS (Below.refl _ _) _).mono HB3.out.size)⟩
end Go.Proofs.Ytjmaccflnfaiiaa

namespace Go.Proofs.Ytjmaccflnfaiiaa
open Go.RowKit

/-- How many are in a slice. -/
def lnLen : Value → Nat
  | .slice _ n _ => n
  | _ => 0
/-- The midst of it: the lens, what was told. -/
structure LnGo (W wr : World) (B b : Nat) (t : List UInt8) (L : List Rn) (r : List UInt8) (v : Value) : Prop where
  lens : IsLn wr B b ⟨L, r, true, 0⟩
  list : ∃ rs, wr.ownsRow W.heap.size 34 4 v L.length (rvCells rs) ∧ Says wr rs L
  run : LnC [] L ∧ L.length + r.length ≤ t.length ∧ lnRun (r.length + 1) ⟨L, r, true, 0⟩ = lnAll t
  below : Below B W wr
theorem LnGo.len {W wr : World} {B b : Nat} {t : List UInt8} {L : List Rn} {r : List UInt8} {v : Value} (h : LnGo W wr B b t L r v) : lnLen v = L.length := by
  obtain ⟨rs, ho, _⟩ := h.list
  rcases owns_form ho with ⟨h0, hv⟩ | ⟨g, cap, hv⟩
  · rw [hv, h0]; rfl
  · rw [hv]; rfl

set_option maxRecDepth 100000 in
set_option maxHeartbeats 4000000 in
theorem lneach_any {W : World} {B b : Nat} (t : List UInt8) (ht : t.length ≤ 1000000) (h : IsLn W B b ⟨[], t, true, 0⟩) :
    Calls Try.prog 33 #[.func (.func 11) #[.pointer (some ⟨b, 0, none⟩)] #[]] W fun e W' => ∃ a m c, e = .returned (.tuple #[.slice a m c, .int .i64 (lnAll t).e]) ∧ LnAt W' (lnOut (lnAll t)) a m c ∧ Below B W W' := by
  obtain ⟨i0, hi, hz0, hz1, hz2⟩ := info_parts rec_info
  have hBW := h.base
  have H0 : Hid (LnGo W W B b t [] t (.slice none 0 0)) := Lib.hid ⟨h, ⟨[], ⟨rfl, .inl ⟨rfl, rfl⟩⟩, Says.nil W⟩, ⟨trivial, by simp, rfl⟩, Below.refl _ _⟩
  clear h
  go_enter Try.func33, Try.ntmps33
  go_wp2
  go_loopw [4] (fun v wr => ∃ (L : List Rn) (r : List UInt8), Hid (LnGo W wr B b t L r v)) (fun v _ => t.length + 1 - lnLen v)
  case atStart => exact ⟨[], t, H0⟩
  case round =>
    obtain ⟨L, r, HG⟩ := hrel
    have HN := Lib.hid (lnnext_any HG.out.lens (by have := HG.out.run.2.1; show r.length ≤ 1000000; omega))
    have HLn := Lib.hid (fun h => ln_keep (s := ⟨L, r, true, 0⟩) h HG.out.run.1)
    have HTd := Lib.hid (fun h => congrArg (fun q => q.1.read) (ln_told (s := ⟨L, r, true, 0⟩) h))
    have HRy := Lib.hid (fun h => lnrun_yes (n := r.length) (s := ⟨L, r, true, 0⟩) h)
    have HRn := Lib.hid (fun h => lnrun_no (n := r.length) (s := ⟨L, r, true, 0⟩) h)
    have HNt := Lib.hid (fun h => (ln_not (s := ⟨L, r, true, 0⟩) h).1)
    generalize lnNext ⟨L, r, true, 0⟩ = q at HN HLn HTd HRy HRn HNt
    obtain ⟨⟨L', r', cl', y'⟩, β⟩ := q
    dsimp only at HN HLn HTd HRy HRn HNt
    go_wp2_with fail
    refine HN.out.mono ?_
    rintro e w2 ⟨⟨xk, xn, xr, xa, xl, xc⟩, rfl, hsay, hln2, hk2⟩
    obtain ⟨rs, ho, hss⟩ := HG.out.list
    have ho2 := hk2.2.2.1.owns ho
    have hs2 := hss.keep hk2.2.1
    have hb2 := HG.out.below.trans hk2.1
    have hBx := (Below.refl w2.heap.size w2).alloc (Nat.le_refl _) (.cells #[.int .i64 xk, .int .i64 xn, .int .i64 xr, .slice xa xl xc] 34)
    have hXx := heap_alloc_new w2 (.cells #[.int .i64 xk, .int .i64 xn, .int .i64 xr, .slice xa xl xc] 34)
    have hbx : Below B W (w2.alloc (.cells #[.int .i64 xk, .int .i64 xn, .int .i64 xr, .slice xa xl xc] 34)) := hb2.trans (hBx.mono (by have := hln2.base; omega))
    have ho3 := (Keep.below hBx (T := 34)).owns ho2
    have hs3 := hs2.below hBx
    have HLn3 := Lib.hid (hln2.below hBx)
    cases β with
    | false =>
      have hfin := (HG.out.run.2.2).symm.trans (HRn.out rfl)
      have hfe : (lnAll t).e = y' := by rw [hfin]
      have HFE := Lib.hid hfe
      have e1 : L' = L := HNt.out rfl
      subst e1
      have HFO : Hid (y' = 0 → lnOut (lnAll t) = L') := Lib.hid (fun h => by unfold lnOut; rw [hfin]; exact if_pos h)
      have HFN : Hid (y' ≠ 0 → lnOut (lnAll t) = []) := Lib.hid (fun h => by unfold lnOut; rw [hfin]; exact if_neg h)
      have hlr : rs.length = L'.length := hss.1
      obtain ⟨a9, c9, hv, _⟩ := owns_rvc ho3 hlr
      subst hv
      have HA3 : Hid (LnAt (w2.alloc (.cells #[.int .i64 xk, .int .i64 xn, .int .i64 xr, .slice xa xl xc] 34)) L' a9 L'.length c9) := Lib.hid ⟨rfl, rs, ⟨_, ho3⟩, hs3⟩
      have HB3 := Lib.hid hbx
      obtain ⟨m9, hm9⟩ : ∃ m9, L'.length = m9 := ⟨_, rfl⟩
      rw [hm9] at HA3 ⊢
      clear HLn HTd HRy HRn HNt hfin hfe hlr ho ho2 ho3 hss hs2 hs3 hb2 hbx hXx hBx hk2 hln2 hsay HN HG hm9
      by_cases hy : y' = 0
      · subst hy
        have HO := Lib.hid (HFO.out rfl)
        clear HFO HFN
        go_wp2
        go_ret2
        exact ⟨a9, m9, c9, by rw [HFE.out]; rfl, by rw [HO.out]; exact HA3.out, HB3.out⟩
      · have HO := Lib.hid (HFN.out hy)
        have gy : (y' == 0) = false := by simpa using hy
        have gy2 : (y' != 0) = true := by simpa using hy
        clear HFO HFN hy
        go_wp2
        go_ret2
        exact ⟨none, 0, 0, by rw [HFE.out]; rfl, by rw [HO.out]; exact LnAt.start _, HB3.out⟩
    | true =>
      obtain ⟨k1, k2, k3, rfl, rfl⟩ := HLn.out rfl
      have htd := HTd.out rfl
      have hll : L'.length = L.length + 1 := by rw [htd]; simp
      rw [if_pos rfl] at hsay
      have hx3 := hsay.below hBx
      rw [htd, lnl_snoc] at hx3
      have HSx := Lib.hid hx3
      have HTl := Lib.hid htd
      have HI2 : Hid (LnC [] L' ∧ L'.length + r'.length ≤ t.length ∧ lnRun (r'.length + 1) ⟨L', r', true, 0⟩ = lnAll t) := Lib.hid ⟨k1, by have := HG.out.run.2.1; omega, by
        rw [← HG.out.run.2.2, HRy.out rfl]
        exact lnrun_fuel _ _ _ (by show r'.length < _; omega) (by show r'.length < _; omega) k1⟩
      have hlr : rs.length = L.length := hss.1
      have HLr := Lib.hid hlr
      have HS3 := Lib.hid hs3
      have HB3 := Lib.hid hbx
      obtain ⟨c0, c1, c2, c3⟩ := rec_reads hXx
      have hNew := heap_alloc_new (w2.alloc (.cells #[.int .i64 xk, .int .i64 xn, .int .i64 xr, .slice xa xl xc] 34)) (.cells #[.int .i64 xk, .int .i64 xn, .int .i64 xr, .slice xa xl xc] 34)
      have hB4 := (Below.refl (w2.alloc (.cells #[.int .i64 xk, .int .i64 xn, .int .i64 xr, .slice xa xl xc] 34)).heap.size (w2.alloc (.cells #[.int .i64 xk, .int .i64 xn, .int .i64 xr, .slice xa xl xc] 34))).alloc (Nat.le_refl _) (.cells #[.int .i64 xk, .int .i64 xn, .int .i64 xr, .slice xa xl xc] 34)
      have hrc := (Keep.below hB4 (T := 34)).owns ho3
      have HLn4 := Lib.hid (HLn3.out.below hB4)
      have hbase : W.heap.size ≤ ((w2.alloc (.cells #[.int .i64 xk, .int .i64 xn, .int .i64 xr, .slice xa xl xc] 34)).alloc (.cells #[.int .i64 xk, .int .i64 xn, .int .i64 xr, .slice xa xl xc] 34)).heap.size := Nat.le_trans hbx.size hB4.size
      rw [show (w2.alloc (.cells #[.int .i64 xk, .int .i64 xn, .int .i64 xr, .slice xa xl xc] 34)).heap.size = w2.heap.size + 1 by simp] at hNew
      have HB4 := Lib.hid hB4
      have HVl := Lib.hid HG.out.len
      obtain ⟨a9, c9, hv, _⟩ := owns_rvc hrc hlr
      subst hv
      obtain ⟨m9, hm9⟩ : ∃ m9, L.length = m9 := ⟨_, rfl⟩
      have hLl : m9 ≤ 1000000 := by have := HG.out.run.2.1; omega
      have hrl3 : m9 + 1 ≤ maxLen := by unfold maxLen; omega
      have hrl2 : (m9 + 1) * 48 ≤ 140737488355328 := by omega
      have HM9 := Lib.hid hm9
      have HO3 := Lib.hid ho3
      rw [hm9] at HO3
      have HLL := Lib.hid hll
      have HLe := Lib.hid HG.out.run.2.1
      rw [hm9] at hrc ⊢
      clear HLn HTd HRy HRn HNt k1 k2 k3 htd hx3 hlr ho ho2 ho3 hss hs2 hs3 hb2 hbx hXx hBx hk2 hln2 hsay HN hB4 hm9 hll HG
      go_wp2_with (at_builtin; refine wpList_append_own _ rfl _ _ 28 rfl W.heap.size 34 i0 (.agg #[.int .i64 0, .int .i64 0, .int .i64 0, .slice none 0 0]) 4 48 Try.underlying28 hi hz0 hz1 hz2 rfl (by decide) _ _ _ rfl hrc ⟨w2.heap.size + 1, 0, none⟩ 1 1 (Rv.cells ⟨xk, xn, xr, xa, xl, xc⟩) rfl rfl ?n1 ?n2 ?n3 ?n4 ?n5 ?_)
      case n1 => exact fun j u hj => by rw [addPlain, Nat.zero_add, Lib.cell_of_heap hNew]; simpa [Rv.cells, Rv.sl] using hj
      case n2 => exact rv_one1
      case n3 => exact hrl3
      case n4 => exact hrl2
      case n5 => exact hbase
      intro v' w9 hown' hgrow _
      rw [← rvCells_one, ← rvCells_app] at hown'
      have hkO := Other.grown HO3.out hgrow
      have hbG := grown_below hbase hrc hgrow
      have HG9 : Hid (LnGo W w9 B b t L' r' v') := Lib.hid ⟨HLn3.out.other (.inr rfl) hkO, ⟨rs ++ [⟨xk, xn, xr, xa, xl, xc⟩], by rw [HLL.out, HM9.out]; exact hown', by
        rw [HTl.out]
        exact ((HS3.out.below HB4.out).keep (Keep.grown hrc hgrow (by decide))).snoc ((HSx.out.below HB4.out).keep (Keep.grown hrc hgrow (by decide)))⟩, HI2.out, (HB3.out.trans (HB4.out.mono (by have := HB3.out.size; omega))).trans (hbG.mono hBW)⟩
      clear hown' hgrow hrc hNew hkO hbG
      go_wp2
      exact ⟨⟨L', r', HG9⟩, by rw [HG9.out.len, HLL.out]; have := HVl.out; have := HLe.out; have := HM9.out; simp only [lnLen] at *; omega⟩

set_option maxHeartbeats 2000000 in
theorem lnall_any (t : List UInt8) (W : World) (ht : t.length ≤ 1000000) : Calls Try.prog 17 #[.string ⟨t.toArray⟩] W (RetLa t W) := by
  go_enter Try.func17, Try.ntmps17
  go_wp2_with fail
  refine (lnnew_any W).mono ?_
  rintro e w1 ⟨b, rfl, hl1, hb1⟩
  have hf : Calls Try.prog 9 #[.pointer (some ⟨b, 0, none⟩), .string ⟨t.toArray⟩] w1 fun e W' => e = .returned (.int .i64 0) ∧ IsLn W' W.heap.size b ⟨[], t, false, 0⟩ ∧ LnKp W.heap.size w1 W' := lnfeed_any hl1 t (by simp; omega)
  have HFd := Lib.hid hf
  have HB1 := Lib.hid hb1
  clear hl1 hb1 hf
  go_wp2_with fail
  refine HFd.out.mono ?_
  rintro e w2 ⟨rfl, hl2, hk2⟩
  have HCl := Lib.hid (lnclose_any hl2)
  have HB2 := Lib.hid (HB1.out.trans hk2.1)
  clear hl2 hk2 HFd
  go_wp2_with fail
  refine HCl.out.mono ?_
  rintro e w3 ⟨rfl, hl3, hk3⟩
  have HE := Lib.hid (lneach_any t ht hl3)
  have HB3 := Lib.hid (HB2.out.trans hk3.1)
  clear hl3 hk3 HCl
  go_wp2_with fail
  refine HE.out.mono ?_
  rintro e w4 ⟨a4, m4, c4, rfl, hat, hb4⟩
  have HA4 := Lib.hid hat
  have HB4 := Lib.hid (HB3.out.trans hb4)
  obtain ⟨y, hy⟩ : ∃ y, (lnAll t).e = y := ⟨_, rfl⟩
  have HY := Lib.hid hy
  rw [hy]
  clear hat hb4 HE hy
  go_wp2
  go_ret2
  exact ⟨a4, m4, c4, by rw [HY.out]; rfl, HA4.out, HB4.out⟩
end Go.Proofs.Ytjmaccflnfaiiaa

namespace Go.Proofs.Ytjmaccflnfaiiaa
open Go.RowKit

set_option maxHeartbeats 2000000 in
theorem isame_any (a b : Option Addr) (len ca cb t1 t2 : Nat) (zs : List Int) (w : World) (hlen : len ≤ 1000000000) (ha : IsRow .i64 w a len t1 zs) (hb : IsRow .i64 w b len t2 zs) :
    Calls Try.prog 32 #[.slice a len ca, .slice b len cb] w fun e w' => e = .returned (.bool true) ∧ Below w.heap.size w w' := by
  go_enter Try.func32, Try.ntmps32
  go_wp2
  go_loopw [5] (fun i wr => ∃ k : Nat, k ≤ len ∧ i = .int .i64 k ∧ Below w.heap.size w wr) (fun i _ => len - (RowKit.intOf i).toNat)
  case atStart => exact ⟨0, Nat.zero_le _, rfl, Below.refl _ _⟩
  case round =>
    obtain ⟨k, hk, rfl, hbe⟩ := hrel
    by_cases hlt : k < len
    · obtain h0 | ⟨b1, off1, rfl, hl1, _, _, c1⟩ := ha.below hbe
      · omega
      obtain h0 | ⟨b2, off2, rfl, hl2, _, _, c2⟩ := hb.below hbe
      · omega
      have d1 := c1 k (by omega)
      have d2 := c2 k (by omega)
      clear c1 c2 ha hb
      generalize zs.getD k 0 = x at d1 d2
      have g0 : (0 : Int) ≤ (k : Int) := by omega
      have g1 : (k : Int) < (len : Int) := by omega
      go_wp2_with fail
      go_quiet (fail)
      go_wp2
      exact ⟨⟨k + 1, by omega, by go_num, below_drewS hbe _⟩, by simp [RowKit.intOf]; omega⟩
    · obtain rfl : k = len := by omega
      go_wp2
      go_ret
      exact ⟨rfl, hbe⟩
end Go.Proofs.Ytjmaccflnfaiiaa

namespace Go.Proofs.Ytjmaccflnfaiiaa
open Go.RowKit


set_option maxRecDepth 100000 in
set_option maxHeartbeats 4000000 in
theorem mgsame_any (k n r : Int) (len : Nat) (a b : Option Addr) (ca cb : Nat) (zs : List Int) (w : World) (hl : len ≤ 1000000) (ha : IsRow .i64 w a len len zs) (hb : IsRow .i64 w b len len zs) :
    Calls Try.prog 13 #[.agg #[.int .i64 k, .int .i64 n, .int .i64 r, .slice a len ca], .agg #[.int .i64 k, .int .i64 n, .int .i64 r, .slice b len cb]] w fun e w' => e = .returned (.bool true) ∧ Below w.heap.size w w' := by
  have b1 := (Below.refl w.heap.size w).alloc (Nat.le_refl _) (.cells #[.int .i64 k, .int .i64 n, .int .i64 r, .slice a len ca] 34)
  have x1 := heap_alloc_new w (.cells #[.int .i64 k, .int .i64 n, .int .i64 r, .slice a len ca] 34)
  obtain ⟨w1, hw1⟩ : ∃ w1, w.alloc (.cells #[.int .i64 k, .int .i64 n, .int .i64 r, .slice a len ca] 34) = w1 := ⟨_, rfl⟩
  rw [hw1] at b1 x1
  have z1 : w1.heap.size = w.heap.size + 1 := by rw [← hw1]; simp
  have b2 := b1.alloc b1.size (.cells #[.int .i64 k, .int .i64 n, .int .i64 r, .slice b len cb] 34)
  have x2 := heap_alloc_new w1 (.cells #[.int .i64 k, .int .i64 n, .int .i64 r, .slice b len cb] 34)
  have y1 : (w1.alloc (.cells #[.int .i64 k, .int .i64 n, .int .i64 r, .slice b len cb] 34)).heap[w.heap.size]? = some (.cells #[.int .i64 k, .int .i64 n, .int .i64 r, .slice a len ca] 34 (0, 0)) :=
    (((Below.refl w1.heap.size w1).alloc (Nat.le_refl _) _).block _ (heap_lt x1)).trans x1
  obtain ⟨w2, hw2⟩ : ∃ w2, w1.alloc (.cells #[.int .i64 k, .int .i64 n, .int .i64 r, .slice b len cb] 34) = w2 := ⟨_, rfl⟩
  rw [hw2] at b2 x2 y1
  rw [z1] at x2
  obtain ⟨c0, c1, c2, c3⟩ := rec_reads y1
  obtain ⟨d0, d1, d2, d3⟩ := rec_reads x2
  have HI := Lib.hid (isame_any a b len ca cb len len zs w2 (by omega) (ha.below b2) (hb.below b2))
  clear ha hb x1 x2 y1 b1
  go_enter Try.func13, Try.ntmps13
  go_wp2_with fail
  refine HI.out.mono ?_
  rintro E w3 ⟨rfl, hb3⟩
  have d4 := b2.trans (hb3.mono b2.size)
  go_wp2
  go_ret
  exact ⟨rfl, d4⟩

end Go.Proofs.Ytjmaccflnfaiiaa

namespace Go.Proofs.Ytjmaccflnfaiiaa
open Go.RowKit
/-- Two records that say the same, either way round. -/
def Sm (w : World) (x y : Rv) : Prop := Alike x y ∧ ∃ zs : List Int, IsRow .i64 w x.a x.len x.len zs ∧ IsRow .i64 w y.a x.len x.len zs
theorem Sm.below {w w' : World} {x y : Rv} (h : Sm w x y) (hb : Below w.heap.size w w') : Sm w' x y := ⟨h.1, h.2.elim fun zs h => ⟨zs, h.1.below hb, h.2.below hb⟩⟩
theorem Sm.symm {w : World} {x y : Rv} (h : Sm w x y) : Sm w y x := by
  obtain ⟨⟨a, b, c, d⟩, zs, h2, h3⟩ := h
  exact ⟨⟨a.symm, b.symm, c.symm, d.symm⟩, zs, by rw [d]; exact h3, by rw [d]; exact h2⟩
theorem Eqv.sm {w : World} {x y : Rv} (h : Eqv w x y) : Sm w x y := ⟨h.1, h.2.2.elim fun zs h => ⟨zs, h.2⟩⟩
theorem Pair2.symm {R S : Rv → Rv → Prop} {l m : List Rv} (h : Pair2 R l m) (hs : ∀ x y, R x y → S y x) : Pair2 S m l := ⟨h.1.symm, fun i x y hx hy => hs y x (h.2 i y x hy hx)⟩

set_option maxRecDepth 100000 in
set_option maxHeartbeats 4000000 in
theorem mgsames_any (a b : Option Addr) (m ca cb : Nat) (rs qs : List Rv) (w : World) (hn : rs.length = m) (hl : m ≤ 1000000000) (hi : ∀ x ∈ rs, x.len ≤ 1000000) (ha : RecAt w a rs) (hb : RecAt w b qs) (he : Pair2 (Sm w) rs qs) :
    Calls Try.prog 19 #[.slice a m ca, .slice b m cb] w fun e w' => e = .returned (.bool true) ∧ Below w.heap.size w w' := by
  have HI := Lib.hid hi
  have HA := Lib.hid ha
  have HBB := Lib.hid hb
  have HEE := Lib.hid he
  clear hi ha hb he
  go_enter Try.func19, Try.ntmps19
  go_wp2
  go_loopw [5] (fun i wr => ∃ k : Nat, k ≤ m ∧ i = .int .i64 (k : Int) ∧ Hid (Below w.heap.size w wr)) (fun i _ => m - (RowKit.intOf i).toNat)
  case atStart => exact ⟨0, Nat.zero_le _, rfl, Lib.hid (Below.refl _ _)⟩
  case round =>
    obtain ⟨k, hk, rfl, HR⟩ := hrel
    by_cases hlt : k < m
    · obtain ⟨b1, off1, x, rfl, hx, c0, c1, c2, c3⟩ := (HA.out.below HR.out).get (i := k) (by omega)
      obtain ⟨b2, off2, y, rfl, hy, d0, d1, d2, d3⟩ := (HBB.out.below HR.out).get (i := k) (by have := HEE.out.1; omega)
      obtain ⟨⟨e1, e2, e3, e4⟩, zs, r1, r2⟩ := (HEE.out.2 k x y hx hy).below HR.out
      have hl2 := HI.out x (List.mem_of_getElem? hx)
      rw [e1] at d0
      rw [e2] at d1
      rw [e3] at d2
      rw [e4] at d3
      have u0 : (0 : Int) ≤ (k : Int) := by omega
      have u1 : (k : Int) < (m : Int) := by omega
      have HS := Lib.hid (fun (W : World) (hW : Below wr.heap.size wr W) => mgsame_any x.k x.n x.r x.len x.a y.a x.cap y.cap zs W hl2 (r1.below hW) (r2.below hW))
      obtain ⟨xk, xn, xr, xa, xl, xc⟩ := x
      obtain ⟨yk, yn, yr, ya, yl, yc⟩ := y
      dsimp only at HS c0 c1 c2 c3 d0 d1 d2 d3
      clear hx hy hl2 r1 r2 e1 e2 e3 e4
      go_wp2_with fail
      go_region_with (first
        | (go_at_call 13
           refine (HS.out _ (Below.refl _ _).drew).mono ?_
           rintro E w2 ⟨rfl, hb2⟩
           have HB2 : Hid (Below wr.heap.size wr w2) := Lib.hid ((Below.refl _ _).drew.trans hb2)
           clear hb2))
      all_goals
        have HR2 := Lib.hid (HR.out.trans (HB2.out.mono HR.out.size))
        go_wp2
        exact ⟨⟨k + 1, by omega, by go_num, HR2⟩, by simp [RowKit.intOf]; omega⟩
    · obtain rfl : k = m := by omega
      have u1 : ¬ (k : Int) < (k : Int) := by omega
      go_wp2
      go_ret
      exact ⟨rfl, HR.out⟩

end Go.Proofs.Ytjmaccflnfaiiaa

namespace Go.Proofs.Ytjmaccflnfaiiaa
open Go.RowKit

/-- A slice of records in a block of its own. -/
theorem recat_new {w : World} {X : Nat} {T : TypeId} {rs : List Rv} (h : w.heap[X]? = some (.cells (rvCells rs).toArray T (0, 0))) : RecAt w (some ⟨X, 0, none⟩) rs := by
  refine .inr ⟨X, 0, rfl, fun i x hx => ?_⟩
  have at' : ∀ j u, j < 4 → x.cells[j]? = some u → w.cell? ⟨X, 0 + i * 4 + j, none⟩ = some u := fun j u hj hu => by
    rw [Lib.cell_of_heap h, Nat.zero_add]
    have := (rvCells_at rs i x hx j hj).trans hu
    simpa using this
  exact ⟨at' 0 _ (by omega) rfl, at' 1 _ (by omega) rfl, at' 2 _ (by omega) rfl, at' 3 _ (by omega) rfl⟩

end Go.Proofs.Ytjmaccflnfaiiaa

namespace Go.Proofs.Ytjmaccflnfaiiaa
open Go.RowKit

theorem Say.sm {W : World} {x u : Rv} {y : Rn} (h : Say W x y) (h2 : Say W u y) (hm : y.ids.length ≤ maxLen) : Sm W x u := by
  refine ⟨⟨by rw [h.1, h2.1], by rw [h.2.1, h2.2.1], by rw [h.2.2.1, h2.2.2.1], by rw [h.2.2.2.1, h2.2.2.2.1]⟩, y.ids, h.row (by rw [h.2.2.2.1]; exact hm), ?_⟩
  have e : x.len = u.len := by rw [h.2.2.2.1, h2.2.2.2.1]
  rw [e]
  exact h2.row (by rw [h2.2.2.2.1]; exact hm)
theorem Says.sm {W : World} {rs qs : List Rv} {L : List Rn} (h : Says W rs L) (h2 : Says W qs L) (hm : ∀ y ∈ L, y.ids.length ≤ maxLen) : Pair2 (Sm W) rs qs := by
  refine ⟨h.1.trans h2.1.symm, fun i x u hx hu => ?_⟩
  have hi : i < L.length := by
    rw [← h.1]
    exact (List.getElem?_eq_some_iff.1 hx).1
  have hy : L[i]? = some L[i] := List.getElem?_eq_getElem hi
  exact (h.2 i x _ hx hy).sm (h2.2 i u _ hu hy) (hm _ (List.getElem_mem hi))
/-- The numbers of what is read are few. -/
theorem vall_many : ∀ l : List Int, (∀ x ∈ l, 0 ≤ x) → l.length ≤ (vall l).length
  | [], _ => by simp
  | x :: l, h => by
    have h1 := vput_pos x (h x (by simp))
    have ih := vall_many l (fun y hy => h y (by simp [hy]))
    simp only [vall, List.length_append, List.length_cons]
    omega
theorem dif_pos' : ∀ (l : List Int) (a : Int), -1 ≤ a → risF a l = true → ∀ x ∈ difL (if a = -1 then 0 else a) l, 0 ≤ x
  | [], a, _, _, x, hx => by simp [difL] at hx
  | y :: r, a, h0, h, x, hx => by
    obtain ⟨h1, h2, h3⟩ := ris_cons.1 h
    simp only [difL, List.mem_cons] at hx
    rcases hx with rfl | hx
    · split <;> omega
    · have := dif_pos' r y (by omega) h3 x
      rw [if_neg (by omega)] at this
      exact this hx
theorem putK_many {k n r : Int} {ids : List Int} (h : okK k n r ids = true) : ids.length ≤ (putK k n r ids).length := by
  by_cases h4 : k = 4
  · obtain ⟨_, _, h3⟩ := (ok_at h4).1 h
    have hd := dif_pos' ids (-1) (by omega) h3
    rw [if_pos rfl] at hd
    have := vall_many ((ids.length : Int) :: difL 0 ids) (fun x hx => by
      rcases List.mem_cons.1 hx with rfl | hx
      · omega
      · exact hd x hx)
    unfold putK numsL
    rw [if_pos h4, List.length_cons]
    rw [List.length_cons, dif_len] at this
    omega
  · obtain ⟨_, _, _, h5⟩ := (ok_no h4).1 h
    rw [h5]
    simp
theorem flat_each : ∀ (l : List Rn), (∀ x ∈ l, rnOk x = true) → ∀ x ∈ l, x.ids.length ≤ (l.flatMap rnB).length
  | [], _, x, hx => by cases hx
  | y :: l, h, x, hx => by
    rw [List.flatMap_cons, List.length_append]
    rcases List.mem_cons.1 hx with rfl | hx
    · have h1 : x.ids.length ≤ (rnB x).length := putK_many (h x (by simp))
      omega
    · have := flat_each l (fun z hz => h z (by simp [hz])) x hx
      omega
theorem lnout_few {t : List UInt8} : ∀ x ∈ lnOut (lnAll t), x.ids.length ≤ t.length := by
  intro x hx
  unfold lnOut at hx
  by_cases h : (lnAll t).e = 0
  · rw [if_pos h] at hx
    obtain ⟨a, b, _⟩ := lnall_good h
    have := flat_each _ (lnc_each _ _ a) x hx
    rw [b] at this
    exact this
  · rw [if_neg h] at hx; cases hx
theorem lnout_len {t : List UInt8} : (lnOut (lnAll t)).length ≤ t.length := by
  unfold lnOut
  by_cases h : (lnAll t).e = 0
  · rw [if_pos h]
    obtain ⟨_, b, _⟩ := lnall_good h
    have := flat_len (lnAll t).read
    rw [b] at this
    exact this
  · rw [if_neg h]; simp
/-- The document's Same of two such lists. -/
theorem lnsames_any {W : World} {L : List Rn} {a a' : Option Addr} {m c m' c' : Nat} (h : LnAt W L a m c) (h2 : LnAt W L a' m' c') (hm : m ≤ 1000000) (hf : ∀ y ∈ L, y.ids.length ≤ 1000000) :
    Calls Try.prog 19 #[.slice a m c, .slice a' m' c'] W fun e W' => e = .returned (.bool true) ∧ Below W.heap.size W W' := by
  obtain ⟨rs, hl, hr, hs⟩ := h.rec
  obtain ⟨qs, hl2, hr2, hs2⟩ := h2.rec
  have e : m' = m := by rw [← h.1, ← h2.1]
  subst e
  refine mgsames_any a a' _ c c' rs qs W hl (by omega) (fun x hx => ?_) hr hr2 (hs.sm hs2 (fun y hy => by have := hf y hy; unfold maxLen; omega))
  obtain ⟨i, hi, rfl⟩ := List.getElem_of_mem hx
  have hy : L[i]? = some (L[i]'(by rw [← hs.1]; exact hi)) := List.getElem?_eq_getElem _
  have h4 := (hs.2 i _ _ (List.getElem?_eq_getElem hi) hy).2.2.2.1
  have := hf _ (List.getElem_mem (by rw [← hs.1]; exact hi : i < L.length))
  omega

/-- The examples. -/
theorem lnex_good : lnAll [1, 2, 2, 6, 4, 0] = ⟨[⟨1, 2, 2, []⟩, ⟨6, 4, 0, []⟩], [], true, 0⟩ := by
  have hb : ([⟨1, 2, 2, []⟩, ⟨6, 4, 0, []⟩] : List Rn).flatMap rnB = [1, 2, 2, 6, 4, 0] := by decide +kernel
  have hc : LnC [] [⟨1, 2, 2, []⟩, ⟨6, 4, 0, []⟩] := by
    refine ⟨⟨by decide, by decide, by decide⟩, ⟨by decide, by decide, by decide⟩, trivial⟩
  rw [← hb]
  exact lnall_back hc (by decide)
theorem lnex_bad : (lnAll [1, 2, 1, 1, 2, 1]).e = 9 := by
  have e1 : tkR [1, 2, 1, 1, 2, 1] = ⟨0, 1, 2, 1, [], [1, 2, 1]⟩ := by
    have h := rtk_put (k := 1) (n := 2) (r := 1) (ids := []) (by decide) [1, 2, 1]
    rw [show putK 1 2 1 [] ++ [1, 2, 1] = [1, 2, 1, 1, 2, 1] by decide +kernel] at h
    exact h
  have e2 : tkR [1, 2, 1] = ⟨0, 1, 2, 1, [], []⟩ := by
    have h := rtk_put (k := 1) (n := 2) (r := 1) (ids := []) (by decide) []
    rw [show putK 1 2 1 [] ++ [] = [1, 2, 1] by decide +kernel] at h
    exact h
  have s1 : lnNext (lnStart [1, 2, 1, 1, 2, 1]) = (⟨[⟨1, 2, 1, []⟩], [1, 2, 1], true, 0⟩, true) := by
    have h := ln_read (s := lnStart [1, 2, 1, 1, 2, 1]) rfl (by decide) (by show (tkR [1, 2, 1, 1, 2, 1]).e = 0; rw [e1]) (by show lnBad [] (tkR [1, 2, 1, 1, 2, 1]).rn = false; rw [e1]; decide)
    rw [h]
    show (({ read := [] ++ [(tkR [1, 2, 1, 1, 2, 1]).rn], rest := (tkR [1, 2, 1, 1, 2, 1]).rest, closed := true, e := 0 } : LnS), true) = _
    rw [e1]
    rfl
  have s2 : lnNext ⟨[⟨1, 2, 1, []⟩], [1, 2, 1], true, 0⟩ = (⟨[⟨1, 2, 1, []⟩], [1, 2, 1], true, 9⟩, false) := ln_order rfl (by decide) (by show (tkR [1, 2, 1]).e = 0; rw [e2]) (by show lnBad [⟨1, 2, 1, []⟩] (tkR [1, 2, 1]).rn = true; rw [e2]; decide)
  show (lnRun 7 (lnStart [1, 2, 1, 1, 2, 1])).e = 9
  rw [lnrun_yes (by rw [s1]), s1, lnrun_no (by rw [s2]), s2]

set_option maxRecDepth 100000 in
set_option maxHeartbeats 2000000 in
theorem lnawake_any (w : World) : Calls Try.prog 7 #[] w fun e w' => e = .returned (.bool true) ∧ Below w.heap.size w w' := by
  have HA : Hid (∀ V, Calls Try.prog 17 #[.string ⟨#[1, 2, 2, 6, 4, 0]⟩] V fun e V' => ∃ a m c, e = .returned (.tuple #[.slice a m c, .int .i64 0]) ∧ LnAt V' [⟨1, 2, 2, []⟩, ⟨6, 4, 0, []⟩] a m c ∧ Below V.heap.size V V') := Lib.hid (fun V => by
    have h := lnall_any [1, 2, 2, 6, 4, 0] V (by decide)
    unfold RetLa at h
    rw [lnex_good] at h
    exact h)
  have HB : Hid (∀ V, Calls Try.prog 17 #[.string ⟨#[1, 2, 1, 1, 2, 1]⟩] V fun e V' => ∃ a m c, e = .returned (.tuple #[.slice a m c, .int .i64 9]) ∧ Below V.heap.size V V') := Lib.hid (fun V => by
    have h := lnall_any [1, 2, 1, 1, 2, 1] V (by decide)
    unfold RetLa at h
    rw [lnex_bad] at h
    exact h.mono fun e V' ⟨a, m, c, h1, _, h2⟩ => ⟨a, m, c, h1, h2⟩)
  go_enter Try.func7, Try.ntmps7
  go_wp2_with fail
  refine (HA.out _).mono ?_
  rintro E w1 ⟨a1, m1, c1, rfl, hat, hb1⟩
  have HAt := Lib.hid hat
  have HB1 := Lib.hid hb1
  clear HA hat hb1
  go_wp2_with fail
  refine (HB.out _).mono ?_
  rintro E w2 ⟨a2, m2, c2, rfl, hb2⟩
  have HB2 := Lib.hid (HB1.out.trans (hb2.mono HB1.out.size))
  have hX := heap_alloc_new w2 (.cells (rvCells [⟨1, 2, 2, none, 0, 0⟩, ⟨6, 4, 0, none, 0, 0⟩]).toArray 34)
  have hB := (Below.refl w2.heap.size w2).alloc (Nat.le_refl _) (.cells (rvCells [⟨1, 2, 2, none, 0, 0⟩, ⟨6, 4, 0, none, 0, 0⟩]).toArray 34)
  have HS := Lib.hid (show Calls Try.prog 19 #[.slice a1 m1 c1, .slice (some ⟨w2.heap.size, 0, none⟩) 2 2] (w2.alloc (.cells (rvCells [⟨1, 2, 2, none, 0, 0⟩, ⟨6, 4, 0, none, 0, 0⟩]).toArray 34)) _ from by
    obtain ⟨rs, hl, hr, hs⟩ := ((HAt.out.below hb2).below hB).rec
    have hm : m1 = 2 := by rw [← HAt.out.1]; rfl
    rw [hm] at hl ⊢
    refine mgsames_any a1 _ 2 c1 2 rs [⟨1, 2, 2, none, 0, 0⟩, ⟨6, 4, 0, none, 0, 0⟩] _ hl (by omega) (fun x hx => ?_) hr (recat_new hX) (hs.sm (L := [⟨1, 2, 2, []⟩, ⟨6, 4, 0, []⟩]) ⟨rfl, fun i x y hx hy => ?_⟩ (fun y hy => by simp at hy; rcases hy with rfl | rfl <;> decide))
    · obtain ⟨i, hi, rfl⟩ := List.getElem_of_mem hx
      have h2 : i = 0 ∨ i = 1 := by omega
      rcases h2 with rfl | rfl
      · have h4 := (hs.2 0 _ _ (List.getElem?_eq_getElem hi) rfl).2.2.2.1
        rw [h4]; decide
      · have h4 := (hs.2 1 _ _ (List.getElem?_eq_getElem hi) rfl).2.2.2.1
        rw [h4]; decide
    · match i, hx, hy with
      | 0, hx, hy => simp at hx hy; subst hx hy; exact ⟨rfl, rfl, rfl, rfl, OwnI.nil⟩
      | 1, hx, hy => simp at hx hy; subst hx hy; exact ⟨rfl, rfl, rfl, rfl, OwnI.nil⟩
      | i + 2, hx, hy => simp at hx)
  have HBe := Lib.hid (HB2.out.trans (hB.mono HB2.out.size))
  clear HB hb2 hX hB HAt
  go_wp2_with fail
  refine HS.out.mono ?_
  rintro E w4 ⟨rfl, hb4⟩
  have HB4 := Lib.hid (HBe.out.trans (hb4.mono HBe.out.size))
  clear hb4 HS
  go_wp2
  go_ret
  exact ⟨rfl, HB4.out⟩
end Go.Proofs.Ytjmaccflnfaiiaa

namespace Go.Proofs.Ytjmaccflnfaiiaa
open Go.RowKit

set_option maxHeartbeats 1000000 in
theorem lensNone_long (s : ByteArray) (w : World) (h : 50 < s.size) (hs : s.size ≤ 9223372036854775807) :
    Calls Try.prog 5 #[.string s] w fun e w' => e = .returned (.bool true) ∧ Below w.heap.size w w' := by
  have g : (50 : Int) < (s.size : Int) := by omega
  go_enter Try.func5, Try.ntmps5
  go_wp2_with fail
  refine (lnawake_any _).mono ?_
  rintro e w1 ⟨rfl, hb1⟩
  go_wp2
  go_ret
  exact ⟨rfl, hb1⟩

set_option maxRecDepth 100000 in
set_option maxHeartbeats 4000000 in
theorem lensNone_short (s : ByteArray) (w : World) (h : s.size ≤ 50) :
    Calls Try.prog 5 #[.string s] w fun e w' => e = .returned (.bool true) ∧ Below w.heap.size w w' := by
  have g : ¬ (50 : Int) < (s.size : Int) := by omega
  go_enter Try.func5, Try.ntmps5
  go_wp2_with fail
  refine (lnfeed_nil s w).mono ?_
  rintro e w1 ⟨rfl, hb1⟩
  have HB1 := Lib.hid hb1
  clear hb1
  go_wp2_with fail
  refine (lnclose_nil w1).mono ?_
  rintro e w2 ⟨rfl, hb2⟩
  have HB2 := Lib.hid (HB1.out.trans (hb2.mono HB1.out.size))
  clear hb2
  go_wp2_with fail
  refine (lnnext_nil w2).mono ?_
  rintro e w3 ⟨rfl, hb3⟩
  have hB := (Below.refl w3.heap.size w3).alloc (Nat.le_refl _) (.cells #[.int .i64 0, .int .i64 0, .int .i64 0, .slice none 0 0] 34)
  have hX := heap_alloc_new w3 (.cells #[.int .i64 0, .int .i64 0, .int .i64 0, .slice none 0 0] 34)
  have HB3 := Lib.hid (HB2.out.trans ((hb3.trans (hB.mono hb3.size)).mono HB2.out.size))
  obtain ⟨c0, c1, c2, c3⟩ := rec_reads hX
  have HS := Lib.hid (mgsame_any 0 0 0 0 none none 0 0 [] (w3.alloc (.cells #[.int .i64 0, .int .i64 0, .int .i64 0, .slice none 0 0] 34)) (by decide) (.inl rfl) (.inl rfl))
  clear hb3 hB hX
  go_wp2_with fail
  refine HS.out.mono ?_
  rintro e w4 ⟨rfl, hb4⟩
  have HB4 := Lib.hid (HB3.out.trans (hb4.mono HB3.out.size))
  clear hb4 HS c0 c1 c2 c3
  go_wp2_with fail
  refine (lnended_nil w4).mono ?_
  rintro e w5 ⟨rfl, hb5⟩
  have HB5 := Lib.hid (HB4.out.trans (hb5.mono HB4.out.size))
  clear hb5
  go_wp2_with fail
  refine (lnheld_nil w5).mono ?_
  rintro e w6 ⟨rfl, hb6⟩
  have HB6 := Lib.hid (HB5.out.trans (hb6.mono HB5.out.size))
  clear hb6
  go_wp2_with fail
  refine (lnawake_any w6).mono ?_
  rintro e w7 ⟨rfl, hb7⟩
  have HB7 := Lib.hid (HB6.out.trans (hb7.mono HB6.out.size))
  clear hb7
  go_wp2
  go_ret
  exact ⟨rfl, HB7.out⟩

theorem lensNone_walk (s : ByteArray) (w : World) (hs : s.size ≤ 9223372036854775807) :
    Calls Try.prog 5 #[.string s] w fun e w' => e = .returned (.bool true) ∧ Below w.heap.size w w' := by
  by_cases h : 50 < s.size
  · exact lensNone_long s w h hs
  · exact lensNone_short s w (by omega)
end Go.Proofs.Ytjmaccflnfaiiaa
