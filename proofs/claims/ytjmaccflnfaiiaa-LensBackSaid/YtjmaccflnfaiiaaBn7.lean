/-
  Texts put together: PnT, LnF, Ints, RcMi, RdX, VarT, RcR.
-/
import Derived.Test.YtjmaccflnfaiiaaBn6
import Derived.Test.YtjmaccflnfaiiaaMgQ
import Derived.Test.YtjmaccflnfaiiaaBn4
import Derived.Lib.AppendStr
import Derived.Test.YtjmaccflnfaiiaaBn1
import Derived.Test.YtjmaccflnfaiiaaVarM
import Derived.Test.YtjmaccflnfaiiaaBn5
import Derived.Outline
import Derived.IntWalk
import Derived.Test.YtjmaccflnfaiiaaRcM
import Derived.BigQuiet
import Derived.Deep.RegionWith
import Derived.Lib.Hide
set_option linter.unusedSimpArgs false
set_option linter.unusedVariables false
namespace Go.Proofs.Ytjmaccflnfaiiaa
open Go.RowKit

/-- Records whose numbers are few, and can be read. -/
def Fits (w : World) (rs : List Rv) : Prop := ∀ x ∈ rs, Rd w x ∧ x.len ≤ 300
theorem Fits.all {w : World} {rs : List Rv} (h : Fits w rs) : ∀ y ∈ mgAll rs, y.len ≤ 300 ∧ (rvB w y).length ≤ 3000 ∧ (rvI w y).length = y.len ∧ ∀ W, Below w.heap.size w W → IsRow .i64 W y.a y.len y.len (rvI w y) := by
  intro y hy
  rcases mga_from rs y hy with hm | h0
  · obtain ⟨h1, h2⟩ := h y hm
    exact ⟨h2, rvB_len h1 h2, (rvi_row h1).1, fun W hW => (rvi_row h1).2.below hW⟩
  · have e := rvi_none (w := w) (x := y) h0
    refine ⟨by omega, ?_, by rw [e, h0]; rfl, fun W _ => .inl h0⟩
    unfold rvB
    by_cases hk : rvOk w y = true
    · rw [if_pos hk]
      exact putK_len hk (by rw [e]; simp)
    · rw [if_neg hk]; simp

theorem td_go {bt : Rv → List UInt8} {A : List Rv} {k : Nat} {x : Rv} {u : List UInt8} (hx : A[k]? = some x) (h : u ++ tdL bt (A.drop k) = tdL bt A) :
    (k + 1 < A.length → (u ++ bt x) ++ tdL bt (A.drop (k + 1)) = tdL bt A) ∧ (k + 1 = A.length → (x.k = 6 → (u ++ bt x) ++ tdL bt (A.drop (k + 1)) = tdL bt A) ∧ (x.k ≠ 6 → u ++ tdL bt (A.drop (k + 1)) = tdL bt A)) := by
  obtain ⟨hk, rfl⟩ := List.getElem?_eq_some_iff.1 hx
  rw [List.drop_eq_getElem_cons hk] at h
  refine ⟨fun h2 => ?_, fun h2 => ?_⟩
  · rw [← h]
    rw [List.drop_eq_getElem_cons h2, tdL_more, List.append_assoc]
  · have e : A.drop (k + 1) = [] := List.drop_eq_nil_of_le (by omega)
    rw [e, tdL_one] at h
    rw [e, tdL_nil, List.append_nil, List.append_nil]
    refine ⟨fun h6 => ?_, fun h6 => ?_⟩
    · rw [if_pos h6] at h; exact h
    · rw [if_neg h6, List.append_nil] at h; exact h

theorem pn_app (s t : List UInt8) : (⟨s.toArray⟩ : ByteArray) ++ (⟨t.toArray⟩ : ByteArray) = ⟨(s ++ t).toArray⟩ := by
  apply ByteArray.ext
  simp

set_option maxRecDepth 100000 in
set_option maxHeartbeats 4000000 in
theorem rpntold_any {w W : World} (hwW : Below w.heap.size w W) {rs : List Rv} {a : Option Addr} {m ca : Nat} (hm : rs.length = m) (hml : m ≤ 1000) (ha : RecAt W a rs) (hf : Fits w rs) :
    Calls Try.prog 36 #[.slice a m ca] W fun e W' => e = .returned (.string ⟨(tdL (rvB w) (mgAll rs)).toArray⟩) ∧ Below W.heap.size W W' := by
  have HA := Lib.hid (mgrall_any a m ca rs W hm hml ha)
  have HF := Lib.hid hf.all
  have hT : (tdL (rvB w) (mgAll rs)).length ≤ 3000000 := by
    have h1 := td_len (bt := rvB w) (n := 3000) (mgAll rs) (fun x hx => (HF.out x hx).2.1)
    have h2 := mga_len rs
    have : 3000 * (mgAll rs).length ≤ 3000 * 1000 := Nat.mul_le_mul_left _ (by omega)
    omega
  have hn := mga_len rs
  unfold RetAllV at HA
  generalize mgAll rs = A at *
  have HT : Hid (∀ u v, u ++ v = tdL (rvB w) A → u.length ≤ 3000000) := Lib.hid (fun u v h => by
    have := congrArg List.length h
    rw [List.length_append] at this
    omega)
  obtain ⟨n, hAn⟩ : ∃ n, A.length = n := ⟨_, rfl⟩
  rw [hAn] at HA hn
  have HN := Lib.hid hAn
  have hn1 : n ≤ 1000 := by omega
  have HWW := Lib.hid hwW
  clear ha hf hT hwW hAn
  go_enter Try.func36, Try.ntmps36
  go_wp2_with fail
  refine HA.out.mono ?_
  rintro e W1 ⟨aa, ac, rfl, hac, hA1, _, hb1⟩
  have HA1 := Lib.hid hA1
  have HB1 := Lib.hid hb1
  have HW1 := Lib.hid (HWW.out.trans (hb1.mono HWW.out.size))
  clear HA hA1 hb1 hm
  go_wp2
  go_loopw [4, 5] (fun s i wr => ∃ (k : Nat) (u : List UInt8), k ≤ n ∧ i = .int .i64 (k : Int) ∧ s = .string ⟨u.toArray⟩ ∧ Hid (u ++ tdL (rvB w) (A.drop k) = tdL (rvB w) A) ∧ Below W1.heap.size W1 wr) (fun _ i _ => n - (RowKit.intOf i).toNat)
  case atStart => exact ⟨0, [], Nat.zero_le _, rfl, rfl, Lib.hid rfl, Below.refl _ _⟩
  case round =>
    obtain ⟨k, u, hk, rfl, rfl, HK, hbr⟩ := hrel
    by_cases hlt : k < n
    · obtain ⟨b1, off1, x, rfl, hx, c0, c1, c2, c3⟩ := (HA1.out.below hbr).get (i := k) (by rw [HN.out]; exact hlt)
      have hxm := List.mem_of_getElem? hx
      obtain ⟨f1, f2, f3, f4⟩ := HF.out x hxm
      obtain ⟨t1, t2⟩ := td_go hx HK.out
      rw [HN.out] at t1 t2
      have hul := HT.out u _ HK.out
      have HBr := Lib.hid hbr
      have HIR := Lib.hid (f4 wr (HW1.out.trans (hbr.mono HW1.out.size)))
      have hadd := pn_app u (rvB w x)
      have S1 := Lib.hid (bsize u)
      have S2 := Lib.hid (bsize (rvB w x))
      obtain ⟨xk, xn, xr, xa, xl, xc⟩ := x
      dsimp only at c0 c1 c2 c3 f1 f3 t1 t2 HIR
      have HP := Lib.hid (pn_rput (w := w) (W := wr) (by omega) f3 HIR.out)
      have HT1 := Lib.hid (And.intro t1 t2)
      generalize rvB w ⟨xk, xn, xr, xa, xl, xc⟩ = bx at HP HT1 f2 hadd S2
      generalize rvOk w ⟨xk, xn, xr, xa, xl, xc⟩ = q at HP
      obtain ⟨y, hy⟩ : ∃ y : Int, (if q = true then (0 : Int) else 2) = y := ⟨_, rfl⟩
      rw [hy] at HP
      obtain ⟨u', hu'⟩ : ∃ u', u ++ bx = u' := ⟨_, rfl⟩
      rw [hu'] at hadd HT1
      obtain ⟨p, rfl⟩ : ∃ p, n = p + 1 := ⟨n - 1, by omega⟩
      have u0 : (0 : Int) ≤ (k : Int) := by omega
      have u1 : (k : Int) < (p : Int) + 1 := by omega
      have z1 : ¬ 9223372036854775807 < u.length + bx.length := by omega
      have u3 : (p : Int) ≤ 1000 := by omega
      clear hx hxm t1 t2 f3 f4 hbr hy hu' HIR
      by_cases hl : k + 1 < p + 1
      · have HS := Lib.hid (HT1.out.1 hl)
        have g1 : (k : Int) < (p : Int) := by omega
        clear HT1
        go_wp2_with fail
        refine HP.out.mono ?_
        rintro e W2 ⟨rfl, hb2⟩
        have HB2 := Lib.hid (HBr.out.trans (hb2.mono HBr.out.size))
        clear HP hb2 c0 c1 c2 c3
        go_wp2
        exact ⟨⟨k + 1, u', by omega, by go_num, rfl, HS, HB2.out⟩, by simp [RowKit.intOf]; omega⟩
      · have hl2 : k + 1 = p + 1 := by omega
        have g1 : ¬ (k : Int) < (p : Int) := by omega
        by_cases h6 : xk = 6
        · have HS := Lib.hid ((HT1.out.2 hl2).1 h6)
          subst h6
          clear HT1
          go_wp2_with fail
          refine HP.out.mono ?_
          rintro e W2 ⟨rfl, hb2⟩
          have HB2 := Lib.hid (HBr.out.trans (hb2.mono HBr.out.size))
          clear HP hb2 c0 c1 c2 c3
          go_wp2
          exact ⟨⟨k + 1, u', by omega, by go_num, rfl, HS, HB2.out⟩, by simp [RowKit.intOf]; omega⟩
        · have HS := Lib.hid ((HT1.out.2 hl2).2 h6)
          have g6 : (xk == 6) = false := by simpa using h6
          clear HT1 HP
          go_wp2
          exact ⟨⟨k + 1, u, by omega, by go_num, rfl, HS, HBr.out⟩, by simp [RowKit.intOf]; omega⟩
    · obtain rfl : k = n := by omega
      have u1 : ¬ (k : Int) < (k : Int) := by omega
      have HU : Hid (u = tdL (rvB w) A) := Lib.hid (by
        have h := HK.out
        rw [List.drop_eq_nil_of_le (by rw [HN.out]; exact Nat.le_refl _), tdL_nil, List.append_nil] at h
        exact h)
      have HB2 := Lib.hid (HB1.out.trans (hbr.mono HB1.out.size))
      clear hbr HK
      go_wp2
      go_ret
      exact ⟨by rw [← HU.out]; rfl, HB2.out⟩
end Go.Proofs.Ytjmaccflnfaiiaa

namespace Go.Proofs.Ytjmaccflnfaiiaa
open Go.RowKit

/-- What a lens's calls leave alone: all ahead of its base, and all numbers, records, states. -/
def LnKp (B : Nat) (W W' : World) : Prop := Below B W W' ∧ Keep 3 W W' ∧ Keep 34 W W' ∧ Keep 31 W W'
theorem LnKp.refl (B : Nat) (W : World) : LnKp B W W := ⟨Below.refl _ _, Keep.refl _ _, Keep.refl _ _, Keep.refl _ _⟩
theorem LnKp.trans {B : Nat} {u v w : World} (h : LnKp B u v) (k : LnKp B v w) : LnKp B u w := ⟨h.1.trans k.1, h.2.1.trans k.2.1, h.2.2.1.trans k.2.2.1, h.2.2.2.trans k.2.2.2⟩
theorem LnKp.below {B : Nat} {W W' : World} (hB : B ≤ W.heap.size) (h : Below W.heap.size W W') : LnKp B W W' := ⟨h.mono hB, .below h, .below h, .below h⟩
theorem LnKp.on {B : Nat} {W w w' : World} (hk : LnKp B W w) (hB : B ≤ w.heap.size) (hb : Below w.heap.size w w') : LnKp B W w' := hk.trans (LnKp.below hB hb)

/-- Its cells. -/
def lnCells (l : List UInt8) (v : Value) (n : Nat) (x : Rn) (y : Int) (cl : Bool) : Array Value := #[.string ⟨l.toArray⟩, v, .int .i64 (n : Int), .int .i64 x.k, .int .i64 x.n, .int .i64 x.r, .slice none 0 0, .int .i64 y, .bool cl]
structure LnRaw (W : World) (B b : Nat) (l cm : List UInt8) (v : Value) (n : Nat) (x : Rn) (y : Int) (cl : Bool) : Prop where
  base : B ≤ b
  cells : W.heap[b]? = some (.cells (lnCells l v n x y cl) 52 (0, 0))
  row : W.ownsRow B 5 1 v cm.length (Lib.byteCells cm)
section
variable {W W' : World} {B b : Nat} {l cm : List UInt8} {v : Value} {n : Nat} {x : Rn} {y : Int} {cl : Bool}
theorem LnRaw.below (h : LnRaw W B b l cm v n x y cl) (hb : Below W.heap.size W W') : LnRaw W' B b l cm v n x y cl := ⟨h.base, (hb.block _ (heap_lt h.cells)).trans h.cells, (Keep.below hb).owns h.row⟩
theorem LnRaw.other {U : TypeId} (h : LnRaw W B b l cm v n x y cl) (hU : U = 31 ∨ U = 34) (ho : Other U W W') : LnRaw W' B b l cm v n x y cl :=
  ⟨h.base, ho b _ _ _ (by rcases hU with rfl | rfl <;> decide) h.cells, ho.owns (by rcases hU with rfl | rfl <;> decide) h.row⟩
theorem LnRaw.lt (h : LnRaw W B b l cm v n x y cl) : b < W.heap.size := heap_lt h.cells
theorem LnRaw.le (h : LnRaw W B b l cm v n x y cl) : B ≤ W.heap.size := by have := h.lt; have := h.base; omega
theorem raw_reads (h : LnRaw W B b l cm v n x y cl) :
    W.cell? ⟨b, 0, none⟩ = some (.string ⟨l.toArray⟩) ∧ W.cell? ⟨b, 1, none⟩ = some v ∧ W.cell? ⟨b, 2, none⟩ = some (.int .i64 (n : Int)) ∧ W.cell? ⟨b, 3, none⟩ = some (.int .i64 x.k) ∧ W.cell? ⟨b, 4, none⟩ = some (.int .i64 x.n) ∧ W.cell? ⟨b, 5, none⟩ = some (.int .i64 x.r) ∧ W.cell? ⟨b, 6, none⟩ = some (.slice none 0 0) ∧ W.cell? ⟨b, 7, none⟩ = some (.int .i64 y) ∧ W.cell? ⟨b, 8, none⟩ = some (.bool cl) := by
  refine ⟨?_, ?_, ?_, ?_, ?_, ?_, ?_, ?_, ?_⟩ <;> (rw [Lib.cell_of_heap h.cells]; rfl)
theorem raw_free (h : LnRaw W B b l cm v n x y cl) (i : Nat) : W.frozen? ⟨b, i, none⟩ = false := Lib.frozen_of_heap h.cells i
/-- Stores into its block. -/
theorem raw_kp (h : LnRaw W B b l cm v n x y cl) (hi : Into b W W') : LnKp B W W' := ⟨hi.belowTo h.base, Keep.into hi h.cells (by decide), Keep.into hi h.cells (by decide), Keep.into hi h.cells (by decide)⟩
theorem raw_set (h : LnRaw W B b l cm v n x y cl) (i : Nat) (u : Value) : LnKp B W (W.setCell ⟨b, i, none⟩ u) := raw_kp h ((Into.refl b W).set i u)
theorem raw_row (h : LnRaw W B b l cm v n x y cl) (hi : Into b W W') : W'.ownsRow B 5 1 v cm.length (Lib.byteCells cm) := (Keep.into hi h.cells (by decide)).owns h.row
theorem nil_row (W : World) (B : Nat) : W.ownsRow B 5 1 (.slice none 0 0) ([] : List UInt8).length (Lib.byteCells []) := World.ownsRow_nil _ _ _ _
/-- An append to what came. -/
theorem raw_grown (h : LnRaw W B b l cm v n x y cl) (hg : W.grownBy W' v.ownBlock) : LnKp B W W' ∧ W'.heap[b]? = some (.cells (lnCells l v n x y cl) 52 (0, 0)) :=
  ⟨⟨grown_below h.le h.row hg, Keep.grown h.row hg (by decide), Keep.grown h.row hg (by decide), Keep.grown h.row hg (by decide)⟩, Keep.grown h.row hg (by decide) _ _ _ h.cells⟩
end

/-- How a state lies: what it says of the cells. -/
def LnSt (s : LnS) (l cm : List UInt8) (n : Nat) (y : Int) : Prop := (s.e = y ∨ s.e = 20 ∧ y = 0 ∧ (lnLast s.read).k = 6 ∧ 0 < s.rest.length) ∧
  ((y ≠ 0 ∨ (lnLast s.read).k = 6) ∧ l = [] ∧ cm = [] ∧ n = s.rest.length ∨ (y = 0 ∧ (lnLast s.read).k ≠ 6) ∧ n = 0 ∧ s.rest = l ++ cm)
def IsLn (W : World) (B b : Nat) (s : LnS) : Prop := LnC [] s.read ∧ s.rest.length ≤ 1000000 ∧ ∃ l cm v n y, LnRaw W B b l cm v n (lnLast s.read) y s.closed ∧ LnSt s l cm n y
theorem LnSt.sum {s : LnS} {l cm : List UInt8} {n : Nat} {y : Int} (h : LnSt s l cm n y) : l.length + cm.length + n = s.rest.length := by
  rcases h.2 with ⟨_, rfl, rfl, g⟩ | ⟨_, rfl, g⟩
  · simp [g]
  · rw [g, List.length_append]; omega
theorem IsLn.below {W W' : World} {B b : Nat} {s : LnS} (h : IsLn W B b s) (hb : Below W.heap.size W W') : IsLn W' B b s := by
  obtain ⟨h1, h2, l, cm, v, n, y, h3, h4⟩ := h
  exact ⟨h1, h2, l, cm, v, n, y, h3.below hb, h4⟩
theorem IsLn.other {W W' : World} {B b : Nat} {s : LnS} {U : TypeId} (h : IsLn W B b s) (hU : U = 31 ∨ U = 34) (ho : Other U W W') : IsLn W' B b s := by
  obtain ⟨h1, h2, l, cm, v, n, y, h3, h4⟩ := h
  exact ⟨h1, h2, l, cm, v, n, y, h3.other hU ho, h4⟩
theorem IsLn.lt {W : World} {B b : Nat} {s : LnS} (h : IsLn W B b s) : b < W.heap.size := by
  obtain ⟨h1, h2, l, cm, v, n, y, h3, h4⟩ := h
  exact h3.lt
theorem IsLn.base {W : World} {B b : Nat} {s : LnS} (h : IsLn W B b s) : B ≤ W.heap.size := by
  obtain ⟨h1, h2, l, cm, v, n, y, h3, h4⟩ := h
  exact h3.le
/-- The kind is 0 only where nothing was read. -/
theorem ln_kind {L : List Rn} (h : LnC [] L) : (lnLast L).k = 0 ↔ L.length = 0 := by
  rcases mg_cases L with rfl | ⟨o, y, rfl⟩
  · exact ⟨fun _ => rfl, fun _ => rfl⟩
  · rw [lnl_snoc]
    have := ok_kind (lnc_each _ _ h y (by simp))
    simp
    omega

set_option maxHeartbeats 1000000 in
theorem lnnew_any (W : World) : Calls Try.prog 8 #[] W fun e W' => ∃ b, e = .returned (.pointer (some ⟨b, 0, none⟩)) ∧ IsLn W' W.heap.size b ⟨[], [], false, 0⟩ ∧ Below W.heap.size W W' := by
  have hX := heap_alloc_new W (.cells #[.string ⟨#[]⟩, .slice none 0 0, .int .i64 0, .int .i64 0, .int .i64 0, .int .i64 0, .slice none 0 0, .int .i64 0, .bool false] 52)
  have HB := Lib.hid ((Below.refl W.heap.size W).alloc (Nat.le_refl _) (.cells #[.string ⟨#[]⟩, .slice none 0 0, .int .i64 0, .int .i64 0, .int .i64 0, .int .i64 0, .slice none 0 0, .int .i64 0, .bool false] 52))
  have HX := Lib.hid (show IsLn (W.alloc (.cells #[.string ⟨#[]⟩, .slice none 0 0, .int .i64 0, .int .i64 0, .int .i64 0, .int .i64 0, .slice none 0 0, .int .i64 0, .bool false] 52)) W.heap.size W.heap.size ⟨[], [], false, 0⟩ from ⟨trivial, by simp, [], [], .slice none 0 0, 0, 0, ⟨Nat.le_refl _, hX, nil_row _ _⟩, .inl rfl, .inr ⟨⟨rfl, by show ¬ (0 : Int) = 6; decide⟩, rfl, rfl⟩⟩)
  clear hX
  go_enter Try.func8, Try.ntmps8
  go_wp2
  go_ret
  exact ⟨_, rfl, HX.out, HB.out⟩

theorem lnfeed_nil (t : ByteArray) (W : World) : Calls Try.prog 9 #[.pointer none, .string t] W fun e W' => e = .returned (.int .i64 1) ∧ Below W.heap.size W W' := by
  go_enter Try.func9, Try.ntmps9
  go_wp2
  go_ret
  exact ⟨rfl, Below.refl _ _⟩
theorem lnclose_nil (W : World) : Calls Try.prog 10 #[.pointer none] W fun e W' => e = .returned (.tuple #[]) ∧ Below W.heap.size W W' := by
  go_enter Try.func10, Try.ntmps10
  go_wp2
  go_end0
  exact ⟨rfl, Below.refl _ _⟩
theorem lnheld_nil (W : World) : Calls Try.prog 14 #[.pointer none] W fun e W' => e = .returned (.int .i64 0) ∧ Below W.heap.size W W' := by
  go_enter Try.func14, Try.ntmps14
  go_wp2
  go_ret
  exact ⟨rfl, Below.refl _ _⟩
theorem lnended_nil (W : World) : Calls Try.prog 15 #[.pointer none] W fun e W' => e = .returned (.bool false) ∧ Below W.heap.size W W' := by
  go_enter Try.func15, Try.ntmps15
  go_wp2
  go_ret
  exact ⟨rfl, Below.refl _ _⟩

section
variable {W : World} {B b : Nat} {l cm : List UInt8} {v : Value} {n : Nat} {x : Rn} {y : Int} {cl : Bool}
set_option maxHeartbeats 1000000 in
theorem lnended_raw (h : LnRaw W B b l cm v n x y cl) : Calls Try.prog 15 #[.pointer (some ⟨b, 0, none⟩)] W fun e W' => e = .returned (.bool (decide (x.k = 6))) ∧ Below W.heap.size W W' := by
  obtain ⟨_, _, _, c3, _⟩ := raw_reads h
  have HQ : Hid ((x.k == 6) = decide (x.k = 6)) := Lib.hid (by by_cases h : x.k = 6 <;> simp [h])
  generalize decide (x.k = 6) = q at HQ ⊢
  generalize x.k = k at c3 HQ
  clear h
  go_enter Try.func15, Try.ntmps15
  go_wp2
  go_ret
  exact ⟨by rw [← HQ.out]; rfl, Below.refl _ _⟩
set_option maxHeartbeats 1000000 in
theorem lnover_raw (h : LnRaw W B b l cm v n x y cl) : Calls Try.prog 21 #[.pointer (some ⟨b, 0, none⟩)] W fun e W' => e = .returned (.bool (decide (y ≠ 0 ∨ x.k = 6))) ∧ Below W.heap.size W W' := by
  obtain ⟨_, _, _, _, _, _, _, c7, _⟩ := raw_reads h
  have HE := Lib.hid (lnended_raw h)
  by_cases hy : y = 0
  · subst hy
    have e : decide ((0 : Int) ≠ 0 ∨ x.k = 6) = decide (x.k = 6) := by simp
    rw [e]
    generalize decide (x.k = 6) = q at HE ⊢
    clear h e
    go_enter Try.func21, Try.ntmps21
    go_wp2_with fail
    refine HE.out.mono ?_
    rintro e w2 ⟨rfl, hb⟩
    have HB := Lib.hid hb
    clear hb
    go_wp2
    go_ret
    exact ⟨rfl, HB.out⟩
  · have gy : (y == 0) = false := by simpa using hy
    have gy2 : (y != 0) = true := by simpa using hy
    rw [decide_eq_true (Or.inl hy)]
    clear h hy HE
    go_enter Try.func21, Try.ntmps21
    go_wp2
    go_ret
    exact ⟨rfl, Below.refl _ _⟩
set_option maxHeartbeats 1000000 in
theorem lnrest_raw (h : LnRaw W B b l cm v n x y cl) : Calls Try.prog 22 #[.pointer (some ⟨b, 0, none⟩)] W fun e W' => e = .returned (.int .i64 (if y = 0 ∧ 0 < n then 20 else y)) ∧ Below W.heap.size W W' := by
  obtain ⟨_, _, c2, _, _, _, _, c7, _⟩ := raw_reads h
  by_cases hy : y = 0
  · subst hy
    by_cases hn : 0 < n
    · rw [if_pos ⟨rfl, hn⟩]
      have g : (0 : Int) < (n : Int) := by omega
      clear h
      go_enter Try.func22, Try.ntmps22
      go_wp2
      go_ret
      exact ⟨rfl, Below.refl _ _⟩
    · rw [if_neg (fun g => hn g.2)]
      have g : ¬ (0 : Int) < (n : Int) := by omega
      clear h
      go_enter Try.func22, Try.ntmps22
      go_wp2
      go_ret
      exact ⟨rfl, Below.refl _ _⟩
  · have gy : (y == 0) = false := by simpa using hy
    have gy2 : (y != 0) = true := by simpa using hy
    rw [if_neg (fun g => hy g.1)]
    clear h hy
    go_enter Try.func22, Try.ntmps22
    go_wp2
    go_ret
    exact ⟨rfl, Below.refl _ _⟩
set_option maxHeartbeats 1000000 in
theorem lnheld_raw (h : LnRaw W B b l cm v n x y cl) (hs : l.length + cm.length + n ≤ 3000000) : Calls Try.prog 14 #[.pointer (some ⟨b, 0, none⟩)] W fun e W' => e = .returned (.int .i64 ((l.length + cm.length + n : Nat) : Int)) ∧ Below W.heap.size W W' := by
  obtain ⟨c0, c1, c2, _⟩ := raw_reads h
  obtain ⟨a, cap, rfl⟩ := owns_slice h.row
  have S1 := Lib.hid (bsize l)
  have E : ((l.length + cm.length + n : Nat) : Int) = (l.length : Int) + (cm.length : Int) + (n : Int) := by omega
  rw [E]
  obtain ⟨m, hm⟩ : ∃ m, cm.length = m := ⟨_, rfl⟩
  rw [hm] at c1 hs ⊢
  have z1 : IntKind.i64.wrap ((l.length : Int) + (m : Int)) = (l.length : Int) + (m : Int) := by rw [IntKind.wrap_i64]; omega
  have z2 : IntKind.i64.wrap ((l.length : Int) + (m : Int) + (n : Int)) = (l.length : Int) + (m : Int) + (n : Int) := by rw [IntKind.wrap_i64]; omega
  clear h hm E
  have HD := Lib.hid (Below.refl W.heap.size W).drew
  go_enter Try.func14, Try.ntmps14
  go_wp2_with fail
  go_region
  all_goals
    go_wp2
    go_ret
    exact ⟨rfl, by first | exact HD.out | exact Below.refl _ _⟩
set_option maxHeartbeats 2000000 in
theorem lnforget_raw (h : LnRaw W B b l cm v n x y cl) (hs : l.length + cm.length + n ≤ 3000000) : Calls Try.prog 40 #[.pointer (some ⟨b, 0, none⟩)] W fun e W' => e = .returned (.tuple #[]) ∧ LnRaw W' B b [] [] (.slice none 0 0) (l.length + cm.length + n) x y cl ∧ LnKp B W W' := by
  have HH := Lib.hid (lnheld_raw h hs)
  have HL := Lib.hid h
  clear h hs
  generalize l.length + cm.length + n = p at HH ⊢
  go_enter Try.func40, Try.ntmps40
  go_wp2_with fail
  refine HH.out.mono ?_
  rintro e w2 ⟨rfl, hb⟩
  have h2 := HL.out.below hb
  have HKb := Lib.hid (LnKp.below HL.out.le hb)
  clear hb HH HL
  obtain ⟨c0, c1, c2, _⟩ := raw_reads h2
  have f0 := raw_free h2 0
  have f1 := raw_free h2 1
  have f2 := raw_free h2 2
  have hI := (((Into.refl b w2).set 2 (.int .i64 (p : Int))).set 0 (.string ⟨#[]⟩)).set 1 (.slice none 0 0)
  have HK := Lib.hid (HKb.out.trans (raw_kp h2 hI))
  have HS := Lib.hid (show LnRaw (((w2.setCell ⟨b, 2, none⟩ (.int .i64 (p : Int))).setCell ⟨b, 0, none⟩ (.string ⟨#[]⟩)).setCell ⟨b, 1, none⟩ (.slice none 0 0)) B b [] [] (.slice none 0 0) p x y cl from ⟨h2.base, put_heap (put_heap (put_heap h2.cells (i := 2) _) (i := 0) _) (i := 1) _, nil_row _ _⟩)
  clear h2 hI
  go_wp2
  go_end0
  exact ⟨rfl, HS.out, HK.out⟩
set_option maxHeartbeats 2000000 in
theorem lnfail_raw (h : LnRaw W B b l cm v n x y cl) (z : Int) (hs : l.length + cm.length + n ≤ 3000000) : Calls Try.prog 26 #[.pointer (some ⟨b, 0, none⟩), .int .i64 z] W fun e W' => e = .returned (.int .i64 z) ∧ LnRaw W' B b [] [] (.slice none 0 0) (l.length + cm.length + n) x z cl ∧ LnKp B W W' := by
  obtain ⟨_, _, _, _, _, _, _, c7, _⟩ := raw_reads h
  have f7 := raw_free h 7
  have hS : LnRaw (W.setCell ⟨b, 7, none⟩ (.int .i64 z)) B b l cm v n x z cl := ⟨h.base, put_heap h.cells (i := 7) _, raw_row h ((Into.refl b W).set 7 _)⟩
  have HK := Lib.hid (raw_set h 7 (.int .i64 z))
  have HF := Lib.hid (lnforget_raw hS hs)
  clear h hS
  go_enter Try.func26, Try.ntmps26
  go_wp2_with fail
  refine HF.out.mono ?_
  rintro e w2 ⟨rfl, h2, hk⟩
  have HL := Lib.hid h2
  have HK2 := Lib.hid (HK.out.trans hk)
  clear h2 hk HF
  go_wp2
  go_ret
  exact ⟨rfl, HL.out, HK2.out⟩
end

theorem lnheld_any {W : World} {B b : Nat} {s : LnS} (h : IsLn W B b s) : Calls Try.prog 14 #[.pointer (some ⟨b, 0, none⟩)] W fun e W' => e = .returned (.int .i64 (s.rest.length : Int)) ∧ Below W.heap.size W W' := by
  obtain ⟨h1, h2, l, cm, v, n, y, h3, h4⟩ := h
  have := lnheld_raw h3 (by have := h4.sum; omega)
  rw [h4.sum] at this
  exact this
theorem lnended_any {W : World} {B b : Nat} {s : LnS} (h : IsLn W B b s) : Calls Try.prog 15 #[.pointer (some ⟨b, 0, none⟩)] W fun e W' => e = .returned (.bool (decide ((lnLast s.read).k = 6))) ∧ Below W.heap.size W W' := by
  obtain ⟨h1, h2, l, cm, v, n, y, h3, h4⟩ := h
  exact lnended_raw h3
set_option maxHeartbeats 2000000 in
theorem lnclose_any {W : World} {B b : Nat} {L : List Rn} {r : List UInt8} {cl : Bool} {y : Int} (h : IsLn W B b ⟨L, r, cl, y⟩) :
    Calls Try.prog 10 #[.pointer (some ⟨b, 0, none⟩)] W fun e W' => e = .returned (.tuple #[]) ∧ IsLn W' B b ⟨L, r, true, y⟩ ∧ LnKp B W W' := by
  obtain ⟨h1, h2, l, cm, v, n, z, h3, h4⟩ := h
  obtain ⟨_, _, _, _, _, _, _, _, c8⟩ := raw_reads h3
  have f8 := raw_free h3 8
  have HS := Lib.hid (show IsLn (W.setCell ⟨b, 8, none⟩ (.bool true)) B b ⟨L, r, true, y⟩ from ⟨h1, h2, l, cm, v, n, z, ⟨h3.base, put_heap h3.cells (i := 8) _, raw_row h3 ((Into.refl b W).set 8 _)⟩, h4⟩)
  have HK := Lib.hid (raw_set h3 8 (.bool true))
  clear h1 h2 h3 h4
  go_enter Try.func10, Try.ntmps10
  go_wp2
  go_end0
  exact ⟨rfl, HS.out, HK.out⟩
end Go.Proofs.Ytjmaccflnfaiiaa

namespace Go.Proofs.Ytjmaccflnfaiiaa
open Go.RowKit

set_option maxRecDepth 100000 in
theorem make_row (c : Nat) (w : World) (hc : c ≤ 1000000000) : (Instr.makeSlice 23 (.int .i64 (c : Int)) (.int .i64 (c : Int))).run Try.prog w = .ok (.slice (some ⟨w.heap.size, 0, none⟩) c c) (w.alloc (.cells (inCells (List.replicate c 0)).toArray 3)) := by
  obtain ⟨i0, hi, hz0, hz1, hz2⟩ := info_parts int_info
  have h := run_make (P := Try.prog) w 23 3 i0 (.int .i64 0) Try.underlying23 hi hz0 .i64 .i64 c c (by omega) (Int.le_refl _) (by rw [hz2]; omega) (by omega)
  rw [h, hz1, Nat.mul_one, Int.toNat_natCast, show inCells (List.replicate c 0) = List.replicate c (Value.int .i64 0) by simp [inCells]]
  congr 3
  show madeCells #[Value.int .i64 0] c = _
  rw [← toList_madeCells_one]
end Go.Proofs.Ytjmaccflnfaiiaa

namespace Go.Proofs.Ytjmaccflnfaiiaa
open Go.RowKit


/-- 'make([]int, 0, c)'. -/
theorem make_ints (c : Nat) (w : World) (hc : c ≤ 1000000000) : ∃ w', (Instr.makeSlice 23 (.int .i64 0) (.int .i64 (c : Int))).run Try.prog w = .ok (.slice (some ⟨w.heap.size, 0, none⟩) 0 c) w' ∧
    w'.ownsRow w.heap.size 3 1 (.slice (some ⟨w.heap.size, 0, none⟩) 0 c) 0 (inCells []) ∧ Below w.heap.size w w' ∧ w'.heap.size = w.heap.size + 1 := by
  obtain ⟨i0, hi, hz0, hz1, hz2⟩ := info_parts int_info
  have h := run_make (P := Try.prog) w 23 3 i0 _ Try.underlying23 hi hz0 .i64 .i64 0 c (by omega) (by omega) (by rw [hz2]; omega) (by omega)
  rw [hz1, Int.toNat_natCast] at h
  refine ⟨_, h, ?_, (Below.refl _ _).alloc (Nat.le_refl _) _, by simp⟩
  exact World.ownsRow_made w _ c (Nat.le_refl _) (by unfold maxLen; omega) (size_madeCells _ _)

end Go.Proofs.Ytjmaccflnfaiiaa

namespace Go.Proofs.Ytjmaccflnfaiiaa
open Go.RowKit

/-- What was wrong first, behind one more thing that is asked. -/
def askX (x : Int) (q : Bool) (e : Int) : Int := if x = 0 ∧ q = false then e else x
theorem ask_zero {x : Int} {q : Bool} {e : Int} (he : e ≠ 0) : askX x q e = 0 ↔ x = 0 ∧ q = true := by
  unfold askX
  cases q <;> simp
  by_cases hx : x = 0 <;> simp [hx, he]
theorem ask_true (x e : Int) : askX x true e = x := by unfold askX; simp
theorem ask_two {x e : Int} (he : e ≠ 0) (p q : Bool) : askX (askX x p e) q e = askX x (p && q) e := by
  unfold askX
  cases p <;> cases q <;> by_cases hx : x = 0 <;> simp [hx, he]

end Go.Proofs.Ytjmaccflnfaiiaa

namespace Go.Proofs.Ytjmaccflnfaiiaa
open Go.RowKit

/-- extent's answer: the size, the error; the world as it was. -/
def RetX (s x : Int) (w : World) (e : Ending) (w' : World) : Prop := e = .returned (.tuple #[.int .i64 s, .int .i64 x]) ∧ w = w'

theorem RetX.mk {s x : Int} {w : World} {e : Ending} (h : e = .returned (.tuple #[.int .i64 s, .int .i64 x])) : RetX s x w e w := ⟨h, rfl⟩

set_option maxHeartbeats 1000000 in
set_option maxRecDepth 100000 in
theorem extent_any (l : List UInt8) (w : World) (hlen : l.length ≤ 9223372036854775807) :
    Calls Try.prog 63 #[.string ⟨l.toArray⟩] w (RetX (tS l) (tE l) w) := by
  have HS := Lib.hid (bsize l)
  have hle := hi_le l
  by_cases hL : 9 < l.length
  all_goals
    go_enter Try.func63, Try.ntmps63
    go_wp2
    go_loop [8] (fun i => ∃ k : Nat, k ≤ 9 ∧ k ≤ hi l ∧ i = .int .i64 k) (fun i => 9 - (RowKit.intOf i).toNat)
    case atStart => exact ⟨0, by omega, by omega, rfl⟩
    case round =>
      obtain ⟨k, hk9, hkl, rfl⟩ := hrel
      by_cases hend : k = 9 ∨ k = l.length
      · by_cases h9 : 9 ≤ hi l
        · have hk : k = 9 := by omega
          subst hk
          have HT := Lib.hid (t_long l h9)
          go_wp2
          go_ret2
          exact RetX.mk (by rw [HT.out.1, HT.out.2.1]; rfl)
        · first
            | (exfalso; omega)
            | (have hk : k = l.length := by omega
               have HT := Lib.hid (t_short l h9 (by omega))
               have HK := Lib.hid hk
               have hn : ¬ (k : Int) < (l.length : Int) := by omega
               have hn9 : l.length < 9 := by omega
               clear hk
               go_wp2
               go_ret2
               exact RetX.mk (by rw [HT.out.1, HT.out.2.1]; rfl))
      · have hlt : k < l.length := by omega
        have hk9' : k < 9 := by omega
        clear hend
        have hsz : k < (⟨l.toArray⟩ : ByteArray).size := by rw [HS.out]; omega
        have ha := byteAt l k hlt hsz
        by_cases hh : k < hi l
        · have hg : 128 ≤ (((⟨l.toArray⟩ : ByteArray)[k]'hsz).toNat : Int) := by rw [ha]; have := hi_high l k hlt hh; omega
          clear ha
          go_wp2
          exact ⟨⟨k + 1, by omega, by omega, by go_num⟩, by simp [RowKit.intOf]; omega⟩
        · obtain rfl : k = hi l := by omega
          have hg : ¬ 128 ≤ (((⟨l.toArray⟩ : ByteArray)[hi l]'hsz).toNat : Int) := by rw [ha]; have := hi_low l hlt; omega
          have h9 : ¬ 9 ≤ hi l := by omega
          by_cases hz : l[hi l].toNat = 0 ∧ 0 < hi l
          · have HT := Lib.hid (t_form l h9 hlt hz.1 hz.2)
            have hpos := hz.2
            have hq : ((((⟨l.toArray⟩ : ByteArray)[hi l]'hsz).toNat : Int) == 0) = true := by rw [ha, hz.1]; rfl
            clear ha hz
            go_wp2
            go_ret2
            exact RetX.mk (by rw [HT.out.1, HT.out.2.1]; rfl)
          · have HT := Lib.hid (t_ok l h9 hlt (by omega))
            have hw : ∃ b : Bool, ((((⟨l.toArray⟩ : ByteArray)[hi l]'hsz).toNat : Int) == 0) = b ∧ (b = true → ¬ 0 < hi l) :=
              ⟨_, rfl, fun h hp => hz ⟨by rw [ha] at h; simpa using h, hp⟩⟩
            obtain ⟨b, hq, hp⟩ := hw
            clear ha hz
            cases b
            · clear hp
              go_wp2
              go_ret2
              exact RetX.mk (by rw [HT.out.1, HT.out.2.1]; rfl)
            · have hpos := hp rfl
              clear hp
              go_wp2
              go_ret2
              exact RetX.mk (by rw [HT.out.1, HT.out.2.1]; rfl)

theorem or_seven (v : Nat) (c : UInt8) (h : v < 72057594037927936) : bits .or .i64 ((v : Int) * 128) ((c.toNat : Int) % 128) = ((c.toNat % 128 + 128 * v : Nat) : Int) := by
  rw [or_i64_seven _ _ (by omega) (by omega) (by omega) (by omega)]
  omega

set_option maxHeartbeats 1000000 in
set_option maxRecDepth 100000 in
theorem take_any (l : List UInt8) (w : World) (hlen : l.length ≤ 9223372036854775807) :
    Calls Try.prog 60 #[.string ⟨l.toArray⟩] w (RetT (tN l) (tS l) (tE l) w) := by
  have HS := Lib.hid (bsize l)
  have hle := hi_le l
  by_cases ht : tE l = 0
  · have HX := extent_any l w hlen
    have h9 : ¬ 9 ≤ hi l := fun h => by have := (t_long l h).1; omega
    have hlt : hi l < l.length := by
      rcases Nat.lt_or_ge (hi l) l.length with h | h
      · exact h
      · have := (t_short l h9 (by omega)).1; omega
    have hs : tS l = (hi l : Int) + 1 := by unfold tS; rw [if_pos ht]
    have hn : tN l = (val (l.take (hi l + 1)) : Int) := by unfold tN; rw [if_pos ht]
    rw [ht, hs] at HX
    rw [ht, hs, hn]
    clear ht hs hn
    go_enter Try.func60, Try.ntmps60
    go_wp2_with fail
    refine HX.mono ?_
    rintro e w' ⟨rfl, rfl⟩
    go_wp2
    go_loop [2, 5] (fun n i => ∃ j : Nat, j ≤ hi l + 1 ∧ i = .int .i64 ((j : Int) - 1) ∧ n = .int .i64 (upto l j)) (fun _ i => (RowKit.intOf i + 1).toNat)
    case atStart => exact ⟨hi l + 1, Nat.le_refl _, by go_num, by rw [upto_end]; rfl⟩
    case round =>
      obtain ⟨j, hj, rfl, rfl⟩ := hrel
      by_cases h0 : j = 0
      · subst h0
        have HV := Lib.hid (upto_all l)
        rw [show (((0 : Nat) : Int) - 1) = -1 from rfl]
        go_wp2
        go_ret3
        exact RetT.mk (by rw [← HV.out]; rfl)
      · obtain ⟨i, rfl⟩ : ∃ i, j = i + 1 := ⟨j - 1, by omega⟩
        have hub := upto_lt l (i + 1) (by omega) h9
        have HU := Lib.hid (upto_step l i (by omega) hlt)
        have hsi : i < (⟨l.toArray⟩ : ByteArray).size := by rw [HS.out]; omega
        have HA := Lib.hid (byteAt l i (by omega) hsi)
        rw [show (((i + 1 : Nat) : Int) - 1) = (i : Int) from by omega]
        generalize upto l (i + 1) = v at hub HU
        go_wp2
        exact ⟨⟨i, by omega, rfl, by rw [or_seven _ _ hub, HU.out, HA.out]⟩, by simp [RowKit.intOf]⟩
  · have HX := extent_any l w hlen
    have hs : tS l = 0 := by unfold tS; rw [if_neg ht]
    have hn : tN l = 0 := by unfold tN; rw [if_neg ht]
    rw [hs] at HX
    rw [hs, hn]
    generalize tE l = x at HX ht ⊢
    have ht' : (x == 0) = false := by simpa using ht
    clear hs hn ht
    go_enter Try.func60, Try.ntmps60
    go_wp2_with fail
    refine HX.mono ?_
    rintro e w' ⟨rfl, rfl⟩
    go_wp2
    go_ret3
    exact RetT.mk rfl
end Go.Proofs.Ytjmaccflnfaiiaa

namespace Go.Proofs.Ytjmaccflnfaiiaa
open Go.RowKit

/-- In block b lies what is left, and what was wrong first. -/
def IsRr (w : World) (b : Nat) (s : List UInt8) (x : Int) : Prop := w.heap[b]? = some (.cells #[.string ⟨s.toArray⟩, .int .i64 x] 82 (0, 0))
theorem IsRr.reads {w : World} {b : Nat} {s : List UInt8} {x : Int} (h : IsRr w b s x) : w.cell? ⟨b, 0, none⟩ = some (.string ⟨s.toArray⟩) ∧ w.cell? ⟨b, 1, none⟩ = some (.int .i64 x) ∧ w.frozen? ⟨b, 0, none⟩ = false ∧ w.frozen? ⟨b, 1, none⟩ = false := by
  refine ⟨?_, ?_, Lib.frozen_of_heap h 0, Lib.frozen_of_heap h 1⟩ <;> rw [Lib.cell_of_heap h] <;> rfl
theorem IsRr.err {w : World} {b : Nat} {s : List UInt8} {x : Int} (h : IsRr w b s x) (y : Int) : IsRr (w.setCell ⟨b, 1, none⟩ (.int .i64 y)) b s y := by
  unfold IsRr at h ⊢; rw [put_heap h]; rfl
theorem IsRr.left {w : World} {b : Nat} {s : List UInt8} {x : Int} (h : IsRr w b s x) (t : List UInt8) : IsRr (w.setCell ⟨b, 0, none⟩ (.string ⟨t.toArray⟩)) b t x := by
  unfold IsRr at h ⊢; rw [put_heap h]; rfl
theorem IsRr.drewN {w : World} {b : Nat} {s : List UInt8} {x : Int} (h : IsRr w b s x) (q : Nat) : IsRr (w.drewN q) b s x := h
theorem IsRr.lt {w : World} {b : Nat} {s : List UInt8} {x : Int} (h : IsRr w b s x) : b < w.heap.size := heap_lt h
theorem IsRr.kept {w w' : World} {b : Nat} {s : List UInt8} {x : Int} (h : IsRr w b s x) (e : w'.heap[b]? = w.heap[b]?) : IsRr w' b s x := e.trans h

set_option maxHeartbeats 1000000 in
theorem rcask_any {w : World} {b : Nat} {s : List UInt8} {x : Int} (h : IsRr w b s x) (q : Bool) (e : Int) :
    Calls Try.prog 57 #[.pointer (some ⟨b, 0, none⟩), .bool q, .int .i64 e] w fun r w' => r = .returned (.tuple #[]) ∧ IsRr w' b s (askX x q e) ∧ Into b w w' := by
  obtain ⟨c0, c1, f0, f1⟩ := h.reads
  have H := Lib.hid h
  clear h
  by_cases hx : x = 0
  · subst hx
    cases q with
    | true =>
      go_enter Try.func57, Try.ntmps57
      go_wp2
      go_end0
      exact ⟨rfl, by rw [ask_true]; exact H.out, Into.refl _ _⟩
    | false =>
      go_enter Try.func57, Try.ntmps57
      go_wp2
      go_end0
      exact ⟨rfl, H.out.err e, (Into.refl _ _).set _ _⟩
  · have g : (x == 0) = false := by simpa using hx
    have E : Hid (askX x q e = x) := Lib.hid (by unfold askX; rw [if_neg (fun hh => hx hh.1)])
    go_enter Try.func57, Try.ntmps57
    go_wp2
    go_end0
    exact ⟨rfl, by rw [E.out]; exact H.out, Into.refl _ _⟩

/-- What was wrong first, behind one more number. -/
def numY (x : Int) (s : List UInt8) : Int := if x = 0 then tE s else x

set_option maxHeartbeats 2000000 in
theorem rcnum_any {w : World} {b : Nat} {s : List UInt8} {x : Int} (h : IsRr w b s x) (y : Int) (hy : numY x s = y) (hs : s.length ≤ 1000000000) :
    Calls Try.prog 58 #[.pointer (some ⟨b, 0, none⟩)] w fun r w' => r = .returned (.int .i64 (if y = 0 then tN s else 0)) ∧ IsRr w' b (if y = 0 then psv s else s) y ∧ Into b w w' := by
  obtain ⟨c0, c1, f0, f1⟩ := h.reads
  by_cases hx : x = 0
  · subst hx
    rw [numY, if_pos rfl] at hy
    have HT := Lib.hid (take_any s w (by omega))
    by_cases h1 : tE s = 0
    · obtain ⟨p1, p2, _⟩ := put_take s h1
      obtain ⟨k, hk⟩ : ∃ k : Nat, tS s = (k : Int) := ⟨(tS s).toNat, by omega⟩
      have HP : Hid (psv s = s.drop k) := Lib.hid (by unfold psv; rw [hk, Int.toNat_natCast])
      rw [hk] at HT p2
      rw [h1] at HT hy
      subst hy
      have HZ := Lib.hid (bsize s)
      have x2 := ext_rest s k
      have g3 : (k : Int) ≤ (s.length : Int) := by omega
      have HA := Lib.hid (rcask_any h true 0)
      rw [ask_true] at HA
      rw [if_pos rfl, if_pos rfl, HP.out]
      generalize tN s = n at *
      clear h h1 p1 p2 hk HP
      go_enter Try.func58, Try.ntmps58
      go_wp2_with fail
      refine HT.out.mono ?_
      rintro e w' ⟨rfl, hw⟩
      obtain rfl := hw.symm
      clear hw
      go_wp2_with fail
      refine HA.out.mono ?_
      rintro e w1 ⟨rfl, hr1, hi1⟩
      obtain ⟨c0, c1, f0, f1⟩ := hr1.reads
      have HR := Lib.hid hr1
      have HI := Lib.hid hi1
      clear hr1 hi1 HA
      go_wp2
      go_ret
      exact ⟨rfl, HR.out.left _, HI.out.set _ _⟩
    · have e : y = tE s := hy.symm
      subst e
      have hs0 : tS s = 0 := by unfold tS; rw [if_neg h1]
      have hn : tN s = 0 := by unfold tN; rw [if_neg h1]
      rw [hs0, hn] at HT
      rw [if_neg h1, if_neg h1]
      have HA := Lib.hid (rcask_any h false (tE s))
      rw [show askX 0 false (tE s) = tE s from rfl] at HA
      have x2 := ext_rest s 0
      rw [List.drop_zero] at x2
      have HZ := Lib.hid (bsize s)
      generalize tE s = y at *
      have g1 : (y == 0) = false := by simpa using h1
      clear h hy hs0 hn h1
      go_enter Try.func58, Try.ntmps58
      go_wp2_with fail
      refine HT.out.mono ?_
      rintro e w' ⟨rfl, hw⟩
      obtain rfl := hw.symm
      clear hw
      go_wp2_with fail
      refine HA.out.mono ?_
      rintro e w1 ⟨rfl, hr1, hi1⟩
      obtain ⟨c0, c1, f0, f1⟩ := hr1.reads
      have HR := Lib.hid hr1
      have HI := Lib.hid hi1
      clear hr1 hi1 HA
      go_wp2
      go_ret
      exact ⟨rfl, HR.out.left _, HI.out.set _ _⟩
  · have e : y = x := by rw [← hy]; unfold numY; rw [if_neg hx]
    subst e
    have g1 : (y == 0) = false := by simpa using hx
    rw [if_neg hx, if_neg hx]
    have H := Lib.hid h
    clear h hy
    go_enter Try.func58, Try.ntmps58
    go_wp2
    go_ret
    exact ⟨rfl, H.out, Into.refl _ _⟩

set_option maxHeartbeats 1000000 in
theorem rcfitting_any {w : World} {b : Nat} {s : List UInt8} {x : Int} (h : IsRr w b s x) (k y z : Int) (hy : numY x s = y) (hz : askX y (fitK k (if y = 0 then tN s else 0)) 11 = z) (hs : s.length ≤ 1000000000) :
    Calls Try.prog 54 #[.pointer (some ⟨b, 0, none⟩), .int .i64 k] w fun r w' => r = .returned (.int .i64 (if y = 0 then tN s else 0)) ∧ IsRr w' b (if y = 0 then psv s else s) z ∧ But w.heap.size b w w' := by
  have H1 := Lib.hid (rcnum_any h y hy hs)
  have hlt := h.lt
  generalize (if y = 0 then tN s else 0) = n at H1 hz ⊢
  generalize (if y = 0 then psv s else s) = t at H1 ⊢
  obtain ⟨q, hq⟩ : ∃ q, fitK k n = q := ⟨_, rfl⟩
  rw [hq] at hz
  have H2 := Lib.hid (fun W => rcfits_any k n W q hq)
  clear h hq hy
  have HZ := Lib.hid hz
  clear hz
  go_enter Try.func54, Try.ntmps54
  go_wp2_with fail
  refine H1.out.mono ?_
  rintro e w1 ⟨rfl, hr1, hi1⟩
  go_wp2_with fail
  refine (H2.out w1).mono ?_
  rintro e w2 ⟨rfl, hb2⟩
  have hr2 := hr1.kept (hb2.block b hr1.lt)
  have H3 := Lib.hid (rcask_any hr2 q 11)
  rw [HZ.out] at H3
  have HB2 := Lib.hid (((But.into (base := w.heap.size) hi1).trans (But.of (hb2.mono (Nat.le_of_eq hi1.size.symm)))))
  clear hr1 hr2 hi1 hb2 H1 H2
  go_wp2_with fail
  refine H3.out.mono ?_
  rintro e w3 ⟨rfl, hr3, hi3⟩
  have HR := Lib.hid hr3
  have HB3 := Lib.hid (HB2.out.trans (But.into hi3))
  clear hr3 hi3
  go_wp2
  go_ret
  exact ⟨rfl, HR.out, HB3.out⟩

set_option maxHeartbeats 1000000 in
theorem rckind_nil {w : World} {b : Nat} (h : IsRr w b [] 0) :
    Calls Try.prog 52 #[.pointer (some ⟨b, 0, none⟩)] w fun r w' => r = .returned (.int .i64 0) ∧ IsRr w' b [] 4 ∧ Into b w w' := by
  obtain ⟨c0, c1, f0, f1⟩ := h.reads
  have H1 := Lib.hid (rcask_any h false 4)
  rw [show askX 0 false 4 = 4 from rfl] at H1
  clear h
  go_enter Try.func52, Try.ntmps52
  go_wp2_with fail
  refine H1.out.mono ?_
  rintro e w1 ⟨rfl, hr1, hi1⟩
  obtain ⟨c0, c1, f0, f1⟩ := hr1.reads
  have HR := Lib.hid hr1
  have HI := Lib.hid hi1
  clear hr1 hi1 H1
  go_wp2
  go_ret
  exact ⟨rfl, HR.out, HI.out⟩

set_option maxHeartbeats 1000000 in
theorem rckind_by {w : World} {b : Nat} {c : UInt8} {t : List UInt8} (h : IsRr w b (c :: t) 0) (hs : t.length ≤ 1000000000) (q : Bool) (hq : (¬ 1 ≤ (c.toNat : Int) ∧ q = false) ∨ (1 ≤ (c.toNat : Int) ∧ decide ((c.toNat : Int) ≤ 6) = q)) :
    Calls Try.prog 52 #[.pointer (some ⟨b, 0, none⟩)] w fun r w' => r = .returned (.int .i64 (c.toNat : Int)) ∧ IsRr w' b t (askX 0 q 3) ∧ Into b w w' := by
  obtain ⟨c0, c1, f0, f1⟩ := h.reads
  have H1 := Lib.hid (rcask_any h true 4)
  rw [ask_true] at H1
  have H2 := Lib.hid (fun (W : World) (hW : IsRr W b (c :: t) 0) => rcask_any hW q 3)
  have hc := c.toNat_lt
  have HZ := bsize (c :: t)
  have hb0 := byteAt (c :: t) 0 (by simp) (by rw [HZ]; simp)
  rw [List.getElem_cons_zero] at hb0
  have x1 := ext_rest (c :: t) 1
  rw [show (c :: t).drop 1 = t from rfl, List.length_cons] at x1
  clear h
  rcases hq with ⟨g1, rfl⟩ | ⟨g1, g2⟩
  all_goals
    go_enter Try.func52, Try.ntmps52
    go_wp2_with fail
    refine H1.out.mono ?_
    rintro e w1 ⟨rfl, hr1, hi1⟩
    obtain ⟨c0, c1, f0, f1⟩ := hr1.reads
    have H3 := Lib.hid (H2.out w1 hr1)
    have HI := Lib.hid hi1
    clear hr1 hi1 H1 H2
    go_wp2_with fail
    refine H3.out.mono ?_
    rintro e w2 ⟨rfl, hr2, hi2⟩
    obtain ⟨c0, c1, f0, f1⟩ := hr2.reads
    have HR := Lib.hid hr2
    have HI2 := Lib.hid (HI.out.trans hi2)
    clear hr2 hi2 H3
    go_wp2
    go_ret
    exact ⟨rfl, HR.out.left _, HI2.out.set _ _⟩
theorem rckind_cons {w : World} {b : Nat} {c : UInt8} {t : List UInt8} (h : IsRr w b (c :: t) 0) (hs : t.length ≤ 1000000000) :
    Calls Try.prog 52 #[.pointer (some ⟨b, 0, none⟩)] w fun r w' => r = .returned (.int .i64 (c.toNat : Int)) ∧ IsRr w' b t (if 1 ≤ (c.toNat : Int) ∧ (c.toNat : Int) ≤ 6 then 0 else 3) ∧ Into b w w' := by
  by_cases g1 : 1 ≤ (c.toNat : Int)
  · have H := rckind_by h hs (decide ((c.toNat : Int) ≤ 6)) (.inr ⟨g1, rfl⟩)
    by_cases g2 : (c.toNat : Int) ≤ 6
    · rw [if_pos ⟨g1, g2⟩]
      rw [decide_eq_true g2] at H
      exact H
    · rw [if_neg (fun g => g2 g.2)]
      rw [decide_eq_false g2] at H
      exact H
  · have H := rckind_by h hs false (.inl ⟨g1, rfl⟩)
    rw [if_neg (fun g => g1 g.1)]
    exact H
end Go.Proofs.Ytjmaccflnfaiiaa
