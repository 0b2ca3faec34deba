/-
  Texts put together: PnY, FrRb, HdRp, PnH, Wst, LpK.
-/
import Derived.Test.YtlfofdgeaigpbaaBn9
import Derived.Test.YtlfofdgeaigpbaaFrRp
import Derived.Test.YtlfofdgeaigpbaaBn1
import Derived.Test.YtlfofdgeaigpbaaBn11
import Derived.Test.YtlfofdgeaigpbaaBn10
import Derived.Test.YtlfofdgeaigpbaaBn4
import Derived.Test.YtlfofdgeaigpbaaBn6
set_option linter.unusedSimpArgs false
set_option linter.unusedVariables false
namespace Go.Proofs.Ytlfofdgeaigpbaa
open Go.RowKit

set_option maxRecDepth 100000 in
set_option maxHeartbeats 2000000 in
theorem rpnmay_any {w W : World} {rs : List Rv} {a : Option Addr} {m ca : Nat} (hm : rs.length = m) (hml : m ≤ 1000000) (ha : RecAt W a rs) {k n r : Int} {ra : Option Addr} {L c : Nat} (hl : L ≤ 1000000)
    (h1 : (rvI w ⟨k, n, r, ra, L, c⟩).length = L) (h2 : IsRow .i64 W ra L L (rvI w ⟨k, n, r, ra, L, c⟩)) :
    Calls Try.prog 10 #[.slice a m ca, .agg #[.int .i64 k, .int .i64 n, .int .i64 r, .slice ra L c]] W fun e W' => e = .returned (.int .i64 (mayE (rvOk w) rs ⟨k, n, r, ra, L, c⟩)) ∧ Below W.heap.size W W' := by
  have hX := heap_alloc_new W (.cells #[.int .i64 k, .int .i64 n, .int .i64 r, .slice ra L c] 34)
  have hB := (Below.refl W.heap.size W).alloc (Nat.le_refl _) (.cells #[.int .i64 k, .int .i64 n, .int .i64 r, .slice ra L c] 34)
  obtain ⟨W1, hW1⟩ : ∃ W1, W.alloc (.cells #[.int .i64 k, .int .i64 n, .int .i64 r, .slice ra L c] 34) = W1 := ⟨_, rfl⟩
  rw [hW1] at hX hB
  obtain ⟨c0, c1, c2, c3⟩ := rec_reads hX
  have HC := Lib.hid (pn_rcheck (W := W1) hl h1 (h2.below hB))
  have HX := Lib.hid hX
  have HB := Lib.hid hB
  have hA := ha.below hB
  have HM := Lib.hid (fun e => may_end (ok := rvOk w) (l := rs) (x := ⟨k, n, r, ra, L, c⟩) e)
  have HM2 := Lib.hid (fun e f => may_bad (ok := rvOk w) (l := rs) (x := ⟨k, n, r, ra, L, c⟩) e f)
  have HM3 := Lib.hid (fun e f g => may_order (ok := rvOk w) (l := rs) (x := ⟨k, n, r, ra, L, c⟩) e f g)
  have HM4 := Lib.hid (fun e f g => may_ok (ok := rvOk w) (l := rs) (x := ⟨k, n, r, ra, L, c⟩) e f g)
  generalize mayE (rvOk w) rs ⟨k, n, r, ra, L, c⟩ = E at HM HM2 HM3 HM4 ⊢
  dsimp only at HM3 HM4
  generalize rvOk w ⟨k, n, r, ra, L, c⟩ = q at HC HM2 HM3 HM4
  clear hX hB h1 h2 ha hl
  rcases Nat.eq_zero_or_pos m with h0 | h0
  · subst h0
    obtain rfl : rs = [] := List.eq_nil_of_length_eq_zero hm
    have e6 : lastK ([] : List Rv) ≠ 6 := by rw [lastK_nil]; decide
    clear hA
    cases q with
    | false =>
      have HE := Lib.hid (HM2.out e6 rfl)
      clear HM HM2 HM3 HM4
      go_enter Try.func10, Try.ntmps10
      go_wp2_with fail
      try rw [hW1]
      refine HC.out.mono ?_
      rintro e W2 ⟨rfl, hb⟩
      have HB2 := Lib.hid (HB.out.trans (hb.mono HB.out.size))
      have hX2 := (hb.block _ (heap_lt HX.out)).trans HX.out
      skip
      obtain ⟨d0, d1, d2, d3⟩ := rec_reads hX2
      clear HC hb hX2 c0 c1 c2 c3 hW1
      go_wp2
      go_ret
      exact ⟨by rw [HE.out]; rfl, HB2.out⟩
    | true =>
      by_cases h5 : k = 5
      · subst h5
        have HE := Lib.hid (HM3.out e6 rfl ⟨rfl, .inl rfl⟩)
        clear HM HM2 HM3 HM4
        go_enter Try.func10, Try.ntmps10
        go_wp2_with fail
        try rw [hW1]
        refine HC.out.mono ?_
        rintro e W2 ⟨rfl, hb⟩
        have HB2 := Lib.hid (HB.out.trans (hb.mono HB.out.size))
        have hX2 := (hb.block _ (heap_lt HX.out)).trans HX.out
        skip
        obtain ⟨d0, d1, d2, d3⟩ := rec_reads hX2
        clear HC hb hX2 c0 c1 c2 c3 hW1
        go_wp2
        go_ret
        exact ⟨by rw [HE.out]; rfl, HB2.out⟩
      · have HE := Lib.hid (HM4.out e6 rfl (fun h => h5 h.1))
        have g5 : (k == 5) = false := by simpa using h5
        clear HM HM2 HM3 HM4 h5
        go_enter Try.func10, Try.ntmps10
        go_wp2_with fail
        try rw [hW1]
        refine HC.out.mono ?_
        rintro e W2 ⟨rfl, hb⟩
        have HB2 := Lib.hid (HB.out.trans (hb.mono HB.out.size))
        have hX2 := (hb.block _ (heap_lt HX.out)).trans HX.out
        skip
        obtain ⟨d0, d1, d2, d3⟩ := rec_reads hX2
        clear HC hb hX2 c0 c1 c2 c3 hW1
        go_wp2
        go_ret
        exact ⟨by rw [HE.out]; rfl, HB2.out⟩
  · obtain ⟨p, rfl⟩ : ∃ p, m = p + 1 := ⟨m - 1, by omega⟩
    obtain ⟨b1, off1, ⟨yk, yn, yr, ya, yl, yc⟩, rfl, hy, y0, y1, y2, y3⟩ := hA.get (i := p) (by omega)
    dsimp only at y0 y1 y2 y3
    have ek : lastK rs = yk := by
      unfold lastK
      rw [List.getLast?_eq_getElem?, show rs.length - 1 = p by omega, hy]
    rw [ek] at HM HM2 HM3 HM4
    have u0 : (0 : Int) ≤ (p : Int) := by omega
    have u1 : (p : Int) < (p : Int) + 1 := by omega
    have u2 : (p : Int) ≤ 1000000 := by omega
    have u3 : rs.length ≠ 0 := by omega
    have HA := Lib.hid hA
    clear hA hy ek y1 y2 y3 h0 hm
    by_cases h6 : yk = 6
    · subst h6
      have HE := Lib.hid (HM.out rfl)
      clear HM HM2 HM3 HM4 HC
      go_enter Try.func10, Try.ntmps10
      go_wp2_with fail
      try rw [hW1]
      go_wp2
      go_ret
      exact ⟨by rw [HE.out]; rfl, HB.out⟩
    · have g6 : (yk == 6) = false := by simpa using h6
      cases q with
      | false =>
        have HE := Lib.hid (HM2.out h6 rfl)
        clear HM HM2 HM3 HM4 h6
        go_enter Try.func10, Try.ntmps10
        go_wp2_with fail
        try rw [hW1]
        refine HC.out.mono ?_
        rintro e W2 ⟨rfl, hb⟩
        have HB2 := Lib.hid (HB.out.trans (hb.mono HB.out.size))
        have hX2 := (hb.block _ (heap_lt HX.out)).trans HX.out
        have e0 := cells_below y0 hb
        obtain ⟨d0, d1, d2, d3⟩ := rec_reads hX2
        clear HC hb hX2 c0 c1 c2 c3 hW1
        go_wp2
        go_ret
        exact ⟨by rw [HE.out]; rfl, HB2.out⟩
      | true =>
        by_cases h5 : k = 5
        · subst h5
          by_cases h7 : yk = 5
          · subst h7
            have HE := Lib.hid (HM3.out h6 rfl ⟨rfl, .inr rfl⟩)
            clear HM HM2 HM3 HM4 h6
            go_enter Try.func10, Try.ntmps10
            go_wp2_with fail
            try rw [hW1]
            refine HC.out.mono ?_
            rintro e W2 ⟨rfl, hb⟩
            have HB2 := Lib.hid (HB.out.trans (hb.mono HB.out.size))
            have hX2 := (hb.block _ (heap_lt HX.out)).trans HX.out
            have e0 := cells_below y0 hb
            obtain ⟨d0, d1, d2, d3⟩ := rec_reads hX2
            clear HC hb hX2 c0 c1 c2 c3 hW1
            go_wp2
            go_ret
            exact ⟨by rw [HE.out]; rfl, HB2.out⟩
          · have HE := Lib.hid (HM4.out h6 rfl (fun h => h.2.elim u3 h7))
            have g7 : (yk == 5) = false := by simpa using h7
            clear HM HM2 HM3 HM4 h6 h7
            go_enter Try.func10, Try.ntmps10
            go_wp2_with fail
            try rw [hW1]
            refine HC.out.mono ?_
            rintro e W2 ⟨rfl, hb⟩
            have HB2 := Lib.hid (HB.out.trans (hb.mono HB.out.size))
            have hX2 := (hb.block _ (heap_lt HX.out)).trans HX.out
            have e0 := cells_below y0 hb
            obtain ⟨d0, d1, d2, d3⟩ := rec_reads hX2
            clear HC hb hX2 c0 c1 c2 c3 hW1
            go_wp2
            go_ret
            exact ⟨by rw [HE.out]; rfl, HB2.out⟩
        · have HE := Lib.hid (HM4.out h6 rfl (fun h => h5 h.1))
          have g5 : (k == 5) = false := by simpa using h5
          clear HM HM2 HM3 HM4 h5 h6
          go_enter Try.func10, Try.ntmps10
          go_wp2_with fail
          try rw [hW1]
          refine HC.out.mono ?_
          rintro e W2 ⟨rfl, hb⟩
          have HB2 := Lib.hid (HB.out.trans (hb.mono HB.out.size))
          have hX2 := (hb.block _ (heap_lt HX.out)).trans HX.out
          have e0 := cells_below y0 hb
          obtain ⟨d0, d1, d2, d3⟩ := rec_reads hX2
          clear HC hb hX2 c0 c1 c2 c3 hW1
          go_wp2
          go_ret
          exact ⟨by rw [HE.out]; rfl, HB2.out⟩
end Go.Proofs.Ytlfofdgeaigpbaa

namespace Go.Proofs.Ytlfofdgeaigpbaa
open Go.RowKit


set_option maxHeartbeats 1000000 in
theorem rfrput_bad (f : Fr) (w : World) (hs : f.2.size ≤ 9223372036854775807) (he : frE f ≠ 0) :
    Calls Try.prog 18 #[.agg #[.int .i64 f.1, .string f.2]] w fun e w' => e = .returned (.tuple #[.string ⟨(putB f).toArray⟩, .int .i64 (frE f)]) ∧ Below w.heap.size w w' := by
  have hp : Hid (putB f = []) := Lib.hid (by unfold putB; rw [if_neg he])
  by_cases h0 : f.1 < 1
  · have hx := Lib.hid (frE_low f h0)
    obtain ⟨k, d⟩ := f
    simp only at h0 hs ⊢
    clear he
    go_enter Try.func18, Try.ntmps18
    go_wp2
    go_ret2
    exact ⟨by rw [hx.out, hp.out]; rfl, (Below.refl _ _).alloc (Nat.le_refl _) _⟩
  by_cases h1 : 127 < f.1
  · have hx := Lib.hid (frE_high f h0 h1)
    obtain ⟨k, d⟩ := f
    simp only at h0 h1 hs ⊢
    clear he
    go_enter Try.func18, Try.ntmps18
    go_wp2
    go_ret2
    exact ⟨by rw [hx.out, hp.out]; rfl, (Below.refl _ _).alloc (Nat.le_refl _) _⟩
  by_cases h2 : 67108864 < f.2.size
  · have hx := Lib.hid (frE_long f h0 h1 h2)
    obtain ⟨k, d⟩ := f
    simp only at h0 h1 h2 hs ⊢
    have hd : decide (127 < k) = false := by simp; omega
    clear he
    go_enter Try.func18, Try.ntmps18
    go_wp2
    go_ret2
    exact ⟨by rw [hx.out, hp.out]; rfl, (Below.refl _ _).alloc (Nat.le_refl _) _⟩
  · exact absurd (frE_ok f h0 h1 h2) he

theorem rfrput_any (f : Fr) (w : World) (hs : f.2.size ≤ 9223372036854775807) :
    Calls Try.prog 18 #[.agg #[.int .i64 f.1, .string f.2]] w fun e w' => e = .returned (.tuple #[.string ⟨(putB f).toArray⟩, .int .i64 (frE f)]) ∧ Below w.heap.size w w' := by
  by_cases he : frE f = 0
  · have hp : putB f = frB f := by unfold putB; rw [if_pos he]
    rw [hp, he]
    exact rfrput_ok f w he
  · exact rfrput_bad f w hs he

end Go.Proofs.Ytlfofdgeaigpbaa

namespace Go.Proofs.Ytlfofdgeaigpbaa
open Go.RowKit


theorem rhd_frame (l : List UInt8) (w : World) (hs : l.length ≤ 1000000000) :
    Calls Try.prog 18 #[.agg #[.int .i64 1, .string ⟨l.toArray⟩]] w fun e w' => e = .returned (.tuple #[.string ⟨(putB (hcF l)).toArray⟩, .int .i64 (hcE l)]) ∧ Below w.heap.size w w' :=
  rfrput_any (hcF l) w (by show l.length ≤ 9223372036854775807; omega)

set_option maxHeartbeats 1000000 in
theorem rhdput_any (l : List UInt8) (w : World) (hs : l.length ≤ 1000000000) : Calls Try.prog 8 #[.string ⟨l.toArray⟩] w (RetHp l w) := by
  have HF := Lib.hid (rhd_frame l w hs)
  by_cases he : hcE l = 0
  · have hp := hcP_ok l he
    have hlen := hcB_length l he
    unfold hcB at hp hlen
    rw [show putB (hcF l) = frB (hcF l) from if_pos he, he] at HF
    delta RetHp
    rw [hp, he]
    have hadd := hd_plus (frB (hcF l))
    rw [List.length_append, show hcM.length = 5 from rfl] at hlen
    generalize frB (hcF l) = t at *
    have hz : (⟨t.toArray⟩ : ByteArray).size = t.length := bsize t
    clear he hp
    go_enter Try.func8, Try.ntmps8
    go_wp2_with fail
    refine HF.out.mono ?_
    rintro e w1 ⟨rfl, hb1⟩
    go_wp2
    go_ret2
    exact ⟨rfl, hb1⟩
  · have hp := hcP_bad l he
    rw [show putB (hcF l) = [] from if_neg he] at HF
    delta RetHp
    rw [hp]
    have he' : (hcE l == 0) = false := by simpa using he
    generalize hcE l = x at *
    clear hp
    go_enter Try.func8, Try.ntmps8
    go_wp2_with fail
    refine HF.out.mono ?_
    rintro e w1 ⟨rfl, hb1⟩
    go_wp2
    go_ret2
    exact ⟨rfl, hb1⟩

end Go.Proofs.Ytlfofdgeaigpbaa

namespace Go.Proofs.Ytlfofdgeaigpbaa
open Go.RowKit

theorem RecAt.take {w : World} {a : Option Addr} {rs : List Rv} (h : RecAt w a rs) (k : Nat) : RecAt w a (rs.take k) := by
  rcases h with h | ⟨b, off, ha, hc⟩
  · exact .inl (by rw [List.length_take]; omega)
  · refine .inr ⟨b, off, ha, fun i x hx => hc i x ?_⟩
    rw [List.getElem?_take] at hx
    split at hx
    · exact hx
    · cases hx
/-- The certificate. -/
noncomputable def whB (w : World) (f : List UInt8) (rs : List Rv) : List UInt8 := if whE (rvOk w) rs = 0 then hcB f ++ tdL (rvB w) (mgAll rs) else []
theorem whB_bad {w : World} {f : List UInt8} {rs : List Rv} {x : Int} (h : whE (rvOk w) rs = x) (hx : x ≠ 0) : whB w f rs = [] := if_neg (by rw [h]; exact hx)
theorem whB_good {w : World} {f : List UInt8} {rs : List Rv} (h : whE (rvOk w) rs = 0) : whB w f rs = hcB f ++ tdL (rvB w) (mgAll rs) := if_pos h
theorem wh_stop {ok : Rv → Bool} {rs : List Rv} {x : Int} (h : mayS ok [] rs = x) (hx : x ≠ 0) : whE ok rs = x := by unfold whE; rw [h, if_neg hx]
theorem wh_end {ok : Rv → Bool} {rs : List Rv} (h : mayS ok [] rs = 0) : (lastK rs ≠ 6 → whE ok rs = 19) ∧ (lastK rs = 6 → whE ok rs = 0) := by
  unfold whE
  rw [if_pos h]
  exact ⟨fun h => if_neg h, fun h => if_pos h⟩
/-- Whole's answer. -/
def RetWh (w : World) (f : List UInt8) (rs : List Rv) (W : World) (e : Ending) (W' : World) : Prop := e = .returned (.tuple #[.string ⟨(whB w f rs).toArray⟩, .int .i64 (whE (rvOk w) rs)]) ∧ Below W.heap.size W W'
theorem td_few {w : World} {rs : List Rv} (hf : Fits w rs) (hm : rs.length ≤ 1000) : (tdL (rvB w) (mgAll rs)).length ≤ 300000 := by
  have h1 := td_len (bt := rvB w) (n := 300) (mgAll rs) (fun x hx => (hf.all x hx).2.1)
  have h2 := mga_len rs
  have : 300 * (mgAll rs).length ≤ 300 * 1000 := Nat.mul_le_mul_left _ (by omega)
  omega

set_option maxRecDepth 100000 in
set_option maxHeartbeats 4000000 in
theorem rpnwhole_any {w W : World} (hwW : Below w.heap.size w W) {rs : List Rv} {a : Option Addr} {m ca : Nat} (hm : rs.length = m) (hml : m ≤ 1000) (hmc : m ≤ ca) (ha : RecAt W a rs) (hf : Fits w rs) (f : List UInt8) (hfl : f.length ≤ 1000) :
    Calls Try.prog 15 #[.string ⟨f.toArray⟩, .slice a m ca] W (RetWh w f rs W) := by
  have he := hcE_ok f (by omega)
  have hbl := hcB_length f he
  have HP : Hid (Calls Try.prog 8 #[.string ⟨f.toArray⟩] W fun e W' => e = .returned (.tuple #[.string ⟨(hcP f).toArray⟩, .int .i64 (hcE f)]) ∧ Below W.heap.size W W') := Lib.hid (rhdput_any f W (by omega))
  rw [he, hcP_ok f he] at HP
  have HTL := td_few hf (by omega)
  have HT := Lib.hid (fun (V : World) (hV : Below W.heap.size W V) => rpntold_any (w := w) (W := V) (hwW.trans (hV.mono hwW.size)) (ca := ca) hm hml (ha.below hV) hf)
  have HM := Lib.hid (fun (V : World) (hV : Below W.heap.size W V) (k : Nat) (hk : k ≤ m) (x : Rv) (hx : x ∈ rs) => rpnmay_any (w := w) (W := V) (rs := rs.take k) (a := a) (m := k) (ca := ca) (by rw [List.length_take]; omega) (by omega) ((ha.below hV).take k) (k := x.k) (n := x.n) (r := x.r) (ra := x.a) (L := x.len) (c := x.cap) (by have := (hf x hx).2; omega) (rvi_row (hf x hx).1).1 ((rvi_row (hf x hx).1).2.below (hwW.trans (hV.mono hwW.size))))
  have HB0 : Hid (∀ x, whE (rvOk w) rs = x → x ≠ 0 → whB w f rs = []) := Lib.hid (fun x h hx => whB_bad h hx)
  have HB1 : Hid (whE (rvOk w) rs = 0 → whB w f rs = hcB f ++ tdL (rvB w) (mgAll rs)) := Lib.hid whB_good
  have HSt : Hid (∀ x, mayS (rvOk w) [] rs = x → x ≠ 0 → whE (rvOk w) rs = x) := Lib.hid (fun x h hx => wh_stop h hx)
  have HEn := Lib.hid (fun h => wh_end (ok := rvOk w) (rs := rs) h)
  have HNx := Lib.hid (fun (k : Nat) x hx h => mayS_next (ok := rvOk w) (l := rs) (x := x) (i := k) hx h)
  have HA := Lib.hid ha
  have HR := Lib.hid hm
  have hadd := pn_app (hcB f) (tdL (rvB w) (mgAll rs))
  delta RetWh
  generalize whB w f rs = S at *
  generalize whE (rvOk w) rs = E at *
  generalize hcB f = B at *
  generalize tdL (rvB w) (mgAll rs) = D at *
  have S1 := Lib.hid (bsize B)
  have S2 := Lib.hid (bsize D)
  have z1 : ¬ 9223372036854775807 < B.length + D.length := by omega
  clear he ha hf hwW hm hbl hfl HTL
  go_enter Try.func15, Try.ntmps15
  go_wp2_with fail
  refine HP.out.mono ?_
  rintro e W1 ⟨rfl, hb1⟩
  have HW1 := Lib.hid hb1
  clear HP hb1
  go_wp2
  go_loopw [8] (fun i wr => ∃ k : Nat, k ≤ m ∧ i = .int .i64 (k : Int) ∧ Hid (mayS (rvOk w) [] (rs.take k) = 0) ∧ Below W1.heap.size W1 wr) (fun i _ => m - (RowKit.intOf i).toNat)
  case atStart => exact ⟨0, Nat.zero_le _, rfl, Lib.hid rfl, Below.refl _ _⟩
  case round =>
    obtain ⟨k, hk, rfl, HK, hbr⟩ := hrel
    have HBr := Lib.hid (HW1.out.trans (hbr.mono HW1.out.size))
    have HBw := Lib.hid hbr
    by_cases hlt : k < m
    · obtain ⟨b1, off1, x, rfl, hx, c0, c1, c2, c3⟩ := (HA.out.below HBr.out).get (i := k) (by rw [HR.out]; exact hlt)
      have hxm := List.mem_of_getElem? hx
      obtain ⟨n1, n2⟩ := HNx.out k x hx HK.out
      have G1 := regrown_at (w := wr) (fun V hV => HM.out V (HBr.out.trans (hV.mono HBr.out.size)) k (by omega) x hxm)
      obtain ⟨xk, xn, xr, xa, xl, xc⟩ := x
      dsimp only at c0 c1 c2 c3 G1 n1 n2
      have m0 := cell_regrown c0
      have m1 := cell_regrown c1
      have m2 := cell_regrown c2
      have m3 := cell_regrown c3
      have N1 := Lib.hid n1
      have N2 := Lib.hid n2
      generalize mayE (rvOk w) (rs.take k) ⟨xk, xn, xr, xa, xl, xc⟩ = y at G1 N1 N2
      have u0 : (0 : Int) ≤ (k : Int) := by omega
      have u1 : (k : Int) < (m : Int) := by omega
      have u2 : k ≤ ca := by omega
      have u3 : (k : Int) ≤ (ca : Int) := by omega
      clear hx hxm n1 n2 hbr c0 c1 c2 c3
      by_cases hy : y = 0
      · subst hy
        have HS := Lib.hid (N1.out rfl)
        clear N1 N2
        go_wp2_with fail
        refine wp_region_quiet_below follows_mixed (by kernel_rfl) ?_
        repeat (go_big_quiet_step (first | with_reducible exact G1 _ _))
        refine wpQuiet_nil ?_
        intro W6 hw6
        obtain ⟨⟨dq, osq⟩, rfl⟩ := hw6
        have b6 := below_regrown wr dq osq
        generalize Go.Sort.grow (redrawn wr dq) osq = w6 at b6 ⊢
        have HB6 := Lib.hid (HBr.out.trans (b6.mono HBr.out.size))
        have HB61 := Lib.hid (HBw.out.trans (b6.mono HBw.out.size))
        clear b6 G1 m0 m1 m2 m3 HM HT
        go_wp2
        exact ⟨⟨k + 1, by omega, by go_num, HS, HB61.out⟩, by simp [RowKit.intOf]; omega⟩
      · have HE := Lib.hid (HSt.out y (N2.out hy) hy)
        have HS := Lib.hid (HB0.out y HE.out hy)
        have gy : (y == 0) = false := by simpa using hy
        clear N1 N2 hy HSt HB0 HB1 HEn HNx HM HT
        go_wp2_with fail
        refine wp_region_quiet_below follows_mixed (by kernel_rfl) ?_
        repeat (go_big_quiet_step (first | with_reducible exact G1 _ _))
        refine wpQuiet_nil ?_
        intro W6 hw6
        obtain ⟨⟨dq, osq⟩, rfl⟩ := hw6
        have b6 := below_regrown wr dq osq
        generalize Go.Sort.grow (redrawn wr dq) osq = w6 at b6 ⊢
        have HB6 := Lib.hid (HBr.out.trans (b6.mono HBr.out.size))
        clear b6 G1 m0 m1 m2 m3
        go_wp2
        go_ret2
        exact ⟨by rw [HS.out, HE.out]; rfl, HB6.out⟩
    · obtain rfl : k = m := by omega
      have u1 : ¬ (k : Int) < (k : Int) := by omega
      have hall : mayS (rvOk w) [] rs = 0 := by
        have h := HK.out
        rw [List.take_of_length_le (by rw [HR.out]; exact Nat.le_refl _)] at h
        exact h
      obtain ⟨e1, e2⟩ := HEn.out hall
      have HTr := Lib.hid (HT.out wr HBr.out)
      have HAr := Lib.hid (HA.out.below HBr.out)
      clear hall HSt HNx HM HT HK hbr HEn
      rcases Nat.eq_zero_or_pos k with h0 | h0
      · subst h0
        have h00 : rs = [] := List.eq_nil_of_length_eq_zero HR.out
        have HE := Lib.hid (e1 (by rw [h00, lastK_nil]; decide))
        have HS := Lib.hid (HB0.out 19 HE.out (by decide))
        clear e1 e2 HB0 HB1 HTr HAr
        go_wp2
        go_ret2
        exact ⟨by rw [HS.out, HE.out]; rfl, HBr.out⟩
      · obtain ⟨p, rfl⟩ : ∃ p, k = p + 1 := ⟨k - 1, by omega⟩
        obtain ⟨b1, off1, ⟨yk, yn, yr, ya, yl, yc⟩, rfl, hy, y0, y1, y2, y3⟩ := HAr.out.get (i := p) (by rw [HR.out]; omega)
        dsimp only at y0 y1 y2 y3
        have ek : lastK rs = yk := by
          unfold lastK
          rw [List.getLast?_eq_getElem?, show rs.length - 1 = p by rw [HR.out]; omega, hy]
        rw [ek] at e1 e2
        have v0 : (0 : Int) ≤ (p : Int) := by omega
        have v1 : (p : Int) < (p : Int) + 1 := by omega
        have v2 : (p : Int) ≤ 1000000 := by omega
        clear hy ek y1 y2 y3 h0
        by_cases h6 : yk = 6
        · subst h6
          have HE := Lib.hid (e2 rfl)
          have HS := Lib.hid (HB1.out HE.out)
          clear e1 e2 HB0 HB1
          go_wp2_with fail
          refine HTr.out.mono ?_
          rintro e W7 ⟨rfl, hb7⟩
          have HB7 := Lib.hid (HBr.out.trans (hb7.mono HBr.out.size))
          clear hb7 HTr
          go_wp2
          go_ret2
          exact ⟨by rw [HS.out, HE.out]; rfl, HB7.out⟩
        · have g6 : (yk == 6) = false := by simpa using h6
          have g7 : (yk != 6) = true := by simpa using h6
          have HE := Lib.hid (e1 h6)
          have HS := Lib.hid (HB0.out 19 HE.out (by decide))
          clear e1 e2 HB0 HB1 HTr
          go_wp2
          go_ret2
          exact ⟨by rw [HS.out, HE.out]; rfl, HBr.out⟩
end Go.Proofs.Ytlfofdgeaigpbaa

namespace Go.Proofs.Ytlfofdgeaigpbaa
open Go.RowKit

theorem cells_app (a b : List UInt8) : Lib.byteCells a ++ Lib.strCells ⟨b.toArray⟩ = Lib.byteCells (a ++ b) := by
  simp [Lib.byteCells, Lib.strCells]

/-- WriteString, by bytes. -/
theorem wstr (B b : Nat) (l s : List UInt8) (w : World) (h : Lib.IsBuilder 57 5 B b (Lib.byteCells l) w) (hlen : l.length + s.length ≤ 1000000000) (hBw : B ≤ w.heap.size) :
    Calls Try.prog 25 #[.pointer (some ⟨b, 0, none⟩), .string ⟨s.toArray⟩] w fun e w' => (∃ n : Int, e = .returned (.tuple #[.int .i64 n, .nilIface])) ∧ (Lib.IsBuilder 57 5 B b (Lib.byteCells (l ++ s)) w' ∧ Below B w w' ∧ Kept b 5 w w') := by
  refine (writeStringK B b _ _ w h (by rw [Lib.byteCells_length, bsize]; omega) hBw).mono ?_
  rintro e w' ⟨rfl, h1, h2⟩
  rw [cells_app] at h1
  exact ⟨⟨_, rfl⟩, .inr h1, h2⟩

theorem own_kept {w w' : World} {base b : Nat} {e E : TypeId} {v : Value} {n : Nat} {xs : List Value} (h : w.ownsRow base e 1 v n xs) (hk : Kept b E w w') (hT : e ≠ E) (hb : b < base) : w'.ownsRow base e 1 v n xs := by
  obtain ⟨h1, h2 | ⟨g, cap, cur, hv, hg, hh, h3⟩⟩ := h
  · exact ⟨h1, .inl h2⟩
  · exact ⟨h1, .inr ⟨g, cap, cur, hv, hg, hk g _ _ _ (by omega) hT hh, h3⟩⟩

theorem row_cell {w : World} {base : Nat} {e : TypeId} {g n cap k : Nat} {zs : List Int} {x : Int} (h : w.ownsRow base e 1 (.slice (some ⟨g, 0, none⟩) n cap) n (inCells zs)) (hz : zs[k]? = some x) : w.cell? ⟨g, k, none⟩ = some (.int .i64 x) := by
  have hc := h.cells (g := g) rfl k (.int .i64 x) (by unfold inCells; rw [List.getElem?_map, hz]; rfl)
  rwa [addPlain, Nat.zero_add] at hc
theorem own_formI {w : World} {base : Nat} {e : TypeId} {v : Value} {n : Nat} {xs : List Value} (h : w.ownsRow base e 1 v n xs) (hn : 1 ≤ n) : ∃ g cap, v = .slice (some ⟨g, 0, none⟩) n cap := by
  obtain ⟨_, ⟨_, h1⟩ | ⟨g, cap, cur, hv, _⟩⟩ := h
  · omega
  · exact ⟨g, cap, hv⟩

/-- Two numbers, in one block of their own. -/
theorem bkrow2 (w : World) (x y : Int) (T : TypeId) : IsRow .i64 (w.alloc (.cells #[.int .i64 x, .int .i64 y] T)) (some ⟨w.heap.size, 0, none⟩) 2 2 [x, y] := by
  refine .inr ⟨w.heap.size, 0, rfl, by omega, by unfold maxLen; omega, rfl, fun i hi => ?_⟩
  rw [Nat.zero_add, World.cell?_alloc_new]
  match i, hi with
  | 0, _ => rfl
  | 1, _ => rfl

end Go.Proofs.Ytlfofdgeaigpbaa

namespace Go.Proofs.Ytlfofdgeaigpbaa
open Go.RowKit

theorem Keep.kept {T U e : TypeId} {b : Nat} {w w' : World} (h : Kept b e w w') {ds : Array Value} {n : Nat × Nat} (hb : w.heap[b]? = some (.cells ds U n)) (hT : T ≠ U) (he : T ≠ e) : Keep T w w' := fun i cs m hh =>
  h i cs T m (type_ne hh hb hT) he hh
end Go.Proofs.Ytlfofdgeaigpbaa
