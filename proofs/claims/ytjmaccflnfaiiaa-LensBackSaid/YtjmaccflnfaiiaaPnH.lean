/-
  The document's Whole, walked.
-/
import Derived.Test.YtjmaccflnfaiiaaPnY
import Derived.Test.YtjmaccflnfaiiaaBn7
import Derived.Test.YtjmaccflnfaiiaaBn14
set_option linter.unusedSimpArgs false
set_option linter.unusedVariables false
namespace Go.Proofs.Ytjmaccflnfaiiaa
open Go.RowKit

theorem RecAt.take {w : World} {a : Option Addr} {rs : List Rv} (h : RecAt w a rs) (k : Nat) : RecAt w a (rs.take k) := by
  rcases h with h | ⟨b, off, ha, hc⟩
  · exact .inl (by rw [List.length_take]; omega)
  · refine .inr ⟨b, off, ha, fun i x hx => hc i x ?_⟩
    rw [List.getElem?_take] at hx
    split at hx
    · exact hx
    · cases hx
/-- The certificate. -/
noncomputable def whB (w : World) (f : List UInt8) (rs : List Rv) : List UInt8 := if whE (rvOk w) rs = 0 then hcB f ++ tdL (rvB w) (mgAll rs) else []
theorem whB_bad {w : World} {f : List UInt8} {rs : List Rv} {x : Int} (h : whE (rvOk w) rs = x) (hx : x ≠ 0) : whB w f rs = [] := if_neg (by rw [h]; exact hx)
theorem whB_good {w : World} {f : List UInt8} {rs : List Rv} (h : whE (rvOk w) rs = 0) : whB w f rs = hcB f ++ tdL (rvB w) (mgAll rs) := if_pos h
theorem wh_stop {ok : Rv → Bool} {rs : List Rv} {x : Int} (h : mayS ok [] rs = x) (hx : x ≠ 0) : whE ok rs = x := by unfold whE; rw [h, if_neg hx]
theorem wh_end {ok : Rv → Bool} {rs : List Rv} (h : mayS ok [] rs = 0) : (lastK rs ≠ 6 → whE ok rs = 19) ∧ (lastK rs = 6 → whE ok rs = 0) := by
  unfold whE
  rw [if_pos h]
  exact ⟨fun h => if_neg h, fun h => if_pos h⟩
/-- Whole's answer. -/
def RetWh (w : World) (f : List UInt8) (rs : List Rv) (W : World) (e : Ending) (W' : World) : Prop := e = .returned (.tuple #[.string ⟨(whB w f rs).toArray⟩, .int .i64 (whE (rvOk w) rs)]) ∧ Below W.heap.size W W'
theorem td_few {w : World} {rs : List Rv} (hf : Fits w rs) (hm : rs.length ≤ 1000) : (tdL (rvB w) (mgAll rs)).length ≤ 3000000 := by
  have h1 := td_len (bt := rvB w) (n := 3000) (mgAll rs) (fun x hx => (hf.all x hx).2.1)
  have h2 := mga_len rs
  have : 3000 * (mgAll rs).length ≤ 3000 * 1000 := Nat.mul_le_mul_left _ (by omega)
  omega

set_option maxRecDepth 100000 in
set_option maxHeartbeats 4000000 in
theorem rpnwhole_any {w W : World} (hwW : Below w.heap.size w W) {rs : List Rv} {a : Option Addr} {m ca : Nat} (hm : rs.length = m) (hml : m ≤ 1000) (hmc : m ≤ ca) (ha : RecAt W a rs) (hf : Fits w rs) (f : List UInt8) (hfl : f.length ≤ 1000) :
    Calls Try.prog 20 #[.string ⟨f.toArray⟩, .slice a m ca] W (RetWh w f rs W) := by
  have he := hcE_ok f (by omega)
  have hbl := hcB_length f he
  have HP : Hid (Calls Try.prog 34 #[.string ⟨f.toArray⟩] W fun e W' => e = .returned (.tuple #[.string ⟨(hcP f).toArray⟩, .int .i64 (hcE f)]) ∧ Below W.heap.size W W') := Lib.hid (rhdput_any f W (by omega))
  rw [he, hcP_ok f he] at HP
  have HTL := td_few hf (by omega)
  have HT := Lib.hid (fun (V : World) (hV : Below W.heap.size W V) => rpntold_any (w := w) (W := V) (hwW.trans (hV.mono hwW.size)) (ca := ca) hm hml (ha.below hV) hf)
  have HM := Lib.hid (fun (V : World) (hV : Below W.heap.size W V) (k : Nat) (hk : k ≤ m) (x : Rv) (hx : x ∈ rs) => rpnmay_any (w := w) (W := V) (rs := rs.take k) (a := a) (m := k) (ca := ca) (by rw [List.length_take]; omega) (by omega) ((ha.below hV).take k) (k := x.k) (n := x.n) (r := x.r) (ra := x.a) (L := x.len) (c := x.cap) (by have := (hf x hx).2; omega) (rvi_row (hf x hx).1).1 ((rvi_row (hf x hx).1).2.below (hwW.trans (hV.mono hwW.size))))
  have HB0 : Hid (∀ x, whE (rvOk w) rs = x → x ≠ 0 → whB w f rs = []) := Lib.hid (fun x h hx => whB_bad h hx)
  have HB1 : Hid (whE (rvOk w) rs = 0 → whB w f rs = hcB f ++ tdL (rvB w) (mgAll rs)) := Lib.hid whB_good
  have HSt : Hid (∀ x, mayS (rvOk w) [] rs = x → x ≠ 0 → whE (rvOk w) rs = x) := Lib.hid (fun x h hx => wh_stop h hx)
  have HEn := Lib.hid (fun h => wh_end (ok := rvOk w) (rs := rs) h)
  have HNx := Lib.hid (fun (k : Nat) x hx h => mayS_next (ok := rvOk w) (l := rs) (x := x) (i := k) hx h)
  have HA := Lib.hid ha
  have HR := Lib.hid hm
  have hadd := pn_app (hcB f) (tdL (rvB w) (mgAll rs))
  delta RetWh
  generalize whB w f rs = S at *
  generalize whE (rvOk w) rs = E at *
  generalize hcB f = B at *
  generalize tdL (rvB w) (mgAll rs) = D at *
  have S1 := Lib.hid (bsize B)
  have S2 := Lib.hid (bsize D)
  have z1 : ¬ 9223372036854775807 < B.length + D.length := by omega
  clear he ha hf hwW hm hbl hfl HTL
  go_enter Try.func20, Try.ntmps20
  go_wp2_with fail
  refine HP.out.mono ?_
  rintro e W1 ⟨rfl, hb1⟩
  have HW1 := Lib.hid hb1
  clear HP hb1
  go_wp2
  go_loopw [8] (fun i wr => ∃ k : Nat, k ≤ m ∧ i = .int .i64 (k : Int) ∧ Hid (mayS (rvOk w) [] (rs.take k) = 0) ∧ Below W1.heap.size W1 wr) (fun i _ => m - (RowKit.intOf i).toNat)
  case atStart => exact ⟨0, Nat.zero_le _, rfl, Lib.hid rfl, Below.refl _ _⟩
  case round =>
    obtain ⟨k, hk, rfl, HK, hbr⟩ := hrel
    have HBr := Lib.hid (HW1.out.trans (hbr.mono HW1.out.size))
    have HBw := Lib.hid hbr
    by_cases hlt : k < m
    · obtain ⟨b1, off1, x, rfl, hx, c0, c1, c2, c3⟩ := (HA.out.below HBr.out).get (i := k) (by rw [HR.out]; exact hlt)
      have hxm := List.mem_of_getElem? hx
      obtain ⟨n1, n2⟩ := HNx.out k x hx HK.out
      have G1 := regrown_at (w := wr) (fun V hV => HM.out V (HBr.out.trans (hV.mono HBr.out.size)) k (by omega) x hxm)
      obtain ⟨xk, xn, xr, xa, xl, xc⟩ := x
      dsimp only at c0 c1 c2 c3 G1 n1 n2
      have m0 := cell_regrown c0
      have m1 := cell_regrown c1
      have m2 := cell_regrown c2
      have m3 := cell_regrown c3
      have N1 := Lib.hid n1
      have N2 := Lib.hid n2
      generalize mayE (rvOk w) (rs.take k) ⟨xk, xn, xr, xa, xl, xc⟩ = y at G1 N1 N2
      have u0 : (0 : Int) ≤ (k : Int) := by omega
      have u1 : (k : Int) < (m : Int) := by omega
      have u2 : k ≤ ca := by omega
      have u3 : (k : Int) ≤ (ca : Int) := by omega
      clear hx hxm n1 n2 hbr c0 c1 c2 c3
      by_cases hy : y = 0
      · subst hy
        have HS := Lib.hid (N1.out rfl)
        clear N1 N2
        go_wp2_with fail
        refine wp_region_quiet_below follows_mixed (by kernel_rfl) ?_
        repeat (go_big_quiet_step (first | with_reducible exact G1 _ _))
        refine wpQuiet_nil ?_
        intro W6 hw6
        obtain ⟨⟨dq, osq⟩, rfl⟩ := hw6
        have b6 := below_regrown wr dq osq
        generalize Go.Sort.grow (redrawn wr dq) osq = w6 at b6 ⊢
        have HB6 := Lib.hid (HBr.out.trans (b6.mono HBr.out.size))
        have HB61 := Lib.hid (HBw.out.trans (b6.mono HBw.out.size))
        clear b6 G1 m0 m1 m2 m3 HM HT
        go_wp2
        exact ⟨⟨k + 1, by omega, by go_num, HS, HB61.out⟩, by simp [RowKit.intOf]; omega⟩
      · have HE := Lib.hid (HSt.out y (N2.out hy) hy)
        have HS := Lib.hid (HB0.out y HE.out hy)
        have gy : (y == 0) = false := by simpa using hy
        clear N1 N2 hy HSt HB0 HB1 HEn HNx HM HT
        go_wp2_with fail
        refine wp_region_quiet_below follows_mixed (by kernel_rfl) ?_
        repeat (go_big_quiet_step (first | with_reducible exact G1 _ _))
        refine wpQuiet_nil ?_
        intro W6 hw6
        obtain ⟨⟨dq, osq⟩, rfl⟩ := hw6
        have b6 := below_regrown wr dq osq
        generalize Go.Sort.grow (redrawn wr dq) osq = w6 at b6 ⊢
        have HB6 := Lib.hid (HBr.out.trans (b6.mono HBr.out.size))
        clear b6 G1 m0 m1 m2 m3
        go_wp2
        go_ret2
        exact ⟨by rw [HS.out, HE.out]; rfl, HB6.out⟩
    · obtain rfl : k = m := by omega
      have u1 : ¬ (k : Int) < (k : Int) := by omega
      have hall : mayS (rvOk w) [] rs = 0 := by
        have h := HK.out
        rw [List.take_of_length_le (by rw [HR.out]; exact Nat.le_refl _)] at h
        exact h
      obtain ⟨e1, e2⟩ := HEn.out hall
      have HTr := Lib.hid (HT.out wr HBr.out)
      have HAr := Lib.hid (HA.out.below HBr.out)
      clear hall HSt HNx HM HT HK hbr HEn
      rcases Nat.eq_zero_or_pos k with h0 | h0
      · subst h0
        have h00 : rs = [] := List.eq_nil_of_length_eq_zero HR.out
        have HE := Lib.hid (e1 (by rw [h00, lastK_nil]; decide))
        have HS := Lib.hid (HB0.out 19 HE.out (by decide))
        clear e1 e2 HB0 HB1 HTr HAr
        go_wp2
        go_ret2
        exact ⟨by rw [HS.out, HE.out]; rfl, HBr.out⟩
      · obtain ⟨p, rfl⟩ : ∃ p, k = p + 1 := ⟨k - 1, by omega⟩
        obtain ⟨b1, off1, ⟨yk, yn, yr, ya, yl, yc⟩, rfl, hy, y0, y1, y2, y3⟩ := HAr.out.get (i := p) (by rw [HR.out]; omega)
        dsimp only at y0 y1 y2 y3
        have ek : lastK rs = yk := by
          unfold lastK
          rw [List.getLast?_eq_getElem?, show rs.length - 1 = p by rw [HR.out]; omega, hy]
        rw [ek] at e1 e2
        have v0 : (0 : Int) ≤ (p : Int) := by omega
        have v1 : (p : Int) < (p : Int) + 1 := by omega
        have v2 : (p : Int) ≤ 1000000 := by omega
        clear hy ek y1 y2 y3 h0
        by_cases h6 : yk = 6
        · subst h6
          have HE := Lib.hid (e2 rfl)
          have HS := Lib.hid (HB1.out HE.out)
          clear e1 e2 HB0 HB1
          go_wp2_with fail
          refine HTr.out.mono ?_
          rintro e W7 ⟨rfl, hb7⟩
          have HB7 := Lib.hid (HBr.out.trans (hb7.mono HBr.out.size))
          clear hb7 HTr
          go_wp2
          go_ret2
          exact ⟨by rw [HS.out, HE.out]; rfl, HB7.out⟩
        · have g6 : (yk == 6) = false := by simpa using h6
          have g7 : (yk != 6) = true := by simpa using h6
          have HE := Lib.hid (e1 h6)
          have HS := Lib.hid (HB0.out 19 HE.out (by decide))
          clear e1 e2 HB0 HB1 HTr
          go_wp2
          go_ret2
          exact ⟨by rw [HS.out, HE.out]; rfl, HBr.out⟩
end Go.Proofs.Ytjmaccflnfaiiaa
